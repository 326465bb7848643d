/-
  wire: what stands between the commas of a text, as strings.SplitSeq tells it piece by piece. · wire: strings.SplitSeq's iterator at a comma: each piece is told, one behind the other, until a round says that no more is wanted. · wire: a loop over the pieces that strings.SplitSeq tells, which may return out of a round; what is left of it is a mark among the activation's deferred calls. · wire: closes, of whatever headers.
-/
import Derived.Test.YtnodhbgkoedalaaGreatDoorQW16
import Derived.RangeFuncNested
import Derived.RangeFuncBound
import Derived.RangeFuncCalls
import Derived.RangeFuncLeaves
import Derived.Shelf.Abstract
import Derived.Shelf.RegionOpen
import Derived.WalkKit
import Derived.OwnWalkIn
import Derived.TacticsInMore
import Derived.LoopNIn
import Derived.LoopIn
namespace Go.Proofs.YtnodhbgkoedalaaGreatDoor
open Go.RowKit Go.Shelf Reply
attribute [local go_sem] Oper.semAt_some

theorem pieces_ne (l : Reply.B) : ∃ p ps, Wire.pieces l = p :: ps := by
  cases l with
  | nil => exact ⟨_, _, rfl⟩
  | cons c l =>
    unfold Wire.pieces
    split
    · exact ⟨_, _, rfl⟩
    · cases Wire.pieces l <;> exact ⟨_, _, rfl⟩
theorem pieces_miss : ∀ {l : Reply.B}, Lib.indexByte l 44 < 0 → Wire.pieces l = [l]
  | [], _ => rfl
  | c :: l, h => by
    unfold Lib.indexByte at h
    unfold Wire.pieces
    by_cases e : c = 44
    · rw [e] at h; simp at h
    · rw [if_neg e]
      have := pieces_miss (l := l) (by
        simp only [beq_iff_eq, e, if_false] at h
        split at h <;> omega)
      rw [this]
theorem pieces_hit : ∀ {l : Reply.B} {i : Nat}, Lib.indexByte l 44 = (i : Int) → i < l.length ∧ Wire.pieces l = l.take i :: Wire.pieces (l.drop (i + 1))
  | [], i, h => by simp [Lib.indexByte] at h
  | c :: l, i, h => by
    unfold Lib.indexByte at h
    by_cases e : c = 44
    · rw [e] at h
      simp at h
      have : i = 0 := by omega
      subst this
      refine ⟨by simp, ?_⟩
      rw [e]
      rfl
    · simp only [beq_iff_eq, e, if_false] at h
      obtain ⟨j, rfl⟩ : ∃ j, i = j + 1 := ⟨i - 1, by split at h <;> omega⟩
      obtain ⟨a, b⟩ := pieces_hit (l := l) (i := j) (by split at h <;> omega)
      refine ⟨by simp; omega, ?_⟩
      show (if c = 44 then _ else _) = _
      rw [if_neg e, b]
      rfl
end Go.Proofs.YtnodhbgkoedalaaGreatDoor

namespace Go.Proofs.YtnodhbgkoedalaaGreatDoor
open Go.RowKit Go.Shelf Reply
attribute [local go_sem] Oper.semAt_some

/-- How much is left in the iterator's own variable. -/
def remM (w : World) (b : Nat) : Nat := match w.cell? ⟨b, 0, none⟩ with
  | some (.string s) => s.size
  | _ => 0
theorem remM_is {w : World} {b : Nat} {s : ByteArray} (h : w.cell? ⟨b, 0, none⟩ = some (.string s)) : remM w b = s.size := by unfold remM; rw [h]
set_option maxRecDepth 100000 in
set_option maxHeartbeats 8000000 in
theorem split_in (l b1 b2 b3 : Nat) (v : Reply.B) (hv : v.length ≤ 1073741824) (J Jx : List Reply.B → World → Prop)
    (hJs : ∀ pre W s, J pre W → J pre (W.setCell ⟨b2, 0, none⟩ (.string s)))
    (hBox : ∀ pre W, J pre W → W.cell? ⟨b1, 0, none⟩ = some (.string ⟨#[44]⟩) ∧ W.cell? ⟨b3, 0, none⟩ = some (.int .i64 0) ∧ W.frozen? ⟨b2, 0, none⟩ = false)
    (hY : ∀ pre x W1, J pre W1 → x.length ≤ v.length → YieldAt Fence.wide 0 Tryz.prog l #[.string (S x)] W1 fun e W' => (e = .returned (.bool true) ∧ J (pre ++ [x]) W' ∧ W'.cell? ⟨b2, 0, none⟩ = W1.cell? ⟨b2, 0, none⟩) ∨ (e = .returned (.bool false) ∧ Jx (pre ++ [x]) W'))
    (W : World) (h0 : J [] W) (hs : W.cell? ⟨b2, 0, none⟩ = some (.string (S v))) :
    CallsIn Fence.wide 0 Tryz.prog 97 #[.func (.yield l) #[] #[], .pointer (some ⟨b1, 0, none⟩), .pointer (some ⟨b2, 0, none⟩), .pointer (some ⟨b3, 0, none⟩)] W fun e W' => (∃ v, e = .returned v) ∧ (J (Wire.pieces v) W' ∨ ∃ pre, pre <+: Wire.pieces v ∧ Jx pre W') := by
  have HV := Lib.hid hv
  obtain ⟨hb1, hb3, hf2⟩ := hBox [] W h0
  refine callsIn_of_wp Tryz.func97 rfl trivial ?_ rfl
  simp only [Tryz.ntmps97, List.size_toArray, List.length_cons, List.length_nil, Nat.reduceAdd, Nat.reduceSub, Array.replicate_succ, Array.replicate_zero, List.push_toArray, List.append_toArray, List.nil_append, List.cons_append]
  gi_wp2
  gi_loopw [7] (fun _ wr => ∃ (pre : List Reply.B) (r : Reply.B), Wire.pieces v = pre ++ Wire.pieces r ∧ r.length ≤ v.length ∧ J pre wr ∧ wr.cell? ⟨b2, 0, none⟩ = some (.string (S r))) (fun _ wr => remM wr b2)
  case atStart => exact ⟨[], v, rfl, Nat.le_refl _, h0, hs⟩
  case round =>
    obtain ⟨pre, r, hp, hrl, hJ, hr⟩ := hrel
    obtain ⟨hc1, hc3, hfz⟩ := hBox pre wr hJ
    have IX : Hid (Calls Tryz.prog 62 #[.string (S r), .string ⟨#[44]⟩] wr fun e w' => e = .returned (.int .i64 (Lib.indexByte r 44)) ∧ w' = wr) := Tryz.strings_Index_one (S r) 44 wr
    obtain ⟨q, hq⟩ : ∃ q, q = Lib.indexByte r 44 := ⟨_, rfl⟩
    rw [← hq] at IX
    obtain ⟨rs, hrs⟩ : ∃ x, x = S r := ⟨_, rfl⟩
    rw [← hrs] at IX hr
    have RS := Lib.hid hrs
    have HQ := Lib.hid hq
    have HP := Lib.hid hp
    have HRL := Lib.hid hrl
    have rsz : rs.size ≤ 1073741824 := by rw [hrs, S_size]; have := HV.out; omega
    by_cases hneg : q < 0
    · have PM := pieces_miss (l := r) (by rw [← hq]; exact hneg)
      have hp2 : Wire.pieces v = pre ++ [r] := by rw [hp, PM]
      obtain ⟨fn, tmps, assign, body, hy, hR⟩ := hY pre r wr hJ hrl
      rw [← hrs] at hy
      have f0 : decide (q < 0) = true := decide_eq_true hneg
      have HP2 := Lib.hid hp2
      clear hrs hq hp hrl PM hp2 hY hJs hBox
      gi_wp2_with fail
      refine ⟨trivial, rfl, (callsIn_wide.2 IX.out).mono ?_⟩
      rintro e w' ⟨rfl, rfl⟩
      gi_wp2_with fail
      refine ⟨rfl, hR.mono ?_⟩
      rintro e W' (⟨rfl, hJ', hk⟩ | ⟨rfl, hJx'⟩)
      · gi_wp2
        go_end0
        exact ⟨⟨_, rfl⟩, .inl (by rw [HP2.out]; exact hJ')⟩
      · gi_wp2
        go_end0
        exact ⟨⟨_, rfl⟩, .inr ⟨_, by rw [HP2.out]; exact List.prefix_refl _, hJx'⟩⟩
    · obtain ⟨i, rfl⟩ : ∃ i : Nat, q = (i : Int) := ⟨q.toNat, by omega⟩
      obtain ⟨il, PH⟩ := pieces_hit (l := r) (i := i) hq.symm
      have hp2 : Wire.pieces v = pre ++ [r.take i] ++ Wire.pieces (r.drop (i + 1)) := by rw [hp, PH, List.append_assoc]; rfl
      have ils : i < rs.size := by rw [hrs, S_size]; exact il
      have X1 : rs.extract 0 i = S (r.take i) := by rw [hrs, S_extract]; simp
      have X2 : rs.extract (i + 1) rs.size = S (r.drop (i + 1)) := by rw [hrs, S_size, S_extract, List.take_of_length_le (by rw [List.length_drop]; exact Nat.le_refl _)]
      obtain ⟨fn, tmps, assign, body, hy, hR⟩ := hY pre (r.take i) wr hJ (by rw [List.length_take]; omega)
      have ilz : (i : Int) ≤ (rs.size : Int) := by omega
      have ilz1 : (i : Int) + 1 ≤ (rs.size : Int) := by omega
      have iln : i ≤ rs.size := by omega
      have iln1 : i + 1 ≤ rs.size := by omega
      have ib : (i : Int) < 1073741824 := by omega
      have f0 : decide ((i : Int) < 0) = false := decide_eq_false (by omega)
      have HP2 := Lib.hid hp2
      have DL : Hid ((r.drop (i + 1)).length ≤ v.length) := by show _ ≤ _; rw [List.length_drop]; omega
      have M1 : Hid ((S (r.drop (i + 1))).size < rs.size) := by show _ < _; rw [S_size, List.length_drop, hrs, S_size]; omega
      have R0 := Lib.hid (remM_is hr)
      clear hrs hq hp hrl PH hp2 hY il
      gi_wp2_with fail
      refine ⟨trivial, rfl, (callsIn_wide.2 IX.out).mono ?_⟩
      rintro e w' ⟨rfl, rfl⟩
      gi_wp2_with fail
      refine ⟨rfl, hR.mono ?_⟩
      rintro e W' (⟨rfl, hJ', hk⟩ | ⟨rfl, hJx'⟩)
      · have hr' : W'.cell? ⟨b2, 0, none⟩ = some (.string rs) := hk.trans hr
        obtain ⟨hc1', hc3', hfz'⟩ := hBox _ W' hJ'
        have NJ := Lib.hid (hJs _ W' (S (r.drop (i + 1))) hJ')
        have NC : Hid ((W'.setCell ⟨b2, 0, none⟩ (.string (S (r.drop (i + 1))))).cell? ⟨b2, 0, none⟩ = some (.string (S (r.drop (i + 1))))) := World.cell?_setCell_same' _ _ _ (by rw [hr']; rfl)
        clear hJ' hk hJs hBox
        gi_wp2
        go_roundw
        case rel => exact ⟨pre ++ [r.take i], r.drop (i + 1), HP2.out, DL.out, NJ.out, NC.out⟩
        case measure => rw [R0.out, remM_is NC.out]; exact M1.out
      · gi_wp2
        refine bodyPost_ret (results_none rfl _ _ _) rfl ?_
        exact ⟨⟨_, rfl⟩, .inr ⟨_, by rw [HP2.out]; exact List.prefix_append _ _, hJx'⟩⟩
end Go.Proofs.YtnodhbgkoedalaaGreatDoor

namespace Go.Proofs.YtnodhbgkoedalaaGreatDoor
open Go.RowKit Go.Shelf Reply

/-- How a round of the loop may be left: on it goes, or the function returns. -/
def afterRound (D b2 : Nat) (I Ix : List Reply.B → World → Prop) (xs : List Reply.B) (W : World) : Exit → Act → World → Prop
  | .normal, _, W' => KeepsFrom D W W' ∧ W'.cell? ⟨b2, 0, none⟩ = W.cell? ⟨b2, 0, none⟩ ∧ I xs W'
  | .ret, _, W' => KeepsFrom D W W' ∧ Ix xs W'
  | _, _, _ => False
/-- The mark that such a loop leaves. -/
def markOf (r : Nat) : Deferred := { target := .collected r, args := #[] }
theorem cell_put {W : World} {l b : Nat} (o : Obj) (h : b ≠ l) : (W.putObj l o).cell? ⟨b, 0, none⟩ = W.cell? ⟨b, 0, none⟩ := World.cell?_of_block (World.putObj_heap_other h)
set_option maxHeartbeats 2000000 in
theorem range_split {g : Operand} {ps : Array Tmp} {assign body : Code} {Q : Exit → Act → World → Prop} {a : Act} {w : World} {b1 b2 b3 : Nat} {v : Reply.B} (hv : v.length ≤ 1073741824)
    (hg : a.eval g = .func (.func 97) #[] #[.pointer (some ⟨b1, 0, none⟩), .pointer (some ⟨b2, 0, none⟩), .pointer (some ⟨b3, 0, none⟩)])
    (hlt : b2 < w.heap.size) (hc : w.cell? ⟨b2, 0, none⟩ = some (.string (S v))) (hps : ps.size = 1)
    (I Ix : List Reply.B → World → Prop)
    (hIs : ∀ pre W s, I pre W → I pre (W.setCell ⟨b2, 0, none⟩ (.string s)))
    (hIb : ∀ pre W, I pre W → W.cell? ⟨b1, 0, none⟩ = some (.string ⟨#[44]⟩) ∧ W.cell? ⟨b3, 0, none⟩ = some (.int .i64 0) ∧ W.frozen? ⟨b2, 0, none⟩ = false)
    (hIa : ∀ W o, I [] W → I [] (W.alloc o))
    (hIp : ∀ pre W l o o', w.heap.size ≤ l → W.heap[l]? = some o → o.isCells = false → I pre W → I pre (W.putObj l o'))
    (hXp : ∀ pre W l o o', w.heap.size ≤ l → W.heap[l]? = some o → o.isCells = false → Ix pre W → Ix pre (W.putObj l o'))
    (h0 : I [] w) (a₁ : Reply.B → Act)
    (hassign : ∀ (l : Nat) (x : Reply.B) (W : World) (K : Act → World → Prop), K (a₁ x) W → assign.wpIn (Fence.wide.inRound l) 0 Tryz.prog (Exit.then K (fun _ _ _ => False)) { tmps := (ps.zip #[.string (S x)]).foldl (fun t (p, v) => t.setIfInBounds p v) a.tmps, defers := [] } W)
    (hbody : ∀ (l : Nat) (pre : List Reply.B) (x : Reply.B) (W : World), I pre W → x.length ≤ v.length → body.wpIn (Fence.wide.inRound l) 0 Tryz.prog (afterRound w.heap.size b2 I Ix (pre ++ [x]) W) (a₁ x) W)
    (hdone : ∀ W, I (Wire.pieces v) W → W.heap[w.heap.size]? = some (.deferred (some [])) → Q .normal { a with defers := markOf w.heap.size :: a.defers } W)
    (hstop : ∀ pre W, pre <+: Wire.pieces v → Ix pre W → W.heap[w.heap.size]? = some (.deferred (some [])) → Code.ret.wpIn Fence.wide 0 Tryz.prog Q { a with defers := markOf w.heap.size :: a.defers } W) :
    (Code.rangeFunc g ps assign body).wpIn Fence.wide 0 Tryz.prog Q a w := by
  refine wpIn_rangeFunc (fun fn hfn => ?_)
  -- the loop's record, by its state and the jump that is pending
  obtain ⟨rc, hrc⟩ : ∃ rc : LoopState → Option Code → Loop, rc = fun st pe => { state := st, pending := pe, fn := fn, tmps := a.tmps, params := ps, assign := assign, body := body, defers := w.heap.size } := ⟨_, rfl⟩
  obtain ⟨L, hL⟩ : ∃ L, L = w.heap.size + 1 := ⟨_, rfl⟩
  obtain ⟨W1, hW1⟩ : ∃ W1, W1 = (w.alloc (.deferred (some []))).alloc (.loop (rc .ready none)) := ⟨_, rfl⟩
  have hl1 : W1.heap[L]? = some (.loop (rc .ready none)) := by
    have e := World.alloc_heap_new (w.alloc (.deferred (some []))) (.loop (rc .ready none))
    rw [World.size_alloc, ← hL, ← hW1] at e
    exact e
  have hd1 : W1.heap[w.heap.size]? = some (.deferred (some [])) := by
    rw [hW1]
    exact (Below.heap_alloc _ _ _ (by simp)).trans (World.alloc_heap_new w _)
  have hi1 : I [] W1 := by rw [hW1]; exact hIa _ _ (hIa _ _ h0)
  have hc1 : W1.cell? ⟨b2, 0, none⟩ = some (.string (S v)) := by
    rw [hW1]
    exact (World.cell?_of_block ((Below.heap_alloc _ _ b2 (by simp; omega)).trans (Below.heap_alloc _ _ b2 hlt))).trans hc
  -- between two rounds, and where a round has returned
  have SP := split_in L b1 b2 b3 v hv
    (fun pre W => I pre W ∧ W.heap[L]? = some (.loop (rc .ready none)) ∧ W.heap[w.heap.size]? = some (.deferred (some [])))
    (fun pre W => Ix pre W ∧ W.heap[L]? = some (.loop (rc .done (some .ret))) ∧ W.heap[w.heap.size]? = some (.deferred (some [])))
    (fun pre W s ⟨x, y, z⟩ => ⟨hIs pre W s x, (Below.heap_setCell W ⟨b2, 0, none⟩ _ L (by show L ≠ b2; omega)).trans y, (Below.heap_setCell W ⟨b2, 0, none⟩ _ _ (by show w.heap.size ≠ b2; omega)).trans z⟩)
    (fun pre W ⟨x, _, _⟩ => hIb pre W x)
  refine ⟨L, [markOf w.heap.size], W1, { target := .fn (.func 97) #[.pointer (some ⟨b1, 0, none⟩), .pointer (some ⟨b2, 0, none⟩), .pointer (some ⟨b3, 0, none⟩)], args := #[.func (.yield L) #[] #[]] }, W1, 97,
    #[.func (.yield L) #[] #[], .pointer (some ⟨b1, 0, none⟩), .pointer (some ⟨b2, 0, none⟩), .pointer (some ⟨b3, 0, none⟩)], W1, ?_, ?_, ?_, ?_, (fun h => by cases h), ?_⟩
  · rw [hW1, hrc, hL]
    exact run_enterLoop_outer _ _ _ _ _
  · simp only [resolve, hg]
    simp [go_sem]
  · intro f' _
    trivial
  · simp [invoke, go_sem]
  · refine (SP ?_ W1 ⟨hi1, hl1, hd1⟩ hc1).mono ?_
    · rintro pre x W ⟨hi, hl, hk⟩ hxl
      have llt : L < W.heap.size := (Array.getElem?_eq_some_iff.1 hl).1
      have hy := run_yield (P := Tryz.prog) (args := #[.string (S x)]) hl (by rw [hrc]; exact hps.symm)
      rw [hrc] at hy
      refine ⟨fn, _, assign, body, hy, roundIn_of_wpIn hfn (hassign L x W _ ?_)⟩
      clear hy
      refine ⟨_, run_beginRound hl (by rw [hrc]), ?_⟩
      obtain ⟨W2, hW2⟩ : ∃ W2, W2 = W.putObj L (.loop { rc .ready none with state := .busy }) := ⟨_, rfl⟩
      rw [← hW2]
      have hl2 : W2.heap[L]? = some (.loop { rc .ready none with state := .busy }) := by rw [hW2]; exact World.putObj_heap_same llt
      have hk2 : W2.heap[w.heap.size]? = some (.deferred (some [])) := by rw [hW2]; exact (World.putObj_heap_other (by omega)).trans hk
      have hi2 : I pre W2 := by rw [hW2]; exact hIp pre W L _ _ (by omega) hl rfl hi
      have hx2 : W2.cell? ⟨b2, 0, none⟩ = W.cell? ⟨b2, 0, none⟩ := by rw [hW2]; exact cell_put _ (by omega)
      refine wpIn_mono (hbody L pre x W2 hi2 hxl) ?_
      have fin : ∀ (j : Option Code) (W3 : World), KeepsFrom w.heap.size W2 W3 →
          (Instr.endRound L j).run Tryz.prog W3 = .ok (.bool j.isNone) (W3.putObj L (.loop (rc (if j.isNone then .ready else .done) j))) ∧ W3.heap[L]? = some (.loop { rc .ready none with state := .busy }) ∧
          (W3.putObj L (.loop (rc (if j.isNone then .ready else .done) j))).heap[L]? = some (.loop (rc (if j.isNone then .ready else .done) j)) ∧ (W3.putObj L (.loop (rc (if j.isNone then .ready else .done) j))).heap[w.heap.size]? = some (.deferred (some [])) := fun j W3 k3 => by
        have l3 := k3.same L _ (by omega) hl2 rfl
        have e := run_endRound (P := Tryz.prog) j l3
        refine ⟨?_, l3, World.putObj_heap_same (Array.getElem?_eq_some_iff.1 l3).1, (World.putObj_heap_other (by omega)).trans (k3.same _ _ (Nat.le_refl _) hk2 rfl)⟩
        rw [hrc] at e ⊢
        exact e
      rintro e a3 W3 hp
      cases e with
      | normal =>
        obtain ⟨k3, c3, i3⟩ := hp
        obtain ⟨r, l3, l4, d4⟩ := fin none W3 k3
        exact ⟨_, _, r, .inl ⟨rfl, ⟨hIp _ W3 L _ _ (by omega) l3 rfl i3, l4, d4⟩, (cell_put _ (by omega)).trans (c3.trans hx2)⟩⟩
      | ret =>
        obtain ⟨k3, i3⟩ := hp
        obtain ⟨r, l3, l4, d4⟩ := fin (some .ret) W3 k3
        exact ⟨_, _, r, .inr ⟨rfl, hXp _ W3 L _ _ (by omega) l3 rfl i3, l4, d4⟩⟩
      | exit _ => exact hp.elim
      | goto _ => exact hp.elim
      | panic _ => exact hp.elim
      | outgrown => exact hp.elim
    · rintro e W2 ⟨⟨x, rfl⟩, ⟨i, l, d⟩ | ⟨pre, hpre, i, l, d⟩⟩
      · have e := run_endLoop (P := Tryz.prog) l (by rw [hrc]; simp)
        rw [hrc] at e
        exact ⟨none, _, e, hdone _ (hIp _ W2 L _ _ (by omega) l rfl i) ((World.putObj_heap_other (by omega)).trans d)⟩
      · have e := run_endLoop (P := Tryz.prog) l (by rw [hrc]; simp)
        rw [hrc] at e
        exact ⟨some .ret, _, e, hstop pre _ hpre (hXp _ W2 L _ _ (by omega) l rfl i) ((World.putObj_heap_other (by omega)).trans d)⟩
/-- The marks' blocks are shut, and nothing else has turned. -/
structure Shutd (rs : List Nat) (W W' : World) : Prop where
  os : W'.os = W.os
  tape : W'.tape = W.tape
  output : W'.output = W.output
  size : W'.heap.size = W.heap.size
  block : ∀ k, k ∉ rs → W'.heap[k]? = W.heap[k]?
theorem leaves_marks {fn : Func} {tmps : Array Value} {R : Ending → World → Prop} : ∀ (rs : List Nat) (W : World), rs.Nodup → (∀ r ∈ rs, W.heap[r]? = some (.deferred (some []))) →
    (∀ W', Shutd rs W W' → ∃ x, (results fn tmps).run Tryz.prog W' = .ok x W' ∧ R (.returned x) W') → LeavesInM Fence.wide 0 Tryz.prog fn tmps R (rs.map markOf) .returning W
  | [], W, _, _, h => h W ⟨rfl, rfl, rfl, rfl, fun _ _ => rfl⟩
  | r :: rs, W, hn, hm, h => by
    obtain ⟨hr, hn'⟩ := List.nodup_cons.1 hn
    refine ⟨by simp, .inl ⟨r, _, rfl, run_takeDeferred (hm r (by simp)), ?_⟩⟩
    refine leaves_marks rs _ hn' (fun x hx => ?_) (fun W' s => h W' ⟨s.os, s.tape, s.output, s.size.trans World.putObj_size, fun k hk => ?_⟩)
    · exact (World.putObj_heap_other (fun e => hr (by rw [← e]; exact hx))).trans (hm x (List.mem_cons_of_mem _ hx))
    · rw [List.mem_cons, not_or] at hk
      exact (s.block k hk.2).trans (World.putObj_heap_other hk.1)
set_option maxRecDepth 100000 in
theorem splitseq_any (w : World) (x : Reply.B) :
    Calls Tryz.prog 65 #[.string (S x), .string ⟨#[44]⟩] w fun e w' => e = .returned (.func (.func 97) #[] #[.pointer (some ⟨w.heap.size + 1, 0, none⟩), .pointer (some ⟨w.heap.size, 0, none⟩), .pointer (some ⟨w.heap.size + 1 + 1, 0, none⟩)]) ∧
      w' = ((w.alloc (.cells #[.string (S x)] 9)).alloc (.cells #[.string ⟨#[44]⟩] 9)).alloc (.cells #[.int .i64 0] 3) := by
  obtain ⟨s, hs⟩ : ∃ s, s = S x := ⟨_, rfl⟩
  rw [← hs]
  clear hs
  go_enter Tryz.func65, Tryz.ntmps65
  go_wp2
  go_ret
  exact ⟨rfl, rfl⟩
end Go.Proofs.YtnodhbgkoedalaaGreatDoor

namespace Go.Proofs.YtnodhbgkoedalaaGreatDoor
open Go.RowKit Go.Shelf Reply
attribute [local go_sem] Oper.semAt_some

/-- Blocks below B are as they were, but N and q; q holds this. -/
structure FrQ (B N q : Nat) (x : Bool) (w w' : World) : Prop where
  os : w'.os = w.os
  tape : w'.tape = w.tape
  output : w'.output = w.output
  size : w.heap.size ≤ w'.heap.size
  block : ∀ k, k < B → k ≠ N → k ≠ q → w'.heap[k]? = w.heap[k]?
  held : Held w' q 4 #[.bool x]
theorem FrQ.put {B N q : Nat} {x : Bool} {w a : World} (h : FrQ B N q x w a) {l : Nat} (hl : B ≤ l) (hq : q < B) (o : Obj) : FrQ B N q x w (a.putObj l o) :=
  ⟨h.os, h.tape, h.output, by rw [World.putObj_size]; exact h.size, fun k hk hn h2 => (World.putObj_heap_other (by omega)).trans (h.block k hk hn h2), (World.putObj_heap_other (by omega)).trans h.held⟩
theorem Fr.put {B N : Nat} {w a : World} (h : Fr B N w a) {l : Nat} (hl : B ≤ l) (o : Obj) : Fr B N w (a.putObj l o) :=
  ⟨h.os, h.tape, h.output, by rw [World.putObj_size]; exact h.size, fun k hk hn => (World.putObj_heap_other (by omega)).trans (h.block k hk hn)⟩
/-- None of the first k values closes. -/
def NoneOf (vs : List Reply.B) (k : Nat) : Prop := ∀ v ∈ vs.take k, (Wire.pieces v).any Wire.isClose = false
theorem NoneOf.next {vs : List Reply.B} {k : Nat} (h : NoneOf vs k) (hk : k < vs.length) (hc : (Wire.pieces (vs.getD k [])).any Wire.isClose = false) : NoneOf vs (k + 1) := fun v hv => by
  rw [List.take_add_one, List.getElem?_eq_getElem hk] at hv
  rcases List.mem_append.1 hv with hv | hv
  · exact h v hv
  · have : v = vs[k] := by simpa using hv
    rw [this, ← show vs.getD k [] = vs[k] by rw [List.getD_eq_getElem?_getD, List.getElem?_eq_getElem hk]; rfl]
    exact hc
theorem closes_is (hs : List (Reply.B × Reply.B)) : Wire.closes hs = (Wire.values hs Reply.nCo).any fun v => (Wire.pieces v).any Wire.isClose := rfl
set_option maxRecDepth 100000 in
set_option maxHeartbeats 16000000 in
theorem closes_any (hs : List (Reply.B × Reply.B)) (hl : hs.length ≤ 32) (hb : ∀ x ∈ hs, x.2.length ≤ 1048576) : ClosesC hs := by
  intro w0 Bn w p ty z s A c h e
  rw [closes_is]
  obtain ⟨vs, hvs⟩ : ∃ vs, vs = Wire.values hs Reply.nCo := ⟨_, rfl⟩
  rw [← hvs]
  have VZ : Hid (∀ v ∈ vs, v.length ≤ 1048576) := by
    show ∀ v ∈ _, _
    rw [hvs]
    intro v hv
    unfold Wire.values at hv
    obtain ⟨y, hy, rfl⟩ := List.mem_map.1 hv
    exact hb y (List.mem_filter.1 hy).1
  have V1 : Hid (Calls Tryz.prog 52 #[.pointer (some ⟨p, 0, none⟩), .string ⟨#[99, 111, 110, 110, 101, 99, 116, 105, 111, 110]⟩] (w.alloc (.cells #[.bool false] 4)) fun e w' => (∃ A' c', e = .returned (.slice A' vs.length c') ∧ TAt w' A' vs) ∧ Below (w.alloc (.cells #[.bool false] 4)).heap.size (w.alloc (.cells #[.bool false] 4)) w') := by
    have := values_any (h.under ((Below.refl _ _).alloc (Nat.le_refl _) (.cells #[.bool false] 4))) Reply.nCo (by rw [e]; exact hl)
    rw [e, ← hvs] at this
    exact this
  have B1 : Hid (Below w.heap.size w (w.alloc (.cells #[.bool false] 4))) := (Below.refl _ _).alloc (Nat.le_refl _) _
  have H1 : Hid (Held (w.alloc (.cells #[.bool false] 4)) w.heap.size 4 #[.bool false]) := Held.new _ _ _ rfl
  have vz : vs.length ≤ 32 := by rw [hvs]; have := values_le hs Reply.nCo; omega
  clear h e hvs hl hb
  refine (callsIn_wide (n := 0)).1 ?_
  refine callsIn_of_wp_marks Tryz.func51 rfl trivial ?_ rfl
  simp only [Tryz.ntmps51, List.size_toArray, List.length_cons, List.length_nil, Nat.reduceAdd, Nat.reduceSub, Array.replicate_succ, Array.replicate_zero, List.push_toArray, List.append_toArray, List.nil_append, List.cons_append]
  gi_wp2_with fail
  refine ⟨trivial, rfl, (callsIn_wide.2 V1.out).mono ?_⟩
  rintro e w2 ⟨⟨A', c', rfl, tA⟩, hb2⟩
  have B2 := Lib.hid (B1.out.trans (hb2.mono B1.out.size))
  have H2 := Lib.hid (H1.out.below hb2 H1.out.lt)
  have T2 := Lib.hid tA
  obtain ⟨m, hm⟩ : ∃ m, m = vs.length := ⟨_, rfl⟩
  have HM := Lib.hid hm
  rw [← hm]
  obtain ⟨q, hq⟩ : ∃ q, q = w.heap.size := ⟨_, rfl⟩
  rw [← hq] at H2
  have HQ := Lib.hid hq
  rw [← hq]
  have mz : m ≤ 32 := by omega
  clear hb2 tA V1 B1 H1 hm hq vz
  gi_wp2_with fail
  refine wpIn_loop (fun a W => ∃ (k : Nat) (u4 u10 u11 u12 u13 u14 u20 : Value) (rs : List Nat), a = { tmps := #[.pointer (some ⟨p, 0, none⟩), undef, .pointer (some ⟨q, 0, none⟩), undef, u4, undef, .pointer (some ⟨p, 0, none⟩), .slice A' m c', .int .i64 (m : Int), .int .i64 (k : Int), u10, u11, u12, u13, u14, undef, undef, undef, undef, undef, u20], defers := rs.map markOf } ∧ k ≤ m ∧ rs.Nodup ∧ (∀ r ∈ rs, w.heap.size ≤ r ∧ W.heap[r]? = some (.deferred (some []))) ∧ Below w.heap.size w W ∧ Held W q 4 #[.bool false] ∧ TAt W A' vs ∧ NoneOf vs k)
    (fun a _ => m - (intOf (a.tmps.getD 9 undef)).toNat) ⟨0, _, _, _, _, _, _, _, [], rfl, Nat.zero_le _, List.nodup_nil, (fun r hr => by cases hr), B2.out, H2.out, T2.out, (fun v hv => by simp at hv)⟩ ?_
  rintro a W ⟨k, u4, u10, u11, u12, u13, u14, u20, rs, rfl, hk, hnd, hmk, hB, hH, hT, hN⟩
  have qN : q < W.heap.size := hH.lt
  have wq : w.heap.size ≤ q := by rw [HQ.out]; exact Nat.le_refl _
  by_cases hlt : k < m
  · have hlz : (k : Int) < (m : Int) := by omega
    have kv : k < vs.length := by rw [← HM.out]; exact hlt
    have hx : (vs.getD k []).length ≤ 1048576 := VZ.out _ (by rw [List.getD_eq_getElem?_getD, List.getElem?_eq_getElem kv]; exact List.getElem_mem kv)
    obtain ⟨g, off, rfl, c9⟩ := hT.at_ kv
    have NX := Lib.hid (fun hc => hN.next kv hc)
    have YES : Hid ((Wire.pieces (vs.getD k [])).any Wire.isClose = true → (vs.any fun v => (Wire.pieces v).any Wire.isClose) = true) := fun hy => List.any_eq_true.2 ⟨vs.getD k [], by rw [List.getD_eq_getElem?_getD, List.getElem?_eq_getElem kv]; exact List.getElem_mem kv, hy⟩
    obtain ⟨x, hxe⟩ : ∃ x, x = vs.getD k [] := ⟨_, rfl⟩
    rw [← hxe] at c9 NX hx YES
    have SS := Lib.hid (splitseq_any W x)
    obtain ⟨N, hNN⟩ : ∃ N, N = W.heap.size := ⟨_, rfl⟩
    obtain ⟨WN, hWN⟩ : ∃ WN, WN = ((W.alloc (.cells #[.string (S x)] 9)).alloc (.cells #[.string ⟨#[44]⟩] 9)).alloc (.cells #[.int .i64 0] 3) := ⟨_, rfl⟩
    have hsz : WN.heap.size = N + 3 := by rw [hWN, World.size_alloc, World.size_alloc, World.size_alloc, hNN]
    have BN : Below W.heap.size W WN := by rw [hWN]; exact (((Below.refl _ _).alloc (Nat.le_refl _) _).alloc (by rw [World.size_alloc]; omega) _).alloc (by rw [World.size_alloc, World.size_alloc]; omega) _
    have e0 : Held WN N 9 #[.string (S x)] := by rw [hWN, hNN]; exact ((Held.new _ _ _ rfl).alloc _).alloc _
    have e1 : Held WN (N + 1) 9 #[.string ⟨#[44]⟩] := by rw [hWN, hNN]; exact (Held.new _ _ _ (World.size_alloc _ _).symm).alloc _
    have e2 : Held WN (N + 1 + 1) 3 #[.int .i64 0] := by rw [hWN, hNN]; exact Held.new _ _ _ (by rw [World.size_alloc, World.size_alloc])
    have hHN : Held WN q 4 #[.bool false] := hH.below BN qN
    rw [← hNN] at SS qN
    rw [← hWN] at SS
    have ne1 : N + 1 ≠ N := by omega
    have ne2 : N + 1 + 1 ≠ N := by omega
    have SX : Hid (x.length ≤ 1073741824) := by show _ ≤ _; omega
    clear hxe hWN
    gi_wp2_with fail
    refine ⟨trivial, rfl, (callsIn_wide.2 SS.out).mono ?_⟩
    rintro e w3 ⟨rfl, hw3⟩
    obtain rfl : WN = w3 := hw3.symm
    clear hw3
    gi_wp2_with fail
    have BW : ∀ W4, Fr (N + 3) N WN W4 → Below W.heap.size W W4 := fun W4 f => BN.trans (f.below (by omega) (by omega))
    have MK : ∀ W4, Below W.heap.size W W4 → W4.heap[WN.heap.size]? = some (.deferred (some [])) → (WN.heap.size :: rs).Nodup ∧ ∀ r ∈ WN.heap.size :: rs, w.heap.size ≤ r ∧ W4.heap[r]? = some (.deferred (some [])) := fun W4 f d => by
      refine ⟨List.nodup_cons.2 ⟨fun hm => ?_, hnd⟩, fun r hr => ?_⟩
      · have := (Array.getElem?_eq_some_iff.1 (hmk _ hm).2).1
        omega
      · rcases List.mem_cons.1 hr with rfl | hr
        · exact ⟨by have := hB.size; omega, d⟩
        · have r2 := hmk r hr
          exact ⟨r2.1, (f.block r (Array.getElem?_eq_some_iff.1 r2.2).1).trans r2.2⟩
    have MK2 : ∀ W4, FrQ (N + 3) N q true WN W4 → W4.heap[WN.heap.size]? = some (.deferred (some [])) → (WN.heap.size :: rs).Nodup ∧ ∀ r ∈ WN.heap.size :: rs, w.heap.size ≤ r ∧ W4.heap[r]? = some (.deferred (some [])) := fun W4 f d => by
      refine ⟨List.nodup_cons.2 ⟨fun hm => ?_, hnd⟩, fun r hr => ?_⟩
      · have := (Array.getElem?_eq_some_iff.1 (hmk _ hm).2).1
        omega
      · rcases List.mem_cons.1 hr with rfl | hr
        · exact ⟨by have := hB.size; omega, d⟩
        · have r2 := hmk r hr
          have rl := (Array.getElem?_eq_some_iff.1 r2.2).1
          have rq : r ≠ q := fun e => by
            rw [e, show W.heap[q]? = _ from hH] at r2
            cases r2.2
          exact ⟨r2.1, (f.block r (by omega) (by omega) rq).trans ((BN.block r rl).trans r2.2)⟩
    refine range_split (b1 := W.heap.size + 1) (b2 := W.heap.size) (b3 := W.heap.size + 1 + 1) (v := x) SX.out rfl (by omega) (by rw [← hNN]; exact e0.cell 0) rfl
      (fun pre W4 => Fr (N + 3) N WN W4 ∧ W4.frozen? ⟨N, 0, none⟩ = false ∧ ∀ y ∈ pre, Wire.isClose y = false)
      (fun pre W4 => FrQ (N + 3) N q true WN W4 ∧ ∃ y ∈ pre, Wire.isClose y = true)
      (fun pre W4 s ⟨i1, i2, i3⟩ => ⟨by rw [← hNN]; exact i1.set_ 0 _, by rw [World.frozen?_setCell]; exact i2, i3⟩)
      (fun pre W4 ⟨i1, i2, _⟩ => ⟨by rw [← hNN, World.cell?_of_block (i1.block (N + 1) (by omega) ne1)]; exact e1.cell 0, by rw [← hNN, World.cell?_of_block (i1.block (N + 1 + 1) (by omega) ne2)]; exact e2.cell 0, by rw [← hNN]; exact i2⟩)
      (fun W4 o ⟨i1, i2, i3⟩ => ⟨i1.under (by omega) ((Below.refl _ _).alloc (Nat.le_refl _) _), (World.frozen?_of_block (Below.heap_alloc W4 o N (by have := i1.size; omega))).trans i2, i3⟩)
      (fun pre W4 l o o' hl _ _ ⟨i1, i2, i3⟩ => ⟨i1.put (by omega) o', (World.frozen?_of_block (World.putObj_heap_other (show N ≠ l by omega))).trans i2, i3⟩)
      (fun pre W4 l o o' hl _ _ ⟨i1, i2⟩ => ⟨i1.put (by omega) (by omega) o', i2⟩)
      ⟨Fr.refl _ _ _, e0.frozen 0, fun y hy => by cases hy⟩
      (fun x' => { tmps := #[.pointer (some ⟨p, 0, none⟩), undef, .pointer (some ⟨q, 0, none⟩), undef, .string (S x), .string (S x'), .pointer (some ⟨p, 0, none⟩), .slice (some ⟨g, off, none⟩) m c', .int .i64 (m : Int), .int .i64 (k : Int), .bool true, .pointer (some ⟨g, off + k, none⟩), .string (S x), .string (S x), .func (.func 97) #[] #[.pointer (some ⟨W.heap.size + 1, 0, none⟩), .pointer (some ⟨W.heap.size, 0, none⟩), .pointer (some ⟨W.heap.size + 1 + 1, 0, none⟩)], .string (S x'), undef, undef, undef, undef, u20], defers := [] }) ?assign ?body ?done ?stop
    case assign =>
      intro l x' W4 K hK
      gi_wp2
      exact hK
    case body =>
      rintro l pre x' W4 ⟨i1, i2, i3⟩ hxl
      have TR := Lib.hid (ftrim_any W4 x' (by omega))
      have SM := Lib.hid (fun u => fsmall_any u (trim x') (by have := Wire.trim_len x'; omega))
      have g1 : ((S (small (trim x'))).toList == [99, 108, 111, 115, 101]) = Wire.isClose x' := by rw [S_toList]; exact eqd _ _
      have HI1 := Lib.hid i1
      have HI2 := Lib.hid i2
      have HI3 := Lib.hid i3
      obtain ⟨ts, hts⟩ : ∃ y, y = S (trim x') := ⟨_, rfl⟩
      obtain ⟨ss, hss⟩ : ∃ y, y = S (small (trim x')) := ⟨_, rfl⟩
      rw [← hts] at TR SM
      rw [← hss] at SM g1
      have NW : N < W4.heap.size := by have := i1.size; omega
      have NC : (Held W4 q 4 #[.bool false]) := (i1.block q (by omega) (by omega)).trans hHN
      clear hts hss i1 i2 i3 BW MK MK2
      gi_wp2_with fail
      refine ⟨trivial, rfl, (CallsIn.inRound l (callsIn_wide.2 TR.out)).mono ?_⟩
      rintro e w5 ⟨rfl, hb5⟩
      gi_wp2_with fail
      refine ⟨trivial, rfl, (CallsIn.inRound l (callsIn_wide.2 (SM.out _))).mono ?_⟩
      rintro e w6 ⟨rfl, hb6⟩
      have B6 := hb5.trans (hb6.mono hb5.size)
      have KF : KeepsFrom WN.heap.size W4 w6 := ⟨B6.size, fun k o _ ho _ => (B6.block k (Array.getElem?_eq_some_iff.1 ho).1).trans ho⟩
      have K6 : Fr (N + 3) N WN w6 := HI1.out.under (by omega) B6
      have NC6 := NC.below B6 NC.lt
      have x0 := NC6.cell 0
      have y0 := NC6.frozen 0
      have z6 : w6.frozen? ⟨N, 0, none⟩ = false := (World.frozen?_of_block (B6.block N NW)).trans HI2.out
      have v6 : w6.cell? ⟨W.heap.size, 0, none⟩ = W4.cell? ⟨W.heap.size, 0, none⟩ := World.cell?_of_block (B6.block W.heap.size (by omega))
      cases hcl : Wire.isClose x'
      · rw [hcl] at g1
        have I6 : ∀ y ∈ pre ++ [x'], Wire.isClose y = false := fun y hy => by
          rcases List.mem_append.1 hy with hy | hy
          · exact HI3.out y hy
          · rw [List.mem_singleton.1 hy]; exact hcl
        clear TR SM hb5 hb6
        gi_wp2
        exact ⟨KF, v6, K6, z6, I6⟩
      · rw [hcl] at g1
        have FQ : FrQ (N + 3) N q true WN (w6.setCell ⟨q, 0, none⟩ (.bool true)) :=
          ⟨K6.os, K6.tape, K6.output, by have := K6.size; simp [World.setCell]; exact this, fun k hk hn h2 => (Below.heap_setCell w6 ⟨q, 0, none⟩ _ k h2).trans (K6.block k hk hn), NC6.set_ 0 _⟩
        have KQ : KeepsFrom WN.heap.size W4 (w6.setCell ⟨q, 0, none⟩ (.bool true)) := KF.trans ((KeepsOthers.setCell _ _ _).from _)
        have EX : ∃ y ∈ pre ++ [x'], Wire.isClose y = true := ⟨x', by simp, hcl⟩
        clear TR SM hb5 hb6
        gi_wp2
        exact ⟨KQ, FQ, EX⟩
    case done =>
      rintro W4 ⟨i1, i2, i3⟩ d4
      have BW4 := BW W4 i1
      obtain ⟨m1, m2⟩ := MK W4 BW4 d4
      have F1 := NX.out (by rw [List.any_eq_false]; intro y hy; rw [i3 y hy]; exact Bool.false_ne_true)
      have hH4 := hH.below BW4 (by omega)
      have hT4 := hT.below BW4
      have hB4 := hB.trans (BW4.mono hB.size)
      clear i1 i2 i3 BW MK MK2 d4
      gi_wp2
      refine ⟨⟨k + 1, .string (S x), .bool true, .pointer (some ⟨g, off + k, none⟩), .string (S x), .string (S x), .func (.func 97) #[] #[.pointer (some ⟨W.heap.size + 1, 0, none⟩), .pointer (some ⟨W.heap.size, 0, none⟩), .pointer (some ⟨W.heap.size + 1 + 1, 0, none⟩)], .int .i64 ((k : Int) + 1), WN.heap.size :: rs, ?_, by omega, m1, m2, hB4, hH4, hT4, F1⟩, ?_⟩
      · go_num
      · simp [intOf]
        omega
    case stop =>
      rintro pre W4 hpre ⟨i1, y, hy, hyc⟩ d4
      obtain ⟨m1, m2⟩ := MK2 W4 i1 d4
      have F1 := YES.out (List.any_eq_true.2 ⟨y, hpre.subset hy, hyc⟩)
      have hqn : q ∉ WN.heap.size :: rs := fun hm => by
        have := (m2 q hm).2
        rw [show W4.heap[q]? = _ from i1.held] at this
        cases this
      have hB4 : Below w.heap.size w W4 := hB.trans ⟨(i1.os.trans BN.os), (i1.tape.trans BN.tape), (i1.output.trans BN.output), Nat.le_trans BN.size i1.size, fun j hj => (i1.block j (by have := hB.size; omega) (by have := hB.size; omega) (by omega)).trans (BN.block j (by have := hB.size; omega))⟩
      have LV := leaves_marks (fn := Tryz.f51) (tmps := #[.pointer (some ⟨p, 0, none⟩), undef, .pointer (some ⟨q, 0, none⟩), undef, .string (S x), undef, .pointer (some ⟨p, 0, none⟩), .slice (some ⟨g, off, none⟩) m c', .int .i64 (m : Int), .int .i64 (k : Int), .bool true, .pointer (some ⟨g, off + k, none⟩), .string (S x), .string (S x), .func (.func 97) #[] #[.pointer (some ⟨W.heap.size + 1, 0, none⟩), .pointer (some ⟨W.heap.size, 0, none⟩), .pointer (some ⟨W.heap.size + 1 + 1, 0, none⟩)], undef, undef, undef, undef, undef, u20]) (R := fun e w' => e = .returned (.bool (vs.any fun v => (Wire.pieces v).any Wire.isClose)) ∧ Below w.heap.size w w') (WN.heap.size :: rs) W4 m1 (fun r hr => (m2 r hr).2) (fun W' s => ⟨.bool true, resC1 _ _ 2 4 _ _ rfl rfl (load_bool (show Held W' q _ _ from (s.block q hqn).trans i1.held)), by rw [F1], hB4.trans ⟨s.os, s.tape, s.output, by rw [s.size]; exact Nat.le_refl _, fun j hj => s.block j (fun hm => by have := (m2 j hm).1; omega)⟩⟩)
      clear i1 hy hyc hpre BW MK MK2
      gi_wp2
      exact LV
  · obtain rfl : k = m := by omega
    have hlz : ¬ ((k : Int) < (k : Int)) := by omega
    have F1 : Hid ((vs.any fun v => (Wire.pieces v).any Wire.isClose) = false) := by
      show _ = _
      rw [List.any_eq_false]
      intro v hv
      rw [hN v (by rw [HM.out, List.take_length]; exact hv)]
      exact Bool.false_ne_true
    have x0 := hH.cell 0
    have y0 := hH.frozen 0
    have hH4 : Held (W.setCell ⟨q, 0, none⟩ (.bool false)) q 4 #[.bool false] := hH.set_ 0 _
    have hqr : ∀ r ∈ rs, r ≠ q := fun r hr e => by
      have := (hmk r hr).2
      rw [e, show W.heap[q]? = _ from hH] at this
      cases this
    have hB4 : Below w.heap.size w (W.setCell ⟨q, 0, none⟩ (.bool false)) := hB.setCell (p := ⟨q, 0, none⟩) wq _
    have LV : ∀ tm : Array Value, tm.getD 2 undef = .pointer (some ⟨q, 0, none⟩) → LeavesInM Fence.wide 0 Tryz.prog Tryz.f51 tm (fun e w' => e = .returned (.bool (vs.any fun v => (Wire.pieces v).any Wire.isClose)) ∧ Below w.heap.size w w') (rs.map markOf) .returning (W.setCell ⟨q, 0, none⟩ (.bool false)) := fun tm ht =>
      leaves_marks rs _ hnd (fun r hr => (Below.heap_setCell W ⟨q, 0, none⟩ _ r (hqr r hr)).trans (hmk r hr).2) (fun W' s => ⟨.bool false, resC1 _ _ 2 4 _ _ rfl ht (load_bool (show Held W' q _ _ from (s.block q (fun hm => hqr q hm rfl)).trans hH4)), by rw [F1.out], hB4.trans ⟨s.os, s.tape, s.output, by rw [s.size]; exact Nat.le_refl _, fun j hj => s.block j (fun hm => by have := (hmk j hm).1; omega)⟩⟩)
    clear hmk hnd hN hT
    gi_wp2
    exact LV _ rfl
/-- closes answers of whatever headers a reader may hold. -/
theorem closes_all : ClosesAll := fun s ok ft => closes_any s.q.headers ok.cnt ft
end Go.Proofs.YtnodhbgkoedalaaGreatDoor
