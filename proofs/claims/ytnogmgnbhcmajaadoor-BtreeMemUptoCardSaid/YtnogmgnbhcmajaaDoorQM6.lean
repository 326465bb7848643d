/-
  btree.Mem: Used: a range over a method that yields. · btree.Mem: Used.
-/
import Derived.Test.YtnogmgnbhcmajaaDoorQM5
import Derived.RangeFuncNested
import Derived.RangeFuncBound
import Derived.RangeFuncCalls
import Derived.RangeFuncLeaves
import Derived.RangeFuncBox
import Derived.RangeFuncWrites
import Derived.OwnWalkIn
import Derived.TacticsInMore
import Derived.LoopNIn
import Derived.LoopIn
namespace Go.Proofs.YtnogmgnbhcmajaaDoor
open Go.RowKit

attribute [local go_sem] Oper.semAt_some

/-- How many blocks are taken. -/
def cnt (n : Nat) (f : Nat → Option KB) : Nat := ((List.range n).filter fun i => (f i).isSome).length
theorem cnt_zero (f : Nat → Option KB) : cnt 0 f = 0 := rfl
theorem cnt_succ (n : Nat) (f : Nat → Option KB) : cnt (n + 1) f = cnt n f + if (f n).isSome then 1 else 0 := by
  unfold cnt
  rw [List.range_succ, List.filter_append, List.length_append]
  congr 1
  cases h : (f n).isSome <;> simp [h]
theorem cnt_le (n : Nat) (f : Nat → Option KB) : cnt n f ≤ n := by
  unfold cnt
  exact Nat.le_trans (List.length_filter_le _ _) (by simp)
set_option maxRecDepth 100000 in
set_option maxHeartbeats 3200000 in
theorem taken_in (m : Nat) (hm : 1 ≤ m) (B l p g n : Nat) (ad : Nat → Nat) (f : Nat → Option KB) (hn : n ≤ 4096) (J : Nat → World → Prop)
    (hJm : ∀ k W, J k W → MemIs B W p g n ad f)
    (hY : ∀ k x W, k < n → J k W → YieldAt Fence.wide (m - 1) Tryd.prog l #[x] W fun e W' => e = .returned (.bool true) ∧ J (k + 1) W')
    (W : World) (h0 : J 0 W) :
    CallsIn Fence.wide m Tryd.prog 17 #[.pointer (some ⟨p, 0, none⟩), .func (.yield l) #[] #[]] W fun e W' => (∃ v, e = .returned v) ∧ J (cnt n f) W' := by
  have c0 : W.cell? ⟨p, 0, none⟩ = some (.slice (some ⟨g, 0, none⟩) n n) := (hJm 0 W h0).blk.cell 0
  have HJ := Lib.hid hJm
  have HY := Lib.hid hY
  have H0 := Lib.hid h0
  clear hY hJm h0
  refine callsIn_of_wp Tryd.func17 rfl trivial ?_ rfl
  simp only [Tryd.ntmps17, List.size_toArray, List.length_cons, List.length_nil, Nat.reduceAdd, Nat.reduceSub, Array.replicate_succ, Array.replicate_zero, List.push_toArray, List.append_toArray, List.nil_append, List.cons_append]
  gi_wp2
  gi_loopw [13] (fun i wr => ∃ k : Nat, k ≤ n ∧ i = .int .i64 k ∧ Hid (J (cnt k f) wr)) (fun i _ => n - (intOf i).toNat)
  case atStart => exact ⟨0, by omega, rfl, H0.out⟩
  case round =>
    obtain ⟨k, hk, rfl, HK⟩ := hrel
    by_cases hlt : k < n
    · have c1 := (HJ.out _ _ HK.out).ptr k hlt
      unfold ptrC at c1
      have CS := Lib.hid (cnt_succ k f)
      cases hf : f k with
      | none =>
        rw [hf] at c1 CS
        have HK2 : Hid (J (cnt (k + 1) f) wr) := by show J _ _; rw [CS.out]; exact HK.out
        clear hf c0
        gi_wp2
        refine ⟨fun f hf => (by cases hf), ?_⟩
        gi_wp2
        go_roundw
        case rel => exact ⟨k + 1, by omega, by go_num, HK2⟩
        case measure => simp [intOf]; omega
      | some x =>
        rw [hf] at c1 CS
        obtain ⟨fn, tmps, assign, body, hy, hR⟩ := HY.out (cnt k f) (.pointer (some ⟨ad k, 0, none⟩)) wr (Nat.lt_of_le_of_lt (cnt_le k f) hlt) HK.out
        have RR := Lib.hid hR
        clear hf hR c0
        gi_wp2
        refine RR.out.mono ?_
        rintro e W3 ⟨rfl, hJ3⟩
        have F : Hid (J (cnt (k + 1) f) W3) := by show J _ _; rw [CS.out]; exact hJ3
        clear hJ3 hy
        gi_wp2
        go_roundw
        case rel => exact ⟨k + 1, by omega, by go_num, F⟩
        case measure => simp [intOf]; omega
    · obtain rfl : k = n := by omega
      clear c0
      gi_wp2
      go_end0
      exact ⟨⟨_, rfl⟩, HK.out⟩
end Go.Proofs.YtnogmgnbhcmajaaDoor

namespace Go.Proofs.YtnogmgnbhcmajaaDoor
open Go.RowKit

attribute [local go_sem] Oper.semAt_some

/-- How a round's body may be left: it goes on. -/
def TakenPost (B : Nat) (I : Nat → World → Prop) (k : Nat) (W : World) : Exit → Act → World → Prop
  | .normal, _, W' => KeepsFrom B W W' ∧ I (k + 1) W'
  | _, _, _ => False
theorem range_taken (q : Nat) {gop : Operand} {body : Code} {Q : Exit → Act → World → Prop} {a : Act} {w : World} (B p g n : Nat) (ad : Nat → Nat) (f : Nat → Option KB) (hn : n ≤ 4096)
    (hg : a.eval gop = .func (.func 17) #[.pointer (some ⟨p, 0, none⟩)] #[])
    (I : Nat → World → Prop) (hI : ∀ k W W', I k W → Below w.heap.size W W' → I k W') (hIm : ∀ k W, I k W → MemIs B W p g n ad f) (h0 : I 0 w)
    (hbody : ∀ (l k : Nat) (x : Value) (W : World), k < n → I k W → body.wpIn (Fence.wide.inRound l) 4 Tryd.prog (TakenPost w.heap.size I k W) { tmps := a.tmps.setIfInBounds q x, defers := [] } W)
    (hdone : ∀ (d : Nat) (W : World), w.heap.size ≤ d → I (cnt n f) W → W.heap[d]? = some (.deferred (some [])) → Q .normal { a with defers := { target := .collected d, args := #[] } :: a.defers } W) :
    (Code.rangeFunc gop #[q] Code.skip body).wp Tryd.prog Q a w := by
  refine (wpIn_wide (n := 6)).1 (wpIn_rangeFunc fun fn hfn => ?_)
  let rec_ : LoopState → Option Code → Loop := fun st pe => { state := st, pending := pe, fn, tmps := a.tmps, params := #[q], assign := Code.skip, body, defers := w.heap.size }
  have key : ∀ (rc : LoopState → Option Code → Loop), rc = rec_ → ∃ (l : Nat) (mark : List Deferred) (w₁ : World) (d : Deferred) (w₁' : World) (f : FuncId) (args : Array Value) (w₂ : World),
      (Instr.enterLoop fn a.tmps #[q] Code.skip body Fence.wide.round).run Tryd.prog w = .ok (l, mark) w₁ ∧ (resolve a.eval (rangeCall gop l) 0).run Tryd.prog w₁ = .ok d w₁' ∧
      (∀ f', Target.leads Tryd.prog w₁' d.target d.args = some f' → Fence.wide.fn f') ∧ (invoke d.target d.args).run Tryd.prog w₁' = .ok (.enter f args) w₂ ∧ (Fence.wide.depth.isSome = true → 1 ≤ 6) ∧
      CallsIn Fence.wide (6 - 1) Tryd.prog f args w₂ (rangePost Fence.wide 6 Tryd.prog l Q { a with defers := mark ++ a.defers }) := by
    intro rc hrc
    have L : w.heap.size < w.heap.size + 1 := Nat.lt_succ_self _
    obtain ⟨W1, hW1⟩ : ∃ W1, W1 = (w.alloc (.deferred (some []))).alloc (.loop (rc .ready none)) := ⟨_, rfl⟩
    have sz : (w.alloc (.deferred (some []))).heap.size = w.heap.size + 1 := World.size_alloc _ _
    have l1 : W1.heap[w.heap.size + 1]? = some (.loop (rc .ready none)) := by
      rw [hW1, ← sz]
      exact World.alloc_heap_new _ _
    have d1 : W1.heap[w.heap.size]? = some (.deferred (some [])) := by
      rw [hW1]
      exact (Below.heap_alloc _ _ _ (by rw [sz]; exact L)).trans (World.alloc_heap_new w _)
    have i1 : I 0 W1 := by
      rw [hW1]
      exact hI 0 _ _ h0 (((Below.refl _ _).alloc (Nat.le_refl _) _).alloc (by rw [sz]; exact Nat.le_of_lt L) _)
    refine ⟨w.heap.size + 1, [{ target := .collected w.heap.size, args := #[] }], W1, { target := .fn (.func 17) #[], args := #[.pointer (some ⟨p, 0, none⟩), .func (.yield (w.heap.size + 1)) #[] #[]] }, W1, 17,
      #[.pointer (some ⟨p, 0, none⟩), .func (.yield (w.heap.size + 1)) #[] #[]], W1, ?_, ?_, fun _ _ => trivial, ?_, fun _ => by omega, ?_⟩
    · rw [hW1, hrc]
      exact run_enterLoop_outer _ _ _ _ _
    · simp only [resolve, hg]
      simp [go_sem]
    · simp [invoke, go_sem]
    · have put_below : ∀ (W : World) (o : Obj), Below w.heap.size W (W.putObj (w.heap.size + 1) o) := fun W o => ⟨rfl, rfl, rfl, by simp [World.putObj], fun k hk => World.putObj_heap_other (by omega)⟩
      refine (taken_in 5 (by omega) B (w.heap.size + 1) p g n ad f hn
        (fun k W => I k W ∧ W.heap[w.heap.size + 1]? = some (.loop (rc .ready none)) ∧ W.heap[w.heap.size]? = some (.deferred (some [])))
        (fun k W h => hIm k W h.1) ?_ W1 ⟨i1, l1, d1⟩).mono ?_
      · rintro k x W hkn ⟨hi, hl, hd⟩
        have lt1 : w.heap.size + 1 < W.heap.size := (Array.getElem?_eq_some_iff.1 hl).1
        have hy := run_yield (P := Tryd.prog) (args := #[x]) hl (by rw [hrc]; rfl)
        obtain ⟨W2, hW2⟩ : ∃ W2, W2 = W.putObj (w.heap.size + 1) (.loop { rc .ready none with state := .busy }) := ⟨_, rfl⟩
        have hl2 : W2.heap[w.heap.size + 1]? = some (.loop { rc .ready none with state := .busy }) := by rw [hW2]; exact World.putObj_heap_same lt1
        have hd2 : W2.heap[w.heap.size]? = some (.deferred (some [])) := by rw [hW2]; exact (World.putObj_heap_other (by omega)).trans hd
        have hi2 : I k W2 := by rw [hW2]; exact hI _ _ _ hi (put_below _ _)
        have hbg := run_beginRound (P := Tryd.prog) hl (by rw [hrc])
        rw [← hW2] at hbg
        rw [hrc] at hy
        refine ⟨fn, _, Code.skip, body, hy, roundIn_of_wpIn hfn ?_⟩
        have e : ((#[q] : Array Tmp).zip #[x]).foldl (fun (t : Array Value) (x : Tmp × Value) => match x with | (p, v) => t.setIfInBounds p v) a.tmps = a.tmps.setIfInBounds q x := by simp
        change Code.skip.wpIn (Fence.wide.inRound (w.heap.size + 1)) _ _ _ { tmps := ((#[q] : Array Tmp).zip #[x]).foldl (fun (t : Array Value) (x : Tmp × Value) => match x with | (p, v) => t.setIfInBounds p v) a.tmps, defers := [] } W
        rw [e]
        refine wpIn_skip ?_
        refine ⟨W2, hbg, ?_⟩
        refine wpIn_mono (hbody _ k x W2 hkn hi2) ?_
        rintro e a3 W3 hp
        cases e with
        | normal =>
          obtain ⟨hk3, hi3⟩ := hp
          have hl3 := hk3.same _ _ (by omega) hl2 rfl
          have hr := run_endRound (P := Tryd.prog) none hl3
          rw [hrc] at hr
          refine ⟨_, _, hr, rfl, hI _ _ _ hi3 (put_below _ _), ?_, (World.putObj_heap_other (by omega)).trans (hk3.same _ _ (Nat.le_refl _) hd2 rfl)⟩
          rw [hrc]
          exact World.putObj_heap_same (Array.getElem?_eq_some_iff.1 hl3).1
        | ret => exact hp.elim
        | exit id => exact hp.elim
        | goto t => exact hp.elim
        | panic ch => exact hp.elim
        | outgrown => exact hp.elim
      · rintro e W2 ⟨⟨v, rfl⟩, hi, hl, hd⟩
        have he := run_endLoop (P := Tryd.prog) hl (by rw [hrc]; simp [rec_])
        rw [hrc] at he
        exact ⟨none, _, he, hdone _ _ (Nat.le_refl _) (hI _ _ _ hi (put_below _ _)) ((World.putObj_heap_other (by omega)).trans hd)⟩
  exact key rec_ rfl
theorem MemIs.belowC {B C : Nat} {w w' : World} {p g n : Nat} {ad : Nat → Nat} {f : Nat → Option KB} (h : MemIs B w p g n ad f) (hp : p < C) (hg : g < C) (ha : ∀ i k, f i = some k → ad i < C) (k : Below C w w') : MemIs B w' p g n ad f :=
  ⟨h.blk.below k hp, h.row.below k hg, fun i x hx => by
    obtain ⟨a1, a2, a3⟩ := h.each i x hx
    exact ⟨a1, a2.below k (ha i x hx), a3⟩, h.inj, h.base, h.small⟩
theorem boxed_below {C : Nat} {w w' : World} {b t : Nat} {v : Value} (h : Boxed w b t v) (hb : b < C) (k : Below C w w') : Boxed w' b t v := (k.block b hb).trans h
set_option maxRecDepth 100000 in
set_option maxHeartbeats 3200000 in
theorem used_any (B : Nat) (w : World) (p n : Nat) (f : Nat → Option KB) (h : MemAt B w p n f) :
    Calls Tryd.prog 7 #[.pointer (some ⟨p, 0, none⟩)] w fun e w' => e = .returned (.int .i64 (cnt n f)) ∧ Below w.heap.size w w' := by
  obtain ⟨g, ad, h⟩ := h
  have hn := h.small
  have hp := h.blk.lt
  have hg := h.row.lt
  have ha : Hid (∀ i k, f i = some k → ad i < w.heap.size) := fun i k hk => (h.each i k hk).2.1.lt
  obtain ⟨u, hu⟩ : ∃ u, u = w.heap.size := ⟨_, rfl⟩
  obtain ⟨w1, hw1⟩ : ∃ w1, w1 = w.alloc (.cells #[.int .i64 0] 3) := ⟨_, rfl⟩
  have s1 : Hid (w1.heap.size = u + 1) := by show _ = _; rw [hw1, hu]; exact World.size_alloc _ _
  have b1 : Hid (Below u w w1) := by show Below _ _ _; rw [hw1, hu]; exact (Below.refl _ _).alloc (Nat.le_refl _) _
  have x1 : Hid (Boxed w1 u 3 (.int .i64 0)) := by show Boxed _ _ _ _; rw [hw1, hu]; exact Boxed.new _ _ _
  have H1 : Hid (MemIs B w1 p g n ad f) := h.belowC (C := u) (by omega) (by omega) (fun i k hk => by rw [hu]; exact ha.out i k hk) b1.out
  have HA : Hid (∀ i k, f i = some k → ad i < u) := fun i k hk => by rw [hu]; exact ha.out i k hk
  have HPG : Hid (p < u ∧ g < u) := by show _ ∧ _; omega
  have HN := Lib.hid hn
  have HU := Lib.hid hu
  clear h hp hg ha
  refine (callsIn_wide (n := 6)).1 ?_
  refine callsIn_of_wp_marks Tryd.func7 rfl trivial ?_ rfl
  refine wpIn_wide.2 ?_
  simp only [Tryd.ntmps7, List.size_toArray, List.length_cons, List.length_nil, Nat.reduceAdd, Nat.reduceSub, Array.replicate_succ, Array.replicate_zero, List.push_toArray, List.append_toArray, List.nil_append, List.cons_append]
  rw [← hu]
  clear hn
  go_wp2_with fail
  rw [← hw1, ← hu]
  clear hw1 hu
  refine range_taken 6 B p g n ad f HN.out rfl (fun k W => MemIs B W p g n ad f ∧ Boxed W u 3 (.int .i64 (k : Nat)) ∧ Below u w W) (fun k W W' hi hb => ?_) (fun k W hi => hi.1) ⟨H1.out, x1.out, b1.out⟩ ?body ?done
  · rw [s1.out] at hb
    have pg := HPG.out
    exact ⟨hi.1.belowC (by omega) (by omega) (fun i k hk => by have := HA.out i k hk; omega) hb, boxed_below hi.2.1 (by omega) hb, hi.2.2.trans (hb.mono (by omega))⟩
  case body =>
    rintro l k x W hk ⟨hm, hx, hb⟩
    simp only [List.setIfInBounds_toArray, List.set_cons_succ, List.set_cons_zero]
    have c0 := hx.cell
    have z0 := hx.frozen
    have ek : (k : Int) + 1 ≤ 4096 := by have := HN.out; omega
    have FIN : Hid (∀ W', W' = W.setCell ⟨u, 0, none⟩ (.int .i64 ((k : Int) + 1)) → TakenPost w1.heap.size (fun k W => MemIs B W p g n ad f ∧ Boxed W u 3 (.int .i64 (k : Nat)) ∧ Below u w W) k W .normal { tmps := #[], defers := [] } W') := fun W' hW' => by
      have bu : Below u W W' := by rw [hW']; exact ⟨rfl, rfl, rfl, by simp [World.setCell], fun i hi => Below.heap_setCell _ _ _ _ (by show i ≠ u; omega)⟩
      have pg := HPG.out
      refine ⟨⟨by rw [hW']; simp [World.setCell], fun i o hi ho _ => ?_⟩, hm.belowC pg.1 pg.2 HA.out bu, ?_, hb.trans bu⟩
      · rw [hW']
        exact (Below.heap_setCell _ _ _ _ (by show i ≠ u; have := s1.out; omega)).trans ho
      · rw [hW']
        exact hx.set _
    clear hm hx hb
    gi_wp2
    exact FIN.out _ rfl
  case done =>
    rintro D0 W hD0 ⟨hm, hx, hb⟩ hK
    have c0 := hx.cell
    have HK := Lib.hid hK
    have BB := Lib.hid hb
    clear hm hx hb hK
    go_wp2_with fail
    refine ⟨by simp, .inl ⟨_, _, rfl, run_takeDeferred HK.out, ?_⟩⟩
    refine ⟨_, results_tmp rfl _ _ _, rfl, ?_⟩
    have h1 := s1.out
    exact BB.out.trans ⟨rfl, rfl, rfl, by simp [World.putObj], fun k hk => World.putObj_heap_other (by omega)⟩
end Go.Proofs.YtnogmgnbhcmajaaDoor
