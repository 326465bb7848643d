/-
  btree.Mem: Hold. · btree.Mem: Hold, whole. · docketlaw06: a tree whose blocks are held; an Op of a script.
-/
import Derived.Test.YtldmllmkckklhaaGreatDoorQA77
namespace Go.Proofs.YtldmllmkckklhaaGreatDoor
open Go.RowKit Wal

attribute [local go_sem] Oper.semAt_some

set_option maxRecDepth 100000 in
set_option maxHeartbeats 3200000 in
theorem taken_in2 (m : Nat) (hm : 1 ≤ m) (l p g n : Nat) (ad : Nat → Nat) (f : Nat → Option KB) (hn : n ≤ 4096) (J : Nat → World → Prop)
    (hJp : ∀ W, J 0 W → W.cell? ⟨p, 0, none⟩ = some (.slice (some ⟨g, 0, none⟩) n n)) (hJm : ∀ i W, J i W → ∀ j, j < n → W.cell? ⟨g, j, none⟩ = some (ptrC ad f j))
    (hS : ∀ i W, i < n → f i = none → J i W → J (i + 1) W)
    (hY : ∀ i x W, i < n → f i = some x → J i W → YieldAt Fence.wide (m - 1) Tryz.prog l #[.pointer (some ⟨ad i, 0, none⟩)] W fun e W' => e = .returned (.bool true) ∧ J (i + 1) W')
    (W : World) (h0 : J 0 W) :
    CallsIn Fence.wide m Tryz.prog 30 #[.pointer (some ⟨p, 0, none⟩), .func (.yield l) #[] #[]] W fun e W' => (∃ v, e = .returned v) ∧ J n W' := by
  have c0 := hJp W h0
  have HJ := Lib.hid hJm
  have HS := Lib.hid hS
  have HY := Lib.hid hY
  have H0 := Lib.hid h0
  clear hY hJm hJp hS h0
  refine callsIn_of_wp Tryz.func30 rfl trivial ?_ rfl
  simp only [Tryz.ntmps30, List.size_toArray, List.length_cons, List.length_nil, Nat.reduceAdd, Nat.reduceSub, Array.replicate_succ, Array.replicate_zero, List.push_toArray, List.append_toArray, List.nil_append, List.cons_append]
  gi_wp2
  gi_loopw [13] (fun i wr => ∃ k : Nat, k ≤ n ∧ i = .int .i64 k ∧ Hid (J k wr)) (fun i _ => n - (intOf i).toNat)
  case atStart => exact ⟨0, by omega, rfl, H0.out⟩
  case round =>
    obtain ⟨k, hk, rfl, HK⟩ := hrel
    by_cases hlt : k < n
    · have c1 := HJ.out _ _ HK.out k hlt
      unfold ptrC at c1
      cases hf : f k with
      | none =>
        rw [hf] at c1
        have HK2 : Hid (J (k + 1) wr) := HS.out k wr hlt hf HK.out
        clear hf c0
        gi_wp2
        refine ⟨fun f hf => (by cases hf), ?_⟩
        gi_wp2
        go_roundw
        case rel => exact ⟨k + 1, by omega, by go_num, HK2⟩
        case measure => simp [intOf]; omega
      | some x =>
        rw [hf] at c1
        obtain ⟨fn, tmps, assign, body, hy, hR⟩ := HY.out k x wr hlt hf HK.out
        have RR := Lib.hid hR
        clear hf hR c0
        gi_wp2
        refine RR.out.mono ?_
        rintro e W3 ⟨rfl, hJ3⟩
        have F : Hid (J (k + 1) W3) := hJ3
        clear hJ3 hy
        gi_wp2
        go_roundw
        case rel => exact ⟨k + 1, by omega, by go_num, F⟩
        case measure => simp [intOf]; omega
    · obtain rfl : k = n := by omega
      clear c0
      gi_wp2
      go_end0
      exact ⟨⟨_, rfl⟩, HK.out⟩
/-- How a round's body may be left: it goes on. -/
def HoldPost (B : Nat) (I : Nat → World → Prop) (k : Nat) (W : World) : Exit → Act → World → Prop
  | .normal, _, W' => KeepsFrom B W W' ∧ I (k + 1) W'
  | _, _, _ => False
theorem range_hold (q q2 : Nat) {gop : Operand} {asg body : Code} {Q : Exit → Act → World → Prop} {a : Act} {w : World} (p g n : Nat) (ad : Nat → Nat) (f : Nat → Option KB) (hn : n ≤ 4096)
    (hg : a.eval gop = .func (.func 30) #[.pointer (some ⟨p, 0, none⟩)] #[])
    (I : Nat → World → Prop) (hI : ∀ k W W', I k W → Below w.heap.size W W' → I k W') (hIp : ∀ W, I 0 W → W.cell? ⟨p, 0, none⟩ = some (.slice (some ⟨g, 0, none⟩) n n)) (hIm : ∀ i W, I i W → ∀ j, j < n → W.cell? ⟨g, j, none⟩ = some (ptrC ad f j)) (hIs : ∀ i W, i < n → f i = none → I i W → I (i + 1) W) (h0 : I 0 w)
    (hasg : ∀ (l : Nat) (Q' : Exit → Act → World → Prop) (x : Value) (W : World), Q' .normal { tmps := (a.tmps.setIfInBounds q x).setIfInBounds q2 x, defers := [] } W → asg.wpIn (Fence.wide.inRound l) 4 Tryz.prog Q' { tmps := a.tmps.setIfInBounds q x, defers := [] } W)
    (hbody : ∀ (l k : Nat) (x : KB) (W : World), k < n → f k = some x → I k W → body.wpIn (Fence.wide.inRound l) 4 Tryz.prog (HoldPost w.heap.size I k W) { tmps := (a.tmps.setIfInBounds q (.pointer (some ⟨ad k, 0, none⟩))).setIfInBounds q2 (.pointer (some ⟨ad k, 0, none⟩)), defers := [] } W)
    (hdone : ∀ (d : Nat) (W : World), w.heap.size ≤ d → I n W → W.heap[d]? = some (.deferred (some [])) → Q .normal { a with defers := { target := .collected d, args := #[] } :: a.defers } W) :
    (Code.rangeFunc gop #[q] asg body).wp Tryz.prog Q a w := by
  refine (wpIn_wide (n := 6)).1 (wpIn_rangeFunc fun fn hfn => ?_)
  let rec_ : LoopState → Option Code → Loop := fun st pe => { state := st, pending := pe, fn, tmps := a.tmps, params := #[q], assign := asg, body, defers := w.heap.size }
  have key : ∀ (rc : LoopState → Option Code → Loop), rc = rec_ → ∃ (l : Nat) (mark : List Deferred) (w₁ : World) (d : Deferred) (w₁' : World) (f : FuncId) (args : Array Value) (w₂ : World),
      (Instr.enterLoop fn a.tmps #[q] asg body Fence.wide.round).run Tryz.prog w = .ok (l, mark) w₁ ∧ (resolve a.eval (rangeCall gop l) 0).run Tryz.prog w₁ = .ok d w₁' ∧
      (∀ f', Target.leads Tryz.prog w₁' d.target d.args = some f' → Fence.wide.fn f') ∧ (invoke d.target d.args).run Tryz.prog w₁' = .ok (.enter f args) w₂ ∧ (Fence.wide.depth.isSome = true → 1 ≤ 6) ∧
      CallsIn Fence.wide (6 - 1) Tryz.prog f args w₂ (rangePost Fence.wide 6 Tryz.prog l Q { a with defers := mark ++ a.defers }) := by
    intro rc hrc
    have L : w.heap.size < w.heap.size + 1 := Nat.lt_succ_self _
    obtain ⟨W1, hW1⟩ : ∃ W1, W1 = (w.alloc (.deferred (some []))).alloc (.loop (rc .ready none)) := ⟨_, rfl⟩
    have sz : (w.alloc (.deferred (some []))).heap.size = w.heap.size + 1 := World.size_alloc _ _
    have l1 : W1.heap[w.heap.size + 1]? = some (.loop (rc .ready none)) := by
      rw [hW1, ← sz]
      exact World.alloc_heap_new _ _
    have d1 : W1.heap[w.heap.size]? = some (.deferred (some [])) := by
      rw [hW1]
      exact (Below.heap_alloc _ _ _ (by rw [sz]; exact L)).trans (World.alloc_heap_new w _)
    have i1 : I 0 W1 := by
      rw [hW1]
      exact hI 0 _ _ h0 (((Below.refl _ _).alloc (Nat.le_refl _) _).alloc (by rw [sz]; exact Nat.le_of_lt L) _)
    refine ⟨w.heap.size + 1, [{ target := .collected w.heap.size, args := #[] }], W1, { target := .fn (.func 30) #[], args := #[.pointer (some ⟨p, 0, none⟩), .func (.yield (w.heap.size + 1)) #[] #[]] }, W1, 30,
      #[.pointer (some ⟨p, 0, none⟩), .func (.yield (w.heap.size + 1)) #[] #[]], W1, ?_, ?_, fun _ _ => trivial, ?_, fun _ => by omega, ?_⟩
    · rw [hW1, hrc]
      exact run_enterLoop_outer _ _ _ _ _
    · simp only [resolve, hg]
      simp [go_sem]
    · simp [invoke, go_sem]
    · have put_below : ∀ (W : World) (o : Obj), Below w.heap.size W (W.putObj (w.heap.size + 1) o) := fun W o => ⟨rfl, rfl, rfl, by simp [World.putObj], fun k hk => World.putObj_heap_other (by omega)⟩
      refine (taken_in2 5 (by omega) (w.heap.size + 1) p g n ad f hn
        (fun k W => I k W ∧ W.heap[w.heap.size + 1]? = some (.loop (rc .ready none)) ∧ W.heap[w.heap.size]? = some (.deferred (some [])))
        (fun W h => hIp W h.1) (fun i W h => hIm i W h.1) (fun i W h1 h2 h => ⟨hIs i W h1 h2 h.1, h.2⟩) ?_ W1 ⟨i1, l1, d1⟩).mono ?_
      · rintro k x W hkn hfx ⟨hi, hl, hd⟩
        have lt1 : w.heap.size + 1 < W.heap.size := (Array.getElem?_eq_some_iff.1 hl).1
        have hy := run_yield (P := Tryz.prog) (args := #[.pointer (some ⟨ad k, 0, none⟩)]) hl (by rw [hrc]; rfl)
        obtain ⟨W2, hW2⟩ : ∃ W2, W2 = W.putObj (w.heap.size + 1) (.loop { rc .ready none with state := .busy }) := ⟨_, rfl⟩
        have hl2 : W2.heap[w.heap.size + 1]? = some (.loop { rc .ready none with state := .busy }) := by rw [hW2]; exact World.putObj_heap_same lt1
        have hd2 : W2.heap[w.heap.size]? = some (.deferred (some [])) := by rw [hW2]; exact (World.putObj_heap_other (by omega)).trans hd
        have hi2 : I k W2 := by rw [hW2]; exact hI _ _ _ hi (put_below _ _)
        have hbg := run_beginRound (P := Tryz.prog) hl (by rw [hrc])
        rw [← hW2] at hbg
        rw [hrc] at hy
        refine ⟨fn, _, asg, body, hy, roundIn_of_wpIn hfn ?_⟩
        have e : ((#[q] : Array Tmp).zip #[.pointer (some ⟨ad k, 0, none⟩)]).foldl (fun (t : Array Value) (x : Tmp × Value) => match x with | (p, v) => t.setIfInBounds p v) a.tmps = a.tmps.setIfInBounds q (.pointer (some ⟨ad k, 0, none⟩)) := by simp
        change asg.wpIn (Fence.wide.inRound (w.heap.size + 1)) _ _ _ { tmps := ((#[q] : Array Tmp).zip #[.pointer (some ⟨ad k, 0, none⟩)]).foldl (fun (t : Array Value) (x : Tmp × Value) => match x with | (p, v) => t.setIfInBounds p v) a.tmps, defers := [] } W
        rw [e]
        refine hasg _ _ _ _ ?_
        refine ⟨W2, hbg, ?_⟩
        refine wpIn_mono (hbody _ k x W2 hkn hfx hi2) ?_
        rintro e a3 W3 hp
        cases e with
        | normal =>
          obtain ⟨hk3, hi3⟩ := hp
          have hl3 := hk3.same _ _ (by omega) hl2 rfl
          have hr := run_endRound (P := Tryz.prog) none hl3
          rw [hrc] at hr
          refine ⟨_, _, hr, rfl, hI _ _ _ hi3 (put_below _ _), ?_, (World.putObj_heap_other (by omega)).trans (hk3.same _ _ (Nat.le_refl _) hd2 rfl)⟩
          rw [hrc]
          exact World.putObj_heap_same (Array.getElem?_eq_some_iff.1 hl3).1
        | ret => exact hp.elim
        | exit id => exact hp.elim
        | goto t => exact hp.elim
        | panic ch => exact hp.elim
        | outgrown => exact hp.elim
      · rintro e W2 ⟨⟨v, rfl⟩, hi, hl, hd⟩
        have he := run_endLoop (P := Tryz.prog) hl (by rw [hrc]; simp [rec_])
        rw [hrc] at he
        exact ⟨none, _, he, hdone _ _ (Nat.le_refl _) (hI _ _ _ hi (put_below _ _)) ((World.putObj_heap_other (by omega)).trans hd)⟩
  exact key rec_ rfl
end Go.Proofs.YtldmllmkckklhaaGreatDoor

namespace Go.Proofs.YtldmllmkckklhaaGreatDoor
open Go.RowKit Wal

attribute [local go_sem] Oper.semAt_some

/-- All that is taken is held. -/
def heldF (f : Nat → Option KB) : Nat → Option KB := fun j => (f j).map fun k => (k.1, true)
/-- The first k are held. -/
def heldK (f : Nat → Option KB) (k : Nat) : Nat → Option KB := fun j => if j < k then heldF f j else f j
theorem heldK_zero (f : Nat → Option KB) : heldK f 0 = f := by funext j; simp [heldK]
theorem heldK_skip {f : Nat → Option KB} {k : Nat} (h : f k = none) : heldK f (k + 1) = heldK f k := by
  funext j
  unfold heldK heldF
  by_cases c : j < k
  · rw [if_pos c, if_pos (by omega)]
  · rw [if_neg c]
    by_cases c2 : j = k
    · subst c2; rw [if_pos (by omega), h]; rfl
    · rw [if_neg (by omega)]
theorem heldK_step {f : Nat → Option KB} {k : Nat} {x : KB} (h : f k = some x) : heldK f (k + 1) = put (heldK f k) k (some (x.1, true)) := by
  funext j
  unfold put
  by_cases c2 : j = k
  · subst c2
    rw [if_pos rfl]
    unfold heldK heldF
    rw [if_pos (by omega), h]; rfl
  · rw [if_neg c2]
    unfold heldK heldF
    by_cases c : j < k
    · rw [if_pos c, if_pos (by omega)]
    · rw [if_neg c, if_neg (by omega)]
theorem heldK_some (f : Nat → Option KB) (k j : Nat) : (heldK f k j).isSome = (f j).isSome := by
  unfold heldK heldF
  by_cases c : j < k
  · rw [if_pos c]; cases f j <;> rfl
  · rw [if_neg c]
theorem ptrC_held (ad : Nat → Nat) (f : Nat → Option KB) (k j : Nat) : ptrC ad (heldK f k) j = ptrC ad f j := by
  have := heldK_some f k j
  unfold ptrC
  cases h1 : heldK f k j <;> cases h2 : f j <;> simp [h1, h2] at this ⊢
theorem heldK_at {f : Nat → Option KB} (k : Nat) : heldK f k k = f k := by unfold heldK; rw [if_neg (by omega)]
theorem blkC_flag (x : KB) (h : x.1.length = 512) : (blkC x).setIfInBounds 512 (.bool true) = blkC (x.1, true) := by
  unfold blkC
  rw [List.setIfInBounds_toArray, List.set_append_right _ _ (by simp [h])]
  simp [h]
theorem MemIs.hold {B : Nat} {W : World} {p g n : Nat} {ad : Nat → Nat} {f : Nat → Option KB} (h : MemIs B W p g n ad f) {k : Nat} {x : KB} (hf : f k = some x) : MemIs B (W.setCell ⟨ad k, 512, none⟩ (.bool true)) p g n ad (put f k (some (x.1, true))) := by
  obtain ⟨h1, h2, h3, h4, h5⟩ := h.each k x hf
  have hs : ∀ j, (put f k (some (x.1, true)) j).isSome = (f j).isSome := fun j => by
    unfold put
    by_cases c : j = k
    · subst c; rw [if_pos rfl, hf]; rfl
    · rw [if_neg c]
  have hn : ∀ j, put f k (some (x.1, true)) j ≠ none → f j ≠ none := fun j hj e => by
    have := hs j
    rw [e] at this
    cases hp : put f k (some (x.1, true)) j with
    | none => exact hj hp
    | some y => rw [hp] at this; cases this
  have hrow : rowC n ad (put f k (some (x.1, true))) = rowC n ad f := by
    unfold rowC
    congr 1
    refine List.map_congr_left fun j _ => ?_
    have := hs j
    unfold ptrC
    cases h6 : put f k (some (x.1, true)) j <;> cases h7 : f j <;> simp [h6, h7] at this ⊢
  refine ⟨h.blk.far (p := ⟨ad k, 512, none⟩) (Held.ne_ h.blk h2 (by decide)) _, ?_, fun i y hy => ?_, fun i j hi hj => h.inj i j (hn i hi) (hn j hj), h.base, h.small⟩
  · rw [hrow]
    exact h.row.far (p := ⟨ad k, 512, none⟩) (Held.ne_ h.row h2 (by decide)) _
  · by_cases c : i = k
    · subst c
      have e : y = (x.1, true) := by
        unfold put at hy
        rw [if_pos rfl] at hy
        injection hy with hy
        exact hy.symm
      subst e
      refine ⟨h1, ?_, h3, h4, h5⟩
      rw [← blkC_flag x h3]
      exact h2.set_ 512 _
    · have hy' : f i = some y := by
        unfold put at hy
        rwa [if_neg c] at hy
      obtain ⟨a1, a2, a3⟩ := h.each i y hy'
      exact ⟨a1, a2.far (p := ⟨ad k, 512, none⟩) (fun e => c (h.inj i k (by rw [hy']; simp) (by rw [hf]; simp) e)) _, a3⟩
set_option maxRecDepth 100000 in
set_option maxHeartbeats 3200000 in
theorem hold_any (B : Nat) (w : World) (p n : Nat) (f : Nat → Option KB) (h : MemAt B w p n f) :
    Calls Tryz.prog 18 #[.pointer (some ⟨p, 0, none⟩)] w fun e w' => e = .returned (.tuple #[]) ∧ MemAt B w' p n (heldF f) ∧ KpS [91] B w w' := by
  obtain ⟨g, ad, h⟩ := h
  have hn := h.small
  have H := Lib.hid h
  clear h
  refine (callsIn_wide (n := 6)).1 ?_
  refine callsIn_of_wp_marks Tryz.func18 rfl trivial ?_ rfl
  refine wpIn_wide.2 ?_
  simp only [Tryz.ntmps18, List.size_toArray, List.length_cons, List.length_nil, Nat.reduceAdd, Nat.reduceSub, Array.replicate_succ, Array.replicate_zero, List.push_toArray, List.append_toArray, List.nil_append, List.cons_append]
  go_wp2_with fail
  have hI0 : MemIs B w p g n ad (heldK f 0) ∧ KpS [91] B w w := ⟨by rw [heldK_zero]; exact H.out, KpS.refl _ _ _⟩
  have memB : ∀ (k : Nat) (W W' : World), (MemIs B W p g n ad (heldK f k) ∧ KpS [91] B w W) → Below w.heap.size W W' → MemIs B W' p g n ad (heldK f k) ∧ KpS [91] B w W' := fun k W W' hi hb => by
    refine ⟨hi.1.belowC (C := w.heap.size) H.out.blk.lt H.out.row.lt (fun i x hx => ?_) hb, hi.2.fresh2 hb⟩
    have hs := heldK_some f k i
    rw [hx] at hs
    match hf : f i, hs with
    | some y, _ => exact (H.out.each i y hf).2.1.lt
  refine range_hold 5 2 p g n ad f hn rfl (fun k W => MemIs B W p g n ad (heldK f k) ∧ KpS [91] B w W) memB (fun W hi => hi.1.blk.cell 0) (fun i W hi j hj => by rw [hi.1.ptr j hj, ptrC_held]) (fun i W hi hf hh => by rw [heldK_skip hf]; exact hh) hI0 ?asg ?body ?done
  case asg =>
    intro l Q' x W hQ
    have HQ := Lib.hid hQ
    simp only [List.setIfInBounds_toArray, List.set_cons_succ, List.set_cons_zero] at HQ ⊢
    clear hQ
    gi_wp2
    exact HQ.out
  case body =>
    rintro l k x W hk hf ⟨hm, hK⟩
    simp only [List.setIfInBounds_toArray, List.set_cons_succ, List.set_cons_zero]
    have hfx : heldK f k k = some x := (heldK_at k).trans hf
    obtain ⟨_, hb, hl, h8, hB⟩ := hm.each k x hfx
    have c0 : W.cell? ⟨ad k, 512, none⟩ = some (.bool x.2) := by rw [hb.cell, blkC_held _ hl]
    have z0 := hb.frozen 512
    have lt := hb.lt
    have FIN : Hid (HoldPost w.heap.size (fun k W => MemIs B W p g n ad (heldK f k) ∧ KpS [91] B w W) k W .normal { tmps := #[], defers := [] } (W.setCell ⟨ad k, 512, none⟩ (.bool true))) := by
      refine ⟨⟨by simp [World.setCell], fun i o hi ho _ => (Below.heap_setCell _ _ _ _ (by have := (H.out.each k x hf).2.1.lt; show i ≠ ad k; omega)).trans ho⟩, ?_, hK.set_ hb (by simp) hB 512 _⟩
      rw [heldK_step hf]
      exact hm.hold hfx
    clear hm hK hb hl h8 hB hf hfx
    gi_wp2
    exact FIN.out
  case done =>
    rintro D0 W hD0 ⟨hm, hK⟩ hd
    have HK := Lib.hid hd
    have e : heldK f n = heldF f := by
      funext j
      unfold heldK
      by_cases c : j < n
      · rw [if_pos c]
      · rw [if_neg c]
        unfold heldF
        cases hf : f j with
        | none => rfl
        | some y => exact absurd (H.out.each j y hf).1 c
    have FIN : Hid (∀ W', Below w.heap.size W W' → MemAt B W' p n (heldF f) ∧ KpS [91] B w W') := fun W' hb => by
      obtain ⟨h1, h2⟩ := memB n W W' ⟨hm, hK⟩ hb
      rw [e] at h1
      exact ⟨⟨g, ad, h1⟩, h2⟩
    clear e
    clear hm hK hd
    go_wp2_with fail
    refine ⟨by simp, .inl ⟨_, _, rfl, run_takeDeferred HK.out, ?_⟩⟩
    refine ⟨_, results_none rfl _ _ _, rfl, ?_⟩
    exact FIN.out _ ⟨rfl, rfl, rfl, by simp [World.putObj], fun k hk => World.putObj_heap_other (by omega)⟩
end Go.Proofs.YtldmllmkckklhaaGreatDoor

namespace Go.Proofs.YtldmllmkckklhaaGreatDoor
open Go.RowKit Wal

theorem TreeIs.held {f : Nat → Option KB} : ∀ {d b : Nat} {es : List En} {bs : List Nat}, TreeIs f d b es bs → TreeIs (heldF f) d b es bs
  | 0, b, es, bs, ⟨h1, h2, ⟨h, h3⟩, h4, h5, h6⟩ => ⟨h1, h2, ⟨true, by unfold heldF; rw [h3]; rfl⟩, h4, h5, h6⟩
  | d + 1, b, es, bs, ⟨ks, h1, h2, ⟨h, h3⟩, h4, h5, h6, h7, h8⟩ => ⟨ks, h1, h2, ⟨true, by unfold heldF; rw [h3]; rfl⟩, h4, h5, fun k hk => TreeIs.held (h6 k hk), h7, h8⟩
theorem Tree.held {f : Nat → Option KB} {root : Nat} {es : List En} {bs : List Nat} (h : Tree f root es bs) : Tree (heldF f) root es bs := by
  rcases h with h | ⟨d, t, hr, hn⟩
  · exact .inl h
  · exact .inr ⟨d, t.held, hr, hn⟩
theorem Tree.taken {f : Nat → Option KB} {root : Nat} {es : List En} {bs : List Nat} (h : Tree f root es bs) : ∀ v ∈ bs, 0 < v ∧ v ≤ 4096 ∧ ∃ x, f (v - 1) = some x := by
  obtain ⟨⟨d, ha⟩, _, _⟩ := tree_at.1 h
  exact ha.taken
theorem Tree.same {f f' : Nat → Option KB} {root : Nat} {es : List En} {bs : List Nat} (h : Tree f root es bs) (hs : ∀ v ∈ bs, f' (v - 1) = f (v - 1)) : Tree f' root es bs := by
  rcases h with h | ⟨d, t, hr, hn⟩
  · exact .inl h
  · exact .inr ⟨d, t.same hs, hr, hn⟩
theorem Full.hold {n : Nat} {f : Nat → Option KB} {root : Nat} {es : List En} {bs : List Nat} (h : Full n f bs []) (ht : Tree f root es bs) : Full n (heldF f) bs bs := by
  refine ⟨fun j hj => ?_, fun v hv => ?_, fun j l hj => ?_⟩
  · have : f j ≠ none := fun e => hj (by unfold heldF; rw [e]; rfl)
    obtain ⟨h1, h2⟩ := h.taken j this
    rcases h2 with h2 | h2
    · exact ⟨h1, .inl h2⟩
    · cases h2
  · obtain ⟨h1, _, x, hx⟩ := ht.taken v hv
    exact ⟨h1, x.1, by unfold heldF; rw [hx]; rfl⟩
  · have : f j ≠ none := fun e => by unfold heldF at hj; rw [e] at hj; cases hj
    obtain ⟨_, h2⟩ := h.taken j this
    rcases h2 with h2 | h2
    · exact h2
    · cases h2
theorem OpsAt.get {w : World} {A : Option Addr} {n : Nat} {l : Nat → OT} (h : OpsAt w A n l) {i : Nat} (hi : i < n) : ∃ b off, A = some ⟨b, off, none⟩ ∧ b < w.heap.size ∧ w.cell? ⟨b, off + i * 4, none⟩ = some (.int .u8 ((l i).kind : Int)) ∧ w.cell? ⟨b, off + i * 4 + 1, none⟩ = some (.string (strB (l i).key)) ∧ w.cell? ⟨b, off + i * 4 + 2, none⟩ = some (.string (strB (l i).val)) ∧ w.cell? ⟨b, off + i * 4 + 3, none⟩ = some (.int .i64 (l i).most) := by
  obtain ⟨b, off, e, hl, hc⟩ := h.2 (by omega)
  exact ⟨b, off, e, hl, hc i hi 0 (by omega), hc i hi 1 (by omega), hc i hi 2 (by omega), hc i hi 3 (by omega)⟩
theorem KpS.all {B : Nat} {w w' : World} (h : KpS TS2 B w w') (hB : B ≤ w.heap.size) : Below B w w' := h.below hB
end Go.Proofs.YtldmllmkckklhaaGreatDoor
