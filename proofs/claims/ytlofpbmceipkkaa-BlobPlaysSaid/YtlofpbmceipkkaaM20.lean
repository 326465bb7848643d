/-
  blob: a range over slices.Backward.
-/
import Derived.Test.YtlofpbmceipkkaaM19
namespace Go.Proofs.Ytlofpbmceipkkaa
open Go.RowKit Wal Blob

attribute [local go_sem] Oper.semAt_some

/-- What was written down as cells is as it was. -/
structure Aside (w w' : World) : Prop where
  os : w'.os = w.os
  tape : w'.tape = w.tape
  output : w'.output = w.output
  size : w.heap.size ≤ w'.heap.size
  cells : ∀ (k : Nat) (cs : Array Value) (t : TypeId) (m : Nat × Nat), w.heap[k]? = some (.cells cs t m) → w'.heap[k]? = some (.cells cs t m)
section
variable {w w' : World}
theorem Aside.held (h : Aside w w') {b t : Nat} {cs : Array Value} (k : Held w b t cs) : Held w' b t cs := h.cells _ _ _ _ k
theorem Aside.ints (h : Aside w w') {A : Option Addr} {bs : List Nat} (k : IntsAt w A bs) : IntsAt w' A bs := fun hp => by
  obtain ⟨g, off, cs, e, hh, hc⟩ := k hp
  exact ⟨g, off, cs, e, h.held hh, hc⟩
theorem Aside.mem (h : Aside w w') {B p n : Nat} {f : Nat → Option KB} (k : MemAt B w p n f) : MemAt B w' p n f := by
  obtain ⟨g, ad, k⟩ := k
  exact ⟨g, ad, h.held k.blk, h.held k.row, fun i x hx => by
    obtain ⟨a1, a2, a3⟩ := k.each i x hx
    exact ⟨a1, h.held a2, a3⟩, k.inj, k.base, k.small⟩
theorem Aside.below (h : Below w.heap.size w w') : Aside w w' := ⟨h.os, h.tape, h.output, h.size, fun k _ _ _ hk => (h.block k (Array.getElem?_eq_some_iff.1 hk).1).trans hk⟩
theorem Aside.putObj {d : Nat} {o' : Obj} (o : Obj) (hd : w.heap[d]? = some o') (hn : o'.isCells = false) : Aside w (w.putObj d o) :=
  ⟨rfl, rfl, rfl, by simp [World.putObj], fun _ _ _ _ hk => (World.putObj_heap_other (fun e => by
    subst e
    rw [hd] at hk
    injection hk with hk
    subst hk
    cases hn)).trans hk⟩
end
set_option maxRecDepth 100000 in
set_option maxHeartbeats 3200000 in
theorem back_in (m : Nat) (hm : 1 ≤ m) (l bx : Nat) (vs : List Nat) (A : Option Addr) (c : Nat) (hv : vs.length ≤ 100000) (J : Nat → World → Prop)
    (hJ : ∀ k W, J k W → Held W bx 59 #[.slice A vs.length c] ∧ IntsAt W A vs)
    (hY : ∀ k W, k < vs.length → J k W → YieldAt Fence.wide (m - 1) Try.prog l #[.int .i64 ((vs.length - 1 - k : Nat) : Int), .int .i64 ((vs.getD (vs.length - 1 - k) 0 : Nat) : Int)] W fun e W' => e = .returned (.bool true) ∧ J (k + 1) W')
    (W : World) (h0 : J 0 W) :
    CallsIn Fence.wide m Try.prog 48 #[.func (.yield l) #[] #[], .pointer (some ⟨bx, 0, none⟩)] W fun e W' => (∃ v, e = .returned v) ∧ J vs.length W' := by
  have c0 : W.cell? ⟨bx, 0, none⟩ = some (.slice A vs.length c) := (hJ 0 W h0).1.cell 0
  have HJ := Lib.hid hJ
  have HY := Lib.hid hY
  have H0 := Lib.hid h0
  clear hY hJ h0
  obtain ⟨n, hn⟩ : ∃ n, n = vs.length := ⟨_, rfl⟩
  refine callsIn_of_wp Try.func48 rfl trivial ?_ rfl
  simp only [Try.ntmps48, List.size_toArray, List.length_cons, List.length_nil, Nat.reduceAdd, Nat.reduceSub, Array.replicate_succ, Array.replicate_zero, List.push_toArray, List.append_toArray, List.nil_append, List.cons_append]
  have HN := Lib.hid hn
  have e0 : ((vs.length : Nat) : Int) - 1 = (n : Int) - 1 := by omega
  clear hn
  gi_wp2
  gi_loopw [3] (fun i wr => ∃ k : Nat, k ≤ n ∧ i = .int .i64 ((n : Int) - 1 - (k : Int)) ∧ Hid (J k wr)) (fun i _ => (intOf i + 1).toNat)
  case atStart => exact ⟨0, by omega, by rw [Int.natCast_zero, Int.sub_zero], H0.out⟩
  case round =>
    obtain ⟨k, hk, rfl, HK⟩ := hrel
    by_cases hlt : k < n
    · obtain ⟨hb, hi⟩ := HJ.out k wr HK.out
      have c1 : wr.cell? ⟨bx, 0, none⟩ = some (.slice A vs.length c) := hb.cell 0
      have hl : k < vs.length := by have := HN.out; omega
      obtain ⟨g, off, rfl, hc⟩ := hi.cell (i := vs.length - 1 - k) (by omega)
      obtain ⟨fn, tmps, assign, body, hy, hR⟩ := HY.out k wr hl HK.out
      have RR := Lib.hid hR
      obtain ⟨j, hj⟩ : ∃ j, j = vs.length - 1 - k := ⟨_, rfl⟩
      have ej : (n : Int) - 1 - (k : Int) = (j : Int) := by have := HN.out; omega
      have lj : (j : Int) < ((vs.length : Nat) : Int) := by omega
      have wj : wrap64 ((j : Int) - 1) = (n : Int) - 1 - ((k + 1 : Nat) : Int) := by unfold wrap64; omega
      have wj2 : (j : Int) - 1 = (n : Int) - 1 - ((k + 1 : Nat) : Int) := by omega
      rw [← hj] at hc hy
      generalize vs.getD j 0 = v at hc hy
      rw [ej]
      have MJ : Hid ((n : Int) - 1 - ((k + 1 : Nat) : Int) + 1 = (j : Int)) := by show _ = _; omega
      clear hR hb hi hj ej c0 e0
      gi_wp2
      refine RR.out.mono ?_
      rintro e W3 ⟨rfl, hJ3⟩
      have F : Hid (J (k + 1) W3) := hJ3
      clear hJ3 hy
      gi_wp2
      go_roundw
      case rel => exact ⟨k + 1, by omega, congrArg (Value.int .i64) (by omega), F⟩
      case measure =>
        have h1 := MJ.out
        simp only [intOf]
        omega
    · obtain rfl : k = n := by omega
      have hz : ¬ (0 : Int) ≤ (k : Int) - 1 - (k : Int) := by omega
      clear c0
      gi_wp2
      go_end0
      exact ⟨⟨_, rfl⟩, by rw [← HN.out]; exact HK.out⟩
/-- How a round's body may be left: it goes on. -/
def BackPost (B : Nat) (I : Nat → World → Prop) (k : Nat) (W : World) : Exit → Act → World → Prop
  | .normal, _, W' => KeepsFrom B W W' ∧ I (k + 1) W'
  | _, _, _ => False
theorem range_back (p q1 q2 : Nat) {gop : Operand} {assign body : Code} {Q : Exit → Act → World → Prop} {a : Act} {w : World} (bx : Nat) (vs : List Nat) (A : Option Addr) (c : Nat) (hv : vs.length ≤ 100000)
    (hg : a.eval gop = .func (.func 48) #[] #[.pointer (some ⟨bx, 0, none⟩)])
    (I : Nat → World → Prop) (hI : ∀ k W W', I k W → Aside W W' → Below w.heap.size W W' → I k W') (hIm : ∀ k W, I k W → Held W bx 59 #[.slice A vs.length c] ∧ IntsAt W A vs) (h0 : I 0 w)
    (hassign : ∀ (l : Nat) (x y : Value) (W : World) (K : Act → World → Prop), K { tmps := ((a.tmps.setIfInBounds q1 x).setIfInBounds q2 y).setIfInBounds p y, defers := [] } W →
      assign.wpIn (Fence.wide.inRound l) 4 Try.prog (Exit.then K (fun _ _ _ => False)) { tmps := (a.tmps.setIfInBounds q1 x).setIfInBounds q2 y, defers := [] } W)
    (hbody : ∀ (l k : Nat) (W : World), k < vs.length → I k W → body.wpIn (Fence.wide.inRound l) 4 Try.prog (BackPost w.heap.size I k W) { tmps := ((a.tmps.setIfInBounds q1 (.int .i64 ((vs.length - 1 - k : Nat) : Int))).setIfInBounds q2 (.int .i64 ((vs.getD (vs.length - 1 - k) 0 : Nat) : Int))).setIfInBounds p (.int .i64 ((vs.getD (vs.length - 1 - k) 0 : Nat) : Int)), defers := [] } W)
    (hdone : ∀ (d : Nat) (W : World), w.heap.size ≤ d → I vs.length W → W.heap[d]? = some (.deferred (some [])) → Q .normal { a with defers := { target := .collected d, args := #[] } :: a.defers } W) :
    (Code.rangeFunc gop #[q1, q2] assign body).wp Try.prog Q a w := by
  refine (wpIn_wide (n := 6)).1 (wpIn_rangeFunc fun fn hfn => ?_)
  let rec_ : LoopState → Option Code → Loop := fun st pe => { state := st, pending := pe, fn, tmps := a.tmps, params := #[q1, q2], assign, body, defers := w.heap.size }
  have key : ∀ (rc : LoopState → Option Code → Loop), rc = rec_ → ∃ (l : Nat) (mark : List Deferred) (w₁ : World) (d : Deferred) (w₁' : World) (f : FuncId) (args : Array Value) (w₂ : World),
      (Instr.enterLoop fn a.tmps #[q1, q2] assign body Fence.wide.round).run Try.prog w = .ok (l, mark) w₁ ∧ (resolve a.eval (rangeCall gop l) 0).run Try.prog w₁ = .ok d w₁' ∧
      (∀ f', Target.leads Try.prog w₁' d.target d.args = some f' → Fence.wide.fn f') ∧ (invoke d.target d.args).run Try.prog w₁' = .ok (.enter f args) w₂ ∧ (Fence.wide.depth.isSome = true → 1 ≤ 6) ∧
      CallsIn Fence.wide (6 - 1) Try.prog f args w₂ (rangePost Fence.wide 6 Try.prog l Q { a with defers := mark ++ a.defers }) := by
    intro rc hrc
    have L : w.heap.size < w.heap.size + 1 := Nat.lt_succ_self _
    obtain ⟨W1, hW1⟩ : ∃ W1, W1 = (w.alloc (.deferred (some []))).alloc (.loop (rc .ready none)) := ⟨_, rfl⟩
    have sz : (w.alloc (.deferred (some []))).heap.size = w.heap.size + 1 := World.size_alloc _ _
    have l1 : W1.heap[w.heap.size + 1]? = some (.loop (rc .ready none)) := by
      rw [hW1, ← sz]
      exact World.alloc_heap_new _ _
    have d1 : W1.heap[w.heap.size]? = some (.deferred (some [])) := by
      rw [hW1]
      exact (Below.heap_alloc _ _ _ (by rw [sz]; exact L)).trans (World.alloc_heap_new w _)
    have i1 : I 0 W1 := by
      rw [hW1]
      exact hI 0 _ _ h0 (Aside.below (((Below.refl _ _).alloc (Nat.le_refl _) _).alloc (by rw [sz]; exact Nat.le_of_lt L) _)) (((Below.refl _ _).alloc (Nat.le_refl _) _).alloc (by rw [sz]; exact Nat.le_of_lt L) _)
    refine ⟨w.heap.size + 1, [{ target := .collected w.heap.size, args := #[] }], W1, { target := .fn (.func 48) #[.pointer (some ⟨bx, 0, none⟩)], args := #[.func (.yield (w.heap.size + 1)) #[] #[]] }, W1, 48,
      #[.func (.yield (w.heap.size + 1)) #[] #[], .pointer (some ⟨bx, 0, none⟩)], W1, ?_, ?_, fun _ _ => trivial, ?_, fun _ => by omega, ?_⟩
    · rw [hW1, hrc]
      exact run_enterLoop_outer _ _ _ _ _
    · simp only [resolve, hg]
      simp [go_sem]
    · simp [invoke, go_sem]
    · have put_below : ∀ (W : World) (o : Obj), Below w.heap.size W (W.putObj (w.heap.size + 1) o) := fun W o => ⟨rfl, rfl, rfl, by simp [World.putObj], fun k hk => World.putObj_heap_other (by omega)⟩
      refine (back_in 5 (by omega) (w.heap.size + 1) bx vs A c hv
        (fun k W => I k W ∧ W.heap[w.heap.size + 1]? = some (.loop (rc .ready none)) ∧ W.heap[w.heap.size]? = some (.deferred (some [])))
        (fun k W h => hIm k W h.1) ?_ W1 ⟨i1, l1, d1⟩).mono ?_
      · rintro k W hkn ⟨hi, hl, hd⟩
        have lt1 : w.heap.size + 1 < W.heap.size := (Array.getElem?_eq_some_iff.1 hl).1
        have hy := run_yield (P := Try.prog) (args := #[.int .i64 ((vs.length - 1 - k : Nat) : Int), .int .i64 ((vs.getD (vs.length - 1 - k) 0 : Nat) : Int)]) hl (by rw [hrc]; rfl)
        obtain ⟨W2, hW2⟩ : ∃ W2, W2 = W.putObj (w.heap.size + 1) (.loop { rc .ready none with state := .busy }) := ⟨_, rfl⟩
        have hl2 : W2.heap[w.heap.size + 1]? = some (.loop { rc .ready none with state := .busy }) := by rw [hW2]; exact World.putObj_heap_same lt1
        have hd2 : W2.heap[w.heap.size]? = some (.deferred (some [])) := by rw [hW2]; exact (World.putObj_heap_other (by omega)).trans hd
        have hi2 : I k W2 := by rw [hW2]; exact hI _ _ _ hi (Aside.putObj _ hl rfl) (put_below _ _)
        have hbg := run_beginRound (P := Try.prog) hl (by rw [hrc])
        rw [← hW2] at hbg
        rw [hrc] at hy
        refine ⟨fn, _, assign, body, hy, roundIn_of_wpIn hfn ?_⟩
        have e : ∀ x y : Value, ((#[q1, q2] : Array Tmp).zip #[x, y]).foldl (fun (t : Array Value) (x : Tmp × Value) => match x with | (p, v) => t.setIfInBounds p v) a.tmps = (a.tmps.setIfInBounds q1 x).setIfInBounds q2 y := fun x y => by simp
        change assign.wpIn (Fence.wide.inRound (w.heap.size + 1)) _ _ _ { tmps := ((#[q1, q2] : Array Tmp).zip #[.int .i64 ((vs.length - 1 - k : Nat) : Int), .int .i64 ((vs.getD (vs.length - 1 - k) 0 : Nat) : Int)]).foldl (fun (t : Array Value) (x : Tmp × Value) => match x with | (p, v) => t.setIfInBounds p v) a.tmps, defers := [] } W
        rw [e]
        refine hassign _ _ _ W _ ?_
        refine ⟨W2, hbg, ?_⟩
        refine wpIn_mono (hbody _ k W2 hkn hi2) ?_
        rintro e a3 W3 hp
        cases e with
        | normal =>
          obtain ⟨hk3, hi3⟩ := hp
          have hl3 := hk3.same _ _ (by omega) hl2 rfl
          have hr := run_endRound (P := Try.prog) none hl3
          rw [hrc] at hr
          refine ⟨_, _, hr, rfl, hI _ _ _ hi3 (Aside.putObj _ hl3 rfl) (put_below _ _), ?_, (World.putObj_heap_other (by omega)).trans (hk3.same _ _ (Nat.le_refl _) hd2 rfl)⟩
          rw [hrc]
          exact World.putObj_heap_same (Array.getElem?_eq_some_iff.1 hl3).1
        | ret => exact hp.elim
        | exit id => exact hp.elim
        | goto t => exact hp.elim
        | panic ch => exact hp.elim
        | outgrown => exact hp.elim
      · rintro e W2 ⟨⟨v, rfl⟩, hi, hl, hd⟩
        have he := run_endLoop (P := Try.prog) hl (by rw [hrc]; simp [rec_])
        rw [hrc] at he
        exact ⟨none, _, he, hdone _ _ (Nat.le_refl _) (hI _ _ _ hi (Aside.putObj _ hl rfl) (put_below _ _)) ((World.putObj_heap_other (by omega)).trans hd)⟩
  exact key rec_ rfl
end Go.Proofs.Ytlofpbmceipkkaa
