/-
  uri: a range over strings.SplitSeq whose round goes on or returns: the law for its callers.
-/
import Derived.Test.YtpnmddealjoiiaaDoorU22
import Derived.RangeFuncWrites
namespace Go.Proofs.YtpnmddealjoiiaaDoor
open Go.RowKit Go.Shelf Uri

/-- Nothing that lay below B has turned, but for one block. -/
def Bar (B b : Nat) (W W' : World) : Prop := W'.os = W.os ∧ W'.tape = W.tape ∧ W'.output = W.output ∧ W.heap.size ≤ W'.heap.size ∧ ∀ k, k < B → k ≠ b → W'.heap[k]? = W.heap[k]?
theorem Bar.alloc (B b : Nat) (W : World) (o : Obj) (h : B ≤ W.heap.size) : Bar B b W (W.alloc o) := ⟨rfl, rfl, rfl, by simp, fun _ hk _ => Below.heap_alloc _ _ _ (by omega)⟩
theorem Bar.put (B b : Nat) (W : World) (l : Nat) (o : Obj) (h : B ≤ l) : Bar B b W (W.putObj l o) := ⟨rfl, rfl, rfl, by simp [World.putObj], fun k hk _ => World.putObj_heap_other (by omega)⟩
theorem Bar.cell (B b : Nat) (W : World) (v : Value) : Bar B b W (W.setCell ⟨b, 0, none⟩ v) := ⟨rfl, rfl, rfl, by simp [World.setCell], fun k _ hk => Below.heap_setCell _ _ _ _ hk⟩
/-- How a round's body may be left: it goes on, or returns. -/
def RoundPost (B Bs Bp Bv : Nat) (I : Nat → World → Prop) (Ix : World → Prop) (k : Nat) (W : World) : Exit → Act → World → Prop
  | .normal, _, W' => KeepsFrom B W W' ∧ BoxesSame Bs Bp Bv W W' ∧ I (k + 1) W'
  | .ret, _, W' => KeepsFrom B W W' ∧ Ix W'
  | _, _, _ => False

theorem range_split (p q : Nat) {gop : Operand} {assign body : Code} {Q : Exit → Act → World → Prop} {a : Act} {w : World} (Bs Bp Bv : Nat)
    (hg : a.eval gop = .func (.func 53) #[] #[.pointer (some ⟨Bp, 0, none⟩), .pointer (some ⟨Bs, 0, none⟩), .pointer (some ⟨Bv, 0, none⟩)]) (h1 : Bs ≠ Bp) (h2 : Bs ≠ Bv)
    (s : ByteArray) (hs : s.size ≤ 4194304) (D : List ByteArray) (hD : txts D = pieces (nums s))
    (hBs : Boxed w Bs 9 (.string s)) (hBp : Boxed w Bp 9 (.string ⟨#[47]⟩)) (hBv : Boxed w Bv 3 (.int .i64 0))
    (I : Nat → World → Prop) (Ix : World → Prop) (hI : ∀ k W W', I k W → Bar w.heap.size Bs W W' → I k W') (hIx : ∀ W W', Ix W → Bar w.heap.size Bs W W' → Ix W') (h0 : I 0 w)
    (hassign : ∀ (l : Nat) (x : ByteArray) (W : World) (K : Act → World → Prop), K { tmps := (a.tmps.setIfInBounds q (.string x)).setIfInBounds p (.string x), defers := [] } W →
      assign.wpIn (Fence.wide.inRound l) 4 Tryd.prog (Exit.then K (fun _ _ _ => False)) { tmps := a.tmps.setIfInBounds q (.string x), defers := [] } W)
    (hbody : ∀ (l k : Nat) (x : ByteArray) (W : World), D[k]? = some x → I k W → body.wpIn (Fence.wide.inRound l) 4 Tryd.prog (RoundPost w.heap.size Bs Bp Bv I Ix k W) { tmps := (a.tmps.setIfInBounds q (.string x)).setIfInBounds p (.string x), defers := [] } W)
    (hdone : ∀ (d : Nat) (W : World), w.heap.size ≤ d → I D.length W → W.heap[d]? = some (.deferred (some [])) → Q .normal { a with defers := { target := .collected d, args := #[] } :: a.defers } W)
    (hstop : ∀ (d : Nat) (W : World), w.heap.size ≤ d → Ix W → W.heap[d]? = some (.deferred (some [])) → Code.ret.wp Tryd.prog Q { a with defers := { target := .collected d, args := #[] } :: a.defers } W) :
    (Code.rangeFunc gop #[q] assign body).wp Tryd.prog Q a w := by
  refine (wpIn_wide (n := 6)).1 (wpIn_rangeFunc fun fn hfn => ?_)
  let rec_ : LoopState → Option Code → Loop := fun st pe => { state := st, pending := pe, fn, tmps := a.tmps, params := #[q], assign, body, defers := w.heap.size }
  have key : ∀ (rc : LoopState → Option Code → Loop), rc = rec_ → ∃ (l : Nat) (mark : List Deferred) (w₁ : World) (d : Deferred) (w₁' : World) (f : FuncId) (args : Array Value) (w₂ : World),
      (Instr.enterLoop fn a.tmps #[q] assign body Fence.wide.round).run Tryd.prog w = .ok (l, mark) w₁ ∧ (resolve a.eval (rangeCall gop l) 0).run Tryd.prog w₁ = .ok d w₁' ∧
      (∀ f', Target.leads Tryd.prog w₁' d.target d.args = some f' → Fence.wide.fn f') ∧ (invoke d.target d.args).run Tryd.prog w₁' = .ok (.enter f args) w₂ ∧ (Fence.wide.depth.isSome = true → 1 ≤ 6) ∧
      CallsIn Fence.wide (6 - 1) Tryd.prog f args w₂ (rangePost Fence.wide 6 Tryd.prog l Q { a with defers := mark ++ a.defers }) := by
    intro rc hrc
    have L : w.heap.size < w.heap.size + 1 := Nat.lt_succ_self _
    obtain ⟨W1, hW1⟩ : ∃ W1, W1 = (w.alloc (.deferred (some []))).alloc (.loop (rc .ready none)) := ⟨_, rfl⟩
    have sz : (w.alloc (.deferred (some []))).heap.size = w.heap.size + 1 := World.size_alloc _ _
    have l1 : W1.heap[w.heap.size + 1]? = some (.loop (rc .ready none)) := by
      rw [hW1, ← sz]
      exact World.alloc_heap_new _ _
    have d1 : W1.heap[w.heap.size]? = some (.deferred (some [])) := by
      rw [hW1]
      exact (Below.heap_alloc _ _ _ (by rw [sz]; exact L)).trans (World.alloc_heap_new w _)
    have i1 : I 0 W1 := by
      rw [hW1]
      exact hI 0 _ _ (hI 0 _ _ h0 (Bar.alloc _ _ _ _ (Nat.le_refl _))) (Bar.alloc _ _ _ _ (by rw [sz]; exact Nat.le_of_lt L))
    have old : ∀ k, k < w.heap.size → W1.heap[k]? = w.heap[k]? := fun k hk => by
      rw [hW1]
      exact (Below.heap_alloc _ _ _ (by rw [sz]; omega)).trans (Below.heap_alloc _ _ _ hk)
    refine ⟨w.heap.size + 1, [{ target := .collected w.heap.size, args := #[] }], W1, { target := .fn (.func 53) #[.pointer (some ⟨Bp, 0, none⟩), .pointer (some ⟨Bs, 0, none⟩), .pointer (some ⟨Bv, 0, none⟩)], args := #[.func (.yield (w.heap.size + 1)) #[] #[]] }, W1, 53,
      #[.func (.yield (w.heap.size + 1)) #[] #[], .pointer (some ⟨Bp, 0, none⟩), .pointer (some ⟨Bs, 0, none⟩), .pointer (some ⟨Bv, 0, none⟩)], W1, ?_, ?_, fun _ _ => trivial, ?_, fun _ => by omega, ?_⟩
    · rw [hW1, hrc]
      exact run_enterLoop_outer _ _ _ _ _
    · simp only [resolve, hg]
      simp [go_sem]
    · simp [invoke, go_sem]
    · have BsL : Bs < w.heap.size := hBs.lt
      refine (split1_in 5 (by omega) (w.heap.size + 1) Bs Bp Bv h1 h2 s hs D hD
        (fun k W => I k W ∧ W.heap[w.heap.size + 1]? = some (.loop (rc .ready none)) ∧ W.heap[w.heap.size]? = some (.deferred (some [])))
        (fun W => Ix W ∧ W.heap[w.heap.size + 1]? = some (.loop (rc .done (some .ret))) ∧ W.heap[w.heap.size]? = some (.deferred (some [])))
        (fun k W v h => ⟨hI _ _ _ h.1 (Bar.cell _ _ _ _), (Below.heap_setCell _ _ _ _ (by show w.heap.size + 1 ≠ Bs; omega)).trans h.2.1, (Below.heap_setCell _ _ _ _ (by show w.heap.size ≠ Bs; omega)).trans h.2.2⟩)
        ?_ W1 ((old _ hBs.lt).trans hBs) ((old _ hBp.lt).trans hBp) ((old _ hBv.lt).trans hBv) ⟨i1, l1, d1⟩).mono ?_
      · rintro k x W hx ⟨hi, hl, hd⟩
        have lt1 : w.heap.size + 1 < W.heap.size := (Array.getElem?_eq_some_iff.1 hl).1
        have hy := run_yield (P := Tryd.prog) (args := #[.string x]) hl (by rw [hrc]; rfl)
        obtain ⟨W2, hW2⟩ : ∃ W2, W2 = W.putObj (w.heap.size + 1) (.loop { rc .ready none with state := .busy }) := ⟨_, rfl⟩
        have hl2 : W2.heap[w.heap.size + 1]? = some (.loop { rc .ready none with state := .busy }) := by rw [hW2]; exact World.putObj_heap_same lt1
        have hd2 : W2.heap[w.heap.size]? = some (.deferred (some [])) := by rw [hW2]; exact (World.putObj_heap_other (by omega)).trans hd
        have hi2 : I k W2 := by rw [hW2]; exact hI _ _ _ hi (Bar.put _ _ _ _ _ (by omega))
        have bx2 : BoxesSame Bs Bp Bv W W2 := by
          rw [hW2]
          exact ⟨World.putObj_heap_other (by have := hBs.lt; omega), World.putObj_heap_other (by have := hBp.lt; omega), World.putObj_heap_other (by have := hBv.lt; omega)⟩
        have hbg := run_beginRound (P := Tryd.prog) hl (by rw [hrc])
        rw [← hW2] at hbg
        rw [hrc] at hy
        refine ⟨fn, _, assign, body, hy, roundIn_of_wpIn hfn ?_⟩
        have e : ((#[q] : Array Tmp).zip #[Value.string x]).foldl (fun (t : Array Value) (x : Tmp × Value) => match x with | (p, v) => t.setIfInBounds p v) a.tmps = a.tmps.setIfInBounds q (.string x) := by simp
        change assign.wpIn (Fence.wide.inRound (w.heap.size + 1)) _ _ _ { tmps := ((#[q] : Array Tmp).zip #[Value.string x]).foldl (fun (t : Array Value) (x : Tmp × Value) => match x with | (p, v) => t.setIfInBounds p v) a.tmps, defers := [] } W
        rw [e]
        refine hassign _ x W _ ?_
        refine ⟨W2, hbg, ?_⟩
        refine wpIn_mono (hbody _ k x W2 hx hi2) ?_
        have fin : ∀ (jump : Option Code) (W3 : World), KeepsFrom w.heap.size W2 W3 → ∃ W4, W4 = W3.putObj (w.heap.size + 1) (.loop (rc (if jump.isNone then .ready else .done) jump)) ∧ (Instr.endRound (w.heap.size + 1) jump).run Tryd.prog W3 = .ok (.bool jump.isNone) W4 ∧
            W4.heap[w.heap.size + 1]? = some (.loop (rc (if jump.isNone then .ready else .done) jump)) ∧ W4.heap[w.heap.size]? = some (.deferred (some [])) := fun jump W3 hk => by
          have hl3 := hk.same _ _ (by omega) hl2 rfl
          have hr := run_endRound (P := Tryd.prog) jump hl3
          refine ⟨_, rfl, ?_, World.putObj_heap_same (Array.getElem?_eq_some_iff.1 hl3).1, (World.putObj_heap_other (by omega)).trans (hk.same _ _ (Nat.le_refl _) hd2 rfl)⟩
          rw [hrc] at hr ⊢
          exact hr
        rintro e a3 W3 hp
        cases e with
        | normal =>
          obtain ⟨hk3, hb3, hi3⟩ := hp
          obtain ⟨W4, e4, hr, hl4, hd4⟩ := fin none W3 hk3
          refine ⟨_, W4, hr, .inl ⟨rfl, ⟨by rw [e4]; exact hI _ _ _ hi3 (Bar.put _ _ _ _ _ (by omega)), hl4, hd4⟩, ?_⟩⟩
          have t : ∀ b, b < w.heap.size → W4.heap[b]? = W3.heap[b]? := fun b hb => by rw [e4]; exact World.putObj_heap_other (by omega)
          exact ⟨((t _ hBs.lt).trans hb3.1).trans bx2.1, ((t _ hBp.lt).trans hb3.2.1).trans bx2.2.1, ((t _ hBv.lt).trans hb3.2.2).trans bx2.2.2⟩
        | ret =>
          obtain ⟨hk3, hi3⟩ := hp
          obtain ⟨W4, e4, hr, hl4, hd4⟩ := fin (some .ret) W3 hk3
          exact ⟨_, W4, hr, .inr ⟨rfl, by rw [e4]; exact hIx _ _ hi3 (Bar.put _ _ _ _ _ (by omega)), hl4, hd4⟩⟩
        | exit id => exact hp.elim
        | goto t => exact hp.elim
        | panic ch => exact hp.elim
        | outgrown => exact hp.elim
      · rintro e W2 ⟨⟨v, rfl⟩, (⟨hi, hl, hd⟩ | ⟨hi, hl, hd⟩)⟩
        · have he := run_endLoop (P := Tryd.prog) hl (by rw [hrc]; simp [rec_])
          rw [hrc] at he
          exact ⟨none, _, he, hdone _ _ (Nat.le_refl _) (hI _ _ _ hi (Bar.put _ _ _ _ _ (by omega))) ((World.putObj_heap_other (by omega)).trans hd)⟩
        · have he := run_endLoop (P := Tryd.prog) hl (by rw [hrc]; simp [rec_])
          rw [hrc] at he
          exact ⟨some .ret, _, he, wpIn_wide.2 (hstop _ _ (Nat.le_refl _) (hIx _ _ hi (Bar.put _ _ _ _ _ (by omega))) ((World.putObj_heap_other (by omega)).trans hd))⟩
  exact key rec_ rfl
end Go.Proofs.YtpnmddealjoiiaaDoor
