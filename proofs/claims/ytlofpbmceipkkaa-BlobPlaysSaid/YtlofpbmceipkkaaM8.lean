/-
  blob: heed; attempt: a panic that is recovered.
-/
import Derived.Test.YtlofpbmceipkkaaM7
import Derived.Defers
import Derived.Recover
namespace Go.Proofs.Ytlofpbmceipkkaa
open Go.RowKit

/-- What is given up with. -/
def troubleV (err : Int) : Value := .iface 86 (.agg #[.int .i64 err])
theorem heed_ok (w : World) : Calls Try.prog 37 #[.int .i64 0] w fun e w' => e = .returned (.tuple #[]) ∧ w = w' := by
  go_enter Try.func37, Try.ntmps37
  go_wp2
  go_end0
  exact ⟨rfl, rfl⟩
theorem heed_bad (w : World) (err : Int) (h : err ≠ 0) : Calls Try.prog 37 #[.int .i64 err] w fun e w' => e = .panicked [{ v := troubleV err, recovered := false }] ∧ w = w' := by
  have q : (err != 0) = true := by simp [h]
  go_enter Try.func37, Try.ntmps37
  go_wp2
  exact ⟨rfl, rfl, rfl⟩
set_option maxRecDepth 100000 in
theorem catch_panicking (p : Addr) (x : Value) (err : Int) (older : List PanicEntry) (w : World) (hc : w.cell? p = some x) (hz : w.frozen? p = false) :
    CallsD Try.prog 41 #[.pointer (some p)] (.panicking ({ v := troubleV err, recovered := false } :: older)) w fun e u' w' =>
      e = .returned (.tuple #[]) ∧ u' = .panicking ({ v := troubleV err, recovered := true } :: older) ∧ ∃ o, w' = (w.alloc o).setCell p (.int .i64 err) := by
  refine callsD_of_wpS Try.func41 rfl fun c₀ cs hu => ?_
  have ta : ∀ u, (Instr.typeAssert (.iface 86 (.agg #[.int .i64 err])) 20 86 true).run Try.prog u = .ok (.tuple #[.agg #[.int .i64 err], .bool true]) u := fun u => by
    simp [Instr.typeAssert, go_sem]
  have AL : Below w.heap.size w (w.alloc (.cells #[.int .i64 err] 86)) := (Below.refl _ _).alloc (Nat.le_refl _) _
  have c2 := (AL.cell (p := p) (block_lt hc)).trans hc
  have z2 := (AL.frozen (p := p) (block_lt hc)).trans hz
  clear AL
  unfold troubleV at hu ⊢
  simp only [Try.ntmps41, List.size_toArray, List.length_cons, List.length_nil, Nat.reduceAdd, Nat.reduceSub, Array.replicate_succ, Array.replicate_zero, List.push_toArray, List.append_toArray, List.nil_append, List.cons_append]
  apply wpS_seq
  apply wpS_region
  simp [wpOpsS, go_sem, recoverD, hu, Exit.thenS]
  refine wpS_of_wp ?_
  go_wp2
  exact ⟨rfl, _, rfl, _, results_none rfl _ _ _, rfl, rfl, _, rfl⟩
set_option maxRecDepth 100000 in
theorem catch_idle (p : Addr) (w : World) :
    CallsD Try.prog 41 #[.pointer (some p)] .returning w fun e u' w' => e = .returned (.tuple #[]) ∧ u' = .returning ∧ w' = w := by
  refine callsD_of_wpS Try.func41 rfl fun c₀ cs hu => ?_
  simp only [Try.ntmps41, List.size_toArray, List.length_cons, List.length_nil, Nat.reduceAdd, Nat.reduceSub, Array.replicate_succ, Array.replicate_zero, List.push_toArray, List.append_toArray, List.nil_append, List.cons_append]
  apply wpS_seq
  apply wpS_region
  simp [wpOpsS, go_sem, recoverD, hu, Exit.thenS]
  refine wpS_of_wp ?_
  go_wp2
  exact ⟨rfl, .returning, by cases c₀; simp_all, _, results_none rfl _ _ _, rfl, rfl, rfl⟩
theorem load_one {w : World} {b t : Nat} {v : Value} (ha : (isAgg t).run Try.prog w = .ok false w) (hc : w.cell? ⟨b, 0, none⟩ = some v) : (loadVar t ⟨b, 0, none⟩).run Try.prog w = .ok v w := by
  unfold loadVar
  simp only [go_sem]
  simp [run_load]
  rw [ha]
  show (match w.cell? ⟨b, 0, none⟩ with | some v => _ | none => _) = _
  rw [hc]
theorem res_cell1 {P : Program} {f : Func} (tm : Array Value) (w : World) (j T : Nat) (v : Value) (p : Addr) (hf : f.results = #[.cell j T]) (h : tm.getD j undef = .pointer (some p)) (lv : (loadVar T p).run P w = .ok v w) : (results f tm).run P w = .ok v w := by
  unfold results
  rw [hf]
  rw [Array.getD_eq_getD_getElem?] at h
  simp [h, asAddr, lv]
set_option maxRecDepth 100000 in
/-- attempt, whatever the work is. -/
theorem attempt_any (k : FuncId) (caps : Array Value) (w : World) (RO : World → Prop) (RB : Int → World → Prop) (hk : ∀ u, (callFunc k caps).run Try.prog u = .ok (.enter k caps) u)
    (h : Calls Try.prog k caps (w.alloc (.cells #[.int .i64 0] 32)) fun e w2 => w2.heap[w.heap.size]? = some (.cells #[.int .i64 0] 32 (0, 0)) ∧ ((e = .returned (.tuple #[]) ∧ RO w2) ∨ ∃ err, e = .panicked [{ v := troubleV err, recovered := false }] ∧ RB err w2)) :
    Calls Try.prog 25 #[.func (.func k) #[] caps] w fun e w3 => ∃ w2, (RO w2 ∧ e = .returned (.int .i64 0) ∧ w3 = w2.setCell ⟨w.heap.size, 0, none⟩ (.int .i64 0)) ∨ (∃ err o, RB err w2 ∧ e = .returned (.int .i64 err) ∧ w3 = (w2.alloc o).setCell ⟨w.heap.size, 0, none⟩ (.int .i64 err)) := by
  have H := Lib.hid h
  clear h
  have hmf : ∀ (fn : Fn) (first cap : Array Value) (w : World), (Instr.makeFunc fn first cap).run Try.prog w = .ok (.func fn first cap) w := fun _ _ _ _ => rfl
  go_enter_defers Try.func25, Try.ntmps25
  go_wp2
  refine H.out.mono ?_
  rintro e w2 ⟨hb, ⟨rfl, hr⟩ | ⟨err, rfl, hr⟩⟩
  · have RR := Lib.hid hr
    have c0 : w2.cell? ⟨w.heap.size, 0, none⟩ = some (.int .i64 0) := by rw [cell_of_row w2 w.heap.size 0 _ _ _ hb]; rfl
    have z0 : w2.frozen? ⟨w.heap.size, 0, none⟩ = false := frozen_of_row w2 w.heap.size 0 _ _ hb
    have c1 : (w2.setCell ⟨w.heap.size, 0, none⟩ (.int .i64 0)).cell? ⟨w.heap.size, 0, none⟩ = some (.int .i64 0) := by
      have := (show Held w2 w.heap.size _ _ from hb).set_ 0 (.int .i64 0)
      rw [this.cell]
      rfl
    clear hr hb H
    go_wp2
    refine leaves_cons (f := 41) (args := #[.pointer (some ⟨w.heap.size, 0, none⟩)]) (by simp) (by simp [go_sem]) ?_
    refine (catch_idle ⟨w.heap.size, 0, none⟩ _).mono ?_
    rintro e u' w'' ⟨rfl, rfl, rfl⟩
    exact ⟨_, res_cell1 _ _ 2 32 _ _ Try.results25 rfl (load_one (Try.isAgg32 _) c1), _, .inl ⟨RR.out, rfl, rfl⟩⟩
  · have RR := Lib.hid hr
    have c0 : w2.cell? ⟨w.heap.size, 0, none⟩ = some (.int .i64 0) := by rw [cell_of_row w2 w.heap.size 0 _ _ _ hb]; rfl
    have z0 : w2.frozen? ⟨w.heap.size, 0, none⟩ = false := frozen_of_row w2 w.heap.size 0 _ _ hb
    clear hr H
    go_wp2
    refine leaves_cons (f := 41) (args := #[.pointer (some ⟨w.heap.size, 0, none⟩)]) (by simp) (by simp [go_sem]) ?_
    refine (catch_panicking ⟨w.heap.size, 0, none⟩ _ err [] _ c0 z0).mono ?_
    rintro e u' w'' ⟨rfl, rfl, o, rfl⟩
    have c1 : ((w2.alloc o).setCell ⟨w.heap.size, 0, none⟩ (.int .i64 err)).cell? ⟨w.heap.size, 0, none⟩ = some (.int .i64 err) := by
      have h1 : Held (w2.alloc o) w.heap.size 32 #[.int .i64 0] := (show Held w2 w.heap.size _ _ from hb).alloc o
      rw [(h1.set_ 0 (.int .i64 err)).cell]
      rfl
    simp only [settle]
    exact ⟨_, res_cell1 _ _ 2 32 _ _ Try.results25 rfl (load_one (Try.isAgg32 _) c1), _, .inr ⟨err, o, RR.out, rfl, rfl⟩⟩
end Go.Proofs.Ytlofpbmceipkkaa
