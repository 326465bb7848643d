/-
  btree: attempt: a panic that is recovered.
-/
import Derived.Test.YtnogmgnbhcmajaaDoorQA49
import Derived.Defers
import Derived.Recover
namespace Go.Proofs.YtnogmgnbhcmajaaDoor
open Go.RowKit Wal

def troubleW (err : Int) (os : Bool) : Value := .iface 82 (.agg #[.int .i64 err, .bool os])
theorem zeroTr : (Tryd.prog.info? 82).map (fun i => (i.zero, i.size)) = some (some (.agg #[.int .i64 0, .bool false]), 2) := by kernel_rfl
theorem load_tr {w : World} {b : Nat} {cs : Array Value} (h : Held w b 82 cs) (hs : cs.size = 2) : (loadVar 82 ⟨b, 0, none⟩).run Tryd.prog w = .ok (.agg cs) w := by
  have lv := run_loadVar_mid (P := Tryd.prog) w b 0 82 cs.toList _ (fun j v hv => by rw [Nat.zero_add, h.cell]; simpa using hv) Tryd.underlying82 rfl (by rw [(zero_of_info zeroTr).2, Array.length_toList, hs])
  simpa using lv
theorem res_cell1B {P : Program} {f : Func} (tm : Array Value) (w : World) (j T : Nat) (v : Value) (p : Addr) (hf : f.results = #[.cell j T]) (h : tm.getD j undef = .pointer (some p)) (lv : (loadVar T p).run P w = .ok v w) : (results f tm).run P w = .ok v w := resC tm w j T v p hf h lv
set_option maxRecDepth 100000 in
set_option maxHeartbeats 800000 in
theorem catch_panicking (b : Nat) (err : Int) (os : Bool) (x : Array Value) (older : List PanicEntry) (w : World) (hb : Held w b 82 x) (hx : x.size = 2) :
    CallsD Tryd.prog 44 #[.pointer (some ⟨b, 0, none⟩)] (.panicking ({ v := troubleW err os, recovered := false } :: older)) w fun e u' w' =>
      e = .returned (.tuple #[]) ∧ u' = .panicking ({ v := troubleW err os, recovered := true } :: older) ∧ ∃ o, w' = ((w.alloc o).setCell ⟨b, 0, none⟩ (.int .i64 err)).setCell ⟨b, 1, none⟩ (.bool os) := by
  refine callsD_of_wpS Tryd.func44 rfl fun c₀ cs hu => ?_
  have ta : ∀ u, (Instr.typeAssert (.iface 82 (.agg #[.int .i64 err, .bool os])) 20 82 true).run Tryd.prog u = .ok (.tuple #[.agg #[.int .i64 err, .bool os], .bool true]) u := fun u => by
    simp [Instr.typeAssert, go_sem]
  obtain ⟨v0, v1, rfl⟩ : ∃ v0 v1, x = #[v0, v1] := by
    obtain ⟨l⟩ := x
    match l, hx with
    | [v0, v1], _ => exact ⟨v0, v1, rfl⟩
  obtain ⟨q, hq⟩ : ∃ q, q = w.heap.size := ⟨_, rfl⟩
  obtain ⟨w1, hw1⟩ : ∃ w1, w1 = w.alloc (.cells #[.int .i64 err, .bool os] 82) := ⟨_, rfl⟩
  have N1 : Hid (Held w1 q 82 #[.int .i64 err, .bool os]) := by rw [hw1]; exact Held.new _ _ _ hq
  have H1 : Hid (Held w1 b 82 #[v0, v1]) := by rw [hw1]; exact hb.alloc _
  have n0 := N1.out.cell 0
  have n1 := N1.out.cell 1
  have c0 := H1.out.cell 0
  have c1 := H1.out.cell 1
  have z0 := H1.out.frozen 0
  have z1 := H1.out.frozen 1
  have HW1 := Lib.hid hw1
  have HQ := Lib.hid hq
  unfold troubleW at hu ⊢
  clear hw1 hq hb hx
  simp only [Tryd.ntmps44, List.size_toArray, List.length_cons, List.length_nil, Nat.reduceAdd, Nat.reduceSub, Array.replicate_succ, Array.replicate_zero, List.push_toArray, List.append_toArray, List.nil_append, List.cons_append]
  apply wpS_seq
  apply wpS_region
  simp [wpOpsS, go_sem, recoverD, hu, Exit.thenS]
  refine wpS_of_wp ?_
  go_upto_region 7 with fail
  rw [← HW1.out, ← HQ.out]
  go_wp2_with fail
  exact ⟨rfl, _, rfl, _, results_none rfl _ _ _, rfl, rfl, .cells #[.int .i64 err, .bool os] 82, by rw [HW1.out]⟩
set_option maxRecDepth 100000 in
theorem catch_idle (p : Addr) (w : World) :
    CallsD Tryd.prog 44 #[.pointer (some p)] .returning w fun e u' w' => e = .returned (.tuple #[]) ∧ u' = .returning ∧ w' = w := by
  refine callsD_of_wpS Tryd.func44 rfl fun c₀ cs hu => ?_
  simp only [Tryd.ntmps44, List.size_toArray, List.length_cons, List.length_nil, Nat.reduceAdd, Nat.reduceSub, Array.replicate_succ, Array.replicate_zero, List.push_toArray, List.append_toArray, List.nil_append, List.cons_append]
  apply wpS_seq
  apply wpS_region
  simp [wpOpsS, go_sem, recoverD, hu, Exit.thenS]
  refine wpS_of_wp ?_
  go_wp2
  exact ⟨rfl, .returning, by cases c₀; simp_all, _, results_none rfl _ _ _, rfl, rfl, rfl⟩
set_option maxRecDepth 100000 in
set_option maxHeartbeats 800000 in
/-- attempt, whatever the work is. -/
theorem attempt_any (k : FuncId) (caps : Array Value) (w : World) (RO : World → Prop) (RB : Int → Bool → World → Prop) (hk : ∀ u, (callFunc k caps).run Tryd.prog u = .ok (.enter k caps) u)
    (h : Calls Tryd.prog k caps (w.alloc (.cells #[.int .i64 0, .bool false] 82)) fun e w2 => Held w2 w.heap.size 82 #[.int .i64 0, .bool false] ∧ ((e = .returned (.tuple #[]) ∧ RO w2) ∨ ∃ err os, e = .panicked [{ v := troubleW err os, recovered := false }] ∧ RB err os w2)) :
    Calls Tryd.prog 27 #[.func (.func k) #[] caps] w fun e w3 => ∃ w2, (RO w2 ∧ e = .returned (.agg #[.int .i64 0, .bool false]) ∧ w3 = (w2.setCell ⟨w.heap.size, 0, none⟩ (.int .i64 0)).setCell ⟨w.heap.size, 1, none⟩ (.bool false)) ∨ (∃ err os o, RB err os w2 ∧ e = .returned (.agg #[.int .i64 err, .bool os]) ∧ w3 = ((w2.alloc o).setCell ⟨w.heap.size, 0, none⟩ (.int .i64 err)).setCell ⟨w.heap.size, 1, none⟩ (.bool os)) := by
  have H := Lib.hid h
  clear h
  have hmf : ∀ (fn : Fn) (first cap : Array Value) (w : World), (Instr.makeFunc fn first cap).run Tryd.prog w = .ok (.func fn first cap) w := fun _ _ _ _ => rfl
  go_enter_defers Tryd.func27, Tryd.ntmps27
  go_wp2
  refine H.out.mono ?_
  rintro e w2 ⟨hb, ⟨rfl, hr⟩ | ⟨err, os, rfl, hr⟩⟩
  · have RR := Lib.hid hr
    have c0 := hb.cell 0
    have c1 := hb.cell 1
    have z0 := hb.frozen 0
    have z1 := hb.frozen 1
    have FH : Hid (Held ((w2.setCell ⟨w.heap.size, 0, none⟩ (.int .i64 0)).setCell ⟨w.heap.size, 1, none⟩ (.bool false)) w.heap.size 82 #[.int .i64 0, .bool false]) := (hb.set_ 0 _).set_ 1 _
    clear hr hb H
    go_wp2
    refine leaves_cons (f := 44) (args := #[.pointer (some ⟨w.heap.size, 0, none⟩)]) (by simp) (by simp [go_sem]) ?_
    refine (catch_idle ⟨w.heap.size, 0, none⟩ _).mono ?_
    rintro e u' w'' ⟨rfl, rfl, rfl⟩
    exact ⟨_, res_cell1B _ _ 2 82 _ _ Tryd.results27 rfl (load_tr FH.out rfl), _, .inl ⟨RR.out, rfl, rfl⟩⟩
  · have RR := Lib.hid hr
    have HB := Lib.hid hb
    clear hr H
    go_wp2
    refine leaves_cons (f := 44) (args := #[.pointer (some ⟨w.heap.size, 0, none⟩)]) (by simp) (by simp [go_sem]) ?_
    refine (catch_panicking w.heap.size err os _ [] _ HB.out rfl).mono ?_
    rintro e u' w'' ⟨rfl, rfl, o, rfl⟩
    have FH : Held (((w2.alloc o).setCell ⟨w.heap.size, 0, none⟩ (.int .i64 err)).setCell ⟨w.heap.size, 1, none⟩ (.bool os)) w.heap.size 82 #[.int .i64 err, .bool os] := ((HB.out.alloc o).set_ 0 _).set_ 1 _
    simp only [settle]
    exact ⟨_, res_cell1B _ _ 2 82 _ _ Tryd.results27 rfl (load_tr FH rfl), _, .inr ⟨err, os, o, RR.out, rfl, rfl⟩⟩
end Go.Proofs.YtnogmgnbhcmajaaDoor
