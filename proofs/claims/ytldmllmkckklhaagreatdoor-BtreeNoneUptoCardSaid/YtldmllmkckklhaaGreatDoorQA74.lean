/-
  btree: a nil tree; a nil store, but for what goes over its blocks. · btree: a nil store: what goes over its blocks.
-/
import Derived.Test.YtldmllmkckklhaaGreatDoorQA73
namespace Go.Proofs.YtldmllmkckklhaaGreatDoor
open Go.RowKit Wal

set_option maxRecDepth 100000 in
theorem nput_any (w : World) (k v : List Nat) : Calls Tryz.prog 23 #[.pointer none, .string (strB k), .string (strB v)] w fun x w' => x = .returned (.int .i64 2) ∧ Below w.heap.size w w' := by
  obtain ⟨q, hq⟩ : ∃ q, q = w.heap.size := ⟨_, rfl⟩
  obtain ⟨w2, hw2⟩ : ∃ w2, w2 = (w.alloc (.cells #[.string (strB k)] 9)).alloc (.cells #[.string (strB v)] 9) := ⟨_, rfl⟩
  have KH : Held w2 q 9 #[.string (strB k)] := by rw [hw2]; exact (Held.new _ _ _ hq).alloc _
  have VH : Held w2 (q + 1) 9 #[.string (strB v)] := by rw [hw2]; exact Held.new _ _ _ (by rw [hq]; simp)
  have BW : Below w.heap.size w w2 := by rw [hw2]; exact ((Below.refl _ _).alloc (Nat.le_refl _) _).alloc (by simp) _
  have CK := Lib.hid (fun g => check_none w2 g)
  obtain ⟨g1, hg1⟩ : ∃ g, g = goodK k := ⟨_, rfl⟩
  obtain ⟨g2, hg2⟩ : ∃ g, g = goodV v := ⟨_, rfl⟩
  have GK := Lib.hid (isGoodKey_any w2 k)
  have GV := Lib.hid (isGoodValue_any w2 v)
  rw [show decide (1 ≤ k.length ∧ k.length ≤ 128) = g1 from hg1.symm] at GK
  rw [show decide (v.length ≤ 64) = g2 from hg2.symm] at GV
  have B2 := Lib.hid BW
  have k0 := KH.cell 0
  have v0 := VH.cell 0
  have kl := KH.lt
  have vl := VH.lt
  have HQ := Lib.hid hq
  have HW2 := Lib.hid hw2
  clear hq hw2 KH VH BW hg1 hg2
  go_enter Tryz.func23, Tryz.ntmps23
  go_upto_region 1 with fail
  rw [← HQ.out, ← HW2.out]
  go_wp2_with fail
  refine GK.out.mono ?_
  rintro x w3 ⟨rfl, rfl⟩
  cases g1 with
  | false =>
    go_wp2_with fail
    refine (CK.out false).mono ?_
    rintro x w3 ⟨rfl, rfl⟩
    go_wp2_with fail
    go_ret
    exact ⟨rfl, B2.out⟩
  | true =>
    go_wp2_with fail
    refine GV.out.mono ?_
    rintro x w3 ⟨rfl, rfl⟩
    go_wp2_with fail
    refine (CK.out _).mono ?_
    rintro x w3 ⟨rfl, rfl⟩
    go_wp2_with fail
    go_ret
    exact ⟨rfl, B2.out⟩
set_option maxRecDepth 100000 in
theorem ndel_any (w : World) (k : List Nat) : Calls Tryz.prog 21 #[.pointer none, .string (strB k)] w fun x w' => x = .returned (.tuple #[.bool false, .int .i64 2]) ∧ Below w.heap.size w w' := by
  obtain ⟨q, hq⟩ : ∃ q, q = w.heap.size := ⟨_, rfl⟩
  obtain ⟨w2, hw2⟩ : ∃ w2, w2 = w.alloc (.cells #[.string (strB k)] 9) := ⟨_, rfl⟩
  have KH : Held w2 q 9 #[.string (strB k)] := by rw [hw2]; exact Held.new _ _ _ hq
  have BW : Below w.heap.size w w2 := by rw [hw2]; exact (Below.refl _ _).alloc (Nat.le_refl _) _
  have CK := Lib.hid (fun g => check_none w2 g)
  have GK := Lib.hid (isGoodKey_any w2 k)
  have B2 := Lib.hid BW
  have k0 := KH.cell 0
  have kl := KH.lt
  have HQ := Lib.hid hq
  have HW2 := Lib.hid hw2
  clear hq hw2 KH BW
  go_enter Tryz.func21, Tryz.ntmps21
  go_upto_region 1 with fail
  rw [← HQ.out, ← HW2.out]
  go_wp2_with fail
  refine GK.out.mono ?_
  rintro x w3 ⟨rfl, rfl⟩
  go_wp2_with fail
  refine (CK.out _).mono ?_
  rintro x w3 ⟨rfl, rfl⟩
  go_wp2_with fail
  go_ret2
  exact ⟨rfl, B2.out⟩
set_option maxRecDepth 100000 in
set_option maxHeartbeats 1600000 in
theorem nget_any (w : World) (k : List Nat) : Calls Tryz.prog 20 #[.pointer none, .string (strB k)] w fun x w' => x = .returned (.tuple #[.string ⟨#[]⟩, .bool false, .int .i64 2]) ∧ Below w.heap.size w w' := by
  obtain ⟨q, hq⟩ : ∃ q, q = w.heap.size := ⟨_, rfl⟩
  obtain ⟨w2, hw2⟩ : ∃ w2, w2 = (((w.alloc (.cells #[.pointer none] 26)).alloc (.cells #[.string (strB k)] 9)).alloc (.cells #[.string ⟨#[]⟩] 9)).alloc (.cells #[.bool false] 4) := ⟨_, rfl⟩
  have TH : Held w2 q 26 #[.pointer none] := by rw [hw2]; exact (((Held.new _ _ _ hq).alloc _).alloc _).alloc _
  have KH : Held w2 (q + 1) 9 #[.string (strB k)] := by rw [hw2]; exact ((Held.new _ _ _ (by rw [hq]; simp)).alloc _).alloc _
  have VH : Held w2 (q + 1 + 1) 9 #[.string ⟨#[]⟩] := by rw [hw2]; exact (Held.new _ _ _ (by rw [hq]; simp)).alloc _
  have FH : Held w2 (q + 1 + 1 + 1) 4 #[.bool false] := by rw [hw2]; exact Held.new _ _ _ (by rw [hq]; simp)
  have BW : Below w.heap.size w w2 := by rw [hw2]; exact ((((Below.refl _ _).alloc (Nat.le_refl _) _).alloc (by simp) _).alloc (by simp; omega) _).alloc (by simp; omega) _
  obtain ⟨w3, hw3⟩ : ∃ w3, w3 = w2.drew := ⟨_, rfl⟩
  have U3 : Below w2.heap.size w2 w3 := by rw [hw3]; exact (Below.refl _ _).drew
  have B3 : Below w.heap.size w w3 := BW.trans (U3.mono BW.size)
  have TH3 := TH.below U3 TH.lt
  have KH3 := KH.below U3 KH.lt
  have VH3 := VH.below U3 VH.lt
  have FH3 := FH.below U3 FH.lt
  have CK := Lib.hid (fun g => check_none w3 g)
  have GK := Lib.hid (isGoodKey_any w3 k)
  have QQ : Hid (w.heap.size ≤ q) := by show _ ≤ _; omega
  have hs : w3.cell? ⟨q, 0, none⟩ = some (.pointer none) ∧ w3.cell? ⟨q + 1, 0, none⟩ = some (.string (strB k)) := ⟨TH3.cell 0, KH3.cell 0⟩
  have HW2 := Lib.hid hw2
  have HW3 := Lib.hid hw3
  have HQ := Lib.hid hq
  have VV := Lib.hid VH3
  have FF := Lib.hid FH3
  have B33 := Lib.hid B3
  clear hq hw2 hw3 U3 TH KH VH FH TH3 KH3 VH3 FH3 B3 BW
  go_enter Tryz.func20, Tryz.ntmps20
  go_upto_region 1 with fail
  rw [← HQ.out, ← HW2.out]
  refine wp_region_noPanic ?_
  refine wp_region_held_drew (S := fun w' => w'.cell? ⟨q, 0, none⟩ = some (.pointer none) ∧ w'.cell? ⟨q + 1, 0, none⟩ = some (.string (strB k))) (by kernel_rfl) (by rw [← HW3.out]; exact hs) (fun hHeld => ?_)
  rw [← HW3.out]
  refine take_ (i := 0) (v := ?_) 9 rfl rfl (by kernel_rfl) (by kernel_rfl) (by kernel_rfl) (fun _ _ _ h => h) (Or.inl ⟨by rfl, ?_⟩) (by assumption) ?_
  rotate_left
  · (intro wS hSw; (try dsimp only at hSw); go_simp; try with_reducible rfl)
  simp only [Act.put, List.setIfInBounds_toArray]
  refine take_ (i := 1) (v := ?_) 10 rfl rfl (by kernel_rfl) (by kernel_rfl) (by kernel_rfl) (fun _ _ _ h => h) (Or.inl ⟨by rfl, ?_⟩) (by assumption) ?_
  rotate_left
  · (intro wS hSw; (try dsimp only at hSw); go_simp; try with_reducible rfl)
  simp only [Act.put, List.setIfInBounds_toArray]
  refine one_ (i := 2) _ (by kernel_rfl) rfl (fun K hK => ?_)
  go_simp
  refine GK.out.mono ?_
  rintro x w5 ⟨rfl, rfl⟩
  dsimp only
  refine hK.out _ _ hs (fun hHeld => ?_)
  clear hK K
  refine one_ (i := 3) _ (by kernel_rfl) rfl (fun K hK => ?_)
  go_simp
  refine (CK.out _).mono ?_
  rintro x w5 ⟨rfl, rfl⟩
  dsimp only
  refine hK.out _ _ hs (fun hHeld => ?_)
  clear hK K
  refine take_ (i := 4) (v := ?_) 7 rfl rfl (by kernel_rfl) (by kernel_rfl) (by kernel_rfl) (fun _ _ _ h => h) (Or.inl ⟨by rfl, ?_⟩) (by assumption) ?_
  rotate_left
  · (intro wS hSw; (try dsimp only at hSw); go_simp; try with_reducible rfl)
  simp only [Act.put, List.setIfInBounds_toArray]
  refine wpAnyH_done (by kernel_rfl) ?_ _
  refine NoPanic.normal ?_
  have v0 := VV.out.cell 0
  have f0 := FF.out.cell 0
  have yv := VV.out.frozen 0
  have yf := FF.out.frozen 0
  have lv := VV.out.lt
  have lf := FF.out.lt
  go_wp2_with fail
  have V9 : Held ((w3.setCell ⟨q + 1 + 1, 0, none⟩ (.string ⟨#[]⟩)).setCell ⟨q + 1 + 1 + 1, 0, none⟩ (.bool false)) (q + 1 + 1) 9 #[.string ⟨#[]⟩] := (VV.out.set_ 0 _).far (p := ⟨q + 1 + 1 + 1, 0, none⟩) (Held.ne_ VV.out FF.out (by decide)) _
  have F9 : Held ((w3.setCell ⟨q + 1 + 1, 0, none⟩ (.string ⟨#[]⟩)).setCell ⟨q + 1 + 1 + 1, 0, none⟩ (.bool false)) (q + 1 + 1 + 1) 4 #[.bool false] := (FF.out.far (p := ⟨q + 1 + 1, 0, none⟩) (Held.ne_ FF.out VV.out (by decide)) _).set_ 0 _
  refine bodyPost_ret (res_two _ _ 4 5 6 9 4 _ _ _ _ _ Tryz.results20 rfl rfl rfl (load_one (Tryz.isAgg9 _) V9) (load_one (Tryz.isAgg4 _) F9)) rfl ⟨rfl, ?_⟩
  have h1 := QQ.out
  exact (B33.out.setCell (p := ⟨q + 1 + 1, 0, none⟩) (by show _ ≤ q + 1 + 1; omega) _).setCell (p := ⟨q + 1 + 1 + 1, 0, none⟩) (by show _ ≤ q + 1 + 1 + 1; omega) _
set_option maxRecDepth 100000 in
set_option maxHeartbeats 1600000 in
theorem nscan_any (w : World) (k : List Nat) (most : Int) : Calls Tryz.prog 16 #[.pointer none, .string (strB k), .int .i64 most] w fun x w' => x = .returned (.tuple #[.slice none 0 0, .int .i64 2]) ∧ Below w.heap.size w w' := by
  obtain ⟨q, hq⟩ : ∃ q, q = w.heap.size := ⟨_, rfl⟩
  obtain ⟨w2, hw2⟩ : ∃ w2, w2 = (((w.alloc (.cells #[.pointer none] 26)).alloc (.cells #[.string (strB k)] 9)).alloc (.cells #[.int .i64 most] 3)).alloc (.cells #[.slice none 0 0] 29) := ⟨_, rfl⟩
  have TH : Held w2 q 26 #[.pointer none] := by rw [hw2]; exact (((Held.new _ _ _ hq).alloc _).alloc _).alloc _
  have VH : Held w2 (q + 1 + 1 + 1) 29 #[.slice none 0 0] := by rw [hw2]; exact Held.new _ _ _ (by rw [hq]; simp)
  have BW : Below w.heap.size w w2 := by rw [hw2]; exact ((((Below.refl _ _).alloc (Nat.le_refl _) _).alloc (by simp) _).alloc (by simp; omega) _).alloc (by simp; omega) _
  have CK := Lib.hid (check_none w2 true)
  have QQ : Hid (w.heap.size ≤ q) := by show _ ≤ _; omega
  have t0 := TH.cell 0
  have tl := TH.lt
  have HW2 := Lib.hid hw2
  have HQ := Lib.hid hq
  have VV := Lib.hid VH
  have B22 := Lib.hid BW
  clear hq hw2 TH VH BW
  go_enter Tryz.func16, Tryz.ntmps16
  go_upto_region 1 with fail
  rw [← HQ.out, ← HW2.out]
  go_wp2_with fail
  refine CK.out.mono ?_
  rintro x w3 ⟨rfl, rfl⟩
  have v0 := VV.out.cell 0
  have yv := VV.out.frozen 0
  have lv := VV.out.lt
  have VB : Held (w2.setCell ⟨q + 1 + 1 + 1, 0, none⟩ (.slice none 0 0)) (q + 1 + 1 + 1) 29 #[.slice none 0 0] := VV.out.set_ 0 _
  have VBB := Lib.hid VB
  clear VB
  go_wp2_with fail
  refine bodyPost_ret (res_cellB _ _ 7 6 29 _ _ _ Tryz.results16 rfl rfl (load_one (Tryz.isAgg29 _) VBB.out)) rfl ⟨rfl, ?_⟩
  have h1 := QQ.out
  exact B22.out.setCell (p := ⟨q + 1 + 1 + 1, 0, none⟩) (by show _ ≤ q + 1 + 1 + 1; omega) _
set_option maxRecDepth 100000 in
set_option maxHeartbeats 1600000 in
theorem nblocks_any (w : World) : Calls Tryz.prog 13 #[.pointer none] w fun x w' => x = .returned (.tuple #[.slice none 0 0, .int .i64 2]) ∧ Below w.heap.size w w' := by
  obtain ⟨q, hq⟩ : ∃ q, q = w.heap.size := ⟨_, rfl⟩
  obtain ⟨w2, hw2⟩ : ∃ w2, w2 = (w.alloc (.cells #[.pointer none] 26)).alloc (.cells #[.slice none 0 0] 36) := ⟨_, rfl⟩
  have TH : Held w2 q 26 #[.pointer none] := by rw [hw2]; exact (Held.new _ _ _ hq).alloc _
  have VH : Held w2 (q + 1) 36 #[.slice none 0 0] := by rw [hw2]; exact Held.new _ _ _ (by rw [hq]; simp)
  have BW : Below w.heap.size w w2 := by rw [hw2]; exact ((Below.refl _ _).alloc (Nat.le_refl _) _).alloc (by simp) _
  have CK := Lib.hid (check_none w2 true)
  have QQ : Hid (w.heap.size ≤ q) := by show _ ≤ _; omega
  have t0 := TH.cell 0
  have tl := TH.lt
  have HW2 := Lib.hid hw2
  have HQ := Lib.hid hq
  have VV := Lib.hid VH
  have B22 := Lib.hid BW
  clear hq hw2 TH VH BW
  go_enter Tryz.func13, Tryz.ntmps13
  go_upto_region 1 with fail
  rw [← HQ.out, ← HW2.out]
  go_wp2_with fail
  refine CK.out.mono ?_
  rintro x w3 ⟨rfl, rfl⟩
  have v0 := VV.out.cell 0
  have yv := VV.out.frozen 0
  have lv := VV.out.lt
  have VB : Held (w2.setCell ⟨q + 1, 0, none⟩ (.slice none 0 0)) (q + 1) 36 #[.slice none 0 0] := VV.out.set_ 0 _
  have VBB := Lib.hid VB
  clear VB
  go_wp2_with fail
  refine bodyPost_ret (res_cellB _ _ 3 2 36 _ _ _ Tryz.results13 rfl rfl (load_one (Tryz.isAgg36 _) VBB.out)) rfl ⟨rfl, ?_⟩
  have h1 := QQ.out
  exact B22.out.setCell (p := ⟨q + 1, 0, none⟩) (by show _ ≤ q + 1; omega) _
set_option maxRecDepth 100000 in
theorem nfind_any (w : World) (b : Int) : Calls Tryz.prog 37 #[.pointer none, .int .i64 b] w fun x w' => x = .returned (.tuple #[.pointer none, .int .i64 2]) ∧ w = w' := by
  go_enter Tryz.func37, Tryz.ntmps37
  go_wp2_with fail
  go_ret2
  exact ⟨rfl, rfl⟩
set_option maxRecDepth 100000 in
theorem nread_any (w : World) (b : Int) : Calls Tryz.prog 15 #[.pointer none, .int .i64 b] w fun x w' => x = .returned (.tuple #[.slice none 0 0, .int .i64 2]) ∧ w = w' := by
  go_enter Tryz.func15, Tryz.ntmps15
  go_wp2_with fail
  refine (nfind_any _ _).mono ?_
  rintro x w2 ⟨rfl, rfl⟩
  go_wp2_with fail
  go_ret2
  exact ⟨rfl, rfl⟩
set_option maxRecDepth 100000 in
theorem ntake_any (w : World) : Calls Tryz.prog 22 #[.pointer none] w fun x w' => x = .returned (.tuple #[.int .i64 0, .int .i64 2]) ∧ w = w' := by
  go_enter Tryz.func22, Tryz.ntmps22
  go_wp2_with fail
  go_ret2
  exact ⟨rfl, rfl⟩
set_option maxRecDepth 100000 in
theorem nfree_any (w : World) (b : Int) : Calls Tryz.prog 25 #[.pointer none, .int .i64 b] w fun x w' => x = .returned (.int .i64 2) ∧ w = w' := by
  go_enter Tryz.func25, Tryz.ntmps25
  go_wp2_with fail
  refine (nfind_any _ _).mono ?_
  rintro x w2 ⟨rfl, rfl⟩
  go_wp2_with fail
  go_ret
  exact ⟨rfl, rfl⟩
set_option maxRecDepth 100000 in
theorem nwrite_any (w : World) (b : Int) : Calls Tryz.prog 24 #[.pointer none, .int .i64 b, .slice none 0 0] w fun x w' => x = .returned (.int .i64 2) ∧ w = w' := by
  go_enter Tryz.func24, Tryz.ntmps24
  go_wp2_with fail
  refine (nfind_any _ _).mono ?_
  rintro x w2 ⟨rfl, rfl⟩
  go_wp2_with fail
  go_ret
  exact ⟨rfl, rfl⟩
end Go.Proofs.YtldmllmkckklhaaGreatDoor

namespace Go.Proofs.YtldmllmkckklhaaGreatDoor
open Go.RowKit

attribute [local go_sem] Oper.semAt_some

set_option maxRecDepth 100000 in
theorem ntaken_in (m : Nat) (l : Nat) (W : World) :
    CallsIn Fence.wide m Tryz.prog 30 #[.pointer none, .func (.yield l) #[] #[]] W fun e W' => (∃ v, e = .returned v) ∧ W' = W := by
  refine callsIn_of_wp Tryz.func30 rfl trivial ?_ rfl
  simp only [Tryz.ntmps30, List.size_toArray, List.length_cons, List.length_nil, Nat.reduceAdd, Nat.reduceSub, Array.replicate_succ, Array.replicate_zero, List.push_toArray, List.append_toArray, List.nil_append, List.cons_append]
  gi_wp2
  exact bodyPost_ret (results_none rfl _ _ _) rfl ⟨⟨_, rfl⟩, rfl⟩
theorem range_none (q : Nat) {gop : Operand} {asg body : Code} {Q : Exit → Act → World → Prop} {a : Act} {w : World}
    (hg : a.eval gop = .func (.func 30) #[.pointer none] #[])
    (hdone : ∀ (d : Nat) (W : World), w.heap.size ≤ d → Below w.heap.size w W → W.heap[d]? = some (.deferred (some [])) → Q .normal { a with defers := { target := .collected d, args := #[] } :: a.defers } W) :
    (Code.rangeFunc gop #[q] asg body).wp Tryz.prog Q a w := by
  refine (wpIn_wide (n := 6)).1 (wpIn_rangeFunc fun fn hfn => ?_)
  let rec_ : LoopState → Option Code → Loop := fun st pe => { state := st, pending := pe, fn, tmps := a.tmps, params := #[q], assign := asg, body, defers := w.heap.size }
  have key : ∀ (rc : LoopState → Option Code → Loop), rc = rec_ → ∃ (l : Nat) (mark : List Deferred) (w₁ : World) (d : Deferred) (w₁' : World) (f : FuncId) (args : Array Value) (w₂ : World),
      (Instr.enterLoop fn a.tmps #[q] asg body Fence.wide.round).run Tryz.prog w = .ok (l, mark) w₁ ∧ (resolve a.eval (rangeCall gop l) 0).run Tryz.prog w₁ = .ok d w₁' ∧
      (∀ f', Target.leads Tryz.prog w₁' d.target d.args = some f' → Fence.wide.fn f') ∧ (invoke d.target d.args).run Tryz.prog w₁' = .ok (.enter f args) w₂ ∧ (Fence.wide.depth.isSome = true → 1 ≤ 6) ∧
      CallsIn Fence.wide (6 - 1) Tryz.prog f args w₂ (rangePost Fence.wide 6 Tryz.prog l Q { a with defers := mark ++ a.defers }) := by
    intro rc hrc
    have L : w.heap.size < w.heap.size + 1 := Nat.lt_succ_self _
    obtain ⟨W1, hW1⟩ : ∃ W1, W1 = (w.alloc (.deferred (some []))).alloc (.loop (rc .ready none)) := ⟨_, rfl⟩
    have sz : (w.alloc (.deferred (some []))).heap.size = w.heap.size + 1 := World.size_alloc _ _
    have l1 : W1.heap[w.heap.size + 1]? = some (.loop (rc .ready none)) := by
      rw [hW1, ← sz]
      exact World.alloc_heap_new _ _
    have d1 : W1.heap[w.heap.size]? = some (.deferred (some [])) := by
      rw [hW1]
      exact (Below.heap_alloc _ _ _ (by rw [sz]; exact L)).trans (World.alloc_heap_new w _)
    have i1 : Below w.heap.size w W1 := by
      rw [hW1]
      exact ((Below.refl _ _).alloc (Nat.le_refl _) _).alloc (by rw [sz]; exact Nat.le_of_lt L) _
    refine ⟨w.heap.size + 1, [{ target := .collected w.heap.size, args := #[] }], W1, { target := .fn (.func 30) #[], args := #[.pointer none, .func (.yield (w.heap.size + 1)) #[] #[]] }, W1, 30,
      #[.pointer none, .func (.yield (w.heap.size + 1)) #[] #[]], W1, ?_, ?_, fun _ _ => trivial, ?_, fun _ => by omega, ?_⟩
    · rw [hW1, hrc]
      exact run_enterLoop_outer _ _ _ _ _
    · simp only [resolve, hg]
      simp [go_sem]
    · simp [invoke, go_sem]
    · have put_below : ∀ (W : World) (o : Obj), Below w.heap.size W (W.putObj (w.heap.size + 1) o) := fun W o => ⟨rfl, rfl, rfl, by simp [World.putObj], fun k hk => World.putObj_heap_other (by omega)⟩
      refine (ntaken_in 5 (w.heap.size + 1) W1).mono ?_
      rintro e W2 ⟨⟨v, rfl⟩, rfl⟩
      have he := run_endLoop (P := Tryz.prog) l1 (by rw [hrc]; simp [rec_])
      rw [hrc] at he
      exact ⟨none, _, he, hdone _ _ (Nat.le_refl _) (i1.trans (put_below _ _)) ((World.putObj_heap_other (by omega)).trans d1)⟩
  exact key rec_ rfl
set_option maxRecDepth 100000 in
set_option maxHeartbeats 1600000 in
theorem nused_any (w : World) :
    Calls Tryz.prog 12 #[.pointer none] w fun e w' => e = .returned (.int .i64 0) ∧ Below w.heap.size w w' := by
  obtain ⟨u, hu⟩ : ∃ u, u = w.heap.size := ⟨_, rfl⟩
  obtain ⟨w1, hw1⟩ : ∃ w1, w1 = w.alloc (.cells #[.int .i64 0] 3) := ⟨_, rfl⟩
  have s1 : Hid (w1.heap.size = u + 1) := by show _ = _; rw [hw1, hu]; exact World.size_alloc _ _
  have b1 : Hid (Below u w w1) := by show Below _ _ _; rw [hw1, hu]; exact (Below.refl _ _).alloc (Nat.le_refl _) _
  have x1 : Hid (Boxed w1 u 3 (.int .i64 0)) := by show Boxed _ _ _ _; rw [hw1, hu]; exact Boxed.new _ _ _
  refine (callsIn_wide (n := 6)).1 ?_
  refine callsIn_of_wp_marks Tryz.func12 rfl trivial ?_ rfl
  refine wpIn_wide.2 ?_
  simp only [Tryz.ntmps12, List.size_toArray, List.length_cons, List.length_nil, Nat.reduceAdd, Nat.reduceSub, Array.replicate_succ, Array.replicate_zero, List.push_toArray, List.append_toArray, List.nil_append, List.cons_append]
  rw [← hu]
  go_wp2_with fail
  rw [← hw1, ← hu]
  clear hw1 hu
  refine range_none 6 rfl ?_
  rintro D0 W hD0 hb hK
  have c0 := (boxed_below x1.out (by have := s1.out; omega) hb).cell
  have HK := Lib.hid hK
  have BB := Lib.hid (b1.out.trans (hb.mono (by have := s1.out; omega)))
  clear hb hK
  go_wp2_with fail
  refine ⟨by simp, .inl ⟨_, _, rfl, run_takeDeferred HK.out, ?_⟩⟩
  refine ⟨_, results_tmp rfl _ _ _, rfl, ?_⟩
  have h1 := s1.out
  exact BB.out.trans ⟨rfl, rfl, rfl, by simp [World.putObj], fun k hk => World.putObj_heap_other (by omega)⟩
set_option maxRecDepth 100000 in
set_option maxHeartbeats 1600000 in
theorem nhold_any (w : World) :
    Calls Tryz.prog 18 #[.pointer none] w fun e w' => e = .returned (.tuple #[]) ∧ Below w.heap.size w w' := by
  refine (callsIn_wide (n := 6)).1 ?_
  refine callsIn_of_wp_marks Tryz.func18 rfl trivial ?_ rfl
  refine wpIn_wide.2 ?_
  simp only [Tryz.ntmps18, List.size_toArray, List.length_cons, List.length_nil, Nat.reduceAdd, Nat.reduceSub, Array.replicate_succ, Array.replicate_zero, List.push_toArray, List.append_toArray, List.nil_append, List.cons_append]
  go_wp2_with fail
  refine range_none 5 rfl ?_
  rintro D0 W hD0 hb hK
  have HK := Lib.hid hK
  have BB := Lib.hid hb
  clear hb hK
  go_wp2_with fail
  refine ⟨by simp, .inl ⟨_, _, rfl, run_takeDeferred HK.out, ?_⟩⟩
  refine ⟨_, results_none rfl _ _ _, rfl, ?_⟩
  exact BB.out.trans ⟨rfl, rfl, rfl, by simp [World.putObj], fun k hk => World.putObj_heap_other (by omega)⟩
end Go.Proofs.YtldmllmkckklhaaGreatDoor
