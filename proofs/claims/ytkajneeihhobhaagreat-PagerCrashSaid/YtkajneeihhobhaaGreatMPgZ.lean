/-
  pager: the contracts of a Write and a Read that are refused. · pager: all blocks, as an open transaction sees them (docketlaw04.blocks). · pager: a script of Ops that came in.
-/
import Derived.Test.YtkajneeihhobhaaGreatMPgQ
import Derived.Test.YtkajneeihhobhaaGreatMPgU
import Derived.Test.YtkajneeihhobhaaGreatMDisk
namespace Go.Proofs.YtkajneeihhobhaaGreat
open Go.RowKit Go.Maps Wal Pgr

set_option maxRecDepth 100000 in
set_option maxHeartbeats 1600000 in
theorem twrite_bad (w : World) (P : PS) (t tm : Nat) (g : Nat → Option (List Nat)) (z : Int) (A : Option Addr) (n c : Nat) (h : PagAt w P (.pointer (some ⟨t, 0, none⟩))) (k : TxAt w P t tm g) (hd : P.dead = false) (hm : P.m.dead = false)
    (hz : ¬ (0 ≤ z ∧ z < (P.N : Int)) ∨ 512 < n) :
    Calls Tryz.prog 27 #[.pointer (some ⟨t, 0, none⟩), .int .i64 z, .slice A n c] w fun e w' => e = .returned (.int .i64 1) ∧ PagAt w' P (.pointer (some ⟨t, 0, none⟩)) ∧ TxAt w' P t tm g ∧ Only [P.p] w w' := by
  have TA := Lib.hid (talive_any w P t tm g h k)
  rw [hd, hm] at TA
  have WK := Lib.hid (woken h k hd)
  clear h k hd hm
  go_enter Tryz.func27, Tryz.ntmps27
  go_wp2_with fail
  refine TA.out.mono ?_
  rintro e w1 ⟨rfl, rfl⟩
  obtain ⟨h1, k1, o1⟩ := WK.out 0
  rw [show (w.setCell ⟨P.p, 5, none⟩ (.bool false)).drewN 0 = w.setCell ⟨P.p, 5, none⟩ (.bool false) from rfl] at h1 k1 o1
  have PH := Lib.hid (phas_any _ P _ z h1)
  have t0 : (w.setCell ⟨P.p, 5, none⟩ (.bool false)).cell? ⟨t, 0, none⟩ = some (.pointer (some ⟨P.p, 0, none⟩)) := k1.held.cell 0
  clear TA h1 k1 o1
  have ed : deadErr (false || false) = 0 := rfl
  rw [show (false || false) = false from rfl] at ed ⊢
  rw [ed]
  clear ed
  generalize w.setCell ⟨P.p, 5, none⟩ (.bool false) = w1 at *
  by_cases hb : 0 ≤ z ∧ z < (P.N : Int)
  · have hn : (512 : Int) < (n : Int) := by omega
    have hn2 : decide ((512 : Int) < (n : Int)) = true := decide_eq_true hn
    rw [decide_eq_true hb] at PH
    clear hb hz
    go_wp2_with fail
    refine PH.out.mono ?_
    rintro e w2 ⟨rfl, q, rfl⟩
    have RES := Lib.hid (WK.out q)
    clear PH WK t0
    go_wp2_with fail
    go_ret
    exact ⟨rfl, RES.out.1, RES.out.2.1, RES.out.2.2⟩
  · rw [decide_eq_false hb] at PH
    clear hb hz
    go_wp2_with fail
    refine PH.out.mono ?_
    rintro e w2 ⟨rfl, q, rfl⟩
    have RES := Lib.hid (WK.out q)
    clear PH WK t0
    go_wp2_with fail
    go_ret
    exact ⟨rfl, RES.out.1, RES.out.2.1, RES.out.2.2⟩
set_option maxRecDepth 100000 in
set_option maxHeartbeats 1600000 in
theorem tread_bad (w : World) (P : PS) (t tm : Nat) (g : Nat → Option (List Nat)) (z : Int) (h : PagAt w P (.pointer (some ⟨t, 0, none⟩))) (k : TxAt w P t tm g) (hd : P.dead = false) (hm : P.m.dead = false)
    (hz : ¬ (0 ≤ z ∧ z < (P.N : Int))) :
    Calls Tryz.prog 28 #[.pointer (some ⟨t, 0, none⟩), .int .i64 z] w fun e w' => e = .returned (.tuple #[.slice none 0 0, .int .i64 1]) ∧ PagAt w' P (.pointer (some ⟨t, 0, none⟩)) ∧ TxAt w' P t tm g ∧ Only [P.p] w w' := by
  have TA := Lib.hid (talive_any w P t tm g h k)
  rw [hd, hm] at TA
  have WK := Lib.hid (woken h k hd)
  clear h k hd hm
  go_enter Tryz.func28, Tryz.ntmps28
  go_wp2_with fail
  refine TA.out.mono ?_
  rintro e w1 ⟨rfl, rfl⟩
  obtain ⟨h1, k1, o1⟩ := WK.out 0
  rw [show (w.setCell ⟨P.p, 5, none⟩ (.bool false)).drewN 0 = w.setCell ⟨P.p, 5, none⟩ (.bool false) from rfl] at h1 k1 o1
  have PH := Lib.hid (phas_any _ P _ z h1)
  have t0 : (w.setCell ⟨P.p, 5, none⟩ (.bool false)).cell? ⟨t, 0, none⟩ = some (.pointer (some ⟨P.p, 0, none⟩)) := k1.held.cell 0
  clear TA h1 k1 o1
  have ed : deadErr (false || false) = 0 := rfl
  rw [show (false || false) = false from rfl] at ed ⊢
  rw [ed]
  clear ed
  generalize w.setCell ⟨P.p, 5, none⟩ (.bool false) = w1 at *
  rw [decide_eq_false hz] at PH
  clear hz
  go_wp2_with fail
  refine PH.out.mono ?_
  rintro e w2 ⟨rfl, q, rfl⟩
  have RES := Lib.hid (WK.out q)
  clear PH WK t0
  go_wp2_with fail
  go_ret2
  exact ⟨rfl, RES.out.1, RES.out.2.1, RES.out.2.2⟩
theorem l_write_bad (w0 w : World) (p d reg N t tm : Nat) (g : Com) (C : List Com) (z : Int) (A : Option Addr) (n c : Nat) (h : HoldT w0 w p d reg N t tm g C) (hz : ¬ (0 ≤ z ∧ z < (N : Int)) ∨ 512 < n) :
    Calls Tryz.prog 27 #[.pointer (some ⟨t, 0, none⟩), .int .i64 z, .slice A n c] w fun e w' => e = .returned (.int .i64 1) ∧ HoldT w0 w' p d reg N t tm g C ∧ Only [p] w w' := by
  obtain ⟨P, hP, hT, h1, h2⟩ := h
  obtain ⟨rfl, rfl, rfl, rfl⟩ := hP.ids
  refine (twrite_bad w P t tm g z A n c hP.pag hT hP.inv.alive hP.inv.inv.alive hz).mono ?_
  rintro e w' ⟨rfl, h3, h4, h5⟩
  exact ⟨rfl, ⟨P, ⟨h3, hP.inv, ⟨rfl, rfl, rfl, rfl⟩, hP.below.trans (h5.below hP.below.size (fun x hx => hP.new x (pmem_foot.2 (.inl (by simpa using hx))))), hP.new, hP.calm⟩, h4, h1, h2⟩, h5⟩
theorem l_read_bad (w0 w : World) (p d reg N t tm : Nat) (g : Com) (C : List Com) (z : Int) (h : HoldT w0 w p d reg N t tm g C) (hz : ¬ (0 ≤ z ∧ z < (N : Int))) :
    Calls Tryz.prog 28 #[.pointer (some ⟨t, 0, none⟩), .int .i64 z] w fun e w' => e = .returned (.tuple #[.slice none 0 0, .int .i64 1]) ∧ HoldT w0 w' p d reg N t tm g C ∧ Only [p] w w' := by
  obtain ⟨P, hP, hT, h1, h2⟩ := h
  obtain ⟨rfl, rfl, rfl, rfl⟩ := hP.ids
  refine (tread_bad w P t tm g z hP.pag hT hP.inv.alive hP.inv.inv.alive hz).mono ?_
  rintro e w' ⟨rfl, h3, h4, h5⟩
  exact ⟨rfl, ⟨P, ⟨h3, hP.inv, ⟨rfl, rfl, rfl, rfl⟩, hP.below.trans (h5.below hP.below.size (fun x hx => hP.new x (pmem_foot.2 (.inl (by simpa using hx))))), hP.new, hP.calm⟩, h4, h1, h2⟩, h5⟩
end Go.Proofs.YtkajneeihhobhaaGreat

namespace Go.Proofs.YtkajneeihhobhaaGreat
open Go.RowKit Go.Maps Wal Pgr

theorem HoldP.only {w0 w w' : World} {p d reg N : Nat} {tx : Value} {C : List Com} {P : PS} {H : List Nat} (h : HoldP w0 w p d reg N tx C P) (k : Only H w w') (hH : ∀ x ∈ H, x ∉ P.foot ∧ w0.heap.size ≤ x) : HoldP w0 w' p d reg N tx C P :=
  ⟨h.pag.only k (fun hx => (hH _ hx).1 (pmem_foot.2 (.inl rfl))) (fun hx => (hH _ hx).1 (pmem_foot.2 (.inr (.inl rfl)))) (fun _ hx hm => (hH _ hm).1 (pmem_foot.2 (.inr (.inr hx)))), h.inv, h.ids, h.below.trans (k.below h.below.size (fun x hx => (hH x hx).2)), h.new, h.calm⟩
theorem lp_begin (w0 w : World) (p d reg N : Nat) (C : List Com) (P : PS) (hP : HoldP w0 w p d reg N (.pointer none) C P) :
    Calls Tryz.prog 14 #[.pointer (some ⟨p, 0, none⟩)] w fun e w' => ∃ t tm, e = .returned (.tuple #[.pointer (some ⟨t, 0, none⟩), .int .i64 0]) ∧ HoldP w0 w' p d reg N (.pointer (some ⟨t, 0, none⟩)) C P ∧ TxAt w' P t tm (fun _ => none) ∧ w.heap.size ≤ t ∧ w.heap.size ≤ tm ∧ Only [p] w w' := by
  obtain ⟨rfl, rfl, rfl, rfl⟩ := hP.ids
  refine (begin_any w P hP.pag hP.inv.alive hP.inv.inv.alive).mono ?_
  rintro e w' ⟨t, tm, rfl, ht, htm, h1, h2, h3⟩
  have hO : Only P.foot w w' := h3.mono (fun x hx => .inl (pmem_foot.2 (.inl (by simpa using hx))))
  exact ⟨t, tm, rfl, ⟨h1, hP.inv, ⟨rfl, rfl, rfl, rfl⟩, hP.below.trans (hO.below hP.below.size hP.new), hP.new, hP.calm⟩, h2, ht, htm, h3⟩
theorem lp_abort (w0 w : World) (p d reg N t tm : Nat) (g : Com) (C : List Com) (P : PS) (hP : HoldP w0 w p d reg N (.pointer (some ⟨t, 0, none⟩)) C P) (hT : TxAt w P t tm g) (ht : w0.heap.size ≤ t) :
    Calls Tryz.prog 18 #[.pointer (some ⟨t, 0, none⟩)] w fun e w' => e = .returned (.tuple #[]) ∧ HoldP w0 w' p d reg N (.pointer none) C P ∧ Only [p, t] w w' := by
  obtain ⟨rfl, rfl, rfl, rfl⟩ := hP.ids
  refine (abort_any w P t tm g hP.pag hT).mono ?_
  rintro e w' ⟨rfl, h3, h4, h5⟩
  refine ⟨rfl, ⟨h3, hP.inv, ⟨rfl, rfl, rfl, rfl⟩, hP.below.trans (h5.below hP.below.size (fun x hx => ?_)), hP.new, hP.calm⟩, h5⟩
  simp only [List.mem_cons, List.not_mem_nil, or_false] at hx
  rcases hx with rfl | rfl
  · exact hP.new _ (pmem_foot.2 (.inl rfl))
  · exact ht
def allB (C : List Com) (n : Nat) : List Value := (List.range n).map fun b => strV (At C b)
theorem allB_succ (C : List Com) (n : Nat) : allB C (n + 1) = allB C n ++ [strV (At C n)] := by
  unfold allB
  rw [List.range_succ, List.map_append]
  rfl
def BlocksRes (w0 w : World) (p d reg N : Nat) (C : List Com) (P : PS) (e : Ending) (w' : World) : Prop :=
  ∃ v, e = .returned (.tuple #[v, .bool true]) ∧ w'.ownsRow w.heap.size 9 1 v N (allB C N) ∧ HoldP w0 w' p d reg N (.pointer none) C P ∧ Only [p] w w'
set_option maxRecDepth 100000 in
set_option maxHeartbeats 3200000 in
theorem pblocks_any (w0 w : World) (p d reg N : Nat) (C : List Com) (P : PS) (hP : HoldP w0 w p d reg N (.pointer none) C P) :
    Calls Tryz.prog 33 #[.pointer (some ⟨p, 0, none⟩)] w (BlocksRes w0 w p d reg N C P) := by
  have BG := Lib.hid (lp_begin w0 w p d reg N C P hP)
  have N4 : Hid (N ≤ 4096) := by
    have h1 := hP.pag.most
    have h2 := hP.ids.2.2.2
    show _ ≤ _
    omega
  have n4 : (N : Int) ≤ 4096 := by have := N4.out; omega
  have L0 : Hid (w0.heap.size ≤ w.heap.size) := hP.below.size
  have FT : Hid (∀ x ∈ P.foot, x < w.heap.size) := hP.lt
  clear hP
  go_enter Tryz.func33, Tryz.ntmps33
  go_wp2_with fail
  refine BG.out.mono ?_
  rintro e w1 ⟨t, tm, rfl, hp1, ht1, htl, html, ho1⟩
  have P1 := Lib.hid hp1
  have T1 := Lib.hid ht1
  have O1 := Lib.hid ho1
  obtain ⟨B, hB⟩ : ∃ B, B = w1.heap.size := ⟨_, rfl⟩
  have BB : Hid (w.heap.size ≤ t ∧ t < B ∧ tm < B ∧ w.heap.size ≤ B ∧ B = w1.heap.size) := ⟨htl, by rw [hB]; exact ht1.held.lt, by rw [hB]; exact ht1.dirty.lt, by rw [hB]; exact ho1.size, hB⟩
  clear BG hp1 ht1 htl html ho1 hB
  go_wp2_with fail
  go_loopw [6, 7] (fun ov bv wr => ∃ k : Nat, k ≤ N ∧ bv = .int .i64 (k : Nat) ∧ HoldP w0 wr p d reg N (.pointer (some ⟨t, 0, none⟩)) C P ∧ TxAt wr P t tm (fun _ => none) ∧ wr.ownsRow B 9 1 ov k (allB C k) ∧ B ≤ wr.heap.size ∧ Only [p] w wr) (fun _ bv _ => N - (intOf bv).toNat)
  case atStart => exact ⟨0, by omega, rfl, P1.out, T1.out, World.ownsRow_nil _ _ _ _, Nat.le_of_eq BB.out.2.2.2.2, O1.out⟩
  case round =>
    clear P1 T1 O1
    obtain ⟨k, hk, rfl, hp, ht, hr, hb, ho⟩ := hrel
    have BL := Lib.hid (l_blocks w0 wr p d reg N _ C P hp)
    have PK := Lib.hid hp
    have TK := Lib.hid ht
    have RK := Lib.hid hr
    have OK : Hid (B ≤ wr.heap.size ∧ Only [p] w wr) := ⟨hb, ho⟩
    clear hp ht hr hb ho
    by_cases hlt : k < N
    · have hlt' : (k : Int) < (N : Int) := by omega
      go_wp2_with fail
      refine BL.out.mono ?_
      rintro e w2 ⟨rfl, q, rfl⟩
      have RD := Lib.hid (lp_read w0 (wr.drewN q) p d reg N t tm (fun _ => none) C P k (PK.out.under (punder_drewN wr q)) (TK.out.drewN q) hlt)
      have RK2 : Hid ((wr.drewN q).ownsRow B 9 1 u6 k (allB C k)) := (Only.of_below (F := []) (punder_drewN wr q)).row RK.out (fun _ _ hx => by cases hx)
      have OK2 : Hid (B ≤ (wr.drewN q).heap.size ∧ Only [p] w (wr.drewN q)) := ⟨OK.out.1, OK.out.2.drewN q⟩
      clear BL PK TK RK OK
      generalize wr.drewN q = w2 at *
      go_wp2_with fail
      refine RD.out.mono ?_
      rintro e w3 ⟨q3, T3, rfl, hq3, hh, hp3, ht3, ho3⟩
      have hblk : Blk (seeB C (fun _ => none) k) := seeB_blk (N := P.N) hp3.inv.fine (fun _ _ h => by cases h) k
      obtain ⟨S, hS⟩ : ∃ S, S = strB (At C k) := ⟨_, rfl⟩
      have hcv : (convert 56 9 (.slice (some ⟨q3, 0, none⟩) 512 512)).run Tryz.prog w3 = .ok (.string S) w3 := by
        rw [hS]
        exact (hh.bts hblk).toStr byteT Tryz.underlying9 512
      have ET : Hid (allB C (k + 1) = allB C k ++ [.string S]) := by rw [hS]; exact allB_succ C k
      have R3 : Hid ((w3.alloc (.cells #[.string S] 9)).ownsRow B 9 1 u6 k (allB C k)) := (ho3.alloc _).row RK2.out (fun x hx hm => by
        have h1 := (RK2.out.lt x hx).1
        have h2 := FT.out p (by
          have := hp3.ids.1
          rw [← this]
          exact pmem_foot.2 (.inl rfl))
        have h3 := BB.out
        rw [List.mem_singleton.1 hm] at h1
        omega)
      have QA : Hid ((w3.alloc (.cells #[.string S] 9)).cell? ⟨w3.heap.size, 0, none⟩ = some (.string S)) := (Held.new w3 9 #[.string S] rfl).cell 0
      have LA : Hid (B ≤ (w3.alloc (.cells #[.string S] 9)).heap.size) := by show _ ≤ _; rw [World.size_alloc]; have := OK2.out.1; have := ho3.size; omega
      have O3 : Hid (Only [p] w (w3.alloc (.cells #[.string S] 9))) := (OK2.out.2.trans ho3 (fun _ hx => .inl hx)).alloc _
      have P3 : Hid (HoldP w0 (w3.alloc (.cells #[.string S] 9)) p d reg N (.pointer (some ⟨t, 0, none⟩)) C P) := hp3.under ((Below.refl _ _).alloc (Nat.le_refl _) _)
      have T4 : Hid (TxAt (w3.alloc (.cells #[.string S] 9)) P t tm (fun _ => none)) := ht3.alloc _
      have UF : Hid (∀ x ∈ u6.ownBlock.toList, B ≤ x) := fun x hx => (RK2.out.lt x (by simpa using hx)).1
      clear hq3 hh hp3 ht3 ho3 hblk hS RD RK2 OK2
      go_wp2_with (refine wpList_append_str rfl (o := ⟨some 35, _, _, _, _, _⟩) (.tmp 31) (.tmp 34) B rfl u6 k _ rfl R3.out w3.heap.size 1 S rfl QA.out (by omega) LA.out ?_; intro v6 w6 r1 r2 r3)
      have OB : Hid (Only u6.ownBlock.toList (w3.alloc (.cells #[.string S] 9)) w6) := (Only.refl u6.ownBlock.toList _).grown r2 (fun k hk => .inl (by simp [hk]))
      have P6 : Hid (HoldP w0 w6 p d reg N (.pointer (some ⟨t, 0, none⟩)) C P) := P3.out.only OB.out (fun x hx => by
        have h1 := UF.out x hx
        have h2 := BB.out
        have h3 := L0.out
        refine ⟨fun hm => ?_, by omega⟩
        have := FT.out x hm
        omega)
      have T6 : Hid (TxAt w6 P t tm (fun _ => none)) := T4.out.only OB.out (fun hx => by have := UF.out _ hx; have := BB.out; omega) (fun hx => by have := UF.out _ hx; have := BB.out; omega)
      have O6 : Hid (Only [p] w w6) := O3.out.trans OB.out (fun x hx => .inr (by have := UF.out _ hx; have := BB.out; omega))
      have L6 : Hid (B ≤ w6.heap.size) := Nat.le_trans LA.out OB.out.size
      have RR : Hid (w6.ownsRow B 9 1 v6 (k + 1) (allB C (k + 1))) := by
        rw [ET.out]
        exact r1
      clear r1 r2 r3 R3 QA LA O3 P3 T4 UF OB hcv
      go_wp2_with fail
      go_roundw
      case rel => exact ⟨k + 1, by omega, by go_num, P6.out, T6.out, RR.out, L6.out, O6.out⟩
      case measure => simp [intOf]; omega
    · obtain rfl : k = N := by omega
      go_wp2_with fail
      refine BL.out.mono ?_
      rintro e w2 ⟨rfl, q, rfl⟩
      have AB := Lib.hid (lp_abort w0 (wr.drewN q) p d reg k t tm (fun _ => none) C P (PK.out.under (punder_drewN wr q)) (TK.out.drewN q) (by have := BB.out; have := L0.out; omega))
      have RK2 : Hid ((wr.drewN q).ownsRow B 9 1 u6 k (allB C k)) := (Only.of_below (F := []) (punder_drewN wr q)).row RK.out (fun _ _ hx => by cases hx)
      have OK2 : Hid (B ≤ (wr.drewN q).heap.size ∧ Only [p] w (wr.drewN q)) := ⟨OK.out.1, OK.out.2.drewN q⟩
      have PB : Hid (p < B) := by
        have h2 := FT.out p (by
          have := PK.out.ids.1
          rw [← this]
          exact pmem_foot.2 (.inl rfl))
        have := BB.out
        show _ < _
        omega
      clear BL PK TK RK OK
      generalize wr.drewN q = w2 at *
      go_wp2_with fail
      refine AB.out.mono ?_
      rintro e w3 ⟨rfl, hp3, ho3⟩
      have RES : Hid (BlocksRes w0 w p d reg k C P (.returned (.tuple #[u6, .bool true])) w3) := by
        refine ⟨u6, rfl, ?_, hp3, OK2.out.2.trans ho3 (fun x hx => ?_)⟩
        · have h1 := ho3.row RK2.out (fun x hx hm => by
            have h1 := (RK2.out.lt x hx).1
            have h2 := BB.out
            have h3 := PB.out
            simp only [List.mem_cons, List.not_mem_nil, or_false] at hm
            omega)
          exact ⟨h1.1, h1.2.imp id (fun ⟨g, cap, cur, a, b, c⟩ => ⟨g, cap, cur, a, Nat.le_trans BB.out.2.2.2.1 b, c⟩)⟩
        · simp only [List.mem_cons, List.not_mem_nil, or_false] at hx
          rcases hx with rfl | rfl
          · exact .inl (by simp)
          · exact .inr BB.out.1
      clear hp3 ho3 AB RK2 OK2
      go_wp2_with fail
      go_ret2
      exact RES.out
end Go.Proofs.YtkajneeihhobhaaGreat

namespace Go.Proofs.YtkajneeihhobhaaGreat
open Go.ChangeShapes Go.WideShapes Go.ChangeAt Go.RowKit Go.Joins Go.Deep Go.Maps Wal
section
variable {H : Type} {enc : TypeId × Value → H} {W : World}
theorem cellsPOp : Tryz.prog.cellsOf 45 = 3 := by kernel_rfl
/-- A script of n Ops, read: each a kind, a number and a text. -/
def POps (w : World) (A : Option Addr) (n : Nat) (l : Nat → Nat × Int × ByteArray) : Prop :=
  (∀ i, i < n → (l i).1 < 256 ∧ -9223372036854775808 ≤ (l i).2.1 ∧ (l i).2.1 ≤ 9223372036854775807 ∧ (l i).2.2.size ≤ 9223372036854775807) ∧ (0 < n → ∃ b off, A = some ⟨b, off, none⟩ ∧ b < w.heap.size ∧ ∀ i, i < n → w.cell? ⟨b, off + i * 3, none⟩ = some (.int .u8 ((l i).1 : Int)) ∧ w.cell? ⟨b, off + i * 3 + 1, none⟩ = some (.int .i64 (l i).2.1) ∧ w.cell? ⟨b, off + i * 3 + 2, none⟩ = some (.string (l i).2.2))
theorem POps.kept {w w' : World} {A : Option Addr} {n : Nat} {l : Nat → Nat × Int × ByteArray} (h : POps w A n l) (hb : Below w.heap.size w w') : POps w' A n l :=
  ⟨h.1, fun hn => by
    obtain ⟨b, off, e, hl, hc⟩ := h.2 hn
    exact ⟨b, off, e, Nat.lt_of_lt_of_le hl hb.size, fun i hi => ⟨(hb.cell (p := ⟨b, off + i * 3, none⟩) hl).trans (hc i hi).1, (hb.cell (p := ⟨b, off + i * 3 + 1, none⟩) hl).trans (hc i hi).2.1, (hb.cell (p := ⟨b, off + i * 3 + 2, none⟩) hl).trans (hc i hi).2.2⟩⟩⟩
set_option maxRecDepth 100000 in
theorem open_pops {r : Reach} {b0 : Nat} {v : Value} {d : DataW H} {p : List MemPlace} (hv : Value.okWide Tryz.prog W r b0 22 v) (h : DataW.Trod enc Tryz.prog W 0 (fun _ => true) true 22 v d p) :
    ∃ A n c l, v = .slice A n c ∧ POps W A n l ∧ n ≤ 9223372036854775807 := by
  obtain ⟨A, n, c, rfl⟩ := okWide_slice Tryz.underlying22 hv
  obtain ⟨fuel, hf⟩ := h
  rcases open_slice Tryz.underlying22 hf with ⟨hcs, hx⟩ | ⟨a, len, cap, m, n', D, Pl, hcs, _, hl, hm, hmm, hx, hc⟩
  · simp [Value.cells] at hcs
    obtain ⟨rfl, rfl, rfl⟩ := hcs
    exact ⟨none, 0, 0, fun _ => (0, 0, ⟨#[]⟩), rfl, ⟨fun i hi => by omega, fun h => by omega⟩, by omega⟩
  · simp [Value.cells] at hcs
    obtain ⟨rfl, rfl, rfl⟩ := hcs
    simp only [if_true] at hmm
    subst hmm
    have key : ∀ i, i < m → ∃ o : Nat × Int × ByteArray, (o.1 < 256 ∧ -9223372036854775808 ≤ o.2.1 ∧ o.2.1 ≤ 9223372036854775807 ∧ o.2.2.size ≤ 9223372036854775807) ∧ W.cell? (a.add (i * 3)) = some (.int .u8 (o.1 : Int)) ∧ W.cell? (a.add (i * 3 + 1)) = some (.int .i64 o.2.1) ∧ W.cell? (a.add (i * 3 + 2)) = some (.string o.2.2) := fun i hi => by
      obtain ⟨cs', hcells, ht⟩ := hc i hi
      rw [cellsPOp] at hcells
      obtain ⟨_, hlen, hat⟩ := World.cells?_some hcells
      obtain ⟨y0, y1, y2, n2, hy, _, h0, h1, h2⟩ := trod_struct3 Tryz.underlying45 ht
      match cs', hlen with
      | [c0, c1, c2], _ =>
        have k0 : Tryz.prog.cellsOf 5 = 1 := cells5
        have k1 : Tryz.prog.cellsOf 3 = 1 := by kernel_rfl
        have k2 : Tryz.prog.cellsOf 9 = 1 := by kernel_rfl
        simp only [k0] at h0
        simp only [k1] at h1
        simp only [k2] at h2
        obtain ⟨z0, e0, _, w0⟩ := DataW.trod_int Tryz.underlying5 (show DataW.trod enc Tryz.prog W 0 (fun _ => true) true n2 5 [c0] = some y0 from h0)
        obtain ⟨z1, e1, _, w1⟩ := DataW.trod_int Tryz.underlying3 (show DataW.trod enc Tryz.prog W 0 (fun _ => true) true n2 3 [c1] = some y1 from h1)
        obtain ⟨z2, e2, _, w2⟩ := DataW.trod_string Tryz.underlying9 (show DataW.trod enc Tryz.prog W 0 (fun _ => true) true n2 9 [c2] = some y2 from h2)
        injection e0 with e0
        injection e1 with e1
        injection e2 with e2
        have u := u8_nat w0
        have b1 := hat 0 (by decide)
        have b2 := hat 1 (by decide)
        have b3 := hat 2 (by decide)
        rw [Go.Deep.add_add] at b1 b2 b3
        refine ⟨(z0.toNat, z1, z2), ⟨u.2, (i64_wf w1).1, (i64_wf w1).2, by unfold maxLen at w2; omega⟩, ?_, ?_, ?_⟩
        · refine b1.trans ?_
          show some c0 = some (Value.int .u8 ((z0.toNat : Nat) : Int))
          rw [u.1, e0]
        · refine b2.trans ?_
          show some c1 = _
          rw [e1]
        · refine b3.trans ?_
          show some c2 = _
          rw [e2]
    obtain ⟨f, hf'⟩ := choose_lt (α := Nat × Int × ByteArray) (p := fun i o => (o.1 < 256 ∧ -9223372036854775808 ≤ o.2.1 ∧ o.2.1 ≤ 9223372036854775807 ∧ o.2.2.size ≤ 9223372036854775807) ∧ W.cell? (a.add (i * 3)) = some (.int .u8 (o.1 : Int)) ∧ W.cell? (a.add (i * 3 + 1)) = some (.int .i64 o.2.1) ∧ W.cell? (a.add (i * 3 + 2)) = some (.string o.2.2)) key
    refine ⟨some a, n, m, f, rfl, ⟨fun i hi => (hf' i (by omega)).1, fun hp => ?_⟩, (by unfold maxLen at hm; omega)⟩
    obtain ⟨b, off, spot⟩ := a
    have h0 := (hf' 0 (by omega)).2.1
    have hspot : spot = none := by
      have := World.cell?_spot h0
      simpa [Addr.add] using this
    subst hspot
    refine ⟨b, off, rfl, by simpa [Addr.add] using block_lt h0, fun i hi => ?_⟩
    obtain ⟨_, h1, h2, h3⟩ := hf' i (by omega)
    have e1 : (⟨b, off, none⟩ : Addr).add (i * 3) = ⟨b, off + i * 3, none⟩ := by rw [add_plain]
    have e2 : (⟨b, off, none⟩ : Addr).add (i * 3 + 1) = ⟨b, off + i * 3 + 1, none⟩ := by rw [add_plain]; congr 1
    have e3 : (⟨b, off, none⟩ : Addr).add (i * 3 + 2) = ⟨b, off + i * 3 + 2, none⟩ := by rw [add_plain]; congr 1
    rw [← e1, ← e2, ← e3]
    exact ⟨h1, h2, h3⟩
end
end Go.Proofs.YtkajneeihhobhaaGreat
