/-
  uri: docketlaw09.fixed.
-/
import Derived.Test.YtpnmddealjoiiaaDoorU27
import Derived.Test.YtpnmddealjoiiaaDoorU21
namespace Go.Proofs.YtpnmddealjoiiaaDoor
open Go.ChangeShapes Go.WideShapes Go.ChangeAt Go.RowKit Uri

theorem strs_lit (w : World) (l : List ByteArray) (e : TypeId) (m : Nat × Nat) (b : Nat) (hb : b = w.heap.size) : Strs (w.alloc (.cells (strVs l).toArray e m)) (some ⟨b, 0, none⟩) l.length l := by
  subst hb
  refine ⟨rfl, fun _ => ⟨_, 0, rfl, by simp, fun i s hi => ?_⟩⟩
  rw [Nat.zero_add, World.cell?_alloc_mark]
  simp [strVs, hi]
theorem fx_p1 : Uri.parse (nums ⟨#[47, 97, 47, 98, 37, 50, 48, 99, 47]⟩) = (txts [⟨#[97]⟩, ⟨#[98, 32, 99]⟩], true, 0) := by decide
theorem fx_p2 : Uri.parse (nums ⟨#[47, 37, 50, 70]⟩) = ([], false, 20) := by decide
theorem fx_t1 : strB (text (txts [⟨#[97]⟩, ⟨#[98, 32, 99]⟩, ⟨#[37]⟩])) = ⟨#[47, 97, 47, 98, 37, 50, 48, 99, 47, 37, 50, 53]⟩ := by kernel_rfl
theorem fx_t2 : strB (text (txts [])) = ⟨#[47]⟩ := by kernel_rfl
theorem fx_w : within (txts [⟨#[97]⟩, ⟨#[98]⟩]) (txts [⟨#[97]⟩]) = true := by decide
theorem below_drewN {B : Nat} {w a : World} (h : Below B w a) (k : Nat) : Below B w (a.drewN k) := h.trans ⟨rfl, rfl, rfl, Nat.le_refl _, fun _ _ => rfl⟩
theorem nums_inj3 {D : List ByteArray} {l : List ByteArray} (h : txts l = txts D) : D = l := (txts_inj h).symm
set_option maxRecDepth 100000 in
set_option maxHeartbeats 1600000 in
theorem fixed_any (w : World) (E : Env w) :
    Calls Tryd.prog 9 #[] w fun e w' => e = .returned (.bool true) ∧ Below w.heap.size w w' := by
  have HE := Lib.hid E
  have P1 := Lib.hid (parse_any w ⟨#[47, 97, 47, 98, 37, 50, 48, 99, 47]⟩ (by decide) E)
  clear E
  go_enter Tryd.func9, Tryd.ntmps9
  go_wp2_with fail
  refine P1.out.mono ?_
  rintro e w1 ⟨⟨A1, c1, D1, d1, r1, rfl, hc1, hs1, h1⟩, hb1⟩
  rw [fx_p1] at h1
  simp only [Prod.mk.injEq] at h1
  obtain ⟨h1, rfl, rfl⟩ := h1
  obtain rfl := nums_inj3 h1
  have S1 := Lib.hid hs1
  have B1 := Lib.hid hb1
  have E1 := Lib.hid (HE.out.below hb1)
  have P2 := Lib.hid (parse_any w1 ⟨#[47, 37, 50, 70]⟩ (by decide) E1.out)
  clear h1 hc1 hs1 hb1 P1
  go_wp2_with fail
  refine P2.out.mono ?_
  rintro e w2 ⟨⟨A2, c2, D2, d2, r2, rfl, hc2, hs2, h2⟩, hb2⟩
  rw [fx_p2] at h2
  simp only [Prod.mk.injEq] at h2
  obtain ⟨h2, rfl, rfl⟩ := h2
  obtain rfl := nums_inj3 (l := []) h2
  have S2 := Lib.hid (S1.out.below hb2)
  have B2 := Lib.hid (B1.out.trans (hb2.mono B1.out.size))
  have E2 := Lib.hid (E1.out.below hb2)
  clear h2 hc2 hs2 hb2 P2 E1 S1 B1
  obtain ⟨b, off, s, rfl, e1, x1, _⟩ := S2.out.at_ (k := 1) (by decide)
  simp only [List.getElem?_cons_succ, List.getElem?_cons_zero, Option.some.injEq] at e1
  subst e1
  have L3 := Lib.hid (strs_lit w2 [⟨#[97]⟩, ⟨#[98, 32, 99]⟩, ⟨#[37]⟩] 9 (0, 0) _ rfl)
  have N3 : Hid (Below w2.heap.size w2 (w2.alloc (.cells #[.string ⟨#[97]⟩, .string ⟨#[98, 32, 99]⟩, .string ⟨#[37]⟩] 9))) := (Below.refl _ _).alloc (Nat.le_refl _) _
  have T1 := Lib.hid (text_of (w2.alloc (.cells #[.string ⟨#[97]⟩, .string ⟨#[98, 32, 99]⟩, .string ⟨#[37]⟩] 9)) _ 3 3 _ (by omega) L3.out (by decide) (E2.out.below N3.out))
  rw [fx_t1] at T1
  go_wp2_with fail
  refine T1.out.mono ?_
  rintro e w4 ⟨rfl, hb4⟩
  have B4 := Lib.hid (B2.out.trans (N3.out.mono B2.out.size |>.trans (hb4.mono (by simp; have := B2.out.size; omega))))
  have E4 := Lib.hid (HE.out.below B4.out)
  clear hb4 T1 N3 L3 E2 S2 x1
  go_wp2_with fail
  have W5 : Hid (Calls Tryd.prog 17 #[.slice (some ⟨w4.heap.size, 0, none⟩) 2 2, .slice (some ⟨w4.heap.size + 1, 0, none⟩) 1 1] ((w4.alloc (.cells #[.string ⟨#[97]⟩, .string ⟨#[98]⟩] 9)).alloc (.cells #[.string ⟨#[97]⟩] 9)) fun e w' => e = .returned (.bool true) ∧ Below w.heap.size w w') := by
    have h5 := strs_lit w4 [⟨#[97]⟩, ⟨#[98]⟩] 9 (0, 0) _ rfl
    obtain ⟨u, hu⟩ : ∃ u, u = w4.alloc (.cells #[.string ⟨#[97]⟩, .string ⟨#[98]⟩] 9) := ⟨_, rfl⟩
    have h5' : Strs u (some ⟨w4.heap.size, 0, none⟩) 2 [⟨#[97]⟩, ⟨#[98]⟩] := by rw [hu]; exact h5
    have su : u.heap.size = w4.heap.size + 1 := by rw [hu]; exact World.size_alloc _ _
    have b5 : Below w4.heap.size w4 u := by rw [hu]; exact (Below.refl _ _).alloc (Nat.le_refl _) _
    have b6 : Below u.heap.size u (u.alloc (.cells #[.string ⟨#[97]⟩] 9)) := (Below.refl _ _).alloc (Nat.le_refl _) _
    rw [← hu]
    refine (within_any _ _ _ 2 2 1 1 [⟨#[97]⟩, ⟨#[98]⟩] [⟨#[97]⟩] (by omega) (by omega) (h5'.below b6) (strs_lit u [⟨#[97]⟩] 9 (0, 0) _ su.symm)).mono ?_
    rintro e w' ⟨rfl, k, rfl⟩
    have hs := B4.out.size
    exact ⟨ret_bool fx_w, below_drewN ((B4.out.trans (b5.mono hs)).trans (b6.mono (by omega))) k⟩
  refine W5.out.mono ?_
  rintro e w6 ⟨rfl, hb6⟩
  have B6 := Lib.hid hb6
  have E6 := Lib.hid (HE.out.below hb6)
  have T2 := Lib.hid (text_of w6 none 0 0 [] (by omega) (Strs.nil _ _) (by simp) E6.out)
  rw [fx_t2] at T2
  clear hb6 W5 B4 E4
  go_wp2_with fail
  refine T2.out.mono ?_
  rintro e w7 ⟨rfl, hb7⟩
  have B7 := Lib.hid (B6.out.trans (hb7.mono B6.out.size))
  clear hb7 T2
  go_wp2_with fail
  go_ret
  exact ⟨rfl, B7.out⟩
/-- What is read has at most 12 segments, each of at most 64 bytes. -/
theorem parse_len (s : ByteArray) : (Uri.parse (nums s)).1.length ≤ 12 := by
  rcases parse_good (nums_lt s) with ⟨_, h, _⟩ | h | h
  · exact (good_parts h).2
  · rw [h]; simp
  · rw [h]; simp
theorem cellsS : Tryd.prog.cellsOf 9 = 1 := by kernel_rfl
theorem bulk_lits {H : Type} (S : Nat → ByteArray) : ∀ (l : List Nat), l.length ≤ Rows.uptoBulkAll (H := H) (l.map fun i => .lit (.string (S i).data.toList)) ∧ ∀ i ∈ l, (S i).size ≤ Rows.uptoBulkAll (H := H) (l.map fun i => .lit (.string (S i).data.toList))
  | [] => ⟨Nat.zero_le _, by simp⟩
  | i :: r => by
    obtain ⟨h1, h2⟩ := bulk_lits (H := H) S r
    have hb : (S i).data.toList.length = (S i).size := Array.length_toList
    simp only [List.map_cons, Rows.uptoBulkAll, Rows.uptoBulk, List.length_cons]
    refine ⟨by omega, fun j hj => ?_⟩
    rcases List.mem_cons.1 hj with rfl | hj
    · omega
    · have := h2 j hj
      omega
set_option maxRecDepth 100000 in
/-- An argument of type []string. -/
theorem open_list {H : Type} {enc : TypeId × Value → H} {W : World} {r : Reach} {b0 : Nat} {v : Value} {d : DataW H} {p : List MemPlace} (hv : Value.okWide Tryd.prog W r b0 23 v) (h : DataW.Trod enc Tryd.prog W 0 (fun _ => true) true 23 v d p) (hk : Rows.uptoBulk d ≤ 1048576) :
    ∃ A n c l, v = .slice A n c ∧ Strs W A n l ∧ n ≤ c ∧ n ≤ 1048576 ∧ ∀ s ∈ l, s.size ≤ 1048576 := by
  obtain ⟨A, n, c, rfl⟩ := okWide_slice Tryd.underlying23 hv
  obtain ⟨fuel, hf0⟩ := h
  have hf : DataW.trod enc Tryd.prog W 0 (fun _ => true) true fuel 23 [.slice A n c] = some (d, p) := hf0
  rcases Go.Deep.open_strs Tryd.underlying23 Tryd.underlying9 cellsS hf with ⟨hcs, hx⟩ | ⟨a, len, cap, m, S, hcs, _, hl, hm, hmm, hx, hc⟩
  · injection hcs with hcs
    injection hcs with e1 e2 e3
    subst e1 e2 e3
    exact ⟨none, 0, 0, [], rfl, Strs.nil _ _, Nat.le_refl _, by omega, by simp⟩
  · injection hcs with hcs
    injection hcs with e1 e2 e3
    subst e1 e2 e3
    simp only [if_true] at hmm
    subst hmm
    simp only [Prod.mk.injEq] at hx
    obtain ⟨rfl, _⟩ := hx
    obtain ⟨b1, b2⟩ := bulk_lits (H := H) S (List.range n)
    simp only [Rows.uptoBulk] at hk
    rw [List.length_range] at b1
    refine ⟨some a, n, m, (List.range n).map S, rfl, ⟨by simp, fun hp => ?_⟩, hl, by omega, fun s hs => ?_⟩
    · obtain ⟨b, off, spot⟩ := a
      have h0 := (hc 0 (by omega)).1
      have hspot : spot = none := by simpa [Addr.add] using World.cell?_spot h0
      subst hspot
      refine ⟨b, off, rfl, by simpa [Addr.add] using block_lt h0, fun i s hi => ?_⟩
      rw [List.getElem?_map] at hi
      obtain ⟨i', hi', rfl⟩ := Option.map_eq_some_iff.1 hi
      have hil : i < n := by
        rcases Nat.lt_or_ge i n with h' | h'
        · exact h'
        · rw [List.getElem?_eq_none (by simpa using h')] at hi'; cases hi'
      rw [List.getElem?_range hil] at hi'
      injection hi' with hi'
      subst hi'
      have h1 := (hc i (by omega)).1
      have e : (⟨b, off, none⟩ : Addr).add i = ⟨b, off + i, none⟩ := by cases i <;> simp [Addr.add]
      rw [← e, h1]
    · obtain ⟨i, hi, rfl⟩ := List.mem_map.1 hs
      have := b2 i hi
      omega
end Go.Proofs.YtpnmddealjoiiaaDoor
