/-
  uri: strings.IndexRune and ContainsAny at the two bytes that no segment has.
-/
import Derived.Test.YtpnmddealjoiiaaDoorU12
namespace Go.Proofs.YtpnmddealjoiiaaDoor
open Go.RowKit Uri

/-- The byte 0 and a slash. -/
def bad2 : ByteArray := ⟨#[0, 47]⟩
set_option maxRecDepth 100000 in
set_option maxHeartbeats 1600000 in
theorem irune_error (w : World) (C : ByteArray) (hC : C = bad2) :
    Calls Tryd.prog 66 #[.string C, .int .i32 65533] w fun e w' => e = .returned (.int .i64 (-1)) ∧ Below w.heap.size w w' := by
  have hs : C.size = 2 := by rw [hC]; rfl
  have h0 : ∀ h : 0 < C.size, (C[0]'h).toNat = 0 := by subst hC; intro h; rfl
  have h1 : ∀ h : 1 < C.size, (C[1]'h).toNat = 47 := by subst hC; intro h; rfl
  clear hC
  have BI : Hid (∀ pos, Below w.heap.size w (w.iter C pos)) := fun pos => (Below.refl _ _).alloc (Nat.le_refl _) _
  go_enter Tryd.func66, Tryd.ntmps66
  go_wp2_with fail
  go_loopg [5, 6] 2 (fun g _ _ wx => ∃ i : Nat, i + g = 2 ∧ wx = w.iter C i)
  case atStart => exact ⟨0, rfl, rfl⟩
  case round =>
    obtain ⟨i, hig, rfl⟩ := hrel
    cases gk with
    | zero =>
      obtain rfl : i = 2 := by omega
      have hnx := fun ty => run_next_end (P := Tryd.prog) w C 2 ty (by omega)
      go_wp2
      go_ret
      exact ⟨rfl, BI.out _⟩
    | succ g =>
      have hi : i < C.size := by omega
      have hx : (C[i]'hi).toNat ≠ 65533 ∧ (C[i]'hi).toNat < 128 := by
        have : i = 0 ∨ i = 1 := by omega
        rcases this with rfl | rfl
        · rw [h0 hi]; omega
        · rw [h1 hi]; omega
      have hnx := fun ty => run_next_ascii (P := Tryd.prog) w C i ty hi hx.2
      have hq : (((C[i]'hi).toNat : Int) == 65533) = false := by rw [beq_eq_false_iff_ne]; have := hx.1; omega
      clear hx
      go_wp2_with fail
      go_roundg g
      case measure => omega
      case rel => exact ⟨i + 1, by omega, rfl⟩
set_option maxRecDepth 100000 in
set_option maxHeartbeats 3200000 in
theorem irune_high (w : World) (C : ByteArray) (hC : C = bad2) (r : Int) (h128 : 128 ≤ r) (he : r ≠ 65533) (hv : r < 55296 ∨ (57343 < r ∧ r ≤ 1114111)) :
    Calls Tryd.prog 66 #[.string C, .int .i32 r] w fun e w' => e = .returned (.int .i64 (-1)) ∧ Below w.heap.size w w' := by
  have hs : C.size = 2 := by rw [hC]; rfl
  have h1 : ∀ h : 1 < C.size, (C[1]'h).toNat = 47 := by subst hC; intro h; rfl
  clear hC
  have uv : Utf8.valid r = true := by unfold Utf8.valid; simp only [Bool.or_eq_true, Bool.and_eq_true, decide_eq_true_eq]; omega
  obtain ⟨n2, n4, hl⟩ := encode_facts r uv h128
  have lv : Lib.validRune r = true := by unfold Lib.validRune; exact decide_eq_true (by omega)
  have VR := Lib.hid (Tryd.utf8_ValidRune r w)
  rw [lv] at VR
  have g1 : ¬ r < 128 := by omega
  have g0 : (0 : Int) ≤ r := by omega
  have g2 : (r == 65533) = false := by rw [beq_eq_false_iff_ne]; exact he
  clear uv lv hv he
  go_enter Tryd.func66, Tryd.ntmps66
  go_wp2_with fail
  refine VR.out.mono ?_
  rintro e w' ⟨rfl, rfl⟩
  clear VR
  obtain ⟨R, hR⟩ : ∃ R, Utf8.encode r = R := ⟨_, rfl⟩
  rw [hR] at n2 n4 hl
  have hcv : ∀ u, (convert 21 9 (.int .i32 r)).run Tryd.prog u = .ok (.string R) u := fun u => by rw [run_convert_int_string u _ _ _ _ (by kernel_rfl) Tryd.underlying9, hR]
  clear hR
  have hsub : (R.size : Int) - 1 = ((R.size - 1 : Nat) : Int) := by omega
  by_cases h3 : 3 ≤ R.size
  · go_wp2_with fail
    go_step3
    go_wp2_with fail
    go_loop [9, 10] (fun i f => i = .int .i64 ((R.size - 1 : Nat) : Int) ∧ f = .int .i64 0) (fun _ _ => 0)
    case atStart => exact ⟨rfl, rfl⟩
    case round =>
      obtain ⟨rfl, rfl⟩ := hrel
      have hge : ¬ ((R.size - 1 : Nat) : Int) < 2 := by omega
      go_wp2_with fail
      go_ret
      exact ⟨rfl, Below.refl _ _⟩
  · have h2 : R.size = 2 := by omega
    have hy : 1 < R.size := by omega
    have hyb : 128 ≤ (R[1]'hy).toNat := by
      have := hl (by omega)
      have e : R.size - 1 = 1 := by omega
      simp only [e] at this
      exact this
    obtain ⟨y, hyy⟩ : ∃ y, y = (R[1]'hy).toNat := ⟨_, rfl⟩
    rw [← hyy] at hyb
    have ey : ((R[1]'hy).toNat : Int) = (y : Int) := by rw [← hyy]
    have e47 : ((C[1]'(by omega)).toNat : Int) = 47 := by rw [h1 (by omega)]; rfl
    have hne : ((47 : Int) != (y : Int)) = true := by rw [bne_iff_ne]; omega
    have HYB : Hid (128 ≤ y) := hyb
    clear hl hyb hyy h1 h3 hsub
    have IB : Hid (∀ (c : Int) (u : World), Calls Tryd.prog 33 #[.string ByteArray.empty, .int .u8 c] u fun e w' => e = .returned (.int .i64 (-1)) ∧ w' = u) := fun c u => Tryd.strings_IndexByte ByteArray.empty c u
    go_wp2_with fail
    go_step3
    go_wp2_with fail
    go_loop [9, 10] (fun i f => i = .int .i64 1 ∧ f = .int .i64 0) (fun _ _ => 0)
    case atStart => exact ⟨rfl, rfl⟩
    case round =>
      obtain ⟨rfl, rfl⟩ := hrel
      go_wp2_with fail
      go_step3
      go_wp2_with fail
      go_quiet (fail)
      go_wp2_with fail
      obtain ⟨w2, hw2q⟩ : ∃ w2, w2 = w'.drewN nq := ⟨_, rfl⟩
      have BW : Hid (Below w'.heap.size w' w2) := by rw [hw2q]; exact ⟨rfl, rfl, rfl, Nat.le_refl _, fun _ _ => rfl⟩
      rw [← hw2q]
      clear hw2q
      have hw2 : IntKind.i64.wrap (2 : Int) = 2 := by decide
      go_quiet ((go_at_call 33; exact Calls.quiet_of_same (IB.out _ _)))
      go_wp2_with fail
      simp +zetaDelta only [Exit.inBlock, Exit.then, Exit.noGoto_ret]
      go_ret
      exact ⟨rfl, BW.out.trans ⟨rfl, rfl, rfl, Nat.le_refl _, fun _ _ => rfl⟩⟩

theorem bad2_contains (b : UInt8) : bad2.data.toList.contains b = decide (b.toNat = 0 ∨ b.toNat = 47) := by
  show [(0 : UInt8), 47].contains b = _
  rw [Bool.eq_iff_iff, List.contains_iff_mem, decide_eq_true_iff]
  simp only [List.mem_cons, List.not_mem_nil, or_false]
  constructor
  · rintro (rfl | rfl)
    · exact .inl rfl
    · exact .inr rfl
  · rintro (h | h)
    · exact .inl (UInt8.toNat_inj.1 h)
    · exact .inr (UInt8.toNat_inj.1 h)
theorem indexAny_bad2 (l : List UInt8) : (0 ≤ Lib.indexAny l bad2.data.toList) ↔ (0 ∈ l.map (fun b => b.toNat) ∨ 47 ∈ l.map (fun b => b.toNat)) := by
  induction l with
  | nil => simp [Lib.indexAny]
  | cons b r ih =>
    unfold Lib.indexAny
    rw [bad2_contains]
    by_cases hb : b.toNat = 0 ∨ b.toNat = 47
    · rw [if_pos (decide_eq_true hb)]
      simp only [List.map_cons, List.mem_cons]
      constructor
      · intro _
        rcases hb with h | h
        · exact .inl (.inl h.symm)
        · exact .inr (.inl h.symm)
      · intro _; exact Int.le_refl _
    · rw [if_neg (by simpa using hb)]
      have hg := Lib.indexAny_ge bad2.data.toList r
      have e : (0 ≤ (if Lib.indexAny r bad2.data.toList == -1 then -1 else Lib.indexAny r bad2.data.toList + 1)) ↔ 0 ≤ Lib.indexAny r bad2.data.toList := by
        split
        · rename_i h
          have := eq_of_beq h
          omega
        · rename_i h
          have : Lib.indexAny r bad2.data.toList ≠ -1 := fun e => h (by rw [e]; rfl)
          omega
      rw [e, ih]
      simp only [List.map_cons, List.mem_cons]
      constructor
      · rintro (h | h)
        · exact .inl (.inr h)
        · exact .inr (.inr h)
      · rintro ((h | h) | (h | h))
        · exact absurd (.inl h.symm) hb
        · exact .inl h
        · exact absurd (.inr h.symm) hb
        · exact .inr h
theorem zero_set : ∀ w, (zeroValue 90).run Tryd.prog w = .ok (.agg (Array.replicate 256 (.bool false))) w := fun w => by
  exact (zero_of_info (P := Tryd.prog) (t := 90) (v := .agg (Array.replicate 256 (.bool false))) (n := 256) (by kernel_rfl)).1 w
end Go.Proofs.YtpnmddealjoiiaaDoor
