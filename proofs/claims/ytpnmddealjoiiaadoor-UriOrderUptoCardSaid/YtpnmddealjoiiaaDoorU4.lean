/-
  uri: what the document's UTF8 answers.
-/
import Derived.Test.YtpnmddealjoiiaaDoorU3
namespace Go.Proofs.YtpnmddealjoiiaaDoor
open Go.RowKit Uri

theorem sub_drop {l : List Nat} {k n : Nat} : (l.drop k).drop n = l.drop (k + n) := by rw [List.drop_drop]
set_option maxRecDepth 100000 in
set_option maxHeartbeats 800000 in
theorem utf8_any (w : World) (s : ByteArray) (hs : s.size ≤ 4294967296) :
    Calls Tryd.prog 28 #[.string s] w fun e w' => e = .returned (.bool (utf8 (nums s))) ∧ w = w' := by
  have HL : Hid ((nums s).length = s.size) := nums_length s
  go_enter Tryd.func28, Tryd.ntmps28
  go_wp2
  go_loop [3] (fun i => ∃ k : Nat, k ≤ s.size ∧ i = .int .i64 k ∧ Hid (utf8 (nums s) = utf8 ((nums s).drop k))) (fun i => s.size - (intOf i).toNat)
  case atStart => exact ⟨0, by omega, rfl, by show utf8 _ = _; rw [List.drop_zero]⟩
  case round =>
    obtain ⟨k, hk, rfl, hn⟩ := hrel
    by_cases hlt : k < s.size
    · obtain ⟨t, ht⟩ : ∃ t, t = s.extract k s.size := ⟨_, rfl⟩
      have htn : nums t = (nums s).drop k := by rw [ht]; exact nums_drop s k
      have hts : t.size = s.size - k := by rw [← nums_length, htn, List.length_drop, HL.out]
      have R := Lib.hid (rune1_any w t (by omega) (by omega))
      have HT : Hid (nums t = (nums s).drop k) := htn
      have hne : Hid ((nums s).drop k ≠ []) := by
        show _ ≠ _
        intro h
        have := congrArg List.length h
        rw [List.length_drop, HL.out] at this
        simp at this
        omega
      rw [ht] at R
      clear htn hts
      go_wp2_with fail
      refine R.out.mono ?_
      rintro e w' ⟨⟨n, ok, rfl, h1, h2⟩, rfl⟩
      rw [← ht, HT.out] at h1 h2
      clear ht R
      cases ok
      · have F : Hid (utf8 (nums s) = false) := by show _ = _; rw [hn.out]; exact utf8_none hne.out (h2 rfl)
        clear h1 h2
        go_wp2
        go_ret
        exact ⟨ret_bool F.out.symm, rfl⟩
      · have hr := step_range hne.out (h1 rfl)
        have hl : ((nums s).drop k).length = s.size - k := by rw [List.length_drop, HL.out]
        rw [hl] at hr
        have F : Hid (utf8 (nums s) = utf8 ((nums s).drop (k + n))) := by show _ = _; rw [hn.out, utf8_step hne.out (h1 rfl), List.drop_drop]
        clear h1 h2 hl
        go_wp2
        go_round
        case rel => exact ⟨k + n, by omega, by go_num, F⟩
        case measure => simp [intOf]; omega
    · obtain rfl : k = s.size := by omega
      have F : Hid (utf8 (nums s) = true) := by show _ = _; rw [hn.out, ← HL.out, List.drop_length]; rfl
      go_wp2
      go_ret
      exact ⟨ret_bool F.out.symm, rfl⟩
end Go.Proofs.YtpnmddealjoiiaaDoor
