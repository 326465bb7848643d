/-
  uri: standsAsItIs; Good; Within (written out by a program).
-/
import Derived.Test.YtpnmddealjoiiaaDoorU19
namespace Go.Proofs.YtpnmddealjoiiaaDoor
open Go.RowKit Uri

set_option maxHeartbeats 1600000 in
theorem stands_any (w : World) (y : Nat) (_hy : y < 256) :
    Calls Tryd.prog 44 #[.int .u8 (y : Int)] w fun e w' => e = .returned (.bool (plain y)) ∧ w = w' := by
  have PE := plain_eq y
  by_cases c0 : 97 ≤ y ∧ y ≤ 122
  · have PV : Hid (plain y = true) := by show _ = _; rw [PE]; simp; omega
    have q0 : (97 : Int) ≤ (y : Int) := by omega
    have q1 : (y : Int) ≤ 122 := by omega
    clear PE c0
    go_enter Tryd.func44, Tryd.ntmps44
    go_wp2
    go_ret
    exact ⟨ret_bool PV.out.symm, rfl⟩
  by_cases c1 : 65 ≤ y ∧ y ≤ 90
  · have PV : Hid (plain y = true) := by show _ = _; rw [PE]; simp; omega
    have q0 : ¬ (97 : Int) ≤ (y : Int) := by omega
    have q1 : (65 : Int) ≤ (y : Int) := by omega
    have q2 : (y : Int) ≤ 90 := by omega
    clear PE c0 c1
    go_enter Tryd.func44, Tryd.ntmps44
    go_wp2
    go_ret
    exact ⟨ret_bool PV.out.symm, rfl⟩
  by_cases c2 : 48 ≤ y ∧ y ≤ 57
  · have PV : Hid (plain y = true) := by show _ = _; rw [PE]; simp; omega
    have q0 : ¬ (97 : Int) ≤ (y : Int) := by omega
    have q1 : ¬ (65 : Int) ≤ (y : Int) := by omega
    have q2 : (48 : Int) ≤ (y : Int) := by omega
    have q3 : (y : Int) ≤ 57 := by omega
    clear PE c0 c1 c2
    go_enter Tryd.func44, Tryd.ntmps44
    go_wp2
    go_ret
    exact ⟨ret_bool PV.out.symm, rfl⟩
  by_cases c3 : y = 45
  · have PV : Hid (plain y = true) := by show _ = _; rw [PE]; simp; omega
    have q0 : ¬ (97 : Int) ≤ (y : Int) := by omega
    have q1 : ¬ (65 : Int) ≤ (y : Int) := by omega
    have q2 : ¬ (48 : Int) ≤ (y : Int) := by omega
    have q3 : ((y : Int) == 45) = true := by simp; omega
    clear PE c0 c1 c2 c3
    go_enter Tryd.func44, Tryd.ntmps44
    go_wp2
    go_ret
    exact ⟨ret_bool PV.out.symm, rfl⟩
  by_cases c4 : y = 46
  · have PV : Hid (plain y = true) := by show _ = _; rw [PE]; simp; omega
    have q0 : ¬ (97 : Int) ≤ (y : Int) := by omega
    have q1 : ¬ (65 : Int) ≤ (y : Int) := by omega
    have q2 : ¬ (48 : Int) ≤ (y : Int) := by omega
    have q3 : ((y : Int) == 45) = false := by simp; omega
    have q4 : ((y : Int) == 46) = true := by simp; omega
    clear PE c0 c1 c2 c3 c4
    go_enter Tryd.func44, Tryd.ntmps44
    go_wp2
    go_ret
    exact ⟨ret_bool PV.out.symm, rfl⟩
  by_cases c5 : y = 95
  · have PV : Hid (plain y = true) := by show _ = _; rw [PE]; simp; omega
    have q0 : ¬ (97 : Int) ≤ (y : Int) := by omega
    have q1 : (65 : Int) ≤ (y : Int) := by omega
    have q2 : ¬ (y : Int) ≤ 90 := by omega
    have q3 : (48 : Int) ≤ (y : Int) := by omega
    have q4 : ¬ (y : Int) ≤ 57 := by omega
    have q5 : ((y : Int) == 45) = false := by simp; omega
    have q6 : ((y : Int) == 46) = false := by simp; omega
    have q7 : ((y : Int) == 95) = true := by simp; omega
    clear PE c0 c1 c2 c3 c4 c5
    go_enter Tryd.func44, Tryd.ntmps44
    go_wp2
    go_ret
    exact ⟨ret_bool PV.out.symm, rfl⟩
  by_cases c6 : y = 126
  · have PV : Hid (plain y = true) := by show _ = _; rw [PE]; simp; omega
    have q0 : (97 : Int) ≤ (y : Int) := by omega
    have q1 : ¬ (y : Int) ≤ 122 := by omega
    have q2 : (65 : Int) ≤ (y : Int) := by omega
    have q3 : ¬ (y : Int) ≤ 90 := by omega
    have q4 : (48 : Int) ≤ (y : Int) := by omega
    have q5 : ¬ (y : Int) ≤ 57 := by omega
    have q6 : ((y : Int) == 45) = false := by simp; omega
    have q7 : ((y : Int) == 46) = false := by simp; omega
    have q8 : ((y : Int) == 95) = false := by simp; omega
    have q9 : ((y : Int) == 126) = true := by simp; omega
    clear PE c0 c1 c2 c3 c4 c5 c6
    go_enter Tryd.func44, Tryd.ntmps44
    go_wp2
    go_ret
    exact ⟨ret_bool PV.out.symm, rfl⟩
  have PV : Hid (plain y = false) := by show _ = _; rw [PE]; simp; omega
  clear PE
  by_cases d0 : y < 48
  · have q0 : ¬ (97 : Int) ≤ (y : Int) := by omega
    have q1 : ¬ (65 : Int) ≤ (y : Int) := by omega
    have q2 : ¬ (48 : Int) ≤ (y : Int) := by omega
    have q3 : ((y : Int) == 45) = false := by simp; omega
    have q4 : ((y : Int) == 46) = false := by simp; omega
    have q5 : ((y : Int) == 95) = false := by simp; omega
    have q6 : ((y : Int) == 126) = false := by simp; omega
    clear c0 c1 c2 c3 c4 c5 c6 d0
    go_enter Tryd.func44, Tryd.ntmps44
    go_wp2
    go_ret
    exact ⟨ret_bool PV.out.symm, rfl⟩
  by_cases d1 : 58 ≤ y ∧ y ≤ 64
  · have q0 : ¬ (97 : Int) ≤ (y : Int) := by omega
    have q1 : ¬ (65 : Int) ≤ (y : Int) := by omega
    have q2 : (48 : Int) ≤ (y : Int) := by omega
    have q3 : ¬ (y : Int) ≤ 57 := by omega
    have q4 : ((y : Int) == 45) = false := by simp; omega
    have q5 : ((y : Int) == 46) = false := by simp; omega
    have q6 : ((y : Int) == 95) = false := by simp; omega
    have q7 : ((y : Int) == 126) = false := by simp; omega
    clear c0 c1 c2 c3 c4 c5 c6 d0 d1
    go_enter Tryd.func44, Tryd.ntmps44
    go_wp2
    go_ret
    exact ⟨ret_bool PV.out.symm, rfl⟩
  by_cases d2 : 91 ≤ y ∧ y ≤ 96
  · have q0 : ¬ (97 : Int) ≤ (y : Int) := by omega
    have q1 : (65 : Int) ≤ (y : Int) := by omega
    have q2 : ¬ (y : Int) ≤ 90 := by omega
    have q3 : (48 : Int) ≤ (y : Int) := by omega
    have q4 : ¬ (y : Int) ≤ 57 := by omega
    have q5 : ((y : Int) == 45) = false := by simp; omega
    have q6 : ((y : Int) == 46) = false := by simp; omega
    have q7 : ((y : Int) == 95) = false := by simp; omega
    have q8 : ((y : Int) == 126) = false := by simp; omega
    clear c0 c1 c2 c3 c4 c5 c6 d0 d1 d2
    go_enter Tryd.func44, Tryd.ntmps44
    go_wp2
    go_ret
    exact ⟨ret_bool PV.out.symm, rfl⟩
  · have q0 : (97 : Int) ≤ (y : Int) := by omega
    have q1 : ¬ (y : Int) ≤ 122 := by omega
    have q2 : (65 : Int) ≤ (y : Int) := by omega
    have q3 : ¬ (y : Int) ≤ 90 := by omega
    have q4 : (48 : Int) ≤ (y : Int) := by omega
    have q5 : ¬ (y : Int) ≤ 57 := by omega
    have q6 : ((y : Int) == 45) = false := by simp; omega
    have q7 : ((y : Int) == 46) = false := by simp; omega
    have q8 : ((y : Int) == 95) = false := by simp; omega
    have q9 : ((y : Int) == 126) = false := by simp; omega
    clear c0 c1 c2 c3 c4 c5 c6 d0 d1 d2
    go_enter Tryd.func44, Tryd.ntmps44
    go_wp2
    go_ret
    exact ⟨ret_bool PV.out.symm, rfl⟩

set_option maxRecDepth 100000 in
set_option maxHeartbeats 1600000 in
theorem good_any (w : World) (A : Option Addr) (n c : Nat) (a : List ByteArray) (hn : n ≤ 4611686018427387904) (ha : Strs w A n a) (hs : ∀ s ∈ a, s.size ≤ 4194304) (E : Env w) :
    Calls Tryd.prog 13 #[.slice A n c] w fun e w' => e = .returned (.bool (good (txts a))) ∧ Below w.heap.size w w' := by
  have HA := Lib.hid ha
  have HS := Lib.hid hs
  have HE := Lib.hid E
  have hla := Lib.hid ha.1
  clear ha hs E
  by_cases h12 : 12 < n
  · have hz : (12 : Int) < (n : Int) := by omega
    have G : Hid (good (txts a) = false) := by
      show _ = _
      unfold good
      rw [decide_eq_false (by rw [txts_length, hla.out]; omega), Bool.and_false]
    go_enter Tryd.func13, Tryd.ntmps13
    go_wp2
    go_ret
    exact ⟨ret_bool G.out.symm, Below.refl _ _⟩
  · have hz : ¬ (12 : Int) < (n : Int) := by omega
    go_enter Tryd.func13, Tryd.ntmps13
    go_wp2_with fail
    go_loopw [10] (fun i wr => ∃ k : Nat, k ≤ n ∧ i = .int .i64 k ∧ Hid (Below w.heap.size w wr) ∧ Hid (∀ s ∈ a.take k, seg (nums s) = true)) (fun i _ => n - (intOf i).toNat)
    case atStart => exact ⟨0, by omega, rfl, Below.refl _ _, by show ∀ s ∈ _, _; simp⟩
    case round =>
      obtain ⟨k, hk, rfl, HB, HK⟩ := hrel
      by_cases hlt : k < n
      · obtain ⟨b, off, s, rfl, e1, x1, e2⟩ := (HA.out.below HB.out).at_ hlt
        have hm : s ∈ a := List.mem_of_getElem? e1
        have E2 := Lib.hid e2
        have BAD : Hid (seg (nums s) = false → good (txts a) = false) := fun h => good_bad (List.mem_map.2 ⟨s, hm, rfl⟩) h
        have IS := Lib.hid (issegment_any wr s (HS.out s hm) (HE.out.below HB.out))
        obtain ⟨g, hg⟩ : ∃ g, g = seg (nums s) := ⟨_, rfl⟩
        have G := Lib.hid hg
        rw [← hg] at IS BAD
        clear hg e1 e2 hm
        go_wp2_with fail
        refine IS.out.mono ?_
        rintro e w2 ⟨rfl, hb2⟩
        have B2 := Lib.hid (HB.out.trans (hb2.mono HB.out.size))
        clear IS hb2
        cases g
        · go_wp2_with fail
          go_ret
          exact ⟨ret_bool (BAD.out (by first | rfl | trivial)).symm, B2.out⟩
        · have NK : Hid (∀ t ∈ a.take (k + 1), seg (nums t) = true) := by
            show ∀ t ∈ _, _
            rw [E2.out]
            intro t ht
            rcases List.mem_append.1 ht with ht | ht
            · exact HK.out t ht
            · have : t = s := by simpa using ht
              rw [this]
              exact G.out.symm
          go_wp2_with fail
          go_roundw
          case rel => exact ⟨k + 1, by omega, by go_num, B2, NK⟩
          case measure => simp [intOf]; omega
      · obtain rfl : k = n := by omega
        have G : Hid (good (txts a) = true) := by
          show _ = _
          unfold good
          have e1 : (txts a).all seg = true := by
            rw [List.all_eq_true]
            intro r hr
            obtain ⟨s, hs, rfl⟩ := List.mem_map.1 hr
            exact HK.out s (by rw [← hla.out, List.take_length]; exact hs)
          rw [e1, Bool.true_and, txts_length, hla.out]
          exact decide_eq_true (by omega)
        go_wp2_with fail
        go_ret
        exact ⟨ret_bool G.out.symm, HB.out⟩
theorem equal_any (w : World) (A B : Option Addr) (n c d : Nat) (a b : List ByteArray) (hn : n ≤ 4611686018427387904) (ha : Strs w A n a) (hb : Strs w B n b) :
    Calls Tryd.prog 32 #[.slice A n c, .slice B n d] w fun e w' => e = .returned (.bool (decide (a = b))) ∧ ∃ q, w' = w.drewN q := by
  rcases Nat.eq_zero_or_pos n with h0 | h0
  · subst h0
    have e1 : a = [] := List.eq_nil_of_length_eq_zero ha.1
    have e2 : b = [] := List.eq_nil_of_length_eq_zero hb.1
    subst e1 e2
    refine (Tryd.slices_Equal_string_empty A B c 0 d w (by omega)).mono ?_
    rintro e w' ⟨rfl, rfl⟩
    exact ⟨rfl, 0, rfl⟩
  · obtain ⟨b1, o1, rfl, _, h1⟩ := ha.2 h0
    obtain ⟨b2, o2, rfl, _, h2⟩ := hb.2 h0
    have hl1 := ha.1
    have hl2 := hb.1
    refine (Tryd.slices_Equal_string b1 o1 n c b2 o2 n d a b w (by omega) (by omega) (by omega) (by omega) (fun j hj => ?_) (fun j hj => ?_)).mono ?_
    · refine h1 j _ ?_
      rw [List.getD_eq_getElem?_getD, List.getElem?_eq_getElem hj]
      rfl
    · refine h2 j _ ?_
      rw [List.getD_eq_getElem?_getD, List.getElem?_eq_getElem hj]
      rfl
    · rintro e w' ⟨rfl, q, rfl⟩
      refine ⟨ret_bool ?_, q, rfl⟩
      rw [List.take_of_length_le (by omega), List.take_of_length_le (by omega)]
set_option maxRecDepth 100000 in
set_option maxHeartbeats 800000 in
theorem within_any (w : World) (A B : Option Addr) (n c n' c' : Nat) (a b : List ByteArray) (hn' : n' ≤ 4611686018427387904) (hc : n ≤ c) (ha : Strs w A n a) (hb : Strs w B n' b) :
    Calls Tryd.prog 17 #[.slice A n c, .slice B n' c'] w fun e w' => e = .returned (.bool (within (txts a) (txts b))) ∧ ∃ k, w' = w.drewN k := by
  have hla := ha.1
  have hlb := hb.1
  by_cases hle : n' ≤ n
  · have S := Lib.hid (fun cc => equal_any w A B n' cc c' (a.take n') b hn' (ha.take hle) hb)
    have EQ : Hid (decide (a.take n' = b) = within (txts a) (txts b)) := by
      show _ = _
      unfold within
      refine decide_eq_decide.2 ⟨fun h => ⟨by rw [txts_length, txts_length]; omega, by rw [← h]; simp [txts, hla]⟩, fun h => txts_inj ?_⟩
      rw [← h.2, txts_length, hlb]
      simp [txts]
    have h1 : ¬ (n : Int) < (n' : Int) := by omega
    have h2 : n' ≤ c := by omega
    have h3 : (n' : Int) ≤ (n : Int) := by omega
    clear ha hb hla hlb
    go_enter Tryd.func17, Tryd.ntmps17
    go_wp2_with fail
    refine (S.out _).mono ?_
    rintro e w' ⟨rfl, q, rfl⟩
    obtain ⟨bb, hbb⟩ : ∃ bb, bb = decide (a.take n' = b) := ⟨_, rfl⟩
    have HB := Lib.hid hbb
    rw [← hbb]
    clear hbb S
    go_wp2_with fail
    go_ret
    exact ⟨ret_bool (by rw [HB.out, EQ.out]), q, rfl⟩
  · have EQ : Hid (within (txts a) (txts b) = false) := by
      show _ = _
      unfold within
      exact decide_eq_false (fun h => hle (by have := h.1; rw [txts_length, txts_length] at this; omega))
    have h1 : ¬ (n' : Int) ≤ (n : Int) := by omega
    clear ha hb hla hlb
    go_enter Tryd.func17, Tryd.ntmps17
    go_wp2_with fail
    go_ret
    exact ⟨ret_bool EQ.out.symm, 0, rfl⟩
end Go.Proofs.YtpnmddealjoiiaaDoor
