/-
  uri: what the document's Same, Within and Good answer.
-/
import Derived.Test.YtpnmddealjoiiaaDoorU6
namespace Go.Proofs.YtpnmddealjoiiaaDoor
open Go.RowKit Uri

set_option maxHeartbeats 400000 in
theorem same_any (w : World) (A B : Option Addr) (n c n' c' : Nat) (a b : List ByteArray) (hn : n ≤ 4611686018427387904) (hn' : n' ≤ 4611686018427387904) (ha : Strs w A n a) (hb : Strs w B n' b) :
    Calls Tryd.prog 12 #[.slice A n c, .slice B n' c'] w fun e w' => e = .returned (.bool (decide (a = b))) ∧ ∃ k, w' = w.drewN k := by
  have HA := Lib.hid ha
  have HB := Lib.hid hb
  have hla := Lib.hid ha.1
  have hlb := Lib.hid hb.1
  clear ha hb
  go_enter Tryd.func12, Tryd.ntmps12
  by_cases hne : n = n'
  · subst hne
    go_wp2
    go_loopw [5] (fun i wr => ∃ k : Nat, k ≤ n ∧ i = .int .i64 k ∧ Hid (∀ j, j < k → a[j]? = b[j]?) ∧ ∃ q, wr = w.drewN q) (fun i _ => n - (intOf i).toNat)
    case atStart => exact ⟨0, by omega, rfl, fun j hj => by omega, 0, rfl⟩
    case round =>
      obtain ⟨k, hk, rfl, hs, q, rfl⟩ := hrel
      by_cases hlt : k < n
      · obtain ⟨b1, o1, s1, rfl, e1, x1, _⟩ := HA.out.at_ hlt
        obtain ⟨b2, o2, s2, rfl, e2, x2, _⟩ := HB.out.at_ hlt
        have E1 := Lib.hid e1
        have E2 := Lib.hid e2
        clear e1 e2
        by_cases heq : s1 = s2
        · subst heq
          go_wp2
          go_quiet (fail)
          go_wp2
          go_roundw
          case rel => exact ⟨k + 1, by omega, by go_num, fun j hj => by
            rcases Nat.lt_or_ge j k with h' | h'
            · exact hs.out j h'
            · obtain rfl : j = k := by omega
              rw [E1.out, E2.out], _, rfl⟩
          case measure => simp [intOf]; omega
        · have hbq : (s1.toList == s2.toList) = false := by
            rw [beq_eq_false_iff_ne]
            intro e
            exact heq (WideShapes.bytes_inj (by rwa [ByteArray.toList_eq, ByteArray.toList_eq] at e))
          have HX : Hid (decide (a = b) = false) := decide_eq_false (fun e => heq (by
            have h1 := E1.out
            rw [e, E2.out] at h1
            injection h1 with h1
            exact h1.symm))
          clear heq
          go_wp2
          go_quiet (fail)
          go_wp2
          go_ret
          rw [HX.out]
          exact ⟨rfl, _, World.drewN_drewN _ _ _⟩
      · obtain rfl : k = n := by omega
        have HX : Hid (decide (a = b) = true) := decide_eq_true (List.ext_getElem? fun j => by
          rcases Nat.lt_or_ge j k with h' | h'
          · exact hs.out j h'
          · rw [List.getElem?_eq_none (by rw [hla.out]; exact h'), List.getElem?_eq_none (by rw [hlb.out]; exact h')])
        go_wp2
        go_ret
        rw [HX.out]
        exact ⟨rfl, q, rfl⟩
  · have HX : Hid (decide (a = b) = false) := decide_eq_false (fun e => hne (by rw [← hla.out, ← hlb.out, e]))
    have h1 : ((n : Int) == (n' : Int)) = false := by rw [beq_eq_false_iff_ne]; omega
    have h2 : ((n : Int) != (n' : Int)) = true := by rw [bne_iff_ne]; omega
    go_wp2
    go_ret
    rw [HX.out]
    exact ⟨rfl, 0, rfl⟩
set_option maxRecDepth 100000 in
set_option maxHeartbeats 800000 in
theorem rwithin_any (w : World) (A B : Option Addr) (n c n' c' : Nat) (a b : List ByteArray) (hn' : n' ≤ 4611686018427387904) (hc : n ≤ c) (ha : Strs w A n a) (hb : Strs w B n' b) :
    Calls Tryd.prog 18 #[.slice A n c, .slice B n' c'] w fun e w' => e = .returned (.bool (within (txts a) (txts b))) ∧ ∃ k, w' = w.drewN k := by
  have hla := ha.1
  have hlb := hb.1
  by_cases hle : n' ≤ n
  · have S := Lib.hid (fun cc => same_any w A B n' cc n' c' (a.take n') b hn' hn' (ha.take hle) hb)
    have EQ : Hid (decide (a.take n' = b) = within (txts a) (txts b)) := by
      show _ = _
      unfold within
      refine decide_eq_decide.2 ⟨fun h => ⟨by rw [txts_length, txts_length]; omega, by rw [← h]; simp [txts, hla]⟩, fun h => txts_inj ?_⟩
      rw [← h.2, txts_length, hlb]
      simp [txts]
    have h1 : ¬ (n : Int) < (n' : Int) := by omega
    have h2 : n' ≤ c := by omega
    have h3 : (n' : Int) ≤ (n : Int) := by omega
    clear ha hb hla hlb
    go_enter Tryd.func18, Tryd.ntmps18
    go_wp2_with fail
    refine (S.out _).mono ?_
    rintro e w' ⟨rfl, q, rfl⟩
    obtain ⟨bb, hbb⟩ : ∃ bb, bb = decide (a.take n' = b) := ⟨_, rfl⟩
    have HB := Lib.hid hbb
    rw [← hbb]
    clear hbb S
    go_wp2_with fail
    go_ret
    exact ⟨ret_bool (by rw [HB.out, EQ.out]), q, rfl⟩
  · have EQ : Hid (within (txts a) (txts b) = false) := by
      show _ = _
      unfold within
      exact decide_eq_false (fun h => hle (by have := h.1; rw [txts_length, txts_length] at this; omega))
    have h1 : ¬ (n' : Int) ≤ (n : Int) := by omega
    clear ha hb hla hlb
    go_enter Tryd.func18, Tryd.ntmps18
    go_wp2_with fail
    go_ret
    exact ⟨ret_bool EQ.out.symm, 0, rfl⟩
end Go.Proofs.YtpnmddealjoiiaaDoor
