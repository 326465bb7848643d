/-
  uri: what the document's Good answers.
-/
import Derived.Test.YtpnmddealjoiiaaDoorU7
namespace Go.Proofs.YtpnmddealjoiiaaDoor
open Go.RowKit Uri

theorem toList_nums (s : ByteArray) : s.toList.map (fun b => b.toNat) = nums s := by rw [ByteArray.toList_eq]; rfl
theorem beq_lit (s : ByteArray) (l : List UInt8) : (s.toList == l) = decide (nums s = l.map (fun b => b.toNat)) := by
  rw [Bool.eq_iff_iff, beq_iff_eq, decide_eq_true_iff]
  constructor
  · intro h; rw [← h, toList_nums]
  · intro h
    rw [← toList_nums] at h
    exact (List.map_inj_right (fun a b hab => UInt8.toNat_inj.1 hab)).1 h
theorem isEmpty_nums (s : ByteArray) : s.toList.isEmpty = decide (nums s = []) := by
  rw [Bool.eq_iff_iff, List.isEmpty_iff, decide_eq_true_iff, ← toList_nums]
  simp
theorem seg_eq (l : List Nat) : seg l = (!decide (l = []) && (!decide (l = [46]) && (!decide (l = [46, 46]) && (decide (l.length ≤ 64) && (!decide (0 ∈ l) && (!decide (47 ∈ l) && utf8 l)))))) := by
  unfold seg dots fine
  rw [Bool.eq_iff_iff]
  simp only [Bool.and_eq_true, Bool.not_eq_true', decide_eq_false_iff_not, decide_eq_true_eq, not_or]
  constructor
  · rintro ⟨⟨⟨h1, h2, h3⟩, h4⟩, ⟨h5, h6⟩, h7⟩
    exact ⟨h1, h2, h3, h4, h5, h6, h7⟩
  · rintro ⟨h1, h2, h3, h4, h5, h6, h7⟩
    exact ⟨⟨⟨h1, h2, h3⟩, h4⟩, ⟨h5, h6⟩, h7⟩
theorem good_bad {l : List (List Nat)} {r : List Nat} (h : r ∈ l) (hr : seg r = false) : good l = false := by
  unfold good
  have : l.all seg = false := by rw [List.all_eq_false]; exact ⟨r, h, by simp [hr]⟩
  rw [this]
  rfl
set_option maxRecDepth 100000 in
set_option maxHeartbeats 3200000 in
theorem rgood_any (w : World) (A : Option Addr) (n c : Nat) (a : List ByteArray) (hn : n ≤ 4611686018427387904) (ha : Strs w A n a) (hs : ∀ s ∈ a, s.size ≤ 4194304) :
    Calls Tryd.prog 14 #[.slice A n c] w fun e w' => e = .returned (.bool (good (txts a))) ∧ w = w' := by
  have HA := Lib.hid ha
  have HS := Lib.hid hs
  have hla := Lib.hid ha.1
  clear ha hs
  go_enter Tryd.func14, Tryd.ntmps14
  go_wp2
  go_loop [3] (fun i => ∃ k : Nat, k ≤ n ∧ i = .int .i64 k ∧ Hid (∀ s ∈ a.take k, seg (nums s) = true)) (fun i => n - (intOf i).toNat)
  case atStart => exact ⟨0, by omega, rfl, by show ∀ s ∈ _, _; simp⟩
  case round =>
    obtain ⟨k, hk, rfl, HK⟩ := hrel
    by_cases hlt : k < n
    · obtain ⟨b, off, s, rfl, e1, x1, e2⟩ := HA.out.at_ hlt
      have hm : s ∈ a := List.mem_of_getElem? e1
      have hsz := HS.out s hm
      have E2 := Lib.hid e2
      have BAD : Hid (seg (nums s) = false → good (txts a) = false) := fun h => good_bad (List.mem_map.2 ⟨s, hm, rfl⟩) h
      have SE := Lib.hid (seg_eq (nums s))
      have f0 := isEmpty_nums s
      have f1 := beq_lit s [46]
      have f2 := beq_lit s [46, 46]
      have HLN : Hid ((nums s).length = s.size) := nums_length s
      have H0 := Lib.hid (has_any w s 0 (by omega) (by omega))
      have H47 := Lib.hid (has_any w s 47 (by omega) (by omega))
      have HU := Lib.hid (utf8_any w s (by omega))
      simp only [List.map_cons, List.map_nil, UInt8.reduceToNat] at f1 f2
      clear e1 e2 hm
      cases d0 : decide (nums s = [])
      · rw [d0] at f0 SE
        cases d1 : decide (nums s = [46])
        · rw [d1] at f1 SE
          cases d2 : decide (nums s = [46, 46])
          · rw [d2] at f2 SE
            clear d0 d1 d2
            by_cases h64 : 64 < s.size
            · have F : seg (nums s) = false := by rw [SE.out]; simp [HLN.out]; omega
              clear SE
              go_wp2_with fail
              go_ret
              exact ⟨ret_bool (BAD.out F).symm, rfl⟩
            · have d64 : decide ((nums s).length ≤ 64) = true := decide_eq_true (by rw [HLN.out]; omega)
              rw [d64] at SE
              clear d64
              cases d3 : decide (0 ∈ nums s)
              · rw [d3] at H0 SE
                cases d4 : decide (47 ∈ nums s)
                · rw [d4] at H47 SE
                  clear d3 d4
                  cases d5 : utf8 (nums s)
                  · rw [d5] at HU SE
                    clear d5
                    have F : seg (nums s) = false := by rw [SE.out]; rfl
                    clear SE
                    go_wp2_with fail
                    refine H0.out.mono ?_
                    rintro e w' ⟨rfl, rfl⟩
                    go_wp2_with fail
                    refine H47.out.mono ?_
                    rintro e w' ⟨rfl, rfl⟩
                    go_wp2_with fail
                    refine HU.out.mono ?_
                    rintro e w' ⟨rfl, rfl⟩
                    go_wp2_with fail
                    go_ret
                    exact ⟨ret_bool (BAD.out F).symm, rfl⟩
                  · rw [d5] at HU SE
                    clear d5
                    have NK : Hid (∀ t ∈ a.take (k + 1), seg (nums t) = true) := by
                      show ∀ t ∈ _, _
                      rw [E2.out]
                      intro t ht
                      rcases List.mem_append.1 ht with ht | ht
                      · exact HK.out t ht
                      · have : t = s := by simpa using ht
                        rw [this, SE.out]
                        rfl
                    clear SE
                    go_wp2_with fail
                    refine H0.out.mono ?_
                    rintro e w' ⟨rfl, rfl⟩
                    go_wp2_with fail
                    refine H47.out.mono ?_
                    rintro e w' ⟨rfl, rfl⟩
                    go_wp2_with fail
                    refine HU.out.mono ?_
                    rintro e w' ⟨rfl, rfl⟩
                    go_wp2_with fail
                    go_round
                    case rel => exact ⟨k + 1, by omega, by go_num, NK⟩
                    case measure => simp [intOf]; omega
                · rw [d4] at H47 SE
                  clear d3 d4
                  have F : seg (nums s) = false := by rw [SE.out]; rfl
                  clear SE
                  go_wp2_with fail
                  refine H0.out.mono ?_
                  rintro e w' ⟨rfl, rfl⟩
                  go_wp2_with fail
                  refine H47.out.mono ?_
                  rintro e w' ⟨rfl, rfl⟩
                  go_wp2_with fail
                  go_ret
                  exact ⟨ret_bool (BAD.out F).symm, rfl⟩
              · rw [d3] at H0 SE
                clear d3
                have F : seg (nums s) = false := by rw [SE.out]; rfl
                clear SE
                go_wp2_with fail
                refine H0.out.mono ?_
                rintro e w' ⟨rfl, rfl⟩
                go_wp2_with fail
                go_ret
                exact ⟨ret_bool (BAD.out F).symm, rfl⟩
          · rw [d2] at f2 SE
            clear d0 d1 d2
            have F : seg (nums s) = false := by rw [SE.out]; rfl
            clear SE
            go_wp2_with fail
            go_ret
            exact ⟨ret_bool (BAD.out F).symm, rfl⟩
        · rw [d1] at f1 SE
          clear d0 d1
          have F : seg (nums s) = false := by rw [SE.out]; rfl
          clear SE
          go_wp2_with fail
          go_ret
          exact ⟨ret_bool (BAD.out F).symm, rfl⟩
      · rw [d0] at f0 SE
        clear d0
        have F : seg (nums s) = false := by rw [SE.out]; rfl
        clear SE
        go_wp2_with fail
        go_ret
        exact ⟨ret_bool (BAD.out F).symm, rfl⟩
    · obtain rfl : k = n := by omega
      have G : Hid (good (txts a) = decide (k ≤ 12)) := by
        show _ = _
        unfold good
        have e1 : (txts a).all seg = true := by
          rw [List.all_eq_true]
          intro r hr
          obtain ⟨s, hs, rfl⟩ := List.mem_map.1 hr
          exact HK.out s (by rw [← hla.out, List.take_length]; exact hs)
        rw [e1, Bool.true_and, txts_length, hla.out]
      go_wp2
      go_ret
      exact ⟨ret_bool (by rw [G.out]; exact decide_eq_decide.2 (by omega)), rfl⟩
end Go.Proofs.YtpnmddealjoiiaaDoor
