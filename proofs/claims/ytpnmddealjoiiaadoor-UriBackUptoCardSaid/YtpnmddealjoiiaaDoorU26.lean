/-
  uri: Parse.
-/
import Derived.Test.YtpnmddealjoiiaaDoorU25
namespace Go.Proofs.YtpnmddealjoiiaaDoor
open Go.RowKit Uri

theorem prefix_slash (t : ByteArray) : Lib.hasPrefix t.data.toList [47] = decide ((nums t).head? = some 47) := by
  unfold nums Lib.hasPrefix
  cases t.data.toList with
  | nil => rfl
  | cons c r =>
    simp only [List.isPrefixOf, List.map_cons, List.head?_cons, Option.some.injEq, Bool.and_true]
    rw [Bool.eq_iff_iff, beq_iff_eq, decide_eq_true_iff]
    exact ⟨fun e => by rw [← e]; rfl, fun e => UInt8.toNat_inj.1 (by rw [e]; rfl)⟩
theorem CutPrefix_slash (t : ByteArray) (w : World) :
    Calls Tryd.prog 21 #[.string t, .string ⟨#[47]⟩] w fun e w' => (((nums t).head? = some 47 ∧ ∃ r : ByteArray, e = .returned (.tuple #[.string r, .bool true]) ∧ nums r = (nums t).tail) ∨ ((nums t).head? ≠ some 47 ∧ ∃ r : ByteArray, e = .returned (.tuple #[.string r, .bool false]))) ∧ w' = w := by
  refine (Tryd.strings_CutPrefix t ⟨#[47]⟩ w).mono ?_
  rintro e w' ⟨rfl, rfl⟩
  refine ⟨?_, rfl⟩
  have h1 := prefix_slash t
  by_cases hd : (nums t).head? = some 47
  · rw [decide_eq_true hd] at h1
    refine .inl ⟨hd, ⟨(t.data.toList.drop 1).toArray⟩, ?_, ?_⟩
    · show Ending.returned (.tuple #[.string ⟨(Lib.trimPrefix t.data.toList [47]).toArray⟩, .bool (Lib.hasPrefix t.data.toList [47])]) = _
      unfold Lib.trimPrefix
      rw [h1]
      rfl
    · rw [nums_mk, List.map_drop, List.drop_one]
      rfl
  · rw [decide_eq_false hd] at h1
    refine .inr ⟨hd, ⟨(t.data.toList).toArray⟩, ?_⟩
    show Ending.returned (.tuple #[.string ⟨(Lib.trimPrefix t.data.toList [47]).toArray⟩, .bool (Lib.hasPrefix t.data.toList [47])]) = _
    unfold Lib.trimPrefix
    rw [h1]
    rfl
set_option maxRecDepth 100000 in
set_option maxHeartbeats 1600000 in
theorem parse_any (w : World) (s : ByteArray) (hs : s.size ≤ 4194303) (E : Env w) :
    Calls Tryd.prog 10 #[.string s] w fun e w' => ParseE (nums s) e w' ∧ Below w.heap.size w w' := by
  have LC := Lib.hid (local_any w s (by omega))
  have HS := Lib.hid hs
  have HE := Lib.hid E
  clear hs E
  go_enter Tryd.func10, Tryd.ntmps10
  go_wp2_with fail
  refine LC.out.mono ?_
  rintro e w1 ⟨⟨t, ok, rfl, ht, hok, hno⟩, rfl⟩
  clear LC
  cases ok
  · have PB := Lib.hid (ParseE.bad (parse_nofront (hno rfl)) w)
    clear hok hno
    go_wp2_with fail
    go_ret3
    exact ⟨PB.out, Below.refl _ _⟩
  · have F : Hid (front (nums s) = some (nums t)) := hok rfl
    have VT := Lib.hid (printable_any w t (by have := HS.out; omega))
    have CP := Lib.hid (CutPrefix_slash t w)
    have HT := Lib.hid ht
    obtain ⟨b, hb⟩ : ∃ b, b = visible (nums t) := ⟨_, rfl⟩
    have VB := Lib.hid hb
    rw [← hb] at VT
    clear hok hno hb ht
    go_wp2_with fail
    refine VT.out.mono ?_
    rintro e w1 ⟨rfl, rfl⟩
    clear VT
    cases b
    · have PB := Lib.hid (ParseE.bad (l := nums s) (err := 20) (by rw [parse_front F.out]; exact rest_bad (fun h => by rw [← VB.out] at h; cases h.1)) w)
      go_wp2_with fail
      go_ret3
      exact ⟨PB.out, Below.refl _ _⟩
    · go_wp2_with fail
      refine CP.out.mono ?_
      rintro e w1 ⟨⟨hd, r, rfl, hr⟩ | ⟨hd, r, rfl⟩, rfl⟩
      · have RW : Hid (Uri.parse (nums s) = Uri.walk (pieces (nums r)) [] false) := by
          show _ = _
          rw [parse_front F.out]
          unfold rest
          rw [if_pos ⟨VB.out.symm, hd⟩, hr]
        have hl : r.size ≤ 4194304 := by
          have h1 := congrArg List.length hr
          rw [nums_length, List.length_tail, nums_length] at h1
          have := HS.out
          have := HT.out
          omega
        have FO := Lib.hid (follow_any w1 r hl HE.out)
        clear hd hr hl CP
        go_wp2_with fail
        refine FO.out.mono ?_
        rintro e w2 ⟨⟨A, D, c, dir, err, rfl, h1, h2, h3⟩, hb⟩
        have PE : Hid (ParseE (nums s) (.returned (.tuple #[.slice A D.length c, .bool dir, .int .i64 err])) w2) := ⟨A, c, D, dir, err, rfl, h1, h2, RW.out.trans h3⟩
        have HB := Lib.hid hb
        clear h1 h2 h3 hb FO
        go_wp2_with fail
        go_ret3
        exact ⟨PE.out, HB.out⟩
      · have PB := Lib.hid (ParseE.bad (l := nums s) (err := 20) (by rw [parse_front F.out]; exact rest_bad (fun h => hd h.2)) w1)
        clear hd CP
        go_wp2_with fail
        go_ret3
        exact ⟨PB.out, Below.refl _ _⟩
end Go.Proofs.YtpnmddealjoiiaaDoor
