/-
  xml: nameLength; the reader's small steps: take, skip, need, name.
-/
import Derived.Test.YteefjmdallpihaaGreatDoorXr2
import Derived.Test.YteefjmdallpihaaGreatDoorLaid
namespace Go.Proofs.YteefjmdallpihaaGreatDoor
open Go.RowKit Reply

/-- The first n bytes may be a name's. -/
def PreN (l : Reply.B) (n : Nat) : Prop := n ≤ l.length ∧ ∀ j, j < n → (Xml.begins (l.getD j 0) || (decide (0 < j) && Xml.goesOn (l.getD j 0))) = true
theorem nameRest_is : ∀ (l : Reply.B) (n : Nat), n ≤ l.length → (∀ j, j < n → (Xml.begins (l.getD j 0) || Xml.goesOn (l.getD j 0)) = true) → (n = l.length ∨ (Xml.begins (l.getD n 0) || Xml.goesOn (l.getD n 0)) = false) → Xml.nameRest l = n
  | [], n, h, _, _ => by simp at h; subst h; rfl
  | c :: l, 0, _, _, hs => by
    have : (Xml.begins c || Xml.goesOn c) = false := by
      rcases hs with h | h
      · simp at h
      · simpa using h
    unfold Xml.nameRest
    rw [List.takeWhile_cons, this]
    rfl
  | c :: l, n + 1, h, ha, hs => by
    have h0 : (Xml.begins c || Xml.goesOn c) = true := ha 0 (by omega)
    have i := nameRest_is l n (by simpa using h) (fun j hj => by simpa using ha (j + 1) (by omega)) (by
      rcases hs with h | h
      · exact .inl (by simpa using h)
      · exact .inr (by simpa using h))
    unfold Xml.nameRest at i ⊢
    rw [List.takeWhile_cons, h0, if_pos rfl, List.length_cons, i]
theorem nameLen_is {l : Reply.B} {n : Nat} (h : PreN l n) (hs : n = l.length ∨ (Xml.begins (l.getD n 0) || (decide (0 < n) && Xml.goesOn (l.getD n 0))) = false) : Xml.nameLen l = n := by
  cases l with
  | nil =>
    have := h.1
    simp at this
    subst this
    rfl
  | cons c r =>
    rcases n with _ | n
    · have : Xml.begins c = false := by
        rcases hs with h | h
        · simp at h
        · simpa using h
      show (if Xml.begins c = true then Xml.nameRest r + 1 else 0) = 0
      rw [this]
      rfl
    · have h0 : Xml.begins c = true := by simpa using h.2 0 (by omega)
      show (if Xml.begins c = true then Xml.nameRest r + 1 else 0) = n + 1
      rw [if_pos h0, nameRest_is r n (by simpa using h.1) (fun j hj => by simpa using h.2 (j + 1) (by omega)) (by
        rcases hs with h | h
        · exact .inl (by simpa using h)
        · exact .inr (by simpa using h))]
theorem nameLen_le (l : Reply.B) : Xml.nameLen l ≤ l.length := by
  cases l with
  | nil => exact Nat.le_refl _
  | cons c r =>
    have : Xml.nameRest r ≤ r.length := by unfold Xml.nameRest; exact (List.takeWhile_sublist _).length_le
    show (if Xml.begins c = true then Xml.nameRest r + 1 else 0) ≤ r.length + 1
    split <;> omega
set_option maxRecDepth 100000 in
set_option maxHeartbeats 8000000 in
theorem namelen_any (w : World) (l : Reply.B) (hl : l.length ≤ 4294967296) :
    Calls Tryz.prog 59 #[.string (S l)] w fun e w' => e = .returned (.int .i64 (Xml.nameLen l : Int)) ∧ w = w' := by
  obtain ⟨s, hs⟩ : ∃ x, x = S l := ⟨_, rfl⟩
  have HA : Hid (∀ k (hk : k < s.size), (s[k]'hk) = l.getD k 0) := fun k hk => by subst hs; exact S_at l k hk
  have ssz : s.size = l.length := by rw [hs, S_size]
  have HZ := Lib.hid ssz
  obtain ⟨R, hR⟩ : ∃ x, x = Xml.nameLen l := ⟨_, rfl⟩
  have HR := Lib.hid hR
  have sz : s.size ≤ 4294967296 := by omega
  rw [← hs, ← hR]
  clear hs hR ssz hl
  go_enter Tryz.func59, Tryz.ntmps59
  go_wp2_with fail
  go_loop [3] (fun v => ∃ n : Nat, v = .int .i64 n ∧ n ≤ s.size ∧ Hid (PreN l n)) (fun v => s.size - (intOf v).toNat)
  case atStart => exact ⟨0, rfl, by omega, by omega, fun j hj => by omega⟩
  case round =>
    obtain ⟨n, rfl, hn, HP⟩ := hrel
    by_cases hlt : n < s.size
    · have z1 : (n : Int) < (s.size : Int) := by omega
      obtain ⟨c, hc⟩ : ∃ c, c = (s[n]'hlt) := ⟨_, rfl⟩
      obtain ⟨x, hx⟩ : ∃ x, x = c.toNat := ⟨_, rfl⟩
      have hxe : ((s[n]'hlt).toNat : Int) = (x : Int) := by rw [hx, hc]
      have C := Lib.hid (hc.trans (HA.out n hlt))
      have BG := Lib.hid (fun u => begins_any u c x hx)
      have GO := Lib.hid (fun u => goesOn_any u c x hx)
      obtain ⟨b1, hb1⟩ : ∃ b, b = Xml.begins c := ⟨_, rfl⟩
      obtain ⟨b2, hb2⟩ : ∃ b, b = Xml.goesOn c := ⟨_, rfl⟩
      rw [← hb1] at BG
      rw [← hb2] at GO
      have H1 := Lib.hid hb1
      have H2 := Lib.hid hb2
      clear hc hx hb1 hb2
      have NX : Hid ((b1 || (decide (0 < n) && b2)) = true → PreN l (n + 1)) := fun h => ⟨by have := HP.out.1; have := HZ.out; omega, fun j hj => by
        by_cases e : j = n
        · rw [e, ← C.out, ← H1.out, ← H2.out]; exact h
        · exact HP.out.2 j (by omega)⟩
      have ST : Hid ((b1 || (decide (0 < n) && b2)) = false → R = n) := fun h => by
        show R = n
        rw [HR.out]
        exact nameLen_is HP.out (.inr (by rw [← C.out, ← H1.out, ← H2.out]; exact h))
      cases b1 with
      | true =>
        have P2 := Lib.hid (NX.out rfl)
        clear NX ST GO
        go_wp2_with fail
        refine (BG.out _).mono ?_
        rintro e w' ⟨rfl, rfl⟩
        clear BG
        go_wp2_with fail
        go_round
        case rel => exact ⟨n + 1, by go_num, by omega, P2⟩
        case measure => simp [intOf]; omega
      | false =>
        by_cases h0 : 0 < n
        · have z0 : (0 : Int) < (n : Int) := by omega
          have d0 : decide (0 < n) = true := decide_eq_true h0
          cases b2 with
          | true =>
            have P2 := Lib.hid (NX.out (by rw [d0]; rfl))
            clear NX ST d0
            go_wp2_with fail
            refine (BG.out _).mono ?_
            rintro e w' ⟨rfl, rfl⟩
            clear BG
            go_wp2_with fail
            refine (GO.out _).mono ?_
            rintro e w' ⟨rfl, rfl⟩
            clear GO
            go_wp2_with fail
            go_round
            case rel => exact ⟨n + 1, by go_num, by omega, P2⟩
            case measure => simp [intOf]; omega
          | false =>
            have F := Lib.hid (ST.out (by rw [d0]; rfl))
            clear NX ST d0
            go_wp2_with fail
            refine (BG.out _).mono ?_
            rintro e w' ⟨rfl, rfl⟩
            clear BG
            go_wp2_with fail
            refine (GO.out _).mono ?_
            rintro e w' ⟨rfl, rfl⟩
            clear GO
            go_wp2_with fail
            go_ret
            exact ⟨by rw [F.out]; rfl, rfl⟩
        · obtain rfl : n = 0 := by omega
          have F := Lib.hid (ST.out rfl)
          clear NX ST GO
          go_wp2_with fail
          refine (BG.out _).mono ?_
          rintro e w' ⟨rfl, rfl⟩
          clear BG
          go_wp2_with fail
          go_ret
          exact ⟨by rw [F.out]; rfl, rfl⟩
    · obtain rfl : n = s.size := by omega
      have F : Hid (R = s.size) := by
        show R = s.size
        rw [HR.out]
        exact nameLen_is HP.out (.inl HZ.out)
      go_wp2_with fail
      go_ret
      exact ⟨by rw [F.out]; rfl, rfl⟩
end Go.Proofs.YteefjmdallpihaaGreatDoor
