/-
  uri: isClean, isDots, isSegment, printable, localPart.
-/
import Derived.Test.YtpnmddealjoiiaaDoorU14
import Derived.Test.YtpnmddealjoiiaaDoorU10
namespace Go.Proofs.YtpnmddealjoiiaaDoor
open Go.RowKit Uri

/-- What the package-level variables of the library hold, as the row lists them. -/
structure Env (w : World) : Prop where
  tabs : Lib.Utf8Tabs 0 1 w
  err : ∃ ev, w.cell? ⟨3, 0, none⟩ = some ev ∧ (ev = .nilIface ∨ ∃ te pe, ev = .iface te pe)
theorem Env.below {w w' : World} (h : Env w) (k : Below w.heap.size w w') : Env w' := by
  have c : ∀ {p : Addr} {v : Value}, w.cell? p = some v → w'.cell? p = some v := fun {p v} hv => (k.cell (p := p) (block_lt hv)).trans hv
  obtain ⟨ev, h1, h2⟩ := h.err
  exact ⟨⟨fun i hi => c (h.tabs.1 i hi), fun i hi => ⟨c (h.tabs.2 i hi).1, c (h.tabs.2 i hi).2⟩⟩, ev, c h1, h2⟩
theorem Env.drewN {w : World} (h : Env w) (n : Nat) : Env (w.drewN n) := h.below ⟨rfl, rfl, rfl, Nat.le_refl _, fun _ _ => rfl⟩
theorem valid_any (w : World) (s : ByteArray) (hs : s.size ≤ 4194304) (E : Env w) :
    Calls Tryd.prog 49 #[.string s] w fun e w' => e = .returned (.bool (utf8 (nums s))) ∧ Below w.heap.size w w' := by
  refine (Any.utf8_ValidString Tryd.laysValid s w (by omega) E.tabs).mono ?_
  rintro e w' ⟨rfl, hb⟩
  rw [validD_utf8 _ _ (Nat.le_refl _)]
  exact ⟨rfl, hb⟩
set_option maxHeartbeats 800000 in
theorem isclean_any (w : World) (s : ByteArray) (hs : s.size ≤ 4194304) (E : Env w) :
    Calls Tryd.prog 41 #[.string s] w fun e w' => e = .returned (.bool (fine (nums s))) ∧ Below w.heap.size w w' := by
  have VA := Lib.hid (valid_any w s hs E)
  have HC : Hid (utf8 (nums s) = true → ∀ u, Calls Tryd.prog 50 #[.string s, .string ⟨#[0, 47]⟩] u fun e w' => e = .returned (.bool (decide (0 ∈ nums s ∨ 47 ∈ nums s))) ∧ Below u.heap.size u w') := fun hv u => contains_any u s _ rfl hs hv
  have FI : Hid (fine (nums s) = (utf8 (nums s) && !decide (0 ∈ nums s ∨ 47 ∈ nums s))) := by
    show _ = _
    unfold fine
    rw [Bool.eq_iff_iff]
    simp only [Bool.and_eq_true, Bool.not_eq_true', decide_eq_false_iff_not, not_or]
    exact ⟨fun h => ⟨h.2, h.1⟩, fun h => ⟨h.2, h.1⟩⟩
  clear E
  go_enter Tryd.func41, Tryd.ntmps41
  go_wp2_with fail
  refine VA.out.mono ?_
  rintro e w1 ⟨rfl, hb1⟩
  have B1 := Lib.hid hb1
  clear VA hb1
  cases hv : utf8 (nums s)
  · rw [hv] at FI
    clear hv
    go_wp2_with fail
    go_ret
    exact ⟨ret_bool FI.out.symm, B1.out⟩
  · have CA := Lib.hid (HC.out hv w1)
    rw [hv] at FI
    clear hv HC
    obtain ⟨q, hq⟩ : ∃ q, q = decide (0 ∈ nums s ∨ 47 ∈ nums s) := ⟨_, rfl⟩
    rw [← hq] at CA FI
    clear hq
    go_wp2_with fail
    refine CA.out.mono ?_
    rintro e w2 ⟨rfl, hb2⟩
    have B2 := Lib.hid (B1.out.trans (hb2.mono B1.out.size))
    clear CA hb2
    go_wp2_with fail
    go_ret
    exact ⟨ret_bool FI.out.symm, B2.out⟩
theorem isdots_any (w : World) (s : ByteArray) :
    Calls Tryd.prog 37 #[.string s] w fun e w' => e = .returned (.bool (decide (nums s = [46] ∨ nums s = [46, 46]))) ∧ w = w' := by
  have f1 := beq_lit s [46]
  have f2 := beq_lit s [46, 46]
  simp only [List.map_cons, List.map_nil, UInt8.reduceToNat] at f1 f2
  by_cases d1 : nums s = [46]
  · have F : Hid (decide (nums s = [46] ∨ nums s = [46, 46]) = true) := decide_eq_true (.inl d1)
    rw [decide_eq_true d1] at f1
    clear d1 f2
    go_enter Tryd.func37, Tryd.ntmps37
    go_wp2
    go_ret
    exact ⟨ret_bool F.out.symm, rfl⟩
  · rw [decide_eq_false d1] at f1
    by_cases d2 : nums s = [46, 46]
    · have F : Hid (decide (nums s = [46] ∨ nums s = [46, 46]) = true) := decide_eq_true (.inr d2)
      rw [decide_eq_true d2] at f2
      clear d1 d2
      go_enter Tryd.func37, Tryd.ntmps37
      go_wp2
      go_ret
      exact ⟨ret_bool F.out.symm, rfl⟩
    · have F : Hid (decide (nums s = [46] ∨ nums s = [46, 46]) = false) := decide_eq_false (fun h => h.elim d1 d2)
      rw [decide_eq_false d2] at f2
      clear d1 d2
      go_enter Tryd.func37, Tryd.ntmps37
      go_wp2
      go_ret
      exact ⟨ret_bool F.out.symm, rfl⟩
set_option maxHeartbeats 1600000 in
theorem issegment_any (w : World) (s : ByteArray) (hs : s.size ≤ 4194304) (E : Env w) :
    Calls Tryd.prog 26 #[.string s] w fun e w' => e = .returned (.bool (seg (nums s))) ∧ Below w.heap.size w w' := by
  have IC := Lib.hid (isclean_any w s hs E)
  have ID := Lib.hid (fun u => isdots_any u s)
  have f0 := isEmpty_nums s
  have HLN : Hid ((nums s).length = s.size) := nums_length s
  have SE : Hid (seg (nums s) = (!decide (nums s = []) && (decide ((nums s).length ≤ 64) && (fine (nums s) && !decide (nums s = [46] ∨ nums s = [46, 46]))))) := by
    show _ = _
    unfold seg dots
    rw [Bool.eq_iff_iff]
    simp only [Bool.and_eq_true, Bool.not_eq_true', decide_eq_false_iff_not, decide_eq_true_eq, not_or]
    constructor
    · rintro ⟨⟨⟨h1, h2, h3⟩, h4⟩, h5⟩
      exact ⟨h1, h4, h5, h2, h3⟩
    · rintro ⟨h1, h4, h5, h2, h3⟩
      exact ⟨⟨⟨h1, h2, h3⟩, h4⟩, h5⟩
  clear E
  cases d0 : decide (nums s = [])
  · rw [d0] at f0 SE
    clear d0
    have f0b : (s.toList != []) = true := by
      rw [bne_iff_ne]
      intro h
      rw [h] at f0
      cases f0
    by_cases h64 : s.size ≤ 64
    · have h64z : (s.size : Int) ≤ 64 := by omega
      rw [decide_eq_true (show (nums s).length ≤ 64 by rw [HLN.out]; exact h64)] at SE
      cases hf : fine (nums s)
      · rw [hf] at SE IC
        clear hf
        go_enter Tryd.func26, Tryd.ntmps26
        go_wp2_with fail
        refine IC.out.mono ?_
        rintro e w1 ⟨rfl, hb1⟩
        have B1 := Lib.hid hb1
        clear IC hb1
        go_wp2_with fail
        go_ret
        exact ⟨ret_bool SE.out.symm, B1.out⟩
      · rw [hf] at SE IC
        clear hf
        obtain ⟨q, hq⟩ : ∃ q, q = decide (nums s = [46] ∨ nums s = [46, 46]) := ⟨_, rfl⟩
        rw [← hq] at ID SE
        clear hq
        go_enter Tryd.func26, Tryd.ntmps26
        go_wp2_with fail
        refine IC.out.mono ?_
        rintro e w1 ⟨rfl, hb1⟩
        have B1 := Lib.hid hb1
        clear IC hb1
        go_wp2_with fail
        refine (ID.out _).mono ?_
        rintro e w2 ⟨rfl, rfl⟩
        clear ID
        go_wp2_with fail
        go_ret
        exact ⟨ret_bool SE.out.symm, B1.out⟩
    · have h64z : ¬ (s.size : Int) ≤ 64 := by omega
      rw [decide_eq_false (show ¬ (nums s).length ≤ 64 by rw [HLN.out]; exact h64)] at SE
      go_enter Tryd.func26, Tryd.ntmps26
      go_wp2_with fail
      go_ret
      exact ⟨ret_bool SE.out.symm, Below.refl _ _⟩
  · rw [d0] at f0 SE
    clear d0
    go_enter Tryd.func26, Tryd.ntmps26
    go_wp2_with fail
    go_ret
    exact ⟨ret_bool SE.out.symm, Below.refl _ _⟩
theorem vis_bad {l : List Nat} {x : Nat} (h : x ∈ l) (hx : vis x = false) : visible l = false := by
  unfold visible
  rw [List.all_eq_false]
  exact ⟨x, h, by simp [hx]⟩
set_option maxHeartbeats 1600000 in
theorem printable_any (w : World) (s : ByteArray) (hs : s.size ≤ 4194304) :
    Calls Tryd.prog 20 #[.string s] w fun e w' => e = .returned (.bool (visible (nums s))) ∧ w = w' := by
  have HA : Hid (∀ k (hk : k < s.size), (s[k]'hk).toNat = (nums s).getD k 0) := fun k hk => nat_at s k hk
  have HL : Hid ((nums s).length = s.size) := nums_length s
  go_enter Tryd.func20, Tryd.ntmps20
  go_wp2
  go_loop [7] (fun i => ∃ k : Nat, k ≤ s.size ∧ i = .int .i64 k ∧ Hid (∀ x ∈ (nums s).take k, vis x = true)) (fun i => s.size - (intOf i).toNat)
  case atStart => exact ⟨0, by omega, rfl, by show ∀ x ∈ _, _; simp⟩
  case round =>
    obtain ⟨k, hk, rfl, hn⟩ := hrel
    by_cases hlt : k < s.size
    · obtain ⟨x, hx⟩ : ∃ x, x = (s[k]'hlt).toNat := ⟨_, rfl⟩
      have X : Hid (x = (nums s).getD k 0) := hx.trans (HA.out k hlt)
      have ex : ((s[k]'hlt).toNat : Int) = (x : Int) := by rw [← hx]
      have BAD : Hid (vis x = false → visible (nums s) = false) := fun h => vis_bad (x := x) (by rw [X.out]; exact getD_mem (by rw [HL.out]; exact hlt)) h
      clear hx
      by_cases h33 : x < 33
      · have e1 : decide ((x : Int) < 33) = true := decide_eq_true (by omega)
        have F := Lib.hid (BAD.out (by unfold vis; exact decide_eq_false (by omega)))
        go_wp2
        go_ret
        exact ⟨ret_bool F.out.symm, rfl⟩
      · have e1 : decide ((x : Int) < 33) = false := decide_eq_false (by omega)
        by_cases h126 : 126 < x
        · have e2 : decide ((126 : Int) < (x : Int)) = true := decide_eq_true (by omega)
          have F := Lib.hid (BAD.out (by unfold vis; exact decide_eq_false (by omega)))
          go_wp2
          go_ret
          exact ⟨ret_bool F.out.symm, rfl⟩
        · have e2 : decide ((126 : Int) < (x : Int)) = false := decide_eq_false (by omega)
          by_cases h63 : x = 63
          · have e3 : ((x : Int) == 63) = true := by rw [beq_iff_eq]; omega
            have F := Lib.hid (BAD.out (by unfold vis; exact decide_eq_false (by omega)))
            clear h63
            go_wp2
            go_ret
            exact ⟨ret_bool F.out.symm, rfl⟩
          · have e3 : ((x : Int) == 63) = false := by rw [beq_eq_false_iff_ne]; omega
            by_cases h35 : x = 35
            · have e4 : ((x : Int) == 35) = true := by rw [beq_iff_eq]; omega
              have F := Lib.hid (BAD.out (by unfold vis; exact decide_eq_false (by omega)))
              clear h35 h63
              go_wp2
              go_ret
              exact ⟨ret_bool F.out.symm, rfl⟩
            · have e4 : ((x : Int) == 35) = false := by rw [beq_eq_false_iff_ne]; omega
              have N : Hid (∀ x ∈ (nums s).take (k + 1), vis x = true) := by
                show ∀ x ∈ _, _
                rw [take_next (by rw [HL.out]; exact hlt)]
                intro y hy
                rcases List.mem_append.1 hy with hy | hy
                · exact hn.out y hy
                · have : y = x := by rw [X.out]; simpa using hy
                  rw [this]
                  unfold vis
                  exact decide_eq_true (by omega)
              clear h35 h63
              go_wp2
              go_round
              case rel => exact ⟨k + 1, by omega, by go_num, N⟩
              case measure => simp [intOf]; omega
    · obtain rfl : k = s.size := by omega
      have F : Hid (visible (nums s) = true) := by
        show _ = _
        have := hn.out
        rw [← HL.out, List.take_length] at this
        exact visible_of this
      go_wp2
      go_ret
      exact ⟨ret_bool F.out.symm, rfl⟩
end Go.Proofs.YtpnmddealjoiiaaDoor
