/-
  uri: localPart; strings.Cut at one byte.
-/
import Derived.Test.YtpnmddealjoiiaaDoorU15
namespace Go.Proofs.YtpnmddealjoiiaaDoor
open Go.RowKit Uri

theorem byteC {c : UInt8} {n : Nat} (h : c.toNat = n) (b : UInt8) : (b == c) = decide (b.toNat = n) := by
  rw [Bool.eq_iff_iff, beq_iff_eq, decide_eq_true_iff, ← h]
  exact ⟨fun e => by rw [e], fun e => UInt8.toNat_inj.1 e⟩
/-- Where a byte stands first. -/
theorem index_at (c : UInt8) : ∀ l : List UInt8, (Lib.indexByte l c = -1 ∧ c.toNat ∉ l.map (fun b => b.toNat)) ∨
    ∃ i : Nat, Lib.indexByte l c = i ∧ i < l.length ∧ (l.map (fun b => b.toNat)).getD i 0 = c.toNat ∧ c.toNat ∉ (l.map (fun b => b.toNat)).take i
  | [] => .inl ⟨rfl, by simp⟩
  | b :: l => by
    unfold Lib.indexByte
    rw [byteC rfl b]
    by_cases hb : b.toNat = c.toNat
    · rw [if_pos (decide_eq_true hb)]
      exact .inr ⟨0, rfl, by simp, by simpa using hb, by simp⟩
    · rw [if_neg (by simpa using hb)]
      rcases index_at c l with ⟨h1, h2⟩ | ⟨i, h1, h2, h3, h4⟩
      · rw [h1]
        refine .inl ⟨rfl, ?_⟩
        simp only [List.map_cons, List.mem_cons, not_or]
        exact ⟨fun e => hb e.symm, h2⟩
      · rw [h1]
        have : ((i : Int) == -1) = false := by rw [beq_eq_false_iff_ne]; omega
        rw [this]
        refine .inr ⟨i + 1, by simp, by simp; omega, ?_, ?_⟩
        · simpa using h3
        · simp only [List.map_cons, List.take_succ_cons, List.mem_cons, not_or]
          exact ⟨fun e => hb e.symm, h4⟩
theorem till_skip : ∀ {l : List Nat} {i : Nat}, i < l.length → l.getD i 0 = 47 → 47 ∉ l.take i → till l = l.drop i
  | [], i, h, _, _ => by simp at h
  | c :: l, 0, _, h, _ => by
    have h' : c = 47 := by simpa using h
    unfold till
    rw [List.dropWhile_cons, h']
    simp
  | c :: l, i + 1, h, h1, h2 => by
    have hc : c ≠ 47 := fun e => h2 (by rw [e]; simp)
    have ih := till_skip (l := l) (i := i) (by simpa using h) (by simpa using h1) (fun hm => h2 (by simp [hm]))
    unfold till at ih ⊢
    rw [List.dropWhile_cons, if_pos (by simpa using hc), ih]
    rfl
theorem till_none : ∀ {l : List Nat}, 47 ∉ l → till l = []
  | [], _ => rfl
  | c :: l, h => by
    have hc : c ≠ 47 := fun e => h (by rw [e]; simp)
    have ih := till_none (l := l) (fun hm => h (by simp [hm]))
    unfold till at ih ⊢
    rw [List.dropWhile_cons, if_pos (by simpa using hc), ih]
def httpB : ByteArray := ⟨#[104, 116, 116, 112, 58, 47, 47]⟩
theorem prefix_http (l : List UInt8) : Lib.hasPrefix l httpB.data.toList = decide ((l.map fun b => b.toNat).take 7 = http) := by
  show ([104, 116, 116, 112, 58, 47, 47] : List UInt8).isPrefixOf l = _
  rw [Bool.eq_iff_iff, decide_eq_true_iff, List.isPrefixOf_iff_prefix, List.prefix_iff_eq_take]
  have e : http = ([104, 116, 116, 112, 58, 47, 47] : List UInt8).map (fun b => b.toNat) := rfl
  rw [e, ← List.map_take]
  constructor
  · intro h; rw [h]; rfl
  · intro h
    exact ((List.map_inj_right (fun a b hab => UInt8.toNat_inj.1 hab)).1 h).symm
theorem visible_app (a b : List Nat) : visible (a ++ b) = (visible a && visible b) := by unfold visible; rw [List.all_append]
/-- What localPart answers of the bytes l. -/
def LocalE (l : List Nat) (n : Nat) (e : Ending) : Prop := ∃ (t : ByteArray) (ok : Bool), e = .returned (.tuple #[.string t, .bool ok]) ∧ t.size ≤ n ∧ (ok = true → front l = some (nums t)) ∧ (ok = false → front l = none)
theorem LocalE.no {l : List Nat} {n : Nat} (h : front l = none) (t : ByteArray) (ht : t.size ≤ n) : LocalE l n (.returned (.tuple #[.string t, .bool false])) := ⟨t, false, rfl, ht, fun h => (by cases h), fun _ => h⟩
theorem LocalE.yes {l : List Nat} {n : Nat} {t : ByteArray} (h : front l = some (nums t)) (ht : t.size ≤ n) : LocalE l n (.returned (.tuple #[.string t, .bool true])) := ⟨t, true, rfl, ht, fun _ => h, fun h => (by cases h)⟩
set_option maxRecDepth 100000 in
set_option maxHeartbeats 1600000 in
theorem local_any (w : World) (s : ByteArray) (hs : s.size ≤ 4194304) :
    Calls Tryd.prog 19 #[.string s] w fun e w' => LocalE (nums s) (s.size + 1) e ∧ w = w' := by
  have CP := Tryd.strings_CutPrefix s httpB w
  rw [prefix_http] at CP
  by_cases hh : (nums s).take 7 = http
  · have hp : Lib.trimPrefix s.data.toList httpB.data.toList = s.data.toList.drop 7 := by
      unfold Lib.trimPrefix
      rw [prefix_http]
      exact if_pos (decide_eq_true hh)
    have hd : decide ((s.data.toList.map fun b => b.toNat).take 7 = http) = true := decide_eq_true hh
    rw [hp, hd] at CP
    have HF := Lib.hid (front_http hh)
    obtain ⟨r, hr⟩ : ∃ r : ByteArray, r = ⟨(s.data.toList.drop 7).toArray⟩ := ⟨_, rfl⟩
    rw [← hr] at CP
    have NR : Hid (nums r = (nums s).drop 7) := by show _ = _; rw [hr, nums_mk, List.map_drop]; rfl
    have hrs : r.size + 7 = s.size := by
      have h1 := congrArg List.length hh
      rw [List.length_take, nums_length] at h1
      have h2 : http.length = 7 := rfl
      have h3 := congrArg List.length NR.out
      rw [nums_length, List.length_drop, nums_length] at h3
      omega
    have CP := Lib.hid CP
    have VIS : Hid (visible (nums s) = visible (nums r)) := by
      show _ = _
      conv => lhs; rw [← List.take_append_drop 7 (nums s), visible_app, hh]
      rw [NR.out]
      rfl
    have IB := Tryd.strings_IndexByte r 47 w
    have PR := Lib.hid (printable_any w r (by omega))
    have HLr : Hid ((nums r).length = r.size) := nums_length r
    have f0 := isEmpty_nums r
    clear hp hd hr hh
    by_cases h0 : nums r = []
    · rw [decide_eq_true h0] at f0
      have F : Hid (front (nums s) = none) := by show _ = _; rw [HF.out, ← NR.out, h0]; exact if_pos rfl
      clear h0 IB
      go_enter Tryd.func19, Tryd.ntmps19
      go_wp2_with fail
      refine CP.out.mono ?_
      rintro e w' ⟨rfl, rfl⟩
      go_wp2_with fail
      refine (Tryd.strings_IndexByte r 47 _).mono ?_
      rintro e w' ⟨rfl, rfl⟩
      obtain ⟨q, hq⟩ : ∃ q, q = Lib.indexByte r.data.toList ((47 : Int).toNat.toUInt8) := ⟨_, rfl⟩
      rw [← hq]
      clear hq
      go_wp2_with fail
      go_ret2
      exact ⟨LocalE.no F.out _ (by show 0 ≤ _; omega), rfl⟩
    · rw [decide_eq_false h0] at f0
      have e47 : ((47 : Int).toNat.toUInt8).toNat = 47 := by decide
      rcases index_at ((47 : Int).toNat.toUInt8) r.data.toList with ⟨h1, h2⟩ | ⟨i, h1, h2, h3, h4⟩
      · rw [h1] at IB
        rw [e47] at h2
        have TN := till_none (l := nums r) h2
        have IB := Lib.hid IB
        have F : Hid (front (nums s) = if visible (nums r) then some [47] else none) := by
          show _ = _
          rw [HF.out, ← NR.out, TN, if_neg (fun e => h0 e.symm), if_pos rfl, VIS.out]
        obtain ⟨vb, hvb⟩ : ∃ vb, vb = visible (nums r) := ⟨_, rfl⟩
        rw [← hvb] at PR F
        clear h0 h1 h2 TN e47 hvb VIS
        go_enter Tryd.func19, Tryd.ntmps19
        go_wp2_with fail
        refine CP.out.mono ?_
        rintro e w' ⟨rfl, rfl⟩
        go_wp2_with fail
        refine IB.out.mono ?_
        rintro e w' ⟨rfl, rfl⟩
        go_wp2_with fail
        refine PR.out.mono ?_
        rintro e w' ⟨rfl, rfl⟩
        clear IB PR CP
        go_wp2_with fail
        go_ret2
        cases vb
        · exact ⟨LocalE.no F.out _ (by show 1 ≤ _; omega), rfl⟩
        · exact ⟨LocalE.yes F.out (by show 1 ≤ _; omega), rfl⟩
      · rw [h1] at IB
        rw [e47] at h3 h4
        have hir : i < (nums r).length := by rw [HLr.out]; exact h2
        have TN := till_skip (l := nums r) hir h3 h4
        have IB := Lib.hid IB
        by_cases hi0 : i = 0
        · subst hi0
          have F : Hid (front (nums s) = none) := by show _ = _; rw [HF.out, ← NR.out, TN, List.drop_zero, if_pos rfl]
          clear h0 h1 h2 h3 h4 hir TN e47
          go_enter Tryd.func19, Tryd.ntmps19
          go_wp2_with fail
          refine CP.out.mono ?_
          rintro e w' ⟨rfl, rfl⟩
          go_wp2_with fail
          refine IB.out.mono ?_
          rintro e w' ⟨rfl, rfl⟩
          go_wp2_with fail
          go_ret2
          exact ⟨LocalE.no F.out _ (by show 0 ≤ _; omega), rfl⟩
        · have hz : ((i : Int) == 0) = false := by rw [beq_eq_false_iff_ne]; omega
          have hlt : ¬ (i : Int) < 0 := by omega
          have hir2 : i ≤ r.size := by rw [HLr.out] at hir; omega
          have hir3 : (i : Int) ≤ (r.size : Int) := by omega
          have F : Hid (front (nums s) = some (nums (r.extract i r.size))) := by
            show _ = _
            have hne1 : (nums r).drop i ≠ nums r := fun h => by
              have := congrArg List.length h
              rw [List.length_drop] at this
              omega
            have hne2 : (nums r).drop i ≠ [] := fun h => by
              have := congrArg List.length h
              rw [List.length_drop] at this
              simp at this
              omega
            rw [HF.out, ← NR.out, TN, if_neg hne1, if_neg hne2, nums_drop]
          have SZ : Hid ((r.extract i r.size).size ≤ s.size + 1) := by
            show _ ≤ _
            rw [← nums_length, nums_drop, List.length_drop, HLr.out]
            omega
          clear h0 h1 h2 h3 h4 hir TN e47 hi0
          go_enter Tryd.func19, Tryd.ntmps19
          go_wp2_with fail
          refine CP.out.mono ?_
          rintro e w' ⟨rfl, rfl⟩
          go_wp2_with fail
          refine IB.out.mono ?_
          rintro e w' ⟨rfl, rfl⟩
          go_wp2_with fail
          go_ret2
          exact ⟨LocalE.yes F.out SZ.out, rfl⟩
  · have hd : decide ((s.data.toList.map fun b => b.toNat).take 7 = http) = false := decide_eq_false hh
    rw [hd] at CP
    have F : Hid (front (nums s) = some (nums s)) := front_plain hh
    have CP := Lib.hid CP
    clear hd hh
    go_enter Tryd.func19, Tryd.ntmps19
    go_wp2_with fail
    refine CP.out.mono ?_
    rintro e w' ⟨rfl, rfl⟩
    clear CP
    go_wp2_with fail
    go_ret2
    exact ⟨LocalE.yes F.out (by omega), rfl⟩

/-- What Cut answers at one byte c. -/
def CutE (l : List Nat) (c : Nat) (e : Ending) : Prop := ∃ (a b : ByteArray) (ok : Bool), e = .returned (.tuple #[.string a, .string b, .bool ok]) ∧ c ∉ nums a ∧ (ok = true → l = nums a ++ c :: nums b) ∧ (ok = false → l = nums a ∧ nums b = [])
set_option maxRecDepth 100000 in
set_option maxHeartbeats 1600000 in
theorem scut_any (w : World) (s : ByteArray) (hs : s.size ≤ 4194304) (C : ByteArray) (c : UInt8) (hC : C = ⟨#[c]⟩) :
    Calls Tryd.prog 63 #[.string s, .string C] w fun e w' => CutE (nums s) c.toNat e ∧ ∃ n, w' = w.drewN n := by
  have IX : Calls Tryd.prog 62 #[.string s, .string C] w fun e w' => e = .returned (.int .i64 (Lib.indexByte s.data.toList c)) ∧ w' = w := by subst hC; exact Tryd.stringslite_Index_one s c w
  have hCs : C.size = 1 := by subst hC; rfl
  have HLs : Hid ((nums s).length = s.size) := nums_length s
  clear hC
  rcases index_at c s.data.toList with ⟨h1, h2⟩ | ⟨i, h1, h2, h3, h4⟩
  · rw [h1] at IX
    have IX := Lib.hid IX
    have N := Lib.hid h2
    clear h1 h2
    go_enter Tryd.func63, Tryd.ntmps63
    go_wp2_with fail
    refine IX.out.mono ?_
    rintro e w' ⟨rfl, rfl⟩
    clear IX
    go_wp2_with fail
    go_ret3
    exact ⟨⟨s, ⟨#[]⟩, false, rfl, N.out, fun h => (by cases h), fun _ => ⟨rfl, rfl⟩⟩, 0, rfl⟩
  · rw [h1] at IX
    have IX := Lib.hid IX
    have hil : i < (nums s).length := by rw [HLs.out]; exact h2
    have his : i < s.size := h2
    have A1 : Hid (nums (s.extract 0 i) = (nums s).take i) := nums_take s i
    have A2 : Hid (nums (s.extract (i + 1) s.size) = (nums s).drop (i + 1)) := nums_drop s (i + 1)
    have N : Hid (c.toNat ∉ (nums s).take i) := h4
    have EQ : Hid (nums s = (nums s).take i ++ c.toNat :: (nums s).drop (i + 1)) := by
      show _ = _
      conv => lhs; rw [← List.take_append_drop i (nums s), drop_cons hil]
      rw [show (nums s).getD i 0 = c.toNat from h3]
    have g1 : (0 : Int) ≤ (i : Int) := by omega
    have g2 : (i : Int) ≤ (s.size : Int) := by omega
    have g3 : (i : Int) + 1 ≤ (s.size : Int) := by omega
    have g4 : i + 1 ≤ s.size := by omega
    clear h1 h2 h3 h4 hil
    go_enter Tryd.func63, Tryd.ntmps63
    go_wp2_with fail
    refine IX.out.mono ?_
    rintro e w' ⟨rfl, rfl⟩
    clear IX
    go_wp2_with fail
    go_quiet (fail)
    go_wp2_with fail
    go_ret3
    refine ⟨⟨s.extract 0 i, s.extract (i + 1) s.size, true, ?_, ?_, fun _ => ?_, fun h => (by cases h)⟩, _, rfl⟩
    · rfl
    · rw [A1.out]; exact N.out
    · rw [A1.out, A2.out]; exact EQ.out
theorem cut_any (w : World) (s : ByteArray) (hs : s.size ≤ 4194304) (C : ByteArray) (c : UInt8) (hC : C = ⟨#[c]⟩) :
    Calls Tryd.prog 56 #[.string s, .string C] w fun e w' => CutE (nums s) c.toNat e ∧ ∃ n, w' = w.drewN n := by
  have SC := Lib.hid (scut_any w s hs C c hC)
  clear hC
  go_enter Tryd.func56, Tryd.ntmps56
  go_wp2_with fail
  refine SC.out.mono ?_
  rintro e w' ⟨⟨a, b, ok, rfl, h1, h2, h3⟩, n, rfl⟩
  have H := Lib.hid (show CutE (nums s) c.toNat (.returned (.tuple #[.string a, .string b, .bool ok])) from ⟨a, b, ok, rfl, h1, h2, h3⟩)
  clear SC h1 h2 h3
  go_wp2_with fail
  go_ret3
  exact ⟨H.out, _, rfl⟩
end Go.Proofs.YtpnmddealjoiiaaDoor
