/-
  uri: what the document's Parse answers.
-/
import Derived.Test.YtpnmddealjoiiaaDoorU9
import Derived.Deep.CutRange
import Derived.Deep.DeepCutAuto
namespace Go.Proofs.YtpnmddealjoiiaaDoor
open Go.RowKit Uri

/-- What Parse answers of the bytes l. -/
def ParseE (l : List Nat) (e : Ending) (w' : World) : Prop :=
  ∃ A c D dir err, e = .returned (.tuple #[.slice A D.length c, .bool dir, .int .i64 err]) ∧ D.length ≤ c ∧ Strs w' A D.length D ∧ Uri.parse l = (txts D, dir, err)
theorem ParseE.bad {l : List Nat} {err : Int} (h : Uri.parse l = ([], false, err)) (w' : World) : ParseE l (.returned (.tuple #[.slice none 0 0, .bool false, .int .i64 err])) w' :=
  ⟨none, 0, [], false, err, rfl, Nat.le_refl _, Strs.nil _ _, h⟩
theorem till_here {l : List Nat} {k : Nat} (hk : k < l.length) (h : l.getD k 0 = 47) : till (l.drop k) = l.drop k := by
  rw [drop_cons hk, h]
  unfold till
  rw [List.dropWhile_cons]
  simp
theorem till_next {l : List Nat} {k : Nat} (hk : k < l.length) (h : l.getD k 0 ≠ 47) : till (l.drop k) = till (l.drop (k + 1)) := by
  rw [drop_cons hk]
  unfold till
  rw [List.dropWhile_cons, if_pos (by simpa using h)]
theorem parse_front {l u : List Nat} (h : front l = some u) : Uri.parse l = rest u := by unfold Uri.parse; rw [h]
theorem parse_nofront {l : List Nat} (h : front l = none) : Uri.parse l = ([], false, 20) := by unfold Uri.parse; rw [h]
theorem front_plain {l : List Nat} (h : l.take 7 ≠ http) : front l = some l := by unfold front; rw [if_neg h]
theorem front_http {l : List Nat} (h : l.take 7 = http) : front l = if till (l.drop 7) = l.drop 7 then none else if till (l.drop 7) = [] then (if visible l then some [47] else none) else some (till (l.drop 7)) := by
  unfold front; rw [if_pos h]
theorem rest_bad {u : List Nat} (h : ¬ (visible u = true ∧ u.head? = some 47)) : rest u = ([], false, 20) := by unfold rest; rw [if_neg h]
theorem drop_ne {l : List Nat} {j k : Nat} (hj : k < j) (hl : j ≤ l.length) : l.drop j ≠ l.drop k := fun h => by
  have := congrArg List.length h
  rw [List.length_drop, List.length_drop] at this
  omega
theorem strs_own {w : World} {base n : Nat} {v : Value} {l : List ByteArray} (h : w.ownsRow base 9 1 v n (strVs l)) : ∃ A c, v = .slice A n c ∧ n ≤ c ∧ Strs w A n l := by
  rcases h.2 with ⟨rfl, h0⟩ | ⟨g, cap, cur, rfl, _, _, hc, _⟩
  · exact ⟨none, 0, by rw [h0], by omega, strs_row (c := 0) (by rw [h0] at h ⊢; exact h)⟩
  · exact ⟨_, cap, rfl, hc, strs_row h⟩
theorem row_new (w : World) (base : Nat) (hb : base ≤ w.heap.size) (b : Nat) (hbe : b = w.heap.size) : (w.alloc (.cells #[] 9)).ownsRow base 9 1 (.slice (some ⟨b, 0, none⟩) 0 0) 0 (strVs []) := by
  subst hbe
  exact ⟨rfl, .inr ⟨_, 0, #[], rfl, hb, heap_alloc_new w _, Nat.le_refl _, by simp [maxLen], rfl, rfl⟩⟩
theorem pieces_len : ∀ (l : List Nat), ∀ p ∈ pieces l, p.length ≤ l.length
  | [], p, hp => by
    simp [pieces] at hp
    subst hp
    exact Nat.le_refl _
  | c :: r, p, hp => by
    have ih := pieces_len r
    unfold pieces at hp
    split at hp
    · rcases List.mem_cons.1 hp with rfl | hp
      · simp
      · have := ih p hp; simp; omega
    · split at hp
      · simp at hp
        subst hp
        simp
      · rename_i q qs hq
        rcases List.mem_cons.1 hp with rfl | hp
        · have := ih q (by rw [hq]; simp); simp; omega
        · have := ih p (by rw [hq]; simp [hp]); simp; omega
theorem pieces_count : ∀ (l : List Nat), (pieces l).length ≤ l.length + 1
  | [] => by simp [pieces]
  | c :: r => by
    have ih := pieces_count r
    unfold pieces
    split
    · simp; omega
    · split
      · simp
      · rename_i q qs hq
        rw [hq] at ih
        simp at ih ⊢
        omega
theorem walk_none {p : List Nat} (h : Uri.says p = none) (ps path : List (List Nat)) (dir : Bool) : Uri.walk (p :: ps) path dir = ([], false, 20) := by
  unfold Uri.walk; rw [h]
theorem walk_some {p s : List Nat} (h : Uri.says p = some s) (ps path : List (List Nat)) (dir : Bool) : Uri.walk (p :: ps) path dir = if 64 < s.length then ([], false, 5)
      else if s = [46, 46] then (if path = [] then ([], false, 20) else Uri.walk ps path.dropLast true)
      else if dots s then Uri.walk ps path true
      else Uri.walk ps (path ++ [s]) false := by
  conv => lhs; unfold Uri.walk
  rw [h]
theorem drop_one {α : Type} {l : List α} {k : Nat} {x : α} (h : l[k]? = some x) : l.drop k = x :: l.drop (k + 1) := by
  have hk := (List.getElem?_eq_some_iff.1 h).1
  rw [List.drop_eq_getElem_cons hk]
  congr 1
  exact (List.getElem?_eq_some_iff.1 h).2
theorem dropLast_txts (P : List ByteArray) : (txts P).dropLast = txts (P.take (P.length - 1)) := by
  rw [List.dropLast_eq_take, txts_length]
  simp [txts]
set_option maxRecDepth 100000 in
set_option maxHeartbeats 6400000 in
theorem rparse_any (w : World) (s : ByteArray) (hs : s.size ≤ 4194304) :
    Calls Tryd.prog 11 #[.string s] w fun e w' => ParseE (nums s) e w' ∧ Below w.heap.size w w' := by
  have HA : Hid (∀ k (hk : k < s.size), (s[k]'hk).toNat = (nums s).getD k 0) := fun k hk => nat_at s k hk
  have HL : Hid ((nums s).length = s.size) := nums_length s
  have VIS := Lib.hid (visible_any w s (by omega))
  go_enter Tryd.func11, Tryd.ntmps11
  go_upto_region 1 with fail
  obtain ⟨bb, hbb⟩ : ∃ bb, bb = decide ((nums s).take 7 = http) := ⟨_, rfl⟩
  have BB := Lib.hid hbb
  clear hbb
  go_cut [19] (fun v wc => v = .bool bb ∧ w = wc)
  case first =>
    by_cases h7 : s.size < 7
    · have h7z : ¬ (7 : Int) ≤ (s.size : Int) := by omega
      obtain rfl : bb = false := by
        rw [BB.out]
        exact decide_eq_false (fun h => by
          have := congrArg List.length h
          rw [List.length_take, HL.out] at this
          simp [http] at this
          omega)
      go_wp2_with fail
      go_meet
      case rel => exact ⟨rfl, rfl⟩
    · have h7z : (7 : Int) ≤ (s.size : Int) := by omega
      have h7n : 7 ≤ s.size := by omega
      have B := beq_lit (s.extract 0 7) [104, 116, 116, 112, 58, 47, 47]
      rw [nums_take] at B
      simp only [List.map_cons, List.map_nil, UInt8.reduceToNat] at B
      have B2 : ((s.extract 0 7).toList == [104, 116, 116, 112, 58, 47, 47]) = bb := by rw [B, BB.out]; rfl
      clear B
      go_wp2_with fail
      go_meet
      case rel => exact ⟨rfl, rfl⟩
  case rest =>
  obtain ⟨rfl, rfl⟩ := hcut
  go_upto_if 19 with fail
  go_cut [0] (fun v wc => ∃ t : ByteArray, v = .string t ∧ w = wc ∧ t.size ≤ 4194304 ∧ Hid (front (nums s) = some (nums t)))
  case first =>
    cases bb
    · have F : Hid (front (nums s) = some (nums s)) := front_plain (of_decide_eq_false BB.out.symm)
      go_wp2_with fail
      go_meet
      case rel => exact ⟨s, rfl, rfl, hs, F⟩
    · have HF := Lib.hid (front_http (l := nums s) (of_decide_eq_true BB.out.symm))
      have h7 : 7 ≤ s.size := by
        have h := congrArg List.length (of_decide_eq_true BB.out.symm)
        rw [List.length_take, HL.out] at h
        simp [http] at h
        omega
      go_wp2_with fail
      go_loop [5] (fun i => ∃ k : Nat, 7 ≤ k ∧ k ≤ s.size ∧ i = .int .i64 k ∧ Hid (till ((nums s).drop 7) = till ((nums s).drop k))) (fun i => s.size - (intOf i).toNat)
      case atStart => exact ⟨7, Nat.le_refl _, by omega, rfl, by show _ = _; rfl⟩
      case round =>
        obtain ⟨k, hk7, hk, rfl, HT⟩ := hrel
        by_cases hlt : k < s.size
        · obtain ⟨x, hx⟩ : ∃ x, x = (s[k]'hlt).toNat := ⟨_, rfl⟩
          have X : Hid (x = (nums s).getD k 0) := hx.trans (HA.out k hlt)
          by_cases hp : x = 47
          · have e1 : (((s[k]'hlt).toNat : Int) != 47) = false := by rw [← hx]; simp [hp]
            have T2 : Hid (till ((nums s).drop 7) = (nums s).drop k) := by show _ = _; rw [HT.out]; exact till_here (by rw [HL.out]; exact hlt) (by rw [← X.out]; exact hp)
            clear hx hp
            by_cases h8 : k = 7
            · obtain rfl : k = 7 := h8
              have PB := Lib.hid (parse_nofront (by rw [HF.out, T2.out, if_pos rfl]))
              go_wp2_with fail
              go_ret3
              exact ⟨ParseE.bad PB.out _, Below.refl _ _⟩
            · have h8z : ((k : Int) == 7) = false := by simp; omega
              have hend : ((k : Int) == (s.size : Int)) = false := by simp; omega
              obtain ⟨t, ht⟩ : ∃ t, t = s.extract k s.size := ⟨_, rfl⟩
              have hts : t.size ≤ 4194304 := by rw [← nums_length, ht, nums_drop, List.length_drop, HL.out]; omega
              have F : Hid (front (nums s) = some (nums t)) := by
                show _ = _
                rw [HF.out, T2.out, if_neg (drop_ne (by omega) (by rw [HL.out]; exact hk)), if_neg (fun h => by
                  have := congrArg List.length h
                  rw [List.length_drop, HL.out] at this
                  simp at this
                  omega), ht, nums_drop]
              go_wp2_with fail
              go_meet
              case rel => exact ⟨t, by rw [ht], rfl, hts, F⟩
          · have e1 : (((s[k]'hlt).toNat : Int) != 47) = true := by rw [← hx]; simp; omega
            have T2 : Hid (till ((nums s).drop 7) = till ((nums s).drop (k + 1))) := by show _ = _; rw [HT.out]; exact till_next (by rw [HL.out]; exact hlt) (by rw [← X.out]; exact hp)
            clear hx hp
            go_wp2_with fail
            go_round
            case rel => exact ⟨k + 1, by omega, by omega, by go_num, T2⟩
            case measure => simp [intOf]; omega
        · obtain rfl : k = s.size := by omega
          have T2 : Hid (till ((nums s).drop 7) = []) := by show _ = _; rw [HT.out, ← HL.out, List.drop_length]; rfl
          by_cases h8 : s.size = 7
          · have h8z : ((s.size : Int) == 7) = true := by simp [h8]
            have PB := Lib.hid (parse_nofront (by rw [HF.out, T2.out, if_pos (by rw [List.drop_eq_nil_of_le (by rw [HL.out]; omega)])]))
            go_wp2_with fail
            go_ret3
            exact ⟨ParseE.bad PB.out _, Below.refl _ _⟩
          · have h8z : ((s.size : Int) == 7) = false := by simp; omega
            have F := Lib.hid HF.out
            have hne : ([] : List Nat) ≠ (nums s).drop 7 := fun h => by
              have := congrArg List.length h
              rw [List.length_drop, HL.out] at this
              simp at this
              omega
            rw [T2.out, if_neg hne, if_pos rfl] at F
            obtain ⟨vb, hvb⟩ : ∃ vb, vb = visible (nums s) := ⟨_, rfl⟩
            rw [← hvb] at F VIS
            clear hvb
            go_wp2_with fail
            refine VIS.out.mono ?_
            rintro e w' ⟨rfl, rfl⟩
            clear VIS
            cases vb
            · have PB := Lib.hid (parse_nofront (F.out.trans (if_neg (by simp))))
              go_wp2_with fail
              go_ret3
              exact ⟨ParseE.bad PB.out _, Below.refl _ _⟩
            · have F2 : Hid (front (nums s) = some (nums ⟨#[47]⟩)) := F.out.trans (by rw [if_pos rfl]; rfl)
              go_wp2_with fail
              go_meet
              case rel => exact ⟨_, rfl, rfl, by decide, F2⟩
  case rest =>
    obtain ⟨t, rfl, rfl, hts, F⟩ := hcut
    have PF := Lib.hid (parse_front F.out)
    have HAt : Hid (∀ k (hk : k < t.size), (t[k]'hk).toNat = (nums t).getD k 0) := fun k hk => nat_at t k hk
    have HLt : Hid ((nums t).length = t.size) := nums_length t
    have VT := Lib.hid (visible_any w t (by omega))
    obtain ⟨vb, hvb⟩ : ∃ vb, vb = visible (nums t) := ⟨_, rfl⟩
    have VB := Lib.hid hvb
    rw [← hvb] at VT
    clear hvb VIS HA HL F
    cases vb
    · have PB : Hid (Uri.parse (nums s) = ([], false, 20)) := by show _ = _; rw [PF.out]; exact rest_bad (fun h => by rw [← VB.out] at h; cases h.1)
      go_wp2_with fail
      refine VT.out.mono ?_
      rintro e w' ⟨rfl, rfl⟩
      go_wp2_with fail
      go_ret3
      exact ⟨ParseE.bad PB.out _, Below.refl _ _⟩
    · by_cases h0 : t.size = 0
      · have h0z : ((t.size : Int) == 0) = true := by simp [h0]
        have PB : Hid (Uri.parse (nums s) = ([], false, 20)) := by
          show _ = _
          rw [PF.out]
          refine rest_bad (fun h => ?_)
          have : nums t = [] := List.eq_nil_of_length_eq_zero (by rw [HLt.out, h0])
          rw [this] at h
          cases h.2
        go_wp2_with fail
        refine VT.out.mono ?_
        rintro e w' ⟨rfl, rfl⟩
        go_wp2_with fail
        go_ret3
        exact ⟨ParseE.bad PB.out _, Below.refl _ _⟩
      · have h0z : ((t.size : Int) == 0) = false := by rw [beq_eq_false_iff_ne]; omega
        have h0p : 0 < t.size := by omega
        obtain ⟨x, hx⟩ : ∃ x, x = (t[0]'h0p).toNat := ⟨_, rfl⟩
        have X : Hid (x = (nums t).getD 0 0) := hx.trans (HAt.out 0 h0p)
        have HD : Hid (nums t = x :: (nums t).drop 1) := by
          have := drop_cons (l := nums t) (k := 0) (by rw [HLt.out]; exact h0p)
          rw [List.drop_zero, ← X.out] at this
          exact this
        by_cases hp : x = 47
        · have e1 : (((t[0]'h0p).toNat : Int) != 47) = false := by rw [← hx]; simp [hp]
          obtain ⟨u, hu⟩ : ∃ u, u = t.extract 1 t.size := ⟨_, rfl⟩
          have NU : Hid (nums u = (nums t).drop 1) := by show _ = _; rw [hu]; exact nums_drop t 1
          have hus : u.size ≤ 4194304 := by
            have := nums_length u
            rw [NU.out, List.length_drop, HLt.out] at this
            omega
          have PW : Hid (Uri.parse (nums s) = Uri.walk (pieces (nums u)) [] false) := by
            show _ = _
            rw [PF.out, rest_ok VB.out.symm (by rw [HD.out, hp]; rfl), NU.out]
            congr 2
            conv => lhs; rw [HD.out]
            rfl
          have PI := Lib.hid (pieces_any w u hus)
          have HUS := Lib.hid hus
          have HUL : Hid ((nums u).length = u.size) := nums_length u
          have h1z : (1 : Int) ≤ (t.size : Int) := by omega
          rw [hu] at PI
          clear hx hp hus
          go_wp2_with fail
          refine VT.out.mono ?_
          rintro e w' ⟨rfl, rfl⟩
          go_wp2_with fail
          refine PI.out.mono ?_
          rintro e w1 ⟨⟨A1, c1, D, rfl, hD1, hD2⟩, hB1⟩
          rw [← hu] at hD2
          have BW := Lib.hid hB1
          have SD := Lib.hid hD1
          have TD := Lib.hid hD2
          have DLEN : Hid (D.length ≤ u.size + 1) := by show _ ≤ _; rw [← txts_length, TD.out, ← HUL.out]; exact pieces_count _
          have DSZ : Hid (∀ p ∈ D, p.size ≤ u.size) := fun p hp => by
            have := pieces_len (nums u) (nums p) (by rw [← TD.out]; exact List.mem_map.2 ⟨p, hp, rfl⟩)
            rw [nums_length, nums_length] at this
            exact this
          have hDn : D.length ≤ 4194305 := by have := DLEN.out; have := HUS.out; omega
          clear hB1 hD1 hD2 PI VT hu
          go_wp2_with fail
          go_loopw [6, 7, 9] (fun pv dv iv wr => ∃ (k : Nat) (P : List ByteArray) (dir : Bool) (A : Option Addr) (c : Nat), k ≤ D.length ∧ iv = .int .i64 k ∧ pv = .slice A P.length c ∧ dv = .bool dir ∧ P.length ≤ c ∧ P.length ≤ k ∧ Hid (Strs wr A P.length P) ∧ Hid (Below w1.heap.size w1 wr) ∧ Hid (Uri.parse (nums s) = Uri.walk ((txts D).drop k) (txts P) dir)) (fun _ _ iv _ => D.length - (intOf iv).toNat)
          case atStart => exact ⟨0, [], false, none, 0, by omega, rfl, rfl, rfl, Nat.le_refl _, Nat.le_refl _, Strs.nil _ _, Below.refl _ _, by show _ = _; rw [List.drop_zero, TD.out]; exact PW.out⟩
          case round =>
            obtain ⟨k, P, dir, A, c, hk, rfl, rfl, rfl, hPc, hPk, HP, HB, HW⟩ := hrel
            by_cases hlt : k < D.length
            · obtain ⟨b, off, p, rfl, e1, x1, _⟩ := (SD.out.below HB.out).at_ hlt
              have SY := Lib.hid (says_any wr p (by have := DSZ.out p (List.mem_of_getElem? e1); have := HUS.out; omega))
              have DR : Hid ((txts D).drop k = nums p :: (txts D).drop (k + 1)) := drop_one (by unfold txts; rw [List.getElem?_map, e1]; rfl)
              clear e1
              go_wp2_with fail
              refine SY.out.mono ?_
              rintro e w2 ⟨⟨q, ok, rfl, hq1, hq2⟩, hB2⟩
              have HB2 : Hid (Below w1.heap.size w1 w2) := HB.out.trans (hB2.mono HB.out.size)
              have HP2 : Hid (Strs w2 A P.length P) := HP.out.below hB2
              have HLq : Hid ((nums q).length = q.size) := nums_length q
              clear hB2 SY x1
              cases ok
              · have PB : Hid (Uri.parse (nums s) = ([], false, 20)) := by show _ = _; rw [HW.out, DR.out, walk_none (hq2 rfl)]
                clear hq1 hq2
                go_wp2_with fail
                go_ret3
                exact ⟨ParseE.bad PB.out _, BW.out.trans (HB2.out.mono BW.out.size)⟩
              · have WS : Hid (Uri.parse (nums s) = if 64 < q.size then ([], false, 5)
                    else if nums q = [46, 46] then (if txts P = [] then ([], false, 20) else Uri.walk ((txts D).drop (k + 1)) (txts P).dropLast true)
                    else if dots (nums q) then Uri.walk ((txts D).drop (k + 1)) (txts P) true
                    else Uri.walk ((txts D).drop (k + 1)) (txts P ++ [nums q]) false) := by show _ = _; rw [HW.out, DR.out, walk_some (hq1 rfl), HLq.out]
                clear hq1 hq2
                by_cases h64 : 64 < q.size
                · have PB : Hid (Uri.parse (nums s) = ([], false, 5)) := by show _ = _; rw [WS.out, if_pos h64]
                  go_wp2_with fail
                  go_ret3
                  exact ⟨ParseE.bad PB.out _, BW.out.trans (HB2.out.mono BW.out.size)⟩
                · have f0 := isEmpty_nums q
                  have f1 := beq_lit q [46]
                  have f2 := beq_lit q [46, 46]
                  simp only [List.map_cons, List.map_nil, UInt8.reduceToNat] at f1 f2
                  by_cases d2 : nums q = [46, 46]
                  · have d0 : ¬ nums q = [] := by rw [d2]; simp
                    have d1 : ¬ nums q = [46] := by rw [d2]; simp
                    rw [decide_eq_false d0] at f0
                    rw [decide_eq_false d1] at f1
                    rw [decide_eq_true d2] at f2
                    by_cases hP0 : P.length = 0
                    · have hPz : ((P.length : Int) == 0) = true := by simp [hP0]
                      have PB : Hid (Uri.parse (nums s) = ([], false, 20)) := by show _ = _; rw [WS.out, if_neg h64, if_pos d2, if_pos (List.eq_nil_of_length_eq_zero (by rw [txts_length]; exact hP0))]
                      clear d0 d1 d2 hP0
                      go_wp2_with fail
                      go_ret3
                      exact ⟨ParseE.bad PB.out _, BW.out.trans (HB2.out.mono BW.out.size)⟩
                    · have hPz : ((P.length : Int) == 0) = false := by simp; intro e; exact hP0 (by rw [e]; rfl)
                      have W2 : Hid (Uri.parse (nums s) = Uri.walk ((txts D).drop (k + 1)) (txts (P.take (P.length - 1))) true) := by show _ = _; rw [WS.out, if_neg h64, if_pos d2, if_neg (fun e => hP0 (by have := congrArg List.length e; rw [txts_length] at this; exact this)), dropLast_txts]
                      have TL : Hid ((P.take (P.length - 1)).length = P.length - 1) := by show _ = _; rw [List.length_take]; omega
                      have HP3 : Hid (Strs w2 A (P.length - 1) (P.take (P.length - 1))) := HP2.out.take (by omega)
                      have hsub : (P.length : Int) - 1 = ((P.length - 1 : Nat) : Int) := by omega
                      have hle : P.length - 1 ≤ c := by omega
                      clear d0 d1 d2 hP0
                      go_wp2_with fail
                      go_roundw
                      case rel => exact ⟨k + 1, P.take (P.length - 1), true, A, c, by omega, by go_num, by rw [TL.out], rfl, by rw [TL.out]; omega, by rw [TL.out]; omega, by show Strs _ _ _ _; rw [TL.out]; exact HP3.out, HB2, W2⟩
                      case measure => simp [intOf]; omega
                  · by_cases d01 : nums q = [] ∨ nums q = [46]
                    · have W2 : Hid (Uri.parse (nums s) = Uri.walk ((txts D).drop (k + 1)) (txts P) true) := by show _ = _; rw [WS.out, if_neg h64, if_neg d2, if_pos (by unfold dots; exact decide_eq_true (d01.elim .inl (fun h => .inr (.inl h))))]
                      rw [decide_eq_false d2] at f2
                      by_cases d0 : nums q = []
                      · rw [decide_eq_true d0] at f0
                        clear d01 d0 d2 f1
                        go_wp2_with fail
                        go_roundw
                        case rel => exact ⟨k + 1, P, true, A, c, by omega, by go_num, rfl, rfl, hPc, by omega, HP2, HB2, W2⟩
                        case measure => simp [intOf]; omega
                      · rw [decide_eq_false d0] at f0
                        rw [decide_eq_true (d01.resolve_left d0)] at f1
                        clear d01 d0 d2
                        go_wp2_with fail
                        go_roundw
                        case rel => exact ⟨k + 1, P, true, A, c, by omega, by go_num, rfl, rfl, hPc, by omega, HP2, HB2, W2⟩
                        case measure => simp [intOf]; omega
                    · have d0 : ¬ nums q = [] := fun h => d01 (.inl h)
                      have d1 : ¬ nums q = [46] := fun h => d01 (.inr h)
                      have W2 : Hid (Uri.parse (nums s) = Uri.walk ((txts D).drop (k + 1)) (txts (P ++ [q])) false) := by
                        show _ = _
                        rw [WS.out, if_neg h64, if_neg d2, if_neg (by unfold dots; simp [d0, d1, d2]), txts_app]
                        rfl
                      rw [decide_eq_false d0] at f0
                      rw [decide_eq_false d1] at f1
                      rw [decide_eq_false d2] at f2
                      have PL : Hid (P.length + 1 ≤ 4194306) := by show _ ≤ _; have := DLEN.out; have := HUS.out; omega
                      have R0 := Lib.hid (row_new w2 w2.heap.size (Nat.le_refl _) _ rfl)
                      have B0 : Hid (Below w2.heap.size w2 (w2.alloc (.cells #[] 9))) := (Below.refl _ _).alloc (Nat.le_refl _) _
                      have S0 : Hid (Strs (w2.alloc (.cells #[] 9)) A P.length P) := HP2.out.below B0.out
                      clear d01 d0 d1 d2
                      go_wp2_with (first
                        | (at_builtin; refine wpList_append_strs rfl (.tmp 101) (.tmp 102) w2.heap.size rfl _ 0 (strVs []) rfl R0.out A P.length c P rfl S0.out (by have := PL.out; omega) (by simp) ?_; intro v3 w3 hown3 hg3 hv3; rw [← strVs_append, List.nil_append, Nat.zero_add] at hown3; have O3 := Lib.hid hown3; have B3 := Lib.hid (row_grown R0.out B0.out hg3 (by simp)); have T3 := Lib.hid (strs_one w3 q 9 (0, 0) _ rfl); clear hown3 hg3 hv3)
                        | (at_builtin; refine wpList_append_strs rfl (.tmp 103) (.tmp 105) w2.heap.size rfl _ P.length (strVs P) rfl (O3.out.alloc _) _ 1 1 [q] rfl T3.out (by have := PL.out; omega) (by have := B3.out.size; simp; omega) ?_; intro v4 w4 hown4 hg4 hv4; rw [← strVs_append] at hown4; have B4 := Lib.hid (row_grown (O3.out.alloc _) (B3.out.alloc B3.out.size _) hg4 (by have := B3.out.size; simp; omega)); have O4 := Lib.hid hown4; obtain ⟨A4, c4, rfl, hc4, hS4⟩ := strs_own hown4; have S4 := Lib.hid hS4; clear hown4 hg4 hv4 hS4))
                      go_roundw
                      case rel => exact ⟨k + 1, P ++ [q], false, A4, c4, by omega, by go_num, by rw [List.length_append]; rfl, rfl, by rw [List.length_append]; exact hc4, by rw [List.length_append, List.length_singleton]; omega, by show Strs _ _ _ _; rw [List.length_append]; exact S4.out, HB2.out.trans (B4.out.mono HB2.out.size), W2⟩
                      case measure => simp [intOf]; omega
            · obtain rfl : k = D.length := by omega
              have WE : Hid (Uri.parse (nums s) = if 12 < P.length then ([], false, 5) else (txts P, dir, 0)) := by
                show _ = _
                rw [HW.out, List.drop_eq_nil_of_le (by rw [txts_length]; exact Nat.le_refl _)]
                unfold Uri.walk
                rw [txts_length]
              by_cases h12 : 12 < P.length
              · have h12z : (12 : Int) < (P.length : Int) := by omega
                have PB : Hid (Uri.parse (nums s) = ([], false, 5)) := by show _ = _; rw [WE.out, if_pos h12]
                go_wp2_with fail
                go_ret3
                exact ⟨ParseE.bad PB.out _, BW.out.trans (HB.out.mono BW.out.size)⟩
              · have h12z : ¬ (12 : Int) < (P.length : Int) := by omega
                have PB : Hid (Uri.parse (nums s) = (txts P, dir, 0)) := by show _ = _; rw [WE.out, if_neg h12]
                go_wp2_with fail
                go_ret3
                exact ⟨⟨A, c, P, dir, 0, rfl, hPc, HP.out, PB.out⟩, BW.out.trans (HB.out.mono BW.out.size)⟩
        · have e1 : (((t[0]'h0p).toNat : Int) != 47) = true := by rw [← hx]; simp; omega
          have PB : Hid (Uri.parse (nums s) = ([], false, 20)) := by
            show _ = _
            rw [PF.out]
            refine rest_bad (fun h => ?_)
            have h2 := h.2
            rw [HD.out] at h2
            exact hp (by simpa using h2)
          clear hx hp
          go_wp2_with fail
          refine VT.out.mono ?_
          rintro e w' ⟨rfl, rfl⟩
          go_wp2_with fail
          go_ret3
          exact ⟨ParseE.bad PB.out _, Below.refl _ _⟩
end Go.Proofs.YtpnmddealjoiiaaDoor
