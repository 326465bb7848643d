/-
  uri: what the document's says answers.
-/
import Derived.Test.YtpnmddealjoiiaaDoorU4
namespace Go.Proofs.YtpnmddealjoiiaaDoor
open Go.RowKit Uri

theorem cells5 : Tryd.prog.cellsOf 5 = 1 := by kernel_rfl
theorem info5 : (Tryd.prog.info? 5).map (fun i => (i.zero, i.size, i.bytes)) = some (some (.int .u8 0), 1, 1) := by kernel_rfl
theorem byteT : ByteT Tryd.prog 35 5 := ⟨Tryd.underlying35, Tryd.underlying5, cells5, info5⟩
theorem bts_one (w : World) (x : Nat) (h8 : x < 256) (e : TypeId) (m : Nat × Nat) (b : Nat) (hb : b = w.heap.size) : Bts (w.alloc (.cells #[.int .u8 (x : Int)] e m)) (some ⟨b, 0, none⟩) 1 [x] := by
  subst hb
  refine ⟨rfl, fun y hy => by have : y = x := by simpa using hy
                              omega, fun _ => ⟨_, 0, rfl, by simp, fun i hi => ?_⟩⟩
  obtain rfl : i = 0 := by omega
  rw [Nat.zero_add, World.cell?_alloc_mark]
  rfl
theorem own_nil (w : World) (base : Nat) (e : TypeId) : OwnB w base e (.slice none 0 0) [] := ⟨World.ownsRow_nil w base e 1, by simp⟩
/-- What says answers of the bytes l. -/
def SaysE (l : List Nat) (e : Ending) : Prop := ∃ (t : ByteArray) (ok : Bool), e = .returned (.tuple #[.string t, .bool ok]) ∧ (ok = true → Uri.says l = some (nums t)) ∧ (ok = false → Uri.says l = none)
theorem SaysE.no {l : List Nat} (h : Uri.says l = none) (t : ByteArray) : SaysE l (.returned (.tuple #[.string t, .bool false])) := ⟨t, false, rfl, fun h => (by cases h), fun _ => h⟩
theorem says_dec_none {l : List Nat} (h : dec l = none) : Uri.says l = none := by unfold Uri.says; rw [h]; rfl
theorem says_dec {l d : List Nat} (h : dec l = some d) : Uri.says l = if fine d then some d else none := by
  unfold Uri.says
  rw [h, Option.filter_some]
theorem hexI_some {c x : Nat} (h : hex c = some x) : hexI c = x := by unfold hexI; rw [h]
theorem hexI_neg {c : Nat} (h : hex c = none) : hexI c = -1 := by unfold hexI; rw [h]
theorem drop_cons {l : List Nat} {k : Nat} (h : k < l.length) : l.drop k = l.getD k 0 :: l.drop (k + 1) := by
  rw [List.drop_eq_getElem_cons h, List.getD_eq_getElem?_getD, List.getElem?_eq_getElem h]
  rfl
theorem u8_wrap_byte {a b : Nat} (ha : a < 16) (hb : b < 16) : IntKind.u8.wrap ((a * 16 + b : Nat) : Int) = ((a * 16 + b : Nat) : Int) := by
  show ((a * 16 + b : Nat) : Int) % 256 = _
  omega
theorem map_app {o : Option (List Nat)} {d : List Nat} (x : Nat) : (o.map (x :: ·)).map (d ++ ·) = o.map ((d ++ [x]) ++ ·) := by
  cases o <;> simp

set_option maxRecDepth 100000 in
set_option maxHeartbeats 1600000 in
theorem says_any (w : World) (s : ByteArray) (hs : s.size ≤ 4194304) :
    Calls Tryd.prog 25 #[.string s] w fun e w' => SaysE (nums s) e ∧ Below w.heap.size w w' := by
  have HA : Hid (∀ k (hk : k < s.size), (s[k]'hk).toNat = (nums s).getD k 0) := fun k hk => nat_at s k hk
  have HL : Hid ((nums s).length = s.size) := nums_length s
  go_enter Tryd.func25, Tryd.ntmps25
  go_wp2_with fail
  go_loopw [4, 5] (fun v i wr => ∃ (k : Nat) (d : List Nat), k ≤ s.size ∧ i = .int .i64 k ∧ Hid (OwnB wr w.heap.size 5 v d) ∧ Hid (Below w.heap.size w wr) ∧ Hid (dec (nums s) = (dec ((nums s).drop k)).map (d ++ ·)) ∧ Hid (d.length ≤ k)) (fun _ i _ => s.size - (intOf i).toNat)
  case atStart => exact ⟨0, [], by omega, rfl, own_nil _ _ _, Below.refl _ _, by show dec _ = _; rw [List.drop_zero]; cases dec (nums s) <;> simp, Nat.le_refl _⟩
  case round =>
    obtain ⟨k, d, hk, rfl, HO, HB, HD, HN⟩ := hrel
    by_cases hlt : k < s.size
    · obtain ⟨x, hx⟩ : ∃ x, x = (s[k]'hlt).toNat := ⟨_, rfl⟩
      have X : Hid (x = (nums s).getD k 0) := hx.trans (HA.out k hlt)
      have DC : Hid ((nums s).drop k = x :: (nums s).drop (k + 1)) := by show _ = _; rw [X.out]; exact drop_cons (by rw [HL.out]; exact hlt)
      by_cases hp : x = 37
      · have e1 : (((s[k]'hlt).toNat : Int) == 37) = true := by rw [← hx]; simp [hp]
        have HP := Lib.hid hp
        have H2 : (s.size : Int) - (k : Int) = ((s.size - k : Nat) : Int) := by omega
        clear hx hp
        by_cases h2 : s.size ≤ k + 2
        · have N : Hid (Uri.says (nums s) = none) := by
            show _ = _
            refine says_dec_none ?_
            rw [HD.out, DC.out, HP.out, dec_short (by rw [List.length_drop, HL.out]; omega)]
            rfl
          have h2z : (s.size : Int) ≤ (k : Int) + 2 := by omega
          clear H2
          go_wp2_with fail
          go_ret2
          exact ⟨SaysE.no N.out _, HB.out⟩
        · have h2z : ¬ (s.size : Int) ≤ (k : Int) + 2 := by omega
          have k1 : k + 1 < s.size := by omega
          have k2 : k + 2 < s.size := by omega
          obtain ⟨a, ha⟩ : ∃ a, a = (nums s).getD (k + 1) 0 := ⟨_, rfl⟩
          obtain ⟨b, hb⟩ : ∃ b, b = (nums s).getD (k + 2) 0 := ⟨_, rfl⟩
          have ea : ((s[k + 1]'k1).toNat : Int) = (a : Int) := by rw [HA.out, ← ha]
          have eb : ((s[k + 2]'k2).toNat : Int) = (b : Int) := by rw [HA.out, ← hb]
          have DD : Hid ((nums s).drop k = 37 :: a :: b :: (nums s).drop (k + 3)) := by
            show _ = _
            rw [DC.out, HP.out, drop_cons (k := k + 1) (by rw [HL.out]; exact k1), drop_cons (k := k + 2) (by rw [HL.out]; exact k2), ha, hb]
          have XA := Lib.hid (hex_any wr a (by rw [ha]; exact getD_lt _ _))
          have XB := Lib.hid (hex_any wr b (by rw [hb]; exact getD_lt _ _))
          clear H2 ha hb
          go_wp2_with fail
          refine XA.out.mono ?_
          rintro e w' ⟨rfl, rfl⟩
          go_wp2_with fail
          refine XB.out.mono ?_
          rintro e w' ⟨rfl, rfl⟩
          clear XA XB ea eb
          cases hA : hex a with
          | none =>
            have N : Hid (Uri.says (nums s) = none) := by show _ = _; exact says_dec_none (by rw [HD.out, DD.out, dec_bad (.inl hA)]; rfl)
            rw [hexI_neg hA]
            clear hA
            go_wp2_with fail
            go_ret2
            exact ⟨SaysE.no N.out _, HB.out⟩
          | some u =>
            have hu : ¬ (u : Int) < 0 := by omega
            have hu16 := hex_lt hA
            rw [hexI_some hA]
            cases hB : hex b with
            | none =>
              have N : Hid (Uri.says (nums s) = none) := by show _ = _; exact says_dec_none (by rw [HD.out, DD.out, dec_bad (.inr hB)]; rfl)
              rw [hexI_neg hB]
              clear hA hB
              go_wp2_with fail
              go_ret2
              exact ⟨SaysE.no N.out _, HB.out⟩
            | some v =>
              have hv : ¬ (v : Int) < 0 := by omega
              have hv16 := hex_lt hB
              rw [hexI_some hB]
              obtain ⟨y, hy⟩ : ∃ y, y = u * 16 + v := ⟨_, rfl⟩
              have N : Hid (dec (nums s) = (dec ((nums s).drop (k + 3))).map ((d ++ [y]) ++ ·)) := by show _ = _; rw [HD.out, DD.out, dec_pct hA hB, map_app, hy]
              have Y8 : Hid (y < 256) := by show y < 256; omega
              have T := Lib.hid (bts_one wr y Y8.out 5 (0, 0) _ rfl)
              rw [show ((y : Nat) : Int) = (u : Int) * 16 + (v : Int) by omega] at T
              clear hA hB hy
              go_wp2_with (at_builtin; refine wpList_append_bts byteT rfl (.tmp 46) (.tmp 52) rfl w.heap.size _ d rfl (HO.out.alloc _) _ 1 1 [y] rfl T.out (by have := HN.out; omega) (by have := HB.out.size; simp; omega) ?_; intro v2 w2 hown2 hg2 hv2; have O2 := Lib.hid hown2; have B2 := Lib.hid ((HO.out.alloc _).grown (HB.out.alloc HB.out.size _) hg2 (by have := HB.out.size; simp; omega)); clear hown2 hg2 hv2)
              go_roundw
              case rel => exact ⟨k + 3, d ++ [y], by omega, by go_num, O2, B2, N, by show _ ≤ _; have := HN.out; simp; omega⟩
              case measure => simp [intOf]; omega
      · have e1 : (((s[k]'hlt).toNat : Int) == 37) = false := by rw [← hx]; simp; omega
        have ev : ((s[k]'hlt).toNat : Int) = (x : Int) := by rw [← hx]
        have N : Hid (dec (nums s) = (dec ((nums s).drop (k + 1))).map ((d ++ [x]) ++ ·)) := by show _ = _; rw [HD.out, DC.out, dec_plain hp, map_app]
        have X8 : Hid (x < 256) := by show x < 256; rw [X.out]; exact getD_lt s k
        have T := Lib.hid (bts_one wr x X8.out 5 (0, 0) _ rfl)
        clear hx hp
        go_wp2_with (at_builtin; refine wpList_append_bts byteT rfl (.tmp 19) (.tmp 23) rfl w.heap.size _ d rfl (HO.out.alloc _) _ 1 1 [x] rfl T.out (by have := HN.out; omega) (by have := HB.out.size; simp; omega) ?_; intro v2 w2 hown2 hg2 hv2; have O2 := Lib.hid hown2; have B2 := Lib.hid ((HO.out.alloc _).grown (HB.out.alloc HB.out.size _) hg2 (by have := HB.out.size; simp; omega)); clear hown2 hg2 hv2)
        go_roundw
        case rel => exact ⟨k + 1, d ++ [x], by omega, by go_num, O2, B2, N, by show _ ≤ _; have := HN.out; simp; omega⟩
        case measure => simp [intOf]; omega
    · obtain rfl : k = s.size := by omega
      obtain ⟨A, cap, rfl, hbt⟩ := HO.out.any
      have CV : (convert 35 9 (.slice A d.length cap)).run Tryd.prog wr = .ok (.string (strB d)) wr := hbt.toStr byteT Tryd.underlying9 cap
      have hD : dec (nums s) = some d := by
        rw [HD.out, ← HL.out, List.drop_length, dec_nil]
        simp
      have S0 := Lib.hid (says_dec hD)
      have hd8 := HO.out.2
      have NT : Hid (nums (strB d) = d) := nums_strB hd8
      have hts : (strB d).size ≤ 4294967296 := by rw [strB_size]; have := HN.out; omega
      obtain ⟨t, ht⟩ : ∃ t, t = strB d := ⟨_, rfl⟩
      rw [← ht] at CV NT hts
      have H0 := Lib.hid (has_any wr t 0 (by omega) hts)
      have H47 := Lib.hid (has_any wr t 47 (by omega) hts)
      have HU := Lib.hid (utf8_any wr t hts)
      rw [NT.out] at H0 H47 HU
      have FI : Hid (fine d = (!decide (0 ∈ d) && !decide (47 ∈ d) && utf8 d)) := by show _ = _; rfl
      clear hD hd8 hbt hts ht
      cases h0 : decide (0 ∈ d)
      · rw [h0] at H0 FI
        cases h47 : decide (47 ∈ d)
        · rw [h47] at H47 FI
          clear h0 h47
          go_wp2_with fail
          refine H0.out.mono ?_
          rintro e w' ⟨rfl, rfl⟩
          go_wp2_with fail
          refine H47.out.mono ?_
          rintro e w' ⟨rfl, rfl⟩
          go_wp2_with fail
          refine HU.out.mono ?_
          rintro e w' ⟨rfl, rfl⟩
          go_wp2_with fail
          go_ret2
          refine ⟨⟨t, utf8 d, rfl, fun h => ?_, fun h => ?_⟩, HB.out⟩
          · rw [S0.out, FI.out, h, NT.out]; rfl
          · rw [S0.out, FI.out, h]; rfl
        · rw [h47] at H47 FI
          clear h0 h47
          go_wp2_with fail
          refine H0.out.mono ?_
          rintro e w' ⟨rfl, rfl⟩
          go_wp2_with fail
          refine H47.out.mono ?_
          rintro e w' ⟨rfl, rfl⟩
          go_wp2_with fail
          go_ret2
          exact ⟨SaysE.no (by rw [S0.out, FI.out]; rfl) _, HB.out⟩
      · rw [h0] at H0 FI
        clear h0
        go_wp2_with fail
        refine H0.out.mono ?_
        rintro e w' ⟨rfl, rfl⟩
        go_wp2_with fail
        go_ret2
        exact ⟨SaysE.no (by rw [S0.out, FI.out]; rfl) _, HB.out⟩
end Go.Proofs.YtpnmddealjoiiaaDoor
