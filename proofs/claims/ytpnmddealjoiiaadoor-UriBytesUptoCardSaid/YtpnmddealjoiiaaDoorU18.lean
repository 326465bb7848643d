/-
  uri: ParseUint as it is public; decode; say.
-/
import Derived.Test.YtpnmddealjoiiaaDoorU17
import Derived.Test.YtpnmddealjoiiaaDoorU11
namespace Go.Proofs.YtpnmddealjoiiaaDoor
open Go.RowKit Uri

/-- What the public ParseUint answers of two bytes. -/
def PubE (a b : Nat) (e : Ending) : Prop := (∃ x, two a b = some x ∧ x < 256 ∧ e = .returned (.tuple #[.int .u64 (x : Int), .nilIface])) ∨ (two a b = none ∧ ∃ n ty v, e = .returned (.tuple #[.int .u64 n, .iface ty v]))
theorem two_lt {a b x : Nat} (h : two a b = some x) : x < 256 := by
  unfold two at h
  split at h
  · rename_i u v hu hv
    have := hex_lt hu
    have := hex_lt hv
    injection h with h
    omega
  · cases h
set_option maxHeartbeats 1600000 in
set_option maxRecDepth 100000 in
theorem pu_any (w : World) (t : ByteArray) (a b : Nat) (ht : nums t = [a, b]) (E : Env w) :
    Calls Tryd.prog 58 #[.string t, .int .i64 16, .int .i64 8] w fun e w' => PubE a b e ∧ Below w.heap.size w w' := by
  have IP := Lib.hid (ipu_any w t a b ht)
  have hts : t.size = 2 := by rw [← nums_length, ht]; rfl
  have HE := Lib.hid E
  clear E ht
  go_enter Tryd.func58, Tryd.ntmps58
  go_wp2_with fail
  refine IP.out.mono ?_
  rintro e w1 ⟨hx, hb1⟩
  have B1 := Lib.hid hb1
  have E1 := Lib.hid (HE.out.below hb1)
  clear IP hb1
  cases h2 : two a b with
  | some x =>
    have P : Hid (∀ e, e = .returned (.tuple #[.int .u64 (x : Int), .nilIface]) → PubE a b e) := fun e he => .inl ⟨x, h2, two_lt h2, he⟩
    obtain rfl := hx.1 x h2
    clear hx h2
    go_wp2_with fail
    go_ret2
    exact ⟨P.out _ rfl, B1.out⟩
  | none =>
    have P : Hid (∀ n ty v, PubE a b (.returned (.tuple #[.int .u64 n, .iface ty v]))) := fun n ty v => .inr ⟨h2, n, ty, v, rfl⟩
    obtain rfl := hx.2 h2
    obtain ⟨ev, hv, hev⟩ := E1.out.err
    have TE := Lib.hid (fun fn => Tryd.strconv_toError_syntax fn t 16 8 ev w1 (by omega) hv hev)
    clear hx h2 hv hev
    go_wp2_with fail
    refine (TE.out _).mono ?_
    rintro e w2 ⟨N, rfl, _, _, hb2⟩
    have B2 := Lib.hid (B1.out.trans (hb2.mono B1.out.size))
    clear TE hb2
    go_wp2_with fail
    go_ret2
    exact ⟨P.out _ _ _, B2.out⟩

theorem dec_plains : ∀ {l : List Nat}, 37 ∉ l → ∀ r, dec (l ++ r) = (dec r).map (l ++ ·)
  | [], _, r => by simp
  | c :: l, h, r => by
    rw [List.cons_append, dec_plain (fun e => h (by simp [e])), dec_plains (fun hm => h (by simp [hm]))]
    cases dec r <;> simp
theorem map_app2 {o : Option (List Nat)} (a b : List Nat) : (o.map (b ++ ·)).map (a ++ ·) = o.map ((a ++ b) ++ ·) := by
  cases o <;> simp
/-- What decode answers of the bytes l. -/
def DecE (l : List Nat) (e : Ending) : Prop := (∃ d, dec l = some d ∧ e = .returned (.tuple #[.string (strB d), .bool true])) ∨ (dec l = none ∧ ∃ t, e = .returned (.tuple #[.string t, .bool false]))
def strLen : Value → Nat
  | .string s => s.size
  | _ => 0
theorem two_dec {a b x : Nat} (h : two a b = some x) (r : List Nat) : dec (37 :: a :: b :: r) = (dec r).map (x :: ·) := by
  unfold two at h
  split at h
  · rename_i u v hu hv
    injection h with h
    rw [dec_pct hu hv, h]
  · cases h
theorem two_none {a b : Nat} (h : two a b = none) (r : List Nat) : dec (37 :: a :: b :: r) = none := by
  unfold two at h
  cases ha : hex a with
  | none => exact dec_bad (.inl ha) r
  | some u =>
    cases hb : hex b with
    | none => exact dec_bad (.inr hb) r
    | some v => rw [ha, hb] at h; cases h
set_option maxHeartbeats 3200000 in
set_option maxRecDepth 100000 in
theorem decode_any (w : World) (s : ByteArray) (hs : s.size ≤ 4194304) (E : Env w) :
    Calls Tryd.prog 48 #[.string s] w fun e w' => DecE (nums s) e ∧ Below w.heap.size w w' := by
  have HS := Lib.hid hs
  have HE := Lib.hid E
  clear E
  go_enter Tryd.func48, Tryd.ntmps48
  go_wp2_with fail
  obtain ⟨b, hb⟩ : ∃ b, b = w.heap.size := ⟨_, rfl⟩
  obtain ⟨w1, hw1⟩ : ∃ w1, w1 = w.alloc (.cells #[.pointer none, .slice none 0 0] 44) := ⟨_, rfl⟩
  have BL0 : Hid (Bld w1 w.heap.size b []) := by rw [hw1]; exact Bld.new w _ _ hb (Nat.le_refl _)
  have B0 : Hid (Below w.heap.size w w1) := by rw [hw1]; exact (Below.refl _ _).alloc (Nat.le_refl _) _
  have E0 : Hid (Env w1) := HE.out.below B0.out
  rw [← hb, ← hw1]
  clear hb hw1
  go_loopw [0] (fun pv wr => ∃ (p : ByteArray) (d : List Nat), pv = .string p ∧ d.length + p.size ≤ s.size ∧ Hid (Bld wr w.heap.size b d) ∧ Hid (Below w.heap.size w wr) ∧ Hid (Env wr) ∧ Hid (dec (nums s) = (dec (nums p)).map (d ++ ·))) (fun pv _ => strLen pv)
  case atStart => exact ⟨s, [], rfl, by simp, BL0, B0, E0, by show dec _ = _; cases dec (nums s) <;> simp⟩
  case round =>
    obtain ⟨p, d, rfl, hd, HL, HB, HE1, HD⟩ := hrel
    have CT := Lib.hid (cut_any wr p (by have := HS.out; omega) ⟨#[37]⟩ 37 rfl)
    have HLp : Hid ((nums p).length = p.size) := nums_length p
    go_wp2_with fail
    refine CT.out.mono ?_
    rintro e w2 ⟨⟨x, y, ok, rfl, hx, h1, h2⟩, nq, rfl⟩
    have B2 : Hid (Below w.heap.size w (wr.drewN nq)) := HB.out.trans ⟨rfl, rfl, rfl, Nat.le_refl _, fun _ _ => rfl⟩
    have L2 : Hid (Bld (wr.drewN nq) w.heap.size b d) := HL.out.drewN nq
    have E2 : Hid (Env (wr.drewN nq)) := HE1.out.drewN nq
    have hxs : x.size ≤ p.size ∧ (ok = true → x.size + 1 + y.size = p.size) := by
      cases ok
      · have := (h2 rfl).1
        have h3 := congrArg List.length this
        rw [HLp.out, nums_length] at h3
        exact ⟨by omega, fun h => by cases h⟩
      · have := h1 rfl
        have h3 := congrArg List.length this
        rw [List.length_append, List.length_cons, HLp.out, nums_length, nums_length] at h3
        exact ⟨by omega, fun _ => by omega⟩
    have HX := Lib.hid hx
    have H1 := Lib.hid h1
    have H2 := Lib.hid h2
    have WS := Lib.hid (wstring_any w.heap.size b d x (wr.drewN nq) L2.out (by have := HS.out; omega) B2.out.size)
    obtain ⟨w2, hw2⟩ : ∃ w2, w2 = wr.drewN nq := ⟨_, rfl⟩
    rw [← hw2] at B2 L2 E2 WS ⊢
    clear CT hx h1 h2 hw2 HL HB HE1
    go_wp2_with fail
    refine WS.out.mono ?_
    rintro e w3 ⟨⟨v, rfl⟩, hl3, hb3⟩
    have B3 := Lib.hid (B2.out.trans (hb3.mono (Nat.le_refl _)))
    have L3 := Lib.hid hl3
    have E3 : Hid (Env w3) := HE.out.below B3.out
    clear WS hl3 hb3 B2 L2 E2
    cases ok
    · have DE : Hid (dec (nums s) = some (d ++ nums x)) := by
        show _ = _
        have e1 : nums p = nums x ++ [] := by rw [List.append_nil]; exact (H2.out rfl).1
        rw [HD.out, e1, dec_plains HX.out, dec_nil]
        simp
      have TX := Lib.hid (text_any w.heap.size b _ w3 L3.out B3.out.size)
      clear hxs
      go_wp2_with fail
      refine TX.out.mono ?_
      rintro e w4 ⟨rfl, hb4⟩
      have B4 := Lib.hid (B3.out.trans (hb4.mono (Nat.le_refl _)))
      clear TX hb4
      go_wp2_with fail
      go_ret2
      exact ⟨.inl ⟨_, DE.out, rfl⟩, B4.out⟩
    · have hsz := hxs.2 rfl
      have EP : Hid (nums p = nums x ++ 37 :: nums y) := H1.out rfl
      by_cases hy2 : y.size < 2
      · have hy2z : (y.size : Int) < 2 := by omega
        have DN : Hid (dec (nums s) = none) := by
          show _ = _
          rw [HD.out, EP.out, dec_plains HX.out, dec_short (by rw [nums_length]; exact hy2)]
          rfl
        clear hxs
        go_wp2_with fail
        go_ret2
        exact ⟨.inr ⟨DN.out, _, rfl⟩, B3.out⟩
      · have hy2z : ¬ (y.size : Int) < 2 := by omega
        have hy2n : 2 ≤ y.size := by omega
        have hy2i : (2 : Int) ≤ (y.size : Int) := by omega
        obtain ⟨u, v, r, huv⟩ : ∃ u v r, nums y = u :: v :: r := by
          have hl := nums_length y
          cases h : nums y with
          | nil => rw [h] at hl; simp at hl; omega
          | cons u q => cases q with
            | nil => rw [h] at hl; simp at hl; omega
            | cons v r => exact ⟨u, v, r, rfl⟩
        have NT : Hid (nums (y.extract 0 2) = [u, v]) := by show _ = _; rw [nums_take, huv]; rfl
        have NR : Hid (nums (y.extract 2 y.size) = r) := by show _ = _; rw [nums_drop, huv]; rfl
        have NS : Hid ((y.extract 2 y.size).size + 2 = y.size) := by
          show _ = _
          have h := congrArg List.length huv
          rw [nums_length] at h
          rw [← nums_length, NR.out, h]
          rfl
        have PU := Lib.hid (pu_any w3 _ u v NT.out E3.out)
        have EY := Lib.hid huv
        clear hxs huv
        go_wp2_with fail
        refine PU.out.mono ?_
        rintro e w4 ⟨hp, hb4⟩
        have B4 := Lib.hid (B3.out.trans (hb4.mono B3.out.size))
        have L4 := Lib.hid (L3.out.below hb4)
        have E4 : Hid (Env w4) := HE.out.below B4.out
        clear PU hb4 L3 B3 E3
        rcases hp with ⟨z, hz, hz8, rfl⟩ | ⟨hz, n, ty, vv, rfl⟩
        · have DN : Hid (dec (nums s) = (dec r).map (((d ++ nums x) ++ [z]) ++ ·)) := by
            show _ = _
            rw [HD.out, EP.out, EY.out, dec_plains HX.out, two_dec hz, map_app2, map_app]
          have WB := Lib.hid (wbyte_any w.heap.size b _ z w4 L4.out hz8 (by rw [List.length_append, nums_length]; have := HS.out; omega) B4.out.size)
          have ez : IntKind.u8.wrap (z : Int) = (z : Int) := by show (z : Int) % 256 = _; omega
          have HLx : Hid ((nums x).length = x.size) := nums_length x
          clear hz hz8
          go_wp2_with fail
          refine WB.out.mono ?_
          rintro e w5 ⟨rfl, hl5, hb5⟩
          have B5 := Lib.hid (B4.out.trans (hb5.mono (Nat.le_refl _)))
          have L5 := Lib.hid hl5
          have E5 : Hid (Env w5) := HE.out.below B5.out
          clear WB hl5 hb5
          go_wp2_with fail
          go_roundw
          case rel => exact ⟨_, _, rfl, by have := NS.out; rw [List.length_append, List.length_append, HLx.out, List.length_singleton]; omega, L5, B5, E5, by show _ = _; rw [DN.out, NR.out]⟩
          case measure => have := NS.out; show (y.extract 2 y.size).size < p.size; omega
        · have DN : Hid (dec (nums s) = none) := by
            show _ = _
            rw [HD.out, EP.out, EY.out, dec_plains HX.out, two_none hz]
            rfl
          clear hz
          go_wp2_with fail
          go_ret2
          exact ⟨.inr ⟨DN.out, _, rfl⟩, B4.out⟩
end Go.Proofs.YtpnmddealjoiiaaDoor
