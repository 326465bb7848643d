/-
  uri: writeSegment, Text.
-/
import Derived.Test.YtpnmddealjoiiaaDoorU20
import Derived.Test.YtpnmddealjoiiaaDoorU9
namespace Go.Proofs.YtpnmddealjoiiaaDoor
open Go.RowKit Uri

set_option maxRecDepth 100000 in
set_option maxHeartbeats 3200000 in
theorem wseg_any (B b : Nat) (l : List Nat) (s : ByteArray) (w : World) (h : Bld w B b l) (hl : l.length ≤ 100000000) (hs : s.size ≤ 4194304) (hBw : B ≤ w.heap.size) :
    Calls Tryd.prog 30 #[.pointer (some ⟨b, 0, none⟩), .string s] w fun e w' => e = .returned (.tuple #[]) ∧ Bld w' B b (l ++ enc (nums s)) ∧ Below B w w' := by
  have HA : Hid (∀ k (hk : k < s.size), (s[k]'hk).toNat = (nums s).getD k 0) := fun k hk => nat_at s k hk
  have HLn : Hid ((nums s).length = s.size) := nums_length s
  have HL0 := Lib.hid h
  clear h
  go_enter Tryd.func30, Tryd.ntmps30
  go_wp2_with fail
  go_loopw [8] (fun iv wr => ∃ k : Nat, k ≤ s.size ∧ iv = .int .i64 k ∧ Hid (Bld wr B b (l ++ enc ((nums s).take k))) ∧ Hid (Below B w wr)) (fun iv _ => s.size - (intOf iv).toNat)
  case atStart => exact ⟨0, by omega, rfl, by show Bld _ _ _ _; simpa [enc] using HL0.out, Below.refl _ _⟩
  case round =>
    obtain ⟨k, hk, rfl, HL, HB⟩ := hrel
    by_cases hlt : k < s.size
    · obtain ⟨y, hy⟩ : ∃ y, y = (nums s).getD k 0 := ⟨_, rfl⟩
      have ey : ((s[k]'hlt).toNat : Int) = (y : Int) := by rw [HA.out, ← hy]
      have Y8 : Hid (y < 256) := by show y < 256; rw [hy]; exact getD_lt _ _
      have TK : Hid ((nums s).take (k + 1) = (nums s).take k ++ [y]) := by show _ = _; rw [hy]; exact take_next (by rw [HLn.out]; exact hlt)
      have LEN : Hid ((l ++ enc ((nums s).take k)).length ≤ 120000000) := by
        have := enc_len ((nums s).take k)
        rw [List.length_take, HLn.out] at this
        show _ ≤ _
        rw [List.length_append]
        omega
      have BS : Hid (B ≤ wr.heap.size) := Nat.le_trans hBw HB.out.size
      have ST := Lib.hid (stands_any wr y Y8.out)
      obtain ⟨L, hL⟩ : ∃ L, L = l ++ enc ((nums s).take k) := ⟨_, rfl⟩
      have EL := Lib.hid hL
      rw [← hL] at HL LEN
      obtain ⟨p, hp⟩ : ∃ p, p = plain y := ⟨_, rfl⟩
      rw [← hp] at ST
      have EP := Lib.hid hp
      clear hy hL hp
      go_wp2_with fail
      refine ST.out.mono ?_
      rintro e w2 ⟨rfl, rfl⟩
      clear ST
      cases p
      · have N : Hid (enc1 y = [37, dig (y / 16), dig (y % 16)]) := by show _ = _; unfold enc1; rw [← EP.out]; rfl
        obtain ⟨p1, hp1⟩ : ∃ p, p = y / 16 := ⟨_, rfl⟩
        obtain ⟨p2, hp2⟩ : ∃ p, p = y % 16 := ⟨_, rfl⟩
        rw [← hp1, ← hp2] at N
        have l1 : p1 < 16 := by have := Y8.out; omega
        have l2 : p2 < 16 := by omega
        have D1 : dig p1 < 256 := by unfold dig; split <;> omega
        have D2 : dig p2 < 256 := by unfold dig; split <;> omega
        have u1 := up_at p1 l1
        have u2 := up_at p2 l2
        have z1 : (y : Int) / 16 = (p1 : Int) := by omega
        have z2 : bits .and .u8 (y : Int) 15 = (p2 : Int) := by
          rw [show (15 : Int) = ((15 : Nat) : Int) from rfl, u8_and_nat _ _ Y8.out (by omega), hp2]
          congr 1
          exact Nat.and_two_pow_sub_one_eq_mod y 4
        have z3 : (p1 : Int) < 16 := by omega
        have z4 : (p2 : Int) < 16 := by omega
        have W1 := Lib.hid (wbyte_any B b L 37 wr HL.out (by omega) (by have := LEN.out; omega) BS.out)
        clear hp1 hp2
        go_wp2_with fail
        refine W1.out.mono ?_
        rintro e w3 ⟨rfl, hl3, hb3⟩
        have B3 := Lib.hid (HB.out.trans hb3)
        have S3 : Hid (B ≤ w3.heap.size) := Nat.le_trans BS.out hb3.size
        have W2 := Lib.hid (wbyte_any B b _ (dig p1) w3 hl3 D1 (by rw [List.length_append]; have := LEN.out; simp; omega) S3.out)
        clear W1 hl3 hb3
        go_wp2_with fail
        refine W2.out.mono ?_
        rintro e w4 ⟨rfl, hl4, hb4⟩
        have B4 := Lib.hid (B3.out.trans hb4)
        have S4 : Hid (B ≤ w4.heap.size) := Nat.le_trans S3.out hb4.size
        have W3 := Lib.hid (wbyte_any B b _ (dig p2) w4 hl4 D2 (by rw [List.length_append, List.length_append]; have := LEN.out; simp; omega) S4.out)
        clear W2 hl4 hb4
        go_wp2_with fail
        refine W3.out.mono ?_
        rintro e w5 ⟨rfl, hl5, hb5⟩
        have B5 := Lib.hid (B4.out.trans hb5)
        have L5 : Hid (Bld w5 B b (l ++ enc ((nums s).take (k + 1)))) := by
          show Bld _ _ _ _
          rw [TK.out, enc_snoc, N.out, ← List.append_assoc, ← EL.out]
          simpa using hl5
        clear W3 hl5 hb5
        go_wp2_with fail
        go_roundw
        case rel => exact ⟨k + 1, by omega, by go_num, L5, B5⟩
        case measure => simp [intOf]; omega
      · have N : Hid (enc1 y = [y]) := by show _ = _; unfold enc1; rw [← EP.out]; rfl
        have W1 := Lib.hid (wbyte_any B b L y wr HL.out Y8.out (by have := LEN.out; omega) BS.out)
        go_wp2_with fail
        refine W1.out.mono ?_
        rintro e w3 ⟨rfl, hl3, hb3⟩
        have B3 := Lib.hid (HB.out.trans hb3)
        have L3 : Hid (Bld w3 B b (l ++ enc ((nums s).take (k + 1)))) := by
          show Bld _ _ _ _
          rw [TK.out, enc_snoc, N.out, ← List.append_assoc, ← EL.out]
          exact hl3
        clear W1 hl3 hb3
        go_wp2_with fail
        go_roundw
        case rel => exact ⟨k + 1, by omega, by go_num, L3, B3⟩
        case measure => simp [intOf]; omega
    · obtain rfl : k = s.size := by omega
      have TA : Hid ((nums s).take s.size = nums s) := by show _ = _; rw [← HLn.out, List.take_length]
      rw [TA.out] at HL
      go_wp2_with fail
      go_end0
      exact ⟨rfl, HL.out, HB.out⟩
set_option maxRecDepth 100000 in
set_option maxHeartbeats 3200000 in
theorem text_of (w : World) (A : Option Addr) (n c : Nat) (a : List ByteArray) (hn : n ≤ 4611686018427387904) (ha : Strs w A n a) (hs : ∀ s ∈ a, s.size ≤ 4194304) (E : Env w) :
    Calls Tryd.prog 15 #[.slice A n c] w fun e w' => e = .returned (.string (strB (text (txts a)))) ∧ Below w.heap.size w w' := by
  have HG := Lib.hid (good_any w A n c a hn ha hs E)
  have HA := Lib.hid ha
  have HS := Lib.hid hs
  have hla := Lib.hid ha.1
  clear ha hs E
  obtain ⟨g, hg⟩ : ∃ g, g = good (txts a) := ⟨_, rfl⟩
  have G := Lib.hid hg
  rw [← hg] at HG
  clear hg
  go_enter Tryd.func15, Tryd.ntmps15
  go_wp2_with fail
  refine HG.out.mono ?_
  rintro e w1 ⟨rfl, hb1⟩
  have B1 := Lib.hid hb1
  clear HG hb1
  cases g
  · have F : Hid (strB (text (txts a)) = ⟨#[]⟩) := by show _ = _; unfold text; rw [← G.out, if_neg (by simp)]; rfl
    go_wp2_with fail
    go_ret
    exact ⟨by rw [F.out]; rfl, B1.out⟩
  · have GP := Lib.hid (good_parts G.out.symm)
    have hn12 : n ≤ 12 := by have := GP.out.2; rwa [txts_length, hla.out] at this
    by_cases h0 : n = 0
    · have hz : ((n : Int) == 0) = true := by simp [h0]
      have F : Hid (strB (text (txts a)) = ⟨#[47]⟩) := by
        have : a = [] := List.eq_nil_of_length_eq_zero (by rw [hla.out, h0])
        show _ = _
        rw [this]
        rfl
      clear h0
      go_wp2_with fail
      go_ret
      exact ⟨by rw [F.out]; rfl, B1.out⟩
    · have hz : ((n : Int) == 0) = false := by rw [beq_eq_false_iff_ne]; omega
      go_wp2_with fail
      obtain ⟨b, hb⟩ : ∃ b, b = w1.heap.size := ⟨_, rfl⟩
      obtain ⟨w2, hw2⟩ : ∃ w2, w2 = w1.alloc (.cells #[.pointer none, .slice none 0 0] 44) := ⟨_, rfl⟩
      have BL0 : Hid (Bld w2 w.heap.size b []) := by rw [hw2]; exact Bld.new w1 _ _ hb B1.out.size
      have B2 : Hid (Below w.heap.size w w2) := by rw [hw2]; exact B1.out.alloc B1.out.size _
      rw [← hb, ← hw2]
      clear hb hw2
      go_loopw [16] (fun i wr => ∃ (k : Nat), k ≤ n ∧ i = .int .i64 k ∧ Hid (Bld wr w.heap.size b (form (txts (a.take k)))) ∧ Hid (Below w.heap.size w wr) ∧ Hid ((form (txts (a.take k))).length ≤ 200 * k)) (fun i _ => n - (intOf i).toNat)
      case atStart => exact ⟨0, by omega, rfl, BL0, B2, by show _ ≤ _; simp [txts, form]⟩
      case round =>
        obtain ⟨k, hk, rfl, HL, HB, HN⟩ := hrel
        by_cases hlt : k < n
        · obtain ⟨bb, off, s, rfl, e1, x1, e2⟩ := (HA.out.below HB.out).at_ hlt
          have hm : s ∈ a := List.mem_of_getElem? e1
          have hsz := (seg_parts (GP.out.1 (nums s) (List.mem_map.2 ⟨s, hm, rfl⟩))).2.1
          rw [nums_length] at hsz
          have FK : Hid (form (txts (a.take (k + 1))) = form (txts (a.take k)) ++ [47] ++ enc (nums s)) := by
            show _ = _
            rw [e2, txts_app]
            show form (txts (a.take k) ++ [nums s]) = _
            rw [form_snoc, List.append_assoc]
            rfl
          have LEN : Hid ((form (txts (a.take (k + 1)))).length ≤ 200 * (k + 1)) := by
            have := enc_len (nums s)
            have h2 := HN.out
            rw [nums_length] at this
            show _ ≤ _
            rw [FK.out, List.length_append, List.length_append, List.length_singleton]
            omega
          have BS : Hid (w.heap.size ≤ wr.heap.size) := HB.out.size
          have W1 := Lib.hid (wbyte_any w.heap.size b _ 47 wr HL.out (by omega) (by have := HN.out; omega) BS.out)
          clear e1 e2 hm
          go_wp2_with fail
          refine W1.out.mono ?_
          rintro e w3 ⟨rfl, hl3, hb3⟩
          have B3 := Lib.hid (HB.out.trans hb3)
          have W2 := Lib.hid (wseg_any w.heap.size b _ s w3 hl3 (by rw [List.length_append]; have := HN.out; simp; omega) (by omega) B3.out.size)
          clear W1 hl3 hb3
          go_wp2_with fail
          refine W2.out.mono ?_
          rintro e w4 ⟨rfl, hl4, hb4⟩
          have B4 := Lib.hid (B3.out.trans hb4)
          rw [← FK.out] at hl4
          have L4 := Lib.hid hl4
          clear W2 hl4 hb4
          go_wp2_with fail
          go_roundw
          case rel => exact ⟨k + 1, by omega, by go_num, L4, B4, LEN⟩
          case measure => simp [intOf]; omega
        · obtain rfl : k = n := by omega
          have TA : Hid (a.take k = a) := by show _ = _; rw [← hla.out, List.take_length]
          have TX := Lib.hid (text_any w.heap.size b _ wr HL.out HB.out.size)
          have F : Hid (text (txts a) = form (txts (a.take k))) := by
            show _ = _
            unfold text
            rw [← G.out, if_pos rfl, TA.out, if_neg (fun h => h0 (by
              have := form_nil.1 h
              have h2 := congrArg List.length this
              rw [txts_length, hla.out] at h2
              exact h2))]
          go_wp2_with fail
          refine TX.out.mono ?_
          rintro e w5 ⟨rfl, hb5⟩
          have B5 := Lib.hid (HB.out.trans hb5)
          clear TX hb5
          go_wp2_with fail
          go_ret
          exact ⟨by rw [F.out]; rfl, B5.out⟩
end Go.Proofs.YtpnmddealjoiiaaDoor
