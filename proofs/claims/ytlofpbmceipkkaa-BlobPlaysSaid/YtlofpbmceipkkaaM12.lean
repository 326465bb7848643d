/-
  blob: unpack.
-/
import Derived.Test.YtlofpbmceipkkaaM11
namespace Go.Proofs.Ytlofpbmceipkkaa
open Go.RowKit Wal Blob

theorem partsOf_any (w : World) (n : Nat) (hn : n ≤ 100000) : Calls Try.prog 43 #[.int .i64 (n : Int)] w fun e w' => e = .returned (.int .i64 (((n + 511) / 512 : Nat) : Int)) ∧ w = w' := by
  have h1 : ((n : Int) + 512 - 1).tdiv 512 = (((n + 511) / 512 : Nat) : Int) := by
    rw [show (n : Int) + 512 - 1 = ((n + 511 : Nat) : Int) by omega]
    rfl
  go_enter Try.func43, Try.ntmps43
  go_wp2
  go_ret
  exact ⟨congrArg (fun z => Ending.returned (.int .i64 z)) (by omega), rfl⟩
theorem Bts.sub {w : World} {g o n : Nat} {l : List Nat} (h : Bts w (some ⟨g, o, none⟩) n l) (i m : Nat) (hm : i + m ≤ n) : Bts w (some ⟨g, o + i, none⟩) m ((l.drop i).take m) := by
  refine ⟨by rw [List.length_take, List.length_drop, h.1]; omega, fun x hx => h.2.1 x (List.mem_of_mem_drop (List.mem_of_mem_take hx)), fun hp => ?_⟩
  obtain ⟨b, off, e, hl, hc⟩ := h.2.2 (by omega)
  cases e
  refine ⟨g, o + i, rfl, hl, fun j hj => ?_⟩
  rw [Nat.add_assoc, hc _ (by omega)]
  simp only [List.getD_eq_getElem?_getD, List.getElem?_take, if_pos hj, List.getElem?_drop]
set_option maxRecDepth 100000 in
set_option maxHeartbeats 1600000 in
theorem unpack_any (w : World) (b g c : Nat) (s : Value) (sz h : Nat) (parts : List Nat) (hb : Held w b 61 (blobCs s h 0 none 0 0)) (hd : Bts w (some ⟨g, 0, none⟩) 512 (packB sz h parts)) (hc : 512 ≤ c) (hf : Fine h parts) (h1 : 1 ≤ sz) (hs : sz ≤ 49152) (hp : parts.length = (sz + 511) / 512) (hne : g ≠ b) :
    Calls Try.prog 47 #[.pointer (some ⟨b, 0, none⟩), .slice (some ⟨g, 0, none⟩) 512 c] w fun e w' => e = .returned (.bool true) ∧ ∃ A n c', n = parts.length ∧ Held w' b 61 (blobCs s h sz A n c') ∧ IntsAt w' A parts ∧ Only [b] w w' := by
  have HB := Lib.hid hb
  have HD := Lib.hid hd
  have HF := Lib.hid hf
  have fw := hf.few
  have c1 : w.cell? ⟨b, 1, none⟩ = some (.int .i64 (h : Int)) := hb.cell 1
  have c2 : w.cell? ⟨b, 2, none⟩ = some (.int .i64 ((0 : Nat) : Int)) := hb.cell 2
  have z2 : w.frozen? ⟨b, 2, none⟩ = false := hb.frozen 2
  have RS := Lib.hid (readNumber_any w (some ⟨g, 4, none⟩) 2 (c - 4) _ (by have := hd.sub 4 2 (by omega); rwa [Nat.zero_add] at this) (by omega))
  rw [packB_size sz h parts (by omega)] at RS
  clear hb hd hf
  have k1 : 4 ≤ c := by omega
  have k2 : 6 ≤ c := by omega
  have ws : wrap64 (sz : Int) = (sz : Int) := by unfold wrap64; omega
  have n1 : ¬ (sz : Int) < 1 := by omega
  have n2 : ¬ (49152 : Int) < (sz : Int) := by omega
  go_enter Try.func47, Try.ntmps47
  go_wp2_with fail
  refine RS.out.mono ?_
  rintro e w1 ⟨rfl, rfl⟩
  have H1 : Hid (Held (w.setCell ⟨b, 2, none⟩ (.int .i64 (sz : Int))) b 61 (blobCs s h sz none 0 0)) := HB.out.set_ 2 _
  have O1 : Hid (Only [b] w (w.setCell ⟨b, 2, none⟩ (.int .i64 (sz : Int)))) := (Only.refl _ _).setCell (p := ⟨b, 2, none⟩) (.inl (by simp)) _
  have e1 : (w.setCell ⟨b, 2, none⟩ (.int .i64 (sz : Int))).cell? ⟨b, 1, none⟩ = some (.int .i64 (h : Int)) := H1.out.cell 1
  have e2 : (w.setCell ⟨b, 2, none⟩ (.int .i64 (sz : Int))).cell? ⟨b, 2, none⟩ = some (.int .i64 (sz : Int)) := H1.out.cell 2
  have PA := Lib.hid (partsOf_any (w.setCell ⟨b, 2, none⟩ (.int .i64 (sz : Int))) sz (by omega))
  rw [← hp] at PA
  clear RS
  go_wp2_with fail
  refine PA.out.mono ?_
  rintro e w2 ⟨rfl, rfl⟩
  clear PA
  go_wp2_with fail
  clear c1 c2 z2 e1 e2 ws
  go_loopw [5, 6, 39] (fun t l i wr => ∃ k : Nat, k ≤ parts.length ∧ i = .int .i64 k ∧ l = .int .i64 (((h :: parts).getD k 0 : Nat) : Int) ∧ t = .slice (some ⟨g, 6 + 5 * k, none⟩) (506 - 5 * k) (c - (6 + 5 * k)) ∧ ∃ A c', Held wr b 61 (blobCs s h sz A k c') ∧ OwnI wr w.heap.size (.slice A k c') (parts.take k) ∧ Only [b] w wr) (fun _ _ i _ => parts.length - (intOf i).toNat)
  case atStart => exact ⟨0, by omega, rfl, rfl, rfl, none, 0, H1.out, OwnI.nil _ _, O1.out⟩
  case round =>
    obtain ⟨k, hk, rfl, rfl, rfl, A, c', hh, hr, ho⟩ := hrel
    have HH := Lib.hid hh
    have R := Lib.hid hr
    have O := Lib.hid ho
    clear hh hr ho
    by_cases hlt : k < parts.length
    · obtain ⟨p1, p2, p3, p4⟩ := HF.out.step hlt
      have BD : Hid (Bts wr (some ⟨g, 0, none⟩) 512 (packB sz h parts)) := O.out.bts HD.out (fun _ x hx => by injection hx with hx; subst hx; simpa using hne)
      have RS := Lib.hid (readNumber_any wr (some ⟨g, 6 + 5 * k, none⟩) 5 (c - (6 + 5 * k)) _ (by have := BD.out.sub (6 + 5 * k) 5 (by omega); rwa [Nat.zero_add] at this) (by omega))
      rw [packB_step sz h parts k hlt fw (by omega)] at RS
      have TK : Hid (parts.take k ++ [(h :: parts).getD (k + 1) 0] = parts.take (k + 1)) := by
        show _ = _
        rw [p4, List.take_succ_eq_append_getElem hlt, List.getD_eq_getElem?_getD, List.getElem?_eq_getElem hlt]
        rfl
      have d3 : wr.cell? ⟨b, 3, none⟩ = some (.slice A k c') := HH.out.cell 3
      have lk : (parts.take k).length = k := by rw [List.length_take]; omega
      have LK := Lib.hid lk
      clear p4 lk
      generalize hy : (h :: parts).getD (k + 1) 0 = y at *
      generalize (h :: parts).getD k 0 = x at *
      have HE := Lib.hid hy
      clear hy
      have ws : wrap64 ((y - x : Nat) : Int) = ((y - x : Nat) : Int) := by unfold wrap64; omega
      have wd : (x : Int) + ((y - x : Nat) : Int) = (y : Int) := by omega
      have lt : (k : Int) < (parts.length : Int) := by omega
      have q1 : 5 ≤ c - (6 + 5 * k) := by omega
      have q2 : 5 ≤ 506 - 5 * k := by omega
      go_wp2_with fail
      refine RS.out.mono ?_
      rintro e w5 ⟨rfl, rfl⟩
      clear RS
      have R2 : Hid (OwnI (wr.alloc (.cells #[.int .i64 (y : Int)] 3)) w.heap.size (.slice A k c') (parts.take k)) := R.out.alloc _
      have I2 := Lib.hid (ints_one wr y wr.heap.size rfl)
      have H2 := Lib.hid (HH.out.alloc (.cells #[.int .i64 (y : Int)] 3))
      have O2 := Lib.hid (O.out.alloc (.cells #[.int .i64 (y : Int)] 3))
      have SZ : Hid (w.heap.size ≤ (wr.alloc (.cells #[.int .i64 (y : Int)] 3)).heap.size) := O2.out.size
      go_wp2_with (at_builtin; refine wpList_append_ints rfl (.tmp 51) (.tmp 53) rfl w.heap.size _ _ rfl R2.out (some ⟨wr.heap.size, 0, none⟩) 1 1 [y] rfl rfl I2.out (by rw [LK.out]; omega) SZ.out ?_; intro v4 w4 hown4 hg4 hv4; rw [TK.out] at hown4; obtain ⟨A4, c4, rfl, _⟩ := hown4.any; have LK2 : (parts.take (k + 1)).length = k + 1 := (by rw [List.length_take]; omega); rw [LK2] at hown4 ⊢; have R4 := Lib.hid hown4; have H4 : Hid (Held w4 b 61 (blobCs s h sz A k c')) := (hg4.block b H2.out.lt (fun e => absurd ((R2.out.lt b e.symm).1) (Nat.not_le.2 HB.out.lt))).trans H2.out; have O4 : Hid (Only [b] w w4) := O2.out.grown hg4 (fun x hx => .inr (R2.out.lt x hx).1); have e4 : w4.cell? ⟨b, 3, none⟩ = some (.slice A k c') := H4.out.cell 3; have z4 := H4.out.frozen 3; clear hown4 hg4 hv4 LK2)
      have H5 : Hid (Held (w4.setCell ⟨b, 3, none⟩ (.slice A4 (k + 1) c4)) b 61 (blobCs s h sz A4 (k + 1) c4)) := H4.out.set_ 3 _
      have R5 : Hid (OwnI (w4.setCell ⟨b, 3, none⟩ (.slice A4 (k + 1) c4)) w.heap.size (.slice A4 (k + 1) c4) (parts.take (k + 1))) := R4.out.only ((Only.refl [b] _).setCell (p := ⟨b, 3, none⟩) (.inl (by simp)) _) (fun x hx hm => by
        have h1 : x = b := by simpa using hm
        have h2 := (R4.out.lt x hx).1
        have h3 := HB.out.lt
        omega)
      have O5 : Hid (Only [b] w (w4.setCell ⟨b, 3, none⟩ (.slice A4 (k + 1) c4))) := O4.out.setCell (p := ⟨b, 3, none⟩) (.inl (by simp)) _
      go_roundw
      case rel => exact ⟨k + 1, by omega, by go_num, by rw [HE.out], by rw [show 6 + 5 * k + 5 = 6 + 5 * (k + 1) by omega, show 506 - 5 * k - 5 = 506 - 5 * (k + 1) by omega, show c - (6 + 5 * k) - 5 = c - (6 + 5 * (k + 1)) by omega], A4, c4, H5.out, R5.out, O5.out⟩
      case measure => simp [intOf]; omega
    · obtain rfl : k = parts.length := by omega
      have R' := R.out
      rw [List.take_of_length_le (Nat.le_refl _)] at R'
      obtain ⟨A', c'', e', _, hi⟩ := R'.any
      injection e' with e1 _ _
      subst e1
      have I := Lib.hid hi
      have PK := Lib.hid (pack_any wr b s sz h parts A c' HH.out hi HF.out hs)
      have BD : Hid (Bts wr (some ⟨g, 0, none⟩) 512 (packB sz h parts)) := O.out.bts HD.out (fun _ x hx => by injection hx with hx; subst hx; simpa using hne)
      clear hi R'
      go_wp2_with fail
      refine PK.out.mono ?_
      rintro e w5 ⟨v5, rfl, ho5, hb5⟩
      have B5 := Lib.hid hb5
      obtain ⟨A5, c5, rfl, hbt⟩ := ho5.any
      have EQ := Lib.hid (equal_same w5 A5 (some ⟨g, 0, none⟩) _ c5 512 c _ hbt (BD.out.under hb5))
      clear hbt ho5 hb5 PK
      go_wp2_with fail
      refine EQ.out.mono ?_
      rintro e w6 ⟨rfl, rfl⟩
      clear EQ
      go_wp2_with fail
      go_ret
      exact ⟨rfl, A, parts.length, c', rfl, HH.out.below B5.out HH.out.lt, I.out.below B5.out, O.out.under B5.out⟩
end Go.Proofs.Ytlofpbmceipkkaa
