/-
  P1.1: bytes cut anywhere, summed piece by piece, have the sum of the whole: the law answers true, and its arguments read behind the call as before. Condition: what is read is of bulk at most 1048576 (the bound of the given second form).
-/
import Derived.Test.YtpkbhchgfcediaaCrcE
import Derived.Test.YtpkbhchgfcediaaBytes
import Derived.Test.YtpkbhchgfcediaaBulk
import Derived.JoinedCond
namespace Go.Proofs.Ytpkbhchgfcediaa.crcParts
open Go.ChangeShapes Go.WideShapes Go.ChangeAt Go.RowKit

theorem own : ownKnob Try.prog.godebug = none := by kernel_rfl
theorem laidOut : laidOutB Try.prog = true := by kernel_rfl
theorem cells5 : Try.prog.cellsOf 5 = 1 := by kernel_rfl
theorem info5 : (Try.prog.info? 5).map (fun i => (i.zero, i.size, i.bytes)) = some (some (.int .u8 0), 1, 1) := by kernel_rfl
theorem byteT : ByteT Try.prog 44 5 := ⟨Try.underlying44, Try.underlying5, cells5, info5⟩

theorem bts_nil (w : World) : Bts w none 0 [] := ⟨rfl, by simp, fun h => by omega⟩

set_option maxHeartbeats 800000 in
theorem walk (A0 : Option Addr) (n0 c0 : Nat) (l0 : List Nat) (A1 : Option Addr) (n1 c1 : Nat) (l1 : List Nat) (A2 : Option Addr) (n2 c2 : Nat) (l2 : List Nat) (w : World)
    (hn : n0 + n1 + n2 ≤ 1048576) (hb0 : Bts w A0 n0 l0) (hb1 : Bts w A1 n1 l1) (hb2 : Bts w A2 n2 l2) :
    Calls Try.prog 4 #[.slice A0 n0 c0, .slice A1 n1 c1, .slice A2 n2 c2] w fun e w' => e = .returned (.bool true) ∧ Below w.heap.size w w' := by
  have E0 := Lib.hid hb0.1
  have E1 := Lib.hid hb1.1
  have E2 := Lib.hid hb2.1
  have HB0 := Lib.hid hb0
  have HB1 := Lib.hid hb1
  have HB2 := Lib.hid hb2
  clear hb0 hb1 hb2
  go_enter Try.func4, Try.ntmps4
  go_wp2_with fail
  refine (fixed_any _).mono ?_
  rintro e w1 ⟨rfl, hbel⟩
  have D0 := Lib.hid (HB0.out.kept hbel)
  have D1 := Lib.hid (HB1.out.kept hbel)
  have D2 := Lib.hid (HB2.out.kept hbel)
  have HE := Lib.hid (ownB_new (w := w1) (e := 5) w1.heap.size (Nat.le_refl _) w1.heap.size rfl)
  have B1 := Lib.hid ((Below.refl w1.heap.size w1).alloc (Nat.le_refl _) (.cells #[] 5))
  clear HB0 HB1 HB2
  go_wp2_with (first
    | (at_builtin; refine wpList_append_bts byteT rfl (.tmp 10) (.tmp 11) rfl w1.heap.size _ [] rfl HE.out A0 n0 c0 l0 rfl (D0.out.alloc _) (by simp; omega) (by simp) ?_; intro v2 w2 hown2 hg2 hv2; rw [List.nil_append] at hown2; have O2 := Lib.hid hown2; have B2 := Lib.hid (HE.out.grown B1.out hg2 (by simp)); clear hown2 hg2 hv2)
    | (at_builtin; refine wpList_append_bts byteT rfl (.tmp 12) (.tmp 13) rfl w1.heap.size _ l0 rfl O2.out A1 n1 c1 l1 rfl (D1.out.kept B2.out) (by rw [E0.out]; omega) B2.out.size ?_; intro v3 w3 hown3 hg3 hv3; have O3 := Lib.hid hown3; have B3 := Lib.hid (O2.out.grown B2.out hg3 B2.out.size); clear hown3 hg3 hv3)
    | (at_builtin; refine wpList_append_bts byteT rfl (.tmp 14) (.tmp 15) rfl w1.heap.size _ (l0 ++ l1) rfl O3.out A2 n2 c2 l2 rfl (D2.out.kept B3.out) (by rw [List.length_append, E0.out, E1.out]; omega) B3.out.size ?_; intro v4 w4 hown4 hg4 hv4; have O4 := Lib.hid hown4; have B4 := Lib.hid (O3.out.grown B3.out hg4 B3.out.size); clear hown4 hg4 hv4))
  obtain ⟨A4, c4, rfl, hT⟩ := O4.out.any
  have hlen : (l0 ++ l1 ++ l2).length = n0 + n1 + n2 := by rw [List.length_append, List.length_append, E0.out, E1.out, E2.out]
  rw [hlen] at hT ⊢
  have T4 := Lib.hid hT
  have G0 := Lib.hid (D0.out.kept B4.out)
  have G1 := Lib.hid (D1.out.kept B4.out)
  have G2 := Lib.hid (D2.out.kept B4.out)
  have BF := Lib.hid (hbel.trans (B4.out.mono hbel.size))
  have q0 : Crc.sum l0 < 4294967296 := Crc.sum_lt D0.out.2.1
  have q1 : Crc.upd (Crc.sum l0) l1 < 4294967296 := Crc.upd_lt q0 D1.out.2.1
  have U1 := Lib.hid (show Crc.upd (Crc.upd (Crc.sum l0) l1) l2 = Crc.sum (l0 ++ l1 ++ l2) by unfold Crc.sum; rw [Crc.upd_append, Crc.upd_append, List.append_assoc])
  have U2 := Lib.hid (show Crc.upd (Crc.sum l0) [] = Crc.sum l0 from Crc.upd_nil _)
  have U3 := Lib.hid (show Crc.upd 0 l0 = Crc.sum l0 from rfl)
  clear hT hlen hbel
  have S4 : Hid (∀ w A c n (_ : n ≤ 9223372036854775807) (_ : Bts w A n (l0 ++ l1 ++ l2)), Calls Try.prog 10 #[.slice A n c] w fun e w' => e = .returned (.int .u32 ((Crc.sum (l0 ++ l1 ++ l2) : Nat) : Int)) ∧ w = w') := fun w A c n hn hb => sum_any A n c _ w hn hb
  generalize Crc.sum (l0 ++ l1 ++ l2) = z at *
  have S1 : Hid (∀ w A c n (_ : n ≤ 9223372036854775807) (_ : Bts w A n l0), Calls Try.prog 10 #[.slice A n c] w fun e w' => e = .returned (.int .u32 ((Crc.sum l0 : Nat) : Int)) ∧ w = w') := fun w A c n hn hb => sum_any A n c l0 w hn hb
  generalize Crc.sum l0 = p0 at *
  refine (S1.out _ A0 c0 n0 (by omega) G0.out).mono ?_
  rintro e w5 ⟨rfl, rfl⟩
  go_wp2_with fail
  refine (update_any _ (by omega) (by omega) A1 n1 c1 l1 _ (by omega) G1.out).mono ?_
  rintro e w5 ⟨rfl, rfl⟩
  rw [Int.toNat_natCast]
  generalize Crc.upd p0 l1 = p1 at *
  go_wp2_with fail
  refine (update_any _ (by omega) (by omega) A2 n2 c2 l2 _ (by omega) G2.out).mono ?_
  rintro e w5 ⟨rfl, rfl⟩
  rw [Int.toNat_natCast, U1.out]
  go_wp2_with fail
  refine (S4.out _ A4 c4 _ (by omega) T4.out).mono ?_
  rintro e w5 ⟨rfl, rfl⟩
  go_wp2_with fail
  refine (S1.out _ A0 c0 n0 (by omega) G0.out).mono ?_
  rintro e w5 ⟨rfl, rfl⟩
  go_wp2_with fail
  refine (update_any _ (by omega) (by omega) none 0 0 [] _ (by omega) (bts_nil _)).mono ?_
  rintro e w5 ⟨rfl, rfl⟩
  rw [Int.toNat_natCast, U2.out]
  go_wp2_with fail
  refine (S1.out _ A0 c0 n0 (by omega) G0.out).mono ?_
  rintro e w5 ⟨rfl, rfl⟩
  go_wp2_with fail
  refine (update_any 0 (by omega) (by omega) A0 n0 c0 l0 _ (by omega) G0.out).mono ?_
  rintro e w5 ⟨rfl, rfl⟩
  rw [show (0 : Int).toNat = 0 from rfl, U3.out]
  go_wp2_with fail
  refine (S1.out _ A0 c0 n0 (by omega) G0.out).mono ?_
  rintro e w5 ⟨rfl, rfl⟩
  go_wp2_with fail
  go_ret
  exact ⟨rfl, BF.out⟩
theorem opens {H : Type} {enc : TypeId × Value → H} {W : World} {base : Nat} {args : Array Value} {ds : List (DataW H)} {p : List MemPlace}
    (hval : ∀ (j : Nat) t v, Try.f4.params[j]? = some t → args[j]? = some v → Value.okWide Try.prog W .any base t v)
    (hA : DataW.TrodAll enc Try.prog W 0 (fun _ => true) true Try.f4.params.toList args.toList ds p) (hlt : ∀ x ∈ p, x.block < W.heap.size) (hk : Rows.uptoBulkAll ds ≤ 1048576) :
    Calls Try.prog 4 args W fun e W' => e = .returned (.bool true) ∧ Below W.heap.size W W' := by
  rw [Try.params4] at hA hval
  obtain ⟨v0, vs0, d0, ds0, p0, q0, hargs, rfl, rfl, h0, r0⟩ := trodAll_cons hA
  obtain ⟨v1, vs1, d1, ds1, p1, q1, rfl, rfl, rfl, h1, r1⟩ := trodAll_cons r0
  obtain ⟨v2, vs2, d2, ds2, p2, q2, rfl, rfl, rfl, h2, r2⟩ := trodAll_cons r1
  obtain ⟨rfl, rfl, rfl⟩ := trodAll_nil r2
  obtain rfl : args = #[v0, v1, v2] := by cases args; simp_all
  obtain ⟨A0, n0, c0, l0, rfl, hb0, _, _, hd0⟩ := open_bts Try.underlying44 Try.underlying5 cells5 (hval 0 44 v0 rfl rfl) h0
  obtain ⟨A1, n1, c1, l1, rfl, hb1, _, _, hd1⟩ := open_bts Try.underlying44 Try.underlying5 cells5 (hval 1 44 v1 rfl rfl) h1
  obtain ⟨A2, n2, c2, l2, rfl, hb2, _, _, hd2⟩ := open_bts Try.underlying44 Try.underlying5 cells5 (hval 2 44 v2 rfl rfl) h2
  have g0 := bulk_of_bytes hd0
  have g1 := bulk_of_bytes hd1
  have g2 := bulk_of_bytes hd2
  simp only [Rows.uptoBulkAll] at hk
  exact walk A0 n0 c0 l0 A1 n1 c1 l1 A2 n2 c2 l2 W (by omega) hb0 hb1 hb2

set_option maxRecDepth 100000 in
theorem lifted (os : Os) (started : os.Started) (H : Type) (enc : TypeId × Value → H) (F : Stop.Interp) :
    ReturnsInHanded {} Try.checked os 4 .any ((Rows.OpenSpec.upto Rows.crcPartsSpec).pre6 enc Try.prog Try.f4 Rows.crcPartsUptoRow.domain false) (((Rows.OpenSpec.upto Rows.crcPartsSpec).at F).post enc Try.prog Try.f4 false true false false) := by
  refine returnsInHanded_of_cond (C := Try.checked) (s := Rows.OpenSpec.upto Rows.crcPartsSpec) (k := Rows.uptoSmall) rfl own started (by kernel_rfl) Try.func4
    (OpenSpec.witness (enc := enc) (C := Try.checked) (s := Rows.OpenSpec.upto Rows.crcPartsSpec) (k := Rows.uptoSmall) rfl false ⟨#[], #[.slice none 0 0, .slice none 0 0, .slice none 0 0], []⟩ 8 (by kernel_rfl) (by kernel_rfl) (by kernel_rfl)
      (x := ([.nil, .nil, .nil], [], [])) (by kernel_rfl) rfl (by kernel_rfl)) ?_
  intro W base args ds gs before hval hW _ hk _
  refine law_calls laidOut Try.underlying4 rfl (by rw [Try.params4]; exact of_decide_eq_true (by kernel_rfl)) rfl (fun ds h => by match ds, h with | [_, _, _], _ => rfl) hW ?_
  obtain ⟨rfl, p, hA, hlt⟩ := law_args rfl hW
  have hb : Rows.uptoBulkAll (ds ++ []) ≤ 1048576 := of_decide_eq_true hk
  rw [List.append_nil] at hb
  exact opens hval hA hlt hb

theorem over : Rows.crcPartsUptoRow.holds Try.pinned (Rows.OpenSpec.upto Rows.crcPartsSpec) :=
  OpenClaim.holds_of_cond 4 Try.f4 rfl rfl rfl rfl rfl rfl rfl ⟨rfl, rfl, rfl, rfl, rfl⟩ rfl rfl rfl rfl rfl (by kernel_rfl) Try.func4 (by kernel_rfl)
    (of_decide_eq_true (by kernel_rfl)) (by unfold Func.isWrapper; first | (rw [if_pos (by decide +kernel)]; kernel_rfl) | (rw [if_neg (by decide +kernel)]; exact ⟨rfl, rfl⟩))
    (fun os started H enc _ F => lifted os started H enc F)

theorem proved : Rows.CrcPartsUptoSaid := over

end Go.Proofs.Ytpkbhchgfcediaa.crcParts
