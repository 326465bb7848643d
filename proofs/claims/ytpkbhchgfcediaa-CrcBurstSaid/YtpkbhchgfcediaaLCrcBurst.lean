/-
  P1.1: whatever happens within 32 bits, one behind the other, is seen: the law answers true for every input, and its arguments read behind the call as before. No condition beside the row's own.
-/
import Derived.Test.YtpkbhchgfcediaaCrcE
import Derived.Test.YtpkbhchgfcediaaBytes
import Derived.Test.YtpkbhchgfcediaaCrcBurst
import Derived.WalkSmall
import Derived.RegionTactic
import Derived.ChangeAlike
import Derived.Deep.QuietTactic
import Derived.BigQuiet
namespace Go.Proofs.Ytpkbhchgfcediaa.crcBurst
open Go.ChangeShapes Go.WideShapes Go.ChangeAt Go.RowKit

theorem own : ownKnob Try.prog.godebug = none := by kernel_rfl
theorem laidOut : laidOutB Try.prog = true := by kernel_rfl
theorem cells5 : Try.prog.cellsOf 5 = 1 := by kernel_rfl
theorem bytes5 : Try.prog.bytesOf 5 = 1 := by kernel_rfl
theorem info5 : (Try.prog.info? 5).map (fun i => (i.zero, i.size, i.bytes)) = some (some (.int .u8 0), 1, 1) := by kernel_rfl
theorem byteT : ByteT Try.prog 44 5 := ⟨Try.underlying44, Try.underlying5, cells5, info5⟩

theorem bit_iff {q : Nat} (hq : q < 4294967296) (k : Nat) : bits .and .u32 ((q : Int) / 2 ^ k) 1 = 1 ↔ q / 2 ^ k % 2 = 1 := by
  have e : (q : Int) / 2 ^ k = ((q / 2 ^ k : Nat) : Int) := by
    rw [Int.natCast_ediv, Int.natCast_pow]
    rfl
  have h : q / 2 ^ k ≤ q := Nat.div_le_self _ _
  rw [e, and_one (by omega)]
  omega
theorem getD_lt {l : List Nat} (h : ∀ x ∈ l, x < 256) (k : Nat) : l.getD k 0 < 256 := by
  rw [List.getD_eq_getElem?_getD]
  rcases Nat.lt_or_ge k l.length with hk | hk
  · rw [List.getElem?_eq_getElem hk]; exact h _ (List.getElem_mem hk)
  · rw [List.getElem?_eq_none hk]; show 0 < 256; omega

theorem burst_law (b q : Nat) (l : List Nat) (hq : q < 4294967296) (u0 : ∀ x ∈ Crc.fl b q l 32, x < 256) (u1 : ∀ x ∈ l, x < 256) :
    ((((Crc.sum (Crc.fl b q l 32) : Nat) : Int) == ((Crc.sum l : Nat) : Int)) == ((strB (Crc.fl b q l 32)).toList == (strB l).toList)) = true := by
  by_cases h : Crc.fl b q l 32 = l
  · rw [h]; simp
  · have h1 : (((Crc.sum (Crc.fl b q l 32) : Nat) : Int) == ((Crc.sum l : Nat) : Int)) = false :=
      beq_eq_false_iff_ne.2 fun e => h ((Crc.sum_fl b q l hq).1 (Int.ofNat.inj e))
    have h2 : ((strB (Crc.fl b q l 32)).toList == (strB l).toList) = false :=
      beq_eq_false_iff_ne.2 fun e => h (strB_inj u0 u1 (WideShapes.bytes_inj (by rwa [ByteArray.toList_eq, ByteArray.toList_eq] at e)))
    rw [h1, h2]
    rfl

set_option maxRecDepth 100000 in
set_option maxHeartbeats 1600000 in
theorem walk (A : Option Addr) (n c : Nat) (l : List Nat) (p q : Nat) (w : World) (hp : p < 4294967296) (hq : q < 4294967296)
    (hn : n ≤ 140737488351232) (hb : Bts w A n l) :
    Calls Try.prog 7 #[.slice A n c, .int .u32 (p : Int), .int .u32 (q : Int)] w fun e w' => e = .returned (.bool true) ∧ Below w.heap.size w w' := by
  have HB := Lib.hid hb
  clear hb
  go_enter Try.func7, Try.ntmps7
  go_wp2_with fail
  refine (fixed_any _).mono ?_
  rintro e w1 ⟨rfl, hbel⟩
  have D := Lib.hid (HB.out.kept hbel)
  clear HB
  have HE := Lib.hid (ownB_new (w := w1) (e := 5) w1.heap.size (Nat.le_refl _) w1.heap.size rfl)
  have B1 := Lib.hid ((Below.refl w1.heap.size w1).alloc (Nat.le_refl _) (.cells #[] 5))
  go_wp2_with (at_builtin; refine wpList_append_bts byteT rfl (.tmp 12) (.tmp 13) rfl w1.heap.size _ [] rfl HE.out A n c l rfl (D.out.alloc _) (by simp; omega) (by simp) ?_; intro v2 w2 hown2 hg2 hv2; rw [List.nil_append] at hown2; have O2 := Lib.hid hown2; have B2 := Lib.hid (HE.out.grown B1.out hg2 (by simp)); clear hown2 hg2 hv2)
  obtain ⟨A2, cap, rfl, hT⟩ := O2.out.any
  have hl : l.length = n := D.out.1
  rw [hl] at O2 ⊢
  have HL := Lib.hid hl
  clear hT hl
  go_loopw [8] (fun i wr => ∃ k : Nat, k ≤ 32 ∧ i = .int .i64 k ∧ OwnB wr w1.heap.size 5 (.slice A2 n cap) (Crc.fl (p % 4000) q l k) ∧ Below w1.heap.size w1 wr) (fun i _ => 32 - (intOf i).toNat)
  case atStart => exact ⟨0, by omega, rfl, O2.out, B2.out⟩
  case round =>
    obtain ⟨k, hk, rfl, hO, hB⟩ := hrel
    have HO := Lib.hid hO
    have HBL := Lib.hid hB
    clear hO hB
    by_cases hlt : k < 32
    · go_wp2_with fail
      · have h1 : bits .and .u32 ((q : Int) / 2 ^ k) 1 = 1 := by assumption
        have h2 : ((p : Int) % 4000 + (k : Int)) / 8 < (n : Int) := by assumption
        have h3 : (p % 4000 + k) / 8 < n := by omega
        have H1 := Lib.hid ((bit_iff hq k).1 h1)
        clear h1
        obtain ⟨g, cap2, hv, hg1, hg2, hT, hF, hO2⟩ := HO.out.form' (n := n) (by rw [Crc.fl_len]; exact HL.out) (by omega)
        injection hv with hv1 hv2 hv3
        subst hv1
        have hx := hT.cell0 h3
        have hf := hF ((p % 4000 + k) / 8)
        have h8 : (Crc.fl (p % 4000) q l k).getD ((p % 4000 + k) / 8) 0 < 256 := getD_lt HO.out.2 _
        have HFL := Lib.hid (show Crc.fl (p % 4000) q l (k + 1) = Crc.turn (Crc.fl (p % 4000) q l k) (p % 4000 + k) by show (if _ then _ else _) = _; rw [if_pos ⟨H1.out, by rw [HL.out]; exact h3⟩])
        clear hT hF hO2
        unfold Crc.turn at HFL
        generalize hz : (Crc.fl (p % 4000) q l k).getD ((p % 4000 + k) / 8) 0 = z at *
        have HZ := Lib.hid hz
        clear hz
        have hi0 : (0 : Int) ≤ ((p : Int) % 4000 + (k : Int)) / 8 := by omega
        clear hv2 hv3
        go_region
        go_wp2
        obtain ⟨ee, hz8, _, _⟩ := flip_byte (j := (p % 4000 + k) % 8) h8 (by omega)
        rw [ee]
        have HS := Lib.hid (HO.out.stored' (by rw [Crc.fl_len]; exact HL.out) ((p % 4000 + k) / 8) _ hz8)
        clear ee hz8
        go_roundw
        case rel => exact ⟨k + 1, by omega, by go_num, by rw [HFL.out]; exact HS.out.drew, (HBL.out.setCell hg1 _).drew⟩
        case measure => simp [intOf]; omega
      · have h2 : (n : Int) ≤ ((p : Int) % 4000 + (k : Int)) / 8 := by assumption
        have HFL : Crc.fl (p % 4000) q l (k + 1) = Crc.fl (p % 4000) q l k := by show (if _ then _ else _) = _; rw [if_neg (by rw [HL.out]; omega)]
        have HFL := Lib.hid HFL
        go_roundw
        case rel => exact ⟨k + 1, by omega, by go_num, by rw [HFL.out]; exact HO.out, HBL.out⟩
        case measure => simp [intOf]; omega
      · have h1 : ¬ bits .and .u32 ((q : Int) / 2 ^ k) 1 = 1 := by assumption
        have HFL : Crc.fl (p % 4000) q l (k + 1) = Crc.fl (p % 4000) q l k := by show (if _ then _ else _) = _; rw [if_neg (fun h => h1 ((bit_iff hq k).2 h.1))]
        have HFL := Lib.hid HFL
        clear h1
        go_roundw
        case rel => exact ⟨k + 1, by omega, by go_num, by rw [HFL.out]; exact HO.out, HBL.out⟩
        case measure => simp [intOf]; omega
    · obtain rfl : k = 32 := by omega
      have G := Lib.hid (D.out.kept HBL.out)
      obtain ⟨A3, cap3, hv, hT⟩ := HO.out.any
      rw [Crc.fl_len, HL.out] at hv hT
      injection hv with hv1 hv2 hv3
      subst hv1
      have T := Lib.hid hT
      have hcv1 := fun k => (T.out.drewN k).toStr byteT Try.underlying9 cap
      have hcv2 := fun k => (G.out.drewN k).toStr byteT Try.underlying9 c
      clear hT hv2 hv3
      have FB : Hid (Below w.heap.size w wr) := hbel.trans (HBL.out.mono hbel.size)
      have FS := Lib.hid (burst_law (p % 4000) q l hq T.out.2.1 G.out.2.1)
      generalize Crc.fl (p % 4000) q l 32 = m at *
      go_wp2_with fail
      go_quiet (first
        | (go_at_call_of 10 (Value.slice A2 n cap); exact Calls.quiet_of_same ((sum_any _ _ _ m _ (by omega) (T.out.drewN _)).mono fun _ _ h => ⟨h.1, h.2.symm⟩))
        | (go_at_call 10; exact Calls.quiet_of_same ((sum_any _ _ _ l _ (by omega) (G.out.drewN _)).mono fun _ _ h => ⟨h.1, h.2.symm⟩)))
      go_wp2
      go_ret
      exact ⟨congrArg (fun b => Ending.returned (Value.bool b)) FS.out, below_drewN FB.out _⟩

theorem opens {H : Type} {enc : TypeId × Value → H} {W : World} {base : Nat} {args : Array Value} {ds : List (DataW H)} {p : List MemPlace}
    (hval : ∀ (j : Nat) t v, Try.f7.params[j]? = some t → args[j]? = some v → Value.okWide Try.prog W .any base t v)
    (hA : DataW.TrodAll enc Try.prog W 0 (fun _ => true) true Try.f7.params.toList args.toList ds p) (hlt : ∀ x ∈ p, x.block < W.heap.size) (hsz : (DataW.weightsEach Try.prog Try.f7.params.toList ds).all (· ≤ reachBytes) = true) :
    Calls Try.prog 7 args W fun e W' => e = .returned (.bool true) ∧ Below W.heap.size W W' := by
  rw [Try.params7] at hA hval hsz
  obtain ⟨v0, vs0, d0, ds0, p0, q0, hargs, rfl, rfl, h0, r0⟩ := trodAll_cons hA
  obtain ⟨v1, vs1, d1, ds1, p1, q1, rfl, rfl, rfl, h1, r1⟩ := trodAll_cons r0
  obtain ⟨v2, vs2, d2, ds2, p2, q2, rfl, rfl, rfl, h2, r2⟩ := trodAll_cons r1
  obtain ⟨rfl, rfl, rfl⟩ := trodAll_nil r2
  obtain rfl : args = #[v0, v1, v2] := by cases args; simp_all
  obtain ⟨A0, n0, c0, l0, rfl, hb0, hc0, _, hd0⟩ := open_bts Try.underlying44 Try.underlying5 cells5 (hval 0 44 v0 rfl rfl) h0
  have g0 : n0 ≤ 140737488351232 := by
    rcases hd0 with ⟨_, rfl, _⟩ | ⟨el, sp, rfl, h2, h3⟩
    · omega
    · have := sized_slice hsz (j := 0) (t := 44) (e := 5) rfl rfl Try.underlying44
      rw [bytes5] at this
      simp only [reachBytes] at this
      omega
  obtain ⟨a1, rfl, rfl, rfl, w1⟩ := open_int Try.underlying28 (hval 1 28 v1 rfl rfl) h1
  obtain ⟨a2, rfl, rfl, rfl, w2⟩ := open_int Try.underlying28 (hval 2 28 v2 rfl rfl) h2
  have e1 : 0 ≤ a1 ∧ a1 ≤ 4294967295 := by simpa [Lit.wf, IntKind.min, IntKind.max, IntKind.signed, IntKind.bits] using w1
  have e2 : 0 ≤ a2 ∧ a2 ≤ 4294967295 := by simpa [Lit.wf, IntKind.min, IntKind.max, IntKind.signed, IntKind.bits] using w2
  obtain ⟨p, rfl⟩ := Int.eq_ofNat_of_zero_le e1.1
  obtain ⟨q, rfl⟩ := Int.eq_ofNat_of_zero_le e2.1
  exact walk A0 n0 c0 l0 p q W (by omega) (by omega) g0 hb0

set_option maxRecDepth 100000 in
theorem lifted (os : Os) (started : os.Started) (H : Type) (enc : TypeId × Value → H) :
    ReturnsInHanded {} Try.checked os 7 .any (Rows.crcBurstSpec.pre6 enc Try.prog Try.f7 Rows.crcBurstRow.domain false) (Rows.crcBurstSpec.post enc Try.prog Try.f7 false true false false) := by
  refine returnsInHanded_of_change_sized (C := Try.checked) own started (by kernel_rfl) Try.func7
    (ChangeSpec.witness6 (enc := enc) (C := Try.checked) false ⟨#[], #[.slice none 0 0, .int .u32 0, .int .u32 0], []⟩ 8 (by kernel_rfl) (by kernel_rfl) (by kernel_rfl) (by kernel_rfl)) ?_
  intro W base args ds gs before hval hW _ hsz0 _
  refine law_calls laidOut Try.underlying4 rfl (by rw [Try.params7]; exact of_decide_eq_true (by kernel_rfl)) rfl (fun ds h => by match ds, h with | [_, _, _], _ => rfl) hW ?_
  obtain ⟨rfl, p, hA, hlt⟩ := law_args rfl hW
  have hsz : (DataW.weightsEach Try.prog (Try.f7.params.toList ++ []) (ds ++ [])).all (· ≤ reachBytes) = true := hsz0
  rw [List.append_nil, List.append_nil] at hsz
  exact opens hval hA hlt hsz

theorem over : Rows.crcBurstRow.holds Try.pinned (OpenSpec.ofChange Rows.crcBurstSpec) :=
  OpenClaim.holds_of_wide 7 Try.f7 rfl rfl rfl rfl rfl rfl rfl ⟨rfl, rfl, rfl, rfl, rfl⟩ rfl rfl rfl rfl rfl (by kernel_rfl) Try.func7 (by kernel_rfl)
    (of_decide_eq_true (by kernel_rfl)) (by unfold Func.isWrapper; first | (rw [if_pos (by decide +kernel)]; kernel_rfl) | (rw [if_neg (by decide +kernel)]; exact ⟨rfl, rfl⟩))
    (fun os started H enc _ => lifted os started H enc)

theorem proved : Rows.CrcBurstSaid := over

end Go.Proofs.Ytpkbhchgfcediaa.crcBurst
