/-
  P1.1: one bit that is turned is always seen: the law answers true for every input, and its arguments read behind the call as before. No condition beside the row's own.
-/
import Derived.Test.YtpkbhchgfcediaaCrcE
import Derived.Test.YtpkbhchgfcediaaBytes
namespace Go.Proofs.Ytpkbhchgfcediaa.crcBits
open Go.ChangeShapes Go.WideShapes Go.ChangeAt Go.RowKit

theorem own : ownKnob Try.prog.godebug = none := by kernel_rfl
theorem laidOut : laidOutB Try.prog = true := by kernel_rfl
theorem cells5 : Try.prog.cellsOf 5 = 1 := by kernel_rfl
theorem bytes5 : Try.prog.bytesOf 5 = 1 := by kernel_rfl
theorem info5 : (Try.prog.info? 5).map (fun i => (i.zero, i.size, i.bytes)) = some (some (.int .u8 0), 1, 1) := by kernel_rfl

theorem byteT : ByteT Try.prog 44 5 := ⟨Try.underlying44, Try.underlying5, cells5, info5⟩

theorem low3 {m : Nat} (hm : m < 4294967296) : ∃ j, j < 8 ∧ bits .and .u32 (m : Int) 7 = ((j : Nat) : Int) :=
  ⟨m % 8, by omega, by rw [show (7 : Int) = ((7 : Nat) : Int) from rfl, u32_and_nat m 7 hm (by omega), nat_mask3]⟩
/-- Of no bytes nothing is asked but what the document fixes. -/
theorem walk_none (A : Option Addr) (c : Nat) (a1 : Int) (w : World) :
    Calls Try.prog 5 #[.slice A 0 c, .int .u32 a1] w fun e w' => e = .returned (.bool true) ∧ Below w.heap.size w w' := by
  go_enter Try.func5, Try.ntmps5
  go_wp2_with fail
  refine (fixed_any _).mono ?_
  rintro e w1 ⟨rfl, hb1⟩
  go_wp2_with fail
  refine (fixed_any _).mono ?_
  rintro e w2 ⟨rfl, hb2⟩
  go_wp2_with fail
  go_ret
  exact ⟨rfl, hb1.trans (hb2.mono hb1.size)⟩

set_option maxHeartbeats 400000 in
theorem walk_some (A : Option Addr) (n c : Nat) (l : List Nat) (a1 : Int) (w : World) (hn : n ≤ 140737488351232) (hn0 : 0 < n) (hb : Bts w A n l) (m : Nat) (ha : a1 = (m : Int)) (hm : m < 4294967296) :
    Calls Try.prog 5 #[.slice A n c, .int .u32 a1] w fun e w' => e = .returned (.bool true) ∧ Below w.heap.size w w' := by
  subst ha
  have h0 : ((n : Int) == 0) = false := by simp; omega
  have hK := Lib.hid (show m / 8 % n < n from Nat.mod_lt _ hn0)
  have hi1 : (0 : Int) ≤ (m : Int) / 8 % (n : Int) := Int.emod_nonneg _ (by omega)
  have hi2 : (m : Int) / 8 % (n : Int) < (n : Int) := Int.emod_lt_of_pos _ (by omega)
  obtain ⟨j, hj, hand⟩ := low3 hm
  go_enter Try.func5, Try.ntmps5
  go_wp2_with fail
  refine (fixed_any _).mono ?_
  rintro e w1 ⟨rfl, hb1⟩
  have HB := Lib.hid (hb.kept hb1)
  clear hb
  have HE := Lib.hid (ownB_new (w := w1) (e := 5) w1.heap.size (Nat.le_refl _) w1.heap.size rfl)
  go_wp2_with (at_builtin; refine wpList_append_bts byteT rfl (.tmp 15) (.tmp 16) rfl w1.heap.size _ [] rfl HE.out A n c l rfl (HB.out.alloc _) (by simp; omega) (by simp) ?_; intro v2 w2 hown hg hv; rw [List.nil_append] at hown; obtain ⟨g, cap, rfl, hg1, hg2, hbt, hfz, hown2⟩ := hown.form' HB.out.1 hn0; clear hown; have hc1 := hbt.cell0 hK.out; have hz1 := hfz (m / 8 % n); have HO := Lib.hid hown2; have HT := Lib.hid hbt; have HF := Lib.hid hfz; have HV := Lib.hid hv; have HG := Lib.hid hg; clear hown2 hbt hfz hv hg; generalize hx : l.getD (m / 8 % n) 0 = x at hc1; have HX := Lib.hid hx; clear hx)
  have hx8 : x < 256 := by
    have h := HO.out.2
    have hk : m / 8 % n < l.length := by rw [HB.out.1]; exact hK.out
    rw [← HX.out, List.getD_eq_getElem?_getD, List.getElem?_eq_getElem hk]
    exact h _ (List.getElem_mem hk)
  obtain ⟨e, hlt, hy0, hy⟩ := flip_byte hx8 hj
  rw [e]
  have hl := HB.out.1
  have b2 : Below w1.heap.size w1 w2 := ((Below.refl _ _).alloc (Nat.le_refl _) _).grown HG.out (by simp) (fun k hk => by have hk2 : some w1.heap.size = some k := hk; injection hk2 with hk2; omega)
  have b3 := b2.setCell (p := ⟨g, m / 8 % n, none⟩) hg1 (u8v (x ^^^ 2 ^ j))
  have hB3 := HB.out.kept b3
  have hO2 := (show OwnB w2 w1.heap.size 5 (.slice (some ⟨g, 0, none⟩) l.length cap) l by rw [hl]; exact HO.out).stored (m / 8 % n) _ hlt
  obtain ⟨g', cap', hv', _, _, hT3, _⟩ := hO2.form' (n := n) (by rw [List.length_set]; exact hl) hn0
  injection hv' with hv1
  injection hv1 with hv1
  injection hv1 with hv1
  subst hv1
  have hne := Crc.sum_set l (m / 8 % n) (2 ^ j) (by rw [hl]; exact hK.out) hy0 (by omega)
  rw [HX.out] at hne
  have bfin : Below w.heap.size w (w2.setCell ⟨g, m / 8 % n, none⟩ (u8v (x ^^^ 2 ^ j))) := hb1.trans (b3.mono hb1.size)
  refine (sum_any _ n cap _ _ (by omega) hT3).mono ?_
  rintro e w4 ⟨rfl, rfl⟩
  clear hO2 b2 b3 hT3
  generalize Crc.sum (l.set (m / 8 % n) (x ^^^ 2 ^ j)) = p at *
  have HN := Lib.hid hne
  have H3 := Lib.hid hB3
  have HL := Lib.hid bfin
  clear hne hB3 bfin hl hlt hy0 hy e
  go_wp2_with fail
  refine (sum_any _ n c l _ (by omega) H3.out).mono ?_
  rintro e w5 ⟨rfl, rfl⟩
  go_wp2_with fail
  go_ret
  exact ⟨congrArg (fun b => Ending.returned (Value.bool b)) (bne_iff_ne.2 fun h => HN.out (Int.ofNat.inj h)), HL.out⟩

theorem opens {H : Type} {enc : TypeId × Value → H} {W : World} {base : Nat} {args : Array Value} {ds : List (DataW H)} {p : List MemPlace}
    (hval : ∀ (j : Nat) t v, Try.f5.params[j]? = some t → args[j]? = some v → Value.okWide Try.prog W .any base t v)
    (hA : DataW.TrodAll enc Try.prog W 0 (fun _ => true) true Try.f5.params.toList args.toList ds p) (hlt : ∀ x ∈ p, x.block < W.heap.size) (hsz : (DataW.weightsEach Try.prog Try.f5.params.toList ds).all (· ≤ reachBytes) = true) :
    Calls Try.prog 5 args W fun e W' => e = .returned (.bool true) ∧ Below W.heap.size W W' := by
  rw [Try.params5] at hA hval hsz
  obtain ⟨v0, vs0, d0, ds0, p0, q0, hargs, rfl, rfl, h0, r0⟩ := trodAll_cons hA
  obtain ⟨v1, vs1, d1, ds1, p1, q1, rfl, rfl, rfl, h1, r1⟩ := trodAll_cons r0
  obtain ⟨rfl, rfl, rfl⟩ := trodAll_nil r1
  obtain rfl : args = #[v0, v1] := by cases args; simp_all
  obtain ⟨A, n, c, l, rfl, hb, hnc, _, hd⟩ := open_bts Try.underlying44 Try.underlying5 cells5 (hval 0 44 v0 rfl rfl) h0
  have hn : n ≤ 140737488351232 := by
    rcases hd with ⟨_, rfl, _⟩ | ⟨el, sp, rfl, h2, h3⟩
    · omega
    · have := sized_slice hsz (j := 0) (t := 44) (e := 5) rfl rfl Try.underlying44
      rw [bytes5] at this
      simp only [reachBytes] at this
      omega
  obtain ⟨a1, rfl, rfl, rfl, w1⟩ := open_int Try.underlying28 (hval 1 28 v1 rfl rfl) h1
  by_cases hn0 : n = 0
  · subst hn0
    exact walk_none A c a1 W
  · have ha : 0 ≤ a1 ∧ a1 ≤ 4294967295 := by simpa [Lit.wf, IntKind.min, IntKind.max, IntKind.signed, IntKind.bits] using w1
    exact walk_some A n c l a1 W hn (by omega) hb a1.toNat (by omega) (by omega)

set_option maxRecDepth 100000 in
theorem lifted (os : Os) (started : os.Started) (H : Type) (enc : TypeId × Value → H) :
    ReturnsInHanded {} Try.checked os 5 .any (Rows.crcBitsSpec.pre6 enc Try.prog Try.f5 Rows.crcBitsRow.domain false) (Rows.crcBitsSpec.post enc Try.prog Try.f5 false true false false) := by
  refine returnsInHanded_of_change_sized (C := Try.checked) own started (by kernel_rfl) Try.func5
    (ChangeSpec.witness6 (enc := enc) (C := Try.checked) false ⟨#[], #[.slice none 0 0, .int .u32 0], []⟩ 8 (by kernel_rfl) (by kernel_rfl) (by kernel_rfl) (by kernel_rfl)) ?_
  intro W base args ds gs before hval hW _ hsz0 _
  refine law_calls laidOut Try.underlying4 rfl (by rw [Try.params5]; exact of_decide_eq_true (by kernel_rfl)) rfl (fun ds h => by match ds, h with | [_, _], _ => rfl) hW ?_
  obtain ⟨rfl, p, hA, hlt⟩ := law_args rfl hW
  have hsz : (DataW.weightsEach Try.prog (Try.f5.params.toList ++ []) (ds ++ [])).all (· ≤ reachBytes) = true := hsz0
  rw [List.append_nil, List.append_nil] at hsz
  exact opens hval hA hlt hsz

theorem over : Rows.crcBitsRow.holds Try.pinned (OpenSpec.ofChange Rows.crcBitsSpec) :=
  OpenClaim.holds_of_wide 5 Try.f5 rfl rfl rfl rfl rfl rfl rfl ⟨rfl, rfl, rfl, rfl, rfl⟩ rfl rfl rfl rfl rfl (by kernel_rfl) Try.func5 (by kernel_rfl)
    (of_decide_eq_true (by kernel_rfl)) (by unfold Func.isWrapper; first | (rw [if_pos (by decide +kernel)]; kernel_rfl) | (rw [if_neg (by decide +kernel)]; exact ⟨rfl, rfl⟩))
    (fun os started H enc _ => lifted os started H enc)

theorem proved : Rows.CrcBitsSaid := over

end Go.Proofs.Ytpkbhchgfcediaa.crcBits
