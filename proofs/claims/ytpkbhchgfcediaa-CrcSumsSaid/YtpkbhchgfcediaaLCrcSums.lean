/-
  P1.1, P1.2: Sum is the definition's, by bits and by the table, whatever was summed before; each call counts: the law answers true for every input, and its arguments read behind the call as before. No condition beside the row's own.
-/
import Derived.Test.YtpkbhchgfcediaaCrcE
import Derived.Test.YtpkbhchgfcediaaBytes
import Derived.Deep.Matrix
namespace Go.Proofs.Ytpkbhchgfcediaa.crcSums
open Go.ChangeShapes Go.WideShapes Go.ChangeAt Go.RowKit

theorem own : ownKnob Try.prog.godebug = none := by kernel_rfl
theorem laidOut : laidOutB Try.prog = true := by kernel_rfl
theorem cells5 : Try.prog.cellsOf 5 = 1 := by kernel_rfl
theorem cells44 : Try.prog.cellsOf 44 = 1 := by kernel_rfl
theorem bytes44 : Try.prog.bytesOf 44 = 24 := by kernel_rfl

/-- A slice of slices of bytes: what its i-th cell holds, and the bytes there. -/
def Rowsb (w : World) (A : Option Addr) (n : Nat) (R : Nat → Option Addr) (N C : Nat → Nat) (L : Nat → List Nat) : Prop :=
  0 < n → ∃ b off, A = some ⟨b, off, none⟩ ∧ b < w.heap.size ∧ ∀ i, i < n → w.cell? ⟨b, off + i, none⟩ = some (.slice (R i) (N i) (C i)) ∧ Bts w (R i) (N i) (L i) ∧ N i ≤ 9223372036854775807

theorem Rowsb.kept {w w' : World} {A : Option Addr} {n : Nat} {R : Nat → Option Addr} {N C : Nat → Nat} {L : Nat → List Nat} (h : Rowsb w A n R N C L) (hb : Below w.heap.size w w') : Rowsb w' A n R N C L := fun hn => by
  obtain ⟨b, off, e, hl, hc⟩ := h hn
  exact ⟨b, off, e, Nat.lt_of_lt_of_le hl hb.size, fun i hi => ⟨(hb.cell (p := ⟨b, off + i, none⟩) hl).trans (hc i hi).1, (hc i hi).2.1.kept hb, (hc i hi).2.2⟩⟩


set_option maxRecDepth 100000 in
set_option maxHeartbeats 1600000 in
theorem walk (A : Option Addr) (n c : Nat) (R : Nat → Option Addr) (N C : Nat → Nat) (L : Nat → List Nat) (w : World) (hn : n ≤ 140737488351232) (hr : Rowsb w A n R N C L) :
    Calls Try.prog 3 #[.slice A n c] w fun e w' => e = .returned (.bool true) ∧ Below w.heap.size w w' := by
  have HR := Lib.hid hr
  clear hr
  have hz := zero_tab
  have hx := box_tab
  have kc := conv_new
  go_enter Try.func3, Try.ntmps3
  go_wp2_with fail
  refine (fixed_any _).mono ?_
  rintro e w1 ⟨rfl, hbel⟩
  have D := Lib.hid (HR.out.kept hbel)
  clear HR
  go_wp2_with fail
  go_loopw [4] (fun i wr => ∃ k : Nat, k ≤ n ∧ i = .int .i64 k ∧ Fit wr w1.heap.size k ∧ Below w1.heap.size w1 wr) (fun i _ => n - (intOf i).toNat)
  case atStart => exact ⟨0, by omega, rfl, .inl ⟨_, tab_new w1⟩, (Below.refl _ _).alloc (Nat.le_refl _) _⟩
  case round =>
    obtain ⟨k, hk, rfl, hF, hB⟩ := hrel
    have HF := Lib.hid hF
    have HBL := Lib.hid hB
    by_cases hlt : k < n
    · obtain ⟨b, off, rfl, hbl, hcell⟩ := D.out.kept hB (by omega)
      obtain ⟨hc, hT, hN⟩ := hcell k hlt
      have T := Lib.hid hT
      have hne : 0 < N k → ∀ x, R k = some x → x.block ≠ w1.heap.size := by
        intro hp x hx2
        obtain ⟨b2, off2, e2, _, hc2⟩ := D.out (by omega)
        obtain ⟨b3, off3, e3, hl3, _⟩ := (hc2 k hlt).2.1.2.2 hp
        rw [e3] at hx2
        injection hx2 with hx2
        subst hx2
        exact Nat.ne_of_lt hl3
      have HNE := Lib.hid hne
      clear hcell hT hF hB hne
      generalize R k = Rk at *
      generalize N k = Nk at *
      generalize C k = Ck at *
      generalize L k = Lk at *
      go_wp2_with fail
      refine (ref_any _ _ _ Lk _ hN T.out).mono ?_
      rintro e w2 ⟨rfl, rfl⟩
      go_wp2_with fail
      refine (sum_any _ _ _ Lk _ hN T.out).mono ?_
      rintro e w2 ⟨rfl, rfl⟩
      go_wp2_with fail
      refine (tab_sum w1.heap.size (k : Int) (by omega) (by omega) _ _ _ Lk _ hN T.out HNE.out HF.out).mono ?_
      rintro e w2 ⟨rfl, hF2, hO⟩
      have HF2 := Lib.hid hF2
      have HB2 : Hid (Below w1.heap.size w1 w2) := HBL.out.trans (hO.below (Nat.le_refl _))
      clear hF2 hO
      go_wp2_with fail
      refine (tab_calls w1.heap.size ((k : Int) + 1) _ HF2.out.cn).mono ?_
      rintro e w3 ⟨rfl, rfl⟩
      go_wp2_with fail
      go_roundw
      case rel => exact ⟨k + 1, by omega, by go_num, HF2.out, HB2.out⟩
      case measure => simp [intOf]; omega
    · obtain rfl : k = n := by omega
      have FB : Hid (Below w.heap.size w wr) := hbel.trans (hB.mono hbel.size)
      clear hF hB
      go_wp2_with fail
      refine (nil_calls _).mono ?_
      rintro e w2 ⟨rfl, rfl⟩
      go_wp2_with fail
      have e1 : Crc.sum [49, 50, 51, 52, 53, 54, 55, 56, 57] = 3808858755 := by decide +kernel
      refine (nil_sum _ 9 _ [49, 50, 51, 52, 53, 54, 55, 56, 57] _ (by omega) (bts_new _ _ (by decide) _ rfl _ (by simp) _ _ _ (by simp))).mono ?_
      rintro e w2 ⟨rfl, rfl⟩
      rw [e1]
      clear e1
      go_wp2_with fail
      go_ret
      exact ⟨rfl, FB.out.alloc FB.out.size _⟩

theorem each_bts {W : World} {R : Option Addr} {c n : Nat} {zs : List Int} (hn : n ≤ c) (hz : zs.length = c) (hw : ∀ x ∈ zs, (Lit.int .u8 x).wf = true) (hnil : R = none → c = 0)
    (hc : ∀ a, R = some a → ∀ i, i < c → W.cell? (a.add i) = some (.int .u8 (zs.getD i 0))) : Bts W R n ((zs.take n).map Int.toNat) := by
  refine ⟨by simp; omega, fun y hy => ?_, fun hp => ?_⟩
  · obtain ⟨z, hz', rfl⟩ := List.mem_map.1 hy
    exact (u8_nat (hw z (List.mem_of_mem_take hz'))).2
  · cases hR : R with
    | none => have := hnil hR; omega
    | some x =>
      obtain ⟨b, off, spot⟩ := x
      have h0 := hc _ hR 0 (by omega)
      have hspot : spot = none := by simpa [Addr.add] using World.cell?_spot h0
      subst hspot
      refine ⟨b, off, rfl, by simpa [Addr.add] using block_lt h0, fun i hi => ?_⟩
      have h1 := hc _ hR i (by omega)
      have hi' : i < zs.length := by omega
      have h2 : zs.getD i 0 = zs[i] := by simp [List.getD_eq_getElem?_getD, List.getElem?_eq_getElem hi']
      rw [h2, add_plain] at h1
      have h3 := (u8_nat (hw _ (List.getElem_mem hi'))).1
      have h4 : (((zs.take n).map Int.toNat).getD i 0) = (zs[i]).toNat := by
        simp [List.getD_eq_getElem?_getD, hi, List.getElem?_eq_getElem hi']
      rw [h4, h3]
      exact h1

theorem opens {H : Type} {enc : TypeId × Value → H} {W : World} {base : Nat} {args : Array Value} {ds : List (DataW H)} {p : List MemPlace}
    (hval : ∀ (j : Nat) t v, Try.f3.params[j]? = some t → args[j]? = some v → Value.okWide Try.prog W .any base t v)
    (hA : DataW.TrodAll enc Try.prog W 0 (fun _ => true) true Try.f3.params.toList args.toList ds p) (hlt : ∀ x ∈ p, x.block < W.heap.size) (hsz : (DataW.weightsEach Try.prog Try.f3.params.toList ds).all (· ≤ reachBytes) = true) :
    Calls Try.prog 3 args W fun e W' => e = .returned (.bool true) ∧ Below W.heap.size W W' := by
  rw [Try.params3] at hA hval hsz
  obtain ⟨v0, vs0, d0, ds0, p0, q0, hargs, rfl, rfl, h0, r0⟩ := trodAll_cons hA
  obtain ⟨rfl, rfl, rfl⟩ := trodAll_nil r0
  obtain rfl : args = #[v0] := by cases args; simp_all
  obtain ⟨A0, n0, c0, rfl⟩ := okWide_slice Try.underlying22 (hval 0 22 v0 rfl rfl)
  obtain ⟨fuel, hf⟩ := h0
  rcases Deep.open_int_rows Try.underlying22 Try.underlying44 Try.underlying5 cells44 cells5 hf with ⟨hcs, hx⟩ | ⟨a, len, cap, R, N, C, Z, hcs, _, hl, hm, hx, hrow⟩
  · simp [Value.cells] at hcs
    obtain ⟨rfl, rfl, rfl⟩ := hcs
    exact walk none 0 0 (fun _ => none) (fun _ => 0) (fun _ => 0) (fun _ => []) W (by omega) (fun h => by omega)
  · simp [Value.cells] at hcs
    obtain ⟨rfl, rfl, rfl⟩ := hcs
    simp only [Prod.mk.injEq] at hx
    obtain ⟨rfl, _⟩ := hx
    have g0 : n0 ≤ 140737488351232 := by
      have := sized_slice hsz (j := 0) (t := 22) (e := 44) rfl rfl Try.underlying22
      rw [bytes44] at this
      simp only [List.length_map, List.length_range, reachBytes] at this
      omega
    refine walk (some a) n0 c0 R N C (fun i => ((Z i).take (N i)).map Int.toNat) W g0 (fun hp => ?_)
    obtain ⟨b, off, spot⟩ := a
    have h1 := (hrow 0 (by omega)).1
    have hspot : spot = none := by simpa [Addr.add] using World.cell?_spot h1
    subst hspot
    refine ⟨b, off, rfl, by simpa [Addr.add] using block_lt h1, fun i hi => ?_⟩
    obtain ⟨k1, k2, k3, k4, k5, k6, k7⟩ := hrow i (by omega)
    refine ⟨by rw [← add_plain]; exact k1, each_bts k2 k4 k5 k6 (fun a' h' => (k7 a' h').2), ?_⟩
    unfold maxLen at k3
    omega

set_option maxRecDepth 100000 in
theorem lifted (os : Os) (started : os.Started) (H : Type) (enc : TypeId × Value → H) :
    ReturnsInHanded {} Try.checked os 3 .any (Rows.crcSumsSpec.pre6 enc Try.prog Try.f3 Rows.crcSumsRow.domain false) (Rows.crcSumsSpec.post enc Try.prog Try.f3 false true false false) := by
  refine returnsInHanded_of_change_sized (C := Try.checked) own started (by kernel_rfl) Try.func3
    (ChangeSpec.witness6 (enc := enc) (C := Try.checked) false ⟨#[], #[.slice none 0 0], []⟩ 8 (by kernel_rfl) (by kernel_rfl) (by kernel_rfl) (by kernel_rfl)) ?_
  intro W base args ds gs before hval hW _ hsz0 _
  refine law_calls laidOut Try.underlying4 rfl (by rw [Try.params3]; exact of_decide_eq_true (by kernel_rfl)) rfl (fun ds h => by match ds, h with | [_], _ => rfl) hW ?_
  obtain ⟨rfl, p, hA, hlt⟩ := law_args rfl hW
  have hsz : (DataW.weightsEach Try.prog (Try.f3.params.toList ++ []) (ds ++ [])).all (· ≤ reachBytes) = true := hsz0
  rw [List.append_nil, List.append_nil] at hsz
  exact opens hval hA hlt hsz

theorem over : Rows.crcSumsRow.holds Try.pinned (OpenSpec.ofChange Rows.crcSumsSpec) :=
  OpenClaim.holds_of_wide 3 Try.f3 rfl rfl rfl rfl rfl rfl rfl ⟨rfl, rfl, rfl, rfl, rfl⟩ rfl rfl rfl rfl rfl (by kernel_rfl) Try.func3 (by kernel_rfl)
    (of_decide_eq_true (by kernel_rfl)) (by unfold Func.isWrapper; first | (rw [if_pos (by decide +kernel)]; kernel_rfl) | (rw [if_neg (by decide +kernel)]; exact ⟨rfl, rfl⟩))
    (fun os started H enc _ => lifted os started H enc)

theorem proved : Rows.CrcSumsSaid := over

end Go.Proofs.Ytpkbhchgfcediaa.crcSums
