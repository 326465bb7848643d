/-
  P3.1: a batch needs a sector at least; two batches as one need no more than one by one, and no less than each: the law answers true, and its arguments read behind the call as before. Condition: what is read is of bulk at most 1048576 (the bound of the given second form).
-/
import Derived.Test.YtacpgahbfmpiiaaMTxt
import Derived.JoinedCond
namespace Go.Proofs.Ytacpgahbfmpiiaa.walNeeds
open Go.ChangeShapes Go.WideShapes Go.ChangeAt Go.RowKit Wal

theorem own : ownKnob Try.prog.godebug = none := by kernel_rfl
theorem laidOut : laidOutB Try.prog = true := by kernel_rfl

theorem bodyLen_append (a b : List (List Nat)) : bodyLen (a ++ b) = bodyLen a + bodyLen b := by simp [bodyLen]
theorem txts_append (a b : List ByteArray) : txts (a ++ b) = txts a ++ txts b := by simp [txts]

set_option maxRecDepth 100000 in
set_option maxHeartbeats 1000000 in
theorem walk (A0 : Option Addr) (n0 c0 : Nat) (l0 : List ByteArray) (A1 : Option Addr) (n1 c1 : Nat) (l1 : List ByteArray) (w : World) (h0 : Strs w A0 n0 l0) (h1 : Strs w A1 n1 l1) (hn : n0 + n1 ≤ 8796093022208) (hb0 : bodyLen (txts l0) ≤ 4294967296) (hb1 : bodyLen (txts l1) ≤ 4294967296) :
    Calls Try.prog 8 #[.slice A0 n0 c0, .slice A1 n1 c1] w fun e w' => e = .returned (.bool true) ∧ Below w.heap.size w w' := by
  have HB0 := Lib.hid h0
  have HB1 := Lib.hid h1
  have hs : Hid (∀ s ∈ l0 ++ l1, s.size ≤ 4611686018427387904) := fun s hs => by
    rcases List.mem_append.1 hs with hs | hs
    · exact h0.2.1 s hs
    · exact h1.2.1 s hs
  clear h0 h1
  go_enter Try.func8, Try.ntmps8
  go_wp2_with fail
  refine (fixed_any _).mono ?_
  rintro e w1 ⟨rfl, hbel⟩
  have D0 := Lib.hid (HB0.out.below hbel)
  have D1 := Lib.hid (HB1.out.below hbel)
  have BF := Lib.hid hbel
  clear HB0 HB1 hbel
  have N0 := Lib.hid (need_any w1 A0 n0 c0 l0 (by omega) D0.out (by omega))
  have N1 := Lib.hid (need_any w1 A1 n1 c1 l1 (by omega) D1.out (by omega))
  have E3 : need (txts (l0 ++ l1)) = (16 + (bodyLen (txts l0) + bodyLen (txts l1)) + 511) / 512 := by rw [txts_append]; unfold need; rw [bodyLen_append]
  have E1 : need (txts l0) = (16 + bodyLen (txts l0) + 511) / 512 := rfl
  have E2 : need (txts l1) = (16 + bodyLen (txts l1) + 511) / 512 := rfl
  have HL : Hid (bodyLen (txts (l0 ++ l1)) ≤ 4611686018427387904) := by show _ ≤ _; rw [txts_append, bodyLen_append]; omega
  obtain ⟨x, hx⟩ : ∃ x, x = need (txts l0) := ⟨_, rfl⟩
  obtain ⟨y, hy⟩ : ∃ y, y = need (txts l1) := ⟨_, rfl⟩
  obtain ⟨z, hz⟩ : ∃ z, z = need (txts (l0 ++ l1)) := ⟨_, rfl⟩
  have KK : (1 : Int) ≤ (x : Int) ∧ (1 : Int) ≤ (y : Int) ∧ (z : Int) ≤ (x : Int) + y ∧ (x : Int) ≤ z ∧ (y : Int) ≤ z ∧ (x : Int) ≤ 4294967296 ∧ (y : Int) ≤ 4294967296 := by omega
  have EZ := Lib.hid hz
  rw [← hx] at N0
  rw [← hy] at N1
  clear E1 E2 E3 hx hy hz hb0 hb1
  obtain ⟨k1, k2, k3, k4, k5, k6, k7⟩ := KK
  go_wp2_with fail
  refine N0.out.mono ?_
  rintro e w' ⟨rfl, rfl⟩
  go_wp2_with fail
  refine N1.out.mono ?_
  rintro e w' ⟨rfl, rfl⟩
  clear N0 N1
  have B1 := Lib.hid ((Below.refl w1.heap.size w1).alloc (Nat.le_refl _) (.cells #[] 9))
  have HE : Hid ((w1.alloc (.cells #[] 9)).ownsRow w1.heap.size 9 1 (.slice (some ⟨w1.heap.size, 0, none⟩) 0 0) 0 []) := World.ownsRow_made w1 #[] 0 (Nat.le_refl _) (Nat.zero_le _) rfl
  go_wp2_with (first
    | (refine wpList_append_strs rfl (o := ⟨some 16, _, _, _, _, _⟩) (.tmp 14) (.tmp 15) w1.heap.size rfl _ 0 [] rfl HE.out A0 n0 c0 l0 rfl (D0.out.below B1.out) (by omega) (by simp) ?_; intro v2 w2 hown2 hg2 hv2; rw [List.nil_append, Nat.zero_add] at hown2; have O2 := Lib.hid hown2; have B2 := Lib.hid (row_grown HE.out B1.out hg2 (by simp)); clear hown2 hg2 hv2)
    | (refine wpList_append_strs rfl (o := ⟨some 18, _, _, _, _, _⟩) (.tmp 16) (.tmp 17) w1.heap.size rfl _ n0 (strVs l0) rfl O2.out A1 n1 c1 l1 rfl (D1.out.below B2.out) (by omega) B2.out.size ?_; intro v3 w3 hown3 hg3 hv3; rw [← strVs_append] at hown3; have O3 := Lib.hid hown3; have B3 := Lib.hid (row_grown O2.out B2.out hg3 B2.out.size); clear hown3 hg3 hv3))
  obtain ⟨A4, c4, rfl⟩ := own_slice O3.out
  have N2 := Lib.hid (need_any _ A4 (n0 + n1) c4 (l0 ++ l1) (by omega) (strs_row O3.out hs.out) HL.out)
  rw [← EZ.out] at N2
  refine N2.out.mono ?_
  rintro e w' ⟨rfl, rfl⟩
  have BE := Lib.hid (BF.out.trans (B3.out.mono BF.out.size))
  clear O2 O3 B1 B2 B3 HE D0 D1 N2
  go_wp2_with fail
  go_ret
  exact ⟨rfl, BE.out⟩
set_option maxRecDepth 100000 in
theorem opens {H : Type} {enc : TypeId × Value → H} {W : World} {base : Nat} {args : Array Value} {ds : List (DataW H)} {p : List MemPlace}
    (hval : ∀ (j : Nat) t v, Try.f8.params[j]? = some t → args[j]? = some v → Value.okWide Try.prog W .any base t v)
    (hA : DataW.TrodAll enc Try.prog W 0 (fun _ => true) true Try.f8.params.toList args.toList ds p) (hlt : ∀ x ∈ p, x.block < W.heap.size) (hk : Rows.uptoBulkAll ds ≤ 1048576) :
    Calls Try.prog 8 args W fun e W' => e = .returned (.bool true) ∧ Below W.heap.size W W' := by
  rw [Try.params8] at hA hval
  obtain ⟨v0, vs0, d0, ds0, p0, q0, hargs, rfl, rfl, h0, r0⟩ := trodAll_cons hA
  obtain ⟨v1, vs1, d1, ds1, p1, q1, rfl, rfl, rfl, h1, r1⟩ := trodAll_cons r0
  obtain ⟨rfl, rfl, rfl⟩ := trodAll_nil r1
  obtain rfl : args = #[v0, v1] := by cases args; simp_all
  have hk' : Rows.uptoBulk d0 + (Rows.uptoBulk d1 + 0) ≤ 1048576 := hk
  obtain ⟨A0, n0, c0, l0, rfl, hl0, _, _, _, hd0⟩ := open_batch (hval 0 36 v0 rfl rfl) h0 (small_bulk (by omega))
  obtain ⟨A1, n1, c1, l1, rfl, hl1, _, _, _, hd1⟩ := open_batch (hval 1 36 v1 rfl rfl) h1 (small_bulk (by omega))
  have key : ∀ {d : DataW H} {l : List ByteArray} {n : Nat}, l.length = n → Rows.uptoBulk d ≤ 1048576 → ((d = .nil ∧ n = 0) ∨ ∃ spare, d = .slice (l.map fun s => .lit (.string s.data.toList)) spare) → n ≤ 1048576 ∧ bodyLen (txts l) ≤ 4294967296 := by
    intro d l n hl hb hd
    rcases hd with ⟨_, h0⟩ | ⟨sp, rfl⟩
    · subst h0
      have : l = [] := List.eq_nil_of_length_eq_zero hl
      subst this
      exact ⟨by omega, by decide⟩
    · have h2 := bulk_strs (H := H) l
      simp only [Rows.uptoBulk] at hb
      omega
  have k0 := key hl0.1 (by omega) hd0
  have k1 := key hl1.1 (by omega) hd1
  exact walk A0 n0 c0 l0 A1 n1 c1 l1 W hl0 hl1 (by omega) k0.2 k1.2

set_option maxRecDepth 100000 in
theorem lifted (os : Os) (started : os.Started) (H : Type) (enc : TypeId × Value → H) (F : Stop.Interp) :
    ReturnsInHanded {} Try.checked os 8 .any ((Rows.OpenSpec.upto Rows.walNeedsSpec).pre6 enc Try.prog Try.f8 Rows.walNeedsUptoRow.domain false) (((Rows.OpenSpec.upto Rows.walNeedsSpec).at F).post enc Try.prog Try.f8 false true false false) := by
  refine returnsInHanded_of_cond (C := Try.checked) (s := Rows.OpenSpec.upto Rows.walNeedsSpec) (k := Rows.uptoSmall) rfl own started (by kernel_rfl) Try.func8
    (OpenSpec.witness (enc := enc) (C := Try.checked) (s := Rows.OpenSpec.upto Rows.walNeedsSpec) (k := Rows.uptoSmall) rfl false ⟨#[], #[.slice none 0 0, .slice none 0 0], []⟩ 8 (by kernel_rfl) (by kernel_rfl) (by kernel_rfl)
      (x := ([.nil, .nil], [], [])) (by kernel_rfl) rfl (by kernel_rfl)) ?_
  intro W base args ds gs before hval hW _ hk _
  refine law_calls laidOut Try.underlying4 rfl (by rw [Try.params8]; exact of_decide_eq_true (by kernel_rfl)) rfl (fun ds h => by match ds, h with | [_, _], _ => rfl) hW ?_
  obtain ⟨rfl, p, hA, hlt⟩ := law_args rfl hW
  have hb : Rows.uptoBulkAll (ds ++ []) ≤ 1048576 := of_decide_eq_true hk
  rw [List.append_nil] at hb
  exact opens hval hA hlt hb

theorem over : Rows.walNeedsUptoRow.holds Try.pinned (Rows.OpenSpec.upto Rows.walNeedsSpec) :=
  OpenClaim.holds_of_cond 8 Try.f8 rfl rfl rfl rfl rfl rfl rfl ⟨rfl, rfl, rfl, rfl, rfl⟩ rfl rfl rfl rfl rfl (by kernel_rfl) Try.func8 (by kernel_rfl)
    (of_decide_eq_true (by kernel_rfl)) (by unfold Func.isWrapper; first | (rw [if_pos (by decide +kernel)]; kernel_rfl) | (rw [if_neg (by decide +kernel)]; exact ⟨rfl, rfl⟩))
    (fun os started H enc _ F => lifted os started H enc F)

theorem proved : Rows.WalNeedsUptoSaid := over

end Go.Proofs.Ytacpgahbfmpiiaa.walNeeds
