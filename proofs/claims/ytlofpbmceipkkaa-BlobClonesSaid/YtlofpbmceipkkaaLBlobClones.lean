/-
  P7.3: a copy has the text, and blocks of its own: the law answers true for every input, and its arguments read behind the call as before. No condition beside the row's own.
-/
import Derived.Test.YtlofpbmceipkkaaM32
namespace Go.Proofs.Ytlofpbmceipkkaa.blobClones
open Go.ChangeShapes Go.WideShapes Go.ChangeAt Go.RowKit Wal Blob
open Go.ChangeMaps (open_string)

theorem own : ownKnob Try.prog.godebug = none := by kernel_rfl
theorem laidOut : laidOutB Try.prog = true := by kernel_rfl
set_option maxRecDepth 100000 in
set_option maxHeartbeats 3200000 in
theorem walk (s : ByteArray) (hs : s.size ≤ maxLen) (m : Int) (h0 : 0 ≤ m) (h1 : m ≤ 65535) (first : Bool) (w : World) :
    Calls Try.prog 5 #[.string s, .int .u16 m, .bool first] w fun e w' => e = .returned (.bool true) ∧ Below w.heap.size w w' := by
  have FX := Lib.hid (fixed_any w)
  have HSS := Lib.hid hs
  clear hs
  go_enter Try.func5, Try.ntmps5
  go_wp2_with fail
  refine FX.out.mono ?_
  rintro e w1 ⟨rfl, hb1⟩
  have B1 := Lib.hid hb1
  have TX := Lib.hid (fun n => text_some w1 s HSS.out n)
  clear FX hb1
  go_wp2_with fail
  refine (TX.out _).mono ?_
  rintro e w2 ⟨l, rfl, hl8, hlm, hb2⟩
  have B2 : Hid (Below w.heap.size w w2) := B1.out.trans (hb2.mono B1.out.size)
  have L8 := Lib.hid hl8
  have sz := strB_size l
  clear TX hb2 hl8
  unfold strV
  by_cases c1 : 49152 < l.length
  · have i1 : (49152 : Int) < (l.length : Int) := by omega
    go_wp2_with fail
    go_ret
    exact ⟨rfl, B2.out⟩
  have i1 : ¬ (49152 : Int) < (l.length : Int) := by omega
  obtain ⟨N, hN⟩ : ∃ N, N = needL l.length := ⟨_, rfl⟩
  have N97 : N ≤ 97 := by
    rw [hN]
    unfold needL needB
    split <;> omega
  have HN := Lib.hid hN
  have NE := Lib.hid (fun w => needs_any w l (by omega))
  rw [← hN] at NE
  unfold strV at NE
  have NM := Lib.hid (newmem_any w.heap.size w2 B2.out.size 400)
  rw [show capN 400 = 400 from rfl] at NM
  clear hN hlm
  go_wp2_with fail
  refine NM.out.mono ?_
  rintro e w3 ⟨p, rfl, hp, hm, hb⟩
  have B3 : Hid (Below w.heap.size w w3) := B2.out.trans (hb.mono B2.out.size)
  have WR := Lib.hid (bwrite_all w.heap.size w3 B3.out.size p 400 _ hm l (by omega) L8.out)
  clear hm hb hp NM
  unfold strV sto at WR
  go_wp2_with fail
  refine WR.out.mono ?_
  rintro e w4 (⟨ha, pa, f1, rfl, m4, k4, la1⟩ | ⟨rfl, _, _, hx⟩)
  rotate_left
  · exfalso
    rw [cnt_none, ← HN.out] at hx
    omega
  have LA1 := Lib.hid la1
  have K4 := Lib.hid k4
  have CT1 : Hid (cnt 400 f1 = N) := by show _ = _; rw [la1.cnt_, cnt_none, ← HN.out]; omega
  have CL := Lib.hid (bclone_all w.heap.size w4 (Nat.le_trans B3.out.size k4.size) p 400 f1 m4 ha pa l la1.there)
  clear la1 k4 m4 WR
  unfold sto at CL
  go_wp2_with fail
  refine CL.out.mono ?_
  rintro e w5 (⟨hb, pb, f2, rfl, m5, k5, la2⟩ | ⟨rfl, _, _, hx⟩)
  rotate_left
  · exfalso
    rw [CT1.out, ← HN.out] at hx
    omega
  have LA2 := Lib.hid la2
  have K5 := Lib.hid (K4.out.trans k5)
  have CT2 : Hid (cnt 400 f2 = N + N) := by show _ = _; rw [la2.cnt_, CT1.out, ← HN.out]
  have TA : Hid (There 400 f2 ha pa l) := la2.keep LA1.out.there
  have TB : Hid (There 400 f2 hb pb l) := la2.there
  have DJ : Hid (∀ v ∈ allB ha pa, v ∉ allB hb pb) := la2.apart LA1.out.there
  have LTN := Lib.hid m5.lt_
  have M5 := Lib.hid m5
  have US := used_any w.heap.size w5 p 400 f2 m5
  rw [CT2.out, show ((N + N : Nat) : Int) = 2 * (N : Int) by omega] at US
  have USH := Lib.hid US
  clear la2 k5 m5 CL US
  go_wp2_with fail
  refine USH.out.mono ?_
  rintro e w6 ⟨rfl, hb6⟩
  have B6 := Lib.hid hb6
  clear USH hb6
  go_wp2_with fail
  refine (NE.out _).mono ?_
  rintro e w7 ⟨rfl, rfl⟩
  have M6 := Lib.hid (M5.out.under B6.out)
  have K6 := Lib.hid (K5.out.trans (Kp.under B6.out))
  have w2n : wrap64 (2 * (N : Int)) = 2 * (N : Int) := by unfold wrap64; omega
  cases first
  · have FR := Lib.hid (bfree_all w.heap.size w6 p 400 f2 M6.out ha pa l TA.out)
    have WC : Hid (cnt 400 (wipe f2 (allB ha pa)) = N) := by
      have h1 := TA.out.wiped LTN.out
      rw [← HN.out, CT2.out] at h1
      show _ = _
      omega
    have TO : Hid (There 400 (wipe f2 (allB ha pa)) hb pb l) := TB.out.wipe_ (fun v hv hv' => DJ.out v hv' hv)
    unfold sto at FR
    clear DJ
    go_wp2_with fail
    refine FR.out.mono ?_
    rintro e w8 ⟨rfl, m8, k8⟩
    have K8 := Lib.hid (K6.out.trans k8)
    have US2 := used_any w.heap.size w8 p 400 _ m8
    rw [WC.out] at US2
    have M8 := Lib.hid m8
    have U2 := Lib.hid US2
    clear m8 k8 FR US2
    go_wp2_with fail
    refine U2.out.mono ?_
    rintro e w9 ⟨rfl, hb9⟩
    have M9 := Lib.hid (M8.out.under hb9)
    have K9 := Lib.hid (K8.out.trans (Kp.under hb9))
    clear hb9 U2
    go_wp2_with fail
    refine (NE.out _).mono ?_
    rintro e w10 ⟨rfl, rfl⟩
    have RD := Lib.hid (bread_all w.heap.size w9 p 400 _ M9.out hb pb l TO.out)
    unfold strV sto at RD
    go_wp2_with fail
    refine RD.out.mono ?_
    rintro e w11 ⟨rfl, m11, k11⟩
    have K11 := Lib.hid (K9.out.trans k11)
    have FR2 := Lib.hid (bfree_all w.heap.size w11 p 400 _ m11 hb pb l TO.out)
    have WC2 : Hid (cnt 400 (wipe (wipe f2 (allB ha pa)) (allB hb pb)) = 0) := by
      have h1 := TO.out.wiped m11.lt_
      rw [← HN.out, WC.out] at h1
      show _ = _
      omega
    unfold sto at FR2
    clear m11 k11 RD
    go_wp2_with fail
    refine FR2.out.mono ?_
    rintro e w12 ⟨rfl, m12, k12⟩
    have K12 := Lib.hid (K11.out.trans k12)
    have US3 := used_any w.heap.size w12 p 400 _ m12
    rw [WC2.out] at US3
    have U3 := Lib.hid US3
    clear m12 k12 FR2 US3
    go_wp2_with fail
    refine U3.out.mono ?_
    rintro e w13 ⟨rfl, hb13⟩
    have FIN : Hid (Below w.heap.size w w13) := (B3.out.trans (K12.out.below B3.out.size)).trans (hb13.mono (Nat.le_trans B3.out.size K12.out.size))
    clear hb13 U3
    go_wp2_with fail
    go_ret
    exact ⟨rfl, FIN.out⟩
  · have FR := Lib.hid (bfree_all w.heap.size w6 p 400 f2 M6.out hb pb l TB.out)
    have WC : Hid (cnt 400 (wipe f2 (allB hb pb)) = N) := by
      have h1 := TB.out.wiped LTN.out
      rw [← HN.out, CT2.out] at h1
      show _ = _
      omega
    have TO : Hid (There 400 (wipe f2 (allB hb pb)) ha pa l) := TA.out.wipe_ (fun v hv hv' => DJ.out v hv hv')
    unfold sto at FR
    clear DJ
    go_wp2_with fail
    refine FR.out.mono ?_
    rintro e w8 ⟨rfl, m8, k8⟩
    have K8 := Lib.hid (K6.out.trans k8)
    have US2 := used_any w.heap.size w8 p 400 _ m8
    rw [WC.out] at US2
    have M8 := Lib.hid m8
    have U2 := Lib.hid US2
    clear m8 k8 FR US2
    go_wp2_with fail
    refine U2.out.mono ?_
    rintro e w9 ⟨rfl, hb9⟩
    have M9 := Lib.hid (M8.out.under hb9)
    have K9 := Lib.hid (K8.out.trans (Kp.under hb9))
    clear hb9 U2
    go_wp2_with fail
    refine (NE.out _).mono ?_
    rintro e w10 ⟨rfl, rfl⟩
    have RD := Lib.hid (bread_all w.heap.size w9 p 400 _ M9.out ha pa l TO.out)
    unfold strV sto at RD
    go_wp2_with fail
    refine RD.out.mono ?_
    rintro e w11 ⟨rfl, m11, k11⟩
    have K11 := Lib.hid (K9.out.trans k11)
    have FR2 := Lib.hid (bfree_all w.heap.size w11 p 400 _ m11 ha pa l TO.out)
    have WC2 : Hid (cnt 400 (wipe (wipe f2 (allB hb pb)) (allB ha pa)) = 0) := by
      have h1 := TO.out.wiped m11.lt_
      rw [← HN.out, WC.out] at h1
      show _ = _
      omega
    unfold sto at FR2
    clear m11 k11 RD
    go_wp2_with fail
    refine FR2.out.mono ?_
    rintro e w12 ⟨rfl, m12, k12⟩
    have K12 := Lib.hid (K11.out.trans k12)
    have US3 := used_any w.heap.size w12 p 400 _ m12
    rw [WC2.out] at US3
    have U3 := Lib.hid US3
    clear m12 k12 FR2 US3
    go_wp2_with fail
    refine U3.out.mono ?_
    rintro e w13 ⟨rfl, hb13⟩
    have FIN : Hid (Below w.heap.size w w13) := (B3.out.trans (K12.out.below B3.out.size)).trans (hb13.mono (Nat.le_trans B3.out.size K12.out.size))
    clear hb13 U3
    go_wp2_with fail
    go_ret
    exact ⟨rfl, FIN.out⟩

set_option maxRecDepth 100000 in
theorem opens {H : Type} {enc : TypeId × Value → H} {W : World} {base : Nat} {args : Array Value} {ds : List (DataW H)} {p : List MemPlace}
    (hval : ∀ (j : Nat) t v, Try.f5.params[j]? = some t → args[j]? = some v → Value.okWide Try.prog W .any base t v)
    (hA : DataW.TrodAll enc Try.prog W 0 (fun _ => true) true Try.f5.params.toList args.toList ds p) (hlt : ∀ x ∈ p, x.block < W.heap.size) (hsz : (DataW.weightsEach Try.prog Try.f5.params.toList ds).all (· ≤ reachBytes) = true) :
    Calls Try.prog 5 args W fun e W' => e = .returned (.bool true) ∧ Below W.heap.size W W' := by
  rw [Try.params5] at hA hval hsz
  obtain ⟨v0, vs0, d0, ds0, p0, q0, hargs, rfl, rfl, h0, r0⟩ := trodAll_cons hA
  obtain ⟨v1, vs1, d1, ds1, p1, q1, rfl, rfl, rfl, h1, r1⟩ := trodAll_cons r0
  obtain ⟨v2, vs2, d2, ds2, p2, q2, rfl, rfl, rfl, h2, r2⟩ := trodAll_cons r1
  obtain ⟨rfl, rfl, rfl⟩ := trodAll_nil r2
  obtain rfl : args = #[v0, v1, v2] := by cases args; simp_all
  obtain ⟨s, rfl, rfl, rfl, ws⟩ := open_string Try.underlying9 (hval 0 9 v0 rfl rfl) h0
  obtain ⟨x, rfl, rfl, rfl, wx⟩ := open_int Try.underlying41 (hval 1 41 v1 rfl rfl) h1
  obtain ⟨b, rfl, rfl, rfl⟩ := open_bool Try.underlying4 (hval 2 4 v2 rfl rfl) h2
  have hx : 0 ≤ x ∧ x ≤ 65535 := by simpa [Lit.wf, IntKind.min, IntKind.max, IntKind.signed, IntKind.bits] using wx
  exact walk s ws x hx.1 hx.2 b W

set_option maxRecDepth 100000 in
theorem lifted (os : Os) (started : os.Started) (H : Type) (enc : TypeId × Value → H) :
    ReturnsInHanded {} Try.checked os 5 .any (Rows.blobClonesSpec.pre6 enc Try.prog Try.f5 Rows.blobClonesRow.domain false) (Rows.blobClonesSpec.post enc Try.prog Try.f5 false true false false) := by
  refine returnsInHanded_of_change_sized (C := Try.checked) own started (by kernel_rfl) Try.func5
    (ChangeSpec.witness6 (enc := enc) (C := Try.checked) false ⟨#[], #[.string ⟨#[]⟩, .int .u16 0, .bool false], []⟩ 8 (by kernel_rfl) (by kernel_rfl) (by kernel_rfl) (by kernel_rfl)) ?_
  intro W base args ds gs before hval hW _ hsz0 _
  refine law_calls laidOut Try.underlying4 rfl (by rw [Try.params5]; exact of_decide_eq_true (by kernel_rfl)) rfl (fun ds h => by match ds, h with | [_, _, _], _ => rfl) hW ?_
  obtain ⟨rfl, p, hA, hlt⟩ := law_args rfl hW
  have hsz : (DataW.weightsEach Try.prog (Try.f5.params.toList ++ []) (ds ++ [])).all (· ≤ reachBytes) = true := hsz0
  rw [List.append_nil, List.append_nil] at hsz
  exact opens hval hA hlt hsz

theorem over : Rows.blobClonesRow.holds Try.pinned (OpenSpec.ofChange Rows.blobClonesSpec) :=
  OpenClaim.holds_of_wide 5 Try.f5 rfl rfl rfl rfl rfl rfl rfl ⟨rfl, rfl, rfl, rfl, rfl⟩ rfl rfl rfl rfl rfl (by kernel_rfl) Try.func5 (by kernel_rfl)
    (of_decide_eq_true (by kernel_rfl)) (by unfold Func.isWrapper; first | (rw [if_pos (by decide +kernel)]; kernel_rfl) | (rw [if_neg (by decide +kernel)]; exact ⟨rfl, rfl⟩))
    (fun os started H enc _ => lifted os started H enc)

theorem proved : Rows.BlobClonesSaid := over

end Go.Proofs.Ytlofpbmceipkkaa.blobClones
