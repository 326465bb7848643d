/-
  P7.2: pieces of a blob, one behind the other, are the whole: the law answers true for every input, and its arguments read behind the call as before. No condition beside the row's own.
-/
import Derived.Test.YtlofpbmceipkkaaM33
namespace Go.Proofs.Ytlofpbmceipkkaa.blobParts
open Go.ChangeShapes Go.WideShapes Go.ChangeAt Go.RowKit Wal Blob
open Go.ChangeMaps (open_string)

theorem own : ownKnob Try.prog.godebug = none := by kernel_rfl
theorem laidOut : laidOutB Try.prog = true := by kernel_rfl
theorem bytes16 : Try.prog.bytesOf 41 = 2 := by kernel_rfl
set_option maxRecDepth 100000 in
set_option maxHeartbeats 3200000 in
theorem walk (s : ByteArray) (hs : s.size ≤ maxLen) (m : Int) (h0 : 0 ≤ m) (h1 : m ≤ 65535) (A : Option Addr) (n c : Nat) (zs : Nat → Int) (hn : n ≤ 140737488351232) (w : World) (hz : Shorts w A n zs) :
    Calls Try.prog 4 #[.string s, .int .u16 m, .slice A n c] w fun e w' => e = .returned (.bool true) ∧ Below w.heap.size w w' := by
  have FX := Lib.hid (fixed_any w)
  have HSS := Lib.hid hs
  have HZ := Lib.hid hz
  have HNN := Lib.hid hn
  clear hs hz hn
  go_enter Try.func4, Try.ntmps4
  go_wp2_with fail
  refine FX.out.mono ?_
  rintro e w1 ⟨rfl, hb1⟩
  have B1 := Lib.hid hb1
  have TX := Lib.hid (fun n => text_some w1 s HSS.out n)
  clear FX hb1
  go_wp2_with fail
  refine (TX.out _).mono ?_
  rintro e w2 ⟨l, rfl, hl8, hlm, hb2⟩
  have B2 : Hid (Below w.heap.size w w2) := B1.out.trans (hb2.mono B1.out.size)
  have L8 := Lib.hid hl8
  have sz := strB_size l
  clear TX hb2 hl8
  unfold strV
  by_cases c1 : 49152 < l.length
  · have i1 : (49152 : Int) < (l.length : Int) := by omega
    go_wp2_with fail
    go_ret
    exact ⟨rfl, B2.out⟩
  have i1 : ¬ (49152 : Int) < (l.length : Int) := by omega
  have NM := Lib.hid (newmem_any w.heap.size w2 B2.out.size 200)
  rw [show capN 200 = 200 from rfl] at NM
  clear hlm
  go_wp2_with fail
  refine NM.out.mono ?_
  rintro e w3 ⟨p, rfl, hp, hm, hb⟩
  have B3 : Hid (Below w.heap.size w w3) := B2.out.trans (hb.mono B2.out.size)
  have WR := Lib.hid (bwrite_all w.heap.size w3 B3.out.size p 200 _ hm l (by omega) L8.out)
  clear hm hb hp NM
  unfold strV sto at WR
  go_wp2_with fail
  refine WR.out.mono ?_
  rintro e w4 (⟨ha, pa, f1, rfl, m4, k4, la1⟩ | ⟨rfl, _, _, hx⟩)
  rotate_left
  · exfalso
    rw [cnt_none] at hx
    unfold needL needB at hx
    split at hx <;> omega
  have TH := Lib.hid la1.there
  have M4 := Lib.hid m4
  have K4 := Lib.hid ((Kp.under B3.out).trans k4)
  clear la1 k4 m4 WR
  go_wp2_with fail
  go_loopw [11, 12] (fun v i wr => ∃ (k g : Nat), k ≤ n + 1 ∧ g ≤ l.length ∧ i = .int .i64 k ∧ (k = n + 1 → g = l.length) ∧ Hid (MemAt w.heap.size wr p 200 f1 ∧ Kp w.heap.size w wr ∧ OwnB wr w.heap.size 5 v (l.take g))) (fun _ i _ => n + 1 - (intOf i).toNat)
  case atStart => exact ⟨0, 0, by omega, by omega, rfl, fun h => by omega, M4.out, K4.out, by rw [List.take_zero]; exact ⟨⟨rfl, .inl ⟨rfl, rfl⟩⟩, by simp⟩⟩
  case round =>
    obtain ⟨k, g, hk, hg, rfl, hlast, G⟩ := hrel
    obtain ⟨A2, c2, rfl, hbt⟩ := G.out.2.2.any
    have BT := Lib.hid hbt
    have LG : (l.take g).length = g := by rw [List.length_take]; omega
    rw [LG] at BT G ⊢
    have LGH := Lib.hid LG
    have HLA := Lib.hid hlast
    clear hbt hlast LG
    have hn63 : n ≤ 140737488351232 := HNN.out
    by_cases hlt : k < n + 1
    · have lk : (k : Int) ≤ (n : Int) := by omega
      have RA := Lib.hid (fun q => breadat_all w.heap.size wr p 200 f1 G.out.1 ha pa l TH.out g q)
      unfold strV sto at RA
      have TK : ∀ q, l.take g ++ (l.drop g).take q = l.take (g + q) := fun q => by rw [← List.take_add]
      have TKH := Lib.hid TK
      have ql : ∀ q : Nat, ((l.drop g).take q).length = min q (l.length - g) := fun q => by rw [List.length_take, List.length_drop]
      have QL := Lib.hid ql
      have sq : ∀ q : Nat, (strB ((l.drop g).take q)).size = min q (l.length - g) := fun q => by rw [strB_size, ql]
      clear TK ql
      by_cases ck : k < n
      · obtain ⟨b, off, rfl, hbl, hcc⟩ := HZ.out (by omega)
        obtain ⟨cc, z0, z1⟩ := hcc k ck
        obtain ⟨q, hq⟩ : ∃ q : Nat, zs k = (q : Int) := ⟨(zs k).toNat, by omega⟩
        rw [hq] at cc z0 z1
        have cw : wr.cell? ⟨b, off + k, none⟩ = some (.int .u16 (q : Int)) := ((G.out.2.1.below (Nat.le_refl _)).cell (p := ⟨b, off + k, none⟩) hbl).trans cc
        have q16 : q ≤ 65535 := by omega
        have ik : (k : Int) < (n : Int) := by omega
        clear hcc cc z0 z1 hq
        have RQ := Lib.hid (RA.out q)
        have D8 : Hid (∀ x ∈ (l.drop g).take q, x < 256) := fun x hx => L8.out x (List.mem_of_mem_drop (List.mem_of_mem_take hx))
        have TQ := Lib.hid (TKH.out q)
        have dl : ((l.drop g).take q).length ≤ q := by rw [List.length_take]; omega
        have dg : g + ((l.drop g).take q).length ≤ l.length := by rw [List.length_take, List.length_drop]; omega
        have sd := strB_size ((l.drop g).take q)
        have gq : g + ((l.drop g).take q).length = min (g + q) l.length := by rw [List.length_take, List.length_drop]; omega
        have GQ := Lib.hid gq
        generalize (l.drop g).take q = D at *
        have nl : ¬ ((q : Int) < (D.length : Int)) := by omega
        clear sq QL RA TKH gq
        go_wp2_with fail
        refine RQ.out.mono ?_
        rintro e w5 ⟨rfl, m5, k5⟩
        have M5 := Lib.hid m5
        have K5 := Lib.hid (G.out.2.1.trans k5)
        have O5 := Lib.hid (G.out.2.2.kp k5)
        have S5 : Hid (w.heap.size ≤ w5.heap.size) := K5.out.size
        clear m5 k5 RQ
        go_wp2_with (at_builtin; refine wpList_append_bstr rfl (.tmp 68) (.tmp 69) rfl w.heap.size _ _ rfl O5.out D rfl D8.out (by rw [LGH.out]; omega) S5.out ?_; intro v6 w6 q1 q2)
        have F : Hid (MemAt w.heap.size w6 p 200 f1 ∧ Kp w.heap.size w w6 ∧ OwnB w6 w.heap.size 5 v6 (l.take (min (g + q) l.length))) := ⟨M5.out.grownB_ O5.out q2, K5.out.past ((Below.refl _ _).grown q2 S5.out (fun x hx => (O5.out.1.lt x hx).1)) (Nat.le_refl _), by rw [TQ.out] at q1; rw [← List.take_eq_take_min]; exact q1⟩
        clear q1 q2
        go_roundw
        case rel => exact ⟨k + 1, min (g + q) l.length, by omega, by omega, by go_num, fun h => by omega, F⟩
        case measure => simp [intOf] <;> omega
      · obtain rfl : k = n := by omega
        have RQ := Lib.hid (RA.out 1099511627776)
        have D8 : Hid (∀ x ∈ (l.drop g).take 1099511627776, x < 256) := fun x hx => L8.out x (List.mem_of_mem_drop (List.mem_of_mem_take hx))
        have TQ := Lib.hid (TKH.out 1099511627776)
        have dl : ((l.drop g).take 1099511627776).length ≤ 1099511627776 := by rw [List.length_take]; omega
        have dg : g + ((l.drop g).take 1099511627776).length ≤ l.length := by rw [List.length_take, List.length_drop]; omega
        have sd := strB_size ((l.drop g).take 1099511627776)
        have gq : g + ((l.drop g).take 1099511627776).length = min (g + 1099511627776) l.length := by rw [List.length_take, List.length_drop]; omega
        have GQ := Lib.hid gq
        generalize (l.drop g).take 1099511627776 = D at *
        have nl : ¬ ((1099511627776 : Int) < (D.length : Int)) := by omega
        clear sq QL RA TKH gq
        go_wp2_with fail
        refine RQ.out.mono ?_
        rintro e w5 ⟨rfl, m5, k5⟩
        have M5 := Lib.hid m5
        have K5 := Lib.hid (G.out.2.1.trans k5)
        have O5 := Lib.hid (G.out.2.2.kp k5)
        have S5 : Hid (w.heap.size ≤ w5.heap.size) := K5.out.size
        clear m5 k5 RQ
        go_wp2_with (at_builtin; refine wpList_append_bstr rfl (.tmp 68) (.tmp 69) rfl w.heap.size _ _ rfl O5.out D rfl D8.out (by rw [LGH.out]; omega) S5.out ?_; intro v6 w6 q1 q2)
        have F : Hid (MemAt w.heap.size w6 p 200 f1 ∧ Kp w.heap.size w w6 ∧ OwnB w6 w.heap.size 5 v6 (l.take (min (g + 1099511627776) l.length))) := ⟨M5.out.grownB_ O5.out q2, K5.out.past ((Below.refl _ _).grown q2 S5.out (fun x hx => (O5.out.1.lt x hx).1)) (Nat.le_refl _), by rw [TQ.out] at q1; rw [← List.take_eq_take_min]; exact q1⟩
        clear q1 q2
        go_roundw
        case rel => exact ⟨k + 1, min (g + 1099511627776) l.length, by omega, by omega, by go_num, fun _ => by omega, F⟩
        case measure => simp [intOf] <;> omega
    · obtain rfl : k = n + 1 := by omega
      obtain rfl : g = l.length := HLA.out rfl
      have ik : ¬ ((n : Int) + 1 ≤ (n : Int)) := by omega
      have bt := BT.out
      rw [List.take_of_length_le (Nat.le_refl _)] at bt
      have ts := bt.toStr byteT Try.underlying9 c2
      have FIN : Hid (Below w.heap.size w wr) := G.out.2.1.below (Nat.le_refl _)
      clear bt
      go_wp2_with fail
      go_ret
      exact ⟨rfl, FIN.out⟩

set_option maxRecDepth 100000 in
theorem opens {H : Type} {enc : TypeId × Value → H} {W : World} {base : Nat} {args : Array Value} {ds : List (DataW H)} {p : List MemPlace}
    (hval : ∀ (j : Nat) t v, Try.f4.params[j]? = some t → args[j]? = some v → Value.okWide Try.prog W .any base t v)
    (hA : DataW.TrodAll enc Try.prog W 0 (fun _ => true) true Try.f4.params.toList args.toList ds p) (hlt : ∀ x ∈ p, x.block < W.heap.size) (hsz : (DataW.weightsEach Try.prog Try.f4.params.toList ds).all (· ≤ reachBytes) = true) :
    Calls Try.prog 4 args W fun e W' => e = .returned (.bool true) ∧ Below W.heap.size W W' := by
  rw [Try.params4] at hA hval hsz
  obtain ⟨v0, vs0, d0, ds0, p0, q0, hargs, rfl, rfl, h0, r0⟩ := trodAll_cons hA
  obtain ⟨v1, vs1, d1, ds1, p1, q1, rfl, rfl, rfl, h1, r1⟩ := trodAll_cons r0
  obtain ⟨v2, vs2, d2, ds2, p2, q2, rfl, rfl, rfl, h2, r2⟩ := trodAll_cons r1
  obtain ⟨rfl, rfl, rfl⟩ := trodAll_nil r2
  obtain rfl : args = #[v0, v1, v2] := by cases args; simp_all
  obtain ⟨s, rfl, rfl, rfl, ws⟩ := open_string Try.underlying9 (hval 0 9 v0 rfl rfl) h0
  obtain ⟨x, rfl, rfl, rfl, wx⟩ := open_int Try.underlying41 (hval 1 41 v1 rfl rfl) h1
  obtain ⟨A, n, c, zs, rfl, hn, hc, hzs, hd⟩ := open_shorts (hval 2 42 v2 rfl rfl) h2
  have hx : 0 ≤ x ∧ x ≤ 65535 := by simpa [Lit.wf, IntKind.min, IntKind.max, IntKind.signed, IntKind.bits] using wx
  have hn2 : n ≤ 140737488351232 := by
    rcases hd with rfl | ⟨el, sp, rfl, h3⟩
    · omega
    · have := sized_slice hsz (j := 2) (t := 42) (e := 41) rfl rfl Try.underlying42
      rw [bytes16] at this
      simp only [reachBytes] at this
      omega
  exact walk s ws x hx.1 hx.2 A n c zs hn2 W hzs

set_option maxRecDepth 100000 in
theorem lifted (os : Os) (started : os.Started) (H : Type) (enc : TypeId × Value → H) :
    ReturnsInHanded {} Try.checked os 4 .any (Rows.blobPartsSpec.pre6 enc Try.prog Try.f4 Rows.blobPartsRow.domain false) (Rows.blobPartsSpec.post enc Try.prog Try.f4 false true false false) := by
  refine returnsInHanded_of_change_sized (C := Try.checked) own started (by kernel_rfl) Try.func4
    (ChangeSpec.witness6 (enc := enc) (C := Try.checked) false ⟨#[], #[.string ⟨#[]⟩, .int .u16 0, .slice none 0 0], []⟩ 8 (by kernel_rfl) (by kernel_rfl) (by kernel_rfl) (by kernel_rfl)) ?_
  intro W base args ds gs before hval hW _ hsz0 _
  refine law_calls laidOut Try.underlying4 rfl (by rw [Try.params4]; exact of_decide_eq_true (by kernel_rfl)) rfl (fun ds h => by match ds, h with | [_, _, _], _ => rfl) hW ?_
  obtain ⟨rfl, p, hA, hlt⟩ := law_args rfl hW
  have hsz : (DataW.weightsEach Try.prog (Try.f4.params.toList ++ []) (ds ++ [])).all (· ≤ reachBytes) = true := hsz0
  rw [List.append_nil, List.append_nil] at hsz
  exact opens hval hA hlt hsz

theorem over : Rows.blobPartsRow.holds Try.pinned (OpenSpec.ofChange Rows.blobPartsSpec) :=
  OpenClaim.holds_of_wide 4 Try.f4 rfl rfl rfl rfl rfl rfl rfl ⟨rfl, rfl, rfl, rfl, rfl⟩ rfl rfl rfl rfl rfl (by kernel_rfl) Try.func4 (by kernel_rfl)
    (of_decide_eq_true (by kernel_rfl)) (by unfold Func.isWrapper; first | (rw [if_pos (by decide +kernel)]; kernel_rfl) | (rw [if_neg (by decide +kernel)]; exact ⟨rfl, rfl⟩))
    (fun os started H enc _ => lifted os started H enc)

theorem proved : Rows.BlobPartsSaid := over

end Go.Proofs.Ytlofpbmceipkkaa.blobParts
