/-
  uri: strings.SplitSeq between slashes: its iterator, which keeps what is left in a box of its own.
-/
import Derived.Test.YtpnmddealjoiiaaDoorU16
import Derived.RangeFuncNested
import Derived.RangeFuncBound
import Derived.RangeFuncCalls
import Derived.RangeFuncLeaves
import Derived.RangeFuncBox
import Derived.Shelf.Abstract
import Derived.Shelf.RegionOpen
import Derived.OwnWalkIn
import Derived.TacticsInMore
import Derived.LoopNIn
import Derived.LoopIn
namespace Go.Proofs.YtpnmddealjoiiaaDoor
open Go.RowKit Go.Shelf Uri

attribute [local go_sem] Oper.semAt_some

def boxLen (w : World) (b : Nat) : Nat := match w.cell? ⟨b, 0, none⟩ with
  | some (.string s) => s.size
  | _ => 0
theorem boxLen_of {w : World} {b : Nat} {t : TypeId} {s : ByteArray} (h : Boxed w b t (.string s)) : boxLen w b = s.size := by
  unfold boxLen
  rw [h.cell]
/-- The three boxes of the iterator stand as they stood. -/
def BoxesSame (Bs Bp Bv : Nat) (W W' : World) : Prop := W'.heap[Bs]? = W.heap[Bs]? ∧ W'.heap[Bp]? = W.heap[Bp]? ∧ W'.heap[Bv]? = W.heap[Bv]?
set_option maxRecDepth 100000 in
set_option maxHeartbeats 3200000 in
theorem split1_in (n : Nat) (hn : 1 ≤ n) (l Bs Bp Bv : Nat) (h1 : Bs ≠ Bp) (h2 : Bs ≠ Bv) (s : ByteArray) (hs : s.size ≤ 4194304) (D : List ByteArray) (hD : txts D = pieces (nums s)) (J : Nat → World → Prop) (Jx : World → Prop)
    (hJb : ∀ k W v, J k W → J k (W.setCell ⟨Bs, 0, none⟩ v))
    (hY : ∀ k x W, D[k]? = some x → J k W → YieldAt Fence.wide (n - 1) Tryd.prog l #[.string x] W fun e W' => (e = .returned (.bool true) ∧ J (k + 1) W' ∧ BoxesSame Bs Bp Bv W W') ∨ (e = .returned (.bool false) ∧ Jx W'))
    (W : World) (hBs : Boxed W Bs 9 (.string s)) (hBp : Boxed W Bp 9 (.string ⟨#[47]⟩)) (hBv : Boxed W Bv 3 (.int .i64 0)) (h0 : J 0 W) :
    CallsIn Fence.wide n Tryd.prog 53 #[.func (.yield l) #[] #[], .pointer (some ⟨Bp, 0, none⟩), .pointer (some ⟨Bs, 0, none⟩), .pointer (some ⟨Bv, 0, none⟩)] W fun e W' => (∃ v, e = .returned v) ∧ (J D.length W' ∨ Jx W') := by
  have c1 := hBs.cell
  have c2 := hBp.cell
  have c3 := hBv.cell
  have HH : Hid (Boxed W Bs 9 (.string s) ∧ Boxed W Bp 9 (.string ⟨#[47]⟩) ∧ Boxed W Bv 3 (.int .i64 0)) := ⟨hBs, hBp, hBv⟩
  have HD := Lib.hid hD
  have HY := Lib.hid hY
  have HB := Lib.hid hJb
  have H0 := Lib.hid h0
  clear hY hJb hBs hBp hBv hD h0
  refine callsIn_of_wp Tryd.func53 rfl trivial ?_ rfl
  simp only [Tryd.ntmps53, List.size_toArray, List.length_cons, List.length_nil, Nat.reduceAdd, Nat.reduceSub, Array.replicate_succ, Array.replicate_zero, List.push_toArray, List.append_toArray, List.nil_append, List.cons_append]
  gi_wp2
  gi_loopw [7] (fun _ wr => ∃ (k f : Nat), f ≤ s.size ∧ Hid (J k wr) ∧ Hid (Boxed wr Bs 9 (.string (s.extract f s.size)) ∧ Boxed wr Bp 9 (.string ⟨#[47]⟩) ∧ Boxed wr Bv 3 (.int .i64 0)) ∧ Hid (k < D.length ∧ txts (D.drop k) = pieces ((nums s).drop f))) (fun _ wr => boxLen wr Bs)
  case atStart => exact ⟨0, 0, by omega, H0, by
    show _ ∧ _ ∧ _
    have e : s.extract 0 s.size = s := ext_nums (by rw [nums_drop, List.drop_zero])
    rw [e]
    exact HH.out, by
    show _ ∧ _
    refine ⟨?_, by rw [List.drop_zero, List.drop_zero]; exact HD.out⟩
    rw [← txts_length, HD.out]
    exact List.length_pos_iff.2 (pieces_ne _)⟩
  case round =>
    obtain ⟨k, f, hf, HK, HX, HP⟩ := hrel
    have d1 := HX.out.1.cell
    have d2 := HX.out.2.1.cell
    have d3 := HX.out.2.2.cell
    obtain ⟨r, hr⟩ : ∃ r, r = s.extract f s.size := ⟨_, rfl⟩
    have NR : Hid (nums r = (nums s).drop f) := by show _ = _; rw [hr]; exact nums_drop s f
    rw [← hr] at d1 HX
    clear hr c1 c2 c3
    have IX := Lib.hid (fun u => Tryd.strings_Index_one r 47 u)
    have HLr : Hid ((nums r).length = r.size) := nums_length r
    have hrs : r.size + f = s.size := by
      have := HLr.out
      rw [NR.out, List.length_drop, nums_length] at this
      omega
    have XR : ∀ W', BoxesSame Bs Bp Bv wr W' → Boxed W' Bs 9 (.string r) ∧ Boxed W' Bp 9 (.string ⟨#[47]⟩) ∧ Boxed W' Bv 3 (.int .i64 0) := fun W' hb => ⟨hb.1.trans HX.out.1, hb.2.1.trans HX.out.2.1, hb.2.2.trans HX.out.2.2⟩
    have XR := Lib.hid XR
    rcases index_at 47 r.data.toList with ⟨i1, i2⟩ | ⟨i, i1, i2, i3, i4⟩
    · rw [i1] at IX
      have hp1 : pieces (nums r) = [nums r] := pieces_one i2
      have hdk : txts (D.drop k) = [nums r] := by rw [HP.out.2, ← NR.out, hp1]
      have hkD : D[k]? = some r ∧ k + 1 = D.length := by
        have hl := congrArg List.length hdk
        rw [txts_length, List.length_drop] at hl
        have hk1 : k + 1 = D.length := by simp at hl; omega
        refine ⟨?_, hk1⟩
        have hk2 : k < D.length := by omega
        rw [List.getElem?_eq_getElem hk2]
        have e := hdk
        rw [List.drop_eq_getElem_cons hk2] at e
        unfold txts at e
        simp only [List.map_cons, List.cons.injEq] at e
        rw [ext_nums e.1]
      obtain ⟨fn, tmps, assign, body, hy, hR⟩ := HY.out k r wr hkD.1 HK.out
      have KD := Lib.hid hkD.2
      have RR := Lib.hid hR
      clear i1 i2 hp1 hdk hkD hR
      gi_wp2
      refine ⟨trivial, (callsIn_wide.2 (IX.out wr)).mono ?_⟩
      rintro e w' ⟨rfl, rfl⟩
      clear IX
      gi_wp2
      refine RR.out.mono ?_
      rintro e W3 (⟨rfl, hJ3, hk3⟩ | ⟨rfl, hJx3⟩)
      · have F := Lib.hid hJ3
        clear hJ3 hk3
        gi_wp2
        go_end0
        exact ⟨⟨_, rfl⟩, .inl (by rw [← KD.out]; exact F.out)⟩
      · have F := Lib.hid hJx3
        clear hJx3
        gi_wp2
        go_end0
        exact ⟨⟨_, rfl⟩, .inr F.out⟩
    · rw [i1] at IX
      have hir : i < (nums r).length := by rw [HLr.out]; exact i2
      have hir2 : i < r.size := i2
      have hcut : pieces (nums r) = (nums r).take i :: pieces ((nums r).drop (i + 1)) := by
        have := pieces_cut (l := nums r) (f := 0) (k := i) (Nat.zero_le _) hir (by rw [List.drop_zero, Nat.sub_zero]; exact i4) i3
        simpa using this
      obtain ⟨x, hxe⟩ : ∃ x, x = r.extract 0 i := ⟨_, rfl⟩
      have NX : nums x = (nums r).take i := by rw [hxe]; exact nums_take r i
      have hdk : txts (D.drop k) = nums x :: pieces ((nums r).drop (i + 1)) := by rw [HP.out.2, ← NR.out, hcut, NX]
      have hkD : D[k]? = some x ∧ txts (D.drop (k + 1)) = pieces ((nums r).drop (i + 1)) := by
        have hk2 := HP.out.1
        have e := hdk
        rw [List.drop_eq_getElem_cons hk2] at e
        unfold txts at e
        simp only [List.map_cons, List.cons.injEq] at e
        exact ⟨by rw [List.getElem?_eq_getElem hk2, ext_nums e.1], e.2⟩
      have hkl : k + 1 < D.length := by
        have hl := congrArg List.length hkD.2
        rw [txts_length, List.length_drop] at hl
        have := List.length_pos_iff.2 (pieces_ne ((nums r).drop (i + 1)))
        omega
      obtain ⟨fn, tmps, assign, body, hy, hR⟩ := HY.out k x wr hkD.1 HK.out
      have KD : Hid (k + 1 < D.length ∧ txts (D.drop (k + 1)) = pieces ((nums s).drop (f + i + 1))) := by
        refine ⟨hkl, ?_⟩
        rw [hkD.2, NR.out, List.drop_drop]
        rfl
      have RR := Lib.hid hR
      have ER : Hid (r.extract (i + 1) r.size = s.extract (f + i + 1) s.size) := ext_nums (by rw [nums_drop, nums_drop, NR.out, List.drop_drop]; rfl)
      have SZ : Hid ((s.extract (f + i + 1) s.size).size + (i + 1) = r.size) := by
        show _ = _
        rw [← nums_length, nums_drop, List.length_drop, nums_length]
        omega
      have g1 : ¬ (i : Int) < 0 := by omega
      have g2 : (i : Int) ≤ (r.size : Int) := by omega
      have g3 : i ≤ r.size := by omega
      have g4 : (i : Int) + 1 ≤ (r.size : Int) := by omega
      have g5 : i + 1 ≤ r.size := by omega
      have g6 : (i : Int) ≤ 4194304 := by omega
      rw [hxe] at hy
      clear i1 i2 i3 i4 hir hcut hdk hkD hR NX hkl
      gi_wp2
      refine ⟨trivial, (callsIn_wide.2 (IX.out wr)).mono ?_⟩
      rintro e w' ⟨rfl, rfl⟩
      clear IX
      gi_wp2
      refine RR.out.mono ?_
      rintro e W3 (⟨rfl, hJ3, hk3⟩ | ⟨rfl, hJx3⟩)
      · have F := Lib.hid hJ3
        have X3 := Lib.hid (XR.out W3 hk3)
        have d4 := X3.out.1.cell
        have d5 := X3.out.2.1.cell
        have f4 := X3.out.1.frozen
        clear hJ3 hk3 d1 d2 d3 hy
        gi_wp2
        go_roundw
        case rel => exact ⟨k + 1, f + i + 1, by omega, HB.out _ _ _ F.out, by
          show _ ∧ _ ∧ _
          rw [ER.out]
          exact ⟨X3.out.1.set _, X3.out.2.1.other (fun e => h1 e.symm) _, X3.out.2.2.other (fun e => h2 e.symm) _⟩, KD⟩
        case measure =>
          show boxLen _ Bs < boxLen _ Bs
          rw [boxLen_of HX.out.1, ER.out, boxLen_of (X3.out.1.set _)]
          have := SZ.out
          omega
      · have F := Lib.hid hJx3
        clear hJx3
        gi_wp2
        refine bodyPost_ret (results_none rfl _ _ _) rfl ?_
        exact ⟨⟨_, rfl⟩, .inr F.out⟩
end Go.Proofs.YtpnmddealjoiiaaDoor
