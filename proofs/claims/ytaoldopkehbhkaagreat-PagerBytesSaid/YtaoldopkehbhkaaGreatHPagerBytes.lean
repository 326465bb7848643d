/-
  Rule 5, Types: bytes that were handed in or answered may be written over; a nil pager and a nil transaction answer ErrNone: the law answers true for every input, and its arguments read behind the call as before. No condition beside the row's own.
-/
import Derived.Test.YtaoldopkehbhkaaGreatMPgN
import Derived.Test.YtaoldopkehbhkaaGreatMDisk
namespace Go.Proofs.YtaoldopkehbhkaaGreat.pagerBytes
open Go.ChangeShapes Go.WideShapes Go.ChangeAt Go.RowKit Pgr

theorem own : ownKnob Tryz.prog.godebug = none := by kernel_rfl
theorem laidOut : laidOutB Tryz.prog = true := by kernel_rfl
/-- A row that is written over. -/
structure PScr (X Y : World) (b n : Nat) : Prop where
  only : Only [b] X Y
  lt : b < Y.heap.size
  cell : ∀ j, j < n → ∃ z, Y.cell? ⟨b, j, none⟩ = some (.int .u8 z)
  free : ∀ j, j < n → Y.frozen? ⟨b, j, none⟩ = false
theorem PScr.next {X Y : World} {b n j : Nat} (h : PScr X Y b n) (z : Int) : PScr X (Y.setCell ⟨b, j, none⟩ (.int .u8 z)) b n where
  only := h.only.setCell (.inl (by simp)) _
  lt := by rw [World.size_setCell]; exact h.lt
  cell := fun i hi => by
    obtain ⟨z0, hz⟩ := h.cell i hi
    by_cases e : j = i
    · subst e
      exact ⟨z, World.cell?_setCell_same _ _ _ hz⟩
    · exact ⟨z0, by rw [World.cell?_setCell_other _ _ _ _ (fun he => e (by injection he))]; exact hz⟩
  free := fun i hi => by rw [World.frozen?_setCell]; exact h.free i hi
theorem PScr.start {X : World} {b n : Nat} {l : List Nat} (hb : Bts X (some ⟨b, 0, none⟩) n l) (hn : 0 < n) (hf : ∀ j, X.frozen? ⟨b, j, none⟩ = false) : PScr X X b n := by
  refine ⟨Only.refl _ _, ?_, fun j hj => ⟨_, hb.cell0 hj⟩, fun j _ => hf j⟩
  obtain ⟨g, off, e, hlt, _⟩ := hb.2.2 hn
  injection e with e
  injection e with e1 _ _
  rw [e1]
  exact hlt
theorem HoldP.only_ {w0 w w' : World} {p d reg N : Nat} {tx : Value} {C : List Com} {P : PS} {H : List Nat} (h : HoldP w0 w p d reg N tx C P) (k : Only H w w') (hH : ∀ x ∈ H, x ∉ P.foot ∧ w0.heap.size ≤ x) : HoldP w0 w' p d reg N tx C P := by
  have ne : ∀ x ∈ P.foot, x ∉ H := fun x hx hm => (hH x hm).1 hx
  exact ⟨h.pag.only k (ne _ (pmem_foot.2 (.inl rfl))) (ne _ (pmem_foot.2 (.inr (.inl rfl)))) (fun x hx => ne _ (pmem_foot.2 (.inr (.inr hx)))), h.inv, h.ids, h.below.trans (k.below h.below.size (fun x hx => (hH x hx).2)), h.new, h.calm⟩
/-- The pager, its open transaction and the block that was handed in. -/
structure Sit (w w' : World) (p d t tm go : Nat) (g : Com) (C : List Com) (P : PS) : Prop where
  pag : HoldP w w' p d 6 14 (.pointer (some ⟨t, 0, none⟩)) C P
  tx : TxAt w' P t tm g
  t0 : w.heap.size ≤ t
  m0 : w.heap.size ≤ tm
theorem Sit.holdT {w w' : World} {p d t tm go : Nat} {g : Com} {C : List Com} {P : PS} (h : Sit w w' p d t tm go g C P) : HoldT w w' p d 6 14 t tm g C := ⟨P, h.pag, h.tx, h.t0, h.m0⟩
theorem Sit.only_ {w w1 w2 : World} {p d t tm go q : Nat} {g : Com} {C : List Com} {P : PS} (h : Sit w w1 p d t tm go g C P) (k : Only [q] w1 w2) (hq : q ∉ P.foot ∧ q ≠ t ∧ q ≠ tm ∧ w.heap.size ≤ q) : Sit w w2 p d t tm go g C P :=
  ⟨HoldP.only_ h.pag k (fun x hx => by have : x = q := by simpa using hx
                                       subst this
                                       exact ⟨hq.1, hq.2.2.2⟩), h.tx.only k (by simpa using hq.2.1.symm) (by simpa using hq.2.2.1.symm), h.t0, h.m0⟩
theorem Sit.under {w w1 w2 : World} {p d t tm go : Nat} {g : Com} {C : List Com} {P : PS} (h : Sit w w1 p d t tm go g C P) (k : Below w1.heap.size w1 w2) : Sit w w2 p d t tm go g C P := ⟨h.pag.under k, h.tx.under k, h.t0, h.m0⟩
theorem Sit.off {w w1 : World} {p d t tm go q : Nat} {g : Com} {C : List Com} {P : PS} (h : Sit w w1 p d t tm go g C P) (hq : w1.heap.size ≤ q) : q ∉ P.foot ∧ q ≠ t ∧ q ≠ tm ∧ w.heap.size ≤ q := by
  have h1 := h.tx.held.lt
  have h2 := h.tx.dirty.lt
  have h3 := h.pag.below.size
  exact ⟨fun hm => by have := h.pag.lt q hm; omega, by omega, by omega, by omega⟩
theorem s_write (w w1 : World) (p d t tm go : Nat) (g : Com) (C : List Com) (P : PS) (A : Option Addr) (n c : Nat) (l : List Nat) (h : Sit w w1 p d t tm go g C P) (hl : Bts w1 A n l) (hn : n ≤ 512) (hA : 0 < n → ∀ x, A = some x → x.block ≠ p ∧ x.block ≠ tm) :
    Calls Tryz.prog 28 #[.pointer (some ⟨t, 0, none⟩), .int .i64 1, .slice A n c] w1 fun e w' => e = .returned (.int .i64 0) ∧ Sit w w' p d t tm go (upd g 1 (sec l)) C P ∧ Only [p, tm] w1 w' := by
  have hP := h.pag
  obtain ⟨rfl, rfl, e6, e14⟩ := hP.ids
  refine (twrite_any w1 P t tm g 1 A n c l hP.pag h.tx (by rw [e14]; omega) hP.inv.alive hP.inv.inv.alive hl hn hA).mono ?_
  rintro e w' ⟨rfl, h3, h4, h5⟩
  refine ⟨rfl, ⟨⟨h3, hP.inv, ⟨rfl, rfl, e6, e14⟩, hP.below.trans (h5.below hP.below.size (fun x hx => ?_)), hP.new, hP.calm⟩, h4, h.t0, h.m0⟩, h5⟩
  simp only [List.mem_cons, List.not_mem_nil, or_false] at hx
  rcases hx with rfl | rfl
  · exact hP.new _ (pmem_foot.2 (.inl rfl))
  · exact h.m0
theorem ownB_cap {w : World} {base g n c : Nat} {e : TypeId} {l : List Nat} (h : OwnB w base e (.slice (some ⟨g, 0, none⟩) n c) l) : l.length ≤ c := by
  rcases h.1.2 with ⟨h1, _⟩ | ⟨g', cap, cur, h1, _, _, h2, _⟩
  · cases h1
  · injection h1 with _ _ h1
    omega
set_option maxRecDepth 100000 in
set_option maxHeartbeats 6400000 in
theorem walk (A : Option Addr) (n c : Nat) (l : List Nat) (w : World) (hl : Bts w A n l) (hn : n ≤ 9223372036854775807) :
    Calls Tryz.prog 5 #[.slice A n c] w fun e w' => e = .returned (.bool true) ∧ Below w.heap.size w w' := by
  have FX := Lib.hid (pfixed_any w)
  have HL := Lib.hid hl
  clear hl
  by_cases hbig : 512 < n
  · have hbi : (512 : Int) < (n : Int) := by omega
    go_enter Tryz.func5, Tryz.ntmps5
    go_wp2_with fail
    refine FX.out.mono ?_
    rintro e w0 ⟨rfl, hb0⟩
    have B0 := Lib.hid hb0
    have FX2 := Lib.hid (pfixed_any w0)
    clear FX hb0
    go_wp2_with fail
    refine FX2.out.mono ?_
    rintro e w1 ⟨rfl, hb1⟩
    have B1 : Hid (Below w.heap.size w w1) := B0.out.trans (hb1.mono B0.out.size)
    clear hb1 FX2 B0
    go_wp2_with fail
    go_ret
    exact ⟨rfl, B1.out⟩
  · have hni : (n : Int) ≤ 512 := by omega
    have hn5 : n ≤ 512 := by omega
    have hd5 : decide ((512 : Int) < (n : Int)) = false := decide_eq_false (by omega)
    clear hbig hn
    go_enter Tryz.func5, Tryz.ntmps5
    go_wp2_with fail
    refine FX.out.mono ?_
    rintro e w0 ⟨rfl, hb0⟩
    have B0 := Lib.hid hb0
    have ND := new_any w0 (20 : Int)
    rw [show clampN (20 : Int) = 20 from by decide] at ND
    have ND := Lib.hid ND
    clear hb0 FX
    go_wp2_with fail
    refine ND.out.mono ?_
    rintro e w1 ⟨d, F, rfl, hD, hb, hF⟩
    have MK := Lib.hid (l_make w w1 d F 20 6 hD (B0.out.trans (hb.mono B0.out.size)) (fun y hy => Nat.le_trans B0.out.size (hF y hy)) (by omega) (by omega))
    clear ND hD hb hF B0
    go_wp2_with fail
    refine MK.out.mono ?_
    rintro e w2 ⟨p, rfl, hP⟩
    have BG := Lib.hid (l_begin w w2 p d 6 14 [] hP)
    clear MK hP
    go_wp2_with fail
    refine BG.out.mono ?_
    rintro e w3 ⟨t, tm, rfl, P, hP, hT, h1, h2⟩
    have S3 : Hid (Sit w w3 p d t tm 0 (fun _ => none) [] P) := ⟨hP, hT, h1, h2⟩
    have L3 := Lib.hid (HL.out.kept hP.below)
    have HE := Lib.hid (ownB_new (w := w3) (e := 5) w3.heap.size (Nat.le_refl _) w3.heap.size rfl)
    have E3 := Lib.hid ((Below.refl w3.heap.size w3).alloc (Nat.le_refl _) (.cells #[] 5))
    clear BG hP hT h1 h2
    have hln : Hid (l.length = n) := HL.out.1
    go_wp2_with (first
      | (at_builtin; refine wpList_append_bts byteT rfl (.tmp 39) (.tmp 40) rfl w3.heap.size _ [] rfl HE.out A n c l rfl (L3.out.kept E3.out) (by simp; omega) (by simp) ?_; intro v4 w4 hown4 hg4 hv4; rw [List.nil_append] at hown4; have O4 := Lib.hid hown4; have B4 := Lib.hid (HE.out.grown E3.out hg4 (by simp)); clear hown4 hg4 hv4; have B5 : Hid (Below w3.heap.size w3 (w4.alloc (.cells #[.int .u8 7] 5))) := (B4.out.alloc (B4.out.size) _); have T7 : Hid (Bts (w4.alloc (.cells #[.int .u8 7] 5)) (some ⟨w4.heap.size, 0, none⟩) 1 [7]) := (bts_one w4 7 (by omega) _ _ _ rfl))
      | (at_builtin; refine wpList_append_bts byteT rfl (.tmp 41) (.tmp 42) rfl w3.heap.size _ l rfl (O4.out.alloc _) (some ⟨w4.heap.size, 0, none⟩) 1 1 [7] rfl T7.out (by rw [hln.out]; omega) B5.out.size ?_; intro v5 w5 hown5 hg5 hv5; have B6 := Lib.hid ((O4.out.alloc _).grown B5.out hg5 B5.out.size); obtain ⟨go, co, rfl, hgo1, hgo2, hbt5, hfz5, hown5⟩ := hown5.form' (n := n + 1) (by rw [List.length_append, hln.out]; rfl) (by omega); have hco : (n : Int) ≤ (co : Int) := (by have h1 := ownB_cap hown5; rw [List.length_append, hln.out] at h1; simp only [List.length_cons, List.length_nil] at h1; omega); have O5 := Lib.hid hown5; have T5 := Lib.hid hbt5; have Z5 := Lib.hid hfz5; have G5 : Hid (w3.heap.size ≤ go ∧ go < w5.heap.size) := (⟨hgo1, hgo2⟩); clear hown5 hg5 hv5 hgo1 hgo2 hbt5 hfz5))
    clear O4 HE E3 B4 T7 B5 hd5
    have hcell : w5.cell? ⟨go, n, none⟩ = some (.int .u8 7) := by
      have h1 := T5.out.cell0 (i := n) (by omega)
      rw [List.getD_eq_getElem?_getD, List.getElem?_append_right (by rw [hln.out]; exact Nat.le_refl _), hln.out, Nat.sub_self] at h1
      exact h1
    have S5 : Hid (Sit w w5 p d t tm 0 (fun _ => none) [] P) := ⟨S3.out.pag.under B6.out, S3.out.tx.under B6.out, S3.out.t0, S3.out.m0⟩
    have OFF : Hid (go ∉ P.foot ∧ go ≠ t ∧ go ≠ tm ∧ w.heap.size ≤ go) := S3.out.off G5.out.1
    have hp := S3.out.pag.ids.1
    have BT : Bts w5 (some ⟨go, 0, none⟩) n l := by
      have h1 := T5.out.part 0 n (by omega)
      rw [List.drop_zero, List.take_append_of_le_length (by rw [hln.out]; exact Nat.le_refl _), List.take_of_length_le (by rw [hln.out]; exact Nat.le_refl _)] at h1
      exact h1
    have WR := Lib.hid (s_write w w5 p d t tm 0 _ [] P (some ⟨go, 0, none⟩) n co l S5.out BT hn5 (fun _ x hx => by
      injection hx with hx
      rw [← hx]
      refine ⟨?_, OFF.out.2.2.1⟩
      show go ≠ p
      rw [← hp]
      exact fun e => OFF.out.1 (pmem_foot.2 (.inl e))))
    have GP : Hid (go ≠ p ∧ go ≠ tm) := ⟨by rw [← hp]; exact fun e => OFF.out.1 (pmem_foot.2 (.inl e)), OFF.out.2.2.1⟩
    clear S3 hp BT
    go_wp2_with fail
    refine WR.out.mono ?_
    rintro e w6 ⟨rfl, hS6, ho6⟩
    have gn : go ∉ [p, tm] := by simpa using GP.out
    have S6 : Hid (Sit w w6 p d t tm 0 (one 1 (sec l)) [] P) := hS6
    have hcell6 : w6.cell? ⟨go, n, none⟩ = some (.int .u8 7) := (ho6.cell (p := ⟨go, n, none⟩) G5.out.2 gn).trans hcell
    have T6 : Bts w6 (some ⟨go, 0, none⟩) (n + 1) (l ++ [7]) := ho6.bts T5.out (fun _ x hx => by injection hx with hx; rw [← hx]; exact gn)
    have SC6 : Hid (PScr w6 w6 go (n + 1)) := PScr.start T6 (by omega) (fun j => (ho6.frozen (p := ⟨go, j, none⟩) G5.out.2 gn).trans (Z5.out j))
    clear hS6 ho6 T6 WR S5 T5 Z5 O5 hown5 hcell
    go_wp2_with fail
    go_loopw [8] (fun iv wr => ∃ q : Nat, q ≤ n + 1 ∧ iv = .int .i64 (q : Nat) ∧ PScr w6 wr go (n + 1)) (fun iv _ => n + 1 - (intOf iv).toNat)
    case atStart => exact ⟨0, by omega, rfl, SC6.out⟩
    case round =>
      obtain ⟨q, hq, rfl, hSc⟩ := hrel
      have SC := Lib.hid hSc
      by_cases hq2 : q < n + 1
      · obtain ⟨z, hz⟩ := hSc.cell q hq2
        have hfz := hSc.free q hq2
        have q0 : (0 : Int) ≤ (q : Int) := by omega
        have q1 : (q : Int) < (n : Int) + 1 := by omega
        clear hSc hcell6
        go_wp2_with fail
        go_roundw
        case rel => exact ⟨q + 1, by omega, by go_num, SC.out.next _⟩
        case measure => simp [intOf]; omega
      · have q9 : (n : Int) + 1 ≤ (q : Int) := by omega
        have S7 : Hid (Sit w wr p d t tm 0 (one 1 (sec l)) [] P) := S6.out.only_ hSc.only OFF.out
        clear hSc SC SC6 S6 hcell6 OFF GP G5 B6 L3 hq hq2
        go_wp2_with fail
        clear q9
        go_loopw [5, 9] (fun tv iv wr => ∃ j t tm P g C, j ≤ 3 ∧ iv = .int .i64 (j : Nat) ∧ tv = .pointer (some ⟨t, 0, none⟩) ∧ Sit w wr p d t tm 0 g C P ∧ seeB C g 1 = sec l ∧ C.length ≤ 1 ∧ (j ≤ 1 → g = one 1 (sec l) ∧ C = [])) (fun _ iv _ => 3 - (intOf iv).toNat)
        case atStart => exact ⟨0, t, tm, P, _, _, by omega, rfl, rfl, S7.out, rfl, by simp, fun _ => ⟨rfl, rfl⟩⟩
        case round =>
          clear S7
          obtain ⟨j, t2, tm2, P2, g, C, hj, rfl, rfl, hS, hse, hC1, hgc⟩ := hrel
          have SS := Lib.hid hS
          have SE : Hid (seeB C g 1 = sec l ∧ C.length ≤ 1 ∧ (j ≤ 1 → g = one 1 (sec l) ∧ C = [])) := ⟨hse, hC1, hgc⟩
          clear hS hse hC1 hgc
          by_cases hlj : j < 3
          · have hlj' : (j : Int) < 3 := by omega
            have RD := lp_read w wr p d 6 14 t2 tm2 g C P2 1 SS.out.pag SS.out.tx (by omega)
            rw [SE.out.1] at RD
            have RD := Lib.hid RD
            go_wp2_with fail
            refine RD.out.mono ?_
            rintro e w8 ⟨q8, T8, rfl, hq8, hh8, hP8, hT8, ho8⟩
            have S8 : Hid (Sit w w8 p d t2 tm2 0 g C P2) := ⟨hP8, hT8, SS.out.t0, SS.out.m0⟩
            have OF8 := Lib.hid (SS.out.off hq8)
            have hblk : Blk (sec l) := Blk.sec HL.out.2.1
            have H8 := Lib.hid hh8
            have B8 : Hid (Bts w8.drew (some ⟨q8, 0, none⟩) 512 (sec l)) := (hh8.bts hblk).drewN 1
            have L8 : Hid (Bts w8.drew A n l) := (HL.out.kept hP8.below).drewN 1
            obtain ⟨z, hz⟩ : ∃ z, z = strB (sec l) := ⟨_, rfl⟩
            obtain ⟨y, hy⟩ : ∃ y, y = strB l := ⟨_, rfl⟩
            have FU : Hid (Calls Tryz.prog 30 #[.string y] w8.drew fun e w' => e = .returned (.string z) ∧ Below w8.drew.heap.size w8.drew w') := by
              rw [hy, hz]
              exact pfull_any w8.drew l HL.out.2.1 (by rw [hln.out]; exact hn5)
            have hcv1 : (convert 56 9 (.slice (some ⟨q8, 0, none⟩) 512 512)).run Tryz.prog w8.drew = .ok (.string z) w8.drew := by rw [hz]; exact B8.out.toStr byteT Tryz.underlying9 512
            have hcv2 : (convert 56 9 (.slice A n c)).run Tryz.prog w8.drew = .ok (.string y) w8.drew := by rw [hy]; exact L8.out.toStr byteT Tryz.underlying9 c
            have HZ := Lib.hid hz
            clear hz hy hq8 hh8 hP8 hT8 ho8 RD SS hblk
            go_wp2_with fail
            go_region_with ((go_at_call 30; refine FU.out.mono ?_; rintro e w9 ⟨rfl, hb9⟩; have B9 := Lib.hid hb9; have hcv3 : (convert 56 9 (.slice (some ⟨q8, 0, none⟩) 512 512)).run Tryz.prog w9 = .ok (.string z) w9 := (by rw [HZ.out]; exact (B8.out.kept hb9).toStr byteT Tryz.underlying9 512); clear hb9))
            all_goals
              have B9' : Hid (Below w8.heap.size w8 w9) := ((Below.refl _ _).drew).trans B9.out
              have S9 := Lib.hid (S8.out.under B9'.out)
              have H9 : Hid (Held w9 q8 T8 ((sec l).map u8v).toArray) := H8.out.only (Only.of_below (F := []) B9'.out) (by simp)
              have SC9 : Hid (PScr w9 w9 q8 512) := PScr.start (H9.out.bts (Blk.sec HL.out.2.1)) (by omega) (fun j => H9.out.frozen j)
              clear hcv1 hcv2 B8 L8 FU B9 B9' S8 H8 H9
              (try clear hcv3)
              go_wp2_with fail
              go_loopw [12] (fun iv wr => ∃ q : Nat, q ≤ 512 ∧ iv = .int .i64 (q : Nat) ∧ PScr w9 wr q8 512) (fun iv _ => 512 - (intOf iv).toNat)
              case atStart => exact ⟨0, by omega, rfl, SC9.out⟩
              case round =>
                obtain ⟨q, hq, rfl, hSc⟩ := hrel
                have SC := Lib.hid hSc
                by_cases hq2 : q < 512
                · obtain ⟨z, hz⟩ := hSc.cell q hq2
                  have hfz := hSc.free q hq2
                  have q0 : (0 : Int) ≤ (q : Int) := by omega
                  have q1 : (q : Int) < 512 := by omega
                  clear hSc
                  go_wp2_with fail
                  go_roundw
                  case rel => exact ⟨q + 1, by omega, by go_num, SC.out.next _⟩
                  case measure => simp [intOf]; omega
                · obtain rfl : q = 512 := by omega
                  have SX := Lib.hid (S9.out.only_ hSc.only OF8.out)
                  obtain ⟨wx, hwx⟩ : ∃ wx, wx = wr := ⟨_, rfl⟩
                  rw [← hwx] at SX ⊢
                  clear hSc SC SC9 S9 OF8 hwx
                  by_cases h1 : j = 1
                  · subst h1
                    obtain ⟨rfl, rfl⟩ := SE.out.2.2 (by omega)
                    have hblk : Blk (sec l) := Blk.sec HL.out.2.1
                    have hfn : Fine 14 (one 1 (sec l)) := fine_one (by omega) hblk
                    have hd1 : (dirt 14 (one 1 (sec l))).length = 1 := dirt_one (by omega) _
                    have CM := lp_commit w wx p d 6 14 t2 tm2 (one 1 (sec l)) [] P2 SX.out.pag SX.out.tx SX.out.t0 (by simp)
                    have CM := Lib.hid (CM.mono fun e w' h => h.1.some_ (by rw [hd1]; omega) (by rw [hd1, need_small hfn hd1]; omega))
                    clear SX hfn hd1 hblk
                    go_wp2_with fail
                    refine CM.out.mono ?_
                    rintro e wy ⟨rfl, hH⟩
                    have BG := Lib.hid (l_begin w wy p d 6 14 _ hH)
                    clear CM hH
                    go_wp2_with fail
                    refine BG.out.mono ?_
                    rintro e wz ⟨t3, tm3, rfl, P3, hP3, hT3, k1, k2⟩
                    have S3 : Hid (Sit w wz p d t3 tm3 0 (fun _ => none) [one 1 (sec l)] P3) := ⟨hP3, hT3, k1, k2⟩
                    clear hP3 hT3 k1 k2 BG
                    go_wp2_with fail
                    go_roundw
                    case rel => exact ⟨2, t3, tm3, P3, _, _, by omega, rfl, rfl, S3.out, rfl, by simp, fun h => by omega⟩
                    case measure => simp [intOf]
                  · have hb : ((j : Int) == 1) = false := by
                      have : (j : Int) ≠ 1 := by omega
                      simpa using this
                    go_wp2_with fail
                    go_roundw
                    case rel => exact ⟨j + 1, t2, tm2, P2, g, C, by omega, by go_num, rfl, SX.out, SE.out.1, SE.out.2.1, fun h => SE.out.2.2 (by omega)⟩
                    case measure => simp [intOf]; omega
          · obtain rfl : j = 3 := by omega
            have BB := Lib.hid SS.out.pag.below
            obtain ⟨wx, hwx⟩ : ∃ wx, wx = wr := ⟨_, rfl⟩
            rw [← hwx] at BB ⊢
            clear SS SE hwx
            have n1 := Lib.hid (pn_begin wx)
            have n2 := Lib.hid (pn_read wx 0)
            have n3 := Lib.hid (pn_commit wx)
            have n4 := Lib.hid (pn_abort wx)
            have n5 := Lib.hid (pn_write wx 0 (.slice none 0 0))
            have n6 := Lib.hid (pn_dirty wx)
            have n7 := Lib.hid (pn_blocks wx)
            have n8 := Lib.hid (pn_done wx)
            have n9 := Lib.hid (pn_synced wx)
            have n10 := Lib.hid (pn_sync wx)
            go_wp2_with fail
            refine n1.out.mono ?_
            rintro e w' ⟨rfl, rfl⟩
            go_wp2_with fail
            refine n2.out.mono ?_
            rintro e w' ⟨rfl, rfl⟩
            go_wp2_with fail
            refine n3.out.mono ?_
            rintro e w' ⟨rfl, rfl⟩
            go_wp2_with fail
            refine n4.out.mono ?_
            rintro e w' ⟨rfl, rfl⟩
            go_wp2_with fail
            refine n5.out.mono ?_
            rintro e w' ⟨rfl, rfl⟩
            go_wp2_with fail
            refine n6.out.mono ?_
            rintro e w' ⟨rfl, rfl⟩
            go_wp2_with fail
            refine n7.out.mono ?_
            rintro e w' ⟨rfl, rfl⟩
            go_wp2_with fail
            refine n8.out.mono ?_
            rintro e w' ⟨rfl, rfl⟩
            go_wp2_with fail
            refine n9.out.mono ?_
            rintro e w' ⟨rfl, rfl⟩
            go_wp2_with fail
            refine n10.out.mono ?_
            rintro e w' ⟨rfl, rfl⟩
            go_wp2_with fail
            go_ret
            exact ⟨rfl, BB.out⟩
set_option maxRecDepth 100000 in
theorem opens {H : Type} {enc : TypeId × Value → H} {W : World} {base : Nat} {args : Array Value} {ds : List (DataW H)} {p : List MemPlace}
    (hval : ∀ (j : Nat) t v, Tryz.f5.params[j]? = some t → args[j]? = some v → Value.okWide Tryz.prog W .any base t v)
    (hA : DataW.TrodAll enc Tryz.prog W 0 (fun _ => true) true Tryz.f5.params.toList args.toList ds p) (hlt : ∀ x ∈ p, x.block < W.heap.size) (hsz : (DataW.weightsEach Tryz.prog Tryz.f5.params.toList ds).all (· ≤ reachBytes) = true) :
    Calls Tryz.prog 5 args W fun e W' => e = .returned (.bool true) ∧ Below W.heap.size W W' := by
  rw [Tryz.params5] at hA hval hsz
  obtain ⟨v0, vs0, d0, ds0, p0, q0, hargs, rfl, rfl, h0, r0⟩ := trodAll_cons hA
  obtain ⟨rfl, rfl, rfl⟩ := trodAll_nil r0
  obtain rfl : args = #[v0] := by cases args; simp_all
  obtain ⟨A, N, c, l, rfl, hb, hN, hN2, _⟩ := open_bts Tryz.underlying56 Tryz.underlying5 cells5 (hval 0 56 v0 rfl rfl) h0
  exact walk A N c l W hb (by have h7 : maxLen = 9223372036854775807 := rfl; omega)

set_option maxRecDepth 100000 in
theorem lifted (os : Os) (started : os.Started) (H : Type) (enc : TypeId × Value → H) :
    ReturnsInHanded {} Tryz.checked os 5 .any (Rows.pagerBytesSpec.pre6 enc Tryz.prog Tryz.f5 Rows.pagerBytesRow.domain false) (Rows.pagerBytesSpec.post enc Tryz.prog Tryz.f5 false true false false) := by
  refine returnsInHanded_of_change_sized (C := Tryz.checked) own started (by kernel_rfl) Tryz.func5
    (ChangeSpec.witness6 (enc := enc) (C := Tryz.checked) false ⟨#[], #[.slice none 0 0], []⟩ 8 (by kernel_rfl) (by kernel_rfl) (by kernel_rfl) (by kernel_rfl)) ?_
  intro W base args ds gs before hval hW _ hsz0 _
  refine law_calls laidOut Tryz.underlying4 rfl (by rw [Tryz.params5]; exact of_decide_eq_true (by kernel_rfl)) rfl (fun ds h => by match ds, h with | [_], _ => rfl) hW ?_
  obtain ⟨rfl, p, hA, hlt⟩ := law_args rfl hW
  have hsz : (DataW.weightsEach Tryz.prog (Tryz.f5.params.toList ++ []) (ds ++ [])).all (· ≤ reachBytes) = true := hsz0
  rw [List.append_nil, List.append_nil] at hsz
  exact opens hval hA hlt hsz

theorem over : Rows.pagerBytesRow.holds Tryz.pinned (OpenSpec.ofChange Rows.pagerBytesSpec) :=
  OpenClaim.holds_of_wide 5 Tryz.f5 rfl rfl rfl rfl rfl rfl rfl ⟨rfl, rfl, rfl, rfl, rfl⟩ rfl rfl rfl rfl rfl (by kernel_rfl) Tryz.func5 (by kernel_rfl)
    (of_decide_eq_true (by kernel_rfl)) (by unfold Func.isWrapper; first | (rw [if_pos (by decide +kernel)]; kernel_rfl) | (rw [if_neg (by decide +kernel)]; exact ⟨rfl, rfl⟩))
    (fun os started H enc _ => lifted os started H enc)

theorem proved : Rows.PagerBytesSaid := over

end Go.Proofs.YtaoldopkehbhkaaGreat.pagerBytes
