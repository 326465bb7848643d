/-
  P2.2, P2.4: each write fills a sector with its own number; behind a crash each sector is whole, one write's, and none older than the last flush: the law answers true for every input, and its arguments read behind the call as before. No condition beside the row's own.
-/
import Derived.Test.YtieodkjaoocmpaaOps
import Derived.Deep.CutBlock
import Derived.Deep.CutRange
import Derived.Deep.DeepCutAuto
import Derived.Deep.LoopGhost
import Derived.Test.YtieodkjaoocmpaaWholeM
namespace Go.Proofs.Ytieodkjaoocmpaa.diskWhole
open Go.ChangeShapes Go.WideShapes Go.ChangeAt Go.RowKit

theorem own : ownKnob Try.prog.godebug = none := by kernel_rfl
theorem laidOut : laidOutB Try.prog = true := by kernel_rfl

/-- Which sector write i goes to. -/
def wto (l : List Nat) (i : Nat) : Nat := l.getD i 0 % 2
theorem wto_lt (l : List Nat) (i : Nat) : wto l i < 2 := Nat.mod_lt _ (by omega)
theorem and_u8 {x : Nat} (hx : x < 256) : bits .and .u8 (x : Int) 1 = ((x % 2 : Nat) : Int) := by
  have h := u8_and_nat x 1 hx (by decide)
  rw [nat_mask1] at h
  exact h
theorem wto_int {l : List Nat} {i x : Nat} (hx : x = l.getD i 0) (hl : ∀ y ∈ l, y < 256) : wrap64 (bits .and .u8 (x : Int) 1) = ((wto l i : Nat) : Int) := by
  have h : x < 256 := by
    rw [hx, List.getD_eq_getElem?_getD]
    rcases Nat.lt_or_ge i l.length with hi | hi
    · rw [List.getElem?_eq_getElem hi]; exact hl _ (List.getElem_mem hi)
    · rw [List.getElem?_eq_none hi]; show 0 < 256; omega
  rw [and_u8 h, hx]
  unfold wto wrap64
  omega

/-- The disk behind k writes. -/
def Rel (w wr : World) (d : Nat) (l : List Nat) (fl k : Nat) : Prop := ∃ F m, Lives w wr d F m ∧ Dsk.Whole (wto l) (Dsk.least (wto l) fl k) k m

/-- A sector being filled: j bytes v, zeros behind. -/
def Fill (wr : World) (g v j : Nat) : Prop := OwnB wr 0 5 (.slice (some ⟨g, 0, none⟩) 512 512) (List.replicate j v ++ List.replicate (512 - j) 0)
theorem Fill.start (u : World) (v : Nat) : Fill (u.alloc (.cells (madeCells #[.int .u8 0] 512) 5)) u.heap.size v 0 := by
  have h := own_zeros (e := 5) u 512 (by simp [maxLen]) u.heap.size rfl 0 (Nat.zero_le _)
  exact h
theorem Fill.next {wr : World} {g v j : Nat} (h : Fill wr g v j) (hj : j < 512) (hv : v < 256) : Fill (wr.setCell ⟨g, j, none⟩ (.int .u8 (v : Int))) g v (j + 1) := by
  have := OwnB.stored' h (by simp; omega) j v hv
  unfold Fill
  have e : (List.replicate j v ++ List.replicate (512 - j) 0).set j v = List.replicate (j + 1) v ++ List.replicate (512 - (j + 1)) 0 := by
    obtain ⟨r, hr⟩ : ∃ r, 512 - j = r + 1 := ⟨512 - j - 1, by omega⟩
    have hr' : 512 - (j + 1) = r := by omega
    rw [hr, hr', List.set_append_right _ _ (by simp), List.replicate_succ, List.replicate_succ']
    simp
  rw [← e]
  exact this
theorem Fill.bts {wr : World} {g v : Nat} (h : Fill wr g v 512) : Bts wr (some ⟨g, 0, none⟩) 512 (Dsk.rep v) := by
  have h' : OwnB wr 0 5 (.slice (some ⟨g, 0, none⟩) 512 512) (Dsk.rep v) := by
    unfold Fill at h
    rw [Nat.sub_self, List.replicate_zero, List.append_nil] at h
    exact h
  obtain ⟨g2, cap, hv, _, _, hb, _⟩ := h'.form' (Dsk.rep_length v) (by omega)
  injection hv with hv _ _
  rw [hv]
  exact hb
theorem Fill.lt {wr : World} {g v j : Nat} (h : Fill wr g v j) : g < wr.heap.size := (h.1.lt g rfl).2
theorem Fill.row {wr : World} {g v j : Nat} (h : Fill wr g v j) (hj : j ≤ 512) : wr.ownsRow 0 5 1 (.slice (some ⟨g, 0, none⟩) 512 512) 512 ((List.replicate j v ++ List.replicate (512 - j) 0).map u8v) := by
  have h1 := h.1
  have e : (List.replicate j v ++ List.replicate (512 - j) 0).length = 512 := by rw [List.length_append, List.length_replicate, List.length_replicate]; omega
  rw [e] at h1
  exact h1
theorem Fill.free {wr : World} {g v j : Nat} (h : Fill wr g v j) (hj : j ≤ 512) (i : Nat) : wr.frozen? ⟨g, i, none⟩ = false := (h.row hj).frozenAt i
theorem Fill.cell {wr : World} {g v j i : Nat} (h : Fill wr g v j) (hj : j ≤ 512) (hi : i < 512) : ∃ u, wr.cell? ⟨g, i, none⟩ = some u := by
  have e : ((List.replicate j v ++ List.replicate (512 - j) 0).map u8v).length = 512 := by rw [List.length_map, List.length_append, List.length_replicate, List.length_replicate]; omega
  rw [(h.row hj).cellAt i (by omega)]
  exact ⟨_, List.getElem?_eq_getElem (by omega)⟩

/-- What Read answered, a sector full of v. -/
theorem fresh_rep {w w' : World} {x : Nat} {v : Value} (h : Fresh512 w (Dsk.rep x) v w') : v = .slice (some ⟨w.heap.size, 0, none⟩) 512 512 ∧ (∀ i, i < 512 → w'.cell? ⟨w.heap.size, i, none⟩ = some (.int .u8 (x : Int))) ∧ w.heap.size < w'.heap.size ∧ Below w.heap.size w w' := by
  obtain ⟨rfl, ho, hbl⟩ := h
  refine ⟨rfl, ?_, (ho.1.lt _ rfl).2, hbl⟩
  obtain ⟨g, cap, hv, _, _, hb, _⟩ := ho.form' (Dsk.rep_length x) (by omega)
  injection hv with hv _ _
  rw [← hv] at hb
  intro i hi
  have := hb.cell0 hi
  rw [Dsk.rep_getD hi] at this
  exact this

set_option maxRecDepth 100000 in
set_option maxHeartbeats 3200000 in
theorem walk (A : Option Addr) (n c : Nat) (l : List Nat) (fl : Nat) (A2 : Option Addr) (n2 c2 : Nat) (l2 : List Bool) (w : World) (hl : Bts w A n l) (hn : n ≤ 9223372036854775807) (hf : fl < 256) (hl2 : Bls w A2 n2 l2) (hn2 : n2 ≤ 9223372036854775807) (hA2 : 0 < n2 → ∀ a, A2 = some a → a.block < w.heap.size) :
    Calls Try.prog 3 #[.slice A n c, .int .u8 (fl : Int), .slice A2 n2 c2] w fun e w' => e = .returned (.bool true) ∧ Below w.heap.size w w' := by
  have hmk : ∀ u, (Instr.makeSlice 22 (.int .i64 512) (.int .i64 512)).run Try.prog u = .ok (.slice (some ⟨u.heap.size, 0, none⟩) 512 512) (u.alloc (.cells (madeCells #[.int .u8 0] 512) 5)) := fun u => run_make_bts byteT 512 (by omega) .i64 .i64 u
  have HL := Lib.hid hl
  have HL2 := Lib.hid hl2
  have HA2 := Lib.hid hA2
  clear hl hl2 hA2
  go_enter Try.func3, Try.ntmps3
  go_wp2_with fail
  refine (fixed_any _).mono ?_
  rintro e w1 ⟨rfl, hbel⟩
  have B1 := Lib.hid hbel
  have L1 := Lib.hid (HL.out.kept hbel)
  have K1 := Lib.hid (HL2.out.kept hbel)
  clear hbel HL HL2
  go_wp2_with fail
  refine (new_any _ 2).mono ?_
  intro e w2 hn2'
  obtain ⟨d, F, rfl, hL⟩ := hn2'.lives
  have R2 : Hid (Rel w1 w2 d l fl 0) := ⟨F, Dsk.fresh 2, hL, by rw [Dsk.least_zero]; exact Dsk.Whole.start _⟩
  clear hn2' hL
  go_upto_block 0 with fail
  go_cut [] (fun wc => ∃ k : Nat, k ≤ 200 ∧ (k = n ∨ k = 200 ∧ 200 < n) ∧ Rel w1 wc d l fl k)
  case first =>
   go_wp2_with fail
   go_loopw [8, 9, 10] (fun i _ _ wr => ∃ k : Nat, k ≤ n ∧ k ≤ 200 ∧ i = .int .i64 k ∧ Rel w1 wr d l fl k) (fun i _ _ _ => n - (intOf i).toNat)
   case atStart => exact ⟨0, by omega, by omega, rfl, R2.out⟩
   case round =>
     obtain ⟨k, hk, hk2, rfl, F4, m, hL, hI⟩ := hrel
     have L4 := Lib.hid hL
     have I4 := Lib.hid hI
     clear hL hI R2
     by_cases hlt : k < n ∧ k < 200
     · obtain ⟨h1, h2⟩ := hlt
       have k0 : (0 : Int) ≤ (k : Int) := by omega
       have k1 : (k : Int) < (n : Int) := by omega
       have k2 : (k : Int) < 200 := by omega
       have FS := Lib.hid (Fill.start wr (k + 1))
       have BS := Lib.hid ((Below.refl wr.heap.size wr).alloc (Nat.le_refl _) (.cells (madeCells #[.int .u8 0] 512) 5))
       go_wp2_with fail
       clear hmk
       obtain ⟨g, hg⟩ : ∃ g, g = wr.heap.size := ⟨_, rfl⟩
       have HG := Lib.hid hg
       rw [← hg] at FS BS ⊢
       clear hg
       obtain ⟨wo, rfl⟩ : ∃ wo : World, wo = wr := ⟨_, rfl⟩
       go_loopw [10] (fun i wr => ∃ j : Nat, j ≤ 512 ∧ i = .int .i64 j ∧ Fill wr g (k + 1) j ∧ Below g wo wr) (fun i _ => 512 - (intOf i).toNat)
       case atStart => exact ⟨0, by omega, rfl, FS.out, BS.out⟩
       case round =>
         obtain ⟨j, hj, rfl, hFi, hBe⟩ := hrel
         have FI := Lib.hid hFi
         have BE := Lib.hid hBe
         by_cases hjN : j < 512
         · have j0 : (0 : Int) ≤ (j : Int) := by omega
           have j1 : (j : Int) < 512 := by omega
           obtain ⟨u, qc⟩ := hFi.cell hj hjN
           have qf := hFi.free hj j
           clear hFi hBe
           go_wp2_with fail
           go_roundw
           case rel => exact ⟨j + 1, by omega, by go_num, FI.out.next hjN (by omega), BE.out.setCell (Nat.le_refl _) _⟩
           case measure => simp [intOf]; omega
         · obtain rfl : j = 512 := by omega
           have BW : Hid (Below wo.heap.size wo wr) := by rw [← HG.out]; exact hBe
           have L5 := Lib.hid (L4.out.under BW.out)
           have FB := Lib.hid hFi.bts
           have GF : Hid (g ∉ F4) := by rw [HG.out]; exact L4.out.far _ (Nat.le_refl _)
           obtain ⟨b, off, rfl, hblt, hcell⟩ := (L1.out.kept L5.out.below).2.2 (by omega)
           have hx := hcell k h1
           obtain ⟨x, hxe⟩ : ∃ x, x = l.getD k 0 := ⟨_, rfl⟩
           have TI := Lib.hid (wto_int hxe L1.out.2.1)
           rw [← hxe] at hx
           clear hxe
           have HW : Hid (m.wait.length ≤ 5800000000000) := by have := I4.out.wlen; show _ ≤ _; omega
           clear hFi hBe hcell FI BE FS BS L4
           go_wp2_with fail
           rw [TI.out]
           refine (write_any _ d F4 m _ (some ⟨g, 0, none⟩) 512 512 (Dsk.rep (k + 1)) L5.out.disk FB.out (by omega) (fun _ y hy => by injection hy with hy; subst hy; exact GF.out) HW.out).mono ?_
           rintro e w6 ⟨rfl, ht⟩
           obtain ⟨F6, hL6, _, _⟩ := L5.out.turned ht
           have L6 := Lib.hid hL6
           have W6 := Lib.hid (I4.out.write (wto_lt l k) (Dsk.least_le _ _ _))
           have E6 := Lib.hid (I4.out.write_eq (wto_lt l k)).2
           clear hL6 ht L5 hx
           rw [E6.out]
           generalize m.write ((wto l k : Nat) : Int) (Dsk.rep (k + 1)) = m6 at *
           by_cases hkf : k = fl
           · subst hkf
             have W7 := Lib.hid W6.out.flush
             have E7 := Lib.hid W6.out.flush_eq.2
             go_wp2_with fail
             refine (flush_any _ d F6 m6 L6.out.disk (by have := W6.out.wlen; omega)).mono ?_
             rintro e w7 ⟨rfl, ht⟩
             obtain ⟨F7, hL7, _, _⟩ := L6.out.turned ht
             have L7 := Lib.hid hL7
             clear hL7 ht L6
             rw [E7.out]
             go_wp2_with fail
             go_roundw
             case rel => exact ⟨k + 1, by omega, by omega, by go_num, F7, _, L7.out, by rw [Dsk.least_at]; exact W7.out⟩
             case measure => simp [intOf]; omega
           · have hne : ((k : Int) == (fl : Int)) = false := by simp; omega
             go_wp2_with fail
             go_roundw
             case rel => exact ⟨k + 1, by omega, by omega, by go_num, F6, _, L6.out, by rw [Dsk.least_other hkf]; exact W6.out⟩
             case measure => simp [intOf]; omega

     · have R3 : Hid (Rel w1 wr d l fl k) := ⟨F4, m, L4.out, I4.out⟩
       clear hmk
       by_cases hkn : k < n
       · have hk200 : k = 200 := by omega
         have k1 : (k : Int) < (n : Int) := by omega
         have k2 : decide ((k : Int) < 200) = false := by simp; omega
         go_wp2_with fail
         go_meet
         case rel => exact ⟨k, by omega, by omega, R3.out⟩
       · have k1 : decide ((k : Int) < (n : Int)) = false := by simp; omega
         go_wp2_with fail
         go_meet
         case rel => exact ⟨k, by omega, by omega, R3.out⟩
  case rest =>
   obtain ⟨k, hk2, hend, F4, m, hL, hI⟩ := hcut
   have L4 := Lib.hid hL
   have I4 := Lib.hid hI
   clear hL hI R2
   have CR := Lib.hid (I4.out.crash l2)
   have HW : Hid (m.wait.length ≤ 5800000000000) := by have := I4.out.wlen; show _ ≤ _; omega
   obtain ⟨wo, rfl⟩ : ∃ wo : World, wo = wc := ⟨_, rfl⟩
   have KL := Lib.hid (K1.out.kept L4.out.below)
   have AF : Hid (0 < n2 → ∀ x, A2 = some x → x.block ∉ F4) := fun h0 x hx => L4.out.old _ (Nat.lt_of_lt_of_le (HA2.out h0 x hx) B1.out.size)
   go_wp2_with fail
   refine (crash_any _ d F4 m A2 n2 c2 l2 L4.out.disk KL.out hn2 AF.out HW.out).mono ?_
   rintro e w5 ⟨rfl, ht⟩
   obtain ⟨F5, hL5, _, _⟩ := L4.out.turned ht
   have L5 := Lib.hid hL5
   clear hL5 ht L4 KL AF HW I4
   have PZ : Hid ((m.crash l2).wait.length = 0) := rfl
   have DZ : Hid ((m.crash l2).dead = false) := rfl
   generalize m.crash l2 = mc at *
   go_wp2_with fail
   go_loopw [11, 12, 13, 14, 15, 16] (fun s _ _ _ _ _ wr => ∃ t : Nat, t ≤ 2 ∧ s = .int .i64 t ∧ Lives w1 wr d F5 mc) (fun s _ _ _ _ _ _ => 2 - (intOf s).toNat)
   case atStart => exact ⟨0, by omega, rfl, L5.out⟩
   case round =>
     obtain ⟨t, ht2, rfl, hL6⟩ := hrel
     have L6 := Lib.hid hL6
     clear hL6 L5
     by_cases hlt3 : t < 2
     · have t0 : (0 : Int) ≤ (t : Int) := by omega
       have t1 : (t : Int) < 2 := by omega
       obtain ⟨⟨v, hv, hlo, hhi, hat⟩, hre⟩ := CR.out t hlt3
       have HLO := Lib.hid hlo
       have HAT := Lib.hid hat
       clear hlo hat
       go_wp2_with fail
       refine (read_any _ d F5 mc t L6.out.disk).mono ?_
       intro e w6 ht6
       obtain ⟨vv, rfl, hf6⟩ := ht6.ok hre
       rw [Int.toNat_natCast, hv] at hf6
       obtain ⟨rfl, hc6, hlt6, hb6⟩ := fresh_rep hf6
       have L7 := Lib.hid (L6.out.under hb6)
       have C7 := Lib.hid hc6
       clear L6 hf6 ht6 hb6 hc6 hv hre
       obtain ⟨wz, rfl⟩ : ∃ wz : World, wz = wr := ⟨_, rfl⟩
       generalize wz.heap.size = g at *
       go_upto_block 6 with fail
       go_cut [14, 15] from 63 to 160 (fun le _ wc => ∃ q : Nat, le = .int .i64 q ∧ q ≤ v ∧ wc = w6)
       case first =>
         go_wp2_with fail
         go_loop [14, 15] (fun le i => ∃ j : Nat, j ≤ n ∧ j ≤ 200 ∧ j ≤ fl + 1 ∧ (0 < j → fl < k) ∧ i = .int .i64 j ∧ le = .int .i64 ((Dsk.last (wto l) j t : Nat))) (fun _ i => n - (intOf i).toNat)
         case atStart => exact ⟨0, by omega, by omega, by omega, by omega, rfl, rfl⟩
         case round =>
           obtain ⟨j, hj1, hj2, hj3, hj4, rfl, rfl⟩ := hrel
           by_cases hC : j < n ∧ j < 200 ∧ j ≤ fl ∧ fl < k
           · obtain ⟨q1, q2, q3, q4⟩ := hC
             have j0 : (0 : Int) ≤ (j : Int) := by omega
             have j1 : (j : Int) < (n : Int) := by omega
             have j2 : (j : Int) < 200 := by omega
             have j3 : (j : Int) ≤ (fl : Int) := by omega
             have j4 : (fl : Int) < min (n : Int) 200 := by omega
             obtain ⟨b, off, rfl, hblt, hcell⟩ := (L1.out.kept L7.out.below).2.2 (by omega)
             have hx := hcell j q1
             obtain ⟨x, hxe⟩ : ∃ x, x = l.getD j 0 := ⟨_, rfl⟩
             have hle : Dsk.last (wto l) j t ≤ 200 := Nat.le_trans (Dsk.last_le _ _ _) hj2
             by_cases hto : wto l j = t
             · have hq : (wrap64 (bits .and .u8 (x : Int) 1) == (t : Int)) = true := by rw [wto_int hxe L1.out.2.1, hto]; simp
               have E1 : Hid (Dsk.last (wto l) (j + 1) t = j + 1) := by show _ = _; unfold Dsk.last; rw [if_pos hto]
               rw [← hxe] at hx
               clear hxe hcell hto
               generalize Dsk.last (wto l) j t = le at *
               go_wp2_with fail
               go_round
               case rel => exact ⟨j + 1, by omega, by omega, by omega, fun _ => q4, by go_num, by rw [E1.out]; go_num⟩
               case measure => simp [intOf] <;> omega
             · have hq : (wrap64 (bits .and .u8 (x : Int) 1) == (t : Int)) = false := by rw [wto_int hxe L1.out.2.1]; simp; omega
               have E1 : Hid (Dsk.last (wto l) (j + 1) t = Dsk.last (wto l) j t) := by show _ = _; rw [Dsk.last]; rw [if_neg hto]
               rw [← hxe] at hx
               clear hxe hcell hto
               generalize Dsk.last (wto l) j t = le at *
               go_wp2_with fail
               go_round
               case rel => exact ⟨j + 1, by omega, by omega, by omega, fun _ => q4, by go_num, by rw [E1.out]⟩
               case measure => simp [intOf] <;> omega
           · have LE : Hid (Dsk.last (wto l) j t ≤ v) := by
               have h1 := HLO.out
               unfold Dsk.least at h1
               by_cases h2 : fl < k
               · rw [if_pos h2] at h1
                 have h3 : j = fl + 1 := by omega
                 rw [h3]
                 exact h1
               · have h3 : j = 0 := by omega
                 rw [h3]
                 exact Nat.zero_le _
             have hle : Dsk.last (wto l) j t ≤ 200 := Nat.le_trans (Dsk.last_le _ _ _) hj2
             clear HLO
             generalize Dsk.last (wto l) j t = le at *
             have j0 : (0 : Int) ≤ (j : Int) := by omega
             by_cases q1 : j < n
             · have j1 : (j : Int) < (n : Int) := by omega
               by_cases q2 : j < 200
               · have j2 : (j : Int) < 200 := by omega
                 by_cases q3 : j ≤ fl
                 · have j3 : (j : Int) ≤ (fl : Int) := by omega
                   have j4 : decide ((fl : Int) < min (n : Int) 200) = false := by simp; omega
                   go_wp2_with fail
                   all_goals
                     go_meet
                     case rel => exact ⟨le, rfl, LE.out, rfl⟩
                 · have j3 : decide ((j : Int) ≤ (fl : Int)) = false := by simp; omega
                   go_wp2_with fail
                   go_meet
                   case rel => exact ⟨le, rfl, LE.out, rfl⟩
               · have j2 : decide ((j : Int) < 200) = false := by simp; omega
                 go_wp2_with fail
                 go_meet
                 case rel => exact ⟨le, rfl, LE.out, rfl⟩
             · have j1 : decide ((j : Int) < (n : Int)) = false := by simp; omega
               go_wp2_with fail
               go_meet
               case rel => exact ⟨le, rfl, LE.out, rfl⟩
       case rest =>
         obtain ⟨le, rfl, hle, rfl⟩ := hcut
         have LE := Lib.hid hle
         clear hle HLO
         go_wp2_with fail
         go_loopw [16] (fun i wr => ∃ q : Nat, 1 ≤ q ∧ q ≤ 512 ∧ i = .int .i64 q ∧ Below wc.heap.size wc wr) (fun i _ => 512 - (intOf i).toNat)
         case atStart => exact ⟨1, by omega, by omega, rfl, Below.refl _ _⟩
         case round =>
           obtain ⟨q, hq1, hq2, rfl, hB⟩ := hrel
           have B7 := Lib.hid hB
           by_cases hq5 : q < 512
           · have c1 := (hB.cell (p := ⟨g, q, none⟩) hlt6).trans (C7.out q hq5)
             have c0 := (hB.cell (p := ⟨g, 0, none⟩) hlt6).trans (C7.out 0 (by omega))
             have i0 : (0 : Int) ≤ (q : Int) := by omega
             have i1 : (q : Int) < 512 := by omega
             clear hB
             go_wp2_with fail
             go_quiet (fail)
             go_wp2_with fail
             go_roundw
             case rel => exact ⟨q + 1, by omega, by omega, by go_num, B7.out.trans ⟨rfl, rfl, rfl, Nat.le_refl _, fun _ _ => rfl⟩⟩
             case measure => simp [intOf] <;> omega
           · obtain rfl : q = 512 := by omega
             have c0 := (hB.cell (p := ⟨g, 0, none⟩) hlt6).trans (C7.out 0 (by omega))
             have L8 := Lib.hid (L7.out.under hB)
             clear hB L7 C7
             rcases Nat.eq_zero_or_pos v with hv0 | hv0
             · have hl0 : le = 0 := by have := LE.out; omega
               rw [hv0] at c0
               subst hl0
               go_wp2_with fail
               go_roundw
               case rel => exact ⟨t + 1, by omega, by go_num, L8.out⟩
               case measure => simp [intOf] <;> omega
             · obtain ⟨b, off, rfl, hblt, hcell⟩ := (L1.out.kept L8.out.below).2.2 (by omega)
               obtain ⟨u, hu⟩ : ∃ u, v = u + 1 := ⟨v - 1, by omega⟩
               have hx := hcell u (by omega)
               have hto := HAT.out hv0
               rw [hu, Nat.add_sub_cancel] at hto
               obtain ⟨x, hxe⟩ : ∃ x, x = l.getD u 0 := ⟨_, rfl⟩
               have p4 : (wrap64 (bits .and .u8 (x : Int) 1) == (t : Int)) = true := by rw [wto_int hxe L1.out.2.1, hto]; simp
               have eu : v - 1 = u := by omega
               have le1 := LE.out
               have p1 : decide ((v : Int) < (le : Int)) = false := by simp; omega
               have p2 : decide ((n : Int) < (v : Int)) = false := by simp; omega
               have p1' : decide (v < le) = false := by simp; omega
               have p2' : decide (n < v) = false := by simp; omega
               have p3 : (0 : Int) < (v : Int) := by omega
               have p3' : 0 < v := by omega
               have p5 : (1 : Int) ≤ (v : Int) := by omega
               have p6 : (v : Int) - 1 < (n : Int) := by omega
               have p7 : (v : Int) ≤ 200 := by omega
               rw [← hxe, ← eu] at hx
               have T2 : Hid (t < 2) := hlt3
               clear hxe hcell hto HAT LE CR hu eu hn hf hn2 hk2 hend hhi ht2 hlt3 hv0 le1 hblt hlt6 hq1 hq2 hq5
               go_wp2_with fail
               go_roundw
               case rel => exact ⟨t + 1, by have := T2.out; omega, by go_num, L8.out⟩
               case measure => (have := T2.out; simp [intOf] <;> omega)
     · obtain rfl : t = 2 := by omega
       go_wp2_with fail
       refine (pending_any _ d F5 mc L6.out.disk).mono ?_
       rintro e w' ⟨rfl, rfl⟩
       rw [PZ.out]
       go_wp2_with fail
       refine (dead_any _ d F5 mc L6.out.disk).mono ?_
       rintro e w' ⟨rfl, rfl⟩
       rw [DZ.out]
       go_wp2_with fail
       go_ret
       exact ⟨rfl, B1.out.trans (L6.out.below.mono B1.out.size)⟩

theorem opens {H : Type} {enc : TypeId × Value → H} {W : World} {base : Nat} {args : Array Value} {ds : List (DataW H)} {p : List MemPlace}
    (hval : ∀ (j : Nat) t v, Try.f3.params[j]? = some t → args[j]? = some v → Value.okWide Try.prog W .any base t v)
    (hA : DataW.TrodAll enc Try.prog W 0 (fun _ => true) true Try.f3.params.toList args.toList ds p) (hlt : ∀ x ∈ p, x.block < W.heap.size) (hsz : (DataW.weightsEach Try.prog Try.f3.params.toList ds).all (· ≤ reachBytes) = true) :
    Calls Try.prog 3 args W fun e W' => e = .returned (.bool true) ∧ Below W.heap.size W W' := by
  rw [Try.params3] at hA hval hsz
  obtain ⟨v0, vs0, d0, ds0, p0, q0, hargs, rfl, rfl, h0, r0⟩ := trodAll_cons hA
  obtain ⟨v1, vs1, d1, ds1, p1, q1, rfl, rfl, rfl, h1, r1⟩ := trodAll_cons r0
  obtain ⟨v2, vs2, d2, ds2, p2, q2, rfl, rfl, rfl, h2, r2⟩ := trodAll_cons r1
  obtain ⟨rfl, rfl, rfl⟩ := trodAll_nil r2
  obtain rfl : args = #[v0, v1, v2] := by cases args; simp_all
  obtain ⟨A, n, c, l, rfl, hb, hnc, hc, _⟩ := open_bts Try.underlying22 Try.underlying5 cells5 (hval 0 22 v0 rfl rfl) h0
  obtain ⟨fl, rfl, hf⟩ := open_u8 (hval 1 5 v1 rfl rfl) h1
  obtain ⟨A2, n2, c2, l2, rfl, hl2, hn2, hlt2, _⟩ := open_keep (hval 2 23 v2 rfl rfl) h2
  exact walk A n c l fl A2 n2 c2 l2 W hb (by simp only [maxLen] at hc; omega) hf hl2 hn2 hlt2

set_option maxRecDepth 100000 in
theorem lifted (os : Os) (started : os.Started) (H : Type) (enc : TypeId × Value → H) :
    ReturnsInHanded {} Try.checked os 3 .any (Rows.diskWholeSpec.pre6 enc Try.prog Try.f3 Rows.diskWholeRow.domain false) (Rows.diskWholeSpec.post enc Try.prog Try.f3 false true false false) := by
  refine returnsInHanded_of_change_sized (C := Try.checked) own started (by kernel_rfl) Try.func3
    (ChangeSpec.witness6 (enc := enc) (C := Try.checked) false ⟨#[], #[.slice none 0 0, .int .u8 0, .slice none 0 0], []⟩ 8 (by kernel_rfl) (by kernel_rfl) (by kernel_rfl) (by kernel_rfl)) ?_
  intro W base args ds gs before hval hW _ hsz0 _
  refine law_calls laidOut Try.underlying4 rfl (by rw [Try.params3]; exact of_decide_eq_true (by kernel_rfl)) rfl (fun ds h => by match ds, h with | [_, _, _], _ => rfl) hW ?_
  obtain ⟨rfl, p, hA, hlt⟩ := law_args rfl hW
  have hsz : (DataW.weightsEach Try.prog (Try.f3.params.toList ++ []) (ds ++ [])).all (· ≤ reachBytes) = true := hsz0
  rw [List.append_nil, List.append_nil] at hsz
  exact opens hval hA hlt hsz

theorem over : Rows.diskWholeRow.holds Try.pinned (OpenSpec.ofChange Rows.diskWholeSpec) :=
  OpenClaim.holds_of_wide 3 Try.f3 rfl rfl rfl rfl rfl rfl rfl ⟨rfl, rfl, rfl, rfl, rfl⟩ rfl rfl rfl rfl rfl (by kernel_rfl) Try.func3 (by kernel_rfl)
    (of_decide_eq_true (by kernel_rfl)) (by unfold Func.isWrapper; first | (rw [if_pos (by decide +kernel)]; kernel_rfl) | (rw [if_neg (by decide +kernel)]; exact ⟨rfl, rfl⟩))
    (fun os started H enc _ => lifted os started H enc)

theorem proved : Rows.DiskWholeSaid := over

end Go.Proofs.Ytieodkjaoocmpaa.diskWhole
