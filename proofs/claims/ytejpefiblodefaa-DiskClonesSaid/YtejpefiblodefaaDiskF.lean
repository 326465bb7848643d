/-
  The contracts of the laws' own helpers 'written' and 'full'.
-/
import Derived.Test.YtejpefiblodefaaOps
import Derived.Laws.BitsAllLaws
namespace Go.Proofs.Ytejpefiblodefaa
open Go.RowKit

/-- An index of four, by its last two bits. -/
def low2 (x : Int) : Int := bits .and .i64 x 3
theorem low2_range (x : Int) : 0 ≤ low2 x ∧ low2 x < 4 := by
  have h : low2 x = IntKind.i64.wrap ((BitVec.ofInt 64 x &&& BitVec.ofInt 64 3).toNat : Int) := rfl
  rw [h, IntKind.wrap_i64]
  have : (BitVec.ofInt 64 x &&& BitVec.ofInt 64 3).toNat ≤ 3 := by
    rw [BitVec.toNat_and]
    exact Nat.and_le_right
  omega

def writeOp (m : Dsk.DM) (o : OpD) : Dsk.DM := m.write (low2 o.i) (nums o.data)
/-- A disk of four sectors with some writes. -/
def writtenM (l : List OpD) : Dsk.DM := l.foldl writeOp (Dsk.fresh 4)
theorem writtenM_snoc (l : List OpD) (o : OpD) : writtenM (l ++ [o]) = writeOp (writtenM l) o := by simp [writtenM]

structure Plain (m : Dsk.DM) (k : Nat) : Prop where
  len : m.dur = List.replicate 4 []
  dead : m.dead = false
  fuel : m.fuel = -1
  wait : m.wait.length ≤ k
theorem Plain.write {m : Dsk.DM} {k : Nat} (h : Plain m k) (o : OpD) : Plain (writeOp m o) (k + 1) ∧ writeOp m o = if o.data.size ≤ 512 then { m with wait := m.wait ++ [((low2 o.i).toNat, nums o.data)] } else m := by
  have hl := low2_range o.i
  have hlen : m.dur.length = 4 := by rw [h.len]; rfl
  have hf : m.fuel ≠ 0 := by rw [h.fuel]; decide
  have hb : m.burn = m := by unfold Dsk.DM.burn; rw [if_pos h.fuel]
  have e : writeOp m o = if o.data.size ≤ 512 then { m with wait := m.wait ++ [((low2 o.i).toNat, nums o.data)] } else m := by
    unfold writeOp Dsk.DM.write
    rw [h.dead, hlen, nums_length, hb]
    simp only [Bool.false_eq_true, if_false, if_neg hf]
    by_cases hs : o.data.size ≤ 512
    · rw [if_neg (by omega), if_pos hs, h.dead]
    · rw [if_pos (by omega), if_neg hs]
  refine ⟨?_, e⟩
  rw [e]
  split
  · exact ⟨h.len, h.dead, h.fuel, by have := h.wait; simp; omega⟩
  · exact ⟨h.len, h.dead, h.fuel, by have := h.wait; omega⟩
theorem fold_plain (l : List OpD) : ∀ {m : Dsk.DM} {k : Nat}, Plain m k → Plain (l.foldl writeOp m) (k + l.length) := by
  induction l with
  | nil => intro m k h; exact h
  | cons o r ih =>
    intro m k h
    have := ih (h.write o).1
    rw [List.foldl_cons, List.length_cons]
    have e : k + (r.length + 1) = k + 1 + r.length := by omega
    rw [e]
    exact this
theorem writtenM_plain (l : List OpD) : Plain (writtenM l) l.length := by
  have := fold_plain l (m := Dsk.fresh 4) (k := 0) ⟨rfl, rfl, rfl, Nat.le_refl _⟩
  rw [Nat.zero_add] at this
  exact this

def WRel (w wr : World) (d : Nat) (m : Dsk.DM) : Prop := ∃ F, Lives w wr d F m

set_option maxRecDepth 100000 in
set_option maxHeartbeats 1000000 in
theorem written_any (A : Option Addr) (n c : Nat) (l : List OpD) (most : Nat) (w : World) (hl : Ops w A n l) (hn : n ≤ 9223372036854775807) (hm : most ≤ 200) :
    Calls Try.prog 26 #[.slice A n c, .int .i64 (most : Int)] w (NewDisk w (writtenM (l.take most))) := by
  have kc := fun W s => Lib.run_convert_string_bytes (P := Try.prog) W 9 37 5 s Try.underlying9 Try.underlying37 Try.underlying5
  have HL := Lib.hid hl
  clear hl
  go_enter Try.func26, Try.ntmps26
  go_wp2_with fail
  refine (new_any _ 4).mono ?_
  intro e w2 hn2
  obtain ⟨d, F, rfl, hL⟩ := hn2.lives
  have L2 : Hid (Lives w w2 d F (writtenM (l.take 0))) := hL
  clear hn2 hL
  go_wp2_with fail
  go_loopw [6] (fun i wr => ∃ k : Nat, k ≤ n ∧ k ≤ most ∧ i = .int .i64 k ∧ WRel w wr d (writtenM (l.take k))) (fun i _ => n - (intOf i).toNat)
  case atStart => exact ⟨0, by omega, by omega, rfl, F, L2.out⟩
  case round =>
    obtain ⟨k, hk, hkm, rfl, F4, hL⟩ := hrel
    have L4 := Lib.hid hL
    clear hL
    by_cases hlt : k < n
    · by_cases hlm : k < most
      · have hk1 : (k : Int) < (n : Int) := by omega
        have hk2 : (k : Int) < (most : Int) := by omega
        have hk0 : (0 : Int) ≤ (k : Int) := by omega
        obtain ⟨b, off, o, rfl, hblt, hlk, hog, htk, hx0, hx1, hx2, hx3⟩ := (HL.out.kept L4.out.below).at_ hlt
        have HT := Lib.hid htk
        have HP := Lib.hid (writtenM_plain (l.take k))
        have HO := Lib.hid hog
        clear hlk hog htk hx0 hx3
        have BW := Lib.hid (below_bytesWorld (B := wr.heap.size) wr.drew 5 o.data (Nat.le_refl _))
        have hx1' : (Lib.bytesWorld wr.drew 5 o.data).cell? ⟨b, off + k * 4 + 1, none⟩ = some (.int .i64 o.i) := (BW.out.cell (p := ⟨b, off + k * 4 + 1, none⟩) hblt).trans hx1
        have LB : Hid (Lives w (Lib.bytesWorld wr.drew 5 o.data) d F4 (writtenM (l.take k))) := L4.out.under ((Below.refl _ _).drew.trans BW.out)
        have CW : Hid (Calls Try.prog 17 #[.pointer (some ⟨d, 0, none⟩), .int .i64 (bits .and .i64 o.i 3), .slice (some ⟨wr.heap.size, 0, none⟩) o.data.size (grownCap wr.drew o.data.size 0 5)] (Lib.bytesWorld wr.drew 5 o.data)
            fun e w' => ∃ x, e = .returned (.int .i64 x) ∧ WRel w w' d (writtenM (l.take (k + 1)))) := by
          refine (write_any _ d F4 (writtenM (l.take k)) (low2 o.i) _ o.data.size _ (nums o.data) LB.out.disk (bts_bytesWorld wr.drew _ _ rfl) HO.out.s (fun _ x hx => by injection hx with hx; subst hx; exact L4.out.far _ (Nat.le_refl _)) ?_).mono ?_
          · have := HP.out.wait
            rw [List.length_take] at this
            omega
          · rintro e w' ⟨rfl, ht⟩
            obtain ⟨F', hL, _, _⟩ := LB.out.turned ht
            refine ⟨_, rfl, F', ?_⟩
            rw [HT.out, writtenM_snoc]
            exact hL
        clear LB
        go_wp2_with fail
        go_region_with (go_at_call 17; refine CW.out.mono ?_; rintro e w5 ⟨x5, rfl, hR5⟩)
        all_goals
          have R5 := Lib.hid hR5
          clear hR5
          go_wp2_with fail
          go_roundw
          case rel => exact ⟨k + 1, by omega, by omega, by go_num, R5.out⟩
          case measure => simp [intOf]; omega
      · obtain rfl : k = most := by omega
        have hk2 : decide ((k : Int) < (k : Int)) = false := by simp
        have hk1 : (k : Int) < (n : Int) := by omega
        go_wp2_with fail
        go_ret
        exact ⟨d, F4, rfl, L4.out.disk, L4.out.below, L4.out.new⟩
    · obtain rfl : k = n := by omega
      have hk2 : decide ((k : Int) < (k : Int)) = false := by simp
      have e : l.take k = l.take most := by rw [List.take_of_length_le (by rw [HL.out.1]; exact Nat.le_refl _), List.take_of_length_le (by rw [HL.out.1]; exact hkm)]
      have E := Lib.hid e
      clear e
      go_wp2_with fail
      go_ret
      rw [E.out] at L4
      exact ⟨d, F4, rfl, L4.out.disk, L4.out.below, L4.out.new⟩

/-- Two disks of the call's own, apart. -/
structure Pair (w0 w : World) (a : Nat) (F : List Nat) (ma : Dsk.DM) (b : Nat) (G : List Nat) (mb : Dsk.DM) : Prop where
  a : Lives w0 w a F ma
  b : Lives w0 w b G mb
  apart : ∀ x ∈ F, x ∉ G

section
variable {w0 w w' : World} {a b : Nat} {F G : List Nat} {ma mb m' : Dsk.DM}
theorem Pair.start {w1 : World} (h : Lives w0 w1 a F ma) (k : Lives w1 w b G mb) : Pair w0 w a F ma b G mb :=
  ⟨h.under k.below, ⟨k.disk, h.below.trans (k.below.mono h.below.size), fun x hx => Nat.le_trans h.below.size (k.new x hx)⟩, fun x hx hg => by
    have := h.disk.lt x hx
    have := k.new x hg
    omega⟩
theorem Pair.left (h : Pair w0 w a F ma b G mb) (t : Turned w a F w' m') : ∃ F', Pair w0 w' a F' m' b G mb := by
  obtain ⟨F', h1, h2, h3⟩ := h.a.turned t
  refine ⟨F', h1, ⟨h.b.disk.only h3 (fun x hx hf => h.apart x hf hx), h1.below, h.b.new⟩, fun x hx hg => ?_⟩
  rcases h2 x hx with h4 | h4
  · exact h.apart x h4 hg
  · have := h.b.disk.lt x hg
    omega
theorem Pair.swap (h : Pair w0 w a F ma b G mb) : Pair w0 w b G mb a F ma := ⟨h.b, h.a, fun x hx hf => h.apart x hf hx⟩
theorem Pair.right (h : Pair w0 w a F ma b G mb) (t : Turned w b G w' m') : ∃ G', Pair w0 w' a F ma b G' m' := by
  obtain ⟨G', h1⟩ := h.swap.left t
  exact ⟨G', h1.swap⟩
theorem Pair.under (h : Pair w0 w a F ma b G mb) (k : Below w.heap.size w w') : Pair w0 w' a F ma b G mb := ⟨h.a.under k, h.b.under k, h.apart⟩
end

/-- A fresh sector, turned into a string, in whatever later world. -/
theorem Fresh512.toStr {w w' w'' : World} {l : List Nat} {v : Value} (h : Fresh512 w l v w') (hl : l.length = 512) (hb : Below w'.heap.size w' w'') : (convert 37 9 v).run Try.prog w'' = .ok (.string (strB l)) w'' := by
  obtain ⟨rfl, ho, _⟩ := h
  obtain ⟨g, cap, hv, _, _, hbt, _⟩ := ho.form (by omega)
  rw [hl] at hv hbt
  rw [hv]
  exact (hbt.kept hb).toStr byteT Try.underlying9 cap

theorem Dsk.read_ok {m : Dsk.DM} {k : Nat} (hd : m.dead = false) (hk : k < m.dur.length) : m.readErr (k : Int) = 0 := by
  have h : ¬ ¬ (0 ≤ (k : Int) ∧ (k : Int) < m.dur.length) := fun c => c ⟨by omega, by omega⟩
  unfold Dsk.DM.readErr
  rw [hd, if_neg h]
  rfl
theorem Dsk.dur_ok {m : Dsk.DM} {k : Nat} (hk : k < m.dur.length) : m.durErr (k : Int) = 0 := by
  have h : ¬ ¬ (0 ≤ (k : Int) ∧ (k : Int) < m.dur.length) := fun c => c ⟨by omega, by omega⟩
  unfold Dsk.DM.durErr
  rw [if_neg h]

set_option maxRecDepth 100000 in
set_option maxHeartbeats 1000000 in
theorem full_any (w : World) (a b : Nat) (F G : List Nat) (ma mb : Dsk.DM) (ha : DiskAt w a F ma) (hb : DiskAt w b G mb) (hlen : ma.dur.length = mb.dur.length) (da : ma.dead = false) (db : mb.dead = false)
    (hs : ∀ i, sec (ma.seen.getD i []) = sec (mb.seen.getD i [])) (hd : ∀ i, sec (ma.dur.getD i []) = sec (mb.dur.getD i [])) :
    Calls Try.prog 27 #[.pointer (some ⟨a, 0, none⟩), .pointer (some ⟨b, 0, none⟩)] w fun e w' => e = .returned (.bool true) ∧ Below w.heap.size w w' := by
  have HA := Lib.hid ha
  have HB := Lib.hid hb
  have HLEN := Lib.hid hlen
  have HS := Lib.hid hs
  have HD := Lib.hid hd
  have hmost := ha.good.most
  clear ha hb hs hd
  go_enter Try.func27, Try.ntmps27
  go_wp2_with fail
  go_loopw [5, 6, 7, 8, 9, 10, 11, 12, 13] (fun i _ _ _ _ _ _ _ _ wr => ∃ k : Nat, k ≤ ma.dur.length ∧ i = .int .i64 k ∧ Below w.heap.size w wr) (fun i _ _ _ _ _ _ _ _ _ => ma.dur.length - (intOf i).toNat)
  case atStart => exact ⟨0, by omega, rfl, Below.refl _ _⟩
  case round =>
    obtain ⟨k, hk, rfl, hbel⟩ := hrel
    have B0 := Lib.hid hbel
    clear hbel
    go_wp2_with fail
    refine (size_any _ a F ma (HA.out.below B0.out)).mono ?_
    rintro e w' ⟨rfl, rfl⟩
    by_cases hlt : k < ma.dur.length
    · have hk1 : (k : Int) < (ma.dur.length : Int) := by omega
      have r1 := Lib.hid (Dsk.read_ok (m := ma) da hlt)
      have r2 := Lib.hid (Dsk.read_ok (m := mb) (k := k) db (by omega))
      have r3 := Lib.hid (Dsk.dur_ok (m := ma) hlt)
      have r4 := Lib.hid (Dsk.dur_ok (m := mb) (k := k) (by omega))
      clear hlen
      go_wp2_with fail
      refine (read_any _ a F ma k (HA.out.below B0.out)).mono ?_
      intro e w1 ht
      obtain ⟨v1, rfl, f1⟩ := ht.ok r1.out
      have F1 := Lib.hid f1
      have B1 := Lib.hid (B0.out.trans (f1.2.2.mono B0.out.size))
      clear ht f1
      go_wp2_with fail
      refine (read_any _ b G mb k (HB.out.below B1.out)).mono ?_
      intro e w2 ht
      obtain ⟨v2, rfl, f2⟩ := ht.ok r2.out
      have F2 := Lib.hid f2
      have B2 := Lib.hid (B1.out.trans (f2.2.2.mono B1.out.size))
      clear ht f2
      go_wp2_with fail
      refine (durable_any _ a F ma k (HA.out.below B2.out)).mono ?_
      intro e w3 ht
      obtain ⟨v3, rfl, f3⟩ := ht.ok r3.out
      have F3 := Lib.hid f3
      have B3 := Lib.hid (B2.out.trans (f3.2.2.mono B2.out.size))
      clear ht f3
      go_wp2_with fail
      refine (durable_any _ b G mb k (HB.out.below B3.out)).mono ?_
      intro e w4 ht
      obtain ⟨v4, rfl, f4⟩ := ht.ok r4.out
      have F4 := Lib.hid f4
      have B4 := Lib.hid (B3.out.trans (f4.2.2.mono B3.out.size))
      clear ht f4
      have x1 := F1.out.toStr (sec_length _) ((F2.out.2.2.trans (F3.out.2.2.mono F2.out.2.2.size)).trans (F4.out.2.2.mono (Nat.le_trans F2.out.2.2.size F3.out.2.2.size)))
      have x2 := F2.out.toStr (sec_length _) (F3.out.2.2.trans (F4.out.2.2.mono F3.out.2.2.size))
      have x3 := F3.out.toStr (sec_length _) F4.out.2.2
      have x4 := F4.out.toStr (sec_length _) (Below.refl _ _)
      rw [HS.out] at x1
      rw [HD.out] at x3
      generalize strB (sec (mb.seen.getD (k : Int).toNat [])) = s1 at *
      generalize strB (sec (mb.dur.getD (k : Int).toNat [])) = s2 at *
      clear F1 F2 F3 F4
      go_wp2_with fail
      go_roundw
      case rel => exact ⟨k + 1, by omega, by go_num, B4.out⟩
      case measure => simp [intOf]; omega
    · obtain rfl : k = ma.dur.length := by omega
      clear hlen
      go_wp2_with fail
      refine (size_any _ a F ma (HA.out.below B0.out)).mono ?_
      rintro e w' ⟨rfl, rfl⟩
      go_wp2_with fail
      refine (size_any _ b G mb (HB.out.below B0.out)).mono ?_
      rintro e w' ⟨rfl, rfl⟩
      rw [← HLEN.out]
      go_wp2_with fail
      go_ret
      exact ⟨rfl, B0.out⟩
end Go.Proofs.Ytejpefiblodefaa
