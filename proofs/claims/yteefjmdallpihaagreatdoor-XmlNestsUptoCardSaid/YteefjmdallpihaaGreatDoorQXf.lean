/-
  xml: docketlaw10.fixed.
-/
import Derived.Test.YteefjmdallpihaaGreatDoorQXe
import Derived.Test.YteefjmdallpihaaGreatDoorXmE
namespace Go.Proofs.YteefjmdallpihaaGreatDoor
open Go.RowKit Reply Go.Shelf

theorem fixS : SmN Xml.fixN := by
  unfold Xml.fixN
  simp [SmN, SmNs]
theorem fixWr : Xml.wrote Xml.fixN = (0, Xml.fixT3) := by
  unfold Xml.wrote
  rw [Xml.fixG, Xml.fixF]
  rfl
/-- A tree's value, where it has two kids. -/
theorem two_kids {w : World} {P : Nat → Prop} {t sp nm : Reply.B} {al : List (Reply.B × Reply.B)} {k0 k1 : Xml.Nd} {m : NC} (h : NdV w P (.mk t sp nm al [k0, k1]) m) : ∃ (Aa : Option Addr) (ca : Nat) (g : Nat) (off ck : Nat), m = ⟨t, sp, nm, .slice Aa al.length ca, .slice (some ⟨g, off, none⟩) 2 ck⟩ ∧ g < w.heap.size ∧ w.cell? ⟨g, off + 5, none⟩ = some (.string (S k1.text)) := by
  obtain ⟨Aa, ca, Ak, ck, l, rfl, OA, _, OK, _, NS⟩ := h.parts
  unfold NdsV at NS
  obtain ⟨n0, r, rfl, h0, NS⟩ := NS
  unfold NdsV at NS
  obtain ⟨n1, r, rfl, h1, NS⟩ := NS
  unfold NdsV at NS
  subst NS
  obtain ⟨g, off, rfl, c0, _⟩ := OK.hat.at_ (k := 1) (by simp)
  refine ⟨Aa, ca, g, off, ck, rfl, ?_, ?_⟩
  · exact block_lt (a := ⟨g, off + 1 * 5, none⟩) c0
  · obtain ⟨t1, s1, m1, a1, k1⟩ := k1
    unfold NdV at h1
    rw [← h1.1]
    exact c0
set_option maxRecDepth 100000 in
set_option maxHeartbeats 16000000 in
theorem fixedX_any (w : World) (E : EnvX w) : Calls Tryz.prog 7 #[] w fun e w' => e = .returned (.bool true) ∧ Below w.heap.size w w' := by
  have P1 : Hid (Calls Tryz.prog 8 #[.string ⟨#[60, 97, 32, 120, 109, 108, 110, 115, 61, 34, 117, 34, 62, 60, 98, 32, 120, 61, 39, 49, 39, 47, 62, 116, 38, 108, 116, 59, 60, 33, 45, 45, 32, 99, 32, 45, 45, 62, 60, 33, 91, 67, 68, 65, 84, 65, 91, 38, 93, 93, 62, 60, 47, 97, 62]⟩] w fun e w' => Below w.heap.size w w' ∧ EndsP w.heap.size (.ok Xml.fixN ⟨[], [([], [])]⟩) e w') := by
    have := parse_any w E Xml.fixT1 (by decide)
    rw [Xml.fixP1] at this
    exact this
  have HE := Lib.hid E
  clear E
  go_enter Tryz.func7, Tryz.ntmps7
  go_wp2_with fail
  refine P1.out.mono ?_
  rintro e w1 ⟨b1, m, X1, nv⟩
  obtain ⟨Aa, ca, g, off, ck, rfl, hg, c5⟩ := two_kids nv
  have NV := Lib.hid nv
  have c5 : w1.cell? ⟨g, off + 5, none⟩ = some (.string ⟨#[116, 60, 38]⟩) := c5
  have X1 : e = .returned (.tuple #[.agg #[.string ⟨#[]⟩, .string ⟨#[117]⟩, .string ⟨#[97]⟩, .slice Aa 0 ca, .slice (some ⟨g, off, none⟩) 2 ck], .int .i64 0]) := X1
  subst X1
  obtain ⟨w2, hw2⟩ : ∃ x, x = w1.alloc (.cells #[.string ⟨#[]⟩, .string ⟨#[117]⟩, .string ⟨#[97]⟩, .slice Aa 0 ca, .slice (some ⟨g, off, none⟩) 2 ck] 28) := ⟨_, rfl⟩
  have K2 : Below w1.heap.size w1 w2 := by rw [hw2]; exact (Below.refl _ _).alloc (Nat.le_refl _) _
  have H2 : Held w2 w1.heap.size 28 #[.string ⟨#[]⟩, .string ⟨#[117]⟩, .string ⟨#[97]⟩, .slice Aa 0 ca, .slice (some ⟨g, off, none⟩) 2 ck] := by rw [hw2]; exact Held.new _ _ _ rfl
  have B2 := Lib.hid (b1.trans (K2.mono b1.size))
  have N2 := NdV.keep (KeepN.below K2 (fun _ h => h)) _ _ nv
  have W2 : Hid (Calls Tryz.prog 10 #[.agg #[.string ⟨#[]⟩, .string ⟨#[117]⟩, .string ⟨#[97]⟩, .slice Aa 0 ca, .slice (some ⟨g, off, none⟩) 2 ck]] w2 fun e w' => Below w2.heap.size w2 w' ∧ e = .returned (.tuple #[.string (S Xml.fixT3), .int .i64 0])) := by
    have := write_any w2 (HE.out.below B2.out) Xml.fixN _ fixS (N2.mono (fun _ _ => trivial))
    rw [fixWr] at this
    exact this
  have c5 : w2.cell? ⟨g, off + 5, none⟩ = some (.string ⟨#[116, 60, 38]⟩) := (K2.cell (p := ⟨g, off + 5, none⟩) hg).trans c5
  have hg2 : g < w2.heap.size := Nat.lt_of_lt_of_le hg K2.size
  have HW := Lib.hid hw2
  have W2' : Hid (Calls Tryz.prog 10 #[.agg #[.string ⟨#[]⟩, .string ⟨#[117]⟩, .string ⟨#[97]⟩, .slice Aa 0 ca, .slice (some ⟨g, off, none⟩) 2 ck]] (w1.alloc (.cells #[.string ⟨#[]⟩, .string ⟨#[117]⟩, .string ⟨#[97]⟩, .slice Aa 0 ca, .slice (some ⟨g, off, none⟩) 2 ck] 28)) fun e w' => Below w2.heap.size w2 w' ∧ e = .returned (.tuple #[.string (S Xml.fixT3), .int .i64 0])) := by
    rw [← hw2]; exact W2.out
  clear W2 N2 K2 nv NV b1 P1 hw2
  go_wp2_with fail
  refine W2'.out.mono ?_
  rintro e w3 ⟨b3, rfl⟩
  have B3 := Lib.hid (B2.out.trans (b3.mono B2.out.size))
  have H3 := Held.below H2 b3 H2.lt
  have c5 : w3.cell? ⟨g, off + 5, none⟩ = some (.string ⟨#[116, 60, 38]⟩) := (b3.cell (p := ⟨g, off + 5, none⟩) hg2).trans c5
  have hg3 : g < w3.heap.size := Nat.lt_of_lt_of_le hg2 b3.size
  have P3 : Hid (Calls Tryz.prog 8 #[.string ⟨#[60, 97, 62, 60, 47, 98, 62]⟩] w3 fun e w' => Below w3.heap.size w3 w' ∧ EndsP w3.heap.size (.bad 30) e w') := by
    have := parse_any w3 (HE.out.below B3.out) [60, 97, 62, 60, 47, 98, 62] (by decide)
    rw [Xml.fixP2] at this
    exact this
  have T3 : Hid (S Xml.fixT3 = ⟨#[60, 97, 32, 120, 109, 108, 110, 115, 61, 34, 117, 34, 62, 60, 98, 32, 120, 61, 34, 49, 34, 47, 62, 116, 38, 108, 116, 59, 38, 97, 109, 112, 59, 60, 47, 97, 62]⟩) := rfl
  rw [T3.out]
  have H3 := Lib.hid H3
  clear W2' b3 H2 HW hg hg2
  go_wp2_with fail
  refine P3.out.mono ?_
  rintro e w4 ⟨b4, X4⟩
  have X4 : e = .returned (.tuple #[.agg #[.string ⟨#[]⟩, .string ⟨#[]⟩, .string ⟨#[]⟩, .slice none 0 0, .slice none 0 0], .int .i64 30]) := X4
  subst X4
  obtain ⟨w5, hw5⟩ : ∃ x, x = w4.alloc (.cells #[.string ⟨#[]⟩, .string ⟨#[]⟩, .string ⟨#[]⟩, .slice none 0 0, .slice none 0 0] 28) := ⟨_, rfl⟩
  have K5 : Below w3.heap.size w3 w5 := by rw [hw5]; exact b4.alloc b4.size _
  have B5 := Lib.hid (B3.out.trans (K5.mono B3.out.size))
  have H5 := Held.below H3.out K5 H3.out.lt
  have d1 : w5.cell? ⟨w1.heap.size, 1, none⟩ = some (.string ⟨#[117]⟩) := H5.cell 1
  have d2 : w5.cell? ⟨w1.heap.size, 2, none⟩ = some (.string ⟨#[97]⟩) := H5.cell 2
  have d4 : w5.cell? ⟨w1.heap.size, 4, none⟩ = some (.slice (some ⟨g, off, none⟩) 2 ck) := H5.cell 4
  have c5 : w5.cell? ⟨g, off + 5, none⟩ = some (.string ⟨#[116, 60, 38]⟩) := (K5.cell (p := ⟨g, off + 5, none⟩) hg3).trans c5
  have HW5 := Lib.hid hw5
  clear P3 b4 K5 H5 H3 hg3 hw5
  go_upto_region 4 with fail
  rw [← HW5.out]
  go_wp2_with fail
  go_ret
  exact ⟨rfl, B5.out⟩
end Go.Proofs.YteefjmdallpihaaGreatDoor
