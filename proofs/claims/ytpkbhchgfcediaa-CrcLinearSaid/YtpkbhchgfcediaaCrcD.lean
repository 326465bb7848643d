/-
  The walks of crc.Table's Sum and Calls, and of the answers that the document fixes.
-/
import Derived.Test.YtpkbhchgfcediaaCrcC
namespace Go.Proofs.Ytpkbhchgfcediaa
open Go.RowKit

theorem nil_sum (A : Option Addr) (m c : Nat) (l : List Nat) (w : World) (hm : m ≤ 9223372036854775807) (hb : Bts w A m l) :
    Calls Try.prog 11 #[.pointer none, .slice A m c] w fun e w' => e = .returned (.int .u32 ((Crc.sum l : Nat) : Int)) ∧ w = w' := by
  have HB := Lib.hid hb
  clear hb
  go_enter Try.func11, Try.ntmps11
  go_wp2_with (go_at_call 10; refine (sum_any A m c l _ hm HB.out).mono ?_; rintro e w' ⟨rfl, rfl⟩)
  go_ret
  exact ⟨rfl, rfl⟩

theorem nil_calls (w : World) :
    Calls Try.prog 12 #[.pointer none] w fun e w' => e = .returned (.int .i64 0) ∧ w = w' := by
  go_enter Try.func12, Try.ntmps12
  go_wp2
  go_ret
  exact ⟨rfl, rfl⟩

theorem tab_calls (b : Nat) (n : Int) (w : World) (hc : w.cell? ⟨b, 259, none⟩ = some (.int .i64 n)) :
    Calls Try.prog 12 #[.pointer (some ⟨b, 0, none⟩)] w fun e w' => e = .returned (.int .i64 n) ∧ w = w' := by
  have hl := run_call_load (P := Try.prog) Try.func22 (by kernel_rfl) (by kernel_rfl) (by kernel_rfl) .i64 (by kernel_rfl) hc
  go_enter Try.func12, Try.ntmps12
  go_wp2
  go_ret
  exact ⟨rfl, rfl⟩

/-- A register behind one byte, by the table. -/
theorem by_table (q e : Nat) : Crc.Sn 8 (q ^^^ e) = (q / 256) ^^^ Crc.Sn 8 ((q % 256) ^^^ e) := by
  have h1 : ∀ m, Crc.Sn 8 (m * 256) = m := by
    intro m
    have hd : ∀ k, Crc.S (2 * k) = k := fun k => by rw [Crc.S_even (by omega)]; omega
    show Crc.S (Crc.S (Crc.S (Crc.S (Crc.S (Crc.S (Crc.S (Crc.S (m * 256)))))))) = m
    rw [show m * 256 = 2 * (2 * (2 * (2 * (2 * (2 * (2 * (2 * m))))))) by omega, hd, hd, hd, hd, hd, hd, hd, hd]
  have h2 : q = (q / 256 * 256) ^^^ (q % 256) := by
    have : q / 256 * 256 ^^^ q % 256 = q / 256 * 256 + q % 256 := by
      have h3 := Nat.two_pow_add_eq_or_of_lt (i := 8) (b := q % 256) (by omega) (q / 256)
      have h4 : (q / 256 * 256) &&& (q % 256) = 0 := by
        apply Nat.eq_of_testBit_eq
        intro i
        rw [Nat.testBit_and, Nat.zero_testBit]
        by_cases hi : i < 8
        · have : (q / 256 * 256).testBit i = false := by
            rw [show q / 256 * 256 = 2 ^ 8 * (q / 256) by omega, Nat.testBit_two_pow_mul]
            simp; omega
          rw [this]; rfl
        · have : (q % 256).testBit i = false := by
            apply Nat.testBit_lt_two_pow
            have : 2 ^ 8 ≤ 2 ^ i := Nat.pow_le_pow_right (by omega) (by omega)
            omega
          rw [this, Bool.and_false]
      have h5 : (q / 256 * 256) ^^^ (q % 256) = (q / 256 * 256) ||| (q % 256) := by
        apply Nat.eq_of_testBit_eq
        intro i
        have h6 := congrArg (fun x => Nat.testBit x i) h4
        simp only [Nat.testBit_and, Nat.zero_testBit] at h6
        rw [Nat.testBit_xor, Nat.testBit_or]
        cases ha : (q / 256 * 256).testBit i <;> cases hb : (q % 256).testBit i <;> rw [ha, hb] at h6 <;> simp_all
      rw [h5, show q / 256 * 256 = 2 ^ 8 * (q / 256) by omega, ← h3]
    omega
  have h7 : q ^^^ e = (q / 256 * 256) ^^^ ((q % 256) ^^^ e) := by
    conv => lhs; rw [h2]
    rw [Nat.xor_assoc]
  rw [h7, Crc.Sn_xor, h1]

set_option maxRecDepth 100000 in
set_option maxHeartbeats 400000 in
theorem tab_sum (b : Nat) (n : Int) (h0 : 0 ≤ n) (h1 : n < 4611686018427387904) (A : Option Addr) (m c : Nat) (l : List Nat) (w : World) (hm : m ≤ 9223372036854775807) (hb : Bts w A m l)
    (hA : 0 < m → ∀ x, A = some x → x.block ≠ b) (ht : Fit w b n) :
    Calls Try.prog 11 #[.pointer (some ⟨b, 0, none⟩), .slice A m c] w fun e w' => e = .returned (.int .u32 ((Crc.sum l : Nat) : Int)) ∧ Fit w' b (n + 1) ∧ Only b w w' := by
  have HB := Lib.hid hb
  have hT : (w.cell? ⟨b, 259, none⟩ = some (.int .i64 n)) ∧ (w.frozen? ⟨b, 259, none⟩ = false) := by
    rcases ht with ⟨f, ht⟩ | ht
    · exact ⟨ht.cn, ht.fr 259⟩
    · exact ⟨ht.cn, ht.fr 259⟩
  have HF : Hid (Fit (w.setCell ⟨b, 259, none⟩ (.int .i64 (n + 1))) b (n + 1)) := by
    rcases ht with ⟨f, ht⟩ | ht
    · exact .inl ⟨f, ht.count _⟩
    · exact .inr (ht.count _)
  have hmf : ∀ (fn : Fn) (first cap : Array Value) (w : World), (Instr.makeFunc fn first cap).run Try.prog w = .ok (.func fn first cap) w := fun _ _ _ _ => rfl
  have HC := Lib.hid hT.1
  have HZ := Lib.hid hT.2
  have HA := Lib.hid hA
  clear hb ht hT hA
  go_enter Try.func11, Try.ntmps11
  go_wp2_with (first
    | (go_at_call 14; refine (add_any b n h0 h1 _ HC.out HZ.out).mono ?_; rintro e w' ⟨⟨v, rfl⟩, rfl⟩)
    | (go_at_call 15; refine (do_any b (n + 1) _ HF.out).mono ?_; rintro e w' ⟨rfl, ht2, ho2⟩))
  have hent : ∀ i, i < 256 → w'.cell? ⟨b, 3 + i, none⟩ = some (.int .u32 ((Crc.Sn 8 i : Nat) : Int)) := ht2.ce.resolve_left (by omega)
  have ho3 : Only b w w' := ((Only.refl b w).set 259 _).trans ho2
  have hcl : 0 < m → ∃ g off, A = some ⟨g, off, none⟩ ∧ ∀ i, i < m → w'.cell? ⟨g, off + i, none⟩ = some (.int .u8 ((l.getD i 0 : Nat) : Int)) := by
    intro hp
    obtain ⟨g, off, rfl, _, hc⟩ := HB.out.2.2 hp
    exact ⟨g, off, rfl, fun i hi => (ho3.cell (p := ⟨g, off + i, none⟩) (HA.out hp ⟨g, off, none⟩ rfl)).trans (hc i hi)⟩
  have HE := Lib.hid (show Fit w' b (n + 1) ∧ Only b w w' from ⟨.inr ht2, ho3⟩)
  have hl8 := HB.out.2.1
  have HL := Lib.hid HB.out.1
  clear ht2 ho2 ho3 HA HB HC HZ HF
  go_loop [5, 24] (fun x i => ∃ k : Nat, k ≤ m ∧ i = .int .i64 k ∧ x = .int .u32 ((Crc.run (Crc.inv 0) (l.take k) : Nat) : Int)) (fun _ i => m - (intOf i).toNat)
  case atStart => exact ⟨0, by omega, rfl, rfl⟩
  case round =>
    obtain ⟨k, hk, rfl, rfl⟩ := hrel
    have hr : Crc.run (Crc.inv 0) (l.take k) < 4294967296 := Crc.run_lt _ (by decide) fun x hx => hl8 x (List.mem_of_mem_take hx)
    by_cases hlt : k < m
    · obtain ⟨g, off, rfl, hcell⟩ := hcl (by omega)
      have hc := hcell k hlt
      have h8 : l.getD k 0 < 256 := by
        have hk' : k < l.length := by rw [HL.out]; exact hlt
        rw [List.getD_eq_getElem?_getD, List.getElem?_eq_getElem hk']
        exact hl8 _ (List.getElem_mem hk')
      have HS := Lib.hid (take_run (r := Crc.inv 0) (l := l) (k := k) (by rw [HL.out]; exact hlt))
      clear hcell hcl hl8
      generalize Crc.run (Crc.inv 0) (l.take k) = q at *
      generalize l.getD k 0 = e at *
      have hi : (q % 256) ^^^ e < 256 := by
        have := Nat.xor_lt_two_pow (n := 8) (show q % 256 < 2 ^ 8 by omega) (show e < 2 ^ 8 by omega)
        omega
      have he := hent _ hi
      have hx8 : bits .xor .u8 ((q : Int) % 256) (e : Int) = (((q % 256) ^^^ e : Nat) : Int) := u8_xor_nat (q % 256) e (by omega) h8
      have HB := Lib.hid (by_table q e)
      clear hent
      generalize (q % 256) ^^^ e = z at *
      have HZ : Hid (bits .xor .u32 ((q : Int) / 256) ((Crc.Sn 8 z : Nat) : Int) = (((q / 256) ^^^ Crc.Sn 8 z : Nat) : Int)) := u32_xor_nat (q / 256) _ (by omega) (Crc.Sn_lt 8 (by omega))
      go_wp2
      go_round
      case rel => exact ⟨k + 1, by omega, by go_num, by rw [HS.out, HB.out]; exact val_u32 HZ.out⟩
      case measure => simp [intOf]; omega
    · obtain rfl : k = m := by omega
      go_wp2
      go_ret
      refine ⟨?_, HE.out⟩
      rw [List.take_of_length_le (by rw [HL.out]; exact Nat.le_refl _), xor_max (by rwa [List.take_of_length_le (by rw [HL.out]; exact Nat.le_refl _)] at hr)]
      rfl
theorem Fit.cn {w : World} {b : Nat} {n : Int} (h : Fit w b n) : w.cell? ⟨b, 259, none⟩ = some (.int .i64 n) := by
  rcases h with ⟨f, h⟩ | h
  · exact h.cn
  · exact h.cn
end Go.Proofs.Ytpkbhchgfcediaa
