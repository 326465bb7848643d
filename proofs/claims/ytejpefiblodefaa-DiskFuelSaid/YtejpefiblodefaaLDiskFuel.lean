/-
  P2.2, P2.3: just so many writes and flushes are done as there was fuel: the law answers true for every input, and its arguments read behind the call as before. No condition beside the row's own.
-/
import Derived.Test.YtejpefiblodefaaOps
namespace Go.Proofs.Ytejpefiblodefaa.diskFuel
open Go.ChangeShapes Go.WideShapes Go.ChangeAt Go.RowKit

theorem own : ownKnob Try.prog.godebug = none := by kernel_rfl
theorem laidOut : laidOutB Try.prog = true := by kernel_rfl

/-- Behind k writes and flushes of a disk of three sectors that had fuel n. -/
structure Inv (n k : Nat) (m : Dsk.DM) : Prop where
  len : m.dur.length = 3
  dead : m.dead = decide (n < k)
  fuel : m.fuel = if k ≤ n then (n : Int) - k else 0
  wait : (m.wait.length : Int) + m.fuel ≤ n

theorem Inv.f0 {n k : Nat} {m : Dsk.DM} (h : Inv n k m) : 0 ≤ m.fuel := by rw [h.fuel]; split <;> omega
theorem Inv.start (n : Nat) : Inv n 0 ((Dsk.fresh 3).setFuel n) := by
  refine ⟨rfl, by simp [Dsk.DM.setFuel, Dsk.fresh], ?_, ?_⟩
  · show max (n : Int) (-1) = _
    rw [if_pos (by omega)]
    omega
  · show ((0 : Nat) : Int) + max (n : Int) (-1) ≤ n
    omega

theorem burn_low {m : Dsk.DM} (h0 : 0 < m.fuel) : m.burn = { m with fuel := m.fuel - 1 } := by
  unfold Dsk.DM.burn
  rw [if_neg (by omega), if_neg (by omega)]

theorem Inv.write {n k : Nat} {m : Dsk.DM} (h : Inv n k m) (i : Int) (hi : 0 ≤ i ∧ i < 3) : Inv n (k + 1) (m.write i [120]) ∧ m.writeErr i (1 : Nat) = (if k < n then 0 else 10) := by
  have hin : ¬ (¬ (0 ≤ i ∧ i < m.dur.length) ∨ 512 < [120].length) := by rw [h.len]; simp; omega
  have hin' : ¬ (¬ (0 ≤ i ∧ i < m.dur.length) ∨ 512 < (1 : Nat)) := hin
  have hd := h.dead
  have hf := h.fuel
  have hw := h.wait
  unfold Dsk.DM.write Dsk.DM.writeErr
  by_cases h1 : n < k
  · have e : m.dead = true := by rw [hd]; simp [h1]
    rw [if_neg (by omega)] at hf
    simp only [e, if_true]
    exact ⟨⟨h.len, by rw [e]; simp; omega, by split <;> omega, hw⟩, by split <;> omega⟩
  · have e : m.dead = false := by rw [hd]; simp [h1]
    rw [if_pos (by omega)] at hf
    simp only [e, if_neg hin, if_neg hin']
    by_cases h2 : k = n
    · have hf0 : m.fuel = 0 := by omega
      simp only [if_pos hf0]
      refine ⟨⟨h.len, by simp; omega, ?_, hw⟩, ?_⟩
      · show m.fuel = _
        split <;> omega
      · show (10 : Int) = _
        split <;> omega
    · have hf0 : 0 < m.fuel := by omega
      have hf1 : m.fuel ≠ 0 := by omega
      simp only [if_neg hf1]
      rw [burn_low hf0]
      refine ⟨⟨h.len, ?_, ?_, ?_⟩, ?_⟩
      · show m.dead = _
        rw [e]; simp; omega
      · show m.fuel - 1 = _
        split <;> omega
      · show (((m.wait ++ [(i.toNat, [120])]).length : Nat) : Int) + (m.fuel - 1) ≤ n
        simp; omega
      · show (0 : Int) = _
        split <;> omega
theorem Inv.flush {n k : Nat} {m : Dsk.DM} (h : Inv n k m) : Inv n (k + 1) m.flush ∧ m.flushErr = (if k < n then 0 else 10) := by
  have hd := h.dead
  have hf := h.fuel
  have hw := h.wait
  unfold Dsk.DM.flush Dsk.DM.flushErr
  by_cases h1 : n < k
  · have e : m.dead = true := by rw [hd]; simp [h1]
    rw [if_neg (by omega)] at hf
    simp only [e, if_true]
    exact ⟨⟨h.len, by rw [e]; simp; omega, by split <;> omega, hw⟩, by split <;> omega⟩
  · have e : m.dead = false := by rw [hd]; simp [h1]
    rw [if_pos (by omega)] at hf
    simp only [e]
    by_cases h2 : k = n
    · have hf0 : m.fuel = 0 := by omega
      simp only [if_pos hf0]
      refine ⟨⟨h.len, by simp; omega, ?_, hw⟩, ?_⟩
      · show m.fuel = _
        split <;> omega
      · show (10 : Int) = _
        split <;> omega
    · have hf0 : 0 < m.fuel := by omega
      have hf1 : m.fuel ≠ 0 := by omega
      simp only [if_neg hf1]
      rw [burn_low hf0]
      refine ⟨⟨?_, ?_, ?_, ?_⟩, ?_⟩
      · show m.seen.length = 3
        rw [Dsk.DM.seen_length]; exact h.len
      · show m.dead = _
        rw [e]; simp; omega
      · show m.fuel - 1 = _
        split <;> omega
      · show ((0 : Nat) : Int) + (m.fuel - 1) ≤ n
        omega
      · show (0 : Int) = _
        split <;> omega

theorem tail_facts {m : Dsk.DM} (h : m.dur.length = 3) : (m.crash []).writeErr 0 (1 : Nat) = 0 ∧ ((m.crash []).write 0 [120]).wait.length ≤ 5000000000000 ∧ ((m.crash []).write 0 [120]).flushErr = 0 ∧ ((m.crash []).write 0 [120]).flush.dead = false := by
  have hl : (m.crash []).dur.length = 3 := by show (Dsk.crashD _ _ _).length = 3; rw [Dsk.crashD_length]; exact h
  have h1 : ¬ (¬ ((0 : Int) ≤ 0 ∧ (0 : Int) < (m.crash []).dur.length) ∨ 512 < [120].length) := by rw [hl]; simp
  have e : (m.crash []).write 0 [120] = { m.crash [] with wait := [(0, [120])] } := by
    unfold Dsk.DM.write
    rw [if_neg h1]
    rfl
  refine ⟨?_, ?_, ?_, ?_⟩
  · unfold Dsk.DM.writeErr
    rw [hl]
    rfl
  · rw [e]; show 1 ≤ _; omega
  · rw [e]; rfl
  · rw [e]; rfl

/-- The loop's relation. -/
def Rel (w wr : World) (d n k : Nat) : Prop := ∃ F m, Lives w wr d F m ∧ Inv n k m

set_option maxRecDepth 100000 in
set_option maxHeartbeats 1600000 in
theorem walk (n : Nat) (A : Option Addr) (nk c : Nat) (l : List Bool) (w : World) (hn : n < 256) (hl : Bls w A nk l) (hk : nk ≤ 9223372036854775807) :
    Calls Try.prog 6 #[.int .u8 (n : Int), .slice A nk c] w fun e w' => e = .returned (.bool true) ∧ Below w.heap.size w w' := by
  have kc := conv_new
  have HL := Lib.hid hl
  clear hl
  go_enter Try.func6, Try.ntmps6
  go_wp2_with fail
  refine (fixed_any _).mono ?_
  rintro e w1 ⟨rfl, hbel⟩
  have HB := Lib.hid hbel
  clear hbel
  go_wp2_with fail
  refine (new_any _ 3).mono ?_
  intro e w2 hn2
  obtain ⟨d, F, rfl, hL⟩ := hn2.lives
  have L2 : Hid (Lives w1 w2 d F (Dsk.fresh 3)) := hL
  clear hn2 hL
  go_wp2_with fail
  refine (fuel_any _ d F _ _ (by omega) L2.out.disk).mono ?_
  rintro e w3 ⟨rfl, ht⟩
  have R3 : Hid (Rel w1 w3 d n 0) := by
    obtain ⟨F', hL, _, _⟩ := L2.out.turned ht
    exact ⟨F', _, hL, Inv.start n⟩
  clear ht L2
  go_wp2_with fail
  go_loopw [6, 7] (fun i _ wr => ∃ k : Nat, k ≤ nk ∧ i = .int .i64 k ∧ Rel w1 wr d n k) (fun i _ _ => nk - (intOf i).toNat)
  case atStart => exact ⟨0, by omega, rfl, R3.out⟩
  case round =>
    obtain ⟨k, hkk, rfl, F4, m, hL, hI⟩ := hrel
    have L4 := Lib.hid hL
    have I4 := Lib.hid hI
    clear hL hI
    by_cases hlt : k < nk
    · have hb := (HL.out.kept (HB.out.trans (L4.out.below.mono HB.out.size)))
      obtain ⟨b, off, rfl, hblt, hcell⟩ := hb.2 (by omega)
      have hx := hcell k hlt
      have hi0 : (0 : Int) ≤ (k : Int) := by omega
      have hi1 : (k : Int) < (nk : Int) := by omega
      have hm0 : (0 : Int) ≤ (k : Int) % 3 := by omega
      have hm1 : (k : Int) % 3 < 3 := by omega
      have hw : m.wait.length ≤ 5000000000000 := by have := I4.out.wait; have := I4.out.f0; omega
      have HW := Lib.hid hw
      clear hcell hw
      by_cases hkn : k < n
      · have hkn1 : (k : Int) < (n : Int) := by omega
        have hkn2 : decide ((n : Int) ≤ (k : Int)) = false := by simp; omega
        have hkn3 := Lib.hid hkn
        clear hkn
        cases hkd : l.getD k false
        · rw [hkd] at hx
          obtain ⟨I5, e5⟩ := I4.out.flush
          rw [if_pos hkn3.out] at e5
          have hd5 : m.flush.dead = false := by rw [I5.dead]; have := hkn3.out; simp; omega
          have E5 := Lib.hid e5
          have D5 := Lib.hid hd5
          have J5 := Lib.hid I5
          clear hkd I5 e5 hd5
          go_wp2_with fail
          refine (flush_any _ d F4 m L4.out.disk HW.out).mono ?_
          rintro e w5 ⟨rfl, ht⟩
          obtain ⟨F5, hL5, _, _⟩ := L4.out.turned ht
          have L5 := Lib.hid hL5
          clear hL5 ht L4
          rw [E5.out]
          go_wp2_with fail
          refine (dead_any _ d F5 _ L5.out.disk).mono ?_
          rintro e w' ⟨rfl, rfl⟩
          rw [D5.out]
          go_wp2_with fail
          go_roundw
          case rel => exact ⟨k + 1, by omega, by go_num, F5, _, L5.out, J5.out⟩
          case measure => simp [intOf]; omega
        · rw [hkd] at hx
          obtain ⟨I5, e5⟩ := I4.out.write ((k : Int) % 3) ⟨hm0, hm1⟩
          rw [if_pos hkn3.out] at e5
          have hd5 : (m.write ((k : Int) % 3) [120]).dead = false := by rw [I5.dead]; have := hkn3.out; simp; omega
          have E5 := Lib.hid e5
          have D5 := Lib.hid hd5
          have J5 := Lib.hid I5
          clear hkd I5 e5 hd5
          go_wp2_with fail
          refine (write_any _ d F4 m ((k : Int) % 3) _ 1 _ [120] (L4.out.alloc _).disk (bts_one wr 120 (by omega) _ _ _ rfl) (by omega) (fun _ x hx => by injection hx with hx; subst hx; exact L4.out.far _ (Nat.le_refl _)) HW.out).mono ?_
          rintro e w5 ⟨rfl, ht⟩
          obtain ⟨F5, hL5, _, _⟩ := (L4.out.alloc _).turned ht
          have L5 := Lib.hid hL5
          clear hL5 ht L4
          rw [E5.out]
          go_wp2_with fail
          refine (dead_any _ d F5 _ L5.out.disk).mono ?_
          rintro e w' ⟨rfl, rfl⟩
          rw [D5.out]
          go_wp2_with fail
          go_roundw
          case rel => exact ⟨k + 1, by omega, by go_num, F5, _, L5.out, J5.out⟩
          case measure => simp [intOf]; omega
      · have hkn1 : (n : Int) ≤ (k : Int) := by omega
        have hkn2 : decide ((k : Int) < (n : Int)) = false := by simp; omega
        have hkn3 := Lib.hid hkn
        clear hkn
        cases hkd : l.getD k false
        · rw [hkd] at hx
          obtain ⟨I5, e5⟩ := I4.out.flush
          rw [if_neg hkn3.out] at e5
          have hd5 : m.flush.dead = true := by rw [I5.dead]; have := hkn3.out; simp; omega
          have E5 := Lib.hid e5
          have D5 := Lib.hid hd5
          have J5 := Lib.hid I5
          clear hkd I5 e5 hd5
          go_wp2_with fail
          refine (flush_any _ d F4 m L4.out.disk HW.out).mono ?_
          rintro e w5 ⟨rfl, ht⟩
          obtain ⟨F5, hL5, _, _⟩ := L4.out.turned ht
          have L5 := Lib.hid hL5
          clear hL5 ht L4
          rw [E5.out]
          go_wp2_with fail
          refine (dead_any _ d F5 _ L5.out.disk).mono ?_
          rintro e w' ⟨rfl, rfl⟩
          rw [D5.out]
          go_wp2_with fail
          go_roundw
          case rel => exact ⟨k + 1, by omega, by go_num, F5, _, L5.out, J5.out⟩
          case measure => simp [intOf]; omega
        · rw [hkd] at hx
          obtain ⟨I5, e5⟩ := I4.out.write ((k : Int) % 3) ⟨hm0, hm1⟩
          rw [if_neg hkn3.out] at e5
          have hd5 : (m.write ((k : Int) % 3) [120]).dead = true := by rw [I5.dead]; have := hkn3.out; simp; omega
          have E5 := Lib.hid e5
          have D5 := Lib.hid hd5
          have J5 := Lib.hid I5
          clear hkd I5 e5 hd5
          go_wp2_with fail
          refine (write_any _ d F4 m ((k : Int) % 3) _ 1 _ [120] (L4.out.alloc _).disk (bts_one wr 120 (by omega) _ _ _ rfl) (by omega) (fun _ x hx => by injection hx with hx; subst hx; exact L4.out.far _ (Nat.le_refl _)) HW.out).mono ?_
          rintro e w5 ⟨rfl, ht⟩
          obtain ⟨F5, hL5, _, _⟩ := (L4.out.alloc _).turned ht
          have L5 := Lib.hid hL5
          clear hL5 ht L4
          rw [E5.out]
          go_wp2_with fail
          refine (dead_any _ d F5 _ L5.out.disk).mono ?_
          rintro e w' ⟨rfl, rfl⟩
          rw [D5.out]
          go_wp2_with fail
          go_roundw
          case rel => exact ⟨k + 1, by omega, by go_num, F5, _, L5.out, J5.out⟩
          case measure => simp [intOf]; omega
    · obtain rfl : k = nk := by omega
      clear HL R3 kc
      have kc := conv_new
      by_cases hkn : n < k
      · have hkn1 : (n : Int) < (k : Int) := by omega
        have hr : m.readErr 0 = 10 := by unfold Dsk.DM.readErr; rw [I4.out.dead, decide_eq_true hkn]; rfl
        have HR := Lib.hid hr
        clear hr hkn
        go_wp2_with fail
        refine (read_any _ d F4 m 0 L4.out.disk).mono ?_
        intro e w6 ht
        rw [HR.out] at ht
        obtain ⟨rfl, hbl⟩ := ht.no (by decide)
        have L6 := Lib.hid (L4.out.under hbl)
        clear hbl
        have hwm : m.wait.length ≤ 5000000000000 := by have := I4.out.wait; have := I4.out.f0; omega
        have T := Lib.hid (tail_facts I4.out.len)
        have HW := Lib.hid hwm
        clear hwm ht L4
        go_wp2_with fail
        refine (crash_any _ d F4 m none 0 0 [] L6.out.disk ⟨rfl, fun h => by omega⟩ (by omega) (fun h => by omega) HW.out).mono ?_
        rintro e w7 ⟨rfl, ht⟩
        obtain ⟨F7, hL7, _, _⟩ := L6.out.turned ht
        have L7 := Lib.hid hL7
        clear hL7 ht L6
        go_wp2_with fail
        refine (write_any _ d F7 _ 0 _ 1 _ [120] (L7.out.alloc _).disk (bts_one w7 120 (by omega) _ _ _ rfl) (by omega) (fun _ x hx => by injection hx with hx; subst hx; exact L7.out.far _ (Nat.le_refl _)) (by show 0 ≤ _; omega)).mono ?_
        rintro e w8 ⟨rfl, ht⟩
        obtain ⟨F8, hL8, _, _⟩ := (L7.out.alloc _).turned ht
        have L8 := Lib.hid hL8
        clear hL8 ht L7
        rw [T.out.1]
        go_wp2_with fail
        refine (flush_any _ d F8 _ L8.out.disk T.out.2.1).mono ?_
        rintro e w9 ⟨rfl, ht⟩
        obtain ⟨F9, hL9, _, _⟩ := L8.out.turned ht
        have L9 := Lib.hid hL9
        clear hL9 ht L8
        rw [T.out.2.2.1]
        go_wp2_with fail
        refine (dead_any _ d F9 _ L9.out.disk).mono ?_
        rintro e w' ⟨rfl, rfl⟩
        rw [T.out.2.2.2]
        go_wp2_with fail
        go_ret
        exact ⟨rfl, HB.out.trans (L9.out.below.mono HB.out.size)⟩
      · have hkn1 : decide (n < k) = false := by simp; omega
        have hkn2 : (k : Int) ≤ (n : Int) := by omega
        have hr : m.readErr 0 = 0 := by unfold Dsk.DM.readErr; rw [I4.out.dead, decide_eq_false hkn, I4.out.len]; rfl
        have HR := Lib.hid hr
        clear hr hkn
        go_wp2_with fail
        refine (read_any _ d F4 m 0 L4.out.disk).mono ?_
        intro e w6 ht
        rw [HR.out] at ht
        obtain ⟨v, rfl, hf⟩ := ht.ok rfl
        have L6 := Lib.hid (L4.out.under hf.2.2)
        clear hf
        have hwm : m.wait.length ≤ 5000000000000 := by have := I4.out.wait; have := I4.out.f0; omega
        have T := Lib.hid (tail_facts I4.out.len)
        have HW := Lib.hid hwm
        clear hwm ht L4
        go_wp2_with fail
        refine (crash_any _ d F4 m none 0 0 [] L6.out.disk ⟨rfl, fun h => by omega⟩ (by omega) (fun h => by omega) HW.out).mono ?_
        rintro e w7 ⟨rfl, ht⟩
        obtain ⟨F7, hL7, _, _⟩ := L6.out.turned ht
        have L7 := Lib.hid hL7
        clear hL7 ht L6
        go_wp2_with fail
        refine (write_any _ d F7 _ 0 _ 1 _ [120] (L7.out.alloc _).disk (bts_one w7 120 (by omega) _ _ _ rfl) (by omega) (fun _ x hx => by injection hx with hx; subst hx; exact L7.out.far _ (Nat.le_refl _)) (by show 0 ≤ _; omega)).mono ?_
        rintro e w8 ⟨rfl, ht⟩
        obtain ⟨F8, hL8, _, _⟩ := (L7.out.alloc _).turned ht
        have L8 := Lib.hid hL8
        clear hL8 ht L7
        rw [T.out.1]
        go_wp2_with fail
        refine (flush_any _ d F8 _ L8.out.disk T.out.2.1).mono ?_
        rintro e w9 ⟨rfl, ht⟩
        obtain ⟨F9, hL9, _, _⟩ := L8.out.turned ht
        have L9 := Lib.hid hL9
        clear hL9 ht L8
        rw [T.out.2.2.1]
        go_wp2_with fail
        refine (dead_any _ d F9 _ L9.out.disk).mono ?_
        rintro e w' ⟨rfl, rfl⟩
        rw [T.out.2.2.2]
        go_wp2_with fail
        go_ret
        exact ⟨rfl, HB.out.trans (L9.out.below.mono HB.out.size)⟩
theorem opens {H : Type} {enc : TypeId × Value → H} {W : World} {base : Nat} {args : Array Value} {ds : List (DataW H)} {p : List MemPlace}
    (hval : ∀ (j : Nat) t v, Try.f6.params[j]? = some t → args[j]? = some v → Value.okWide Try.prog W .any base t v)
    (hA : DataW.TrodAll enc Try.prog W 0 (fun _ => true) true Try.f6.params.toList args.toList ds p) (hlt : ∀ x ∈ p, x.block < W.heap.size) (hsz : (DataW.weightsEach Try.prog Try.f6.params.toList ds).all (· ≤ reachBytes) = true) :
    Calls Try.prog 6 args W fun e W' => e = .returned (.bool true) ∧ Below W.heap.size W W' := by
  rw [Try.params6] at hA hval hsz
  obtain ⟨v0, vs0, d0, ds0, p0, q0, hargs, rfl, rfl, h0, r0⟩ := trodAll_cons hA
  obtain ⟨v1, vs1, d1, ds1, p1, q1, rfl, rfl, rfl, h1, r1⟩ := trodAll_cons r0
  obtain ⟨rfl, rfl, rfl⟩ := trodAll_nil r1
  obtain rfl : args = #[v0, v1] := by cases args; simp_all
  obtain ⟨n, rfl, hn⟩ := open_u8 (hval 0 5 v0 rfl rfl) h0
  obtain ⟨A, nk, c, l, rfl, hl, hk, _, _⟩ := open_keep (hval 1 33 v1 rfl rfl) h1
  exact walk n A nk c l W hn hl hk

set_option maxRecDepth 100000 in
theorem lifted (os : Os) (started : os.Started) (H : Type) (enc : TypeId × Value → H) :
    ReturnsInHanded {} Try.checked os 6 .any (Rows.diskFuelSpec.pre6 enc Try.prog Try.f6 Rows.diskFuelRow.domain false) (Rows.diskFuelSpec.post enc Try.prog Try.f6 false true false false) := by
  refine returnsInHanded_of_change_sized (C := Try.checked) own started (by kernel_rfl) Try.func6
    (ChangeSpec.witness6 (enc := enc) (C := Try.checked) false ⟨#[], #[.int .u8 0, .slice none 0 0], []⟩ 8 (by kernel_rfl) (by kernel_rfl) (by kernel_rfl) (by kernel_rfl)) ?_
  intro W base args ds gs before hval hW _ hsz0 _
  refine law_calls laidOut Try.underlying4 rfl (by rw [Try.params6]; exact of_decide_eq_true (by kernel_rfl)) rfl (fun ds h => by match ds, h with | [_, _], _ => rfl) hW ?_
  obtain ⟨rfl, p, hA, hlt⟩ := law_args rfl hW
  have hsz : (DataW.weightsEach Try.prog (Try.f6.params.toList ++ []) (ds ++ [])).all (· ≤ reachBytes) = true := hsz0
  rw [List.append_nil, List.append_nil] at hsz
  exact opens hval hA hlt hsz

theorem over : Rows.diskFuelRow.holds Try.pinned (OpenSpec.ofChange Rows.diskFuelSpec) :=
  OpenClaim.holds_of_wide 6 Try.f6 rfl rfl rfl rfl rfl rfl rfl ⟨rfl, rfl, rfl, rfl, rfl⟩ rfl rfl rfl rfl rfl (by kernel_rfl) Try.func6 (by kernel_rfl)
    (of_decide_eq_true (by kernel_rfl)) (by unfold Func.isWrapper; first | (rw [if_pos (by decide +kernel)]; kernel_rfl) | (rw [if_neg (by decide +kernel)]; exact ⟨rfl, rfl⟩))
    (fun os started H enc _ => lifted os started H enc)

theorem proved : Rows.DiskFuelSaid := over

end Go.Proofs.Ytejpefiblodefaa.diskFuel
