/-
  P2.2, P2.4: what was flushed is there behind any crash; a second flush changes nothing: the law answers true for every input, and its arguments read behind the call as before. No condition beside the row's own.
-/
import Derived.Test.YtejpefiblodefaaDiskF
namespace Go.Proofs.Ytejpefiblodefaa.diskFlushed
open Go.ChangeShapes Go.WideShapes Go.ChangeAt Go.RowKit

theorem own : ownKnob Try.prog.godebug = none := by kernel_rfl
theorem laidOut : laidOutB Try.prog = true := by kernel_rfl

theorem facts {m : Dsk.DM} {k : Nat} (h : Plain m k) (keep : List Bool) : m.flushErr = 0 ∧ m.flush.flushErr = 0 ∧ m.flush = { m with dur := m.seen, wait := [] } ∧ m.flush.flush = m.flush ∧ (m.flush.crash keep).dur = m.flush.flush.dur ∧ (m.flush.crash keep).seen = m.flush.flush.seen ∧ (m.flush.crash keep).dead = false ∧ m.flush.flush.dead = false := by
  have hf : m.fuel ≠ 0 := by rw [h.fuel]; decide
  have hb : m.burn = m := by unfold Dsk.DM.burn; rw [if_pos h.fuel]
  have e1 : m.flush = { m with dur := m.seen, wait := [] } := by unfold Dsk.DM.flush; rw [hb, if_neg hf]; simp [h.dead]
  have e2 : m.flush.flush = m.flush := by
    rw [e1]
    unfold Dsk.DM.flush
    have hb2 : Dsk.DM.burn { m with dur := m.seen, wait := [] } = { m with dur := m.seen, wait := [] } := by unfold Dsk.DM.burn; rw [if_pos h.fuel]
    rw [hb2]
    simp only [h.dead, Bool.false_eq_true, if_false, if_neg hf]
    rfl
  refine ⟨?_, ?_, e1, e2, ?_, ?_, rfl, ?_⟩
  · unfold Dsk.DM.flushErr; simp [h.dead, hf]
  · rw [e1]; unfold Dsk.DM.flushErr; simp [h.dead, hf]
  · rw [e2, e1]; rfl
  · rw [e2, e1]; rfl
  · rw [e2, e1]; exact h.dead

set_option maxRecDepth 100000 in
set_option maxHeartbeats 1600000 in
theorem walk (A : Option Addr) (n c : Nat) (l : List OpD) (A2 : Option Addr) (n2 c2 : Nat) (l2 : List Bool) (w : World) (hl : Ops w A n l) (hn : n ≤ 9223372036854775807) (hl2 : Bls w A2 n2 l2) (hn2 : n2 ≤ 9223372036854775807) (hA2 : 0 < n2 → ∀ a, A2 = some a → a.block < w.heap.size) :
    Calls Try.prog 8 #[.slice A n c, .slice A2 n2 c2] w fun e w' => e = .returned (.bool true) ∧ Below w.heap.size w w' := by
  have HL := Lib.hid hl
  have HL2 := Lib.hid hl2
  have HA2 := Lib.hid hA2
  obtain ⟨m, hm⟩ : ∃ m, m = writtenM (l.take 200) := ⟨_, rfl⟩
  have hp := writtenM_plain (l.take 200)
  rw [← hm] at hp
  have HP := Lib.hid hp
  have HX := Lib.hid (facts hp l2)
  have HM := Lib.hid hm
  clear hl hl2 hA2 hp hm
  have hw : m.wait.length ≤ 5000000000000 := by have := HP.out.wait; rw [List.length_take] at this; omega
  have HW := Lib.hid hw
  clear hw
  go_enter Try.func8, Try.ntmps8
  go_wp2_with fail
  refine (fixed_any _).mono ?_
  rintro e w1 ⟨rfl, hbel⟩
  have B1 := Lib.hid hbel
  clear hbel
  go_wp2_with fail
  refine (written_any A n c l 200 _ (HL.out.kept B1.out) hn (by omega)).mono ?_
  intro e w2 hn2
  rw [← HM.out] at hn2
  obtain ⟨a, F, rfl, hL⟩ := hn2.lives
  have L2 := Lib.hid hL
  clear hn2 hL
  go_wp2_with fail
  refine (written_any A n c l 200 _ (HL.out.kept (B1.out.trans (L2.out.below.mono B1.out.size))) hn (by omega)).mono ?_
  intro e w3 hn3
  rw [← HM.out] at hn3
  obtain ⟨b, G, rfl, hL⟩ := hn3.lives
  have P3 := Lib.hid (Pair.start L2.out hL)
  clear hn3 hL L2
  go_wp2_with fail
  refine (flush_any _ a F m P3.out.a.disk HW.out).mono ?_
  rintro e w4 ⟨rfl, ht⟩
  obtain ⟨F4, hP⟩ := P3.out.left ht
  have P4 := Lib.hid hP
  clear hP ht P3
  rw [HX.out.1]
  go_wp2_with fail
  refine (flush_any _ b G m P4.out.b.disk HW.out).mono ?_
  rintro e w5 ⟨rfl, ht⟩
  obtain ⟨G5, hP⟩ := P4.out.right ht
  have P5 := Lib.hid hP
  clear hP ht P4
  rw [HX.out.1]
  go_wp2_with fail
  refine (flush_any _ b G5 _ P5.out.b.disk (by rw [HX.out.2.2.1]; show 0 ≤ _; omega)).mono ?_
  rintro e w6 ⟨rfl, ht⟩
  obtain ⟨G6, hP⟩ := P5.out.right ht
  have P6 := Lib.hid hP
  clear hP ht P5
  rw [HX.out.2.1]
  go_wp2_with fail
  refine (crash_any _ a F4 _ A2 n2 c2 l2 P6.out.a.disk (HL2.out.kept (B1.out.trans (P6.out.a.below.mono B1.out.size))) hn2 (fun h0 x hx => P6.out.a.old _ (Nat.lt_of_lt_of_le (HA2.out h0 x hx) B1.out.size)) (by rw [HX.out.2.2.1]; show 0 ≤ _; omega)).mono ?_
  rintro e w7 ⟨rfl, ht⟩
  obtain ⟨F7, hP⟩ := P6.out.left ht
  have P7 := Lib.hid hP
  clear hP ht P6
  go_wp2_with fail
  refine (full_any _ a b F7 G6 _ _ P7.out.a.disk P7.out.b.disk (by rw [HX.out.2.2.2.2.1]) HX.out.2.2.2.2.2.2.1 HX.out.2.2.2.2.2.2.2 (fun i => by rw [HX.out.2.2.2.2.2.1]) (fun i => by rw [HX.out.2.2.2.2.1])).mono ?_
  rintro e w8 ⟨rfl, hb8⟩
  have P8 := Lib.hid (P7.out.under hb8)
  clear hb8 P7
  go_wp2_with fail
  refine (pending_any _ a F7 _ P8.out.a.disk).mono ?_
  rintro e w' ⟨rfl, rfl⟩
  rw [show (m.flush.crash l2).wait.length = 0 from rfl]
  go_wp2_with fail
  go_ret
  exact ⟨rfl, B1.out.trans (P8.out.a.below.mono B1.out.size)⟩
theorem opens {H : Type} {enc : TypeId × Value → H} {W : World} {base : Nat} {args : Array Value} {ds : List (DataW H)} {p : List MemPlace}
    (hval : ∀ (j : Nat) t v, Try.f8.params[j]? = some t → args[j]? = some v → Value.okWide Try.prog W .any base t v)
    (hA : DataW.TrodAll enc Try.prog W 0 (fun _ => true) true Try.f8.params.toList args.toList ds p) (hlt : ∀ x ∈ p, x.block < W.heap.size) (hsz : (DataW.weightsEach Try.prog Try.f8.params.toList ds).all (· ≤ reachBytes) = true) :
    Calls Try.prog 8 args W fun e W' => e = .returned (.bool true) ∧ Below W.heap.size W W' := by
  rw [Try.params8] at hA hval hsz
  obtain ⟨v0, vs0, d0, ds0, p0, q0, hargs, rfl, rfl, h0, r0⟩ := trodAll_cons hA
  obtain ⟨v1, vs1, d1, ds1, p1, q1, rfl, rfl, rfl, h1, r1⟩ := trodAll_cons r0
  obtain ⟨rfl, rfl, rfl⟩ := trodAll_nil r1
  obtain rfl : args = #[v0, v1] := by cases args; simp_all
  obtain ⟨A, n, c, l, rfl, hl, hn, _⟩ := open_ops (hval 0 22 v0 rfl rfl) h0
  obtain ⟨A2, n2, c2, l2, rfl, hl2, hn2, hlt2, _⟩ := open_keep (hval 1 33 v1 rfl rfl) h1
  exact walk A n c l A2 n2 c2 l2 W hl hn hl2 hn2 hlt2

set_option maxRecDepth 100000 in
theorem lifted (os : Os) (started : os.Started) (H : Type) (enc : TypeId × Value → H) :
    ReturnsInHanded {} Try.checked os 8 .any (Rows.diskFlushedSpec.pre6 enc Try.prog Try.f8 Rows.diskFlushedRow.domain false) (Rows.diskFlushedSpec.post enc Try.prog Try.f8 false true false false) := by
  refine returnsInHanded_of_change_sized (C := Try.checked) own started (by kernel_rfl) Try.func8
    (ChangeSpec.witness6 (enc := enc) (C := Try.checked) false ⟨#[], #[.slice none 0 0, .slice none 0 0], []⟩ 8 (by kernel_rfl) (by kernel_rfl) (by kernel_rfl) (by kernel_rfl)) ?_
  intro W base args ds gs before hval hW _ hsz0 _
  refine law_calls laidOut Try.underlying4 rfl (by rw [Try.params8]; exact of_decide_eq_true (by kernel_rfl)) rfl (fun ds h => by match ds, h with | [_, _], _ => rfl) hW ?_
  obtain ⟨rfl, p, hA, hlt⟩ := law_args rfl hW
  have hsz : (DataW.weightsEach Try.prog (Try.f8.params.toList ++ []) (ds ++ [])).all (· ≤ reachBytes) = true := hsz0
  rw [List.append_nil, List.append_nil] at hsz
  exact opens hval hA hlt hsz

theorem over : Rows.diskFlushedRow.holds Try.pinned (OpenSpec.ofChange Rows.diskFlushedSpec) :=
  OpenClaim.holds_of_wide 8 Try.f8 rfl rfl rfl rfl rfl rfl rfl ⟨rfl, rfl, rfl, rfl, rfl⟩ rfl rfl rfl rfl rfl (by kernel_rfl) Try.func8 (by kernel_rfl)
    (of_decide_eq_true (by kernel_rfl)) (by unfold Func.isWrapper; first | (rw [if_pos (by decide +kernel)]; kernel_rfl) | (rw [if_neg (by decide +kernel)]; exact ⟨rfl, rfl⟩))
    (fun os started H enc _ => lifted os started H enc)

theorem proved : Rows.DiskFlushedSaid := over

end Go.Proofs.Ytejpefiblodefaa.diskFlushed
