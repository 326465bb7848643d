/-
  'dies': a log whose disk has died answers ErrDead, and its numbers stay: the law answers true for every input, and its arguments read behind the call as before. No condition beside the row's own.
-/
import Derived.Test.YtacpgahbfmpiiaaMRing
namespace Go.Proofs.Ytacpgahbfmpiiaa.walDead
open Go.ChangeShapes Go.WideShapes Go.ChangeAt Go.RowKit Wal

theorem own : ownKnob Try.prog.godebug = none := by kernel_rfl
theorem laidOut : laidOutB Try.prog = true := by kernel_rfl

def A1 : LS := openS 0 39 0 1 0 []
def A2 : LS := { A1 with needs := [1] }
def A3 : LS := { A2 with synced := 1 }
def Ba : List (List Nat) := [[97]]
def Bb : List (List Nat) := [[98]]

/-- A log that has died. -/
structure Gone (s : LS) (m : Dsk.DM) : Prop where
  ok : s.Ok
  up : s.dead = true
  dead : m.dead = true
  first : s.first = 1
  syn : (s.synced : Int) ≤ s.last
  wait : m.wait.length ≤ 10
theorem ok_dead {s : LS} (h : s.Ok) : ({ s with dead := true } : LS).Ok := ⟨h.frm, h.ring, h.ring0, h.start, h.first, h.first1, h.needs, h.count⟩
theorem inv_fuel {s : LS} {m : Dsk.DM} {Bs : List (List (List Nat))} (h : Wal.Inv s m Bs) (x : Int) : Wal.Inv s (m.setFuel x) Bs := ⟨h.ok, h.up, h.alive, h.size, h.needs, h.syn1, h.syn2, h.live, h.safe⟩
theorem run : ∃ m1 m2 m3 : Dsk.DM, makeO (Dsk.fresh 40) 0 40 = (0, A1, m1) ∧ appendO A1 m1 Ba = (1, 0, A2, m2) ∧ syncO A2 m2 = (0, A3, m3) ∧ A1.Ok ∧ A2.Ok ∧ A3.Ok ∧ m1.wait.length ≤ 10 ∧ m2.wait.length ≤ 10 ∧ Wal.Inv A3 m3 [Ba] ∧ m3.wait.length = 0 := by
  have n1 : need Ba = 1 := by decide
  obtain ⟨m1, e1, i1, w1, d1, f1, _⟩ := inv_make (m := Dsk.fresh 40) (frm := 0) (n := 40) (by simp [Dsk.fresh]) rfl (by omega) (by simp [Dsk.fresh]) rfl
  have i1 : Wal.Inv A1 m1 [] := i1
  rcases i1.append (b := Ba) (by decide) (by decide) (by rw [n1]; decide) (by omega) with ⟨m2, e2, i2, d2, f2, w2, _⟩ | ⟨_, _, _, hf, _⟩
  rotate_left
  · exact absurd f1 hf
  rw [n1] at e2 i2 f2 w2
  have i2 : Wal.Inv A2 m2 [Ba] := i2
  have f2 : m2.fuel = -1 := by rw [f2, f1]; rfl
  rcases i2.sync with ⟨m3, e3, i3, w3, d3, f3, h3, _⟩ | ⟨_, _, _, hf, _⟩
  rotate_left
  · exact absurd f2 hf
  have i3 : Wal.Inv A3 m3 [Ba] := i3
  have l1 : m1.wait.length = 0 := by rw [w1]; rfl
  refine ⟨m1, m2, m3, e1, e2, e3, i1.ok, i2.ok, i3.ok, by omega, by omega, i3, ?_⟩
  rcases h3 with h | h
  · exact absurd h (by decide)
  · rw [h]; rfl
theorem dies {m : Dsk.DM} (h : Wal.Inv A3 m [Ba]) (hw : m.wait.length = 0) {f : Nat} (hf : f < 3) : ∃ z s5 m5 s6 m6, appendO A3 (m.setFuel f) Bb = (z, s5) ∧ s5 = (s5.1, s5.2.1, m5) ∧ s5.2.1.Ok ∧ m5.wait.length ≤ 10 ∧ syncO s5.2.1 m5 = (10, s6, m6) ∧ Gone s6 m6 := by
  have n1 : need Bb = 1 := by decide
  have hi := inv_fuel h f
  have hfu : (m.setFuel f).fuel = f := by show max (f : Int) (-1) = f; omega
  rcases hi.append (b := Bb) (by decide) (by decide) (by rw [n1]; decide) (by omega) with ⟨m5, e2, i2, d2, f2, w2, _⟩ | ⟨m5, e2, hd, _, hlt, hdur, _⟩
  · rw [n1] at e2 i2 f2 w2
    rw [hfu] at f2
    have hw5 : m5.wait.length = 1 := by rw [w2]; show m.wait.length + 1 = 1; omega
    rcases i2.sync with ⟨_, _, _, _, _, _, _, h9⟩ | ⟨m6, e6, hd6, _⟩
    · exfalso
      rcases h9 with h9 | ⟨a, b, c⟩
      · exact absurd h9 (by decide)
      · unfold spend at f2
        rw [if_neg (by omega)] at f2
        omega
    · refine ⟨_, _, m5, _, m6, e2, rfl, i2.ok, by omega, e6, ⟨ok_dead i2.ok, rfl, hd6, rfl, by show (1 : Int) ≤ 1 + 2 - 1; decide, ?_⟩⟩
      have h8 := syncO_wait { A3 with needs := A3.needs ++ [1] } m5
      rw [e6] at h8
      have h8 : m6.wait.length ≤ m5.wait.length + 1 := h8
      omega
  · refine ⟨_, _, m5, _, m5, e2, rfl, ok_dead hi.ok, ?_, sync_dead rfl, ⟨ok_dead (ok_dead hi.ok), rfl, hd, rfl, by show (1 : Int) ≤ 1 + 1 - 1; decide, ?_⟩⟩
    all_goals
      have h8 := appendO_wait A3 (m.setFuel f) Bb
      rw [e2, n1] at h8
      have h8 : m5.wait.length ≤ m.wait.length + 1 := h8
      omega

set_option maxRecDepth 100000 in
set_option maxHeartbeats 3200000 in
theorem walk (f : Nat) (hf : f < 256) (A : Option Addr) (k c : Nat) (l : List ByteArray) (w : World) (hl : Strs w A k l) (hk : k ≤ 8796093022208) :
    Calls Try.prog 6 #[.int .u8 (f : Int), .slice A k c] w fun e w' => e = .returned (.bool true) ∧ Below w.heap.size w w' := by
  have HL := Lib.hid hl
  obtain ⟨m1, m2, m3, e1, e2, e3, k1, k2, k3, q1, q2, i3, q3⟩ := run
  have E1 := Lib.hid e1
  have E2 := Lib.hid e2
  have E3 := Lib.hid e3
  have KK := Lib.hid (And.intro k1 (And.intro k2 k3))
  have WW := Lib.hid (And.intro q1 (And.intro q2 q3))
  have I3 := Lib.hid i3
  obtain ⟨f3, hf3⟩ : ∃ f3, f3 = f % 3 := ⟨_, rfl⟩
  have h3 : f3 < 3 := by rw [hf3]; exact Nat.mod_lt _ (by omega)
  have e3' : ((f : Int)).tmod 3 = (f3 : Int) := by
    rw [Int.tmod_eq_emod_of_nonneg (by omega)]
    omega
  obtain ⟨z, s5, m5, s6, m6, e5, e5', k5, q5, e6, g6⟩ := dies i3 q3 h3
  have E5 := Lib.hid e5
  have E5s := Lib.hid e5'
  have K5 := Lib.hid k5
  have Q5 := Lib.hid q5
  have E6 := Lib.hid e6
  have G6 := Lib.hid g6
  clear hl e1 e2 e3 k1 k2 k3 q1 q2 i3 q3 e5 e5' k5 q5 e6 g6 hf3
  go_enter Try.func6, Try.ntmps6
  go_wp2_with fail
  refine (fixed_any _).mono ?_
  rintro e w1 ⟨rfl, hbel⟩
  have BF := Lib.hid hbel
  clear hbel
  go_wp2_with fail
  refine (new_any _ 40).mono ?_
  intro e w2 hm
  obtain ⟨d, F, rfl, hL⟩ := hm.lives
  have e0 : Dsk.fresh (clampN 40) = Dsk.fresh 40 := rfl
  rw [e0] at hL
  have L2 : Hid (Lives w w2 d F (Dsk.fresh 40)) := ⟨hL.disk, BF.out.trans (hL.below.mono BF.out.size), fun x hx => Nat.le_trans BF.out.size (hL.new x hx)⟩
  clear hm hL BF e0
  have MK := Lib.hid (make_any w2 d F _ 0 40 L2.out.disk (by decide) (by simp [Dsk.fresh]))
  rw [E1.out] at MK
  go_wp2_with fail
  refine MK.out.mono ?_
  intro e w3 hm
  obtain ⟨b, G3, F3, rfl, hL, _, _⟩ := hm.ok rfl L2.out
  have L3 : Hid (LLives w w3 b G3 A1 d F3 m1) := hL
  clear hm hL MK L2
  have AP := Lib.hid (append_any (w3.alloc (.cells #[.string ⟨#[97]⟩] 9)) b d A1 G3 F3 m1 (some ⟨w3.heap.size, 0, none⟩) 1 1 [⟨#[97]⟩] (L3.out.alloc _).ld KK.out.1 (strs_one w3 _ (by decide) _ _ rfl) (by omega) (fun _ x hx => by
    injection hx with hx
    subst hx
    exact L3.out.far (Nat.le_refl _)) (by have := WW.out; omega))
  rw [show txts [(⟨#[97]⟩ : ByteArray)] = Ba from by decide, E2.out] at AP
  go_wp2_with fail
  refine AP.out.mono ?_
  rintro e w4 ⟨rfl, ht⟩
  obtain ⟨G4, F4, hL, _, _⟩ := (L3.out.alloc _).turned ht
  have L4 : Hid (LLives w w4 b G4 A2 d F4 m2) := hL
  clear hL ht AP L3
  have SY := Lib.hid (sync_any w4 b d A2 G4 F4 m2 L4.out.ld KK.out.2.1 (by have := WW.out; omega))
  rw [E3.out] at SY
  go_wp2_with fail
  refine SY.out.mono ?_
  rintro e w5 ⟨rfl, ht⟩
  obtain ⟨G5, F5, hL, _, _⟩ := L4.out.turned ht
  have L5 : Hid (LLives w w5 b G5 A3 d F5 m3) := hL
  clear hL ht SY L4
  have FU := Lib.hid (fuel_any w5 d F5 m3 (f3 : Int) (by omega) L5.out.ld.disk)
  go_wp2_with fail
  refine FU.out.mono ?_
  rintro e w6 ⟨rfl, ht⟩
  obtain ⟨F6, hL, hO6, hN6⟩ := L5.out.ld.turned ht
  have L6 : Hid (LLives w w6 b G5 A3 d F6 (m3.setFuel f3)) := ⟨hL, L5.out.below.trans (hO6.below L5.out.below.size L5.out.new), fun x hx => by
    rcases List.mem_append.1 hx with hx | hx
    · exact L5.out.new x (List.mem_append.2 (.inl hx))
    · rcases hN6 x hx with hx | hx
      · exact L5.out.new x (List.mem_append.2 (.inr hx))
      · exact Nat.le_trans L5.out.below.size hx⟩
  clear ht hL hO6 hN6 FU L5
  have M3 : Hid ((m3.setFuel f3).dead = false ∧ (m3.setFuel f3).wait.length = 0) := ⟨I3.out.alive, WW.out.2.2⟩
  obtain ⟨m4, hm4⟩ : ∃ m4, m4 = m3.setFuel (f3 : Int) := ⟨_, rfl⟩
  rw [← hm4] at L6 M3 E5
  clear hm4 e3'
  go_wp2_with fail
  go_loopw [8] (fun iv wr => ∃ s G F m, LLives w wr b G s d F m ∧ ((iv = .int .i64 ((0 : Nat) : Int) ∧ s = A3 ∧ m = m4) ∨ (iv = .int .i64 ((1 : Nat) : Int) ∧ Gone s m))) (fun iv _ => 2 - (intOf iv).toNat)
  case atStart => exact ⟨A3, G5, F6, m4, L6.out, .inl ⟨rfl, rfl, rfl⟩⟩
  case round =>
    obtain ⟨s, G, F, m, hlv, hor⟩ := hrel
    clear L6
    rcases hor with ⟨rfl, rfl, rfl⟩ | ⟨rfl, hg⟩
    · have L7 := Lib.hid hlv
      have DA := Lib.hid (dead_any wr d F m hlv.ld.disk)
      rw [M3.out.1] at DA
      clear hlv
      go_wp2_with fail
      refine DA.out.mono ?_
      rintro e w' ⟨rfl, rfl⟩
      have AP := Lib.hid (append_any (wr.alloc (.cells #[.string ⟨#[98]⟩] 9)) b d A3 G F m (some ⟨wr.heap.size, 0, none⟩) 1 1 [⟨#[98]⟩] (L7.out.alloc _).ld KK.out.2.2 (strs_one wr _ (by decide) _ _ rfl) (by omega) (fun _ x hx => by
        injection hx with hx
        subst hx
        exact L7.out.far (Nat.le_refl _)) (by rw [M3.out.2]; omega))
      rw [show txts [(⟨#[98]⟩ : ByteArray)] = Bb from by decide, E5.out, E5s.out] at AP
      clear DA
      go_wp2_with fail
      refine AP.out.mono ?_
      rintro e w8 ⟨rfl, ht⟩
      obtain ⟨G8, F8, hL, _, _⟩ := (L7.out.alloc _).turned ht
      have L8 : Hid (LLives w w8 b G8 s5.2.1 d F8 m5) := hL
      clear hL ht AP L7
      have SY := Lib.hid (sync_any w8 b d s5.2.1 G8 F8 m5 L8.out.ld K5.out (by have := Q5.out; omega))
      rw [E6.out] at SY
      go_wp2_with fail
      refine SY.out.mono ?_
      rintro e w9 ⟨rfl, ht⟩
      obtain ⟨G9, F9, hL, _, _⟩ := L8.out.turned ht
      have L9 : Hid (LLives w w9 b G9 s6 d F9 m6) := hL
      clear hL ht SY L8
      go_wp2_with fail
      go_roundw
      case rel => exact ⟨s6, G9, F9, m6, L9.out, .inr ⟨by go_num, G6.out⟩⟩
      case measure => simp [intOf]
    · have L7 := Lib.hid hlv
      have GO := Lib.hid hg
      have DA := Lib.hid (dead_any wr d F m hlv.ld.disk)
      rw [hg.dead] at DA
      clear hlv hg E5 E5s K5 Q5 E6 G6 M3
      go_wp2_with fail
      refine DA.out.mono ?_
      rintro e w' ⟨rfl, rfl⟩
      clear DA
      have rb : s.needs.sum ≤ 4096 ∧ s.needs.length ≤ 4096 ∧ s.ring ≤ 4096 := by have := GO.out.ok.needs; have := GO.out.ok.count; have := GO.out.ok.ring; omega
      have RB := Lib.hid rb
      obtain ⟨ro, hro⟩ : ∃ ro, ro = s.room := ⟨_, rfl⟩
      obtain ⟨la, hla⟩ : ∃ la, la = s.last := ⟨_, rfl⟩
      have ERO := Lib.hid hro
      have ELA := Lib.hid hla
      have RO : Hid (∀ W, LLives w W b G s d F m → Calls Try.prog 25 #[.pointer (some ⟨b, 0, none⟩)] W fun e w' => e = .returned (.int .i64 ro) ∧ ∃ n, w' = W.drewN n) := fun W hW => by
        obtain ⟨vn, hlog, _⟩ := hW.ld.log
        rw [hro]
        exact room_any W b d vn s hlog (by have := RB.out; omega) (by have := RB.out; omega) (by have := RB.out; omega)
      have LA : Hid (∀ W, LLives w W b G s d F m → Calls Try.prog 28 #[.pointer (some ⟨b, 0, none⟩)] W fun e w' => e = .returned (.int .i64 la) ∧ ∃ n, w' = W.drewN n) := fun W hW => by
        obtain ⟨vn, hlog, _⟩ := hW.ld.log
        rw [hla]
        exact last_any W b d vn s hlog (by have := GO.out.ok.first; omega) (by have := RB.out; omega)
      have SN : Hid (∀ W, LLives w W b G s d F m → Calls Try.prog 29 #[.pointer (some ⟨b, 0, none⟩)] W fun e w' => e = .returned (.int .i64 (s.synced : Int)) ∧ W = w') := fun W hW => by
        obtain ⟨vn, hlog, _⟩ := hW.ld.log
        exact synced_any W b d vn s hlog
      clear hro hla rb
      go_wp2_with fail
      refine (RO.out _ L7.out).mono ?_
      rintro e w8 ⟨rfl, q8, hw⟩
      have L8 : Hid (LLives w w8 b G s d F m) := by rw [hw]; exact L7.out.drewN q8
      clear hw L7
      go_wp2_with fail
      refine (LA.out _ L8.out).mono ?_
      rintro e w9 ⟨rfl, q9, hw⟩
      have L9 : Hid (LLives w w9 b G s d F m) := by rw [hw]; exact L8.out.drewN q9
      clear hw L8
      go_wp2_with fail
      refine (SN.out _ L9.out).mono ?_
      rintro e w' ⟨rfl, rfl⟩
      have SL : Hid (Strs w9 A k l) := HL.out.below L9.out.below
      have hdd : (s.dead || m.dead) = true := by rw [GO.out.up]; rfl
      have es : ({ s with dead := true } : LS) = s := by rw [← GO.out.up]
      have AP := Lib.hid (append_any w9 b d s G F m A k c l L9.out.ld GO.out.ok SL.out (by omega) (fun h0 x hx hm => by
        obtain ⟨g, off, e, hg, _⟩ := HL.out.2.2 h0
        rw [hx] at e
        injection e with e
        subst e
        have := L9.out.new _ hm
        have h9 : g < w.heap.size := hg
        dsimp only at this
        omega) (by have := GO.out.wait; omega))
      rw [append_dead hdd, es] at AP
      go_wp2_with fail
      refine AP.out.mono ?_
      rintro e w10 ⟨rfl, ht⟩
      obtain ⟨G10, F10, hL, _, _⟩ := L9.out.turned ht
      have L10 : Hid (LLives w w10 b G10 s d F10 m) := hL
      have DA := Lib.hid (dead_any w10 d F10 m hL.ld.disk)
      rw [GO.out.dead] at DA
      clear hL ht AP L9 RO LA SN SL
      go_wp2_with fail
      refine DA.out.mono ?_
      rintro e w' ⟨rfl, rfl⟩
      have SY := Lib.hid (sync_any w10 b d s G10 F10 m L10.out.ld GO.out.ok (by have := GO.out.wait; omega))
      rw [sync_dead hdd, es] at SY
      clear DA
      go_wp2_with fail
      refine SY.out.mono ?_
      rintro e w11 ⟨rfl, ht⟩
      obtain ⟨G11, F11, hL, _, _⟩ := L10.out.turned ht
      have L11 : Hid (LLives w w11 b G11 s d F11 m) := hL
      have TR := Lib.hid (trim_any w11 b d s G11 F11 m 0 hL.ld GO.out.ok GO.out.syn (by have := GO.out.wait; omega))
      rw [trim_dead hdd, es] at TR
      clear hL ht SY L10
      go_wp2_with fail
      refine TR.out.mono ?_
      rintro e w12 ⟨rfl, ht⟩
      obtain ⟨G12, F12, hL, _, _⟩ := L11.out.turned ht
      have L12 : Hid (LLives w w12 b G12 s d F12 m) := hL
      clear hL ht TR L11 hdd es
      obtain ⟨vn, hlog, _⟩ := L12.out.ld.log
      have R12 := Lib.hid (room_any w12 b d vn s hlog (by have := RB.out; omega) (by have := RB.out; omega) (by have := RB.out; omega))
      rw [← ERO.out] at R12
      clear hlog
      go_wp2_with fail
      refine R12.out.mono ?_
      rintro e w13 ⟨rfl, q8, hw⟩
      have L13 : Hid (LLives w w13 b G12 s d F12 m) := by rw [hw]; exact L12.out.drewN q8
      clear hw L12 R12
      obtain ⟨vn, hlog, _⟩ := L13.out.ld.log
      have LA13 := Lib.hid (last_any w13 b d vn s hlog (by have := GO.out.ok.first; omega) (by have := RB.out; omega))
      rw [← ELA.out] at LA13
      clear hlog
      go_wp2_with fail
      refine LA13.out.mono ?_
      rintro e w14 ⟨rfl, q8, hw⟩
      have L14 : Hid (LLives w w14 b G12 s d F12 m) := by rw [hw]; exact L13.out.drewN q8
      clear hw L13 LA13
      obtain ⟨vn, hlog, _⟩ := L14.out.ld.log
      have SY14 := Lib.hid (synced_any w14 b d vn s hlog)
      have FI14 := Lib.hid (first_any w14 b d vn s hlog)
      rw [GO.out.first] at FI14
      have BW := Lib.hid L14.out.below
      clear hlog L14
      go_wp2_with fail
      refine SY14.out.mono ?_
      rintro e w' ⟨rfl, rfl⟩
      go_wp2_with fail
      refine FI14.out.mono ?_
      rintro e w' ⟨rfl, rfl⟩
      go_wp2_with fail
      go_ret
      exact ⟨rfl, BW.out⟩
set_option maxRecDepth 100000 in
theorem opens {H : Type} {enc : TypeId × Value → H} {W : World} {base : Nat} {args : Array Value} {ds : List (DataW H)} {p : List MemPlace}
    (hval : ∀ (j : Nat) t v, Try.f6.params[j]? = some t → args[j]? = some v → Value.okWide Try.prog W .any base t v)
    (hA : DataW.TrodAll enc Try.prog W 0 (fun _ => true) true Try.f6.params.toList args.toList ds p) (hlt : ∀ x ∈ p, x.block < W.heap.size) (hsz : (DataW.weightsEach Try.prog Try.f6.params.toList ds).all (· ≤ reachBytes) = true) :
    Calls Try.prog 6 args W fun e W' => e = .returned (.bool true) ∧ Below W.heap.size W W' := by
  rw [Try.params6] at hA hval hsz
  obtain ⟨v0, vs0, d0, ds0, p0, q0, hargs, rfl, rfl, h0, r0⟩ := trodAll_cons hA
  obtain ⟨v1, vs1, d1, ds1, p1, q1, rfl, rfl, rfl, h1, r1⟩ := trodAll_cons r0
  obtain ⟨rfl, rfl, rfl⟩ := trodAll_nil r1
  obtain rfl : args = #[v0, v1] := by cases args; simp_all
  obtain ⟨n, rfl, hn⟩ := open_u8 (hval 0 5 v0 rfl rfl) h0
  obtain ⟨A, k, c, l, rfl, hl, hk, _, _, _⟩ := open_batch (hval 1 36 v1 rfl rfl) h1 (small_args hsz (j := 1) rfl rfl)
  exact walk n hn A k c l W hl hk

set_option maxRecDepth 100000 in
theorem lifted (os : Os) (started : os.Started) (H : Type) (enc : TypeId × Value → H) :
    ReturnsInHanded {} Try.checked os 6 .any (Rows.walDeadSpec.pre6 enc Try.prog Try.f6 Rows.walDeadRow.domain false) (Rows.walDeadSpec.post enc Try.prog Try.f6 false true false false) := by
  refine returnsInHanded_of_change_sized (C := Try.checked) own started (by kernel_rfl) Try.func6
    (ChangeSpec.witness6 (enc := enc) (C := Try.checked) false ⟨#[], #[.int .u8 0, .slice none 0 0], []⟩ 8 (by kernel_rfl) (by kernel_rfl) (by kernel_rfl) (by kernel_rfl)) ?_
  intro W base args ds gs before hval hW _ hsz0 _
  refine law_calls laidOut Try.underlying4 rfl (by rw [Try.params6]; exact of_decide_eq_true (by kernel_rfl)) rfl (fun ds h => by match ds, h with | [_, _], _ => rfl) hW ?_
  obtain ⟨rfl, p, hA, hlt⟩ := law_args rfl hW
  have hsz : (DataW.weightsEach Try.prog (Try.f6.params.toList ++ []) (ds ++ [])).all (· ≤ reachBytes) = true := hsz0
  rw [List.append_nil, List.append_nil] at hsz
  exact opens hval hA hlt hsz

theorem over : Rows.walDeadRow.holds Try.pinned (OpenSpec.ofChange Rows.walDeadSpec) :=
  OpenClaim.holds_of_wide 6 Try.f6 rfl rfl rfl rfl rfl rfl rfl ⟨rfl, rfl, rfl, rfl, rfl⟩ rfl rfl rfl rfl rfl (by kernel_rfl) Try.func6 (by kernel_rfl)
    (of_decide_eq_true (by kernel_rfl)) (by unfold Func.isWrapper; first | (rw [if_pos (by decide +kernel)]; kernel_rfl) | (rw [if_neg (by decide +kernel)]; exact ⟨rfl, rfl⟩))
    (fun os started H enc _ => lifted os started H enc)

theorem proved : Rows.WalDeadSaid := over

end Go.Proofs.Ytacpgahbfmpiiaa.walDead
