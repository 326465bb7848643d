/-
  space: the contract of the statements' 'pages'; the document's examples: 'fixed' answers true, and writes nothing that was there.
-/
import Derived.Test.YtaoldopkehbhkaaSp6
namespace Go.Proofs.Ytaoldopkehbhkaa
open Go.RowKit Go.Maps Wal

set_option maxRecDepth 100000 in
set_option maxHeartbeats 800000 in
/-- A transaction of a fresh pager of n blocks. -/
theorem pages_any (w : World) (n : Nat) (h1 : 1 ≤ n) (h2 : n ≤ 4092) :
    Calls Try.prog 5 #[.int .i64 (n : Int)] w fun e w' => ∃ P t tm, e = .returned (.tuple #[.pointer (some ⟨P.p, 0, none⟩), .pointer (some ⟨t, 0, none⟩)]) ∧ Pages w' P t tm (fun _ => none) ∧ P.got (fun _ => none) 0 = sec [] ∧ P.N = n ∧ Below w.heap.size w w' ∧ ∀ x ∈ pfoot P t tm, w.heap.size ≤ x := by
  have hn9 : (n : Int) ≤ 4092 := by omega
  obtain ⟨M, hM⟩ : ∃ M, M = n + 4 := ⟨_, rfl⟩
  have eM : (n : Int) + 4 = (M : Int) := by omega
  have ND := new_any w (M : Int)
  have cM : clampN (M : Int) = M := by
    unfold clampN
    rw [if_neg (by omega), if_neg (by omega)]
    omega
  rw [cM] at ND
  have ND := Lib.hid ND
  have HM := Lib.hid hM
  have E := Lib.hid eM
  clear hM eM cM
  go_enter Try.func5, Try.ntmps5
  go_wp2_with fail
  rw [E.out]
  refine ND.out.mono ?_
  rintro e w1 ⟨d, F, rfl, hD, hb, hF⟩
  have B1 : Hid (Below w.heap.size w w1 ∧ ∀ x ∈ F, w.heap.size ≤ x) := ⟨hb, hF⟩
  have PM := Lib.hid (pmake_fresh w1 d F M 4 hD (by omega) (by have := HM.out; omega))
  clear hD hb hF ND
  go_wp2_with fail
  refine PM.out.mono ?_
  rintro e w2 ⟨P, rfl, hP⟩
  have MP := Lib.hid hP
  obtain ⟨_, hmd, _, hmw, hmu⟩ := makeO_fresh M 4 (by have := HM.out; omega)
  have hdead : P.m.dead = false := by rw [hP.m_]; exact hmd
  have BG := Lib.hid (begin_any w2 P hP.pag hP.alive hdead)
  have GT : Hid (P.got (fun _ => none) 0 = sec []) := by
    show _ = _
    unfold PS.got PS.at_
    rw [hP.none_, hP.reg]
    dsimp only [Option.getD_none]
    have : P.m.seen = P.m.dur := by unfold Dsk.DM.seen; rw [hP.m_, hmw]; rfl
    rw [this, hP.m_, hmu, List.getD_eq_getElem?_getD, List.getElem?_set_ne (by omega), List.getElem?_replicate]
    split <;> rfl
  have HD := Lib.hid hdead
  have NN : Hid (P.N = n) := by show _ = _; rw [hP.n]; have := HM.out; omega
  clear hP PM hmd hmw hmu hdead
  go_wp2_with fail
  refine BG.out.mono ?_
  rintro e w3 ⟨t, tm, rfl, ht, htm, hp3, hk3, ho3⟩
  have hs1 := B1.out.1.size
  have hs2 := MP.out.only.size
  have R : Hid (Pages w3 P t tm (fun _ => none) ∧ Below w.heap.size w w3 ∧ ∀ x ∈ pfoot P t tm, w.heap.size ≤ x) := by
    have hpn : w.heap.size ≤ P.p := Nat.le_trans hs1 (MP.out.new _ (.inl rfl))
    have hb2 : Below w.heap.size w w2 := B1.out.1.trans (MP.out.only.below hs1 B1.out.2)
    refine ⟨⟨hp3, hk3, MP.out.alive, HD.out, by rw [NN.out]; omega⟩, hb2.trans (ho3.below hb2.size (fun x hx => by
      have : x = P.p := by simpa using hx
      rw [this]; exact hpn)), fun x hx => ?_⟩
    simp only [pfoot, List.mem_cons, List.mem_append] at hx
    rcases hx with rfl | rfl | rfl | rfl | hx | hx
    · exact hpn
    · exact Nat.le_trans hs1 (MP.out.new _ (.inr (.inl rfl)))
    · omega
    · omega
    · exact Nat.le_trans hs1 (MP.out.new _ (.inr (.inr hx)))
    · rcases MP.out.foot x hx with h | h
      · exact B1.out.2 x h
      · omega
  clear hp3 hk3 ho3 ht htm BG
  go_wp2_with fail
  go_ret2
  exact ⟨P, t, tm, rfl, R.out.1, GT.out, NN.out, R.out.2.1, R.out.2.2⟩
/-- Which block is given out. -/
theorem FreeOf.is {t o : Nat → Bool} {b : Nat} (h : FreeOf t o b) {c : Nat} (hc : c < 4096) (h1 : ∀ k, k < c → (t k || o k) = true) (h2 : (t c || o c) = false) : b = c := by
  have h3 : ¬ c < b := fun hlt => by rw [h.off c hlt] at h2; cases h2
  have h4 : ¬ b < c := fun hlt => by
    rcases h.on with h5 | h5
    · omega
    · rw [h1 b hlt] at h5; cases h5
  omega
theorem cntB_congr {t t' : Nat → Bool} : ∀ n, (∀ b, b < n → t b = t' b) → cntB t n = cntB t' n
  | 0, _ => rfl
  | n + 1, h => by
    unfold cntB
    rw [cntB_congr n (fun b hb => h b (by omega)), h n (by omega)]
theorem cntB_off {t : Nat → Bool} {k : Nat} : ∀ n, k ≤ n → (∀ b, k ≤ b → b < n → t b = false) → cntB t n = cntB t k
  | 0, h, _ => by rw [show k = 0 by omega]
  | n + 1, h, h2 => by
    by_cases e : k = n + 1
    · rw [e]
    · unfold cntB
      rw [h2 n (by omega) (by omega), cntB_off n (by omega) (fun b h3 h4 => h2 b h3 (by omega))]
      cases k <;> simp [cntB]
def two (b : Nat) : Bool := decide (b < 2)
theorem cnt_two : cntB two 4096 = 2 := by
  rw [cntB_off (t := two) (k := 2) 4096 (by omega) (fun b h1 h2 => by unfold two; exact decide_eq_false (by omega))]
  rfl
theorem under_drewN (w : World) (n : Nat) : Below w.heap.size w (w.drewN n) := ⟨rfl, rfl, rfl, Nat.le_refl _, fun _ _ => rfl⟩
/-- The call's own pages, and a map beside them. -/
structure Own (w0 w : World) (P : PS) (t tm : Nat) (f : Nat → Option (List Nat)) : Prop where
  pages : Pages w P t tm f
  below : Below w0.heap.size w0 w
  new : ∀ x ∈ pfoot P t tm, w0.heap.size ≤ x
section
variable {w0 w w' : World} {P : PS} {t tm : Nat} {f f' : Nat → Option (List Nat)}
theorem Own.under (h : Own w0 w P t tm f) (k : Below w.heap.size w w') : Own w0 w' P t tm f := ⟨h.pages.under k, h.below.trans (k.mono h.below.size), h.new⟩
theorem Own.wrote (h : Own w0 w P t tm f) (hp : Pages w' P t tm f') (ho : Only [P.p, tm] w w') : Own w0 w' P t tm f' :=
  ⟨hp, h.below.trans (ho.below h.below.size (fun x hx => h.new x (by
    simp only [List.mem_cons, List.not_mem_nil, or_false] at hx
    rcases hx with rfl | rfl <;> simp [pfoot]))), h.new⟩
theorem Own.read (h : Own w0 w P t tm f) (hp : Pages w' P t tm f') (ho : Only [P.p] w w') : Own w0 w' P t tm f' := h.wrote hp (ho.mono (fun x hx => .inl (by simp only [List.mem_singleton] at hx; simp [hx])))
/-- A block of the call's own beside the pages has turned. -/
theorem Own.beside {g : Nat} (h : Own w0 w P t tm f) (ho : Only [g] w w') (hg : w0.heap.size ≤ g) (hf : g ∉ pfoot P t tm) : Own w0 w' P t tm f :=
  ⟨h.pages.only ho (fun x hx hm => by
    have e : x = g := by simpa using hm
    subst e
    exact hf hx), h.below.trans (ho.below h.below.size (fun x hx => by
    have e : x = g := by simpa using hx
    rw [e]; exact hg)), h.new⟩
theorem Own.far {g : Nat} (h : Own w0 w P t tm f) (hg : w.heap.size ≤ g) : g ∉ pfoot P t tm := fun hm => by have := h.pages.lt g hm; omega
end
theorem two_t {b : Nat} (h : b < 2) : two b = true := decide_eq_true h
theorem two_f {b : Nat} (h : 2 ≤ b) : two b = false := decide_eq_false (by omega)
/-- A fresh map of n blocks, made and loaded. -/
theorem made_ok (n : Nat) (hn : 2 ≤ n) : ((∀ b, b < 4096 → n ≤ b → two b = false) ∧ two 0 = true ∧ two 1 = true) := ⟨fun b _ h => two_f (by omega), rfl, rfl⟩
theorem sload_ok (w : World) (P : PS) (t tm : Nat) (f : Nat → Option (List Nat)) (n : Nat) (l : List Nat) (s : Nat → Bool) (hp : Pages w P t tm f) (hl : Set8 l s) (hg : P.got f 0 = l) (hn : 2 ≤ n ∧ n ≤ 4096) (hok : (∀ b, b < 4096 → n ≤ b → s b = false) ∧ s 0 = true ∧ s 1 = true) :
    Calls Try.prog 7 #[ifc t, .int .i64 (n : Int)] w fun e w' => ∃ m, e = .returned (.tuple #[.pointer (some ⟨m, 0, none⟩), .int .i64 0]) ∧ Pages w' P t tm f ∧ Only [P.p] w w' ∧ w.heap.size ≤ m ∧ MapOf w' m n s s :=
  (sload_any w P t tm f n l s hp hl hg hn).mono fun _ _ ⟨h1, h2, h3, _⟩ => by
    obtain ⟨m, e, hm, hs⟩ := h3 hok
    exact ⟨m, e, h1, h2, hm, l, l, hs, hl, hl⟩
theorem got_upd (P : PS) (f : Nat → Option (List Nat)) (l : List Nat) : P.got (upd f 0 l) 0 = l := by unfold PS.got upd; rw [if_pos rfl]; rfl
set_option maxRecDepth 100000 in
set_option maxHeartbeats 3200000 in
theorem fixed_any (w : World) :
    Calls Try.prog 4 #[] w fun e w' => e = .returned (.bool true) ∧ Below w.heap.size w w' := by
  have PG := Lib.hid (pages_any w 10 (by omega) (by omega))
  go_enter Try.func4, Try.ntmps4
  go_wp2_with fail
  refine PG.out.mono ?_
  rintro e w1 ⟨P, t, tm, rfl, hp, _, _, hb, hn⟩
  have W1 : Hid (Own w w1 P t tm (fun _ => none)) := ⟨hp, hb, hn⟩
  have MK := smake_any w1 P t tm _ 10 hp (by omega)
  have MK := Lib.hid MK
  clear hp hb hn PG
  go_wp2_with fail
  refine MK.out.mono ?_
  rintro e w2 ⟨rfl, l, hl, hp2, ho2⟩
  have W2 := Lib.hid (W1.out.wrote hp2 ho2)
  have LD := Lib.hid (sload_ok w2 P t tm _ 10 l two hp2 hl (got_upd _ _ _) (by omega) (made_ok 10 (by omega)))
  clear MK W1 hp2 ho2 hl
  go_wp2_with fail
  refine LD.out.mono ?_
  rintro e w3 ⟨m, rfl, hp3, ho3, hm3, hM3⟩
  have W3 := Lib.hid (W2.out.read hp3 ho3)
  have MM : Hid (w.heap.size ≤ m ∧ m ∉ pfoot P t tm) := ⟨Nat.le_trans W2.out.below.size hm3, W2.out.far hm3⟩
  have M3 := Lib.hid hM3
  have US := used_any w3 m 10 two two hM3
  rw [cnt_two] at US
  have US := Lib.hid US
  have TK := Lib.hid (take_any w3 m 10 two two hM3 (by omega))
  clear LD W2 hp3 ho3 hm3 hM3
  go_wp2_with fail
  refine US.out.mono ?_
  rintro e w' ⟨rfl, rfl⟩
  go_wp2_with fail
  refine TK.out.mono ?_
  rintro e w4 ⟨ho4, b, hF, hres⟩
  have hb2 : b = 2 := hF.is (by omega) (fun k hk => by rw [two_t hk]; rfl) rfl
  subst hb2
  obtain ⟨h, _⟩ | ⟨_, rfl, hM4⟩ := hres
  · omega
  have W4 := Lib.hid (W3.out.beside ho4 MM.out.1 MM.out.2)
  have TK := Lib.hid (take_any w4 m 10 _ two hM4 (by omega))
  clear US W3 M3 ho4 hF hM4
  go_wp2_with fail
  refine TK.out.mono ?_
  rintro e w5 ⟨ho5, b, hF, hres⟩
  have hb3 : b = 3 := hF.is (by omega) (fun k hk => by
    unfold putB
    split
    · rfl
    · rw [two_t (by omega)]; rfl) rfl
  subst hb3
  obtain ⟨h, _⟩ | ⟨_, rfl, hM5⟩ := hres
  · omega
  have W5 := Lib.hid (W4.out.beside ho5 MM.out.1 MM.out.2)
  have FR := Lib.hid (free_any w5 m 10 _ two 2 hM5 (by omega))
  clear W4 ho5 hF hM5
  go_wp2_with fail
  refine FR.out.mono ?_
  rintro e w6 ⟨ho6, hy, _⟩
  obtain ⟨rfl, hM6⟩ := hy ⟨by omega, by omega, rfl⟩
  have W6 := Lib.hid (W5.out.beside ho6 MM.out.1 MM.out.2)
  have H3 := mhas_any w6 m 10 _ two 3 hM6 (by omega)
  rw [show (decide (0 ≤ (3 : Int) ∧ (3 : Int) < ((10 : Nat) : Int)) && putB (putB (putB two 2 true) 3 true) (2 : Int).toNat false (3 : Int).toNat) = true from rfl] at H3
  have H3 := Lib.hid H3
  have M6 := Lib.hid hM6
  clear FR W5 hy ho6 hM6
  go_wp2_with fail
  refine H3.out.mono ?_
  rintro e w7 ⟨rfl, q7, hw7⟩
  have M7 : Hid (MapOf w7 m 10 (putB (putB (putB two 2 true) 3 true) (2 : Int).toNat false) two) := by rw [hw7]; exact M6.out.drewN q7
  have W7 : Hid (Own w w7 P t tm (upd (fun _ => none) 0 l)) := by rw [hw7]; exact W6.out.under (under_drewN _ _)
  have H2 := mhas_any w7 m 10 _ two 2 M7.out (by omega)
  rw [show (decide (0 ≤ (2 : Int) ∧ (2 : Int) < ((10 : Nat) : Int)) && putB (putB (putB two 2 true) 3 true) (2 : Int).toNat false (2 : Int).toNat) = false from rfl] at H2
  have H2 := Lib.hid H2
  clear hw7 H3 M6 W6
  go_wp2_with fail
  refine H2.out.mono ?_
  rintro e w8 ⟨rfl, q8, hw8⟩
  have M8 : Hid (MapOf w8 m 10 (putB (putB (putB two 2 true) 3 true) (2 : Int).toNat false) two) := by rw [hw8]; exact M7.out.drewN q8
  have W8 : Hid (Own w w8 P t tm (upd (fun _ => none) 0 l)) := by rw [hw8]; exact W7.out.under (under_drewN _ _)
  have F1 := Lib.hid (free_any w8 m 10 _ two 1 M8.out (by omega))
  clear hw8 H2 M7 W7
  go_wp2_with fail
  refine F1.out.mono ?_
  rintro e w9 ⟨ho9, _, hn⟩
  obtain ⟨rfl, _⟩ := hn (fun h => by omega)
  have W9 := Lib.hid (W8.out.beside ho9 MM.out.1 MM.out.2)
  clear F1 W8 M8 ho9 hn
  go_wp2_with fail
  go_ret
  exact ⟨rfl, W9.out.below⟩
end Go.Proofs.Ytaoldopkehbhkaa
