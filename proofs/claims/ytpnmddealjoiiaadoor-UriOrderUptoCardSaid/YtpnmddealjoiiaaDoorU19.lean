/-
  uri: say; a trail's step.
-/
import Derived.Test.YtpnmddealjoiiaaDoorU18
namespace Go.Proofs.YtpnmddealjoiiaaDoor
open Go.RowKit Uri

/-- What say answers of the bytes l. -/
def SayE (l : List Nat) (e : Ending) : Prop := ∃ (t : ByteArray) (err : Int), e = .returned (.tuple #[.string t, .int .i64 err]) ∧
  ((Uri.says l = none ∧ err = 20) ∨ (∃ s, Uri.says l = some s ∧ 64 < s.length ∧ err = 5) ∨ (Uri.says l = some (nums t) ∧ t.size ≤ 64 ∧ err = 0))
theorem SayE.bad {l : List Nat} (h : Uri.says l = none) (t : ByteArray) : SayE l (.returned (.tuple #[.string t, .int .i64 20])) := ⟨t, 20, rfl, .inl ⟨h, rfl⟩⟩
set_option maxHeartbeats 1600000 in
set_option maxRecDepth 100000 in
theorem say_any (w : World) (s : ByteArray) (hs : s.size ≤ 4194304) (E : Env w) :
    Calls Tryd.prog 36 #[.string s] w fun e w' => SayE (nums s) e ∧ Below w.heap.size w w' := by
  have DC := Lib.hid (decode_any w s hs E)
  have HS : Hid (s.size ≤ 4194304) := hs
  have HL : Hid ((nums s).length = s.size) := nums_length s
  have HE := Lib.hid E
  clear E
  go_enter Tryd.func36, Tryd.ntmps36
  go_wp2_with fail
  refine DC.out.mono ?_
  rintro e w1 ⟨hd, hb1⟩
  have B1 := Lib.hid hb1
  have E1 := Lib.hid (HE.out.below hb1)
  clear DC hb1
  rcases hd with ⟨d, hd, rfl⟩ | ⟨hd, t, rfl⟩
  · have hdl := dec_bytes (nums_lt s) hd
    have NT : Hid (nums (strB d) = d) := nums_strB hdl.1
    have SZ : Hid ((strB d).size = d.length) := strB_size d
    obtain ⟨T, hT⟩ : ∃ T, T = strB d := ⟨_, rfl⟩
    rw [← hT] at NT SZ ⊢
    have S0 := Lib.hid (says_dec hd)
    have IC := Lib.hid (isclean_any w1 T (by rw [SZ.out]; have := hdl.2; rw [HL.out] at this; omega) E1.out)
    rw [NT.out] at IC
    obtain ⟨q, hq⟩ : ∃ q, q = fine d := ⟨_, rfl⟩
    rw [← hq] at S0 IC
    clear hd hdl hT hq
    go_wp2_with fail
    refine IC.out.mono ?_
    rintro e w2 ⟨rfl, hb2⟩
    have B2 := Lib.hid (B1.out.trans (hb2.mono B1.out.size))
    clear IC hb2
    cases q
    · have F : Hid (Uri.says (nums s) = none) := S0.out
      go_wp2_with fail
      go_ret2
      exact ⟨SayE.bad F.out _, B2.out⟩
    · have F : Hid (Uri.says (nums s) = some (nums T)) := by show _ = _; rw [NT.out]; exact S0.out
      by_cases h64 : 64 < T.size
      · have hz : (64 : Int) < (T.size : Int) := by omega
        go_wp2_with fail
        go_ret2
        exact ⟨⟨_, 5, rfl, .inr (.inl ⟨_, F.out, by rw [nums_length]; exact h64, rfl⟩)⟩, B2.out⟩
      · have hz : ¬ (64 : Int) < (T.size : Int) := by omega
        go_wp2_with fail
        go_ret2
        exact ⟨⟨T, 0, rfl, .inr (.inr ⟨F.out, by omega, rfl⟩)⟩, B2.out⟩
  · have F := Lib.hid (says_dec_none hd)
    clear hd
    go_wp2_with fail
    go_ret2
    exact ⟨SayE.bad F.out _, B1.out⟩

/-- A trail in block q that has led to P. -/
def TrailAt (w : World) (q : Nat) (P : List ByteArray) : Prop := ∃ cs : Array Value, Held w q 53 cs ∧ cs.size = 13 ∧ cs[12]? = some (.int .i64 (P.length : Int)) ∧ (∀ i s, i < 12 → P[i]? = some s → cs[i]? = some (.string s)) ∧ ∀ i, i < 12 → ∃ s, cs[i]? = some (.string s)
theorem TrailAt.depth {w : World} {q : Nat} {P : List ByteArray} (h : TrailAt w q P) : w.cell? ⟨q, 12, none⟩ = some (.int .i64 (P.length : Int)) := by
  obtain ⟨cs, h1, _, h3, _⟩ := h
  rw [h1.cell, h3]
theorem TrailAt.frozen {w : World} {q : Nat} {P : List ByteArray} (h : TrailAt w q P) (i : Nat) : w.frozen? ⟨q, i, none⟩ = false := by
  obtain ⟨cs, h1, _⟩ := h
  exact h1.frozen i
theorem TrailAt.lt {w : World} {q : Nat} {P : List ByteArray} (h : TrailAt w q P) : q < w.heap.size := by
  obtain ⟨cs, h1, _⟩ := h
  exact h1.lt
theorem TrailAt.shape {w : World} {q : Nat} {P : List ByteArray} (h : TrailAt w q P) : w.shape? q = some (53, 13) := by
  obtain ⟨cs, h1, h2, _⟩ := h
  unfold Held at h1
  simp [World.shape?, h1, h2]
theorem TrailAt.kept {w w' : World} {q : Nat} {P : List ByteArray} (h : TrailAt w q P) (k : w'.heap[q]? = w.heap[q]?) : TrailAt w' q P := by
  obtain ⟨cs, h1, h2⟩ := h
  exact ⟨cs, k.trans h1, h2⟩
theorem TrailAt.below {w w' : World} {q : Nat} {P : List ByteArray} (h : TrailAt w q P) (k : Below w.heap.size w w') : TrailAt w' q P := h.kept (k.block q h.lt)
theorem TrailAt.drewN {w : World} {q : Nat} {P : List ByteArray} (h : TrailAt w q P) (n : Nat) : TrailAt (w.drewN n) q P := h
theorem TrailAt.drew {w : World} {q : Nat} {P : List ByteArray} (h : TrailAt w q P) : TrailAt w.drew q P := h
theorem TrailAt.new (w : World) (q : Nat) (hq : q = w.heap.size) : TrailAt (w.alloc (.cells #[.string ⟨#[]⟩, .string ⟨#[]⟩, .string ⟨#[]⟩, .string ⟨#[]⟩, .string ⟨#[]⟩, .string ⟨#[]⟩, .string ⟨#[]⟩, .string ⟨#[]⟩, .string ⟨#[]⟩, .string ⟨#[]⟩, .string ⟨#[]⟩, .string ⟨#[]⟩, .int .i64 0] 53)) q [] := by
  refine ⟨_, Held.new w _ _ hq, rfl, rfl, fun i s _ h => by simp at h, fun i hi => ⟨⟨#[]⟩, ?_⟩⟩
  have : i = 0 ∨ i = 1 ∨ i = 2 ∨ i = 3 ∨ i = 4 ∨ i = 5 ∨ i = 6 ∨ i = 7 ∨ i = 8 ∨ i = 9 ∨ i = 10 ∨ i = 11 := by omega
  rcases this with rfl | rfl | rfl | rfl | rfl | rfl | rfl | rfl | rfl | rfl | rfl | rfl <;> rfl
theorem TrailAt.deeper {w : World} {q : Nat} {P Q : List ByteArray} (h : TrailAt w q P) (hQ : ∀ i s, i < 12 → Q[i]? = some s → P[i]? = some s) {z : Int} (hz : z = (Q.length : Int)) : TrailAt (w.setCell ⟨q, 12, none⟩ (.int .i64 z)) q Q := by
  obtain ⟨cs, h1, h2, h3, h4, h5⟩ := h
  refine ⟨_, h1.set_ 12 _, by simpa using h2, ?_, fun i s hi hs => ?_, fun i hi => ?_⟩
  · rw [Array.getElem?_setIfInBounds_self, if_pos (by omega), hz]
  · rw [Array.getElem?_setIfInBounds_ne (by omega)]
    exact h4 i s hi (hQ i s hi hs)
  · rw [Array.getElem?_setIfInBounds_ne (by omega)]
    exact h5 i hi
theorem TrailAt.pushed {w : World} {q : Nat} {P : List ByteArray} (h : TrailAt w q P) (hp : P.length < 12) (s : ByteArray) {z : Int} (hz : z = ((P ++ [s]).length : Int)) : TrailAt ((w.setCell ⟨q, P.length, none⟩ (.string s)).setCell ⟨q, 12, none⟩ (.int .i64 z)) q (P ++ [s]) := by
  obtain ⟨cs, h1, h2, h3, h4, h5⟩ := h
  refine ⟨_, (h1.set_ P.length _).set_ 12 _, by simpa using h2, ?_, fun i t hi ht => ?_, fun i hi => ?_⟩
  · rw [Array.getElem?_setIfInBounds_self, if_pos (by simp; omega), hz]
  · rw [Array.getElem?_setIfInBounds_ne (by omega)]
    rcases Nat.lt_trichotomy i P.length with h | h | h
    · rw [Array.getElem?_setIfInBounds_ne (by omega)]
      rw [List.getElem?_append_left h] at ht
      exact h4 i t hi ht
    · subst h
      rw [List.getElem?_append_right (Nat.le_refl _), Nat.sub_self] at ht
      simp at ht
      rw [Array.getElem?_setIfInBounds_self, if_pos (by omega), ht]
    · rw [List.getElem?_eq_none (by simp; omega)] at ht
      cases ht
  · rw [Array.getElem?_setIfInBounds_ne (by omega)]
    by_cases hi2 : i = P.length
    · subst hi2
      exact ⟨s, by rw [Array.getElem?_setIfInBounds_self, if_pos (by omega)]⟩
    · rw [Array.getElem?_setIfInBounds_ne (by omega)]
      exact h5 i hi
/-- What a step leaves. -/
def StepE (w : World) (q : Nat) (P : List ByteArray) (s : ByteArray) (e : Ending) (w' : World) : Prop :=
  Only [q] w w' ∧ ((nums s = [] ∨ nums s = [46]) → e = .returned (.bool true) ∧ TrailAt w' q P) ∧
  (nums s = [46, 46] → P = [] → e = .returned (.bool false)) ∧ (nums s = [46, 46] → P ≠ [] → e = .returned (.bool true) ∧ TrailAt w' q (P.take (P.length - 1))) ∧
  (nums s ≠ [] → nums s ≠ [46] → nums s ≠ [46, 46] → e = .returned (.bool true) ∧ TrailAt w' q (P ++ [s]))
set_option maxHeartbeats 3200000 in
set_option maxRecDepth 100000 in
theorem step_any (w : World) (q : Nat) (P : List ByteArray) (s : ByteArray) (hP : P.length ≤ 4194310) (h : TrailAt w q P) :
    Calls Tryd.prog 38 #[.pointer (some ⟨q, 0, none⟩), .string s] w fun e w' => StepE w q P s e w' := by
  have HT := Lib.hid h
  have c12 := h.depth
  have z12 := h.frozen 12
  have f0 := isEmpty_nums s
  have f1 := beq_lit s [46]
  have f2 := beq_lit s [46, 46]
  simp only [List.map_cons, List.map_nil, UInt8.reduceToNat] at f1 f2
  have OQ : Hid (∀ v, Only [q] w (w.setCell ⟨q, 12, none⟩ v)) := fun v => (Only.refl [q] w).setCell (.inl (by simp)) v
  clear h
  by_cases d0 : nums s = []
  · have A : Hid (∀ w', Only [q] w w' → TrailAt w' q P → StepE w q P s (.returned (.bool true)) w') := fun w' h1 h2 => ⟨h1, fun _ => ⟨rfl, h2⟩, fun h => (by rw [d0] at h; cases h), fun h => (by rw [d0] at h; cases h), fun h => absurd d0 h⟩
    rw [decide_eq_true d0] at f0
    clear d0 f1 f2
    go_enter Tryd.func38, Tryd.ntmps38
    go_wp2
    go_ret
    exact A.out _ (Only.refl _ _) HT.out
  · rw [decide_eq_false d0] at f0
    by_cases d1 : nums s = [46]
    · have A : Hid (∀ w', Only [q] w w' → TrailAt w' q P → StepE w q P s (.returned (.bool true)) w') := fun w' h1 h2 => ⟨h1, fun _ => ⟨rfl, h2⟩, fun h => (by rw [d1] at h; cases h), fun h => (by rw [d1] at h; cases h), fun _ h => absurd d1 h⟩
      rw [decide_eq_true d1] at f1
      clear d0 d1 f2
      go_enter Tryd.func38, Tryd.ntmps38
      go_wp2
      go_ret
      exact A.out _ (Only.refl _ _) HT.out
    · rw [decide_eq_false d1] at f1
      by_cases d2 : nums s = [46, 46]
      · rw [decide_eq_true d2] at f2
        by_cases hP0 : P.length = 0
        · have hPn : P = [] := List.eq_nil_of_length_eq_zero hP0
          have A : Hid (∀ w', Only [q] w w' → StepE w q P s (.returned (.bool false)) w') := fun w' h1 => ⟨h1, fun h => (h.elim (fun h => absurd h d0) (fun h => absurd h d1)), fun _ _ => rfl, fun _ h => absurd hPn h, fun _ _ h => absurd d2 h⟩
          rw [hP0] at c12
          clear d0 d1 d2 hPn hP0
          go_enter Tryd.func38, Tryd.ntmps38
          go_wp2
          go_ret
          exact A.out _ (OQ.out _)
        · have hPn : P ≠ [] := fun h => hP0 (by rw [h]; rfl)
          have A : Hid (∀ w', Only [q] w w' → TrailAt w' q (P.take (P.length - 1)) → StepE w q P s (.returned (.bool true)) w') := fun w' h1 h2 => ⟨h1, fun h => (h.elim (fun h => absurd h d0) (fun h => absurd h d1)), fun _ h => absurd h hPn, fun _ _ => ⟨rfl, h2⟩, fun _ _ h => absurd d2 h⟩
          have hsub : decide ((1 : Int) ≤ (P.length : Int)) = true := decide_eq_true (by omega)
          have T2 : Hid (TrailAt (w.setCell ⟨q, 12, none⟩ (.int .i64 ((P.length : Int) - 1))) q (P.take (P.length - 1))) := HT.out.deeper (fun i s hi hs => by
            have h1 := (List.getElem?_eq_some_iff.1 hs).1
            rw [List.length_take] at h1
            rwa [List.getElem?_take, if_pos (by omega)] at hs) (by rw [List.length_take]; omega)
          clear d0 d1 d2 hPn hP0
          go_enter Tryd.func38, Tryd.ntmps38
          go_wp2
          go_ret
          exact A.out _ (OQ.out _) T2.out
      · rw [decide_eq_false d2] at f2
        have A : Hid (∀ w', Only [q] w w' → TrailAt w' q (P ++ [s]) → StepE w q P s (.returned (.bool true)) w') := fun w' h1 h2 => ⟨h1, fun h => (h.elim (fun h => absurd h d0) (fun h => absurd h d1)), fun h => absurd h d2, fun h => absurd h d2, fun _ _ _ => ⟨rfl, h2⟩⟩
        have LN : Hid ((P.length : Int) + 1 = ((P ++ [s]).length : Int)) := by show _ = _; rw [List.length_append, List.length_singleton]; omega
        by_cases h12 : P.length < 12
        · have h12z : (P.length : Int) < 12 := by omega
          have zk := HT.out.frozen P.length
          have T2 := Lib.hid (HT.out.pushed h12 s LN.out)
          have O2 : Hid (Only [q] w ((w.setCell ⟨q, P.length, none⟩ (.string s)).setCell ⟨q, 12, none⟩ (.int .i64 ((P.length : Int) + 1)))) := ((Only.refl [q] w).setCell (.inl (by simp)) _).setCell (.inl (by simp)) _
          have c12b : (w.setCell ⟨q, P.length, none⟩ (.string s)).cell? ⟨q, 12, none⟩ = some (.int .i64 (P.length : Int)) := by
            obtain ⟨cs, g1, g2, g3, _⟩ := HT.out
            rw [(g1.set_ P.length _).cell, Array.getElem?_setIfInBounds_ne (by omega), g3]
          have z12b : (w.setCell ⟨q, P.length, none⟩ (.string s)).frozen? ⟨q, 12, none⟩ = false := by
            obtain ⟨cs, g1, _⟩ := HT.out
            exact (g1.set_ P.length _).frozen 12
          obtain ⟨s0, ck⟩ : ∃ s0, w.cell? ⟨q, P.length, none⟩ = some (.string s0) := by
            obtain ⟨cs, g1, _, _, _, g5⟩ := HT.out
            obtain ⟨s0, h0⟩ := g5 P.length h12
            exact ⟨s0, by rw [g1.cell, h0]⟩
          clear d0 d1 d2
          go_enter Tryd.func38, Tryd.ntmps38
          go_wp2
          go_region
          all_goals
            go_wp2
            go_ret
            exact A.out _ O2.out.drew T2.out.drew
        · have h12z : ¬ (P.length : Int) < 12 := by omega
          have T2 : Hid (TrailAt (w.setCell ⟨q, 12, none⟩ (.int .i64 ((P.length : Int) + 1))) q (P ++ [s])) := HT.out.deeper (fun i t hi ht => by rwa [List.getElem?_append_left (by omega)] at ht) LN.out
          clear d0 d1 d2
          go_enter Tryd.func38, Tryd.ntmps38
          go_wp2
          go_ret
          exact A.out _ (OQ.out _) T2.out
end Go.Proofs.YtpnmddealjoiiaaDoor
