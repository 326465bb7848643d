/-
  uri: strings.SplitSeq; follow: what lies in memory on the way, and a round.
-/
import Derived.Test.YtpnmddealjoiiaaDoorU23
import Derived.Test.YtpnmddealjoiiaaDoorU20
import Derived.Test.YtpnmddealjoiiaaDoorU10
namespace Go.Proofs.YtpnmddealjoiiaaDoor
open Go.RowKit Go.Shelf Uri

attribute [local go_sem] Oper.semAt_some

set_option maxRecDepth 100000 in
set_option maxHeartbeats 1600000 in
theorem splitseq_in (F : Fence) (n : Nat) (hf : F.fn 47) (hro : F.round = none) (s : ByteArray) (w : World) :
    CallsIn F n Tryd.prog 47 #[.string s, .string ⟨#[47]⟩, .int .i64 0] w fun e w' => e = .returned (.func (.func 53) #[] #[.pointer (some ⟨w.heap.size + 1, 0, none⟩), .pointer (some ⟨w.heap.size, 0, none⟩), .pointer (some ⟨w.heap.size + 2, 0, none⟩)]) ∧
      w' = ((w.alloc (.cells #[.string s] 9)).alloc (.cells #[.string ⟨#[47]⟩] 9)).alloc (.cells #[.int .i64 0] 3) := by
  refine callsIn_of_wp Tryd.func47 rfl hf ?_ hro
  simp only [Tryd.ntmps47, List.size_toArray, List.length_cons, List.length_nil, Nat.reduceAdd, Nat.reduceSub, Array.replicate_succ, Array.replicate_zero, List.push_toArray, List.append_toArray, List.nil_append, List.cons_append]
  gi_wp2
  go_ret
  exact ⟨rfl, rfl⟩
set_option maxRecDepth 100000 in
set_option maxHeartbeats 1600000 in
theorem SplitSeq_in (s : ByteArray) (w : World) :
    Calls Tryd.prog 35 #[.string s, .string ⟨#[47]⟩] w fun e w' => e = .returned (.func (.func 53) #[] #[.pointer (some ⟨w.heap.size + 1, 0, none⟩), .pointer (some ⟨w.heap.size, 0, none⟩), .pointer (some ⟨w.heap.size + 2, 0, none⟩)]) ∧
      w' = ((w.alloc (.cells #[.string s] 9)).alloc (.cells #[.string ⟨#[47]⟩] 9)).alloc (.cells #[.int .i64 0] 3) := by
  have C := Lib.hid ((callsIn_wide (n := 1)).1 (splitseq_in Fence.wide 1 trivial rfl s w))
  go_enter Tryd.func35, Tryd.ntmps35
  go_wp2_with fail
  refine C.out.mono ?_
  rintro e w' ⟨rfl, hw⟩
  have HW := Lib.hid hw
  clear hw C
  go_wp2_with fail
  go_ret
  exact ⟨rfl, HW.out⟩
/-- What lies in memory while follow goes: the results' cells (h, h + 1, h + 2), the trail (h + 3), the box of dir (h + 4). -/
structure Fol (w : World) (h : Nat) (P : List ByteArray) (d : Bool) (W : World) : Prop where
  under : Below h w W
  trail : TrailAt W (h + 3) P
  box : Boxed W (h + 4) 4 (.bool d)
  r0 : ∃ v, Boxed W h 23 v
  r1 : ∃ v, Boxed W (h + 1) 4 v
  r2 : ∃ v, Boxed W (h + 2) 24 v
theorem Fol.turn {w W W' : World} {h : Nat} {P P' : List ByteArray} {d : Bool} (f : Fol w h P d W) (os : W'.os = W.os) (tape : W'.tape = W.tape) (out : W'.output = W.output) (size : W.heap.size ≤ W'.heap.size)
    (e : ∀ i, i ≠ h + 3 → i < h + 5 → i < W.heap.size → W'.heap[i]? = W.heap[i]?) (t : TrailAt W' (h + 3) P') : Fol w h P' d W' := by
  obtain ⟨v0, h0⟩ := f.r0
  obtain ⟨v1, h1⟩ := f.r1
  obtain ⟨v2, h2⟩ := f.r2
  exact ⟨f.under.trans ⟨os, tape, out, size, fun i hi => e i (by omega) (by omega) (by have := h0.lt; omega)⟩, t, (e _ (by omega) (by omega) f.box.lt).trans f.box, ⟨v0, (e _ (by omega) (by omega) h0.lt).trans h0⟩, ⟨v1, (e _ (by omega) (by omega) h1.lt).trans h1⟩, ⟨v2, (e _ (by omega) (by omega) h2.lt).trans h2⟩⟩
theorem Fol.only {w W W' : World} {h : Nat} {P P' : List ByteArray} {d : Bool} (f : Fol w h P d W) (k : Only [h + 3] W W') (t : TrailAt W' (h + 3) P') : Fol w h P' d W' :=
  f.turn k.os k.tape k.output k.size (fun i hi _ hl => k.block i hl (by simpa using hi)) t
theorem Fol.below {w W W' : World} {h : Nat} {P : List ByteArray} {d : Bool} (f : Fol w h P d W) (k : Below W.heap.size W W') : Fol w h P d W' :=
  f.only ((Only.refl _ _).under k) (f.trail.below k)
theorem Fol.bar {w W W' : World} {h : Nat} {P : List ByteArray} {d : Bool} (f : Fol w h P d W) (k : Bar (h + 8) (h + 5) W W') : Fol w h P d W' :=
  f.turn k.1 k.2.1 k.2.2.1 k.2.2.2.1 (fun i _ hi _ => k.2.2.2.2 i (by omega) (by omega)) (f.trail.kept (k.2.2.2.2 _ (by omega) (by omega)))
theorem Fol.dir {w W : World} {h : Nat} {P : List ByteArray} {d : Bool} (f : Fol w h P d W) (b : Bool) : Fol w h P b (W.setCell ⟨h + 4, 0, none⟩ (.bool b)) := by
  obtain ⟨v0, h0⟩ := f.r0
  obtain ⟨v1, h1⟩ := f.r1
  obtain ⟨v2, h2⟩ := f.r2
  have e : ∀ i, i ≠ h + 4 → (W.setCell ⟨h + 4, 0, none⟩ (.bool b)).heap[i]? = W.heap[i]? := fun i hi => Below.heap_setCell _ _ _ _ hi
  exact ⟨f.under.trans ⟨rfl, rfl, rfl, by simp [World.setCell], fun i hi => e i (by omega)⟩, f.trail.kept (e _ (by omega)), f.box.set _, ⟨v0, (e _ (by omega)).trans h0⟩, ⟨v1, (e _ (by omega)).trans h1⟩, ⟨v2, (e _ (by omega)).trans h2⟩⟩
/-- The results stand in their cells. -/
structure Res (w : World) (h : Nat) (a b c : Value) (W : World) : Prop where
  under : Below h w W
  r0 : Boxed W h 23 a
  r1 : Boxed W (h + 1) 4 b
  r2 : Boxed W (h + 2) 24 c
/-- The results' cells alone. -/
structure FolC (w : World) (h : Nat) (W : World) : Prop where
  under : Below h w W
  r0 : ∃ v, Boxed W h 23 v
  r1 : ∃ v, Boxed W (h + 1) 4 v
  r2 : ∃ v, Boxed W (h + 2) 24 v
theorem Fol.c {w W : World} {h : Nat} {P : List ByteArray} {d : Bool} (f : Fol w h P d W) : FolC w h W := ⟨f.under, f.r0, f.r1, f.r2⟩
theorem FolC.only {w W W' : World} {h : Nat} (f : FolC w h W) (k : Only [h + 3] W W') : FolC w h W' := by
  obtain ⟨v0, h0⟩ := f.r0
  obtain ⟨v1, h1⟩ := f.r1
  obtain ⟨v2, h2⟩ := f.r2
  have e : ∀ i, i ≠ h + 3 → i < W.heap.size → W'.heap[i]? = W.heap[i]? := fun i hi hl => k.block i hl (by simpa using hi)
  exact ⟨f.under.trans ⟨k.os, k.tape, k.output, k.size, fun i hi => e i (by omega) (by have := h0.lt; omega)⟩, ⟨v0, (e _ (by omega) h0.lt).trans h0⟩, ⟨v1, (e _ (by omega) h1.lt).trans h1⟩, ⟨v2, (e _ (by omega) h2.lt).trans h2⟩⟩
theorem FolC.res {w W : World} {h : Nat} (f : FolC w h W) (a b c : Value) : Res w h a b c (((W.setCell ⟨h, 0, none⟩ a).setCell ⟨h + 1, 0, none⟩ b).setCell ⟨h + 2, 0, none⟩ c) := by
  obtain ⟨v0, h0⟩ := f.r0
  obtain ⟨v1, h1⟩ := f.r1
  obtain ⟨v2, h2⟩ := f.r2
  refine ⟨f.under.trans ⟨rfl, rfl, rfl, by simp [World.setCell], fun i hi => ?_⟩, ?_, ?_, ?_⟩
  · rw [Below.heap_setCell _ _ _ _ (by show i ≠ h + 2; omega), Below.heap_setCell _ _ _ _ (by show i ≠ h + 1; omega), Below.heap_setCell _ _ _ _ (by show i ≠ h; omega)]
  · exact ((h0.set a).other (by omega) b).other (by omega) c
  · exact ((h1.other (by omega) a).set b).other (by omega) c
  · exact ((h2.other (by omega) a).other (by omega) b).set c
theorem Res.bar {w W W' : World} {h : Nat} {a b c : Value} (f : Res w h a b c W) (k : Bar (h + 8) (h + 5) W W') : Res w h a b c W' := by
  have e : ∀ i, i < h + 5 → W'.heap[i]? = W.heap[i]? := fun i hi => k.2.2.2.2 i (by omega) (by omega)
  exact ⟨f.under.trans ⟨k.1, k.2.1, k.2.2.1, k.2.2.2.1, fun i hi => e i (by omega)⟩, (e _ (by omega)).trans f.r0, (e _ (by omega)).trans f.r1, (e _ (by omega)).trans f.r2⟩
theorem Res.only {w W W' : World} {h B : Nat} {a b c : Value} (f : Res w h a b c W) (hB : h + 3 ≤ B) (k : Below B W W') : Res w h a b c W' :=
  ⟨f.under.trans (k.mono (by omega)), (k.block _ (by omega)).trans f.r0, (k.block _ (by omega)).trans f.r1, (k.block _ (by omega)).trans f.r2⟩
/-- What a step of follow's may touch. -/
def five (h : Nat) : List Nat := [h, h + 1, h + 2, h + 3, h + 4]
theorem five_keeps {h : Nat} {W W' : World} (k : Only (five h) W W') (hb : h + 8 ≤ W.heap.size) : KeepsFrom (h + 8) W W' ∧ BoxesSame (h + 5) (h + 6) (h + 7) W W' := by
  have far : ∀ i, h + 5 ≤ i → i ∉ five h := fun i hi hm => by simp [five] at hm; omega
  refine ⟨⟨k.size, fun i o hB hi _ => (k.block i (Array.getElem?_eq_some_iff.1 hi).1 (far i (by omega))).trans hi⟩, k.block _ (by omega) (far _ (by omega)), k.block _ (by omega) (far _ (by omega)), k.block _ (by omega) (far _ (by omega))⟩
/-- What a step of the trail is to the walk. -/
def StepW (ps P : List (List Nat)) (d : Bool) (p : List Nat) (h : Nat) (n : Nat) (s : List Nat) (e : Ending) (w' : World) : Prop :=
  (∃ P', e = .returned (.bool true) ∧ TrailAt w' h P' ∧ P'.length ≤ n + 1 ∧ Uri.walk (p :: ps) P d = Uri.walk ps (txts P') (dots s)) ∨ (e = .returned (.bool false) ∧ Uri.walk (p :: ps) P d = ([], false, 20))
theorem stepW_of {w w' : World} {q : Nat} {P : List ByteArray} {s : ByteArray} {e : Ending} (h : StepE w q P s e w') {p : List Nat} (hs : Uri.says p = some (nums s)) (h64 : s.size ≤ 64) (ps : List (List Nat)) (d : Bool) :
    StepW ps (txts P) d p q P.length (nums s) e w' := by
  obtain ⟨_, h1, h2, h3, h4⟩ := h
  unfold StepW
  rw [walk_some hs, if_neg (by rw [nums_length]; omega)]
  by_cases c1 : nums s = [46, 46]
  · rw [if_pos c1]
    have hd : dots (nums s) = true := by rw [c1]; rfl
    by_cases c2 : P = []
    · rw [if_pos (by rw [c2]; rfl)]
      exact .inr ⟨h2 c1 c2, rfl⟩
    · have c2' : ¬ txts P = [] := fun e => c2 (List.map_eq_nil_iff.1 e)
      rw [if_neg c2', dropLast_txts, hd]
      obtain ⟨e1, e2⟩ := h3 c1 c2
      exact .inl ⟨_, e1, e2, by rw [List.length_take]; omega, rfl⟩
  · rw [if_neg c1]
    by_cases c3 : nums s = [] ∨ nums s = [46]
    · have hd : dots (nums s) = true := by unfold dots; exact decide_eq_true (c3.elim .inl (fun h => .inr (.inl h)))
      obtain ⟨e1, e2⟩ := h1 c3
      rw [if_pos hd, hd]
      exact .inl ⟨P, e1, e2, by omega, rfl⟩
    · have hd : dots (nums s) = false := by unfold dots; exact decide_eq_false (fun h => h.elim (fun h => c3 (.inl h)) (fun h => h.elim (fun h => c3 (.inr h)) c1))
      obtain ⟨e1, e2⟩ := h4 (fun h => c3 (.inl h)) (fun h => c3 (.inr h)) c1
      rw [hd, if_neg (by simp)]
      exact .inl ⟨P ++ [s], e1, e2, by simp, by rw [txts_app]; rfl⟩
end Go.Proofs.YtpnmddealjoiiaaDoor
