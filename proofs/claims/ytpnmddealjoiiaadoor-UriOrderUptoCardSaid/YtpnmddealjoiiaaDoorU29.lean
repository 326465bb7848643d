/-
  uri: what the laws say, over lists of bytes: a form's length; within is an order; back from a form.
-/
import Derived.Test.YtpnmddealjoiiaaDoorU28
namespace Go.Proofs.YtpnmddealjoiiaaDoor
open Go.ChangeShapes Go.WideShapes Go.ChangeAt Go.RowKit Uri

theorem enc1L (c : Nat) : (enc1 c).length ≤ 3 := by unfold enc1; split <;> simp
theorem encL : ∀ s : List Nat, (enc s).length ≤ 3 * s.length
  | [] => by simp [enc]
  | c :: s => by
    have e : enc (c :: s) = enc1 c ++ enc s := by simp [enc]
    rw [e, List.length_append, List.length_cons]
    have := enc1L c
    have := encL s
    omega
theorem form_len : ∀ path : List (List Nat), (∀ s ∈ path, s.length ≤ 64) → (form path).length ≤ 193 * path.length
  | [], _ => by simp [form]
  | s :: path, h => by
    rw [form_cons, List.length_cons, List.length_append, List.length_cons]
    have h1 := encL s
    have h2 := h s (by simp)
    have h3 := form_len path (fun s hs => h s (by simp [hs]))
    omega
theorem text_len (path : List (List Nat)) : (text path).length ≤ 2400 := by
  unfold text
  split
  · rename_i h
    have h1 := good_parts h
    have h2 := form_len path (fun s hs => (seg_parts (h1.1 s hs)).2.1)
    split
    · simp
    · omega
  · simp
theorem text_bytes {path : List (List Nat)} (hb : ∀ s ∈ path, ∀ x ∈ s, x < 256) : ∀ x ∈ text path, x < 256 := by
  intro x hx
  unfold text at hx
  split at hx
  · split at hx
    · have : x = 47 := by simpa using hx
      omega
    · have := form_vis hb x hx
      simp only [vis, decide_eq_true_eq] at this
      omega
  · cases hx
/-- A path's form, read. -/
theorem back (D : List ByteArray) (h : good (txts D) = true) : Uri.parse (nums (strB (text (txts D)))) = (txts D, decide (D = []), 0) := by
  rw [nums_strB (text_bytes (txts_bytes D)), parse_text (txts_bytes D) h]
  congr 2
  exact decide_eq_decide.2 List.map_eq_nil_iff
theorem back_size (D : List ByteArray) : (strB (text (txts D))).size ≤ 2400 := by rw [strB_size]; exact text_len _
theorem within_refl (a : List (List Nat)) : within a a = true := by simp [within]
theorem within_nil (a : List (List Nat)) : within a [] = true := by simp [within]
theorem within_trans {a b c : List (List Nat)} (h1 : within a b = true) (h2 : within b c = true) : within a c = true := by
  simp only [within, decide_eq_true_eq] at h1 h2 ⊢
  refine ⟨by omega, ?_⟩
  have e : c = (a.take b.length).take c.length := by rw [h1.2, h2.2]
  rw [List.take_take, Nat.min_eq_left h2.1] at e
  exact e.symm
theorem within_anti {a b : List (List Nat)} (h1 : within a b = true) (h2 : within b a = true) : a = b := by
  simp only [within, decide_eq_true_eq] at h1 h2
  rw [← h1.2, List.take_of_length_le (by omega)]
/-- The program's Within, as a law's walk uses it. -/
theorem wit (w : World) (A B : Option Addr) (n c n' c' : Nat) (a b : List ByteArray) (hn' : n' ≤ 1048576) (hc : n ≤ c) (ha : Strs w A n a) (hb : Strs w B n' b) :
    Calls Tryd.prog 17 #[.slice A n c, .slice B n' c'] w fun e w' => e = .returned (.bool (within (txts a) (txts b))) ∧ Below w.heap.size w w' :=
  (within_any w A B n c n' c' a b (by omega) hc ha hb).mono (by
    rintro e w' ⟨rfl, k, rfl⟩
    exact ⟨rfl, below_drewN (Below.refl _ _) k⟩)
theorem sam (w : World) (A B : Option Addr) (n c n' c' : Nat) (a b : List ByteArray) (hn : n ≤ 1048576) (hn' : n' ≤ 1048576) (ha : Strs w A n a) (hb : Strs w B n' b) :
    Calls Tryd.prog 12 #[.slice A n c, .slice B n' c'] w fun e w' => e = .returned (.bool (decide (a = b))) ∧ Below w.heap.size w w' :=
  (same_any w A B n c n' c' a b (by omega) (by omega) ha hb).mono (by
    rintro e w' ⟨rfl, k, rfl⟩
    exact ⟨rfl, below_drewN (Below.refl _ _) k⟩)
end Go.Proofs.YtpnmddealjoiiaaDoor
