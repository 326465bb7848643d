/-
  Blobs beside one another.
-/
import Derived.Test.YtlofpbmceipkkaaM31
namespace Go.Proofs.Ytlofpbmceipkkaa
open Go.RowKit Wal Blob

theorem MemAt.lt_ {B : Nat} {w : World} {p n : Nat} {f : Nat → Option KB} (m : MemAt B w p n f) : ∀ i k, f i = some k → i < n := fun i k hk => by
  obtain ⟨g, ad, m⟩ := m
  exact (m.each i k hk).1
theorem There.len {n : Nat} {f : Nat → Option KB} {h : Nat} {parts l : List Nat} (t : There n f h parts l) : (allB h parts).length = needL l.length := by
  rcases t with ⟨rfl, rfl, rfl⟩ | t
  · rfl
  · have e : allB h parts = h :: parts := if_neg (by have := t.fine.pos; omega)
    rw [e, List.length_cons, t.count]
    unfold needL needB
    rw [if_neg (by have := t.one; omega)]
    omega
/-- A blob whose blocks are as they were. -/
theorem There.same {n n' : Nat} {f f' : Nat → Option KB} {h : Nat} {parts l : List Nat} (t : There n f h parts l) (hs : ∀ v ∈ allB h parts, f' (v - 1) = f (v - 1)) : There n' f' h parts l := by
  rcases t with ⟨rfl, rfl, rfl⟩ | t
  · exact .inl ⟨rfl, rfl, rfl⟩
  · have e : allB h parts = h :: parts := if_neg (by have := t.fine.pos; omega)
    rw [e] at hs
    exact .inr ⟨t.fine, t.one, t.most, t.count, (hs h (by simp)).trans t.head, fun i x hx => (hs x (by simp [List.mem_of_getElem? hx])).trans (t.part i x hx), t.bytes⟩
theorem There.wipe_ {n : Nat} {f : Nat → Option KB} {h : Nat} {parts l : List Nat} (t : There n f h parts l) {bs : List Nat} (hd : ∀ v ∈ allB h parts, v ∉ bs) : There n (wipe f bs) h parts l :=
  t.same fun v hv => wipe_far (t.mine.1 v hv).1 (hd v hv)
theorem Laid.apart {n : Nat} {f f' : Nat → Option KB} {h h' : Nat} {parts parts' l l' : List Nat} (la : Laid n f f' h' parts' l') (t : There n f h parts l) : ∀ v ∈ allB h parts, v ∉ allB h' parts' := by
  rcases la with ⟨_, rfl, rfl, _⟩ | la
  · simp [allB]
  · have e : allB h' parts' = h' :: parts' := if_neg (by have := la.blob.fine.pos; omega)
    rw [e]
    intro v hv hv'
    obtain ⟨_, _, y, hy⟩ := t.mine.1 v hv
    rw [(la.fresh v hv').2] at hy
    cases hy
theorem Laid.keep {n : Nat} {f f' : Nat → Option KB} {h h' : Nat} {parts parts' l l' : List Nat} (la : Laid n f f' h' parts' l') (t : There n f h parts l) : There n f' h parts l := by
  have hd := la.apart t
  refine t.same fun v hv => ?_
  have h1 := (t.mine.1 v hv).1
  rcases la with ⟨_, _, _, rfl⟩ | la
  · rfl
  · have e : allB h' parts' = h' :: parts' := if_neg (by have := la.blob.fine.pos; omega)
    rw [e] at hd
    exact la.same (v - 1) (by rw [show v - 1 + 1 = v by omega]; exact hd v hv)
theorem There.wiped {n : Nat} {f : Nat → Option KB} {h : Nat} {parts l : List Nat} (t : There n f h parts l) (hl : ∀ i k, f i = some k → i < n) : cnt n (wipe f (allB h parts)) + needL l.length = cnt n f := by
  rw [← t.len, ← cnt_add n (allB h parts) (wipe f (allB h parts)) f (t.mine.2.1.imp (fun {a b} (h : a < b) => Nat.ne_of_lt h)) (fun v hv => by
    obtain ⟨h1, _, y, hy⟩ := t.mine.1 v hv
    have := hl _ _ hy
    refine ⟨h1, by omega, ?_, by rw [hy]; simp⟩
    unfold wipe
    rw [show v - 1 + 1 = v by omega, if_pos hv]) (fun j hj => by
    unfold wipe
    rw [if_neg hj])]
end Go.Proofs.Ytlofpbmceipkkaa
