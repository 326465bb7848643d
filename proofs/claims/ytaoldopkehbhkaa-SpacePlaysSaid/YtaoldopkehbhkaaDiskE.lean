/-
  The document's examples of chapter 2: 'fixed' answers true, and writes nothing that was there.
-/
import Derived.Test.YtaoldopkehbhkaaDiskD
import Derived.Lib.SlBytesConst
import Derived.Laws.NewBlocks
namespace Go.Proofs.Ytaoldopkehbhkaa
open Go.RowKit

/-- A disk of the call's own: all its blocks are new since w0. -/
structure Lives (w0 w : World) (d : Nat) (F : List Nat) (m : Dsk.DM) : Prop where
  disk : DiskAt w d F m
  below : Below w0.heap.size w0 w
  new : ∀ x ∈ F, w0.heap.size ≤ x

section
variable {w0 w w' : World} {d : Nat} {F : List Nat} {m m' : Dsk.DM}
theorem Lives.turned (h : Lives w0 w d F m) (t : Turned w d F w' m') : ∃ F', Lives w0 w' d F' m' ∧ (∀ x ∈ F', x ∈ F ∨ w.heap.size ≤ x) ∧ Only F w w' := by
  obtain ⟨F', h1, h2, h3⟩ := t
  refine ⟨F', ⟨h1, h.below.trans (h2.below h.below.size h.new), fun x hx => ?_⟩, h3, h2⟩
  rcases h3 x hx with hx | hx
  · exact h.new x hx
  · exact Nat.le_trans h.below.size hx
theorem Lives.under (h : Lives w0 w d F m) (b : Below w.heap.size w w') : Lives w0 w' d F m := ⟨h.disk.below b, h.below.trans (b.mono h.below.size), h.new⟩
theorem Lives.alloc (h : Lives w0 w d F m) (o : Obj) : Lives w0 (w.alloc o) d F m := h.under ((Below.refl _ _).alloc (Nat.le_refl _) o)
theorem Lives.drew (h : Lives w0 w d F m) : Lives w0 w.drew d F m := h.under (Below.refl _ _).drew
theorem Lives.far (h : Lives w0 w d F m) : ∀ x, w.heap.size ≤ x → x ∉ F := fun x hx hm => by have := h.disk.lt x hm; omega
theorem Lives.old (h : Lives w0 w d F m) : ∀ x, x < w0.heap.size → x ∉ F := fun x hx hm => by have := h.new x hm; omega
theorem NewDisk.lives {e : Ending} (h : NewDisk w m e w') : ∃ d F, e = .returned (.pointer (some ⟨d, 0, none⟩)) ∧ Lives w w' d F m := by
  obtain ⟨d, F, h1, h2, h3, h4⟩ := h
  exact ⟨d, F, h1, h2, h3, h4⟩
end

theorem conv_new (w : World) (b : Nat) (C : Array Value) (n c : Nat) (hb : b = w.heap.size) : (convert 48 48 (.slice (some ⟨b, 0, none⟩) n c)).run Try.prog (w.alloc (.cells C 5)) = .ok (.slice (some ⟨b, 0, none⟩) n c) (w.alloc (.cells C 5 (C.size, C.size + 1))) := by
  subst hb
  exact Lib.run_convert_bytes_const w 48 5 C n c Try.underlying48 Try.underlying5
/-- One byte that has just been laid. -/
theorem bts_one (w : World) (x : Nat) (h8 : x < 256) (e : TypeId) (m : Nat × Nat) (b : Nat) (hb : b = w.heap.size) : Bts (w.alloc (.cells #[.int .u8 (x : Int)] e m)) (some ⟨b, 0, none⟩) 1 [x] := by
  subst hb
  refine ⟨rfl, fun y hy => by have : y = x := by simpa using hy
                              omega, fun _ => ⟨_, 0, rfl, by simp, fun i hi => ?_⟩⟩
  obtain rfl : i = 0 := by omega
  rw [Nat.zero_add, World.cell?_alloc_mark]
  rfl
theorem bts_nil (w : World) : Bts w none 0 [] := ⟨rfl, by simp, fun h => by omega⟩
/-- One bool that has just been laid. -/
theorem bls_one (w : World) (x : Bool) (e : TypeId) (b : Nat) (hb : b = w.heap.size) : Bls (w.alloc (.cells #[.bool x] e)) (some ⟨b, 0, none⟩) 1 [x] := by
  subst hb
  refine ⟨rfl, fun _ => ⟨_, 0, rfl, by simp, fun i hi => ?_⟩⟩
  obtain rfl : i = 0 := by omega
  rw [Nat.zero_add, World.cell?_alloc_new]
  rfl

/-- What Read and Durable answer where there is such a sector. -/
theorem Tells.ok {w w' : World} {x : Int} {l : List Nat} {e : Ending} (h : Tells w x l e w') (hx : x = 0) : ∃ v, e = .returned (.tuple #[v, .int .i64 0]) ∧ Fresh512 w (sec l) v w' := by
  rcases h with ⟨h0, _⟩ | ⟨_, h⟩
  · exact absurd hx h0
  · exact h

theorem Tells.no {w w' : World} {x : Int} {l : List Nat} {e : Ending} (h : Tells w x l e w') (hx : x ≠ 0) : e = .returned (.tuple #[.slice none 0 0, .int .i64 x]) ∧ Below w.heap.size w w' := by
  rcases h with ⟨_, h⟩ | ⟨h0, _⟩
  · exact h
  · exact absurd h0 hx

namespace Fix
def m0 : Dsk.DM := Dsk.fresh 4
def m1 : Dsk.DM := m0.write 1 [97]
def m2 : Dsk.DM := m1.write 1 [98]
def m3 : Dsk.DM := m2.crash [true]
theorem e0 : Dsk.fresh (clampN 4) = m0 := rfl
theorem e1 : m0.writeErr 1 ((1 : Nat) : Int).toNat = 0 := by decide
theorem e2 : m1.writeErr 1 ((1 : Nat) : Int).toNat = 0 := by decide
theorem p2 : m2.wait.length = 2 := by decide
theorem r2 : m2.readErr 1 = 0 := by decide
theorem s2 : m2.seen.getD (1 : Int).toNat [] = [98] := by decide
theorem r3 : m3.readErr 1 = 0 := by decide
theorem s3 : m3.seen.getD (1 : Int).toNat [] = [97] := by decide
theorem e4 : m3.writeErr 4 0 = 1 := by decide
end Fix

/-- The first byte of a fresh sector. -/
theorem Fresh512.first {w w' : World} {x : Nat} {v : Value} (h : Fresh512 w (sec [x]) v w') : v = .slice (some ⟨w.heap.size, 0, none⟩) 512 512 ∧ w'.cell? ⟨w.heap.size, 0, none⟩ = some (.int .u8 (x : Int)) := by
  obtain ⟨rfl, ho, _⟩ := h
  refine ⟨rfl, ?_⟩
  have hl : (sec [x]).length = 512 := sec_length _
  obtain ⟨g, cap, hv, _, _, hb, _⟩ := ho.form (by omega)
  have hg : w.heap.size = g := by
    injection hv with hv _ _
    injection hv with hv
    injection hv
  subst hg
  have := hb.cell0 (i := 0) (by omega)
  rw [this]
  rfl
theorem Fresh512.lt {w w' : World} {l : List Nat} {v : Value} (h : Fresh512 w l v w') (hl : 0 < l.length) : w.heap.size < w'.heap.size := by
  obtain ⟨rfl, ho, _⟩ := h
  obtain ⟨g, cap, hv, _, hlt, _⟩ := ho.form hl
  have hg : w.heap.size = g := by
    injection hv with hv _ _
    injection hv with hv
    injection hv
  subst hg
  exact hlt

end Go.Proofs.Ytaoldopkehbhkaa
