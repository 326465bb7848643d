/-
  wal: the contracts of frame and top.
-/
import Derived.Test.YtaoldopkehbhkaaWal6
import Derived.Test.YtaoldopkehbhkaaOps
namespace Go.Proofs.Ytaoldopkehbhkaa
open Go.RowKit Wal

namespace Wal
def frame (r : List Nat) : Nat := Crc.sum r / 1024 * 1024 + r.length
theorem frame_mod {r : List Nat} (h : r.length ≤ 600) : frame r % 1024 = r.length := by unfold frame; omega
theorem frame_lt {r : List Nat} (h : r.length ≤ 600) (hb : ∀ x ∈ r, x < 256) : frame r < 4294967296 := by
  have := Crc.sum_lt hb
  unfold frame
  omega
/-- The first twelve bytes of a batch; its first sixteen. -/
def top12 (count mask number : Nat) : List Nat := num 2 count ++ num 2 mask ++ num 8 number
def top (count mask number : Nat) : List Nat := top12 count mask number ++ num 4 (Crc.sum (top12 count mask number))
theorem top12_length (a b c : Nat) : (top12 a b c).length = 12 := by simp [top12, num_length]
theorem top_length (a b c : Nat) : (top a b c).length = 16 := by simp [top, top12_length, num_length]
theorem top12_bytes (a b c : Nat) : ∀ x ∈ top12 a b c, x < 256 := by
  intro x hx
  simp only [top12, List.mem_append] at hx
  rcases hx with (hx | hx) | hx <;> exact num_bytes _ _ x hx
theorem top_bytes (a b c : Nat) : ∀ x ∈ top a b c, x < 256 := by
  intro x hx
  rcases List.mem_append.1 hx with hx | hx
  · exact top12_bytes _ _ _ x hx
  · exact num_bytes _ _ x hx
end Wal
theorem frame_bits {q n : Nat} (hq : q < 4294967296) (hn : n ≤ 600) : bits .or .u32 (bits .andNot .u32 (q : Int) 1023) (n : Int) = ((q / 1024 * 1024 + n : Nat) : Int) := by
  have h1 := u32_andNot_nat q 1023 hq (by decide)
  have e : q &&& (4294967295 - 1023) = q / 1024 * 1024 := by
    have h2 := nat_mask10 q
    have h3 : q &&& 4294967295 = q := by
      have := Nat.and_two_pow_sub_one_eq_mod q 32
      have e : (2 : Nat) ^ 32 - 1 = 4294967295 := by decide
      rw [e] at this
      rw [this, Nat.mod_eq_of_lt (by omega)]
    have h4 : (q &&& (4294967295 - 1023)) ||| (q &&& 1023) = q := by
      rw [← Nat.and_or_distrib_left]
      exact h3
    have h5 : (q &&& (4294967295 - 1023)) % 2 ^ 10 = 0 := by
      rw [← Nat.and_two_pow_sub_one_eq_mod, Nat.and_assoc]
      simp
    rw [nat_join 10 _ _ h5 (by rw [h2]; omega), h2] at h4
    omega
  have h1' : bits .andNot .u32 (q : Int) 1023 = ((q / 1024 * 1024 : Nat) : Int) := by rw [← e]; exact h1
  rw [h1', u32_or_nat _ _ (by omega) (by omega), nat_join 10 _ _ (by omega) (by omega)]

/-- A call that asks sums alone: the log and its disk are as they were. -/
def LKept (w : World) (b : Nat) (G : List Nat) (s : LS) (d : Nat) (F : List Nat) (m : Dsk.DM) (w' : World) : Prop := LD w' b G s d F m ∧ Only [b] w w'
section
variable {w w1 w' : World} {b d : Nat} {s : LS} {G F : List Nat} {m : Dsk.DM}
theorem LKept.refl (h : LD w b G s d F m) : LKept w b G s d F m w := ⟨h, Only.refl _ _⟩
theorem LKept.trans (h : LKept w b G s d F m w1) (k : LKept w1 b G s d F m w') : LKept w b G s d F m w' := ⟨k.1, h.2.trans k.2 (fun _ hx => .inl hx)⟩
theorem LKept.under (h : LKept w b G s d F m w1) (k : Below w1.heap.size w1 w') : LKept w b G s d F m w' := ⟨h.1.under k, h.2.under k⟩
theorem LKept.turned (h : LKept w b G s d F m w1) (hb : b ∈ G) : LTurned w b G d F w1 s m := ⟨G, F, h.1, h.2.mono (fun x hx => .inl (by
  obtain rfl : x = b := by simpa using hx
  exact List.mem_append.2 (.inl hb))), Grown.refl _ _, Grown.refl _ _⟩
theorem LD.fit (h : LD w b G s d F m) : Fit w b := by
  obtain ⟨vn, hl, _⟩ := h.log
  exact hl.tab
theorem LD.summed (h : LD w b G s d F m) (k : TabOnly b w w') (ht : Fit w' b) : LKept w b G s d F m w' := by
  have hbF := h.apart b h.mem
  obtain ⟨vn, hl, hG⟩ := h.log
  exact ⟨⟨⟨vn, hl.summed k ht, hG⟩, h.disk.only k.only (fun x hx e => by
    obtain rfl : x = b := by simpa using e
    exact hbF hx), h.apart⟩, k.only⟩
end

/-- A row of new bytes. -/
def NewRow (w : World) (v : Value) (l : List Nat) (w' : World) : Prop := BRow w' v l ∧ ∀ y, v.ownBlock = some y → w.heap.size ≤ y
/-- What packs numbers answers: new bytes; the log and its disk are as they were. -/
def Packed (w : World) (b : Nat) (G : List Nat) (s : LS) (d : Nat) (F : List Nat) (m : Dsk.DM) (l : List Nat) (e : Ending) (w' : World) : Prop :=
  ∃ v, e = .returned v ∧ NewRow w v l w' ∧ LKept w b G s d F m w'
theorem Appended.new {w w1 w' : World} {v : Value} {l l0 : List Nat} {e : Ending} (h : NewRow w v l0 w1) (hb : Below w.heap.size w w1) (k : Appended w1 v l e w') : ∃ v', e = .returned v' ∧ NewRow w v' l w' ∧ Below w.heap.size w w' := by
  obtain ⟨v', h1, h2, h3, h4⟩ := k
  refine ⟨v', h1, ⟨h2, fun y hy => ?_⟩, h3.from_ hb (fun x hx => h.2 x (by simpa using hx))⟩
  rcases h4 y hy with h5 | h5
  · exact h.2 y h5
  · have := hb.size; omega
theorem NewRow.nil (w w' : World) : NewRow w (.slice none 0 0) [] w' := ⟨BRow.nil _, fun _ h => by cases h⟩

end Go.Proofs.Ytaoldopkehbhkaa
