/-
  reply: the library's functions, as they answer where the listed variables hold what they hold at the start.
-/
import Derived.Test.YtnodhbgkoedalaaGreatDoorR9
import Derived.Test.YtnodhbgkoedalaaGreatDoorLaid
import Derived.Lib.AppendIntMem
namespace Go.Proofs.YtnodhbgkoedalaaGreatDoor
open Go.RowKit Reply

/-- What the package-level variables of the library hold, as the row lists them. -/
structure Env (w : World) : Prop where
  mx : ∃ m, w.cell? ⟨0, 0, none⟩ = some (.int .i64 m)
  tab : Lib.TabIs Tryz.prog w "internal/strconv.uint64pow10" .u64 Lib.pow10Tab
  syn : ∃ ev, w.cell? ⟨1, 0, none⟩ = some ev ∧ (ev = .nilIface ∨ ∃ te pe, ev = .iface te pe)
  rng : ∃ ev, w.cell? ⟨2, 0, none⟩ = some ev ∧ (ev = .nilIface ∨ ∃ te pe, ev = .iface te pe)
theorem Env.below {w w' : World} (h : Env w) (k : Below w.heap.size w w') : Env w' := by
  have c : ∀ {p : Addr} {v : Value}, w.cell? p = some v → w'.cell? p = some v := fun {p v} hv => (k.cell (p := p) (block_lt hv)).trans hv
  obtain ⟨m, h1⟩ := h.mx
  obtain ⟨e1, h2, h3⟩ := h.syn
  obtain ⟨e2, h4, h5⟩ := h.rng
  exact ⟨⟨m, c h1⟩, Lib.tabBelow_of_tabIs h.tab w' k, ⟨e1, c h2, h3⟩, ⟨e2, c h4, h5⟩⟩
theorem cutpre_any (w : World) (l p : B) :
    Calls Tryz.prog 49 #[.string (S l), .string (S p)] w fun e w' => e = .returned (.tuple #[.string (S (Lib.trimPrefix l p)), .bool (Lib.hasPrefix l p)]) ∧ w = w' :=
  (Tryz.strings_CutPrefix (S l) (S p) w).mono fun _ _ h => ⟨h.1, h.2.symm⟩
theorem cut_any (w : World) (E : Env w) (l p : B) (hl : l.length < 4294967281) :
    Calls Tryz.prog 35 #[.string (S l), .string (S p)] w fun e w' => e = .returned (.tuple #[.string (S (Lib.cut l p).1), .string (S (Lib.cut l p).2.1), .bool (Lib.cut l p).2.2]) ∧ Below w.heap.size w w' := by
  obtain ⟨m, hm⟩ := E.mx
  refine (Tryz.strings_Cut (S l) (S p) m w (by rw [S_size]; exact hl) hm).mono ?_
  rintro e w' ⟨rfl, n, rfl⟩
  exact ⟨rfl, below_drewN (Below.refl _ _) n⟩
theorem fclone_any (w : World) (s : ByteArray) (hs : s.size ≤ 4294967296) :
    Calls Tryz.prog 24 #[.string s] w fun e w' => e = .returned (.string s) ∧ Below w.heap.size w w' := by
  have CL := Lib.hid (fun u => Tryz.stringslite_Clone s u (by omega))
  go_enter Tryz.func24, Tryz.ntmps24
  go_wp2_with fail
  refine (CL.out _).mono ?_
  rintro e w1 ⟨rfl, hb⟩
  have B1 := Lib.hid hb
  clear hb CL
  go_wp2_with fail
  go_ret
  exact ⟨rfl, B1.out⟩
theorem ftrim_any (w : World) (l : B) (hl : l.length ≤ 4294967296) :
    Calls Tryz.prog 42 #[.string (S l)] w fun e w' => e = .returned (.string (S (trim l))) ∧ Below w.heap.size w w' := by
  have TR : Hid (∀ u, Calls Tryz.prog 57 #[.string (S l), .string ⟨#[32, 9]⟩] u fun e w' => e = .returned (.string (S (trim l))) ∧ Below u.heap.size u w') := fun u => by
    refine (Any.strings_Trim_laid Tryz.laysTrim (by kernel_rfl) (S l) ⟨#[32, 9]⟩ u (by rw [S_size]; omega) (by decide) (ascii_of_all (by decide))).mono ?_
    rintro e w' ⟨rfl, hb⟩
    exact ⟨rfl, hb⟩
  go_enter Tryz.func42, Tryz.ntmps42
  go_wp2_with fail
  refine (TR.out _).mono ?_
  rintro e w1 ⟨rfl, hb⟩
  have B1 := Lib.hid hb
  clear hb TR
  go_wp2_with fail
  go_ret
  exact ⟨rfl, B1.out⟩
end Go.Proofs.YtnodhbgkoedalaaGreatDoor
