/-
  reply: the library's functions, as they answer where the listed variables hold what they hold at the start.
-/
import Derived.Test.YtdojchamdcokiaaDoorR9
import Derived.Test.YtdojchamdcokiaaDoorLaid
import Derived.Lib.AppendIntMem
namespace Go.Proofs.YtdojchamdcokiaaDoor
open Go.RowKit Reply

/-- What the package-level variables of the library hold, as the row lists them. -/
structure Env (w : World) : Prop where
  mx : ∃ m, w.cell? ⟨0, 0, none⟩ = some (.int .i64 m)
  tab : Lib.TabIs Tryd.prog w "internal/strconv.uint64pow10" .u64 Lib.pow10Tab
  syn : ∃ ev, w.cell? ⟨1, 0, none⟩ = some ev ∧ (ev = .nilIface ∨ ∃ te pe, ev = .iface te pe)
  rng : ∃ ev, w.cell? ⟨2, 0, none⟩ = some ev ∧ (ev = .nilIface ∨ ∃ te pe, ev = .iface te pe)
theorem Env.below {w w' : World} (h : Env w) (k : Below w.heap.size w w') : Env w' := by
  have c : ∀ {p : Addr} {v : Value}, w.cell? p = some v → w'.cell? p = some v := fun {p v} hv => (k.cell (p := p) (block_lt hv)).trans hv
  obtain ⟨m, h1⟩ := h.mx
  obtain ⟨e1, h2, h3⟩ := h.syn
  obtain ⟨e2, h4, h5⟩ := h.rng
  exact ⟨⟨m, c h1⟩, Lib.tabBelow_of_tabIs h.tab w' k, ⟨e1, c h2, h3⟩, ⟨e2, c h4, h5⟩⟩
theorem itoa_any (w : World) (E : Env w) (n : Int) (h0 : -9223372036854775808 ≤ n) (h1 : n ≤ 9223372036854775807) :
    Calls Tryd.prog 26 #[.int .i64 n] w fun e w' => e = .returned (.string (S (Lib.itoa n))) ∧ Below w.heap.size w w' := by
  refine (Tryd.strconv_Itoa n h0 h1 w E.tab).mono ?_
  rintro e w' ⟨rfl, k, os, rfl⟩
  exact ⟨rfl, Lib.below_grow _ _ (Nat.le_refl _) _ _⟩
theorem trimpre_any (w : World) (l p : B) :
    Calls Tryd.prog 28 #[.string (S l), .string (S p)] w fun e w' => e = .returned (.string (S (Lib.trimPrefix l p))) ∧ w = w' :=
  (Tryd.strings_TrimPrefix (S l) (S p) w).mono fun _ _ h => ⟨h.1, h.2.symm⟩
theorem cutpre_any (w : World) (l p : B) :
    Calls Tryd.prog 31 #[.string (S l), .string (S p)] w fun e w' => e = .returned (.tuple #[.string (S (Lib.trimPrefix l p)), .bool (Lib.hasPrefix l p)]) ∧ w = w' :=
  (Tryd.strings_CutPrefix (S l) (S p) w).mono fun _ _ h => ⟨h.1, h.2.symm⟩
theorem cut_any (w : World) (E : Env w) (l p : B) (hl : l.length < 4294967281) :
    Calls Tryd.prog 27 #[.string (S l), .string (S p)] w fun e w' => e = .returned (.tuple #[.string (S (Lib.cut l p).1), .string (S (Lib.cut l p).2.1), .bool (Lib.cut l p).2.2]) ∧ Below w.heap.size w w' := by
  obtain ⟨m, hm⟩ := E.mx
  refine (Tryd.strings_Cut (S l) (S p) m w (by rw [S_size]; exact hl) hm).mono ?_
  rintro e w' ⟨rfl, n, rfl⟩
  exact ⟨rfl, below_drewN (Below.refl _ _) n⟩
theorem fclone_any (w : World) (s : ByteArray) (hs : s.size ≤ 4294967296) :
    Calls Tryd.prog 22 #[.string s] w fun e w' => e = .returned (.string s) ∧ Below w.heap.size w w' := by
  have CL := Lib.hid (fun u => Tryd.stringslite_Clone s u (by omega))
  go_enter Tryd.func22, Tryd.ntmps22
  go_wp2_with fail
  refine (CL.out _).mono ?_
  rintro e w1 ⟨rfl, hb⟩
  have B1 := Lib.hid hb
  clear hb CL
  go_wp2_with fail
  go_ret
  exact ⟨rfl, B1.out⟩
theorem ftrim_any (w : World) (l : B) (hl : l.length ≤ 4294967296) :
    Calls Tryd.prog 35 #[.string (S l)] w fun e w' => e = .returned (.string (S (trim l))) ∧ Below w.heap.size w w' := by
  have TR : Hid (∀ u, Calls Tryd.prog 45 #[.string (S l), .string ⟨#[32, 9]⟩] u fun e w' => e = .returned (.string (S (trim l))) ∧ Below u.heap.size u w') := fun u => by
    refine (Any.strings_Trim_laid Tryd.laysTrim (by kernel_rfl) (S l) ⟨#[32, 9]⟩ u (by rw [S_size]; omega) (by decide) (ascii_of_all (by decide))).mono ?_
    rintro e w' ⟨rfl, hb⟩
    exact ⟨rfl, hb⟩
  go_enter Tryd.func35, Tryd.ntmps35
  go_wp2_with fail
  refine (TR.out _).mono ?_
  rintro e w1 ⟨rfl, hb⟩
  have B1 := Lib.hid hb
  clear hb TR
  go_wp2_with fail
  go_ret
  exact ⟨rfl, B1.out⟩
/-- What Atoi answers of these bytes. -/
def AtoiE (l : B) (e : Ending) : Prop := ∃ (v : Int) (ev : Value), e = .returned (.tuple #[.int .i64 v, ev]) ∧ -9223372036854775808 ≤ v ∧ v ≤ 9223372036854775807 ∧ ∀ u, Lib.atoiAll l = .ok u → v = u
theorem atoi_any (w : World) (E : Env w) (l : B) (hl : l.length ≤ 4294967296) :
    Calls Tryd.prog 30 #[.string (S l)] w fun e w' => AtoiE l e ∧ Below w.heap.size w w' := by
  rcases h : Lib.atoiAll l with v | _ | _
  · refine (Tryd.strconv_Atoi_ok (S l) (by rw [S_size]; omega) v h w).mono ?_
    rintro e w' ⟨rfl, hw⟩
    obtain ⟨b0, b1⟩ := Lib.atoiAll_bounds h
    refine ⟨⟨v, _, rfl, b0, b1, fun u hu => by rw [h] at hu; injection hu⟩, ?_⟩
    rcases hw with rfl | ⟨t, rfl⟩
    · exact Below.refl _ _
    · exact bytes_below _ _ _
  · obtain ⟨ev, h1, h2⟩ := E.syn
    refine (Any.strconv_Atoi_syntax Tryd.laysC172 (S l) (by rw [S_size]; omega) h ev w h1 h2).mono ?_
    rintro e w' ⟨N, rfl, _, _, hb⟩
    exact ⟨⟨0, _, rfl, by omega, by omega, fun u hu => by rw [h] at hu; cases hu⟩, hb⟩
  · obtain ⟨ev, h1, h2⟩ := E.rng
    refine (Tryd.strconv_Atoi_range (S l) (by rw [S_size]; omega) h ev w h1 h2).mono ?_
    rintro e w' ⟨N, rfl, _, _, hb⟩
    obtain ⟨b0, b1⟩ := Lib.atoiSat_bounds l
    exact ⟨⟨_, _, rfl, b0, b1, fun u hu => by rw [h] at hu; cases hu⟩, hb⟩
end Go.Proofs.YtdojchamdcokiaaDoor
