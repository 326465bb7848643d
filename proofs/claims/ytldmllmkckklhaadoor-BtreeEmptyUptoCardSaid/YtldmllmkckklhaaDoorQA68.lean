/-
  docketref06: Good, Scan, Same. · docketref06: Scan. · docketref06: Same.
-/
import Derived.Test.YtldmllmkckklhaaDoorQA65
import Derived.BigQuiet
import Derived.Laws.StructEq
namespace Go.Proofs.YtldmllmkckklhaaDoor
open Go.RowKit Wal

theorem pair_fields : (Tryd.prog.fieldsOf 45).toList.map (fun f => (f.name != "_", f.type, f.offset)) = [(true, 9, 0), (true, 9, 1)] := by kernel_rfl
theorem pair_ne (u : World) (a b c d : ByteArray) : (binOp .neq 45 (.agg #[.string a, .string b]) (.agg #[.string c, .string d])).run Tryd.prog u = .ok (.bool !(a.toList == c.toList && b.toList == d.toList)) u := by
  rw [run_neq_struct, show (10000 : Nat) = 9999 + 1 from rfl, run_equalIn_agg u 9999 _ _ _ (by kernel_rfl) (by kernel_rfl)]
  have h := pair_fields
  generalize (Tryd.prog.fieldsOf 45).toList = L at h ⊢
  rcases L with _ | ⟨f, _ | ⟨g, _ | ⟨x, r⟩⟩⟩
  · cases h
  · simp at h
  · simp only [List.map_cons, List.map_nil, List.cons.injEq, Prod.mk.injEq, and_true, bne_iff_ne] at h
    obtain ⟨⟨n1, t1, o1⟩, n2, t2, o2⟩ := h
    simp only [Op.eqFields, n1, n2, t1, t2, o1, o2, ne_eq, not_false_eq_true, if_true]
    simp [part, go_sem]
    by_cases h1 : a.toList = c.toList
    · by_cases h2 : b.toList = d.toList
      · simp [h1, h2]
      · simp [h1, h2]
    · simp [h1]
  · simp at h
theorem fromE_snoc (X : List En) (y : En) (k : List Nat) : fromE (X ++ [y]) k = fromE X k ++ if ltB y.1 k = true then [] else [y] := by
  unfold fromE
  rw [List.filter_append]
  congr 1
  rw [List.filter_cons]
  cases ltB y.1 k <;> simp
end Go.Proofs.YtldmllmkckklhaaDoor

namespace Go.Proofs.YtldmllmkckklhaaDoor
open Go.RowKit Wal

/-- One pair more. -/
theorem scan_snoc (F : List En) (y : En) (M : Nat) : (if (F.take M).length < M then F.take M ++ [y] else F.take M) = (F ++ [y]).take M := by
  by_cases c : F.length < M
  · rw [List.take_of_length_le (by omega), if_pos c, List.take_of_length_le (by rw [List.length_append]; simp; omega)]
  · rw [if_neg (by rw [List.length_take]; omega), List.take_append_of_le_length (by omega)]
end Go.Proofs.YtldmllmkckklhaaDoor

namespace Go.Proofs.YtldmllmkckklhaaDoor
open Go.RowKit Wal

theorem drop_ne {a b : List En} {j : Nat} (h1 : j < a.length) (h2 : j < b.length) (hne : a[j] ≠ b[j]) : a ≠ b := fun e => by
  subst e
  exact hne rfl
theorem all_eq {a b : List En} (hl : a.length = b.length) (h : ∀ j (h1 : j < a.length) (h2 : j < b.length), a[j] = b[j]) : a = b := List.ext_getElem hl h
theorem below_drewN {B : Nat} {w w' : World} (h : Below B w w') (n : Nat) : Below B w (w'.drewN n) := ⟨h.os, h.tape, h.output, h.size, h.block⟩
end Go.Proofs.YtldmllmkckklhaaDoor
