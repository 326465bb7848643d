/-
  docketlaw12: texts that came in.
-/
import Derived.Test.YtdojchamdcokiaaDoorR23
namespace Go.Proofs.YtdojchamdcokiaaDoor
open Go.ChangeShapes Go.WideShapes Go.ChangeAt Go.RowKit Reply

set_option maxRecDepth 100000 in
theorem open_str {H : Type} {enc : TypeId × Value → H} {W : World} {r : Reach} {b0 : Nat} {v : Value} {d : DataW H} {p : List MemPlace} (hv : Value.okWide Tryd.prog W r b0 9 v) (h : DataW.Trod enc Tryd.prog W 0 (fun _ => true) true 9 v d p) (hk : Rows.uptoBulk d ≤ 1048576) :
    ∃ l : B, v = .string (S l) ∧ l.length ≤ 1048576 := by
  obtain ⟨s, rfl⟩ := okWide_string Tryd.underlying9 hv
  obtain ⟨fuel, hf⟩ := h
  obtain ⟨z, e, x, _⟩ := DataW.trod_string Tryd.underlying9 hf
  simp only [Prod.mk.injEq] at x
  rw [x.1] at hk
  simp only [Rows.uptoBulk] at hk
  have e1 : s = z := by simpa [Value.cells] using e
  subst e1
  exact ⟨s.data.toList, by rw [S_of], by omega⟩
end Go.Proofs.YtdojchamdcokiaaDoor
