/-
  btree: heed.
-/
import Derived.Test.YtnogmgnbhcmajaaDoorQA12
import Derived.Defers
import Derived.Recover
namespace Go.Proofs.YtnogmgnbhcmajaaDoor
open Go.RowKit Wal
def troubleT (err : Int) : Value := .iface 82 (.agg #[.int .i64 err, .bool true])
theorem heedT_ok (w : World) : Calls Tryd.prog 54 #[.int .i64 0] w fun e w' => e = .returned (.tuple #[]) ∧ w = w' := by
  go_enter Tryd.func54, Tryd.ntmps54
  go_wp2
  go_end0
  exact ⟨rfl, rfl⟩
theorem heedT_bad (w : World) (err : Int) (h : err ≠ 0) : Calls Tryd.prog 54 #[.int .i64 err] w fun e w' => e = .panicked [{ v := troubleT err, recovered := false }] ∧ w = w' := by
  have q : (err != 0) = true := by simp [h]
  go_enter Tryd.func54, Tryd.ntmps54
  go_wp2
  exact ⟨rfl, rfl, rfl⟩
end Go.Proofs.YtnogmgnbhcmajaaDoor
