/-
  reply: strings as lists of bytes.
-/
import Derived.Test.YteefjmdallpihaaGreatDoorRows
import Derived.Test.YteefjmdallpihaaGreatDoorMem
import Derived.Test.YteefjmdallpihaaGreatDoorReM
import Derived.WalkKit
import Derived.WalkSpells
import Derived.WalkLawsBesides
import Derived.Lib.Hide
import Derived.Outline
import Derived.BigQuiet
import Derived.Deep.QuietTactic
import Derived.Deep.Cut
import Derived.Deep.CutRange
import Derived.Deep.DeepCutAuto
namespace Go.Proofs.YteefjmdallpihaaGreatDoor
open Go.RowKit Reply

/-- A list of bytes as a string. -/
def S (l : B) : ByteArray := ⟨l.toArray⟩
theorem S_list (l : B) : (S l).data.toList = l := rfl
theorem S_of (s : ByteArray) : S s.data.toList = s := rfl
theorem S_size (l : B) : (S l).size = l.length := by show l.toArray.size = _; simp
theorem S_append (a b : B) : S a ++ S b = S (a ++ b) := by
  apply ByteArray.ext
  rw [ByteArray.data_append]
  unfold S
  simp
theorem S_inj {a b : B} (h : S a = S b) : a = b := by rw [← S_list a, h, S_list]
theorem S_toList (l : B) : (S l).toList = l := by rw [ByteArray.toList_eq]; rfl
theorem S_eq (a b : B) : ((S a).toList == (S b).toList) = decide (a = b) := by rw [S_toList, S_toList, Bool.eq_iff_iff]; simp
theorem S_empty (a : B) : (S a).toList.isEmpty = decide (a = []) := by rw [S_toList, Bool.eq_iff_iff]; simp
theorem S_at (l : B) (k : Nat) (hk : k < (S l).size) : ((S l)[k]'hk) = l.getD k 0 := by
  have h : k < l.length := by rwa [S_size] at hk
  rw [List.getD_eq_getElem?_getD, List.getElem?_eq_getElem h]
  rfl
theorem nums_S (l : B) : nums (S l) = l.map (·.toNat) := rfl
theorem strB_map (l : B) : strB (l.map (·.toNat)) = S l := by rw [← nums_S, strB_nums]
theorem S_extract (l : B) (a b : Nat) : (S l).extract a b = S ((l.drop a).take (b - a)) := by
  apply ByteArray.ext
  rw [ByteArray.data_extract]
  apply Array.toList_inj.1
  rw [Array.toList_extract, List.extract_eq_take_drop]
  unfold S
  simp
theorem ret_bool {a b : Bool} (h : a = b) : Ending.returned (.bool a) = .returned (.bool b) := by rw [h]
theorem ret_str {a b : ByteArray} (h : a = b) : Ending.returned (.string a) = .returned (.string b) := by rw [h]
theorem getD_memU {l : B} {k : Nat} (h : k < l.length) : l.getD k 0 ∈ l := by
  rw [List.getD_eq_getElem?_getD, List.getElem?_eq_getElem h]
  exact List.getElem_mem h
theorem take_nextU {l : B} {k : Nat} (h : k < l.length) : l.take (k + 1) = l.take k ++ [l.getD k 0] := by
  rw [List.take_add_one, List.getD_eq_getElem?_getD, List.getElem?_eq_getElem h]
  rfl
end Go.Proofs.YteefjmdallpihaaGreatDoor
