/-
  BtreeMem: a text as bytes, bytes filled up with zeros as a text.
-/
import Derived.Test.YtnogmgnbhcmajaaDoorQBm2
import Derived.Lib.ConvBytes
namespace Go.Proofs.YtnogmgnbhcmajaaDoor
open Go.RowKit Wal

theorem strB_app (a b : List Nat) : strB (a ++ b) = strB a ++ strB b := by
  apply ByteArray.ext
  rw [ByteArray.data_append]
  apply Array.toList_inj.1
  rw [Array.toList_append]
  unfold strB
  rw [List.map_append, strOfNums_data, strOfNums_data, strOfNums_data, List.map_append]
theorem to_bytes (w : World) (l : List Nat) (hl : ∀ x ∈ l, x < 256) :
    ∃ c w', (convert 9 34 (.string (strB l))).run Tryd.prog w = .ok (.slice (some ⟨w.heap.size, 0, none⟩) l.length c) w' ∧ Bts w' (some ⟨w.heap.size, 0, none⟩) l.length l ∧ Below w.heap.size w w' := by
  have h := Lib.run_convert_string_bytes (P := Tryd.prog) w 9 34 5 (strB l) Tryd.underlying9 Tryd.underlying34 Tryd.underlying5
  have hge := grownCap_ge w (strB l).size 0 5
  have H := Lib.bytesWorld_at_new w 5 (strB l)
  have e : (strB l).size = l.length := strB_size l
  refine ⟨grownCap w (strB l).size 0 5, Lib.bytesWorld w 5 (strB l), by rw [← e]; exact h, ⟨rfl, hl, fun _ => ⟨_, 0, rfl, by rw [Lib.bytesWorld_size]; omega, fun i hi => ?_⟩⟩, ⟨rfl, rfl, rfl, by rw [Lib.bytesWorld_size]; omega, fun k hk => Lib.bytesWorld_at_old w 5 (strB l) k hk⟩⟩
  rw [cell_of_row _ _ _ _ _ _ H, Nat.zero_add]
  unfold Lib.bytesCells
  have h2 : (strB l).data.toList.map (fun b => b.toNat) = l := nums_strB hl
  have h3 : i < (strB l).data.size := by rw [show (strB l).data.size = (strB l).size from rfl, e]; exact hi
  rw [Array.getElem?_append_left (by simpa using h3), Array.getElem?_map, Array.getElem?_eq_getElem h3]
  have h4 : l.getD i 0 = ((strB l).data[i]'h3).toNat := by
    have := congrArg (fun z : List Nat => z.getD i 0) h2
    rw [← this, List.getD_eq_getElem?_getD, List.getElem?_map, Array.getElem?_toList, Array.getElem?_eq_getElem h3]
    rfl
  rw [h4]
  rfl
set_option maxRecDepth 100000 in
theorem zeros_str (w : World) (n : Nat) (hn : n ≤ 512) : (convert 34 9 (.slice (some ⟨w.heap.size, 0, none⟩) n n)).run Tryd.prog (w.alloc (.cells (madeCells #[.int .u8 0] n) 5)) = .ok (.string (strB (List.replicate n 0))) (w.alloc (.cells (madeCells #[.int .u8 0] n) 5)) := by
  have OZ := own_zeros (e := 5) w n (by unfold maxLen; omega) _ rfl 0 (Nat.zero_le _)
  obtain ⟨A, cp, e, hb⟩ := OZ.any
  injection e with e1 e2 e3
  rw [e1]
  rw [List.length_replicate] at hb
  exact hb.toStr byteT Tryd.underlying9 n
end Go.Proofs.YtnogmgnbhcmajaaDoor
