/-
  xml: WriteRune writes a letter's bytes.
-/
import Derived.Test.YteefjmdallpihaaGreatDoorQX8
import Derived.Shelf.Strings.BuilderRune
namespace Go.Proofs.YteefjmdallpihaaGreatDoor
open Go.RowKit Reply Go.Shelf

def renAR : Go.Shelf.Ren := ⟨Tryz.laysAppendRune_ren.f, fun n => if n = 72 then 61 else Tryz.laysAppendRune_ren.t n, Tryz.laysAppendRune_ren.g⟩
theorem laysAR : Go.Proofs.Lays.n242 Tryz.prog renAR := { Tryz.laysAppendRune with }
theorem extraAR : Builder.Extra Tryz.prog renAR := {
  sizeBuilder := by kernel_rfl
  liesBuilder := by kernel_rfl
  t5 := Tryz.underlying5
  a5 := Tryz.isAgg5
  z5 := Tryz.sizeOf5
  v5 := Tryz.zeroValue5
  infoByte := by kernel_rfl
  cellsByte := by kernel_rfl
  sizeByte := by kernel_rfl
  neB5 := by decide }
theorem apprune_own (B : Nat) (v : Value) (n : Nat) (xs : List Value) (x : Nat) (hx : x ≤ 1114111) (w : World) (hown : w.ownsRowF B 5 1 v n xs) (hlen : n + 4 ≤ 140737488355328) (hB : B ≤ w.heap.size) :
    Calls Tryz.prog 100 #[v, .int .i32 (x : Int)] w fun e w' => ∃ v', e = .returned v' ∧ w'.ownsRowF B 5 1 v' (n + (Lib.runeCells (x : Int)).length) (xs ++ Lib.runeCells (x : Int)) ∧ ∃ o, (w.alloc o).grownBy w' v.ownBlock :=
  Any.utf8_AppendRune_own laysAR extraAR B v n xs (x : Int) (by omega) (by omega) w hown hlen hB
theorem byteV (z : Int) (k : Nat) (h : z = (k : Int)) (hk : k < 256) : Value.int .u8 z = u8v (UInt8.ofNat k).toNat := by
  subst h
  have : (UInt8.ofNat k).toNat = k := by simp; omega
  rw [this]
  rfl
theorem runeCells_utf8 {x : Nat} (h : Xml.letter x = true) : Lib.runeCells (x : Int) = ((Xml.utf8 x).map fun c : UInt8 => c.toNat).map u8v := by
  have hb : (x ≤ 55295) ∨ (57344 ≤ x ∧ x ≤ 65533) ∨ (65536 ≤ x ∧ x ≤ 1114111) := by
    unfold Xml.letter at h
    simp only [Bool.or_eq_true, beq_iff_eq, decide_eq_true_eq] at h
    omega
  unfold Lib.runeCells Xml.utf8
  by_cases h1 : x < 128
  · rw [Lib.encodeRuneZ_one (by omega) (by omega), if_pos h1]
    simp only [List.map_cons, List.map_nil]
    rw [byteV (x : Int) x rfl (by omega)]
  · rw [if_neg h1]
    by_cases h2 : x < 2048
    · rw [Lib.encodeRuneZ_two (by omega) (by omega), if_pos h2]
      simp only [List.map_cons, List.map_nil]
      rw [byteV (192 + (x : Int) / 64) (192 + x / 64) (by omega) (by omega), byteV (128 + (x : Int) % 64) (128 + x % 64) (by omega) (by omega)]
    · rw [if_neg h2]
      by_cases h3 : x < 65536
      · rw [Lib.encodeRuneZ_three (by omega), if_pos h3]
        simp only [List.map_cons, List.map_nil]
        rw [byteV (224 + (x : Int) / 4096) (224 + x / 4096) (by omega) (by omega), byteV (128 + (x : Int) / 64 % 64) (128 + x / 64 % 64) (by omega) (by omega), byteV (128 + (x : Int) % 64) (128 + x % 64) (by omega) (by omega)]
      · rw [Lib.encodeRuneZ_four (by omega) (by omega), if_neg h3]
        simp only [List.map_cons, List.map_nil]
        rw [byteV (240 + (x : Int) / 262144) (240 + x / 262144) (by omega) (by omega), byteV (128 + (x : Int) / 4096 % 64) (128 + x / 4096 % 64) (by omega) (by omega), byteV (128 + (x : Int) / 64 % 64) (128 + x / 64 % 64) (by omega) (by omega), byteV (128 + (x : Int) % 64) (128 + x % 64) (by omega) (by omega)]
set_option maxHeartbeats 4000000 in
set_option maxRecDepth 100000 in
theorem runeX : RuneX := by
  intro base b l x w h hl hBw hx
  have hx1 : x ≤ 1114111 := by
    unfold Xml.letter at hx
    simp only [Bool.or_eq_true, beq_iff_eq, decide_eq_true_eq] at hx
    omega
  obtain ⟨m, hm⟩ : ∃ y, y = (l.map fun x : UInt8 => x.toNat) := ⟨_, rfl⟩
  have hml : m.length = l.length := by rw [hm, List.length_map]
  have h1 : Lib.IsBuilderF 61 5 base b (m.map u8v) w := by rw [hm]; exact h.1
  have RC := Lib.hid (runeCells_utf8 hx)
  have RL := (Lib.runeCells_le (x : Int)).2
  have CC := Lib.hid (check_any base b _ w h1)
  have HM := Lib.hid hm
  have HL : Hid ((m.map u8v).length = m.length) := by show _ = _; simp
  have AR := Lib.hid (fun v n xs w1 (o : w1.ownsRowF base 5 1 v n xs) h2 h3 => apprune_own base v n xs x hx1 w1 o h2 h3)
  clear h hm h1 hx hx1
  go_enter Tryz.func85, Tryz.ntmps85
  go_wp2_with fail
  refine CC.out.mono ?_
  rintro e w1 ⟨rfl, ⟨hB, v, hbk, hown, hne⟩, hb1, hk1⟩
  have c0 : w1.cell? ⟨b, 0, none⟩ = some (.pointer (some ⟨b, 0, none⟩)) := by rw [Lib.cell_of_heap hbk]; rfl
  obtain ⟨ao, nn, cp, rfl⟩ : ∃ ao nn cp, v = .slice ao nn cp := by
    rw [HL.out] at hown
    rcases hown.2 with ⟨hv, _⟩ | ⟨g, cap, cur, fz, hv, _⟩
    · exact ⟨_, _, _, hv⟩
    · exact ⟨_, _, _, hv⟩
  have c1 : w1.cell? ⟨b, 1, none⟩ = some (.slice ao nn cp) := by rw [Lib.cell_of_heap hbk]; rfl
  have hlt : b < w1.heap.size := (Array.getElem?_eq_some_iff.1 hbk).1
  have A1 := Lib.hid (AR.out _ _ _ w1 hown (by rw [HL.out, hml]; omega) (by have := hb1.size; omega))
  have HB1 := Lib.hid hb1
  have HK1 := Lib.hid hk1
  have HO := Lib.hid hown
  have HBK := Lib.hid hbk
  clear CC AR hb1 hk1 hown hbk hml RL hl
  go_wp2_with fail
  refine A1.out.mono ?_
  rintro e w2 ⟨v', rfl, hown', o, hgrow⟩
  have hb2 : w2.heap[b]? = some (.cells #[.pointer (some ⟨b, 0, none⟩), .slice ao nn cp] 61 (0, 0)) := by
    rw [hgrow.block b (by simp; omega) (fun e => hne e.symm), Lib.alloc_old w1 _ b hlt]
    exact HBK.out
  have G2 : w1.grownBy w2 (Value.slice ao nn cp).ownBlock := ⟨hgrow.os, hgrow.tape, hgrow.output, Nat.le_trans (by simp) hgrow.size, fun k hk hn => (hgrow.block k (by simp; omega) hn).trans (Lib.alloc_old w1 _ k hk)⟩
  have d0 : w2.cell? ⟨b, 0, none⟩ = some (.pointer (some ⟨b, 0, none⟩)) := by rw [Lib.cell_of_heap hb2]; rfl
  have d1 : w2.cell? ⟨b, 1, none⟩ = some (.slice ao nn cp) := by rw [Lib.cell_of_heap hb2]; rfl
  have f1 : w2.frozen? ⟨b, 1, none⟩ = false := Lib.frozen_of_heap hb2 1
  obtain ⟨ao', n', cap, rfl⟩ : ∃ ao n' cap, v' = .slice ao n' cap := by
    rw [HL.out] at hown'
    rcases hown'.2 with ⟨hv, _⟩ | ⟨g, cap, cur, fz, hv, _⟩
    · exact ⟨_, _, _, hv⟩
    · exact ⟨_, _, _, hv⟩
  have HB2 := Lib.hid hb2
  have HO2 := Lib.hid hown'
  have HG2 := Lib.hid G2
  clear A1 hgrow hb2 hown' G2
  go_wp2
  go_ret2
  refine ⟨⟨_, rfl⟩, ⟨.inr ?_, ?_⟩, ?_, (HK1.out.trans (BKept.grown HO.out HG2.out)).trans (BKept.set b 1 w2 _)⟩
  · have := Lib.BuilderAtF.put (T := 61) (e := 5) hB HB2.out (bs' := m.map u8v ++ Lib.runeCells (x : Int)) (by simpa using HO2.out) bne
    rw [List.map_append, List.map_append, ← RC.out, ← HM.out]
    exact this
  · intro y hy
    rw [List.map_append] at hy
    rcases List.mem_append.1 hy with hy | hy
    all_goals
      obtain ⟨c, _, rfl⟩ := List.mem_map.1 hy
      exact c.toNat_lt
  · exact (HB1.out.grown HG2.out (by have := HB1.out.size; omega) (fun k hk => (HO.out.lt k hk).1)).setCell (p := ⟨b, 1, none⟩) hB _
end Go.Proofs.YteefjmdallpihaaGreatDoor
