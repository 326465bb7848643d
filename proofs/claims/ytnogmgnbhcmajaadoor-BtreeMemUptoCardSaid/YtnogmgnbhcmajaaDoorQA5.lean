/-
  btree: numbers packed and read; what is good; an entry's size. · btree: a number read.
-/
import Derived.Test.YtnogmgnbhcmajaaDoorQPlain
import Derived.Laws.ShiftsVarLaws
import Derived.ArgAppend
namespace Go.Proofs.YtnogmgnbhcmajaaDoor
open Go.RowKit Wal

theorem strB_at {L : List Nat} (h8 : ∀ x ∈ L, x < 256) {k : Nat} (hk : k < (strB L).size) : ((strB L)[k]'hk).toNat = L.getD k 0 := by
  have h1 := nums_strB h8
  have h2 := congrArg (fun z : List Nat => z[k]?) h1
  unfold nums at h2
  have h3 : k < (strB L).data.toList.length := by rw [Array.length_toList]; exact hk
  simp only [List.getElem?_map, List.getElem?_eq_getElem h3, Option.map_some] at h2
  rw [List.getD_eq_getElem?_getD, ← h2]
  rfl
theorem isGoodKey_any (w : World) (l : List Nat) : Calls Tryd.prog 21 #[.string (strB l)] w fun e w' => e = .returned (.bool (decide (1 ≤ l.length ∧ l.length ≤ 128))) ∧ w = w' := by
  have sz := strB_size l
  go_enter Tryd.func21, Tryd.ntmps21
  by_cases c1 : 1 ≤ l.length
  · have i1 : (1 : Int) ≤ (l.length : Int) := by omega
    by_cases c2 : l.length ≤ 128
    · have i2 : (l.length : Int) ≤ 128 := by omega
      go_wp2_with fail
      go_ret
      exact ⟨by simp [c1, c2], rfl⟩
    · have i2 : ¬ (l.length : Int) ≤ 128 := by omega
      go_wp2_with fail
      go_ret
      exact ⟨by simp, rfl⟩
  · have i1 : ¬ (1 : Int) ≤ (l.length : Int) := by omega
    go_wp2_with fail
    go_ret
    exact ⟨by simp, rfl⟩
theorem isGoodValue_any (w : World) (l : List Nat) : Calls Tryd.prog 22 #[.string (strB l)] w fun e w' => e = .returned (.bool (decide (l.length ≤ 64))) ∧ w = w' := by
  have sz := strB_size l
  go_enter Tryd.func22, Tryd.ntmps22
  by_cases c2 : l.length ≤ 64
  · have i2 : (l.length : Int) ≤ 64 := by omega
    go_wp2_with fail
    go_ret
    exact ⟨by simp [c2], rfl⟩
  · have i2 : ¬ (l.length : Int) ≤ 64 := by omega
    go_wp2_with fail
    go_ret
    exact ⟨by simp, rfl⟩
set_option maxRecDepth 100000 in
set_option maxHeartbeats 400000 in
theorem packNumber_any (w : World) (b : Nat) (hb : b < 9223372036854775808) :
    Calls Tryd.prog 74 #[.int .i64 (b : Int)] w fun e w' => e = .returned (.string (strB (pk b))) ∧ Below w.heap.size w w' := by
  have hw : IntKind.u64.wrap (b : Int) = (b : Int) := by rw [IntKind.wrap_u64]; omega
  have HB := Lib.hid hb
  clear hb
  go_enter Tryd.func74, Tryd.ntmps74
  go_wp2
  go_loopw [3, 4] (fun v x wr => ∃ (y : Nat) (l : List Nat), x = .int .u64 (y : Int) ∧ y ≤ b ∧ l.length ≤ 100 ∧ Hid (l.length + (pk y).length = (pk b).length ∧ l ++ pk y = pk b ∧ OwnB wr w.heap.size 5 v l ∧ Below w.heap.size w wr)) (fun _ x _ => (intOf x).toNat)
  case atStart => exact ⟨b, [], rfl, Nat.le_refl _, by simp, by simp, rfl, ⟨⟨rfl, .inl ⟨rfl, rfl⟩⟩, by simp⟩, Below.refl _ _⟩
  case round =>
    obtain ⟨y, l, rfl, hy, hl, G⟩ := hrel
    obtain ⟨A', c', rfl, hbt⟩ := G.out.2.2.1.any
    have BT := Lib.hid hbt
    clear hbt
    by_cases hp : 0 < y
    · have ip : (0 : Int) < (y : Int) := by omega
      have PK := Lib.hid (pk_pos hp)
      have l8 : Hid (l.length < 9) := by
        have h1 := G.out.1
        have e8 : (256 : Nat) ^ 8 = 18446744073709551616 := by decide
        have h2 : (pk b).length ≤ 8 := pk_length (by have := HB.out; rw [e8]; omega)
        rw [PK.out, List.length_cons] at h1
        show _ < _
        omega
      have hm : IntKind.u8.wrap (y : Int) = ((y % 256 : Nat) : Int) := by rw [IntKind.wrap_u8']; omega
      have hz : y % 256 < 256 := by omega
      have hd : y / 256 < y := by omega
      generalize hzz : y % 256 = z at *
      clear hzz
      have R2 : Hid (OwnB (wr.alloc (.cells #[.int .u8 (z : Int)] 5)) w.heap.size 5 (.slice A' l.length c') l) := G.out.2.2.1.alloc _
      have B2 : Hid (Bts (wr.alloc (.cells #[.int .u8 (z : Int)] 5)) (some ⟨wr.heap.size, 0, none⟩) 1 [z]) := ⟨rfl, by simpa using hz, fun _ => ⟨_, 0, rfl, by simp, fun i hi => by
        obtain rfl : i = 0 := by omega
        exact (World.cell?_alloc_new _ _ _ _).trans rfl⟩⟩
      go_wp2_with (at_builtin; refine wpList_append_bts byteT rfl (.tmp 11) (.tmp 14) rfl w.heap.size _ _ rfl R2.out (some ⟨wr.heap.size, 0, none⟩) 1 1 [z] rfl B2.out (by have := l8.out; omega) (by have := G.out.2.2.2.size; simp; omega) ?_; intro v4 w4 hown4 hg4 hv4)
      have F : Hid ((l ++ [z]).length + (pk (y / 256)).length = (pk b).length ∧ (l ++ [z]) ++ pk (y / 256) = pk b ∧ OwnB w4 w.heap.size 5 v4 (l ++ [z]) ∧ Below w.heap.size w w4) := by
        have h1 := G.out.1
        have h2 := G.out.2.1
        rw [PK.out] at h1 h2
        refine ⟨by rw [List.length_append, ← h1, List.length_cons]; simp; omega, by rw [List.append_assoc]; exact h2, hown4, ?_⟩
        exact R2.out.grown (G.out.2.2.2.alloc G.out.2.2.2.size _) hg4 (by have := G.out.2.2.2.size; simp; omega)
      clear hown4 hg4
      go_roundw
      case rel => exact ⟨y / 256, l ++ [z], by go_num, by omega, by have := l8.out; simp; omega, F⟩
      case measure => simp [intOf]; omega
    · obtain rfl : y = 0 := by omega
      have bt := BT.out
      have ts := bt.toStr byteT Tryd.underlying9 c'
      have E : Hid (l = pk b) := by
        have := G.out.2.1
        rw [pk_zero, List.append_nil] at this
        exact this
      have FIN : Hid (Below w.heap.size w wr) := G.out.2.2.2
      clear bt
      go_wp2_with fail
      go_ret
      exact ⟨by rw [E.out]; rfl, FIN.out⟩
end Go.Proofs.YtnogmgnbhcmajaaDoor

namespace Go.Proofs.YtnogmgnbhcmajaaDoor
open Go.RowKit Wal
theorem unnum_take {l : List Nat} {k : Nat} (hk : k < l.length) : unnum (l.take (k + 1)) = unnum (l.take k) + l.getD k 0 * 256 ^ k := by
  rw [List.take_succ_eq_append_getElem hk, unnum_snoc, List.length_take, Nat.min_eq_left (by omega), List.getD_eq_getElem?_getD, List.getElem?_eq_getElem hk]
  rfl
set_option maxRecDepth 100000 in
set_option maxHeartbeats 400000 in
theorem readNumber_any (w : World) (l : List Nat) (h8 : ∀ x ∈ l, x < 256) (hl : l.length ≤ 8) :
    Calls Tryd.prog 57 #[.string (strB l)] w fun e w' => e = .returned (.int .i64 (wrap64 (unnum l : Nat))) ∧ w = w' := by
  have sz := strB_size l
  have hat : ∀ k (hk : k < (strB l).size), ((strB l)[k]'hk).toNat = l.getD k 0 := fun k hk => strB_at h8 hk
  obtain ⟨s, hs⟩ : ∃ s, s = strB l := ⟨_, rfl⟩
  rw [← hs] at sz hat ⊢
  have HA := Lib.hid hat
  have H8 := Lib.hid h8
  clear hs hat h8
  have i8 : ¬ (8 : Int) < (l.length : Int) := by omega
  go_enter Tryd.func57, Tryd.ntmps57
  go_wp2_with fail
  go_loop [3, 10] (fun x i => ∃ k : Nat, k ≤ l.length ∧ i = .int .i64 k ∧ x = .int .u64 (unnum (l.take k) : Nat)) (fun _ i => l.length - (intOf i).toNat)
  case atStart => exact ⟨0, by omega, rfl, rfl⟩
  case round =>
    obtain ⟨k, hk, rfl, rfl⟩ := hrel
    by_cases hlt : k < l.length
    · have hks : k < s.size := by omega
      have lk : (k : Int) < (l.length : Int) := by omega
      have hc := HA.out k hks
      have h256 : l.getD k 0 < 256 := by
        rw [List.getD_eq_getElem?_getD, List.getElem?_eq_getElem hlt]
        exact H8.out _ (List.getElem_mem hlt)
      have HS := Lib.hid (unnum_take hlt)
      have hlt2 : unnum (l.take k) < 256 ^ k := by
        have := unnum_lt (l.take k) (fun x hx => H8.out x (List.mem_of_mem_take hx))
        rwa [List.length_take, Nat.min_eq_left (by omega)] at this
      have hor := or_step (c := l.getD k 0) hlt2
      have hp8 := pow8 k (by omega) _ h256
      have hx64 : unnum (l.take k) < 18446744073709551616 := by
        have := Nat.pow_le_pow_right (show 0 < 256 by omega) (show k ≤ 8 by omega)
        have e : 256 ^ 8 = 18446744073709551616 := by decide
        omega
      generalize unnum (l.take k) = x at *
      generalize l.getD k 0 = y at *
      have hsh : IntKind.u64.wrap ((y : Int) * 2 ^ (8 * k)) = ((y * 256 ^ k : Nat) : Int) := by
        have e2 : (2 : Int) ^ (8 * k) = ((256 ^ k : Nat) : Int) := by rw [Int.pow_mul]; norm_cast
        rw [e2, IntKind.wrap_u64]
        have e3 : (y : Int) * ((256 ^ k : Nat) : Int) = ((y * 256 ^ k : Nat) : Int) := by push_cast; rfl
        rw [e3]
        omega
      have hbo : bits .or .u64 (x : Int) ((y * 256 ^ k : Nat) : Int) = ((x + y * 256 ^ k : Nat) : Int) := by
        rw [u64_or_nat _ _ hx64 hp8, hor]
      have HV : Hid (bits .or .u64 (x : Int) (IntKind.u64.wrap ((y : Int) * 2 ^ (8 * k))) = ((x + y * 256 ^ k : Nat) : Int)) := by show _ = _; rw [hsh, hbo]
      clear hor hlt2 hx64 hp8 hsh hbo
      generalize y * 256 ^ k = z at *
      go_wp2_with fail
      go_round
      case rel => exact ⟨k + 1, by omega, by go_num, by rw [HS.out]; exact congrArg (Value.int .u64) HV.out⟩
      case measure => simp [intOf]; omega
    · obtain rfl : k = l.length := by omega
      rw [List.take_length]
      go_wp2_with fail
      go_ret
      exact ⟨rfl, rfl⟩
end Go.Proofs.YtnogmgnbhcmajaaDoor
