/-
  btree.Mem: Used: a range over a method that yields.
-/
import Derived.Test.YtlofpbmceipkkaaM5
import Derived.RangeFuncNested
import Derived.RangeFuncBound
import Derived.RangeFuncCalls
import Derived.RangeFuncLeaves
import Derived.RangeFuncBox
import Derived.RangeFuncWrites
import Derived.OwnWalkIn
import Derived.TacticsInMore
import Derived.LoopNIn
import Derived.LoopIn
namespace Go.Proofs.Ytlofpbmceipkkaa
open Go.RowKit

attribute [local go_sem] Oper.semAt_some

/-- How many blocks are taken. -/
def cnt (n : Nat) (f : Nat → Option KB) : Nat := ((List.range n).filter fun i => (f i).isSome).length
theorem cnt_zero (f : Nat → Option KB) : cnt 0 f = 0 := rfl
theorem cnt_succ (n : Nat) (f : Nat → Option KB) : cnt (n + 1) f = cnt n f + if (f n).isSome then 1 else 0 := by
  unfold cnt
  rw [List.range_succ, List.filter_append, List.length_append]
  congr 1
  cases h : (f n).isSome <;> simp [h]
theorem cnt_le (n : Nat) (f : Nat → Option KB) : cnt n f ≤ n := by
  unfold cnt
  exact Nat.le_trans (List.length_filter_le _ _) (by simp)
set_option maxRecDepth 100000 in
set_option maxHeartbeats 3200000 in
theorem taken_in (m : Nat) (hm : 1 ≤ m) (B l p g n : Nat) (ad : Nat → Nat) (f : Nat → Option KB) (hn : n ≤ 4096) (J : Nat → World → Prop)
    (hJm : ∀ k W, J k W → MemIs B W p g n ad f)
    (hY : ∀ k x W, k < n → J k W → YieldAt Fence.wide (m - 1) Try.prog l #[x] W fun e W' => e = .returned (.bool true) ∧ J (k + 1) W')
    (W : World) (h0 : J 0 W) :
    CallsIn Fence.wide m Try.prog 29 #[.pointer (some ⟨p, 0, none⟩), .func (.yield l) #[] #[]] W fun e W' => (∃ v, e = .returned v) ∧ J (cnt n f) W' := by
  have c0 : W.cell? ⟨p, 0, none⟩ = some (.slice (some ⟨g, 0, none⟩) n n) := (hJm 0 W h0).blk.cell 0
  have HJ := Lib.hid hJm
  have HY := Lib.hid hY
  have H0 := Lib.hid h0
  clear hY hJm h0
  refine callsIn_of_wp Try.func29 rfl trivial ?_ rfl
  simp only [Try.ntmps29, List.size_toArray, List.length_cons, List.length_nil, Nat.reduceAdd, Nat.reduceSub, Array.replicate_succ, Array.replicate_zero, List.push_toArray, List.append_toArray, List.nil_append, List.cons_append]
  gi_wp2
  gi_loopw [13] (fun i wr => ∃ k : Nat, k ≤ n ∧ i = .int .i64 k ∧ Hid (J (cnt k f) wr)) (fun i _ => n - (intOf i).toNat)
  case atStart => exact ⟨0, by omega, rfl, H0.out⟩
  case round =>
    obtain ⟨k, hk, rfl, HK⟩ := hrel
    by_cases hlt : k < n
    · have c1 := (HJ.out _ _ HK.out).ptr k hlt
      unfold ptrC at c1
      have CS := Lib.hid (cnt_succ k f)
      cases hf : f k with
      | none =>
        rw [hf] at c1 CS
        have HK2 : Hid (J (cnt (k + 1) f) wr) := by show J _ _; rw [CS.out]; exact HK.out
        clear hf c0
        gi_wp2
        refine ⟨fun f hf => (by cases hf), ?_⟩
        gi_wp2
        go_roundw
        case rel => exact ⟨k + 1, by omega, by go_num, HK2⟩
        case measure => simp [intOf]; omega
      | some x =>
        rw [hf] at c1 CS
        obtain ⟨fn, tmps, assign, body, hy, hR⟩ := HY.out (cnt k f) (.pointer (some ⟨ad k, 0, none⟩)) wr (Nat.lt_of_le_of_lt (cnt_le k f) hlt) HK.out
        have RR := Lib.hid hR
        clear hf hR c0
        gi_wp2
        refine RR.out.mono ?_
        rintro e W3 ⟨rfl, hJ3⟩
        have F : Hid (J (cnt (k + 1) f) W3) := by show J _ _; rw [CS.out]; exact hJ3
        clear hJ3 hy
        gi_wp2
        go_roundw
        case rel => exact ⟨k + 1, by omega, by go_num, F⟩
        case measure => simp [intOf]; omega
    · obtain rfl : k = n := by omega
      clear c0
      gi_wp2
      go_end0
      exact ⟨⟨_, rfl⟩, HK.out⟩
end Go.Proofs.Ytlofpbmceipkkaa
