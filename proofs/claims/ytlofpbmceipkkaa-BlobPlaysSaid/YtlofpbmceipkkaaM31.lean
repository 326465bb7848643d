/-
  The law's functions: part, fixed.
-/
import Derived.Test.YtlofpbmceipkkaaM30
namespace Go.Proofs.Ytlofpbmceipkkaa
open Go.RowKit Wal Blob

theorem strB_take (l : List Nat) (hb : ∀ x ∈ l, x < 256) (k : Nat) : (strB l).extract 0 k = strB (l.take k) := by
  have h1 : nums ((strB l).extract 0 k) = (nums (strB l)).take k := by
    unfold nums
    rw [ByteArray.data_extract, Array.toList_extract, List.extract_eq_take_drop, List.drop_zero, Nat.sub_zero, List.map_take]
  rw [nums_strB hb] at h1
  rw [← h1, strB_nums]
set_option maxRecDepth 100000 in
theorem part_any (w : World) (l : List Nat) (hb : ∀ x ∈ l, x < 256) (_hl : l.length ≤ 100000) (a k : Nat) :
    Calls Try.prog 12 #[strV l, .int .i64 (a : Int), .int .i64 (k : Int)] w fun e w' => e = .returned (strV ((l.drop a).take k)) ∧ w = w' := by
  have sz := strB_size l
  unfold strV
  by_cases c1 : l.length ≤ a
  · rw [List.drop_eq_nil_of_le c1, List.take_nil, strB_nil]
    have i1 : (l.length : Int) ≤ (a : Int) := by omega
    go_enter Try.func12, Try.ntmps12
    go_wp2_with fail
    go_ret
    exact ⟨rfl, rfl⟩
  · have i1 : ¬ (l.length : Int) ≤ (a : Int) := by omega
    have i2 : (a : Int) ≤ (l.length : Int) := by omega
    have sd := strB_drop l hb a
    have sz2 := strB_size (l.drop a)
    have st := strB_take (l.drop a) (fun x hx => hb x (List.mem_of_mem_drop hx)) k
    by_cases c2 : k < (l.drop a).length
    · have i3 : (k : Int) < ((l.drop a).length : Int) := by omega
      have i4 : (k : Int) ≤ ((l.drop a).length : Int) := by omega
      rw [List.length_drop] at i3 i4 sz2
      clear c1 c2 hb
      go_enter Try.func12, Try.ntmps12
      go_wp2_with fail
      go_ret
      exact ⟨rfl, rfl⟩
    · have i3 : ¬ (k : Int) < ((l.drop a).length : Int) := by omega
      have ET : (l.drop a).take k = l.drop a := List.take_of_length_le (by omega)
      rw [ET]
      rw [List.length_drop] at i3 sz2
      clear c1 c2 hb st ET
      go_enter Try.func12, Try.ntmps12
      go_wp2_with fail
      go_ret
      exact ⟨rfl, rfl⟩
theorem Laid.cnt_ {n : Nat} {f f' : Nat → Option KB} {h : Nat} {parts l : List Nat} (la : Laid n f f' h parts l) : cnt n f' = cnt n f + needL l.length := by
  rcases la with ⟨rfl, _, _, rfl⟩ | la
  · rfl
  · have fi := la.blob.fine
    have mine := (There.mine (.inr la.blob : There n f' h parts l)).1
    have e : allB h parts = h :: parts := if_neg (by have := fi.pos; omega)
    rw [e] at mine
    rw [cnt_add n (h :: parts) f f' (fi.rise.imp (fun {a b} (h : a < b) => Nat.ne_of_lt h)) (fun v hv => by
      obtain ⟨m1, _, y, hy⟩ := mine v hv
      exact ⟨m1, (la.fresh v hv).1, (la.fresh v hv).2, by rw [hy]; simp⟩) (fun j hj => by rw [la.same j hj])]
    unfold needL needB
    rw [if_neg (by have := la.blob.one; omega), List.length_cons, la.blob.count]
    omega
theorem Laid.there {n : Nat} {f f' : Nat → Option KB} {h : Nat} {parts l : List Nat} (la : Laid n f f' h parts l) : There n f' h parts l := by
  rcases la with ⟨rfl, rfl, rfl, _⟩ | la
  · exact .inl ⟨rfl, rfl, rfl⟩
  · exact .inr la.blob
theorem cnt_none (n : Nat) : cnt n (fun _ => none) = 0 := by
  induction n with
  | zero => rfl
  | succ n ih => rw [cnt_succ, ih]; rfl
theorem capN_of {n : Nat} (h : n ≤ 4096) : capN (n : Int) = n := by unfold capN; omega
set_option maxRecDepth 100000 in
set_option maxHeartbeats 3200000 in
theorem fixed_any (w : World) : Calls Try.prog 6 #[] w fun e w' => e = .returned (.bool true) ∧ Below w.heap.size w w' := by
  have NM := Lib.hid (newmem_any w.heap.size w (Nat.le_refl _) 9)
  rw [show capN 9 = 9 from rfl] at NM
  obtain ⟨B, hB⟩ : ∃ B, B = w.heap.size := ⟨_, rfl⟩
  rw [← hB] at NM ⊢
  have HB := Lib.hid hB
  have e3 : strV [97, 98, 99] = .string ⟨#[97, 98, 99]⟩ := by kernel_rfl
  have e2 : strV [98, 99] = .string ⟨#[98, 99]⟩ := by kernel_rfl
  have E3 := Lib.hid e3
  have E2 := Lib.hid e2
  clear hB e3 e2
  go_enter Try.func6, Try.ntmps6
  go_wp2_with fail
  refine NM.out.mono ?_
  rintro e w1 ⟨p, rfl, hp, hm, hb⟩
  have B1 := Lib.hid hb
  have SB : Hid (B ≤ w1.heap.size) := by rw [HB.out]; exact hb.size
  have WR := Lib.hid (bwrite_all B w1 SB.out p 9 _ hm [97, 98, 99] (by decide) (by decide))
  rw [E3.out] at WR
  clear hm hb hp NM
  unfold sto at WR
  go_wp2_with fail
  refine WR.out.mono ?_
  rintro e w2 (⟨h, parts, f', rfl, m, k, la⟩ | ⟨rfl, m, k, hs⟩)
  · have LA := Lib.hid la
    have K2 := Lib.hid k
    have M2 := Lib.hid m
    have BL := (la.there.at_ (by decide))
    have hp : (0 : Int) < (h : Int) := by have := BL.fine.pos; omega
    have RD := Lib.hid (bread_all B w2 p 9 f' m h parts _ la.there)
    rw [E3.out] at RD
    unfold sto at RD
    clear m k la WR BL
    go_wp2_with fail
    refine RD.out.mono ?_
    rintro e w3 ⟨rfl, m3, k3⟩
    have K3 := Lib.hid (K2.out.trans k3)
    have RA := Lib.hid (breadat_all B w3 p 9 f' m3 h parts _ LA.out.there 1 9)
    rw [show (([97, 98, 99] : List Nat).drop 1).take 9 = [98, 99] from rfl, E2.out] at RA
    unfold sto at RA
    clear m3 k3 RD
    go_wp2_with fail
    refine RA.out.mono ?_
    rintro e w4 ⟨rfl, m4, k4⟩
    have K4 := Lib.hid (K3.out.trans k4)
    have SI := Lib.hid (bsize_all B w4 p 9 f' m4 h parts _ LA.out.there)
    unfold sto at SI
    clear m4 k4 RA
    go_wp2_with fail
    refine SI.out.mono ?_
    rintro e w5 ⟨rfl, m5, k5⟩
    have K5 := Lib.hid (K4.out.trans k5)
    have US := Lib.hid (used_any B w5 p 9 f' m5)
    rw [LA.out.cnt_, cnt_none, show needL ([97, 98, 99] : List Nat).length = 2 from rfl] at US
    clear m5 k5 SI
    go_wp2_with fail
    refine US.out.mono ?_
    rintro e w6 ⟨rfl, hb6⟩
    have B6 : Hid (Below B w w6) := (B1.out.trans (K5.out.below SB.out)).trans (hb6.mono (by have := K5.out.size; have := SB.out; omega))
    clear hb6 US
    go_wp2_with fail
    go_ret
    exact ⟨rfl, B6.out⟩
  · exfalso
    rw [cnt_none, show needL ([97, 98, 99] : List Nat).length = 2 from rfl] at hs
    omega
end Go.Proofs.Ytlofpbmceipkkaa
