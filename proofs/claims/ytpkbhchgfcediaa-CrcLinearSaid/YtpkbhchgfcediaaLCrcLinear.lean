/-
  P1.1: sums are straight over xor: the law answers true for every input, and its arguments read behind the call as before. No condition beside the row's own.
-/
import Derived.Test.YtpkbhchgfcediaaCrcE
import Derived.Test.YtpkbhchgfcediaaBytes
import Derived.RegionTactic
import Derived.ChangeAlike
import Derived.Deep.RegionWith
import Derived.Laws.MakeOwn
namespace Go.Proofs.Ytpkbhchgfcediaa.crcLinear
open Go.ChangeShapes Go.WideShapes Go.ChangeAt Go.RowKit

theorem own : ownKnob Try.prog.godebug = none := by kernel_rfl
theorem laidOut : laidOutB Try.prog = true := by kernel_rfl
theorem cells5 : Try.prog.cellsOf 5 = 1 := by kernel_rfl
theorem bytes5 : Try.prog.bytesOf 5 = 1 := by kernel_rfl
theorem info5 : (Try.prog.info? 5).map (fun i => (i.zero, i.size, i.bytes)) = some (some (.int .u8 0), 1, 1) := by kernel_rfl

def zeros (n : Nat) : Array Value := madeCells #[.int .u8 0] n
theorem make_bytes (n : Nat) (hn : n ≤ 140737488351232) (u : World) : (Instr.makeSlice 44 (.int .i64 (n : Int)) (.int .i64 (n : Int))).run Try.prog u =
    .ok (.slice (some ⟨u.heap.size, 0, none⟩) n n) (u.alloc (.cells (zeros n) 5)) := by
  obtain ⟨i0, hi, hz0, hz1, hz2⟩ := info_parts info5
  have h := run_make (P := Try.prog) u 44 5 i0 (.int .u8 0) Try.underlying44 hi hz0 .i64 .i64 (n : Int) (n : Int) (by omega) (Int.le_refl _) (by rw [hz2]; omega) (by omega)
  have e : (n : Int).toNat = n := by omega
  rw [e] at h
  simpa [hz1, Value.cells, zeros] using h
theorem zeros_at (n i : Nat) (h : i < n) : (zeros n)[i]? = some (.int .u8 ((0 : Nat) : Int)) := by
  rw [← Array.getElem?_toList]
  unfold zeros
  rw [toList_madeCells_one]
  simp [h]

/-- The bytes of both, mixed, as far as k. -/
def mixTo (l m : List Nat) (k i : Nat) : Nat := if i < k then l.getD i 0 ^^^ m.getD i 0 else 0

structure Mixed (wr : World) (g n k : Nat) (l m : List Nat) : Prop where
  cell : ∀ i, i < n → wr.cell? ⟨g, i, none⟩ = some (.int .u8 ((mixTo l m k i : Nat) : Int))
  free : ∀ i, wr.frozen? ⟨g, i, none⟩ = false
  lt : g < wr.heap.size

theorem Mixed.drew {wr : World} {g n k : Nat} {l m : List Nat} (h : Mixed wr g n k l m) : Mixed wr.drew g n k l m := ⟨h.cell, h.free, h.lt⟩
theorem Mixed.next {wr : World} {g n k : Nat} {l m : List Nat} (h : Mixed wr g n k l m) : Mixed (wr.setCell ⟨g, k, none⟩ (.int .u8 ((l.getD k 0 ^^^ m.getD k 0 : Nat) : Int))) g n (k + 1) l m where
  cell := fun i hi => by
    by_cases e : k = i
    · subst e
      rw [World.cell?_setCell_same _ _ _ (h.cell k hi)]
      unfold mixTo
      rw [if_pos (by omega)]
    · rw [World.cell?_setCell_other _ _ _ _ (ne_off e), h.cell i hi]
      unfold mixTo
      by_cases hik : i < k
      · rw [if_pos hik, if_pos (by omega)]
      · rw [if_neg hik, if_neg (by omega)]
  free := fun i => by rw [World.frozen?_setCell]; exact h.free i
  lt := by rw [World.size_setCell]; exact h.lt
theorem Mixed.new (w : World) (n : Nat) (l m : List Nat) : Mixed (w.alloc (.cells (zeros n) 5)) w.heap.size n 0 l m where
  cell := fun i hi => by rw [World.cell?_alloc_new, zeros_at n i hi]; unfold mixTo; rw [if_neg (by omega)]
  free := fun i => World.frozen?_alloc_new _ _ _ _
  lt := by simp

/-- The bytes of both, mixed, k of them. -/
def mixed (l m : List Nat) (k : Nat) : List Nat := Crc.mix (l.take k) (m.take k)
theorem mixed_len {l m : List Nat} {k : Nat} (h0 : k ≤ l.length) (h1 : k ≤ m.length) : (mixed l m k).length = k := by simp [mixed, Crc.mix]; omega
theorem mixed_at {l m : List Nat} {k i : Nat} (h0 : k ≤ l.length) (h1 : k ≤ m.length) (hi : i < k) : (mixed l m k).getD i 0 = l.getD i 0 ^^^ m.getD i 0 := by
  simp only [mixed, Crc.mix, List.getD_eq_getElem?_getD, List.getElem?_zipWith, List.getElem?_take, if_pos hi, List.getElem?_eq_getElem (show i < l.length by omega), List.getElem?_eq_getElem (show i < m.length by omega)]
  rfl
theorem Mixed.bts {wr : World} {g n : Nat} {l m : List Nat} (h : Mixed wr g n n l m) (h0 : n ≤ l.length) (h1 : n ≤ m.length) (u0 : ∀ x ∈ l, x < 256) (u1 : ∀ x ∈ m, x < 256) : Bts wr (some ⟨g, 0, none⟩) n (mixed l m n) := by
  refine ⟨mixed_len h0 h1, fun x hx => ?_, fun _ => ⟨g, 0, rfl, h.lt, fun i hi => ?_⟩⟩
  · obtain ⟨i, hi, rfl⟩ := List.getElem_of_mem hx
    rw [mixed_len h0 h1] at hi
    have e := mixed_at h0 h1 hi
    rw [List.getD_eq_getElem?_getD, List.getElem?_eq_getElem (by rw [mixed_len h0 h1]; exact hi)] at e
    simp only [Option.getD_some] at e
    rw [e]
    have a0 : l.getD i 0 < 256 := by rw [List.getD_eq_getElem?_getD, List.getElem?_eq_getElem (show i < l.length by omega)]; exact u0 _ (List.getElem_mem _)
    have a1 : m.getD i 0 < 256 := by rw [List.getD_eq_getElem?_getD, List.getElem?_eq_getElem (show i < m.length by omega)]; exact u1 _ (List.getElem_mem _)
    have := Nat.xor_lt_two_pow (n := 8) (show l.getD i 0 < 2 ^ 8 by omega) (show m.getD i 0 < 2 ^ 8 by omega)
    omega
  · rw [Nat.zero_add, h.cell i hi, mixed_at h0 h1 hi]
    unfold mixTo
    rw [if_pos hi]
theorem zeros_bts (w : World) (k b : Nat) (hb : b = w.heap.size) : Bts (w.alloc (.cells (zeros k) 5)) (some ⟨b, 0, none⟩) k (List.replicate k 0) := by
  subst hb
  refine ⟨by simp, fun x hx => by have := (List.mem_replicate.1 hx).2; omega, fun _ => ⟨_, 0, rfl, by simp, fun i hi => ?_⟩⟩
  rw [Nat.zero_add, World.cell?_alloc_new, zeros_at k i hi, List.getD_eq_getElem?_getD, List.getElem?_replicate, if_pos hi]
  rfl
theorem sum_mixed {l m : List Nat} {k : Nat} (h0 : k ≤ l.length) (h1 : k ≤ m.length) (u0 : ∀ x ∈ l, x < 256) (u1 : ∀ x ∈ m, x < 256) :
    (bits .xor .u32 ((Crc.sum (mixed l m k) : Nat) : Int) ((Crc.sum (List.replicate k 0) : Nat) : Int) == bits .xor .u32 ((Crc.sum (l.take k) : Nat) : Int) ((Crc.sum (m.take k) : Nat) : Int)) = true := by
  have t0 : Crc.sum (l.take k) < 4294967296 := Crc.sum_lt fun x hx => u0 x (List.mem_of_mem_take hx)
  have t1 : Crc.sum (m.take k) < 4294967296 := Crc.sum_lt fun x hx => u1 x (List.mem_of_mem_take hx)
  have t2 : Crc.sum (List.replicate k 0) < 4294967296 := Crc.sum_lt fun x hx => by have := (List.mem_replicate.1 hx).2; omega
  have e := Crc.sum_mix (l.take k) (m.take k) (by simp; omega)
  have hk : (l.take k).length = k := by simp; omega
  rw [hk] at e
  have t3 : Crc.sum (mixed l m k) < 4294967296 := by
    have : Crc.sum (mixed l m k) = (Crc.sum (l.take k) ^^^ Crc.sum (m.take k)) ^^^ Crc.sum (List.replicate k 0) := by
      rw [← e, Nat.xor_assoc, Nat.xor_self, Nat.xor_zero]; rfl
    rw [this]
    exact Crc.xor_lt (Crc.xor_lt t0 t1) t2
  rw [u32_xor_nat _ _ t3 t2, u32_xor_nat _ _ t0 t1]
  exact beq_iff_eq.2 (congrArg (fun x : Nat => (x : Int)) e)
theorem getD_lt {l : List Nat} (h : ∀ x ∈ l, x < 256) (k : Nat) : l.getD k 0 < 256 := by
  rw [List.getD_eq_getElem?_getD]
  rcases Nat.lt_or_ge k l.length with hk | hk
  · rw [List.getElem?_eq_getElem hk]; exact h _ (List.getElem_mem hk)
  · rw [List.getElem?_eq_none hk]; show 0 < 256; omega

set_option maxRecDepth 100000 in
set_option maxHeartbeats 1600000 in
theorem walk (A0 : Option Addr) (n0 c0 : Nat) (l0 : List Nat) (A1 : Option Addr) (n1 c1 : Nat) (l1 : List Nat) (w : World) (n : Nat) (hmin : (n = n0 ∧ n0 ≤ n1) ∨ (n = n1 ∧ n1 < n0))
    (hn0 : n0 ≤ 140737488351232) (hn1 : n1 ≤ 140737488351232) (hc0 : n0 ≤ c0) (hc1 : n1 ≤ c1) (hb0 : Bts w A0 n0 l0) (hb1 : Bts w A1 n1 l1) :
    Calls Try.prog 6 #[.slice A0 n0 c0, .slice A1 n1 c1] w fun e w' => e = .returned (.bool true) ∧ Below w.heap.size w w' := by
  have HB0 := Lib.hid hb0
  have HB1 := Lib.hid hb1
  have hmk := make_bytes n (by omega)
  have u0 := hb0.2.1
  have u1 := hb1.2.1
  have U0 := Lib.hid u0
  have U1 := Lib.hid u1
  clear hb0 hb1 u0 u1
  rcases hmin with ⟨rfl, hle⟩ | ⟨rfl, hle⟩
  all_goals
    go_enter Try.func6, Try.ntmps6
    go_wp2_with fail
    refine (fixed_any _).mono ?_
    rintro e w1 ⟨rfl, hbel⟩
    have D0 := Lib.hid (HB0.out.kept hbel)
    have D1 := Lib.hid (HB1.out.kept hbel)
    have M0 := Lib.hid (Mixed.new w1 n l0 l1)
    clear HB0 HB1
    go_wp2_with fail
    go_loopw [7] (fun i wr => ∃ k : Nat, k ≤ n ∧ i = .int .i64 k ∧ Mixed wr w1.heap.size n k l0 l1 ∧ Below w1.heap.size w1 wr) (fun i _ => n - (intOf i).toNat)
    case atStart => exact ⟨0, by omega, rfl, M0.out, (Below.refl _ _).alloc (Nat.le_refl _) _⟩
    case round =>
      obtain ⟨k, hk, rfl, hM, hB⟩ := hrel
      have HM := Lib.hid hM
      have HBL := Lib.hid hB
      by_cases hlt : k < n
      · have hx := hM.cell k hlt
        have hf := hM.free k
        obtain ⟨b0, off0, rfl, hlt0, hcell0⟩ := (D0.out.kept hB).2.2 (by omega)
        obtain ⟨b1, off1, rfl, hlt1, hcell1⟩ := (D1.out.kept hB).2.2 (by omega)
        have hy0 := hcell0 k (by omega)
        have hy1 := hcell1 k (by omega)
        clear hcell0 hcell1 hM hB
        have HN := Lib.hid (HM.out.next)
        have h8a := getD_lt U0.out k
        have h8b := getD_lt U1.out k
        generalize l0.getD k 0 = x at *
        generalize l1.getD k 0 = y at *
        have hxy := u8_xor_nat x y h8a h8b
        have hi0 : (0 : Int) ≤ (k : Int) := by omega
        have hi1 : (k : Int) < (n : Int) := by omega
        try have hi2 : (k : Int) < (n1 : Int) := by omega
        try have hi3 : (k : Int) < (n0 : Int) := by omega
        go_wp2_with fail
        go_region
        go_wp2
        go_roundw
        case rel => exact ⟨k + 1, by omega, by go_num, HN.out.drew, (HBL.out.setCell (Nat.le_refl _) _).drew⟩
        case measure => simp [intOf]; omega
      · obtain rfl : k = n := by omega
        have T := Lib.hid (HM.out.bts (by rw [D0.out.1]; omega) (by rw [D1.out.1]; omega) U0.out U1.out)
        have G0 := Lib.hid ((D0.out.kept HBL.out).head (k := k) (by omega))
        have G1 := Lib.hid ((D1.out.kept HBL.out).head (k := k) (by omega))
        have FB : Hid (Below w.heap.size w wr) := hbel.trans (HBL.out.mono hbel.size)
        have FS := Lib.hid (sum_mixed (k := k) (l := l0) (m := l1) (by rw [D0.out.1]; omega) (by rw [D1.out.1]; omega) U0.out U1.out)
        go_wp2_with fail
        have hk2 : (k : Int) ≤ (c0 : Int) := by omega
        have hk3 : (k : Int) ≤ (c1 : Int) := by omega
        have hk4 : (0 : Int) ≤ (k : Int) := by omega
        go_region_with (go_at_call 10; first
          | (go_at_call_of 10 (Value.slice (some ⟨w1.heap.size, 0, none⟩) k k); refine (sum_any _ _ _ (mixed l0 l1 k) _ (by omega) (by first | exact T.out.drew | exact T.out.drew.alloc _)).mono ?_; rintro e w' ⟨rfl, rfl⟩)
          | (go_at_call_of 10 (Value.slice A0 k c0); refine (sum_any _ _ _ (l0.take k) _ (by omega) (by first | exact G0.out.drew | exact G0.out.drew.alloc _)).mono ?_; rintro e w' ⟨rfl, rfl⟩)
          | (go_at_call_of 10 (Value.slice A1 k c1); refine (sum_any _ _ _ (l1.take k) _ (by omega) (by first | exact G1.out.drew | exact G1.out.drew.alloc _)).mono ?_; rintro e w' ⟨rfl, rfl⟩)
          | (refine (sum_any _ _ _ (List.replicate k 0) _ (by omega) ?_).mono ?_; exact zeros_bts _ _ _ (by simp); rintro e w' ⟨rfl, rfl⟩))
        all_goals
          go_wp2
          go_ret
          exact ⟨congrArg (fun b => Ending.returned (Value.bool b)) FS.out, ((FB.out.drew).alloc FB.out.size _)⟩
theorem opens {H : Type} {enc : TypeId × Value → H} {W : World} {base : Nat} {args : Array Value} {ds : List (DataW H)} {p : List MemPlace}
    (hval : ∀ (j : Nat) t v, Try.f6.params[j]? = some t → args[j]? = some v → Value.okWide Try.prog W .any base t v)
    (hA : DataW.TrodAll enc Try.prog W 0 (fun _ => true) true Try.f6.params.toList args.toList ds p) (hlt : ∀ x ∈ p, x.block < W.heap.size) (hsz : (DataW.weightsEach Try.prog Try.f6.params.toList ds).all (· ≤ reachBytes) = true) :
    Calls Try.prog 6 args W fun e W' => e = .returned (.bool true) ∧ Below W.heap.size W W' := by
  rw [Try.params6] at hA hval hsz
  obtain ⟨v0, vs0, d0, ds0, p0, q0, hargs, rfl, rfl, h0, r0⟩ := trodAll_cons hA
  obtain ⟨v1, vs1, d1, ds1, p1, q1, rfl, rfl, rfl, h1, r1⟩ := trodAll_cons r0
  obtain ⟨rfl, rfl, rfl⟩ := trodAll_nil r1
  obtain rfl : args = #[v0, v1] := by cases args; simp_all
  obtain ⟨A0, n0, c0, l0, rfl, hb0, hc0, _, hd0⟩ := open_bts Try.underlying44 Try.underlying5 cells5 (hval 0 44 v0 rfl rfl) h0
  obtain ⟨A1, n1, c1, l1, rfl, hb1, hc1, _, hd1⟩ := open_bts Try.underlying44 Try.underlying5 cells5 (hval 1 44 v1 rfl rfl) h1
  have g0 : n0 ≤ 140737488351232 := by
    rcases hd0 with ⟨_, rfl, _⟩ | ⟨el, sp, rfl, h2, h3⟩
    · omega
    · have := sized_slice hsz (j := 0) (t := 44) (e := 5) rfl rfl Try.underlying44
      rw [bytes5] at this
      simp only [reachBytes] at this
      omega
  have g1 : n1 ≤ 140737488351232 := by
    rcases hd1 with ⟨_, rfl, _⟩ | ⟨el, sp, rfl, h2, h3⟩
    · omega
    · have := sized_slice hsz (j := 1) (t := 44) (e := 5) rfl rfl Try.underlying44
      rw [bytes5] at this
      simp only [reachBytes] at this
      omega
  by_cases hle : n0 ≤ n1
  · exact walk A0 n0 c0 l0 A1 n1 c1 l1 W n0 (.inl ⟨rfl, hle⟩) g0 g1 hc0 hc1 hb0 hb1
  · exact walk A0 n0 c0 l0 A1 n1 c1 l1 W n1 (.inr ⟨rfl, by omega⟩) g0 g1 hc0 hc1 hb0 hb1

set_option maxRecDepth 100000 in
theorem lifted (os : Os) (started : os.Started) (H : Type) (enc : TypeId × Value → H) :
    ReturnsInHanded {} Try.checked os 6 .any (Rows.crcLinearSpec.pre6 enc Try.prog Try.f6 Rows.crcLinearRow.domain false) (Rows.crcLinearSpec.post enc Try.prog Try.f6 false true false false) := by
  refine returnsInHanded_of_change_sized (C := Try.checked) own started (by kernel_rfl) Try.func6
    (ChangeSpec.witness6 (enc := enc) (C := Try.checked) false ⟨#[], #[.slice none 0 0, .slice none 0 0], []⟩ 8 (by kernel_rfl) (by kernel_rfl) (by kernel_rfl) (by kernel_rfl)) ?_
  intro W base args ds gs before hval hW _ hsz0 _
  refine law_calls laidOut Try.underlying4 rfl (by rw [Try.params6]; exact of_decide_eq_true (by kernel_rfl)) rfl (fun ds h => by match ds, h with | [_, _], _ => rfl) hW ?_
  obtain ⟨rfl, p, hA, hlt⟩ := law_args rfl hW
  have hsz : (DataW.weightsEach Try.prog (Try.f6.params.toList ++ []) (ds ++ [])).all (· ≤ reachBytes) = true := hsz0
  rw [List.append_nil, List.append_nil] at hsz
  exact opens hval hA hlt hsz

theorem over : Rows.crcLinearRow.holds Try.pinned (OpenSpec.ofChange Rows.crcLinearSpec) :=
  OpenClaim.holds_of_wide 6 Try.f6 rfl rfl rfl rfl rfl rfl rfl ⟨rfl, rfl, rfl, rfl, rfl⟩ rfl rfl rfl rfl rfl (by kernel_rfl) Try.func6 (by kernel_rfl)
    (of_decide_eq_true (by kernel_rfl)) (by unfold Func.isWrapper; first | (rw [if_pos (by decide +kernel)]; kernel_rfl) | (rw [if_neg (by decide +kernel)]; exact ⟨rfl, rfl⟩))
    (fun os started H enc _ => lifted os started H enc)

theorem proved : Rows.CrcLinearSaid := over

end Go.Proofs.Ytpkbhchgfcediaa.crcLinear
