/-
  btree: texts compared; where a key is among entries. · btree: find, lead, suits, kid, top.
-/
import Derived.Test.YtnogmgnbhcmajaaDoorQA24
import Derived.Lib.Bytealg
namespace Go.Proofs.YtnogmgnbhcmajaaDoor
open Go.RowKit Wal

theorem strB_list {l : List Nat} : (strB l).data.toList = l.map fun x => UInt8.ofNat x := by
  simp only [strB, strOfNums_data, List.map_map]
  rfl
theorem u8_lt {x y : Nat} (hx : x < 256) (hy : y < 256) : (UInt8.ofNat x < UInt8.ofNat y) ↔ x < y := by
  rw [UInt8.lt_iff_toNat_lt, UInt8.toNat_ofNat', UInt8.toNat_ofNat', Nat.mod_eq_of_lt (by simpa using hx), Nat.mod_eq_of_lt (by simpa using hy)]
theorem u8_eq {x y : Nat} (hx : x < 256) (hy : y < 256) : (UInt8.ofNat x = UInt8.ofNat y) ↔ x = y := by
  rw [← UInt8.toNat_inj, UInt8.toNat_ofNat', UInt8.toNat_ofNat', Nat.mod_eq_of_lt (by simpa using hx), Nat.mod_eq_of_lt (by simpa using hy)]
theorem less_ltB : ∀ {a b : List Nat}, (∀ x ∈ a, x < 256) → (∀ x ∈ b, x < 256) → Go.Op.bytesLess (a.map fun x => UInt8.ofNat x) (b.map fun x => UInt8.ofNat x) = ltB a b
  | a, [], _, _ => by cases a <;> simp [Go.Op.bytesLess, ltB]
  | [], y :: b, _, _ => by simp [Go.Op.bytesLess, ltB]
  | x :: a, y :: b, ha, hb => by
    have hx := ha x (by simp)
    have hy := hb y (by simp)
    have ih := less_ltB (a := a) (b := b) (fun z hz => ha z (by simp [hz])) (fun z hz => hb z (by simp [hz]))
    simp only [List.map_cons, Go.Op.bytesLess, ltB, ih]
    have e1 := u8_lt hx hy
    have e2 : (UInt8.ofNat x == UInt8.ofNat y) = (x == y) := by
      rw [Bool.eq_iff_iff, beq_iff_eq, beq_iff_eq]
      exact u8_eq hx hy
    rw [e2]
    congr 1
    exact decide_eq_decide.2 e1
theorem less_strB {a b : List Nat} (ha : ∀ x ∈ a, x < 256) (hb : ∀ x ∈ b, x < 256) : Go.Op.bytesLess (strB a).toList (strB b).toList = ltB a b := by
  rw [ByteArray.toList_eq, ByteArray.toList_eq, strB_list, strB_list]
  exact less_ltB ha hb
theorem eq_strB {a b : List Nat} (ha : ∀ x ∈ a, x < 256) (hb : ∀ x ∈ b, x < 256) : ((strB a).toList == (strB b).toList) = decide (a = b) := by
  rw [Bool.eq_iff_iff, decide_eq_true_iff, beq_iff_eq]
  constructor
  · intro e
    exact strB_inj ha hb (WideShapes.bytes_inj (by rwa [ByteArray.toList_eq, ByteArray.toList_eq] at e))
  · rintro rfl
    rfl
def cmpB (a b : List Nat) : Int := if ltB a b then -1 else if ltB b a then 1 else 0
theorem cmp_ltB : ∀ {a b : List Nat}, (∀ x ∈ a, x < 256) → (∀ x ∈ b, x < 256) → Lib.compareBytes (a.map fun x => UInt8.ofNat x) (b.map fun x => UInt8.ofNat x) = cmpB a b
  | [], [], _, _ => by simp [Lib.compareBytes, cmpB, ltB]
  | [], y :: b, _, _ => by simp [Lib.compareBytes, cmpB, ltB]
  | x :: a, [], _, _ => by simp [Lib.compareBytes, cmpB, ltB]
  | x :: a, y :: b, ha, hb => by
    have hx := ha x (by simp)
    have hy := hb y (by simp)
    have ih := cmp_ltB (a := a) (b := b) (fun z hz => ha z (by simp [hz])) (fun z hz => hb z (by simp [hz]))
    simp only [List.map_cons, Lib.compareBytes, ih, u8_lt hx hy, u8_lt hy hx]
    unfold cmpB
    simp only [ltB]
    rcases Nat.lt_trichotomy x y with h | rfl | h
    · simp [h]
    · simp
    · have n1 : ¬ x < y := by omega
      have n2 : ¬ x = y := by omega
      simp [h, n1, n2]
theorem cmpB_neg {a b : List Nat} (h : ltB a b = true) : cmpB a b = -1 := by unfold cmpB; rw [if_pos h]
theorem cmpB_not {a b : List Nat} (h : ltB a b = false) : 0 ≤ cmpB a b ∧ (cmpB a b = 0 ↔ a = b) := by
  unfold cmpB
  rw [if_neg (by rw [h]; decide)]
  cases h2 : ltB b a with
  | true =>
    refine ⟨by decide, fun e => by simp at e, fun e => ?_⟩
    rw [e, ltB_irrefl] at h2; cases h2
  | false =>
    refine ⟨by decide, fun _ => ?_, fun _ => by simp⟩
    rcases ltB_total a b with h3 | h3 | h3
    · rw [h] at h3; cases h3
    · exact h3
    · rw [h2] at h3; cases h3
set_option maxRecDepth 100000 in
set_option maxHeartbeats 800000 in
theorem compareS_any (w : World) (a b : List Nat) (ha : ∀ x ∈ a, x < 256) (hb : ∀ x ∈ b, x < 256) :
    Calls Tryd.prog 52 #[.string (strB a), .string (strB b)] w fun e w' => e = .returned (.int .i64 (cmpB a b)) ∧ w = w' := by
  have E : Hid (Lib.compareBytes (strB a).data.toList (strB b).data.toList = cmpB a b) := by
    show _ = _
    rw [strB_list, strB_list]
    exact cmp_ltB ha hb
  clear ha hb
  go_enter Tryd.func52, Tryd.ntmps52
  go_wp2
  rw [run_callFunc_extern Tryd.func63 (by kernel_rfl) (by kernel_rfl) (by kernel_rfl) (e := Extern.BytealgCompare.compare) (by kernel_rfl), Lib.run_compareString]
  simp only [Result.andThen]
  rw [Oper.upon_value]
  go_wp2
  go_ret
  exact ⟨by rw [E.out]; rfl, rfl⟩
set_option maxRecDepth 100000 in
theorem compare_any (w : World) (a b : List Nat) (ha : ∀ x ∈ a, x < 256) (hb : ∀ x ∈ b, x < 256) :
    Calls Tryd.prog 41 #[.string (strB a), .string (strB b)] w fun e w' => e = .returned (.int .i64 (cmpB a b)) ∧ w = w' := by
  have C := Lib.hid (compareS_any w a b ha hb)
  clear ha hb
  go_enter Tryd.func41, Tryd.ntmps41
  go_wp2_with fail
  refine C.out.mono ?_
  rintro e w' ⟨rfl, rfl⟩
  go_wp2_with fail
  go_ret
  exact ⟨rfl, rfl⟩
set_option maxRecDepth 100000 in
theorem findcmp_any (w : World) (e : En) (k : List Nat) (he : ∀ x ∈ e.1, x < 256) (hk : ∀ x ∈ k, x < 256) :
    Calls Tryd.prog 40 #[enV e, .string (strB k)] w fun x w' => x = .returned (.int .i64 (cmpB e.1 k)) ∧ Below w.heap.size w w' := by
  have C := Lib.hid (fun o => compare_any (w.alloc o) e.1 k he hk)
  clear he hk
  unfold enV
  go_enter Tryd.func40, Tryd.ntmps40
  go_wp2_with fail
  refine (C.out _).mono ?_
  rintro x w' ⟨rfl, rfl⟩
  clear C
  go_wp2_with fail
  go_ret
  exact ⟨rfl, (Below.refl _ _).alloc (Nat.le_refl _) _⟩
theorem low_next {es : List En} {k : List Nat} {h : Nat} (hr : Rises es) (hh : h < es.length) (hl : ltB es[h].1 k = true) : ∀ e ∈ es.take (h + 1), ltB e.1 k = true := fun e he => by
  rw [List.take_succ_eq_append_getElem hh] at he
  rcases List.mem_append.1 he with he | he
  · obtain ⟨i, hi, rfl⟩ := List.getElem_of_mem he
    rw [List.length_take] at hi
    rw [List.getElem_take]
    exact ltB_trans (List.pairwise_iff_getElem.1 hr i h (by omega) hh (by omega)) hl
  · have : e = es[h] := by simpa using he
    rw [this]; exact hl
theorem high_next {es : List En} {k : List Nat} {h : Nat} (hr : Rises es) (hh : h < es.length) (hl : ltB es[h].1 k = false) : ∀ e ∈ es.drop h, ltB e.1 k = false := fun e he => by
  rw [List.drop_eq_getElem_cons hh] at he
  have hp : Rises (es.drop h) := List.Pairwise.drop hr
  rw [List.drop_eq_getElem_cons hh] at hp
  rcases List.mem_cons.1 he with rfl | he
  · exact hl
  · cases hc : ltB e.1 k with
    | false => rfl
    | true =>
      have := ltB_trans ((List.pairwise_cons.1 hp).1 e he) hc
      rw [hl] at this; cases this
def isAt (es : List En) (k : List Nat) (i : Nat) : Bool := match es[i]? with | some e => decide (e.1 = k) | none => false
set_option maxRecDepth 100000 in
set_option maxHeartbeats 1600000 in
theorem search_any (w : World) (A : Option Addr) (c : Nat) (es : List En) (h : EAt w A es) (hr : Rises es) (hs : ∀ e ∈ es, ∀ x ∈ e.1, x < 256) (hl : es.length ≤ 100000) (k : List Nat) (hk : ∀ x ∈ k, x < 256) :
    Calls Tryd.prog 39 #[.slice A es.length c, .string (strB k), .func (.func 40) #[] #[]] w fun x w' => ∃ i, Spot es k i ∧ x = .returned (.tuple #[.int .i64 (i : Nat), .bool (isAt es k i)]) ∧ Below w.heap.size w w' := by
  have H := Lib.hid h
  have HR := Lib.hid hr
  have HS := Lib.hid hs
  have HK := Lib.hid hk
  clear h hr hs hk
  go_enter Tryd.func39, Tryd.ntmps39
  go_wp2_with fail
  go_loopw [9, 10] (fun vi vj wr => ∃ i j : Nat, i ≤ j ∧ j ≤ es.length ∧ vi = .int .i64 i ∧ vj = .int .i64 j ∧ Hid ((∀ e ∈ es.take i, ltB e.1 k = true) ∧ (∀ e ∈ es.drop j, ltB e.1 k = false) ∧ Below w.heap.size w wr)) (fun vi vj _ => (intOf vj).toNat - (intOf vi).toNat)
  case atStart => exact ⟨0, es.length, by omega, Nat.le_refl _, rfl, rfl, by simp, by simp, Below.refl _ _⟩
  case round =>
    obtain ⟨i, j, hij, hj, rfl, rfl, G⟩ := hrel
    by_cases hlt : i < j
    · have lk : (i : Int) < (j : Int) := by omega
      obtain ⟨m, hm⟩ : ∃ m, m = (i + j) / 2 := ⟨_, rfl⟩
      have m1 : i ≤ m := by omega
      have m2 : m < j := by omega
      have ms : ((i : Int) + (j : Int)) / 2 = (m : Int) := by omega
      have mn : m < es.length := by omega
      have mi : (m : Int) < (es.length : Int) := by omega
      obtain ⟨g, off, rfl, x0, x1⟩ := (H.out.below G.out.2.2).at_ mn
      have FC := Lib.hid (fun W => findcmp_any W es[m] k (HS.out _ (List.getElem_mem mn)) HK.out)
      have wu : IntKind.u64.wrap ((i : Int) + (j : Int)) = (i : Int) + (j : Int) := by rw [IntKind.wrap_u64]; omega
      have wi : IntKind.i64.wrap (m : Int) = (m : Int) := by rw [IntKind.wrap_i64]; omega
      have BB : Hid (Below w.heap.size w wr) := G.out.2.2
      unfold enV at FC
      clear hm
      cases hc : ltB es[m].1 k with
      | true =>
        have cn : cmpB es[m].1 k < 0 := by rw [cmpB_neg hc]; decide
        have L2 := Lib.hid (low_next HR.out mn hc)
        have HI : Hid (∀ e ∈ es.drop j, ltB e.1 k = false) := G.out.2.1
        clear hc G
        generalize es[m].1 = ek at *
        generalize es[m].2 = ev at *
        generalize cmpB ek k = z at *
        go_wp2_with fail
        refine (FC.out _).mono ?_
        rintro e w5 ⟨rfl, hb5⟩
        have F : Hid (Below w.heap.size w w5) := BB.out.trans (hb5.mono BB.out.size)
        clear hb5 FC
        go_wp2_with fail
        go_roundw
        case rel => exact ⟨m + 1, j, by omega, hj, by go_num, rfl, L2.out, HI.out, F.out⟩
        case measure => simp [intOf]; omega
      | false =>
        have cn : ¬ cmpB es[m].1 k < 0 := by have := (cmpB_not hc).1; omega
        have L2 := Lib.hid (high_next HR.out mn hc)
        have LO : Hid (∀ e ∈ es.take i, ltB e.1 k = true) := G.out.1
        clear hc G
        generalize es[m].1 = ek at *
        generalize es[m].2 = ev at *
        generalize cmpB ek k = z at *
        go_wp2_with fail
        refine (FC.out _).mono ?_
        rintro e w5 ⟨rfl, hb5⟩
        have F : Hid (Below w.heap.size w w5) := BB.out.trans (hb5.mono BB.out.size)
        clear hb5 FC
        go_wp2_with fail
        go_roundw
        case rel => exact ⟨i, m, by omega, by omega, rfl, rfl, LO.out, L2.out, F.out⟩
        case measure => simp [intOf]; omega
    · obtain rfl : i = j := by omega
      have SP : Hid (Spot es k i) := ⟨hj, G.out.1, G.out.2.1⟩
      have BB : Hid (Below w.heap.size w wr) := G.out.2.2
      by_cases hn : i < es.length
      · have mi : (i : Int) < (es.length : Int) := by omega
        obtain ⟨g, off, rfl, x0, x1⟩ := (H.out.below G.out.2.2).at_ hn
        have FC := Lib.hid (fun W => findcmp_any W es[i] k (HS.out _ (List.getElem_mem hn)) HK.out)
        have hc : ltB es[i].1 k = false := G.out.2.1 _ (by rw [List.drop_eq_getElem_cons hn]; exact List.mem_cons_self)
        have E : Hid ((cmpB es[i].1 k == 0) = isAt es k i) := by
          show _ = _
          unfold isAt
          rw [List.getElem?_eq_getElem hn]
          rw [Bool.eq_iff_iff, beq_iff_eq, decide_eq_true_iff]
          exact (cmpB_not hc).2
        unfold enV at FC
        clear hc G
        generalize es[i].1 = ek at *
        generalize es[i].2 = ev at *
        generalize cmpB ek k = z at *
        go_wp2_with fail
        refine (FC.out _).mono ?_
        rintro e w5 ⟨rfl, hb5⟩
        have F : Hid (Below w.heap.size w w5) := BB.out.trans (hb5.mono BB.out.size)
        clear hb5 FC
        go_wp2_with fail
        go_ret2
        exact ⟨i, SP.out, by rw [← E.out]; rfl, F.out⟩
      · have mi : ¬ (i : Int) < (es.length : Int) := by omega
        have E : Hid (isAt es k i = false) := by
          show _ = _
          unfold isAt
          rw [List.getElem?_eq_none (by omega)]
        clear G
        go_wp2_with fail
        go_ret2
        exact ⟨i, SP.out, by rw [E.out]; rfl, BB.out⟩
end Go.Proofs.YtnogmgnbhcmajaaDoor

namespace Go.Proofs.YtnogmgnbhcmajaaDoor
open Go.RowKit Wal

set_option maxRecDepth 100000 in
theorem find_any (w : World) (level : Nat) (u : List Nat) (A : Option Addr) (c : Nat) (es : List En) (h : EAt w A es) (hr : Rises es) (hs : ∀ e ∈ es, ∀ x ∈ e.1, x < 256) (hl : es.length ≤ 100000) (k : List Nat) (hk : ∀ x ∈ k, x < 256) :
    Calls Tryd.prog 25 #[noV level A es.length c u, .string (strB k)] w fun x w' => ∃ i, Spot es k i ∧ x = .returned (.tuple #[.int .i64 (i : Nat), .bool (isAt es k i)]) ∧ Below w.heap.size w w' := by
  have BA : Hid (∀ o, Below w.heap.size w (w.alloc o)) := fun o => (Below.refl _ _).alloc (Nat.le_refl _) o
  have S := Lib.hid (fun o => search_any (w.alloc o) A c es (h.below (BA.out o)) hr hs hl k hk)
  clear h hr hs hk
  unfold noV
  go_enter Tryd.func25, Tryd.ntmps25
  go_wp2_with fail
  refine (S.out _).mono ?_
  rintro x w' ⟨i, hi, rfl, hb⟩
  have HI := Lib.hid hi
  have F : Hid (Below w.heap.size w w') := (BA.out _).trans (hb.mono (BA.out _).size)
  clear hi hb S
  go_wp2_with fail
  go_ret2
  exact ⟨i, HI.out, rfl, F.out⟩
theorem spot_lead {es : List En} {k : List Nat} {i : Nat} (s : Spot es k i) (hr : Rises es) (hne : es ≠ []) : Lead es k (if isAt es k i then i else i - 1) := by
  have le := s.le
  have up : ∀ a b (ha : a < es.length) (hb : b < es.length), a < b → ltB es[a].1 es[b].1 = true := fun a b ha hb hab => List.pairwise_iff_getElem.1 hr a b ha hb hab
  have hi0 : ∀ b (hb : b < es.length), i ≤ b → ltB es[b].1 k = false := fun b hb h => s.high _ (by
    have : es[b] = (es.drop i)[b - i]'(by rw [List.length_drop]; omega) := by
      rw [List.getElem_drop]; congr 1; omega
    rw [this]; exact List.getElem_mem _)
  have lo0 : ∀ b (hb : b < es.length), b < i → ltB es[b].1 k = true := fun b hb h => s.low _ (by
    have : es[b] = (es.take i)[b]'(by rw [List.length_take]; omega) := by rw [List.getElem_take]
    rw [this]; exact List.getElem_mem _)
  cases hc : isAt es k i with
  | true =>
    rw [if_pos rfl]
    have hlt : i < es.length := by
      rcases Nat.lt_or_ge i es.length with h | h
      · exact h
      · unfold isAt at hc; rw [List.getElem?_eq_none h] at hc; cases hc
    have hk : es[i].1 = k := by
      unfold isAt at hc
      rw [List.getElem?_eq_getElem hlt] at hc
      simpa using hc
    exact ⟨hlt, fun _ _ => by rw [hk]; exact ltB_irrefl k, fun b hb h => by rw [← hk]; exact up i b hlt hb h⟩
  | false =>
    rw [if_neg (by decide)]
    have hp := List.length_pos_iff.2 hne
    have nk : ∀ hlt : i < es.length, es[i].1 ≠ k := fun hlt e => by
      unfold isAt at hc
      rw [List.getElem?_eq_getElem hlt] at hc
      simp [e] at hc
    have gt : ∀ b (hb : b < es.length), i ≤ b → ltB k es[b].1 = true := fun b hb h => by
      have hlt : i < es.length := by omega
      have h1 : ltB k es[i].1 = true := by
        rcases ltB_total k es[i].1 with h0 | h0 | h0
        · exact h0
        · exact absurd h0.symm (nk hlt)
        · rw [hi0 i hlt (Nat.le_refl _)] at h0; cases h0
      rcases Nat.lt_or_ge i b with h2 | h2
      · exact ltB_trans h1 (up i b hlt hb h2)
      · obtain rfl : b = i := by omega
        exact h1
    refine ⟨by omega, fun h0 h => ?_, fun b hb h => ?_⟩
    · exact ltB_asymm (lo0 (i - 1) h (by omega))
    · rcases Nat.eq_zero_or_pos i with h0 | h0
      · exact gt b hb (by omega)
      · exact gt b hb (by omega)
set_option maxRecDepth 100000 in
set_option maxHeartbeats 800000 in
theorem lead_any (w : World) (level : Nat) (u : List Nat) (A : Option Addr) (c : Nat) (es : List En) (h : EAt w A es) (hr : Rises es) (hs : ∀ e ∈ es, ∀ x ∈ e.1, x < 256) (hl : es.length ≤ 100000) (hne : es ≠ []) (k : List Nat) (hk : ∀ x ∈ k, x < 256) :
    Calls Tryd.prog 47 #[noV level A es.length c u, .string (strB k)] w fun x w' => ∃ j, Lead es k j ∧ x = .returned (.int .i64 (j : Nat)) ∧ Below w.heap.size w w' := by
  have BA : Hid (∀ o, Below w.heap.size w (w.alloc o)) := fun o => (Below.refl _ _).alloc (Nat.le_refl _) o
  have S := Lib.hid (fun o => find_any (w.alloc o) level u A c es (h.below (BA.out o)) hr hs hl k hk)
  have L := Lib.hid (fun i (s : Spot es k i) => spot_lead s hr hne)
  clear h hr hs hk hne
  unfold noV at *
  go_enter Tryd.func47, Tryd.ntmps47
  go_wp2_with fail
  refine (S.out _).mono ?_
  rintro x w' ⟨i, hi, rfl, hb⟩
  have LI := Lib.hid (L.out i hi)
  have F : Hid (Below w.heap.size w w') := (BA.out _).trans (hb.mono (BA.out _).size)
  have hile := hi.le
  clear hi hb S L
  cases hc : isAt es k i with
  | true =>
    rw [hc] at LI
    clear hc
    go_wp2_with fail
    go_ret
    exact ⟨i, LI.out, rfl, F.out⟩
  | false =>
    rw [hc] at LI
    clear hc
    by_cases h0 : i = 0
    · subst h0
      go_wp2_with fail
      go_ret
      exact ⟨0, LI.out, rfl, F.out⟩
    · have n0 : ¬ (i : Int) = 0 := by omega
      have n1 : (i : Int) - 1 = ((i - 1 : Nat) : Int) := by omega
      have n2 : (1 : Int) ≤ (i : Int) := by omega
      go_wp2_with fail
      go_ret
      exact ⟨i - 1, LI.out, rfl, F.out⟩
/-- A spot as a value. -/
def spV (b lv : Nat) (f u : List Nat) : Value := .agg #[.int .i64 (b : Int), .int .i64 (lv : Int), .string (strB f), .string (strB u)]
set_option maxRecDepth 100000 in
set_option maxHeartbeats 1600000 in
theorem suits_any (w : World) (b lv : Nat) (f u : List Nat) (L : Nat) (u' : List Nat) (A : Option Addr) (c : Nat) (es : List En) (h : EAt w A es) (hs : ∀ e ∈ es, ∀ x ∈ e.1, x < 256) (hl : es.length ≤ 100000) (hp : 0 < es.length)
    (h1 : lv = 0 ∨ lv = L) (h2 : f = [] ∨ f = es[0].1) (h3 : u = [] ∨ ltB (es[es.length - 1]'(by omega)).1 u = true) (hu8 : ∀ x ∈ u, x < 256) :
    Calls Tryd.prog 56 #[spV b lv f u, noV L A es.length c u'] w fun x w' => x = .returned (.bool true) ∧ Below w.heap.size w w' := by
  have BA : Hid (∀ o o', Below w.heap.size w ((w.alloc o).alloc o')) := fun o o' => ((Below.refl _ _).alloc (Nat.le_refl _) o).alloc (by simp) o'
  have H := Lib.hid h
  have AT := fun o o' => (h.below (BA.out o o')).at_ (k := 0) hp
  have AL := fun o o' => (h.below (BA.out o o')).at_ (k := es.length - 1) (by omega)
  obtain ⟨g, off, rfl, hlt, _⟩ := h hp
  have x0 : ∀ o o', ((w.alloc o).alloc o').cell? ⟨g, off, none⟩ = some (.string (strB es[0].1)) := fun o o' => by
    obtain ⟨g', off', e, x, _⟩ := AT o o'
    cases e
    rw [Nat.zero_mul, Nat.add_zero] at x
    exact x
  have y0 : ∀ o o', ((w.alloc o).alloc o').cell? ⟨g, off + (es.length - 1) * 2, none⟩ = some (.string (strB (es[es.length - 1]'(by omega)).1)) := fun o o' => by
    obtain ⟨g', off', e, x, _⟩ := AL o o'
    cases e
    exact x
  have e1 : ∀ a : List Nat, ((strB a).toList == (strB a).toList) = true := fun a => by simp
  have E3 : u = [] ∨ (u ≠ [] ∧ Go.Op.bytesLess (strB (es[es.length - 1]'(by omega)).1).toList (strB u).toList = true) := by
    by_cases hu : u = []
    · exact .inl hu
    · refine .inr ⟨hu, ?_⟩
      rcases h3 with h3 | h3
      · exact absurd h3 hu
      · rw [less_strB (hs _ (List.getElem_mem _)) hu8]; exact h3
  obtain ⟨kl, hkl⟩ : ∃ kl, kl = (es[es.length - 1]'(by omega)).1 := ⟨_, rfl⟩
  obtain ⟨k0, hk0⟩ : ∃ k0, k0 = es[0].1 := ⟨_, rfl⟩
  rw [← hkl] at y0 E3
  rw [← hk0] at x0 h2
  have FIN : Hid (∀ o o' q r, Below w.heap.size w ((((w.alloc o).alloc o').drewN q).drewN r)) := fun o o' q r => by
    have := BA.out o o'
    exact ⟨this.os, this.tape, this.output, this.size, this.block⟩
  obtain ⟨n, hn⟩ : ∃ n, n = es.length := ⟨_, rfl⟩
  rw [← hn] at y0 hp hl ⊢
  clear AT AL hs h3 hu8 H hkl hk0 hn
  have i1 : (n : Int) - 1 = ((n - 1 : Nat) : Int) := by omega
  have i2 : (0 : Int) < (n : Int) := by omega
  have i3 : n - 1 < n := by omega
  have H1 : lv = 0 ∨ (lv = L ∧ (L : Int) ≠ 0) := by
    rcases h1 with h1 | h1
    · exact .inl h1
    · by_cases h0 : lv = 0
      · exact .inl h0
      · exact .inr ⟨h1, by omega⟩
  have H2 : f = [] ∨ (f = k0 ∧ (strB k0).toList.isEmpty = false) := by
    rcases h2 with h2 | h2
    · exact .inl h2
    · by_cases h0 : f = []
      · exact .inl h0
      · exact .inr ⟨h2, strB_some (List.length_pos_iff.2 (by rw [← h2]; exact h0))⟩
  have H3 : u = [] ∨ ((strB u).toList.isEmpty = false ∧ Go.Op.bytesLess (strB kl).toList (strB u).toList = true) := by
    rcases E3 with h | ⟨h, h'⟩
    · exact .inl h
    · exact .inr ⟨strB_some (List.length_pos_iff.2 h), h'⟩
  clear h1 h2 E3
  unfold spV noV
  rcases H1 with rfl | ⟨rfl, l1⟩ <;> rcases H2 with rfl | ⟨rfl, l2⟩ <;> rcases H3 with rfl | ⟨l3, l4⟩
  all_goals
    try simp only [strB_nil]
    go_enter Tryd.func56, Tryd.ntmps56
    go_upto_region 3 with fail
    go_quiet (fail)
    go_upto_region 5 with fail
    go_quiet (fail)
    go_wp2_with fail
    go_ret
    exact ⟨rfl, FIN.out _ _ _ _⟩
end Go.Proofs.YtnogmgnbhcmajaaDoor
