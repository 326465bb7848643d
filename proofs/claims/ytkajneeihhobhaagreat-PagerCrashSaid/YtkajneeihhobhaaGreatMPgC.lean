/-
  pager: the keys of a map of blocks, sorted; how many they are. · pager: the keys of a map of blocks, sorted, as the program asks for them (maps.Keys, slices.Sorted). · pager: maps.Copy at maps of blocks. · pager: the contracts of end, Abort, Dirty, Done, Synced; a map of blocks that is cleared; len of one. · pager: the contracts of pack and batch.
-/
import Derived.Test.YtkajneeihhobhaaGreatMPgM
import Derived.Lib.SlKeysI
import Derived.Test.YtkajneeihhobhaaGreatLaid
import Derived.Maps.RangeWalk
import Derived.Lib.SlMapMerge
import Derived.Test.YtkajneeihhobhaaGreatMReadB
import Derived.Test.YtkajneeihhobhaaGreatMRows
namespace Go.Proofs.YtkajneeihhobhaaGreat
open Go.RowKit Go.Maps Wal

namespace Pgr
theorem dirt_rise (N : Nat) (g : Com) : (dirt N g).Pairwise (· < ·) := List.Pairwise.filter _ List.pairwise_lt_range
/-- The numbers of the blocks, as ints. -/
def dirtI (N : Nat) (g : Com) : List Int := (dirt N g).map fun b => ((b : Nat) : Int)
theorem dirtI_length (N : Nat) (g : Com) : (dirtI N g).length = (dirt N g).length := by simp [dirtI]
end Pgr
open Pgr
theorem Tells4.perm {es : List (Lit × DataW Unit)} {N : Nat} {g : Nat → Option (List Nat)} (t : Tells4 es N g) : (dirtI N g).Perm (intKeys (DataW.map es)) := by
  refine perm_intKeys t.apart (fun p hp => ?_) ?_ fun x => ?_
  · obtain ⟨k, _, _, _, _, rfl⟩ := t.at_ p hp
    exact ⟨k, rfl⟩
  · exact List.pairwise_map.2 ((dirt_rise N g).imp fun {a b} h => by omega)
  · unfold dirtI
    rw [List.mem_map]
    constructor
    · rintro ⟨k, hk, rfl⟩
      exact (t.has k).trans (mem_dirt.1 hk).2
    · intro h
      rw [has_eq, List.any_eq_true] at h
      obtain ⟨p, hp, h2⟩ := h
      obtain ⟨k, l, hk, _, hg, rfl⟩ := t.at_ p hp
      refine ⟨k, mem_dirt.2 ⟨hk, by rw [hg]; rfl⟩, ?_⟩
      have h3 : (keyN k).sameKey (.int .i64 x) = true := h2
      unfold keyN Lit.sameKey at h3
      have := (of_decide_eq_true h3).2
      omega
theorem Tells4.count {es : List (Lit × DataW Unit)} {N : Nat} {g : Nat → Option (List Nat)} (t : Tells4 es N g) : es.length = (dirt N g).length := by
  have h := t.perm.length_eq
  rw [dirtI_length] at h
  rw [h]
  show _ = (es.map _).length
  rw [List.length_map]
theorem keys_sorted {es : List (Lit × DataW Unit)} {N : Nat} {g : Nat → Option (List Nat)} (t : Tells4 es N g) {ss : List Int} (h : ss.Perm (intKeys (DataW.map es))) : ss.mergeSort (fun x y => decide (x ≤ y)) = dirtI N g := by
  have e := mergeSort_of_perm_i (h.trans t.perm.symm)
  refine e.trans (List.mergeSort_of_pairwise ?_)
  refine List.pairwise_map.2 ((dirt_rise N g).imp fun {a b} h => ?_)
  simp only [leI, decide_eq_true_eq]
  omega
theorem MapAt.len {w : World} {b N : Nat} {f : Nat → Option (List Nat)} (h : MapAt w b N f) (ty : TypeId) : (Builtin.len_ #[87] ty #[.map (some b)]).run Tryz.prog w = .ok (.int .i64 ((dirt N f).length : Nat)) w := by
  obtain ⟨es, ho, t⟩ := h
  have h1 := ho.len Tryz.underlying87 ty
  rw [show Maps.size (DataW.map es : DataW Unit) = ((dirt N f).length : Int) from by rw [← t.count]; rfl] at h1
  exact h1
end Go.Proofs.YtkajneeihhobhaaGreat

namespace Go.Proofs.YtkajneeihhobhaaGreat
open Go.RowKit Go.Maps Go.Sort Go.Shelf Pgr

theorem sortsA (m : Nat) : AnyZI.SortsIn Tryz.prog Tryz.sortedA_ren Fence.wide m :=
  ⟨fun blk off cap ss W hH hblk hsz => callsIn_wide.2 (AnyM.slices_Sort_int Tryz.sortA blk off cap ss W hH hblk hsz),
   fun p cap W => callsIn_wide.2 (AnyM.slices_Sort_int_none Tryz.sortA p cap W)⟩
theorem keys_seq (mb : Option Nat) (W : World) : Calls Tryz.prog 63 #[.map mb] W fun e w' => e = .returned (.func (.func 80) #[] #[.pointer (some ⟨W.heap.size, 0, none⟩)]) ∧ w' = W.alloc (.cells #[.map mb] 87) :=
  (callsIn_wide (n := 5)).1 (AnyZI.keys_in Tryz.keysA Fence.wide 5 trivial rfl mb W)
set_option maxHeartbeats 1000000 in
theorem keys_row (w : World) (b N : Nat) (g : Nat → Option (List Nat)) (h : MapAt w b N g) (hN : N ≤ 4096) :
    Calls Tryz.prog 62 #[.func (.func 80) #[] #[.pointer (some ⟨w.heap.size, 0, none⟩)]] (w.alloc (.cells #[.map (some b)] 87))
      fun e w' => ∃ v, e = .returned v ∧ w'.ownsRow w.heap.size 3 1 v (dirt N g).length ((dirtI N g).map encZ) ∧ Below w.heap.size w w' := by
  obtain ⟨es, hown, ht⟩ := h
  have hbl := hown.lt
  have hsz : Maps.size (DataW.map es : DataW Unit) ≤ 4096 := by
    have h1 := ht.size
    show es.length ≤ 4096
    omega
  have hseq : SeqGives Fence.wide 2 Tryz.prog 80 #[.pointer (some ⟨w.heap.size, 0, none⟩)] encZ (fun ss => ss.Perm (intKeys (DataW.map es))) (Maps.size (DataW.map es : DataW Unit)) (w.alloc (.cells #[.map (some b)] 87)) :=
    AnyZI.keys_gives (ρ := Tryz.keysA_ren) { Tryz.keysA with } Fence.wide _ trivial rfl (by omega) w.heap.size b N (DataW.map es) _ (by simp) (by simp) (by
      obtain ⟨es', clock, hb, Ft, hs, hD⟩ := hown
      exact ⟨es', clock, (Below.heap_alloc _ _ b hbl).trans hb, Ft, hs, hD⟩)
  have cS := AnyZI.sorted_in Tryz.sortedA Fence.wide 5 trivial trivial trivial trivial rfl (by omega) (sortsA _) (enters_of Tryz.func79 (by kernel_rfl) rfl) 80 #[.pointer (some ⟨w.heap.size, 0, none⟩)] trivial (enters_of Tryz.func80 (by kernel_rfl) rfl) _ _ (by unfold maxLen; omega) (by omega) _ hseq
  change CallsIn _ _ Tryz.prog 62 _ _ _ at cS
  refine ((callsIn_wide (n := 5)).1 cS).mono ?_
  rintro e w' ⟨v, ss, rfl, hS, hrow, _, hb⟩
  have e1 := keys_sorted ht hS
  have e2 : ss.length = (dirt N g).length := by
    have h1 := (hS.trans ht.perm.symm).length_eq
    rw [h1, dirtI_length]
  rw [e2] at hrow
  have e3 : (ss.mergeSort (fun x y => decide (x ≤ y))).map encZ = (dirtI N g).map encZ := by rw [e1]
  rw [e3] at hrow
  exact ⟨v, rfl, ownsRow_base_a hrow (by simp), ((Below.refl _ w).alloc (Nat.le_refl _) _).trans (hb.mono (by simp))⟩
end Go.Proofs.YtkajneeihhobhaaGreat

namespace Go.Proofs.YtkajneeihhobhaaGreat
open Go.RowKit Go.Maps Wal

/-- What a map of f reads as when the entries of g that are no longer to come have been laid into it. -/
def mix (left : Lit → Bool) (g f : Nat → Option (List Nat)) : Nat → Option (List Nat) := fun b => if left (keyN b) = true then f b else (g b).or (f b)
theorem mix_start {es : List (Lit × DataW Unit)} {N : Nat} {g : Nat → Option (List Nat)} (t : Tells4 es N g) (f : Nat → Option (List Nat)) : mix (Maps.has (.map es)) g f = f := by
  funext b
  unfold mix
  rw [t.has]
  cases g b <;> simp
theorem mix_end {left : Lit → Bool} (h : ∀ kl, left kl = false) (g f : Nat → Option (List Nat)) : mix left g f = fun b => (g b).or (f b) := by
  funext b
  unfold mix
  rw [h]
  simp
theorem mix_step {left : Lit → Bool} {g f : Nat → Option (List Nat)} {k : Nat} {l : List Nat} (h : g k = some l) : upd (mix left g f) k l = mix (fun z => left z && !z.sameKey (keyN k)) g f := by
  funext b
  unfold upd mix
  dsimp only
  simp only [sameKey_keyN]
  by_cases hb : b = k
  · subst hb
    rw [if_pos rfl, h]
    simp
  · rw [if_neg hb]
    simp [hb]
/-- An entry that comes is one of what the map tells. -/
theorem Tells4.came {es : List (Lit × DataW Unit)} {N : Nat} {g : Nat → Option (List Nat)} (t : Tells4 es N g) {x : Int} {l : List Nat} (hat : ∀ zd, (DataW.map es).atKey (.int .i64 x) zd = blkD l) : ∃ k : Nat, x = (k : Int) ∧ k < N ∧ g k = some l ∧ Blk l := by
  have h1 := has_true_of_atKey hat
  rw [has_eq, List.any_eq_true] at h1
  obtain ⟨p, hp, h2⟩ := h1
  obtain ⟨k, l', hk, hl, hg, rfl⟩ := t.at_ p hp
  have hx : x = (k : Int) := by
    have h3 : (keyN k).sameKey (.int .i64 x) = true := h2
    unfold keyN Lit.sameKey at h3
    have := (of_decide_eq_true h3).2
    omega
  subst hx
  have h4 := hat (blkD l')
  rw [show (Lit.int .i64 (k : Int)) = keyN k from rfl, t.atKey, hg] at h4
  have := blkD_inj h4
  subst this
  exact ⟨k, rfl, hk, hg, hl⟩

set_option maxHeartbeats 4000000 in
set_option maxRecDepth 100000 in
theorem pcopy_any (w : World) (bd bs N : Nat) (f g : Nat → Option (List Nat)) (hd : MapAt w bd N f) (hs : MapAt w bs N g) (hne : bd ≠ bs) (hN : N < 4097) :
    Calls Tryz.prog 47 #[.map (some bd), .map (some bs)] w fun e w' => e = .returned (.tuple #[]) ∧ MapAt w' bd N (fun b => (g b).or (f b)) ∧ Only [bd] w w' := by
  obtain ⟨es, hso, ht⟩ := hs
  have hbd := hd.lt
  have hbs := hso.lt
  have HT := Lib.hid ht
  have HD := Lib.hid hd
  obtain ⟨hz, hi⟩ := zero_of_info zeroBlk
  unfold blkV at hz
  clear hd ht hi
  go_enter Tryz.func47, Tryz.ntmps47
  go_wp2_with (first
    | (at_range; refine wpList_range_own _ rfl _ 87 rfl 3 99 lawI Tryz.underlying87 blkElem bs N _ rfl hso ?_; intro w0 hrg0 hg0 hs0)
    | go_in)
  go_frame
  obtain ⟨r, hr⟩ : ∃ r, r = w.heap.size := ⟨_, rfl⟩
  rw [← hr] at hrg0 ⊢
  have HR : Hid (r = w.heap.size) := hr
  have S0 : Hid (w0.ranges Tryz.prog 3 blkElem bs r N (.map es) (Maps.has (.map es)) (Maps.size (.map es : DataW Unit)) ∧ MapAt w0 bd N f ∧ Only [bd] w w0) := ⟨hrg0, HD.out.only ((Only.refl [] w).grown hg0 (by simp)) (by simp), (Only.refl [bd] w).grown hg0 (by simp)⟩
  clear hrg0 hg0 hs0 hso HD hr
  go_loopw [4, 5, 8] (fun _ _ _ wr => ∃ (left : Lit → Bool) (cnt : Nat), wr.ranges Tryz.prog 3 blkElem bs r N (.map es) left cnt ∧ MapAt wr bd N (mix left g f) ∧ Only [bd] w wr)
    (fun _ _ _ wr => wr.rangeLeft bs r)
  case atStart =>
    exact ⟨_, _, S0.out.1, by rw [mix_start HT.out]; exact S0.out.2.1, S0.out.2.2⟩
  case round =>
    clear S0
    obtain ⟨left, cnt, hrg, hM, hO⟩ := hrel
    have M := Lib.hid hM
    have O := Lib.hid hO
    have RG := Lib.hid hrg
    clear hM hO
    go_wp2_with (first
      | (at_next; refine wpList_next_ranges _ rfl _ rfl 3 lawI blkElem (fun x : Int => .int .i64 x) blkV (fun key kl hk => by obtain ⟨x, rfl, _⟩ := Maps.keyOf_int_inv Tryz.underlying3 hk; exact ⟨x, rfl⟩) (fun v y hv => by obtain ⟨l, _, rfl, _⟩ := blkElem_inv hv; exact ⟨l, rfl⟩) bs r N _ _ _ rfl hrg ?_ ?_)
      | go_in)
    · intro hc0 hl0
      clear hrg
      have E := Lib.hid (mix_end hl0 g f)
      clear hl0 hc0
      go_wp2
      go_end0
      refine ⟨rfl, ?_, O.out⟩
      have := M.out
      rwa [E.out] at this
    · intro x l kl yd yp w1 cnt1 hkey hlx hv hat hrg1 hlt hg1 hs1 hen
      obtain ⟨x', e1, rfl, _⟩ := Maps.keyOf_int_inv Tryz.underlying3 hkey
      injection e1 with _ e1
      subst e1
      obtain ⟨l', _, e2, e4⟩ := blkElem_inv hv
      injection e4 with e4 e5
      subst e4 e5
      have e3 := blkV_inj e2
      subst e3
      obtain ⟨k, rfl, hk, hg, hl⟩ := HT.out.came hat
      have hne2 : r ≠ bd := by have := HR.out; omega
      have o1 : Only [r] wr w1 := (Only.refl [r] wr).grown hg1 (fun j hj => .inl (by injection hj with hj; simp [hj]))
      have M1 : Hid (MapAt w1 bd N (mix left g f)) := M.out.only o1 (by simpa using hne2.symm)
      have O1 : Hid (Only [bd] w w1) := O.out.trans o1 (fun j hj => .inr (by have := HR.out; simp at hj; omega))
      have RG1 := Lib.hid hrg1
      have LT := Lib.hid hlt
      have hs := store_blk w1 l hl
      have hsz : Hid ((Tryz.prog.info? 99).map (·.size) = some (l.map u8v).length) := by show _ = _; rw [List.length_map, hl.len]; exact (zero_of_info zeroBlk).2
      have ld : (w1.alloc (.cells (l.map u8v).toArray 99)).rangeAt w1.heap.size 0 (l.map u8v) := fun j v hv => by
        rw [Nat.zero_add, (Held.new w1 99 (l.map u8v).toArray rfl).cell]
        simpa using hv
      have hlen := hl.len
      have ho2 : Only [bd] w1 (w1.alloc (.cells (l.map u8v).toArray 99)) := (Only.refl [bd] w1).alloc _
      obtain ⟨w3, hr3, hM3, hO3⟩ := (M1.out.only ((Only.refl [] w1).alloc (.cells (l.map u8v).toArray 99)) (by simp)).store hN hk hl
      have ES := Lib.hid (mix_step (left := left) (f := f) hg)
      have R3 : Hid (w3.ranges Tryz.prog 3 blkElem bs r N (.map es) (fun z => left z && !z.sameKey (keyN k)) cnt1 ∧ MapAt w3 bd N (mix (fun z => left z && !z.sameKey (keyN k)) g f) ∧ Only [bd] w w3) := by
        refine ⟨?_, by rw [← ES.out]; exact hM3, (O1.out.trans ho2 (fun j hj => .inl hj)).trans hO3 (fun j hj => .inl hj)⟩
        have hk3 : Only [bd] w1 w3 := ho2.trans hO3 (fun j hj => .inl hj)
        have g3 : w1.grownBy w3 (some bd) := ⟨hk3.os, hk3.tape, hk3.output, hk3.size, fun k hk hn => hk3.block k hk (fun hm => hn (by simp at hm; simp [hm]))⟩
        exact hrg1.kept g3 (fun e => hne (Option.some.inj e).symm) (fun e => hne2 (Option.some.inj e))
      clear hM3 hO3 ho2 o1 hat hv e2 hkey hlx hg hrg hrg1 hlt hg1 M O M1 O1 hs1
      unfold blkV at hen hr3 ⊢
      go_upto_region 3 with fail
      obtain ⟨q, hq⟩ : ∃ q, q = w1.heap.size := ⟨_, rfl⟩
      obtain ⟨w2, hw2⟩ : ∃ w2, w2 = w1.alloc (.cells (l.map u8v).toArray 99) := ⟨_, rfl⟩
      rw [← hw2, ← hq] at ld ⊢
      rw [← hw2] at hr3
      clear hw2 hq hs hen
      go_wp2_with fail
      refine wp_load_mid _ _ rfl q 0 rfl (l.map u8v) _ ld Tryz.underlying99 rfl hsz.out ?_
      go_wp2_with fail
      go_roundw
      case rel => exact ⟨_, cnt1, R3.out.1, R3.out.2.1, R3.out.2.2⟩
      case measure => rw [R3.out.1.left_eq, RG.out.left_eq]; exact LT.out
end Go.Proofs.YtkajneeihhobhaaGreat

namespace Go.Proofs.YtkajneeihhobhaaGreat
open Go.RowKit Go.Maps Wal Pgr

theorem MapAt.clear {w : World} {b N : Nat} {f : Nat → Option (List Nat)} (h : MapAt w b N f) : ∃ w', (∀ ty, (Builtin.clear_ #[87] ty #[.map (some b)]).run Tryz.prog w = .ok (.tuple #[]) w') ∧ MapAt w' b N (fun _ => none) ∧ Only [b] w w' := by
  obtain ⟨es, ⟨e, c, hh, F, hs, hD⟩, t⟩ := h
  have hb : b < w.heap.size := (Array.getElem?_eq_some_iff.1 hh).1
  refine ⟨{ w with heap := w.heap.setIfInBounds b (.map #[] c) }, ?_, ⟨[], ⟨#[], c, ?_, ⟨by simp, MapKept.stamped_empty c, by simp⟩, Nat.zero_le _, rfl⟩, List.Pairwise.nil, (fun p hp => by cases hp), (fun k l h => by cases h)⟩, ?_⟩
  · intro ty
    simp [Builtin.clear_, run_underlying Tryz.underlying87, MapKept.run_getObj_map hh, MapKept.run_setObj_map _ hh, Result.andThen]
  · simp [hb]
  · exact ⟨rfl, rfl, rfl, by simp, fun k _ hk => by
      have : b ≠ k := fun e => hk (by simp [e])
      simp [Array.getElem?_setIfInBounds_ne this]⟩

/-- A transaction that is open no more. -/
structure TxEnd (w : World) (P : PS) (t : Nat) : Prop where
  held : Held w t 91 #[.pointer (some ⟨P.p, 0, none⟩), .map none]
  ne : t ≠ P.p
set_option maxRecDepth 100000 in
theorem end_any (w : World) (P : PS) (t tm : Nat) (g : Nat → Option (List Nat)) (h : PagAt w P (.pointer (some ⟨t, 0, none⟩))) (k : TxAt w P t tm g) :
    Calls Tryz.prog 43 #[.pointer (some ⟨t, 0, none⟩)] w fun e w' => e = .returned (.tuple #[]) ∧ PagAt w' P (.pointer none) ∧ TxEnd w' P t ∧ Only [P.p, t] w w' := by
  have t0 : w.cell? ⟨t, 0, none⟩ = some (.pointer (some ⟨P.p, 0, none⟩)) := k.held.cell 0
  have c4 : w.cell? ⟨P.p, 4, none⟩ = some (.pointer (some ⟨t, 0, none⟩)) := h.held.cell 4
  have z4 := h.held.frozen 4
  have O1 : Hid (Only [P.p] w (w.setCell ⟨P.p, 4, none⟩ (.pointer none))) := (Only.refl _ w).setCell (.inl (by simp)) _
  have P1 := Lib.hid (h.setTx (.pointer none))
  have T1 := Lib.hid (k.only O1.out (by simpa using k.ne.1) (by simpa using k.ne.2.2.2.1))
  clear h k
  go_enter Tryz.func43, Tryz.ntmps43
  go_upto_region 1 with fail
  generalize w.setCell ⟨P.p, 4, none⟩ (.pointer none) = w1 at *
  have t1 : w1.cell? ⟨t, 1, none⟩ = some (.map (some tm)) := T1.out.held.cell 1
  have y1 := T1.out.held.frozen 1
  have o2 : Only [t] w1 (w1.setCell ⟨t, 1, none⟩ (.map none)) := (Only.refl _ w1).setCell (.inl (by simp)) _
  have R : Hid (PagAt (w1.setCell ⟨t, 1, none⟩ (.map none)) P (.pointer none) ∧ TxEnd (w1.setCell ⟨t, 1, none⟩ (.map none)) P t ∧ Only [P.p, t] w (w1.setCell ⟨t, 1, none⟩ (.map none))) := by
    have hn := T1.out.ne
    have hf := T1.out.tfar
    refine ⟨P1.out.only o2 (by simpa using hn.1.symm) (by simpa using hn.2.1.symm) (fun x hx => by simp only [List.mem_singleton]; rintro rfl; exact hf hx), ⟨T1.out.held.set_ 1 (.map none), hn.1⟩, (O1.out.mono (G := [P.p, t]) (fun x hx => .inl (by simp at hx; simp [hx]))).trans o2 (fun x hx => .inl (by simp at hx; simp [hx]))⟩
  clear T1 P1 O1 o2 t0 c4 z4
  go_wp2_with fail
  go_end0
  exact ⟨rfl, R.out⟩
set_option maxRecDepth 100000 in
theorem abort_any (w : World) (P : PS) (t tm : Nat) (g : Nat → Option (List Nat)) (h : PagAt w P (.pointer (some ⟨t, 0, none⟩))) (k : TxAt w P t tm g) :
    Calls Tryz.prog 18 #[.pointer (some ⟨t, 0, none⟩)] w fun e w' => e = .returned (.tuple #[]) ∧ PagAt w' P (.pointer none) ∧ TxEnd w' P t ∧ Only [P.p, t] w w' := by
  have O := Lib.hid (isOpen_yes w P t tm g h k)
  have E := Lib.hid (end_any w P t tm g h k)
  clear h k
  go_enter Tryz.func18, Tryz.ntmps18
  go_wp2_with fail
  refine O.out.mono ?_
  rintro e w' ⟨rfl, rfl⟩
  go_wp2_with fail
  refine E.out.mono ?_
  rintro e w' ⟨rfl, h1, h2, h3⟩
  have R : Hid (PagAt w' P (.pointer none) ∧ TxEnd w' P t ∧ Only [P.p, t] w w') := ⟨h1, h2, h3⟩
  clear h1 h2 h3
  go_wp2_with fail
  go_end0
  exact ⟨rfl, R.out⟩
set_option maxRecDepth 100000 in
theorem dirty_any (w : World) (P : PS) (t tm : Nat) (g : Nat → Option (List Nat)) (h : PagAt w P (.pointer (some ⟨t, 0, none⟩))) (k : TxAt w P t tm g) :
    Calls Tryz.prog 23 #[.pointer (some ⟨t, 0, none⟩)] w fun e w' => e = .returned (.int .i64 ((dirt P.N g).length : Nat)) ∧ w = w' := by
  have O := Lib.hid (isOpen_yes w P t tm g h k)
  have t1 : w.cell? ⟨t, 1, none⟩ = some (.map (some tm)) := k.held.cell 1
  have ln := fun ty => k.dirty.len ty
  clear h k
  go_enter Tryz.func23, Tryz.ntmps23
  go_wp2_with fail
  refine O.out.mono ?_
  rintro e w' ⟨rfl, rfl⟩
  go_wp2_with fail
  go_ret
  exact ⟨rfl, rfl⟩
/-- A transaction that has ended, another one open or none. -/
theorem eq_tx_none (w : World) (t : Nat) : (binOp .eql 37 (.pointer none) (.pointer (some ⟨t, 0, none⟩))).run Tryz.prog w = .ok (.bool false) w := by
  have h : ∀ d : Nat, (Op.equalIn (d + 1) 37 (.pointer none) (.pointer (some ⟨t, 0, none⟩))).run Tryz.prog w = .ok false w := fun d => by
    simp [Op.equalIn, run_underlying Tryz.underlying37]
  simp only [binOp]
  simp [Op.equal, Op.maxDepth, h 9999]
set_option maxRecDepth 100000 in
theorem isOpen_no (w : World) (P : PS) (t : Nat) (h : PagAt w P (.pointer none)) (k : TxEnd w P t) :
    Calls Tryz.prog 48 #[.pointer (some ⟨t, 0, none⟩)] w fun e w' => e = .returned (.bool false) ∧ w = w' := by
  have c4 : w.cell? ⟨P.p, 4, none⟩ = some (.pointer none) := h.held.cell 4
  have t0 : w.cell? ⟨t, 0, none⟩ = some (.pointer (some ⟨P.p, 0, none⟩)) := k.held.cell 0
  have heq := eq_tx_none w t
  clear h k
  go_enter Tryz.func48, Tryz.ntmps48
  go_wp2_with fail
  go_ret
  exact ⟨rfl, rfl⟩
set_option maxRecDepth 100000 in
theorem dirty_ended (w : World) (P : PS) (t : Nat) (h : PagAt w P (.pointer none)) (k : TxEnd w P t) :
    Calls Tryz.prog 23 #[.pointer (some ⟨t, 0, none⟩)] w fun e w' => e = .returned (.int .i64 0) ∧ w = w' := by
  have O := Lib.hid (isOpen_no w P t h k)
  clear h k
  go_enter Tryz.func23, Tryz.ntmps23
  go_wp2_with fail
  refine O.out.mono ?_
  rintro e w' ⟨rfl, rfl⟩
  go_wp2_with fail
  go_ret
  exact ⟨rfl, rfl⟩
set_option maxRecDepth 100000 in
theorem psynced_any (w : World) (P : PS) (tx : Value) (h : PagAt w P tx) :
    Calls Tryz.prog 20 #[.pointer (some ⟨P.p, 0, none⟩)] w fun e w' => e = .returned (.int .i64 (P.s.synced : Nat)) ∧ w = w' := by
  have c1 : w.cell? ⟨P.p, 1, none⟩ = some (.pointer (some ⟨P.lb, 0, none⟩)) := h.held.cell 1
  obtain ⟨vn, hl, _⟩ := h.log.log
  have L := Lib.hid (synced_any w P.lb P.d vn P.s hl)
  clear h hl
  go_enter Tryz.func20, Tryz.ntmps20
  go_wp2_with fail
  refine L.out.mono ?_
  rintro e w' ⟨rfl, rfl⟩
  go_wp2_with fail
  go_ret
  exact ⟨rfl, rfl⟩
end Go.Proofs.YtkajneeihhobhaaGreat

namespace Go.Proofs.YtkajneeihhobhaaGreat
open Go.RowKit Go.Maps Wal Pgr

theorem MapAt.look1 {w : World} {b N : Nat} {f : Nat → Option (List Nat)} (h : MapAt w b N f) (k : Nat) (hk : k ≤ 9223372036854775807) :
    (Instr.lookup 87 (.map (some b)) (.int .i64 (k : Int)) false).run Tryz.prog w = .ok (blkV ((f k).getD (Go.Proofs.YtkajneeihhobhaaGreat.sec []))) w := by
  obtain ⟨es, ho, t⟩ := h
  obtain ⟨hz, _⟩ := zero_of_info zeroBlk
  obtain ⟨v, ps, hr, hv⟩ := ho.lookup lawI Tryz.underlying87 (hz w) (blkElem_mk Blk.zero) (keyOf_int_mk (P := Tryz.prog) Tryz.underlying3 (wf_key hk))
  rw [show (Lit.int .i64 (k : Int)) = keyN k from rfl, t.atKey] at hv
  obtain ⟨l, hl, rfl, h1⟩ := blkElem_inv hv
  simp only [Prod.mk.injEq] at h1
  rw [← blkD_inj h1.1] at hr
  exact hr

theorem num4 (b : Nat) : num 4 b = [b % 256, b / 256 % 256, b / 65536 % 256, b / 16777216 % 256] := by
  simp only [num, Nat.div_div_eq_div_mul]
theorem strB_app (a b : List Nat) : strB (a ++ b) = strB a ++ strB b := by
  apply ByteArray.ext
  rw [ByteArray.data_append]
  apply Array.toList_inj.1
  rw [Array.toList_append]
  unfold strB
  rw [List.map_append, strOfNums_data, strOfNums_data, strOfNums_data, List.map_append]
theorem num4V (b : Nat) (hb : b ≤ 4096) : #[Value.int .u8 ((b : Int) % 256), .int .u8 ((b : Int) / 256), .int .u8 ((b : Int) / 65536), .int .u8 ((b : Int) / 16777216)] = ((num 4 b).map u8v).toArray := by
  have a1 : b / 256 % 256 = b / 256 := by omega
  have a2 : b / 65536 % 256 = b / 65536 := by omega
  have a3 : b / 16777216 % 256 = b / 16777216 := by omega
  have c0 : ((b % 256 : Nat) : Int) = (b : Int) % 256 := by omega
  have c1 : ((b / 256 : Nat) : Int) = (b : Int) / 256 := by omega
  have c2 : ((b / 65536 : Nat) : Int) = (b : Int) / 65536 := by omega
  have c3 : ((b / 16777216 : Nat) : Int) = (b : Int) / 16777216 := by omega
  rw [num4, a1, a2, a3, List.map_cons, List.map_cons, List.map_cons, List.map_cons, List.map_nil]
  unfold u8v
  rw [c0, c1, c2, c3]
set_option maxRecDepth 100000 in
set_option maxHeartbeats 1600000 in
theorem ppack_any (w : World) (b : Nat) (l : List Nat) (hb : b ≤ 4096) (hl : Blk l) :
    Calls Tryz.prog 64 #[.int .i64 (b : Int), blkV l] w fun e w' => e = .returned (strV (recB b l)) ∧ Below w.heap.size w w' := by
  unfold blkV
  have hb4 : (b : Int) ≤ 4096 := by omega
  have hlen := hl.len
  have HL := Lib.hid hl
  clear hl
  go_enter Tryz.func64, Tryz.ntmps64
  go_upto_region 2 with fail
  obtain ⟨w2, hw2⟩ : ∃ w2, w2 = (w.alloc (.cells (l.map u8v).toArray 99)).alloc (.cells #[.int .u8 ((b : Int) % 256), .int .u8 ((b : Int) / 256), .int .u8 ((b : Int) / 65536), .int .u8 ((b : Int) / 16777216)] 150) := ⟨_, rfl⟩
  obtain ⟨q1, hq1⟩ : ∃ q1, q1 = w.heap.size := ⟨_, rfl⟩
  obtain ⟨q2, hq2⟩ : ∃ q2, q2 = w.heap.size + 1 := ⟨_, rfl⟩
  have BW : Hid (Below w.heap.size w w2) := by rw [hw2]; exact ((Below.refl _ _).alloc (Nat.le_refl _) _).alloc (by simp) _
  have Q1 : Held w2 q1 99 (l.map u8v).toArray := by rw [hw2]; exact (Held.new w _ _ hq1).alloc _
  have e4 := num4V b hb
  have Q2 : Held w2 q2 150 ((num 4 b).map u8v).toArray := by rw [hw2, e4]; exact Held.new _ _ _ (by simp [hq2])
  have B1 : Bts w2 (some ⟨q1, 0, none⟩) 512 l := Q1.bts HL.out
  have B2 : Bts w2 (some ⟨q2, 0, none⟩) 4 (num 4 b) := by
    refine ⟨num_length _ _, num_bytes _ _, fun _ => ⟨q2, 0, rfl, Q2.lt, fun i hi => ?_⟩⟩
    rw [Nat.zero_add, Q2.cell]
    simp only [List.getElem?_toArray, List.getElem?_map, List.getD_eq_getElem?_getD]
    rw [List.getElem?_eq_getElem (by rw [num_length]; exact hi)]
    rfl
  have hcv1 : (convert 56 9 (.slice (some ⟨q1, 0, none⟩) 512 512)).run Tryz.prog w2.drew = .ok (.string (strB l)) w2.drew := (B1.drewN 1).toStr byteT Tryz.underlying9 512
  have hcv2 : (convert 56 9 (.slice (some ⟨q2, 0, none⟩) 4 4)).run Tryz.prog w2.drew = .ok (.string (strB (num 4 b))) w2.drew := (B2.drewN 1).toStr byteT Tryz.underlying9 4
  have h9 : ¬ 9223372036854775807 < (strB (num 4 b)).size + (strB l).size := by
    rw [strB_size, strB_size, num_length, hlen]
    omega
  rw [← hw2, ← hq2, ← hq1]
  clear hw2 hq1 hq2 Q1 Q2 B1 B2 e4
  go_region
  go_wp2_with fail
  go_ret
  refine ⟨?_, BW.out.drew⟩
  show Ending.returned (Value.string (strB (num 4 b) ++ strB l)) = _
  unfold strV recB
  rw [strB_app]
/-- A row of the call's own was appended to. -/
theorem prow_grown {w0 w w' : World} {base : Nat} {e : TypeId} {size n : Nat} {v : Value} {xs : List Value} (h : w.ownsRow base e size v n xs) (hb : Below base w0 w) (hg : w.grownBy w' v.ownBlock) (hB : base ≤ w.heap.size) : Below base w0 w' :=
  ⟨hg.os.trans hb.os, hg.tape.trans hb.tape, hg.output.trans hb.output, Nat.le_trans hb.size hg.size, fun k hk => (hg.block k (Nat.lt_of_lt_of_le hk hB) (fun e => by have := (h.lt k e.symm).1; omega)).trans (hb.block k hk)⟩
/-- A row of strings of the call's own, as a slice of strings. -/
theorem pstrs_row {w : World} {base n c : Nat} {A : Option Addr} {l : List ByteArray} (h : w.ownsRow base 9 1 (.slice A n c) n (l.map Value.string)) (hs : ∀ s ∈ l, s.size ≤ 4611686018427387904) : Strs w A n l := by
  have hl : l.length = n := by have := h.1; simp at this; omega
  refine ⟨hl, hs, fun h0 => ?_⟩
  rcases h.2 with ⟨_, h1⟩ | ⟨g, cap, cur, e, hg, hh, _⟩
  · omega
  · injection e with e1 _ _
    subst e1
    refine ⟨g, 0, rfl, (Array.getElem?_eq_some_iff.1 hh).1, fun i s hi => ?_⟩
    have hil := (List.getElem?_eq_some_iff.1 hi).1
    rw [Nat.zero_add, h.cellAt i (by omega)]
    rw [List.getElem?_map, hi]
    rfl

theorem strVs_rows (N : Nat) (g : Com) : ((rows N g).map strB).map Value.string = (rows N g).map strV := by
  rw [List.map_map]
  rfl
theorem pslice {w : World} {base : Nat} {e : TypeId} {size n : Nat} {v : Value} {xs : List Value} (h : w.ownsRow base e size v n xs) : ∃ A c, v = .slice A n c := by
  rcases h.2 with ⟨rfl, rfl⟩ | ⟨g, cap, cur, rfl, _⟩
  · exact ⟨none, 0, rfl⟩
  · exact ⟨_, _, rfl⟩
/-- The batch that the open transaction's blocks are. -/
structure BatchIs (w w' : World) (N : Nat) (g : Com) (v : Value) : Prop where
  strs : ∃ A c, v = .slice A (dirt N g).length c ∧ Strs w' A (dirt N g).length ((rows N g).map strB) ∧ ∀ x, A = some x → w.heap.size ≤ x.block
  below : Below w.heap.size w w'
set_option maxRecDepth 100000 in
set_option maxHeartbeats 3200000 in
theorem pbatch_any (w : World) (P : PS) (t tm : Nat) (g : Nat → Option (List Nat)) (h : PagAt w P (.pointer (some ⟨t, 0, none⟩))) (k : TxAt w P t tm g) :
    Calls Tryz.prog 44 #[.pointer (some ⟨t, 0, none⟩)] w fun e w' => ∃ v, e = .returned v ∧ BatchIs w w' P.N g v := by
  have hmost := h.most
  have t1 : w.cell? ⟨t, 1, none⟩ = some (.map (some tm)) := k.held.cell 1
  have KS := Lib.hid (keys_seq (some tm) w)
  have KR := Lib.hid (keys_row w tm P.N g k.dirty (by omega))
  have TL : Hid (t < w.heap.size ∧ tm < w.heap.size) := ⟨k.held.lt, k.dirty.lt⟩
  have T0 := Lib.hid k.held
  have D0 := Lib.hid k.dirty
  have FI : Hid (Fine P.N g) := fun b l hb => k.dirty.blk hb
  obtain ⟨n, hn⟩ : ∃ n, n = (dirt P.N g).length := ⟨_, rfl⟩
  have hn4 : n ≤ 4096 := by have := dirt_le P.N g; omega
  have HN := Lib.hid hn
  clear h k hn
  go_enter Tryz.func44, Tryz.ntmps44
  go_wp2_with fail
  refine KS.out.mono ?_
  rintro e w1 ⟨rfl, rfl⟩
  go_wp2_with fail
  refine KR.out.mono ?_
  rintro e w2 ⟨v, rfl, hrow, hb⟩
  rw [← HN.out] at hrow
  have ROW := Lib.hid hrow
  have B2 := Lib.hid hb
  obtain ⟨A0, c0, rfl⟩ := own_slice hrow
  have k4 : (n : Int) ≤ 4096 := by omega
  clear hrow hb KS KR t1
  go_wp2_with fail
  go_loopw [3, 13] (fun bv iv wr => ∃ k, k ≤ n ∧ iv = .int .i64 (k : Nat) ∧ wr.ownsRow w.heap.size 9 1 bv k (((rows P.N g).take k).map strV) ∧ wr.ownsRow w.heap.size 3 1 (.slice A0 n c0) n ((dirtI P.N g).map encZ) ∧ Below w.heap.size w wr) (fun _ iv _ => n - (intOf iv).toNat)
  case atStart => exact ⟨0, by omega, rfl, World.ownsRow_nil _ _ _ _, ROW.out, B2.out⟩
  case round =>
    clear ROW B2
    obtain ⟨k, hk, rfl, hr1, hr2, hb⟩ := hrel
    have R1 := Lib.hid hr1
    have R2 := Lib.hid hr2
    have BW := Lib.hid hb
    have hlr : (rows P.N g).length = n := by rw [rows_length, HN.out]
    by_cases hlt : k < n
    · have hlt' : (k : Int) < (n : Int) := by omega
      obtain ⟨bk, hbk⟩ : ∃ bk, (dirt P.N g)[k]? = some bk := ⟨_, List.getElem?_eq_getElem (by rw [← HN.out]; exact hlt)⟩
      have hbN : bk < P.N := (mem_dirt.1 (List.mem_of_getElem? hbk)).1
      obtain ⟨g0, rfl⟩ : ∃ g0, A0 = some ⟨g0, 0, none⟩ := by
        rcases hr2.2 with ⟨h1, _⟩ | ⟨g', cap, cur, h1, _⟩
        · injection h1 with _ h2 _
          omega
        · injection h1 with h1 _ _
          exact ⟨g', h1⟩
      have x1 : wr.cell? ⟨g0, k, none⟩ = some (.int .i64 (bk : Int)) := by
        rw [hr2.cellAt k (by omega)]
        unfold dirtI
        rw [List.getElem?_map, List.getElem?_map, hbk]
        rfl
      have t1 : wr.cell? ⟨t, 1, none⟩ = some (.map (some tm)) := (hb.cell (p := ⟨t, 1, none⟩) TL.out.1).trans (T0.out.cell 1)
      have lk := (D0.out.only (Only.of_below (F := []) hb) (by simp)).look1 bk (by omega)
      have hbl := blk_get FI.out bk
      obtain ⟨L, hL⟩ : ∃ L, L = (g bk).getD (Go.Proofs.YtkajneeihhobhaaGreat.sec []) := ⟨_, rfl⟩
      rw [← hL] at lk
      have PK := Lib.hid (ppack_any wr bk L (by omega) (by rw [hL]; exact hbl))
      have ET : Hid ((rows P.N g).take (k + 1) = (rows P.N g).take k ++ [recB bk L]) := by
        show _ = _
        rw [List.take_add_one]
        congr 1
        show ((rows P.N g)[k]?).toList = _
        unfold rows
        rw [List.getElem?_map, hbk, hL]
        rfl
      have LTW : Hid (w.heap.size ≤ wr.heap.size) := hb.size
      unfold blkV at lk
      clear hL hbl hbk hr1 hr2 hb
      go_wp2_with fail
      refine PK.out.mono ?_
      rintro e w3 ⟨rfl, hb3⟩
      have B3 := Lib.hid (BW.out.trans (hb3.mono LTW.out))
      have R1' : Hid ((w3.alloc (.cells #[strV (recB bk L)] 9)).ownsRow w.heap.size 9 1 u3 k (((rows P.N g).take k).map strV)) := ((Only.of_below (F := []) hb3).alloc _).row R1.out (fun _ _ hx => by cases hx)
      have R2' : Hid ((w3.alloc (.cells #[strV (recB bk L)] 9)).ownsRow w.heap.size 3 1 (.slice (some ⟨g0, 0, none⟩) n c0) n ((dirtI P.N g).map encZ)) := ((Only.of_below (F := []) hb3).alloc _).row R2.out (fun _ _ hx => by cases hx)
      have QA : Hid ((w3.alloc (.cells #[strV (recB bk L)] 9)).cell? ⟨w3.heap.size, 0, none⟩ = some (strV (recB bk L))) := (Held.new w3 9 #[strV (recB bk L)] rfl).cell 0
      have LA : Hid (w.heap.size ≤ (w3.alloc (.cells #[strV (recB bk L)] 9)).heap.size) := by show _ ≤ _; rw [World.size_alloc]; have := LTW.out; have := hb3.size; omega
      clear hb3 PK R1 R2 BW x1 t1 lk
      unfold strV
      go_wp2_with (refine wpList_append_str rfl (o := ⟨some 27, _, _, _, _, _⟩) (.tmp 17) (.tmp 26) w.heap.size rfl u3 k _ rfl R1'.out w3.heap.size 1 (strB (recB bk L)) rfl QA.out (by omega) LA.out ?_; intro v6 w6 r1 r2 r3)
      have K6 : Hid (w6.ownsRow w.heap.size 3 1 (.slice (some ⟨g0, 0, none⟩) n c0) n ((dirtI P.N g).map encZ)) := ((Only.refl u3.ownBlock.toList _).grown r2 (fun k hk => .inl (by simp [hk]))).row R2'.out (fun x hx hm => rows_ne R2'.out R1'.out (by decide) x hx (by simpa using hm))
      have B6 : Hid (Below w.heap.size w w6) := prow_grown R1'.out ((B3.out).alloc (by have := LTW.out; have := B3.out.size; omega) _) r2 LA.out
      have RR : Hid (w6.ownsRow w.heap.size 9 1 v6 (k + 1) (((rows P.N g).take (k + 1)).map strV)) := by
        rw [ET.out, List.map_append]
        exact r1
      clear r1 r2 r3 R1' R2' QA LA B3
      go_wp2_with fail
      go_roundw
      case rel => exact ⟨k + 1, by omega, by go_num, RR.out, K6.out, B6.out⟩
      case measure => simp [intOf]; omega
    · obtain rfl : k = n := by omega
      have HF : Hid (BatchIs w wr P.N g u3) := by
        have h9 := R1.out
        rw [List.take_of_length_le (by omega)] at h9
        obtain ⟨A, c, rfl⟩ := pslice h9
        have h8 := h9
        rw [← strVs_rows] at h8
        refine ⟨⟨A, c, by rw [← HN.out], ?_, fun x hx => ?_⟩, BW.out⟩
        · rw [← HN.out]
          exact pstrs_row h8 (fun s hs => by
            obtain ⟨r, hr, rfl⟩ := List.mem_map.1 hs
            rw [strB_size, (rows_mem FI.out r hr).1]
            omega)
        · rcases h9.2 with ⟨h1, _⟩ | ⟨g', cap, cur, h1, hb', _⟩
          · injection h1 with h1 _ _
            rw [h1] at hx
            cases hx
          · injection h1 with h1 _ _
            rw [h1] at hx
            injection hx with hx
            rw [← hx]
            exact hb'
      go_wp2_with fail
      go_ret
      exact ⟨_, rfl, HF.out⟩
end Go.Proofs.YtkajneeihhobhaaGreat
