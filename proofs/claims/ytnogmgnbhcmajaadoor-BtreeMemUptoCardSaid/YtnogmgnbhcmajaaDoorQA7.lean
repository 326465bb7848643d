/-
  btree: entries in a row of the call's own, and anywhere. · btree: an entry's size; what entries take together; where they are cut. · btree: where entries are cut. · btree: a text taken off. · btree: what an entry may hold; is a node less than half full?
-/
import Derived.Test.YtnogmgnbhcmajaaDoorQA5
import Derived.ArgAppend
import Derived.Test.YtnogmgnbhcmajaaDoorQBase
namespace Go.Proofs.YtnogmgnbhcmajaaDoor
open Go.RowKit Wal

def rowEn (bl : List En) : List Value := bl.flatMap fun b => [.string (strB b.1), .string (strB b.2)]
theorem rowEn_length (bl : List En) : (rowEn bl).length = bl.length * 2 := by
  induction bl with
  | nil => rfl
  | cons b r ih => unfold rowEn at ih ⊢; rw [List.flatMap_cons, List.length_append, ih]; simp; omega
theorem rowEn_append (a b : List En) : rowEn (a ++ b) = rowEn a ++ rowEn b := by unfold rowEn; rw [List.flatMap_append]
theorem rowEn_at (bl : List En) (k : Nat) (b : En) (h : bl[k]? = some b) : (rowEn bl)[k * 2]? = some (.string (strB b.1)) ∧ (rowEn bl)[k * 2 + 1]? = some (.string (strB b.2)) := by
  induction bl generalizing k with
  | nil => simp at h
  | cons x r ih =>
    have e : rowEn (x :: r) = .string (strB x.1) :: .string (strB x.2) :: rowEn r := rfl
    rw [e]
    rcases k with _ | k
    · have : x = b := by simpa using h
      subst this
      exact ⟨rfl, rfl⟩
    · have h2 : r[k]? = some b := by simpa using h
      have := ih k h2
      rw [show (k + 1) * 2 = k * 2 + 1 + 1 by omega]
      exact ⟨this.1, this.2⟩
theorem infoEn : (Tryd.prog.info? 77).map (fun i => (i.zero, i.size, i.bytes)) = some (some (.agg #[.string ⟨#[]⟩, .string ⟨#[]⟩]), 2, 32) := by kernel_rfl
/-- Cells that hold a list of blobs. -/
def EAt (w : World) (A : Option Addr) (bl : List En) : Prop := 0 < bl.length → ∃ g off, A = some ⟨g, off, none⟩ ∧ g < w.heap.size ∧ ∀ j u, (rowEn bl)[j]? = some u → w.cell? ⟨g, off + j, none⟩ = some u
def OwnEn (w : World) (base : Nat) (v : Value) (bl : List En) : Prop := w.ownsRow base 77 2 v bl.length (rowEn bl)
section
variable {w w' : World} {base : Nat} {v : Value} {bl : List En} {A : Option Addr}
theorem OwnEn.nil (w : World) (base : Nat) : OwnEn w base (.slice none 0 0) [] := ⟨rfl, .inl ⟨rfl, rfl⟩⟩
theorem OwnEn.any (h : OwnEn w base v bl) : ∃ A c, v = .slice A bl.length c ∧ bl.length ≤ c ∧ EAt w A bl := by
  rcases h.2 with ⟨rfl, h0⟩ | ⟨g, cap, cur, rfl, hg, hh, hn, hcap, hsz, htake⟩
  · exact ⟨none, 0, by rw [h0], by omega, fun hp => by omega⟩
  · refine ⟨_, cap, rfl, hn, fun _ => ⟨g, 0, rfl, (Array.getElem?_eq_some_iff.1 hh).1, fun j u hu => ?_⟩⟩
    have hj := (List.getElem?_eq_some_iff.1 hu).1
    rw [rowEn_length] at hj
    rw [← htake, List.getElem?_take, if_pos hj] at hu
    rw [Nat.zero_add, cell_of_row w g j cur _ _ hh, ← Array.getElem?_toList]
    exact hu
theorem OwnEn.kp {B : Nat} (h : OwnEn w base v bl) (k : Kp B w w') : OwnEn w' base v bl := k.row h (by decide) (by decide)
theorem OwnEn.lt (h : OwnEn w base v bl) : ∀ g, v.ownBlock = some g → base ≤ g ∧ g < w.heap.size := World.ownsRow.lt h
theorem OwnEn.alloc (h : OwnEn w base v bl) (o : Obj) : OwnEn (w.alloc o) base v bl := World.ownsRow.alloc h o
theorem EAt.below (h : EAt w A bl) (k : Below w.heap.size w w') : EAt w' A bl := fun hp => by
  obtain ⟨g, off, e, hl, hc⟩ := h hp
  exact ⟨g, off, e, Nat.lt_of_lt_of_le hl k.size, fun j u hu => (k.cell (p := ⟨g, off + j, none⟩) hl).trans (hc j u hu)⟩
theorem EAt.at_ (h : EAt w A bl) {k : Nat} (hk : k < bl.length) : ∃ g off, A = some ⟨g, off, none⟩ ∧ w.cell? ⟨g, off + k * 2, none⟩ = some (.string (strB bl[k].1)) ∧ w.cell? ⟨g, off + k * 2 + 1, none⟩ = some (.string (strB bl[k].2)) := by
  obtain ⟨g, off, e, _, hc⟩ := h (by omega)
  obtain ⟨a, b⟩ := rowEn_at bl k bl[k] (List.getElem?_eq_getElem hk)
  exact ⟨g, off, e, hc _ _ a, by rw [Nat.add_assoc]; exact hc _ _ b⟩
theorem EAt.take_ (h : EAt w A bl) (k : Nat) : EAt w A (bl.take k) := fun hp => by
  rw [List.length_take] at hp
  obtain ⟨g, off, e, hl, hc⟩ := h (by omega)
  refine ⟨g, off, e, hl, fun j u hu => hc j u ?_⟩
  have : rowEn bl = rowEn (bl.take k) ++ rowEn (bl.drop k) := by rw [← rowEn_append, List.take_append_drop]
  rw [this, List.getElem?_append_left (List.getElem?_eq_some_iff.1 hu).1]
  exact hu
theorem EAt.drop_ {g off : Nat} (h : EAt w (some ⟨g, off, none⟩) bl) (k : Nat) : EAt w (some ⟨g, off + k * 2, none⟩) (bl.drop k) := fun hp => by
  rw [List.length_drop] at hp
  obtain ⟨g', off', e, hl, hc⟩ := h (by omega)
  cases e
  refine ⟨g, off + k * 2, rfl, hl, fun j u hu => ?_⟩
  rw [Nat.add_assoc]
  refine hc _ _ ?_
  have : rowEn bl = rowEn (bl.take k) ++ rowEn (bl.drop k) := by rw [← rowEn_append, List.take_append_drop]
  rw [this, List.getElem?_append_right (by rw [rowEn_length, List.length_take]; omega), rowEn_length, List.length_take, show k * 2 + j - min k bl.length * 2 = j by omega]
  exact hu
/-- append(v, x...). -/
theorem run_append_e (base : Nat) (ty : TypeId) (v : Value) (k : List En) (hown : OwnEn w base v k) (A : Option Addr) (m c : Nat) (l : List En) (hl : l.length = m) (hA : EAt w A l) (hr : k.length + m ≤ 100000) (hbase : base ≤ w.heap.size) :
    ∃ v' w', (Builtin.append_ #[74, 74] ty #[v, .slice A m c]).run Tryd.prog w = .ok v' w' ∧ OwnEn w' base v' (k ++ l) ∧ w.grownBy w' v.ownBlock := by
  obtain ⟨i, hi, hz, hsize, hby⟩ := info_parts infoEn
  rcases A with _ | ad
  · have hm : l = [] := by
      rcases l with _ | ⟨x, l⟩
      · rfl
      · obtain ⟨g, off, h, _⟩ := hA (by simp)
        cases h
    subst hm
    obtain rfl : m = 0 := hl.symm
    refine ⟨v, w, ?_, by rw [List.append_nil]; exact hown, World.grownBy.refl w _⟩
    rcases hown.2 with ⟨rfl, _⟩ | ⟨g, cap, cur, rfl, _, _, hnc, _⟩
    · simp [Builtin.append_, run_underlying Tryd.underlying74, sizeOf, typeInfo, hi, Builtin.lenOf, Builtin.firstCells]
    · simp [Builtin.append_, run_underlying Tryd.underlying74, sizeOf, typeInfo, hi, Builtin.lenOf, Builtin.firstCells, hnc, storeCells]
  · obtain ⟨v', w', hrun, h2, h3, _, h5⟩ := run_append_own_at (P := Tryd.prog) w base 74 ty 77 i (.agg #[.string ⟨#[]⟩, .string ⟨#[]⟩]) 2 32 Tryd.underlying74 hi hz hsize hby rfl (by omega) v k.length (rowEn k) hown ad m c (rowEn l) (by rw [rowEn_length, hl])
      (fun j u hu => by
        have hj := (List.getElem?_eq_some_iff.1 hu).1
        rw [rowEn_length] at hj
        obtain ⟨g, off, e, _, hc⟩ := hA (by omega)
        cases e
        rw [WideShapes.add_plain]
        exact hc j u hu)
      (fun u hu => by
        obtain ⟨b, _, hb⟩ := List.mem_flatMap.1 hu
        rcases List.mem_cons.1 hb with rfl | hb
        · rfl
        · have : u = .string (strB b.2) := by simpa using hb
          rw [this]; rfl) (by simp only [maxLen]; omega) (by omega) hbase
    exact ⟨v', w', hrun, by unfold OwnEn; rw [List.length_append, rowEn_append, hl]; exact h2, h3⟩
end
set_option maxRecDepth 100000 in
theorem wpList_append_e {w : World} {ops : Array Oper} {rest : List Oper} {o : Oper} {a : Act} {Q : Exit → Act → World → Prop} (hgd : o.guard = none) (s x : Operand)
    (ho : o.op = .call { callee := .builtin .append, args := #[s, x], argTypes := #[74, 74] })
    (base : Nat) (v : Value) (k : List En) (hs : a.eval s = v) (hown : OwnEn w base v k)
    (A : Option Addr) (m c : Nat) (l : List En) (hx : a.eval x = .slice A m c) (hl : l.length = m) (hA : EAt w A l) (hr : k.length + m ≤ 100000) (hbase : base ≤ w.heap.size)
    (h : ∀ v' w', OwnEn w' base v' (k ++ l) → w.grownBy w' v.ownBlock → wpList Tryd.prog ops Q rest (a.put o.dst v') w') : wpList Tryd.prog ops Q (o :: rest) a w := by
  obtain ⟨v', w', hrun, h2, h3⟩ := run_append_e base o.type v k hown A m c l hl hA hr hbase
  refine wpList_plain hgd fun _ hK => ?_
  unfold Oper.wp execOp
  simp only [ho, resolve, invoke, builtin, Sem.run_bind, Sem.run_pure, Result.andThen_ok, List.map_toArray, List.map_cons, List.map_nil, hs, hx, hrun]
  exact hK _ _ (h v' w' h2 h3)
end Go.Proofs.YtnogmgnbhcmajaaDoor

namespace Go.Proofs.YtnogmgnbhcmajaaDoor
open Go.RowKit Wal
/-- An entry as a value. -/
def enV (e : En) : Value := .agg #[.string (strB e.1), .string (strB e.2)]
set_option maxRecDepth 100000 in
theorem size_any (w : World) (e : En) (h1 : e.1.length ≤ 100000) (h2 : e.2.length ≤ 100000) :
    Calls Tryd.prog 83 #[enV e] w fun x w' => x = .returned (.int .i64 (sizeE e : Nat)) ∧ Below w.heap.size w w' := by
  have s1 := strB_size e.1
  have s2 := strB_size e.2
  have E : Hid (1 + (e.1.length : Int) + 1 + (e.2.length : Int) = (sizeE e : Nat)) := by show _ = _; unfold sizeE; omega
  unfold enV
  generalize e.1.length = a at *
  generalize e.2.length = b at *
  go_enter Tryd.func83, Tryd.ntmps83
  go_wp2_with fail
  go_ret
  exact ⟨congrArg (fun z => Ending.returned (Value.int .i64 z)) E.out, (Below.refl _ _).alloc (Nat.le_refl _) _⟩
theorem total_le (es : List En) (m : Nat) (h : ∀ e ∈ es, sizeE e ≤ m) : totalE es ≤ es.length * m := by
  induction es with
  | nil => simp [totalE]
  | cons e r ih =>
    have h1 := ih (fun x hx => h x (by simp [hx]))
    have h2 := h e (by simp)
    rw [totalE_cons, List.length_cons, Nat.succ_mul]
    omega
set_option maxRecDepth 100000 in
set_option maxHeartbeats 800000 in
theorem total_any (w : World) (A : Option Addr) (c : Nat) (es : List En) (h : EAt w A es) (hs : ∀ e ∈ es, sizeE e ≤ 1000) (hl : es.length ≤ 100000) :
    Calls Tryd.prog 68 #[.slice A es.length c] w fun x w' => x = .returned (.int .i64 (totalE es : Nat)) ∧ Below w.heap.size w w' := by
  have H := Lib.hid h
  have HS := Lib.hid hs
  have TL := Lib.hid (fun k => total_le (es.take k) 1000 (fun e he => hs e (List.mem_of_mem_take he)))
  clear h hs
  go_enter Tryd.func68, Tryd.ntmps68
  go_wp2_with fail
  go_loopw [3, 8] (fun s i wr => ∃ k : Nat, k ≤ es.length ∧ i = .int .i64 k ∧ s = .int .i64 ((totalE (es.take k) : Nat) : Int) ∧ Hid (Below w.heap.size w wr)) (fun _ i _ => es.length - (intOf i).toNat)
  case atStart => exact ⟨0, by omega, rfl, rfl, Below.refl _ _⟩
  case round =>
    obtain ⟨k, hk, rfl, rfl, G⟩ := hrel
    by_cases hlt : k < es.length
    · have lk : (k : Int) < (es.length : Int) := by omega
      obtain ⟨g, off, rfl, x0, x1⟩ := (H.out.below G.out).at_ hlt
      have tl := TL.out k
      rw [List.length_take] at tl
      have TS := Lib.hid (totalE_take_succ es k hlt)
      have se : sizeE es[k] ≤ 1000 := HS.out es[k] (List.getElem_mem hlt)
      have SZ := Lib.hid (fun W => size_any W es[k] (by unfold sizeE at se; omega) (by unfold sizeE at se; omega))
      unfold enV at SZ
      generalize sizeE es[k] = z at *
      generalize es[k].1 = ek at *
      generalize es[k].2 = ev at *
      generalize totalE (es.take k) = t at *
      go_wp2_with fail
      refine (SZ.out _).mono ?_
      rintro e w5 ⟨rfl, hb5⟩
      have F : Hid (Below w.heap.size w w5) := (G.out.alloc G.out.size _).trans (hb5.mono (Nat.le_trans G.out.size (by simp)))
      clear hb5 SZ
      go_wp2_with fail
      go_roundw
      case rel => exact ⟨k + 1, by omega, by go_num, by rw [TS.out]; go_num, F⟩
      case measure => simp [intOf]; omega
    · obtain rfl : k = es.length := by omega
      rw [List.take_length]
      have FIN : Hid (Below w.heap.size w wr) := G
      go_wp2_with fail
      go_ret
      exact ⟨rfl, FIN.out⟩
end Go.Proofs.YtnogmgnbhcmajaaDoor

namespace Go.Proofs.YtnogmgnbhcmajaaDoor
open Go.RowKit Wal
theorem midN_cons (e : En) (t : List En) (l r : Nat) : midN (e :: t) l r = if r < l + sizeE e then 0 else midN t (l + sizeE e) (r - sizeE e) + 1 := rfl
set_option maxRecDepth 100000 in
set_option maxHeartbeats 800000 in
theorem middle_any (w : World) (A : Option Addr) (c : Nat) (es : List En) (h : EAt w A es) (hs : ∀ e ∈ es, sizeE e ≤ 1000) (hl : es.length ≤ 100000) :
    Calls Tryd.prog 85 #[.slice A es.length c] w fun x w' => x = .returned (.int .i64 (mid es : Nat)) ∧ Below w.heap.size w w' := by
  have H := Lib.hid h
  have TA := Lib.hid (total_any w A c es h hs hl)
  have HS := Lib.hid hs
  have TL := Lib.hid (fun k => total_le (es.take k) 1000 (fun e he => hs e (List.mem_of_mem_take he)))
  have TT : Hid (∀ k, totalE (es.take k) + totalE (es.drop k) = totalE es) := fun k => by rw [← totalE_append, List.take_append_drop]
  have TM := Lib.hid (total_le es 1000 hs)
  clear h hs
  go_enter Tryd.func85, Tryd.ntmps85
  go_wp2_with fail
  refine TA.out.mono ?_
  rintro e w1 ⟨rfl, hb1⟩
  have B1 := Lib.hid hb1
  clear hb1 TA
  go_wp2_with fail
  go_loopw [3, 4, 11] (fun s r i wr => ∃ k : Nat, k ≤ es.length ∧ i = .int .i64 k ∧ s = .int .i64 ((totalE (es.take k) : Nat) : Int) ∧ r = .int .i64 ((totalE (es.drop k) : Nat) : Int) ∧ Hid (Below w.heap.size w wr ∧ midN (es.drop k) (totalE (es.take k)) (totalE (es.drop k)) + k = mid es)) (fun _ _ i _ => es.length - (intOf i).toNat)
  case atStart => exact ⟨0, by omega, rfl, rfl, rfl, B1.out, rfl⟩
  case round =>
    obtain ⟨k, hk, rfl, rfl, rfl, G⟩ := hrel
    by_cases hlt : k < es.length
    · have lk : (k : Int) < (es.length : Int) := by omega
      obtain ⟨g, off, rfl, x0, x1⟩ := (H.out.below G.out.1).at_ hlt
      have tt := TT.out k
      have tm := TM.out
      have TS := Lib.hid (totalE_take_succ es k hlt)
      have dk : es.drop k = es[k] :: es.drop (k + 1) := List.drop_eq_getElem_cons hlt
      have td : totalE (es.drop k) = sizeE es[k] + totalE (es.drop (k + 1)) := by rw [dk, totalE_cons]
      have MN : Hid (midN (es.drop k) (totalE (es.take k)) (totalE (es.drop k)) = if totalE (es.drop k) < totalE (es.take k) + sizeE es[k] then 0 else midN (es.drop (k + 1)) (totalE (es.take k) + sizeE es[k]) (totalE (es.drop k) - sizeE es[k]) + 1) := by
        have := midN_cons es[k] (es.drop (k + 1)) (totalE (es.take k)) (totalE (es.drop k))
        rw [← dk] at this
        exact this
      have TD := Lib.hid td
      have se : sizeE es[k] ≤ 1000 := HS.out es[k] (List.getElem_mem hlt)
      have SZ := Lib.hid (fun W => size_any W es[k] (by unfold sizeE at se; omega) (by unfold sizeE at se; omega))
      have GM : Hid (midN (es.drop k) (totalE (es.take k)) (totalE (es.drop k)) + k = mid es) := G.out.2
      have GB : Hid (Below w.heap.size w wr) := G.out.1
      unfold enV at SZ
      clear dk G
      generalize sizeE es[k] = z at *
      generalize es[k].1 = ek at *
      generalize es[k].2 = ev at *
      generalize totalE (es.take k) = t at *
      generalize totalE (es.drop k) = r at *
      have tz : t + r ≤ 100000000 := by omega
      have rz : z ≤ r := by omega
      clear tt td tm
      go_upto_region 5 with fail
      obtain ⟨b, hb⟩ : ∃ b, b = wr.heap.size := ⟨_, rfl⟩
      obtain ⟨wq, hwq⟩ : ∃ wq, wq = wr.alloc (.cells #[.string (strB ek), .string (strB ev)] 77) := ⟨_, rfl⟩
      have HQ : Hid (Held wq b 77 #[.string (strB ek), .string (strB ev)]) := by rw [hwq]; exact Held.new _ _ _ hb
      have BQ : Hid (Below w.heap.size w wq) := by rw [hwq]; exact GB.out.alloc GB.out.size _
      rw [← hwq, ← hb]
      have z0 := HQ.out.cell 0
      have z1 := HQ.out.cell 1
      clear hb hwq x0 x1
      go_wp2_with fail
      refine (SZ.out _).mono ?_
      rintro e w5 ⟨rfl, hb5⟩
      have F : Hid (Below w.heap.size w w5) := BQ.out.trans (hb5.mono BQ.out.size)
      have H5 := Lib.hid (HQ.out.below hb5 HQ.out.lt)
      clear hb5 z0 z1
      by_cases cc : r < t + z
      · have ic : (r : Int) < (t : Int) + (z : Int) := by omega
        have E : Hid (k = mid es) := by
          have := GM.out
          rw [MN.out, if_pos cc] at this
          show _ = _
          omega
        go_wp2_with fail
        go_ret
        exact ⟨by rw [← E.out]; rfl, F.out⟩
      · have ic : ¬ (r : Int) < (t : Int) + (z : Int) := by omega
        have N : Hid (midN (es.drop (k + 1)) (t + z) (r - z) + (k + 1) = mid es) := by
          have := GM.out
          rw [MN.out, if_neg cc] at this
          show _ = _
          omega
        have z0 := H5.out.cell 0
        have z1 := H5.out.cell 1
        go_wp2_with fail
        refine (SZ.out _).mono ?_
        rintro e w6 ⟨rfl, hb6⟩
        have F6 : Hid (Below w.heap.size w w6) := F.out.trans (hb6.mono F.out.size)
        have H6 := Lib.hid (H5.out.below hb6 H5.out.lt)
        clear hb6 z0 z1
        have z0 := H6.out.cell 0
        have z1 := H6.out.cell 1
        go_wp2_with fail
        refine (SZ.out _).mono ?_
        rintro e w7 ⟨rfl, hb7⟩
        have F7 : Hid (Below w.heap.size w w7) := F6.out.trans (hb7.mono F6.out.size)
        clear hb7 SZ
        have e7 : r - z = totalE (es.drop (k + 1)) := by have := TD.out; omega
        have rz2 : (r : Int) - (z : Int) = ((r - z : Nat) : Int) := by omega
        have E7 := Lib.hid e7
        clear e7
        generalize hq : r - z = q at *
        have HQ := Lib.hid hq
        clear hq
        go_wp2_with fail
        go_roundw
        case rel => exact ⟨k + 1, by omega, by go_num, by rw [TS.out]; go_num, by rw [← E7.out], F7.out, by rw [TS.out, ← E7.out]; exact N.out⟩
        case measure => simp [intOf]; omega
    · obtain rfl : k = es.length := by omega
      have E : Hid (es.length = mid es) := by
        have := G.out.2
        rw [List.drop_length] at this
        show _ = _
        rw [← this]
        show _ = 0 + _
        omega
      have FIN : Hid (Below w.heap.size w wr) := G.out.1
      clear G
      go_wp2_with fail
      go_ret
      exact ⟨by rw [← E.out]; rfl, FIN.out⟩
end Go.Proofs.YtnogmgnbhcmajaaDoor

namespace Go.Proofs.YtnogmgnbhcmajaaDoor
open Go.RowKit Wal
theorem strB_extract (l : List Nat) (hb : ∀ x ∈ l, x < 256) (a b : Nat) : (strB l).extract a b = strB ((l.take b).drop a) := by
  have h1 : nums ((strB l).extract a b) = ((nums (strB l)).take b).drop a := by
    unfold nums
    rw [ByteArray.data_extract, Array.toList_extract, List.extract_eq_take_drop, List.map_take, List.map_drop, List.drop_take]
  rw [nums_strB hb] at h1
  rw [← h1, strB_nums]
theorem strB_some {l : List Nat} (h : 0 < l.length) : (strB l).toList.isEmpty = false := by
  rw [ByteArray.toList_eq]
  have e : (strB l).data.toList.length = l.length := (Array.length_toList).trans (strB_size l)
  cases hq : (strB l).data.toList with
  | nil => rw [hq] at e; simp at e; omega
  | cons a r => rfl
set_option maxRecDepth 100000 in
set_option maxHeartbeats 800000 in
theorem cutText_any (w : World) (t r : List Nat) (ht : t.length < 256) (ht8 : ∀ x ∈ t, x < 256) (hr8 : ∀ x ∈ r, x < 256) (hr : r.length ≤ 100000) :
    Calls Tryd.prog 65 #[.string (strB (encT t ++ r))] w fun e w' => e = .returned (.tuple #[.string (strB t), .string (strB r), .bool true]) ∧ Below w.heap.size w w' := by
  have b1 : ∀ x ∈ t ++ r, x < 256 := fun x hx => (List.mem_append.1 hx).elim (ht8 x) (hr8 x)
  have b0 : ∀ x ∈ encT t ++ r, x < 256 := fun x hx => by
    have e : encT t ++ r = t.length :: (t ++ r) := rfl
    rw [e] at hx
    rcases List.mem_cons.1 hx with rfl | hx
    · exact ht
    · exact b1 x hx
  have z0 : (strB (encT t ++ r)).size = 1 + (t.length + r.length) := by rw [strB_size]; simp [encT]; omega
  have z1 : (strB (t ++ r)).size = t.length + r.length := by rw [strB_size]; simp
  have e1 : (strB (encT t ++ r)).extract 1 (1 + (t.length + r.length)) = strB (t ++ r) := by
    rw [strB_extract _ b0, List.take_of_length_le (by simp [encT]; omega)]
    rfl
  have e2 : (strB (t ++ r)).extract 0 t.length = strB t := by
    rw [strB_extract _ b1, List.take_left, List.drop_zero]
  have e3 : (strB (t ++ r)).extract t.length (t.length + r.length) = strB r := by
    rw [strB_extract _ b1, List.take_of_length_le (by simp), List.drop_left]
  have n0 : (strB (encT t ++ r)).toList.isEmpty = false := strB_some (by simp [encT])
  have at0 : ∀ hk : 0 < (strB (encT t ++ r)).size, ((strB (encT t ++ r))[0]'hk).toNat = t.length := fun hk => by rw [strB_at b0 hk]; rfl
  generalize strB (encT t ++ r) = s0 at *
  generalize strB (t ++ r) = s1 at *
  have hk0 : 0 < s0.size := by omega
  have hat := at0 hk0
  have AT := Lib.hid hat
  generalize t.length = a at *
  generalize r.length = b at *
  have i1 : ¬ ((a : Int) + (b : Int) < (a : Int)) := by omega
  clear at0 b0 b1 ht8 hr8
  go_enter Tryd.func65, Tryd.ntmps65
  have i2 : (a : Int) ≤ (a : Int) + (b : Int) := by omega
  go_upto_region 7 with fail
  refine wp_region_held_drew (S := fun _ => True) (by kernel_rfl) trivial (fun hHeld => ?_)
  refine take_ (i := 0) (v := ?_) 17 rfl rfl (by kernel_rfl) (by kernel_rfl) (by kernel_rfl) (fun _ _ _ h => h) (Or.inl ⟨by rfl, ?_⟩) (by assumption) ?_
  rotate_left
  · (intro wS hSw; (try dsimp only at hSw); go_simp; try with_reducible rfl)
  simp only [Act.put, List.setIfInBounds_toArray, List.set_cons_zero, List.set_cons_succ]
  refine take_ (i := 1) (v := ?_) 18 rfl rfl (by kernel_rfl) (by kernel_rfl) (by kernel_rfl) (fun _ _ _ h => h) (Or.inl ⟨by rfl, ?_⟩) (by assumption) ?_
  rotate_left
  · (intro wS hSw; (try dsimp only at hSw); go_simp; try with_reducible rfl)
  simp only [Act.put, List.setIfInBounds_toArray, List.set_cons_zero, List.set_cons_succ]
  refine take_ (i := 2) (v := ?_) 19 rfl rfl (by kernel_rfl) (by kernel_rfl) (by kernel_rfl) (fun _ _ _ h => h) (Or.inl ⟨by rfl, ?_⟩) (by assumption) ?_
  rotate_left
  · (intro wS hSw; (try dsimp only at hSw); go_simp; try with_reducible rfl)
  simp only [Act.put, List.setIfInBounds_toArray, List.set_cons_zero, List.set_cons_succ]
  refine take_ (i := 3) (v := ?_) 20 rfl rfl (by kernel_rfl) (by kernel_rfl) (by kernel_rfl) (fun _ _ _ h => h) (Or.inl ⟨by rfl, ?_⟩) (by assumption) ?_
  rotate_left
  · (intro wS hSw; (try dsimp only at hSw); go_simp; try with_reducible rfl)
  simp only [Act.put, List.setIfInBounds_toArray, List.set_cons_zero, List.set_cons_succ]
  refine take_ (i := 4) (v := ?_) 21 rfl rfl (by kernel_rfl) (by kernel_rfl) (by kernel_rfl) (fun _ _ _ h => h) (Or.inl ⟨by rfl, ?_⟩) (by assumption) ?_
  rotate_left
  · (intro wS hSw; (try dsimp only at hSw); go_simp; try with_reducible rfl)
  simp only [Act.put, List.setIfInBounds_toArray, List.set_cons_zero, List.set_cons_succ]
  refine take_ (i := 5) (v := ?_) 22 rfl rfl (by kernel_rfl) (by kernel_rfl) (by kernel_rfl) (fun _ _ _ h => h) (Or.inl ⟨by rfl, ?_⟩) (by assumption) ?_
  rotate_left
  · (intro wS hSw; (try dsimp only at hSw); go_simp; try with_reducible rfl)
  simp only [Act.put, List.setIfInBounds_toArray, List.set_cons_zero, List.set_cons_succ]
  refine take_ (i := 6) (v := ?_) 2 rfl rfl (by kernel_rfl) (by kernel_rfl) (by kernel_rfl) (fun _ _ _ h => h) (Or.inl ⟨by rfl, ?_⟩) (by assumption) ?_
  rotate_left
  · (intro wS hSw; (try dsimp only at hSw); go_simp; try with_reducible rfl)
  simp only [Act.put, List.setIfInBounds_toArray, List.set_cons_zero, List.set_cons_succ]
  refine take_ (i := 7) (v := ?_) 3 rfl rfl (by kernel_rfl) (by kernel_rfl) (by kernel_rfl) (fun _ _ _ h => h) (Or.inl ⟨by rfl, ?_⟩) (by assumption) ?_
  rotate_left
  · (intro wS hSw; (try dsimp only at hSw); go_simp; try with_reducible rfl)
  simp only [Act.put, List.setIfInBounds_toArray, List.set_cons_zero, List.set_cons_succ]
  refine take_ (i := 8) (v := ?_) 4 rfl rfl (by kernel_rfl) (by kernel_rfl) (by kernel_rfl) (fun _ _ _ h => h) (Or.inl ⟨by rfl, ?_⟩) (by assumption) ?_
  rotate_left
  · (intro wS hSw; (try dsimp only at hSw); go_simp; try with_reducible rfl)
  simp only [Act.put, List.setIfInBounds_toArray, List.set_cons_zero, List.set_cons_succ]
  refine wpAnyH_done (by kernel_rfl) ?_ _
  go_wp2_with fail
  go_ret3
  exact ⟨rfl, (Below.refl _ _).drew⟩
end Go.Proofs.YtnogmgnbhcmajaaDoor

namespace Go.Proofs.YtnogmgnbhcmajaaDoor
open Go.RowKit Wal
/-- A node as a value. -/
def noV (level : Nat) (A : Option Addr) (n c : Nat) (u : List Nat) : Value := .agg #[.int .i64 (level : Int), .slice A n c, .string (strB u)]
set_option maxRecDepth 100000 in
theorem mayHold_leaf (w : World) (A : Option Addr) (n c : Nat) (u v : List Nat) :
    Calls Tryd.prog 82 #[noV 1 A n c u, .string (strB v)] w fun e w' => e = .returned (.bool (decide (v.length ≤ 64))) ∧ Below w.heap.size w w' := by
  have GV := Lib.hid (fun W => isGoodValue_any W v)
  unfold noV
  go_enter Tryd.func82, Tryd.ntmps82
  go_wp2_with fail
  refine (GV.out _).mono ?_
  rintro e w1 ⟨rfl, rfl⟩
  go_wp2_with fail
  go_ret
  exact ⟨rfl, (Below.refl _ _).alloc (Nat.le_refl _) _⟩
set_option maxRecDepth 100000 in
theorem mayHold_kid (w : World) (level : Nat) (hl : 1 < level) (A : Option Addr) (n c : Nat) (u : List Nat) (b : Nat) (hb : 0 < b) (hb2 : b ≤ 4096) :
    Calls Tryd.prog 82 #[noV level A n c u, .string (strB (pk b))] w fun e w' => e = .returned (.bool true) ∧ Below w.heap.size w w' := by
  have e8 : (256 : Nat) ^ 8 = 18446744073709551616 := by decide
  have RN := Lib.hid (fun W => readNumber_any W (pk b) (pk_bytes b) (pk_length (by rw [e8]; omega)))
  have hw : wrap64 ((b : Nat) : Int) = (b : Int) := by unfold wrap64; omega
  simp only [unnum_pk, hw] at RN
  have nl : ¬ (level : Int) = 1 := by omega
  have bp : (0 : Int) < (b : Int) := by omega
  clear hw e8
  unfold noV
  go_enter Tryd.func82, Tryd.ntmps82
  go_wp2_with fail
  refine (RN.out _).mono ?_
  rintro e w1 ⟨rfl, rfl⟩
  go_wp2_with fail
  go_ret
  exact ⟨rfl, (Below.refl _ _).alloc (Nat.le_refl _) _⟩
set_option maxRecDepth 100000 in
theorem wantsMore_any (w : World) (level : Nat) (A : Option Addr) (c : Nat) (u : List Nat) (es : List En) (h : EAt w A es) (hs : ∀ e ∈ es, sizeE e ≤ 1000) (hl : es.length ≤ 100000) :
    Calls Tryd.prog 59 #[noV level A es.length c u] w fun e w' => e = .returned (.bool (decide (es ≠ [] ∧ totalE es < 255))) ∧ Below w.heap.size w w' := by
  have BA : Hid (∀ o, Below w.heap.size w (w.alloc o)) := fun o => (Below.refl _ _).alloc (Nat.le_refl _) o
  have TA := Lib.hid (fun o => total_any (w.alloc o) A c es (h.below (BA.out o)) hs hl)
  clear h hs
  unfold noV
  by_cases c0 : es = []
  · subst c0
    go_enter Tryd.func59, Tryd.ntmps59
    go_wp2_with fail
    go_ret
    exact ⟨rfl, BA.out _⟩
  · have lp : 0 < es.length := List.length_pos_iff.2 c0
    have ip : (0 : Int) < (es.length : Int) := by omega
    by_cases c1 : totalE es < 255
    · have i1 : (totalE es : Int) < 255 := by omega
      have D : Hid (decide (es ≠ [] ∧ totalE es < 255) = true) := decide_eq_true ⟨c0, c1⟩
      generalize totalE es = t at *
      go_enter Tryd.func59, Tryd.ntmps59
      go_wp2_with fail
      refine (TA.out _).mono ?_
      rintro e w1 ⟨rfl, hb1⟩
      have F : Hid (Below w.heap.size w w1) := (BA.out _).trans (hb1.mono (BA.out _).size)
      clear hb1
      go_wp2_with fail
      go_ret
      exact ⟨by rw [D.out]; rfl, F.out⟩
    · have i1 : ¬ (totalE es : Int) < 255 := by omega
      have D : Hid (decide (es ≠ [] ∧ totalE es < 255) = false) := decide_eq_false fun h => c1 h.2
      generalize totalE es = t at *
      go_enter Tryd.func59, Tryd.ntmps59
      go_wp2_with fail
      refine (TA.out _).mono ?_
      rintro e w1 ⟨rfl, hb1⟩
      have F : Hid (Below w.heap.size w w1) := (BA.out _).trans (hb1.mono (BA.out _).size)
      clear hb1
      go_wp2_with fail
      go_ret
      exact ⟨by rw [D.out]; exact congrArg (fun z => Ending.returned (Value.bool z)) (decide_eq_false (by omega)), F.out⟩
end Go.Proofs.YtnogmgnbhcmajaaDoor
