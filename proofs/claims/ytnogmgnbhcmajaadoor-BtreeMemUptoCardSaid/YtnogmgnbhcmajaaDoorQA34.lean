/-
  btree: pairs in a row of the call's own, and anywhere. · btree: a node read, the tree without keys too; scan, at a leaf.
-/
import Derived.Test.YtnogmgnbhcmajaaDoorQA33
import Derived.ArgAppend
namespace Go.Proofs.YtnogmgnbhcmajaaDoor
open Go.RowKit Wal

def rowP (bl : List En) : List Value := bl.flatMap fun b => [.string (strB b.1), .string (strB b.2)]
theorem rowP_length (bl : List En) : (rowP bl).length = bl.length * 2 := by
  induction bl with
  | nil => rfl
  | cons b r ih => unfold rowP at ih ⊢; rw [List.flatMap_cons, List.length_append, ih]; simp; omega
theorem rowP_append (a b : List En) : rowP (a ++ b) = rowP a ++ rowP b := by unfold rowP; rw [List.flatMap_append]
theorem rowP_at (bl : List En) (k : Nat) (b : En) (h : bl[k]? = some b) : (rowP bl)[k * 2]? = some (.string (strB b.1)) ∧ (rowP bl)[k * 2 + 1]? = some (.string (strB b.2)) := by
  induction bl generalizing k with
  | nil => simp at h
  | cons x r ih =>
    have e : rowP (x :: r) = .string (strB x.1) :: .string (strB x.2) :: rowP r := rfl
    rw [e]
    rcases k with _ | k
    · have : x = b := by simpa using h
      subst this
      exact ⟨rfl, rfl⟩
    · have h2 : r[k]? = some b := by simpa using h
      have := ih k h2
      rw [show (k + 1) * 2 = k * 2 + 1 + 1 by omega]
      exact ⟨this.1, this.2⟩
theorem infoP : (Tryd.prog.info? 51).map (fun i => (i.zero, i.size, i.bytes)) = some (some (.agg #[.string ⟨#[]⟩, .string ⟨#[]⟩]), 2, 32) := by kernel_rfl
/-- Cells that hold a list of blobs. -/
def PAt (w : World) (A : Option Addr) (bl : List En) : Prop := 0 < bl.length → ∃ g off, A = some ⟨g, off, none⟩ ∧ g < w.heap.size ∧ ∀ j u, (rowP bl)[j]? = some u → w.cell? ⟨g, off + j, none⟩ = some u
def OwnP (w : World) (base : Nat) (v : Value) (bl : List En) : Prop := w.ownsRow base 51 2 v bl.length (rowP bl)
section
variable {w w' : World} {base : Nat} {v : Value} {bl : List En} {A : Option Addr}
theorem OwnP.nil (w : World) (base : Nat) : OwnP w base (.slice none 0 0) [] := ⟨rfl, .inl ⟨rfl, rfl⟩⟩
theorem OwnP.any (h : OwnP w base v bl) : ∃ A c, v = .slice A bl.length c ∧ bl.length ≤ c ∧ PAt w A bl := by
  rcases h.2 with ⟨rfl, h0⟩ | ⟨g, cap, cur, rfl, hg, hh, hn, hcap, hsz, htake⟩
  · exact ⟨none, 0, by rw [h0], by omega, fun hp => by omega⟩
  · refine ⟨_, cap, rfl, hn, fun _ => ⟨g, 0, rfl, (Array.getElem?_eq_some_iff.1 hh).1, fun j u hu => ?_⟩⟩
    have hj := (List.getElem?_eq_some_iff.1 hu).1
    rw [rowP_length] at hj
    rw [← htake, List.getElem?_take, if_pos hj] at hu
    rw [Nat.zero_add, cell_of_row w g j cur _ _ hh, ← Array.getElem?_toList]
    exact hu
theorem OwnP.kp {B : Nat} (h : OwnP w base v bl) (k : Kp B w w') : OwnP w' base v bl := k.row h (by decide) (by decide)
theorem OwnP.lt (h : OwnP w base v bl) : ∀ g, v.ownBlock = some g → base ≤ g ∧ g < w.heap.size := World.ownsRow.lt h
theorem OwnP.alloc (h : OwnP w base v bl) (o : Obj) : OwnP (w.alloc o) base v bl := World.ownsRow.alloc h o
theorem PAt.below (h : PAt w A bl) (k : Below w.heap.size w w') : PAt w' A bl := fun hp => by
  obtain ⟨g, off, e, hl, hc⟩ := h hp
  exact ⟨g, off, e, Nat.lt_of_lt_of_le hl k.size, fun j u hu => (k.cell (p := ⟨g, off + j, none⟩) hl).trans (hc j u hu)⟩
theorem PAt.at_ (h : PAt w A bl) {k : Nat} (hk : k < bl.length) : ∃ g off, A = some ⟨g, off, none⟩ ∧ w.cell? ⟨g, off + k * 2, none⟩ = some (.string (strB bl[k].1)) ∧ w.cell? ⟨g, off + k * 2 + 1, none⟩ = some (.string (strB bl[k].2)) := by
  obtain ⟨g, off, e, _, hc⟩ := h (by omega)
  obtain ⟨a, b⟩ := rowP_at bl k bl[k] (List.getElem?_eq_getElem hk)
  exact ⟨g, off, e, hc _ _ a, by rw [Nat.add_assoc]; exact hc _ _ b⟩
theorem PAt.take_ (h : PAt w A bl) (k : Nat) : PAt w A (bl.take k) := fun hp => by
  rw [List.length_take] at hp
  obtain ⟨g, off, e, hl, hc⟩ := h (by omega)
  refine ⟨g, off, e, hl, fun j u hu => hc j u ?_⟩
  have : rowP bl = rowP (bl.take k) ++ rowP (bl.drop k) := by rw [← rowP_append, List.take_append_drop]
  rw [this, List.getElem?_append_left (List.getElem?_eq_some_iff.1 hu).1]
  exact hu
theorem PAt.drop_ {g off : Nat} (h : PAt w (some ⟨g, off, none⟩) bl) (k : Nat) : PAt w (some ⟨g, off + k * 2, none⟩) (bl.drop k) := fun hp => by
  rw [List.length_drop] at hp
  obtain ⟨g', off', e, hl, hc⟩ := h (by omega)
  cases e
  refine ⟨g, off + k * 2, rfl, hl, fun j u hu => ?_⟩
  rw [Nat.add_assoc]
  refine hc _ _ ?_
  have : rowP bl = rowP (bl.take k) ++ rowP (bl.drop k) := by rw [← rowP_append, List.take_append_drop]
  rw [this, List.getElem?_append_right (by rw [rowP_length, List.length_take]; omega), rowP_length, List.length_take, show k * 2 + j - min k bl.length * 2 = j by omega]
  exact hu
/-- append(v, x...). -/
theorem run_append_p (base : Nat) (ty : TypeId) (v : Value) (k : List En) (hown : OwnP w base v k) (A : Option Addr) (m c : Nat) (l : List En) (hl : l.length = m) (hA : PAt w A l) (hr : k.length + m ≤ 100000) (hbase : base ≤ w.heap.size) :
    ∃ v' w', (Builtin.append_ #[47, 47] ty #[v, .slice A m c]).run Tryd.prog w = .ok v' w' ∧ OwnP w' base v' (k ++ l) ∧ w.grownBy w' v.ownBlock := by
  obtain ⟨i, hi, hz, hsize, hby⟩ := info_parts infoP
  rcases A with _ | ad
  · have hm : l = [] := by
      rcases l with _ | ⟨x, l⟩
      · rfl
      · obtain ⟨g, off, h, _⟩ := hA (by simp)
        cases h
    subst hm
    obtain rfl : m = 0 := hl.symm
    refine ⟨v, w, ?_, by rw [List.append_nil]; exact hown, World.grownBy.refl w _⟩
    rcases hown.2 with ⟨rfl, _⟩ | ⟨g, cap, cur, rfl, _, _, hnc, _⟩
    · simp [Builtin.append_, run_underlying Tryd.underlying47, sizeOf, typeInfo, hi, Builtin.lenOf, Builtin.firstCells]
    · simp [Builtin.append_, run_underlying Tryd.underlying47, sizeOf, typeInfo, hi, Builtin.lenOf, Builtin.firstCells, hnc, storeCells]
  · obtain ⟨v', w', hrun, h2, h3, _, h5⟩ := run_append_own_at (P := Tryd.prog) w base 47 ty 51 i (.agg #[.string ⟨#[]⟩, .string ⟨#[]⟩]) 2 32 Tryd.underlying47 hi hz hsize hby rfl (by omega) v k.length (rowP k) hown ad m c (rowP l) (by rw [rowP_length, hl])
      (fun j u hu => by
        have hj := (List.getElem?_eq_some_iff.1 hu).1
        rw [rowP_length] at hj
        obtain ⟨g, off, e, _, hc⟩ := hA (by omega)
        cases e
        rw [WideShapes.add_plain]
        exact hc j u hu)
      (fun u hu => by
        obtain ⟨b, _, hb⟩ := List.mem_flatMap.1 hu
        rcases List.mem_cons.1 hb with rfl | hb
        · rfl
        · have : u = .string (strB b.2) := by simpa using hb
          rw [this]; rfl) (by simp only [maxLen]; omega) (by omega) hbase
    exact ⟨v', w', hrun, by unfold OwnP; rw [List.length_append, rowP_append, hl]; exact h2, h3⟩
end
set_option maxRecDepth 100000 in
theorem wpList_append_p {w : World} {ops : Array Oper} {rest : List Oper} {o : Oper} {a : Act} {Q : Exit → Act → World → Prop} (hgd : o.guard = none) (s x : Operand)
    (ho : o.op = .call { callee := .builtin .append, args := #[s, x], argTypes := #[47, 47] })
    (base : Nat) (v : Value) (k : List En) (hs : a.eval s = v) (hown : OwnP w base v k)
    (A : Option Addr) (m c : Nat) (l : List En) (hx : a.eval x = .slice A m c) (hl : l.length = m) (hA : PAt w A l) (hr : k.length + m ≤ 100000) (hbase : base ≤ w.heap.size)
    (h : ∀ v' w', OwnP w' base v' (k ++ l) → w.grownBy w' v.ownBlock → wpList Tryd.prog ops Q rest (a.put o.dst v') w') : wpList Tryd.prog ops Q (o :: rest) a w := by
  obtain ⟨v', w', hrun, h2, h3⟩ := run_append_p base o.type v k hown A m c l hl hA hr hbase
  refine wpList_plain hgd fun _ hK => ?_
  unfold Oper.wp execOp
  simp only [ho, resolve, invoke, builtin, Sem.run_bind, Sem.run_pure, Result.andThen_ok, List.map_toArray, List.map_cons, List.map_nil, hs, hx, hrun]
  exact hK _ _ (h v' w' h2 h3)
theorem OwnP.grown {base : Nat} {v : Value} {l : List En} {a w w' : World} (ho : OwnP w base v l) (hb : Below base a w) (hg : w.grownBy w' v.ownBlock) (hs : base ≤ w.heap.size) : Below base a w' :=
  hb.trans ⟨hg.os, hg.tape, hg.output, hg.size, fun k hk => hg.block k (by omega) (fun e => by
    have := (ho.lt k e.symm).1
    omega)⟩
theorem OwnP.below_ {w w' : World} {base : Nat} {v : Value} {l : List En} (h : OwnP w base v l) (k : Below w.heap.size w w') : OwnP w' base v l := h.kp (Kp.under (B := 0) k)
/-- What a scan tells. -/
def fromE (es : List En) (k : List Nat) : List En := es.filter fun e => !ltB e.1 k
theorem fromE_append (a b : List En) (k : List Nat) : fromE (a ++ b) k = fromE a k ++ fromE b k := List.filter_append ..
theorem fromE_low {A : List En} {k : List Nat} (h : ∀ e ∈ A, ltB e.1 k = true) : fromE A k = [] := List.filter_eq_nil_iff.2 fun e he => by rw [h e he]; decide
theorem fromE_high {A : List En} {k : List Nat} (h : ∀ e ∈ A, ltB k e.1 = true) : fromE A k = A := List.filter_eq_self.2 fun e he => by rw [ltB_asymm (h e he)]; rfl
theorem fromE_spot {es : List En} {k : List Nat} {i : Nat} (s : Spot es k i) : fromE es k = es.drop i := by
  have h1 := fromE_low s.low
  have h2 : fromE (es.drop i) k = es.drop i := List.filter_eq_self.2 fun e he => by rw [s.high e he]; rfl
  conv => lhs; rw [← List.take_append_drop i es]
  rw [fromE_append, h1, h2, List.nil_append]
end Go.Proofs.YtnogmgnbhcmajaaDoor

namespace Go.Proofs.YtnogmgnbhcmajaaDoor
open Go.RowKit Wal

theorem OwnEn.base_ {w : World} {base base' : Nat} {v : Value} {l : List En} (h : OwnEn w base v l) (hb : base' ≤ base) : OwnEn w base' v l :=
  ⟨h.1, h.2.imp id fun ⟨g, cap, cur, a1, a2, a3⟩ => ⟨g, cap, cur, a1, Nat.le_trans hb a2, a3⟩⟩
/-- What is asked of a spot. -/
structure SpotOk (f : Nat → Option KB) (d b : Nat) (es : List En) (bs : List Nat) (lv : Nat) (fk u : List Nat) : Prop where
  at_ : At f d b es bs
  deep : d ≤ 200
  ok : OkAll es
  rises : Rises es
  olv : lv = 0 ∨ lv = d + 1
  ofk : fk = [] ∨ fk = (es.headD ([], [])).1
  ou : u = [] ∨ (b ≠ 0 ∧ ∀ e ∈ es, ltB e.1 u = true)
  bytes : ∀ x ∈ u, x < 256
/-- What lies below the spot, as a node's entries. -/
structure Ents (f : Nat → Option KB) (d : Nat) (ents es : List En) (bs0 : List Nat) : Prop where
  nd : Nd f d ents es bs0
  some_ : 0 < d → ents ≠ []
  few : ents.length ≤ 1000
  sizes : totalE ents ≤ 511
  two : 0 < d → 2 ≤ ents.length
theorem read_at (B : Nat) (w : World) (t p root n : Nat) (f : Nat → Option KB) (ht : TreeO w t p root) (hm : MemAt B w p n f) {d b : Nat} {es : List En} {bs : List Nat} {lv : Nat} {fk u : List Nat} (h : SpotOk f d b es bs lv fk u) :
    Calls Tryd.prog 45 #[.pointer (some ⟨t, 0, none⟩), spV b lv fk u] w fun x w' => ∃ ents v bs0, x = .returned (.agg #[.int .i64 ((d + 1 : Nat) : Int), v, .string (strB u)]) ∧ OwnEn w' w.heap.size v ents ∧ Ents f d ents es bs0 ∧ (b ≠ 0 → bs = b :: bs0) ∧ Below w.heap.size w w' := by
  rcases h.at_ with ⟨rfl, rfl, rfl, rfl⟩ | ta
  · have hu : u = [] := by
      rcases h.ou with h | h
      · exact h
      · exact absurd rfl h.1
    subst hu
    refine (read_none w t lv fk []).mono ?_
    rintro x w' ⟨rfl, hb⟩
    exact ⟨[], _, [], rfl, OwnEn.nil _ _, ⟨⟨rfl, rfl⟩, fun h => absurd h (Nat.lt_irrefl 0), by simp, by simp [totalE], fun h => absurd h (Nat.lt_irrefl 0)⟩, fun h => absurd rfl h, hb⟩
  · obtain ⟨ents, bs0, hn⟩ := ta.node
    refine (read_any B w t p root n f ht hm d b es bs ents bs0 hn h.deep h.ok h.rises lv fk u h.olv h.ofk (h.ou.imp id fun h => h.2) h.bytes).mono ?_
    rintro x w' ⟨v, rfl, hv, hb⟩
    exact ⟨ents, v, bs0, rfl, hv, ⟨hn.nd, fun _ => hn.some_, hn.few h.ok, hn.fit, hn.two⟩, fun _ => hn.all, hb⟩
theorem kid_spot {f : Nat → Option KB} {d : Nat} {ks : List Kid} {es : List En} {u : List Nat} (ht : ∀ k ∈ ks, TreeIs f d k.b k.es k.bs) (he : es = pairs ks) (hr : Rises es) (ho : OkAll es) (hd : d ≤ 200) (hu : u = [] ∨ ∀ e ∈ es, ltB e.1 u = true) (hu8 : ∀ x ∈ u, x < 256) (j : Nat) (hj : j < ks.length) :
    SpotOk f d ks[j].b ks[j].es ks[j].bs (d + 1) (ks[j].es.headD ([], [])).1 (nextU (leads ks) j u) := by
  have hmem : ks[j] ∈ ks := List.getElem_mem hj
  have tx := ht _ hmem
  have hr' := hr
  have sub : ∀ e ∈ ks[j].es, e ∈ es := fun e h => by rw [he]; exact kid_in hmem h
  have rx : Rises ks[j].es := by
    rw [he] at hr
    refine List.Pairwise.sublist ?_ hr
    exact List.sublist_flatten_of_mem (List.mem_map.2 ⟨ks[j], hmem, rfl⟩)
  refine ⟨.inr tx, hd, fun e h => ho e (sub e h), rx, .inr rfl, .inr rfl, ?_, ?_⟩
  · unfold nextU
    rcases Nat.lt_or_ge (j + 1) ks.length with h1 | h1
    · have : (leads ks)[j + 1]? = some ks[j + 1].lead := by unfold leads; rw [List.getElem?_map, List.getElem?_eq_getElem h1]; rfl
      rw [this]
      refine .inr ⟨by have := tx.top.1; omega, fun e h => ?_⟩
      have ek : ks = ks.take (j + 1) ++ ks.drop (j + 1) := (List.take_append_drop _ _).symm
      rw [he, ek, pairs_append] at hr'
      obtain ⟨_, _, r3⟩ := rises_append.1 hr'
      have m1 : ks[j] ∈ ks.take (j + 1) := by
        rw [List.take_succ_eq_append_getElem hj]; exact List.mem_append_right _ (List.mem_singleton.2 rfl)
      have m2 : ks[j + 1] ∈ ks.drop (j + 1) := by
        rw [List.drop_eq_getElem_cons h1]; exact List.mem_cons_self
      exact r3 e (kid_in m1 h) (ks[j + 1].es.headD ([], [])) (kid_in m2 (head_mem (ht _ (List.getElem_mem h1)).top.2.2.1))
    · have : (leads ks)[j + 1]? = none := by unfold leads; rw [List.getElem?_map, List.getElem?_eq_none h1]; rfl
      rw [this]
      exact hu.imp id fun h => ⟨by have := tx.top.1; omega, fun e he => h e (sub e he)⟩
  · unfold nextU
    rcases Nat.lt_or_ge (j + 1) ks.length with h1 | h1
    · have : (leads ks)[j + 1]? = some ks[j + 1].lead := by unfold leads; rw [List.getElem?_map, List.getElem?_eq_getElem h1]; rfl
      rw [this]
      have m2 : ks[j + 1] ∈ ks := List.getElem_mem h1
      exact (ho (ks[j + 1].es.headD ([], [])) (by rw [he]; exact kid_in m2 (head_mem (ht _ m2).top.2.2.1))).kb
    · have : (leads ks)[j + 1]? = none := by unfold leads; rw [List.getElem?_map, List.getElem?_eq_none h1]; rfl
      rw [this]
      exact hu8
theorem take_more {X Y : List En} {m : Nat} : ((X.take m) ++ Y).take m = (X ++ Y).take m := by
  rw [List.take_append, List.take_append, List.take_take, Nat.min_self, List.length_take]
  congr 2
  omega
theorem take_full {X Y : List En} {m : Nat} (h : m ≤ (X.take m).length) : X.take m = (X ++ Y).take m := by
  rw [List.length_take] at h
  rw [List.take_append, show m - X.length = 0 by omega, List.take_zero, List.append_nil]
abbrev PS : List TypeId := [51]
/-- What a scan leaves. -/
def ScanE (w0 w : World) (res : List En) (x : Ending) (w' : World) : Prop := ∃ v', x = .returned v' ∧ OwnP w' w0.heap.size v' res ∧ KpS PS w0.heap.size w w'
set_option maxRecDepth 100000 in
set_option maxHeartbeats 3200000 in
theorem scan_leaf (B : Nat) (w0 : World) (t p root n : Nat) (f : Nat → Option KB) (ht : TreeO w0 t p root) (hm : MemAt B w0 p n f) (k : List Nat) (hk : ∀ x ∈ k, x < 256) (most : Nat) (hm0 : 0 < most) (hmm : most ≤ 9223372036854775807)
    (w : World) (hw : KpS PS w0.heap.size w0 w) (b : Nat) (es : List En) (bs : List Nat) (lv : Nat) (fk u : List Nat) (hs : SpotOk f 0 b es bs lv fk u) (v : Value) (acc : List En) (hv : OwnP w w0.heap.size v acc) (ha : acc.length ≤ most) (hl : acc.length + es.length ≤ 50000) :
    Calls Tryd.prog 33 #[.pointer (some ⟨t, 0, none⟩), spV b lv fk u, .string (strB k), .int .i64 (most : Nat), v] w (ScanE w0 w ((acc ++ fromE es k).take most)) := by
  have TO : Hid (TreeO w t p root) := hw.held ht (by decide)
  have MA := Lib.hid (hw.mem hm (by decide) (by decide) (by decide))
  have RD := Lib.hid (fun W (hW : Below w.heap.size w W) => read_at B W t p root n f (TO.out.below hW) (MA.out.under hW) hs)
  have HV := Lib.hid hv
  have HK := Lib.hid hk
  have SP := Lib.hid hs
  have SW : Hid (w0.heap.size ≤ w.heap.size) := hw.size
  obtain ⟨Av, cv, rfl, _, _⟩ := hv.any
  unfold spV at RD ⊢
  clear ht hm hw hv hk hs
  have BA : Hid (∀ o, Below w.heap.size w (w.alloc o)) := fun o => (Below.refl _ _).alloc (Nat.le_refl _) o
  go_enter Tryd.func33, Tryd.ntmps33
  go_wp2_with fail
  refine (RD.out _ (BA.out _)).mono ?_
  rintro x w2 ⟨ents, vn, bs0, rfl, ho2, hE, _, hb2⟩
  have B2 : Hid (Below w.heap.size w w2) := (BA.out _).trans (hb2.mono (BA.out _).size)
  obtain ⟨An, cn, rfl, _, hEA⟩ := ho2.any
  have HE := Lib.hid hE
  have few := hE.few
  have EOK := Lib.hid (hE.nd.ok SP.out.ok)
  have ERS := Lib.hid (hE.nd.rises SP.out.rises)
  have EE : Hid (ents = es) := hE.nd.1
  have e1 : (((0 + 1 : Nat) : Int)) = 1 := rfl
  obtain ⟨q, hq⟩ : ∃ q, q = w2.heap.size := ⟨_, rfl⟩
  obtain ⟨w3, hw3⟩ : ∃ w3, w3 = w2.alloc (.cells #[.int .i64 1, .slice An ents.length cn, .string (strB u)] 79) := ⟨_, rfl⟩
  have B3 : Hid (Below w.heap.size w w3) := by rw [hw3]; exact B2.out.alloc B2.out.size _
  have N3 : Hid (Held w3 q 79 #[.int .i64 1, .slice An ents.length cn, .string (strB u)]) := by rw [hw3]; exact Held.new _ _ _ hq
  have O3 : Hid (OwnEn w3 w.heap.size (.slice An ents.length cn) ents) := by rw [hw3]; exact (ho2.below_ ((Below.refl _ _).alloc (Nat.le_refl _) _)).base_ (BA.out _).size
  have E3 : Hid (EAt w3 An ents) := by rw [hw3]; exact hEA.below ((Below.refl _ _).alloc (Nat.le_refl _) _)
  have FD := Lib.hid (find_any w3 1 u An cn ents E3.out ERS.out (fun e he => (EOK.out e he).kb) (by omega) k HK.out)
  have HQ := Lib.hid hq
  have HW := Lib.hid hw3
  unfold noV at FD
  rw [e1]
  clear ho2 hE hb2 hEA hq hw3 e1 RD
  go_upto_region 2 with fail
  rw [← HW.out, ← HQ.out]
  have n0 := N3.out.cell 0
  have n1 := N3.out.cell 1
  have n2 := N3.out.cell 2
  go_wp2_with fail
  refine FD.out.mono ?_
  rintro x w5 ⟨i, hi, rfl, hb5⟩
  have SI := Lib.hid hi
  have ile := hi.le
  have N5 := Lib.hid (Held.below N3.out hb5 N3.out.lt)
  have E5 := Lib.hid (E3.out.below hb5)
  have O5 := Lib.hid (O3.out.below_ hb5)
  have B5 : Hid (Below w.heap.size w w5) := B3.out.trans (hb5.mono B3.out.size)
  have V5 := Lib.hid (HV.out.below_ B5.out)
  clear hi hb5 FD n0 n1 n2
  have n1 := N5.out.cell 1
  have li : (i : Int) ≤ (ents.length : Int) := by omega
  have FE : Hid (fromE es k = ents.drop i) := by show _ = _; rw [← EE.out]; exact fromE_spot SI.out
  rcases Nat.lt_or_ge i ents.length with hlt | hge
  · obtain ⟨g, off, rfl, _, _⟩ := E5.out.at_ hlt
    have E6 := Lib.hid (E5.out.drop_ i)
    have nc : ¬ cn = i := by omega
    obtain ⟨ds, hds⟩ : ∃ ds, ds = ents.drop i := ⟨_, rfl⟩
    have ld : ds.length = ents.length - i := by rw [hds, List.length_drop]
    rw [← hds] at FE E6
    have LD := Lib.hid ld
    have DS := Lib.hid hds
    have mle : ds.length ≤ 1000 := by omega
    have EL : Hid (ents.length = es.length) := by show _ = _; rw [EE.out]
    have hl2 : acc.length + ds.length ≤ 50000 := by have := EL.out; omega
    clear hds
    go_wp2_with fail
    rw [← LD.out]
    clear ld n1
    go_loopw [4, 34] (fun v4 vi wr => ∃ j : Nat, j ≤ ds.length ∧ vi = .int .i64 j ∧ acc.length + j ≤ most ∧ (∃ A c, v4 = .slice A (acc.length + j) c ∧ acc.length + j ≤ c) ∧ Hid (OwnP wr w0.heap.size v4 (acc ++ ds.take j) ∧ KpS PS w0.heap.size w wr ∧ KpS PS w0.heap.size w5 wr)) (fun _ vi _ => ds.length - (intOf vi).toNat)
    case atStart => exact ⟨0, Nat.zero_le _, rfl, by omega, ⟨Av, cv, rfl, by omega⟩, by rw [List.take_zero, List.append_nil]; exact V5.out, KpS.under B5.out, KpS.refl _ _ _⟩
    case round =>
      obtain ⟨j, hj, rfl, hjm, ⟨A4, c4, rfl, hc4⟩, G⟩ := hrel
      by_cases hlt2 : j < ds.length
      · have lk : (j : Int) < (ds.length : Int) := by omega
        have E7 : EAt wr (some ⟨g, off + i * 2, none⟩) ds := by
          have hO : OwnEn wr w.heap.size (.slice (some ⟨g, off, none⟩) ents.length cn) ents := G.out.2.2.row O5.out (by decide)
          obtain ⟨A', c', e, _, hEA'⟩ := hO.any
          cases e
          have := hEA'.drop_ i
          rwa [← DS.out] at this
        obtain ⟨g', off', eg, x0, x1⟩ := E7.at_ hlt2
        cases eg
        have G1 : Hid (OwnP wr w0.heap.size (.slice A4 (acc.length + j) c4) (acc ++ ds.take j)) := G.out.1
        have G2 : Hid (KpS PS w0.heap.size w wr) := G.out.2.1
        have G3 : Hid (KpS PS w0.heap.size w5 wr) := G.out.2.2
        have TK : Hid (acc ++ ds.take j ++ [ds[j]] = acc ++ ds.take (j + 1)) := by
          show _ = _
          rw [List.append_assoc, List.take_succ_eq_append_getElem hlt2]
        have LT : Hid ((acc ++ ds.take j).length = acc.length + j) := by show _ = _; rw [List.length_append, List.length_take]; omega
        clear G E7
        generalize ds[j] = e at *
        obtain ⟨ek, ev⟩ := e
        go_upto_region 7 with fail
        obtain ⟨r, hr⟩ : ∃ r, r = wr.heap.size := ⟨_, rfl⟩
        obtain ⟨wq, hwq⟩ : ∃ wq, wq = wr.alloc (.cells #[.string (strB ek), .string (strB ev)] 77) := ⟨_, rfl⟩
        have RQ : Hid (Held wq r 77 #[.string (strB ek), .string (strB ev)]) := by rw [hwq]; exact Held.new _ _ _ hr
        have BQ : Hid (Below wr.heap.size wr wq) := by rw [hwq]; exact (Below.refl _ _).alloc (Nat.le_refl _) _
        have P1 := Lib.hid (G1.out.below_ BQ.out)
        have K2 : Hid (KpS PS w0.heap.size w wq) := G2.out.trans (KpS.under BQ.out)
        have K3 : Hid (KpS PS w0.heap.size w5 wq) := G3.out.trans (KpS.under BQ.out)
        rw [← hwq, ← hr]
        have z0 := RQ.out.cell 0
        have z1 := RQ.out.cell 1
        clear hwq hr x0 x1
        by_cases hfull : acc.length + j = most
        · have hf2 : (acc.length : Int) + (j : Int) = (most : Int) := by omega
          have RES : Hid ((acc ++ fromE es k).take most = acc ++ ds.take j) := by
            show _ = _
            rw [FE.out, List.take_append, List.take_of_length_le ha]
            congr 2
            omega
          go_wp2_with fail
          go_ret
          exact ⟨_, rfl, by rw [RES.out]; exact P1.out, K2.out⟩
        · have hf2 : ¬ (acc.length : Int) + (j : Int) = (most : Int) := by omega
          obtain ⟨w9, hw9⟩ : ∃ w9, w9 = wq.alloc (.cells #[.string (strB ek), .string (strB ev)] 51) := ⟨_, rfl⟩
          have U9 : Hid (Below wq.heap.size wq w9) := by rw [hw9]; exact (Below.refl _ _).alloc (Nat.le_refl _) _
          have P9 := Lib.hid (P1.out.below_ U9.out)
          have V9 : Hid (PAt w9 (some ⟨wq.heap.size, 0, none⟩) [(ek, ev)]) := fun _ => ⟨wq.heap.size, 0, rfl, by rw [hw9]; simp, fun x u hx => by
            rw [Nat.zero_add, hw9, (Held.new wq 51 #[.string (strB ek), .string (strB ev)] rfl).cell, ← List.getElem?_toArray] at *
            exact hx⟩
          have K92 : Hid (KpS PS w0.heap.size w w9) := K2.out.trans (KpS.under U9.out)
          have K93 : Hid (KpS PS w0.heap.size w5 w9) := K3.out.trans (KpS.under U9.out)
          have SZ : Hid (w0.heap.size ≤ w9.heap.size) := Nat.le_trans SW.out K92.out.size
          have HW9 := Lib.hid hw9
          clear hw9
          go_wp2_with (at_builtin; rw [← HW9.out]; refine wpList_append_p rfl (o := ⟨some 49, _, _, _, _, _⟩) (.tmp 42) (.tmp 48) rfl w0.heap.size _ _ rfl P9.out (some ⟨wq.heap.size, 0, none⟩) 1 1 [(ek, ev)] rfl rfl V9.out (by rw [LT.out]; omega) SZ.out ?_; intro v4 w4 hown4 hg4; have K4 : Hid (KpS PS w0.heap.size w w4) := K92.out.grown P9.out hg4 (by simp) (Nat.le_refl _); have K43 : Hid (KpS PS w0.heap.size w5 w4) := K93.out.grown P9.out hg4 (by simp) (Nat.le_refl _); rw [TK.out] at hown4; have OW4 := Lib.hid hown4; obtain ⟨A5, c5, hv5, hc5, _⟩ := hown4.any; have l5 : (acc ++ ds.take (j + 1)).length = acc.length + (j + 1) := (by rw [List.length_append, List.length_take]; omega); rw [l5] at hv5 hc5; have HV5 := Lib.hid hv5; clear hown4 hg4 hv5 l5)
          go_roundw
          case rel => exact ⟨j + 1, by omega, by go_num, by omega, ⟨A5, c5, HV5.out, hc5⟩, OW4.out, K4.out, K43.out⟩
          case measure => simp [intOf]; omega
      · obtain rfl : j = ds.length := by omega
        have RES : Hid ((acc ++ fromE es k).take most = acc ++ ds) := by
          show _ = _
          rw [FE.out, List.take_of_length_le]
          rw [List.length_append]; omega
        rw [List.take_length] at G
        have GG := Lib.hid G.out
        clear G
        go_wp2_with fail
        go_ret
        exact ⟨_, rfl, by rw [RES.out]; exact GG.out.1, GG.out.2.1⟩
  · obtain rfl : i = ents.length := by omega
    have RES : Hid ((acc ++ fromE es k).take most = acc) := by
      show _ = _
      rw [FE.out, List.drop_length, List.append_nil, List.take_of_length_le ha]
    have FIN : Hid (OwnP w5 w0.heap.size (.slice Av acc.length cv) acc ∧ KpS PS w0.heap.size w w5) := ⟨V5.out, KpS.under B5.out⟩
    by_cases cc : cn = ents.length
    all_goals
      go_wp2_with fail
      go_loopw [4, 34] (fun v4 vi wr => v4 = .slice Av acc.length cv ∧ vi = .int .i64 0 ∧ wr = w5) (fun _ _ _ => 0)
      case atStart => exact ⟨rfl, rfl, rfl⟩
      case round =>
        obtain ⟨rfl, rfl, rfl⟩ := hrel
        go_wp2_with fail
        go_ret
        exact ⟨_, rfl, by rw [RES.out]; exact FIN.out.1, FIN.out.2⟩
end Go.Proofs.YtnogmgnbhcmajaaDoor
