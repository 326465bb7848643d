/-
  The law's list of blobs, in a row of the call's own.
-/
import Derived.Test.YtlofpbmceipkkaaM33
namespace Go.Proofs.Ytlofpbmceipkkaa
open Go.RowKit Wal Blob

/-- A blob that there is, as the law holds it. -/
structure BL where
  h : Nat
  parts : List Nat
  l : List Nat
def rowH (bl : List BL) : List Value := bl.flatMap fun b => [.int .i64 (b.h : Int), strV b.l]
theorem rowH_length (bl : List BL) : (rowH bl).length = bl.length * 2 := by
  induction bl with
  | nil => rfl
  | cons b r ih => unfold rowH at ih ⊢; rw [List.flatMap_cons, List.length_append, ih]; simp; omega
theorem rowH_append (a b : List BL) : rowH (a ++ b) = rowH a ++ rowH b := by unfold rowH; rw [List.flatMap_append]
theorem rowH_at (bl : List BL) (k : Nat) (b : BL) (h : bl[k]? = some b) : (rowH bl)[k * 2]? = some (.int .i64 (b.h : Int)) ∧ (rowH bl)[k * 2 + 1]? = some (strV b.l) := by
  induction bl generalizing k with
  | nil => simp at h
  | cons x r ih =>
    have e : rowH (x :: r) = .int .i64 (x.h : Int) :: strV x.l :: rowH r := rfl
    rw [e]
    rcases k with _ | k
    · have : x = b := by simpa using h
      subst this
      exact ⟨rfl, rfl⟩
    · have h2 : r[k]? = some b := by simpa using h
      have := ih k h2
      rw [show (k + 1) * 2 = k * 2 + 1 + 1 by omega]
      exact ⟨this.1, this.2⟩
theorem infoH : (Try.prog.info? 35).map (fun i => (i.zero, i.size, i.bytes)) = some (some (.agg #[.int .i64 0, .string ⟨#[]⟩]), 2, 24) := by kernel_rfl
/-- Cells that hold a list of blobs. -/
def HAt (w : World) (A : Option Addr) (bl : List BL) : Prop := 0 < bl.length → ∃ g off, A = some ⟨g, off, none⟩ ∧ g < w.heap.size ∧ ∀ j u, (rowH bl)[j]? = some u → w.cell? ⟨g, off + j, none⟩ = some u
def OwnH (w : World) (base : Nat) (v : Value) (bl : List BL) : Prop := w.ownsRow base 35 2 v bl.length (rowH bl)
section
variable {w w' : World} {base : Nat} {v : Value} {bl : List BL} {A : Option Addr}
theorem OwnH.nil (w : World) (base : Nat) : OwnH w base (.slice none 0 0) [] := ⟨rfl, .inl ⟨rfl, rfl⟩⟩
theorem OwnH.any (h : OwnH w base v bl) : ∃ A c, v = .slice A bl.length c ∧ bl.length ≤ c ∧ HAt w A bl := by
  rcases h.2 with ⟨rfl, h0⟩ | ⟨g, cap, cur, rfl, hg, hh, hn, hcap, hsz, htake⟩
  · exact ⟨none, 0, by rw [h0], by omega, fun hp => by omega⟩
  · refine ⟨_, cap, rfl, hn, fun _ => ⟨g, 0, rfl, (Array.getElem?_eq_some_iff.1 hh).1, fun j u hu => ?_⟩⟩
    have hj := (List.getElem?_eq_some_iff.1 hu).1
    rw [rowH_length] at hj
    rw [← htake, List.getElem?_take, if_pos hj] at hu
    rw [Nat.zero_add, cell_of_row w g j cur _ _ hh, ← Array.getElem?_toList]
    exact hu
theorem OwnH.kp {B : Nat} (h : OwnH w base v bl) (k : Kp B w w') : OwnH w' base v bl := k.row h (by decide) (by decide)
theorem OwnH.lt (h : OwnH w base v bl) : ∀ g, v.ownBlock = some g → base ≤ g ∧ g < w.heap.size := World.ownsRow.lt h
theorem OwnH.alloc (h : OwnH w base v bl) (o : Obj) : OwnH (w.alloc o) base v bl := World.ownsRow.alloc h o
theorem HAt.below (h : HAt w A bl) (k : Below w.heap.size w w') : HAt w' A bl := fun hp => by
  obtain ⟨g, off, e, hl, hc⟩ := h hp
  exact ⟨g, off, e, Nat.lt_of_lt_of_le hl k.size, fun j u hu => (k.cell (p := ⟨g, off + j, none⟩) hl).trans (hc j u hu)⟩
theorem HAt.at_ (h : HAt w A bl) {k : Nat} (hk : k < bl.length) : ∃ g off, A = some ⟨g, off, none⟩ ∧ w.cell? ⟨g, off + k * 2, none⟩ = some (.int .i64 (bl[k].h : Int)) ∧ w.cell? ⟨g, off + k * 2 + 1, none⟩ = some (strV bl[k].l) := by
  obtain ⟨g, off, e, _, hc⟩ := h (by omega)
  obtain ⟨a, b⟩ := rowH_at bl k bl[k] (List.getElem?_eq_getElem hk)
  exact ⟨g, off, e, hc _ _ a, by rw [Nat.add_assoc]; exact hc _ _ b⟩
theorem HAt.take_ (h : HAt w A bl) (k : Nat) : HAt w A (bl.take k) := fun hp => by
  rw [List.length_take] at hp
  obtain ⟨g, off, e, hl, hc⟩ := h (by omega)
  refine ⟨g, off, e, hl, fun j u hu => hc j u ?_⟩
  have : rowH bl = rowH (bl.take k) ++ rowH (bl.drop k) := by rw [← rowH_append, List.take_append_drop]
  rw [this, List.getElem?_append_left (List.getElem?_eq_some_iff.1 hu).1]
  exact hu
theorem HAt.drop_ {g off : Nat} (h : HAt w (some ⟨g, off, none⟩) bl) (k : Nat) : HAt w (some ⟨g, off + k * 2, none⟩) (bl.drop k) := fun hp => by
  rw [List.length_drop] at hp
  obtain ⟨g', off', e, hl, hc⟩ := h (by omega)
  cases e
  refine ⟨g, off + k * 2, rfl, hl, fun j u hu => ?_⟩
  rw [Nat.add_assoc]
  refine hc _ _ ?_
  have : rowH bl = rowH (bl.take k) ++ rowH (bl.drop k) := by rw [← rowH_append, List.take_append_drop]
  rw [this, List.getElem?_append_right (by rw [rowH_length, List.length_take]; omega), rowH_length, List.length_take, show k * 2 + j - min k bl.length * 2 = j by omega]
  exact hu
/-- append(v, x...). -/
theorem run_append_h (base : Nat) (ty : TypeId) (v : Value) (k : List BL) (hown : OwnH w base v k) (A : Option Addr) (m c : Nat) (l : List BL) (hl : l.length = m) (hA : HAt w A l) (hr : k.length + m ≤ 100000) (hbase : base ≤ w.heap.size) :
    ∃ v' w', (Builtin.append_ #[26, 26] ty #[v, .slice A m c]).run Try.prog w = .ok v' w' ∧ OwnH w' base v' (k ++ l) ∧ w.grownBy w' v.ownBlock := by
  obtain ⟨i, hi, hz, hsize, hby⟩ := info_parts infoH
  rcases A with _ | ad
  · have hm : l = [] := by
      rcases l with _ | ⟨x, l⟩
      · rfl
      · obtain ⟨g, off, h, _⟩ := hA (by simp)
        cases h
    subst hm
    obtain rfl : m = 0 := hl.symm
    refine ⟨v, w, ?_, by rw [List.append_nil]; exact hown, World.grownBy.refl w _⟩
    rcases hown.2 with ⟨rfl, _⟩ | ⟨g, cap, cur, rfl, _, _, hnc, _⟩
    · simp [Builtin.append_, run_underlying Try.underlying26, sizeOf, typeInfo, hi, Builtin.lenOf, Builtin.firstCells]
    · simp [Builtin.append_, run_underlying Try.underlying26, sizeOf, typeInfo, hi, Builtin.lenOf, Builtin.firstCells, hnc, storeCells]
  · obtain ⟨v', w', hrun, h2, h3, _, h5⟩ := run_append_own_at (P := Try.prog) w base 26 ty 35 i (.agg #[.int .i64 0, .string ⟨#[]⟩]) 2 24 Try.underlying26 hi hz hsize hby rfl (by omega) v k.length (rowH k) hown ad m c (rowH l) (by rw [rowH_length, hl])
      (fun j u hu => by
        have hj := (List.getElem?_eq_some_iff.1 hu).1
        rw [rowH_length] at hj
        obtain ⟨g, off, e, _, hc⟩ := hA (by omega)
        cases e
        rw [WideShapes.add_plain]
        exact hc j u hu)
      (fun u hu => by
        obtain ⟨b, _, hb⟩ := List.mem_flatMap.1 hu
        rcases List.mem_cons.1 hb with rfl | hb
        · rfl
        · have : u = strV b.l := by simpa using hb
          rw [this]; rfl) (by simp only [maxLen]; omega) (by omega) hbase
    exact ⟨v', w', hrun, by unfold OwnH; rw [List.length_append, rowH_append, hl]; exact h2, h3⟩
end
set_option maxRecDepth 100000 in
theorem wpList_append_h {w : World} {ops : Array Oper} {rest : List Oper} {o : Oper} {a : Act} {Q : Exit → Act → World → Prop} (hgd : o.guard = none) (s x : Operand)
    (ho : o.op = .call { callee := .builtin .append, args := #[s, x], argTypes := #[26, 26] })
    (base : Nat) (v : Value) (k : List BL) (hs : a.eval s = v) (hown : OwnH w base v k)
    (A : Option Addr) (m c : Nat) (l : List BL) (hx : a.eval x = .slice A m c) (hl : l.length = m) (hA : HAt w A l) (hr : k.length + m ≤ 100000) (hbase : base ≤ w.heap.size)
    (h : ∀ v' w', OwnH w' base v' (k ++ l) → w.grownBy w' v.ownBlock → wpList Try.prog ops Q rest (a.put o.dst v') w') : wpList Try.prog ops Q (o :: rest) a w := by
  obtain ⟨v', w', hrun, h2, h3⟩ := run_append_h base o.type v k hown A m c l hl hA hr hbase
  refine wpList_plain hgd fun _ hK => ?_
  unfold Oper.wp execOp
  simp only [ho, resolve, invoke, builtin, Sem.run_bind, Sem.run_pure, Result.andThen_ok, List.map_toArray, List.map_cons, List.map_nil, hs, hx, hrun]
  exact hK _ _ (h v' w' h2 h3)
theorem grownH_held {w w' : World} {base : Nat} {v : Value} {bl : List BL} (h : OwnH w base v bl) (hg : w.grownBy w' v.ownBlock) {r t : Nat} {cs : Array Value} (k : Held w r t cs) (ht : t ≠ 35) : Held w' r t cs :=
  (hg.block r k.lt (fun q => Held.ne_row k h (Ne.symm ht) r q.symm rfl)).trans k
theorem MemAt.grownH_ {B p n : Nat} {f : Nat → Option KB} {w w' : World} {base : Nat} {v : Value} {bl : List BL} (m : MemAt B w p n f) (h : OwnH w base v bl) (hg : w.grownBy w' v.ownBlock) : MemAt B w' p n f := by
  obtain ⟨g, ad, m⟩ := m
  exact ⟨g, ad, grownH_held h hg m.blk (by decide), grownH_held h hg m.row (by decide), fun i x hx => by
    obtain ⟨a1, a2, a3⟩ := m.each i x hx
    exact ⟨a1, grownH_held h hg a2 (by decide), a3⟩, m.inj, m.base, m.small⟩

/-- How many blocks all of them have. -/
def usedL (bl : List BL) : Nat := (bl.map fun b => needL b.l.length).sum
/-- The store is these blobs, each on blocks of its own. -/
structure Good (n : Nat) (f : Nat → Option KB) (bl : List BL) : Prop where
  each : ∀ b ∈ bl, There n f b.h b.parts b.l
  apart : bl.Pairwise fun a b => ∀ v ∈ allB a.h a.parts, v ∉ allB b.h b.parts
  used : cnt n f = usedL bl
theorem Good.nil (n : Nat) : Good n (fun _ => none) [] := ⟨by simp, List.Pairwise.nil, cnt_none n⟩
theorem usedL_append (a b : List BL) : usedL (a ++ b) = usedL a + usedL b := by unfold usedL; rw [List.map_append, List.sum_append]
theorem Good.more {n : Nat} {f f' : Nat → Option KB} {bl : List BL} (g : Good n f bl) {h : Nat} {parts l : List Nat} (la : Laid n f f' h parts l) : Good n f' (bl ++ [⟨h, parts, l⟩]) := by
  refine ⟨fun b hb => ?_, List.pairwise_append.2 ⟨g.apart, List.pairwise_singleton _ _, fun a ha b hb => ?_⟩, ?_⟩
  · rcases List.mem_append.1 hb with hb | hb
    · exact la.keep (g.each b hb)
    · have : b = ⟨h, parts, l⟩ := by simpa using hb
      subst this
      exact la.there
  · have : b = ⟨h, parts, l⟩ := by simpa using hb
    subst this
    exact la.apart (g.each a ha)
  · rw [la.cnt_, g.used, usedL_append]
    rfl
theorem Good.less {n : Nat} {f : Nat → Option KB} {bl : List BL} (g : Good n f bl) (hl : ∀ i k, f i = some k → i < n) {k : Nat} (hk : k < bl.length) : Good n (wipe f (allB bl[k].h bl[k].parts)) (bl.take k ++ bl.drop (k + 1)) := by
  have e : bl = bl.take k ++ (bl[k] :: bl.drop (k + 1)) := by rw [← List.drop_eq_getElem_cons hk, List.take_append_drop]
  have ap := g.apart
  rw [e] at ap
  obtain ⟨p1, p2, p3⟩ := List.pairwise_append.1 ap
  obtain ⟨q1, q2⟩ := List.pairwise_cons.1 p2
  have tk := g.each bl[k] (List.getElem_mem hk)
  refine ⟨fun b hb => ?_, List.pairwise_append.2 ⟨p1, q2, fun a ha b hb => p3 a ha b (List.mem_cons_of_mem _ hb)⟩, ?_⟩
  · rcases List.mem_append.1 hb with hb | hb
    · exact (g.each b (List.mem_of_mem_take hb)).wipe_ (fun v hv => p3 b hb bl[k] List.mem_cons_self v hv)
    · exact (g.each b (List.mem_of_mem_drop hb)).wipe_ (fun v hv hv' => q1 b hb v hv' hv)
  · have h1 := tk.wiped hl
    have h2 := g.used
    have h3 : usedL bl = usedL (bl.take k) + (needL bl[k].l.length + usedL (bl.drop (k + 1))) := by
      conv => lhs; rw [e]
      rw [usedL_append]
      rfl
    rw [usedL_append]
    omega
end Go.Proofs.Ytlofpbmceipkkaa
