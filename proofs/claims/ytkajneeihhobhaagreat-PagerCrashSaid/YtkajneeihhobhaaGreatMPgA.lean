/-
  pager: a map from numbers to blocks of 512 bytes, in memory: how it is looked up and stored into. · pager: a pager and its open transaction in memory; the contracts of the small calls. · pager: the contracts of has, heed, read, and of a transaction's Read and Write.
-/
import Derived.Test.YtkajneeihhobhaaGreatMWalC
import Derived.Maps.OwnSet
import Derived.Maps.Views
import Derived.Maps.Keyed
import Derived.Deep.WholeRow
import Derived.Deep.MidRow
import Derived.BigQuiet
import Derived.Deep.QuietTactic
import Derived.LaidEqlPtr
import Derived.Test.YtkajneeihhobhaaGreatMBase
import Derived.Deep.CutRange
import Derived.Deep.DeepCutAuto
namespace Go.Proofs.YtkajneeihhobhaaGreat
open Go.RowKit Go.Maps

/-- A block's value. -/
def blkV (l : List Nat) : Value := .agg (l.map u8v).toArray
/-- A text of just 512 bytes. -/
structure Blk (l : List Nat) : Prop where
  len : l.length = 512
  bytes : ∀ x ∈ l, x < 256
theorem Blk.sec {l : List Nat} (h : ∀ x ∈ l, x < 256) : Blk (sec l) := ⟨sec_length l, sec_bytes h⟩
theorem Blk.zero : Blk (Go.Proofs.YtkajneeihhobhaaGreat.sec []) := Blk.sec (fun _ h => by cases h)
theorem u8v_inj {x y : Nat} (h : u8v x = u8v y) : x = y := by
  unfold u8v at h
  injection h with _ h
  omega
theorem map_u8v_inj : ∀ {l m : List Nat}, l.map u8v = m.map u8v → l = m
  | [], [], _ => rfl
  | [], _ :: _, h => by simp at h
  | _ :: _, [], h => by simp at h
  | x :: l, y :: m, h => by
    simp only [List.map_cons, List.cons.injEq] at h
    rw [u8v_inj h.1, map_u8v_inj h.2]
theorem blkV_inj {l m : List Nat} (h : blkV l = blkV m) : l = m := by
  unfold blkV at h
  injection h with h
  exact map_u8v_inj (by simpa using h)
/-- What a block reads as, in a map. -/
def blkD (l : List Nat) : DataW Unit := .agg (l.map fun (x : Nat) => .lit (.int .u8 (x : Int)))
theorem blkD_inj {l m : List Nat} (h : blkD l = blkD m) : l = m := by
  unfold blkD at h
  injection h with h
  have : ∀ {l m : List Nat}, l.map (fun (x : Nat) => (DataW.lit (.int .u8 (x : Int)) : DataW Unit)) = m.map (fun (x : Nat) => .lit (.int .u8 (x : Int))) → l = m := by
    intro l
    induction l with
    | nil => intro m h; cases m with
      | nil => rfl
      | cons _ _ => simp at h
    | cons x l ih => intro m h; cases m with
      | nil => simp at h
      | cons y m =>
        simp only [List.map_cons, List.cons.injEq, DataW.lit.injEq, Lit.int.injEq, true_and] at h
        rw [ih h.2]
        congr 1
        omega
  exact this h
open Classical in
noncomputable def blkElem (v : Value) : Option (DataW Unit × List MemPlace) := if h : ∃ l, Blk l ∧ v = blkV l then some (blkD h.choose, []) else none
theorem blkElem_mk {l : List Nat} (h : Blk l) : blkElem (blkV l) = some (blkD l, []) := by
  have hx : ∃ m, Blk m ∧ blkV l = blkV m := ⟨l, h, rfl⟩
  unfold blkElem
  rw [dif_pos hx, ← blkV_inj hx.choose_spec.2]
theorem blkElem_inv {v : Value} {z : DataW Unit × List MemPlace} (h : blkElem v = some z) : ∃ l, Blk l ∧ v = blkV l ∧ z = (blkD l, []) := by
  unfold blkElem at h
  split at h
  · rename_i hx
    injection h with h
    exact ⟨hx.choose, hx.choose_spec.1, hx.choose_spec.2, h.symm⟩
  · cases h

/-- The key of number k. -/
def keyN (k : Nat) : Lit := .int .i64 (k : Int)
theorem keyN_inj {a b : Nat} (h : keyN a = keyN b) : a = b := by
  unfold keyN at h
  injection h with _ h
  omega
theorem sameKey_keyN (a b : Nat) : (keyN a).sameKey (keyN b) = decide (a = b) := by
  unfold keyN Lit.sameKey
  rw [decide_eq_decide]
  constructor
  · rintro ⟨_, h⟩
    omega
  · intro h
    exact ⟨rfl, by omega⟩
/-- The entries es tell just the blocks of f, by numbers below N. -/
structure Tells4 (es : List (Lit × DataW Unit)) (N : Nat) (f : Nat → Option (List Nat)) : Prop where
  apart : es.Pairwise (fun p q => p.1 ≠ q.1)
  at_ : ∀ p ∈ es, ∃ k l, k < N ∧ Blk l ∧ f k = some l ∧ p = (keyN k, blkD l)
  all : ∀ k l, f k = some l → (keyN k, blkD l) ∈ es
/-- Block b is a map of blocks, of numbers below N. -/
def MapAt (w : World) (b N : Nat) (f : Nat → Option (List Nat)) : Prop := ∃ es, w.ownsMap Tryz.prog 3 blkElem b N (.map es) ∧ Tells4 es N f
theorem lawI : Keyed Tryz.prog 3 := int_keyed Tryz.underlying3
/-- Different numbers below N are N at most. -/
theorem count_below : ∀ (N : Nat) (l : List Nat), l.Pairwise (· ≠ ·) → (∀ x ∈ l, x < N) → l.length ≤ N := by
  intro N
  induction N with
  | zero => intro l _ h; cases l with
    | nil => simp
    | cons x r => have := h x (by simp); omega
  | succ N ih =>
    intro l hp h
    have h1 := ih (l.filter (fun x => decide (x ≠ N))) (hp.filter _) (fun x hx => by
      obtain ⟨h2, h3⟩ := List.mem_filter.1 hx
      have := h x h2
      have : x ≠ N := by simpa using h3
      omega)
    have key : ∀ (l : List Nat), l.Pairwise (· ≠ ·) → l.length ≤ (l.filter (fun x => decide (x ≠ N))).length + 1 := by
      intro l
      induction l with
      | nil => simp
      | cons x r ih2 =>
        intro hp
        obtain ⟨h4, h5⟩ := List.pairwise_cons.1 hp
        by_cases hx : x = N
        · subst hx
          have : r.filter (fun y => decide (y ≠ x)) = r := List.filter_eq_self.2 (fun y hy => by simpa using (h4 y hy).symm)
          rw [List.filter_cons_of_neg (by simp), this]
          simp
        · have := ih2 h5
          rw [List.filter_cons_of_pos (by simpa using hx)]
          simp only [List.length_cons]
          omega
    have := key l hp
    omega
section
variable {es : List (Lit × DataW Unit)} {N : Nat} {f : Nat → Option (List Nat)}
theorem Tells4.lt (h : Tells4 es N f) {k : Nat} {l : List Nat} (hk : f k = some l) : k < N ∧ Blk l := by
  obtain ⟨k', l', h1, h2, h3, h4⟩ := h.at_ _ (h.all k l hk)
  simp only [Prod.mk.injEq] at h4
  rw [keyN_inj h4.1, blkD_inj h4.2]
  exact ⟨h1, h2⟩
theorem Tells4.has (h : Tells4 es N f) (k : Nat) : has (.map es) (keyN k) = (f k).isSome := by
  rw [has_eq]
  cases hf : f k with
  | none =>
    simp only [Option.isSome_none, List.any_eq_false]
    intro p hp
    obtain ⟨k', l', _, _, h3, rfl⟩ := h.at_ p hp
    rw [sameKey_keyN]
    intro e
    have : k' = k := by simpa using e
    rw [this, hf] at h3
    cases h3
  | some l =>
    simp only [Option.isSome_some, List.any_eq_true]
    exact ⟨_, h.all k l hf, by rw [sameKey_keyN]; simp⟩
theorem Tells4.atKey (h : Tells4 es N f) (k : Nat) (z : List Nat) : (DataW.map es).atKey (keyN k) (blkD z) = blkD ((f k).getD z) := by
  unfold DataW.atKey
  dsimp only
  cases hf : es.find? (fun p => p.1.sameKey (keyN k)) with
  | none =>
    have : f k = none := by
      cases hk : f k with
      | none => rfl
      | some l =>
        have := List.find?_eq_none.1 hf _ (h.all k l hk)
        rw [sameKey_keyN] at this
        simp at this
    rw [this]
    rfl
  | some p =>
    have h1 := List.find?_some hf
    obtain ⟨k', l', _, _, h3, rfl⟩ := h.at_ p (List.mem_of_find?_eq_some hf)
    rw [sameKey_keyN] at h1
    have : k' = k := by simpa using h1
    rw [← this, h3]
    rfl
theorem mem_insert4 (x p : Lit × DataW Unit) : ∀ l, p ∈ DataW.insert x l ↔ p = x ∨ p ∈ l
  | [] => by simp [DataW.insert]
  | y :: r => by
    unfold DataW.insert
    split
    · simp
    · simp only [List.mem_cons, mem_insert4 x p r]
      constructor
      · rintro (h | h | h)
        · exact .inr (.inl h)
        · exact .inl h
        · exact .inr (.inr h)
      · rintro (h | h | h)
        · exact .inr (.inl h)
        · exact .inl h
        · exact .inr (.inr h)
/-- f, with the block l at number k. -/
def upd (f : Nat → Option (List Nat)) (k : Nat) (l : List Nat) : Nat → Option (List Nat) := fun i => if i = k then some l else f i
theorem Tells4.put (h : Tells4 es N f) {k : Nat} {l : List Nat} (hk : k < N) (hl : Blk l) (hT : Tidy ((DataW.map es).put (keyN k) (blkD l))) : ∃ es', (DataW.map es).put (keyN k) (blkD l) = .map es' ∧ Tells4 es' N (upd f k l) := by
  obtain ⟨es', he, hp⟩ := hT
  refine ⟨es', he, hp, ?_, ?_⟩
  all_goals
    unfold DataW.put at he
    dsimp only at he
    injection he with he
    subst he
  · intro p hp
    rcases (mem_insert4 _ _ _).1 hp with rfl | hp
    · exact ⟨k, l, hk, hl, by simp [upd], rfl⟩
    · obtain ⟨hp, hne⟩ := List.mem_filter.1 hp
      obtain ⟨k', l', h1, h2, h3, rfl⟩ := h.at_ p hp
      rw [sameKey_keyN] at hne
      have : k' ≠ k := by simpa using hne
      exact ⟨k', l', h1, h2, by simp [upd, this, h3], rfl⟩
  · intro k' l' hk'
    rw [mem_insert4]
    unfold upd at hk'
    split at hk'
    · rename_i e
      injection hk' with hk'
      exact .inl (by rw [e, hk'])
    · rename_i e
      exact .inr (List.mem_filter.2 ⟨h.all k' l' hk', by rw [sameKey_keyN]; simp [e]⟩)
def keyNat : Lit → Nat
  | .int _ z => z.toNat
  | _ => 0
theorem keyNat_keyN (k : Nat) : keyNat (keyN k) = k := by simp [keyNat, keyN]
theorem Tells4.size (h : Tells4 es N f) : es.length ≤ N := by
  have h1 := count_below N (es.map fun p => keyNat p.1) (by
    rw [List.pairwise_map]
    refine List.Pairwise.imp_of_mem ?_ h.apart
    intro p q hp hq hne e
    obtain ⟨k, l, _, _, _, rfl⟩ := h.at_ p hp
    obtain ⟨k', l', _, _, _, rfl⟩ := h.at_ q hq
    rw [keyNat_keyN, keyNat_keyN] at e
    exact hne (by rw [e])) (fun x hx => by
    obtain ⟨p, hp, rfl⟩ := List.mem_map.1 hx
    obtain ⟨k, l, h2, _, _, rfl⟩ := h.at_ p hp
    rw [keyNat_keyN]
    exact h2)
  rwa [List.length_map] at h1
end

theorem zeroBlk : (Tryz.prog.info? 99).map (fun i => (i.zero, i.size)) = some (some (blkV (Go.Proofs.YtkajneeihhobhaaGreat.sec [])), 512) := by kernel_rfl
section
variable {w w' : World} {b N : Nat} {f : Nat → Option (List Nat)}
theorem MapAt.lt (h : MapAt w b N f) : b < w.heap.size := by
  obtain ⟨es, h, _⟩ := h
  exact h.lt
theorem MapAt.only {F : List Nat} (h : MapAt w b N f) (k : Only F w w') (hb : b ∉ F) : MapAt w' b N f := by
  obtain ⟨es, ⟨e, c, hh, r⟩, t⟩ := h
  exact ⟨es, ⟨e, c, k.heap hh hb, r⟩, t⟩
theorem MapAt.made (w : World) {b : Nat} (hb : b = w.heap.size) (N : Nat) : MapAt (w.alloc (.map #[] 0)) b N (fun _ => none) := by
  subst hb
  exact ⟨[], (World.ownsMap_made w _ _ _).mono (Nat.zero_le _), List.Pairwise.nil, (fun p hp => by cases hp), (fun k l h => by cases h)⟩
theorem MapAt.blk (h : MapAt w b N f) {k : Nat} {l : List Nat} (hk : f k = some l) : k < N ∧ Blk l := by
  obtain ⟨es, _, t⟩ := h
  exact t.lt hk
theorem wf_key {k : Nat} (hk : k ≤ 9223372036854775807) : (Lit.int .i64 (k : Int)).wf = true := by
  simp [Lit.wf, IntKind.min, IntKind.max, IntKind.signed, IntKind.bits]
  omega
theorem MapAt.look (h : MapAt w b N f) (k : Nat) (hk : k ≤ 9223372036854775807) :
    (Instr.lookup 87 (.map (some b)) (.int .i64 (k : Int)) true).run Tryz.prog w = .ok (.tuple #[blkV ((f k).getD (Go.Proofs.YtkajneeihhobhaaGreat.sec [])), .bool (f k).isSome]) w := by
  obtain ⟨es, ho, t⟩ := h
  obtain ⟨hz, _⟩ := zero_of_info zeroBlk
  obtain ⟨v, ps, hr, hv⟩ := ho.look_ok lawI Tryz.underlying87 (hz w) (blkElem_mk Blk.zero) (keyOf_int_mk (P := Tryz.prog) Tryz.underlying3 (wf_key hk))
  rw [show (Lit.int .i64 (k : Int)) = keyN k from rfl] at hr hv
  rw [t.has] at hr
  rw [t.atKey] at hv
  obtain ⟨l, hl, rfl, h1⟩ := blkElem_inv hv
  simp only [Prod.mk.injEq] at h1
  rw [← blkD_inj h1.1] at hr
  exact hr
theorem MapAt.sized (h : MapAt w b N f) : ∃ es, w.ownsMap Tryz.prog 3 blkElem b es.length (.map es) ∧ Tells4 es N f := by
  obtain ⟨es, ⟨e, c, hh, F, hs, hD⟩, t⟩ := h
  refine ⟨es, ⟨e, c, hh, F, ?_, hD⟩, t⟩
  injection hD with hD
  rw [hD, length_sorted, List.length_map, Array.length_toList]
  exact Nat.le_refl _
theorem MapAt.store (h : MapAt w b N f) (hN : N < 4097) {k : Nat} {l : List Nat} (hk : k < N) (hl : Blk l) :
    ∃ w', (Instr.mapUpdate 87 (.map (some b)) (.int .i64 (k : Int)) (blkV l)).run Tryz.prog w = .ok () w' ∧ MapAt w' b N (upd f k l) ∧ Only [b] w w' := by
  obtain ⟨es, ho, t⟩ := h.sized
  have hsz := t.size
  obtain ⟨w', hr, ho', hm⟩ := ho.store lawI Tryz.underlying87 (by unfold maxLen; omega) (keyOf_int_mk (P := Tryz.prog) Tryz.underlying3 (wf_key (k := k) (by omega))) (blkElem_mk hl)
  rw [show (Lit.int .i64 (k : Int)) = keyN k from rfl] at ho'
  obtain ⟨es', he, t'⟩ := t.put hk hl (ho'.tidy lawI)
  rw [he] at ho'
  have ho2 : w'.ownsMap Tryz.prog 3 blkElem b N (.map es') := by
    obtain ⟨e, c, hh, F, hs, hD⟩ := ho'
    refine ⟨e, c, hh, F, ?_, hD⟩
    injection hD with hD
    have h2 := t'.size
    rw [hD, length_sorted, List.length_map, Array.length_toList] at h2
    exact h2
  exact ⟨w', hr, ⟨es', ho2, t'⟩, (Only.refl _ _).grown hm.grown (fun k hk => .inl (by injection hk with hk; simp [hk]))⟩
end
end Go.Proofs.YtkajneeihhobhaaGreat

namespace Go.Proofs.YtkajneeihhobhaaGreat
open Go.RowKit Go.Maps Wal

/-- A pager's parts: its block, its disk's and its log's, the map of what is away, the log's and the disk's blocks and what they hold, how many sectors are the log's, how many blocks there are. -/
structure PS where
  p : Nat
  d : Nat
  lb : Nat
  am : Nat
  G : List Nat
  F : List Nat
  s : LS
  m : Dsk.DM
  reg : Nat
  N : Nat
  dead : Bool
  f : Nat → Option (List Nat)
def PS.cells (P : PS) (tx : Value) : Array Value := #[.pointer (some ⟨P.d, 0, none⟩), .pointer (some ⟨P.lb, 0, none⟩), .int .i64 (P.reg : Int), .map (some P.am), tx, .bool P.dead]
/-- In w the pager P lies, tx is its open transaction. -/
structure PagAt (w : World) (P : PS) (tx : Value) : Prop where
  held : Held w P.p 89 (P.cells tx)
  log : LD w P.lb P.G P.s P.d P.F P.m
  away : MapAt w P.am P.N P.f
  ne : P.p ≠ P.am
  pfar : P.p ∉ P.G ++ P.F
  afar : P.am ∉ P.G ++ P.F
  size : P.m.dur.length = P.reg + P.N
/-- In w the transaction t of P lies, g is what it has written. -/
structure TxAt (w : World) (P : PS) (t tm : Nat) (g : Nat → Option (List Nat)) : Prop where
  held : Held w t 91 #[.pointer (some ⟨P.p, 0, none⟩), .map (some tm)]
  dirty : MapAt w tm P.N g
  ne : t ≠ P.p ∧ t ≠ P.am ∧ t ≠ tm ∧ tm ≠ P.p ∧ tm ≠ P.am
  tfar : t ∉ P.G ++ P.F
  mfar : tm ∉ P.G ++ P.F
section
variable {w w' : World} {P : PS} {tx : Value} {t tm : Nat} {g : Nat → Option (List Nat)} {H : List Nat}
theorem PagAt.only (h : PagAt w P tx) (k : Only H w w') (hp : P.p ∉ H) (ha : P.am ∉ H) (hf : ∀ x ∈ P.G ++ P.F, x ∉ H) : PagAt w' P tx :=
  ⟨h.held.only k hp, h.log.only k (fun x hx => hf x (List.mem_append.2 (.inl hx))) (fun x hx => hf x (List.mem_append.2 (.inr hx))), h.away.only k ha, h.ne, h.pfar, h.afar, h.size⟩
theorem PagAt.under (h : PagAt w P tx) (k : Below w.heap.size w w') : PagAt w' P tx := h.only (Only.of_below (F := []) k) (by simp) (by simp) (fun _ _ => by simp)
theorem PagAt.drewN (h : PagAt w P tx) (n : Nat) : PagAt (w.drewN n) P tx := h.only ((Only.refl [] w).drewN n) (by simp) (by simp) (fun _ _ => by simp)
theorem PagAt.alloc (h : PagAt w P tx) (o : Obj) : PagAt (w.alloc o) P tx := h.under ((Below.refl _ _).alloc (Nat.le_refl _) o)
theorem PagAt.lt (h : PagAt w P tx) : P.p < w.heap.size ∧ P.am < w.heap.size ∧ ∀ x ∈ P.G ++ P.F, x < w.heap.size :=
  ⟨h.held.lt, h.away.lt, fun x hx => by
    rcases List.mem_append.1 hx with hx | hx
    · exact h.log.glt x hx
    · exact h.log.flt x hx⟩
theorem PagAt.most (h : PagAt w P tx) : P.reg + P.N ≤ 4096 := by
  have := h.log.disk.good.most
  have := h.size
  omega
theorem TxAt.only (h : TxAt w P t tm g) (k : Only H w w') (ht : t ∉ H) (hm : tm ∉ H) : TxAt w' P t tm g := ⟨h.held.only k ht, h.dirty.only k hm, h.ne, h.tfar, h.mfar⟩
theorem TxAt.under (h : TxAt w P t tm g) (k : Below w.heap.size w w') : TxAt w' P t tm g := h.only (Only.of_below (F := []) k) (by simp) (by simp)
theorem TxAt.drewN (h : TxAt w P t tm g) (n : Nat) : TxAt (w.drewN n) P t tm g := h.only ((Only.refl [] w).drewN n) (by simp) (by simp)
theorem TxAt.alloc (h : TxAt w P t tm g) (o : Obj) : TxAt (w.alloc o) P t tm g := h.under ((Below.refl _ _).alloc (Nat.le_refl _) o)
/-- A store into the pager's own block: whether it is dead; its open transaction. -/
theorem PagAt.setDead (h : PagAt w P tx) (x : Bool) : PagAt (w.setCell ⟨P.p, 5, none⟩ (.bool x)) { P with dead := x } tx := by
  have ho : Only [P.p] w (w.setCell ⟨P.p, 5, none⟩ (.bool x)) := (Only.refl _ w).setCell (.inl (by simp)) _
  refine ⟨h.held.set_ 5 (.bool x), h.log.only ho (fun y hy => ?_) (fun y hy => ?_), h.away.only ho (by have := h.ne; simpa using this.symm), h.ne, h.pfar, h.afar, h.size⟩
  · have := h.pfar
    simp only [List.mem_singleton]
    rintro rfl
    exact this (List.mem_append.2 (.inl hy))
  · have := h.pfar
    simp only [List.mem_singleton]
    rintro rfl
    exact this (List.mem_append.2 (.inr hy))
theorem PagAt.setTx (h : PagAt w P tx) (v : Value) : PagAt (w.setCell ⟨P.p, 4, none⟩ v) P v := by
  have ho : Only [P.p] w (w.setCell ⟨P.p, 4, none⟩ v) := (Only.refl _ w).setCell (.inl (by simp)) _
  refine ⟨h.held.set_ 4 v, h.log.only ho (fun y hy => ?_) (fun y hy => ?_), h.away.only ho (by have := h.ne; simpa using this.symm), h.ne, h.pfar, h.afar, h.size⟩
  · have := h.pfar
    simp only [List.mem_singleton]
    rintro rfl
    exact this (List.mem_append.2 (.inl hy))
  · have := h.pfar
    simp only [List.mem_singleton]
    rintro rfl
    exact this (List.mem_append.2 (.inr hy))
theorem TxAt.beside (h : TxAt w P t tm g) (x : Bool) : TxAt (w.setCell ⟨P.p, 5, none⟩ (.bool x)) { P with dead := x } t tm g :=
  have k := h.only ((Only.refl [P.p] w).setCell (p := ⟨P.p, 5, none⟩) (.inl (by simp)) (.bool x)) (by simpa using h.ne.1) (by simpa using h.ne.2.2.2.1)
  ⟨k.held, k.dirty, k.ne, k.tfar, k.mfar⟩
end

def deadErr (x : Bool) : Int := if x then 10 else 0
set_option maxRecDepth 100000 in
theorem palive_any (w : World) (P : PS) (tx : Value) (h : PagAt w P tx) :
    Calls Tryz.prog 40 #[.pointer (some ⟨P.p, 0, none⟩)] w fun e w' => e = .returned (.int .i64 (deadErr (P.dead || P.m.dead))) ∧ w' = w.setCell ⟨P.p, 5, none⟩ (.bool (P.dead || P.m.dead)) := by
  have c0 : w.cell? ⟨P.p, 0, none⟩ = some (.pointer (some ⟨P.d, 0, none⟩)) := h.held.cell 0
  have c5 : w.cell? ⟨P.p, 5, none⟩ = some (.bool P.dead) := h.held.cell 5
  have z5 := h.held.frozen 5
  have D : Hid (Calls Tryz.prog 32 #[.pointer (some ⟨P.d, 0, none⟩)] w fun e w' => e = .returned (.bool P.m.dead) ∧ w = w') := dead_any w P.d P.F P.m h.log.disk
  clear h
  cases hd : P.dead with
  | true =>
    rw [hd] at c5
    go_enter Tryz.func40, Tryz.ntmps40
    go_wp2_with fail
    go_ret
    exact ⟨rfl, rfl⟩
  | false =>
    rw [hd] at c5
    cases hm : P.m.dead with
    | true =>
      rw [hm] at D
      go_enter Tryz.func40, Tryz.ntmps40
      go_wp2_with fail
      refine D.out.mono ?_
      rintro e w' ⟨rfl, rfl⟩
      go_wp2_with fail
      go_ret
      exact ⟨rfl, rfl⟩
    | false =>
      rw [hm] at D
      go_enter Tryz.func40, Tryz.ntmps40
      go_wp2_with fail
      refine D.out.mono ?_
      rintro e w' ⟨rfl, rfl⟩
      go_wp2_with fail
      go_ret
      exact ⟨rfl, rfl⟩
set_option maxRecDepth 100000 in
theorem eq_tx (w : World) (t : Nat) : (binOp .eql 37 (.pointer (some ⟨t, 0, none⟩)) (.pointer (some ⟨t, 0, none⟩))).run Tryz.prog w = .ok (.bool true) w := by
  obtain ⟨j, hj⟩ : ∃ j, Tryz.prog.info? 91 = some j := Option.isSome_iff_exists.1 (by kernel_rfl)
  exact run_eql_ptr_same w ⟨t, 0, none⟩ Tryz.underlying37 hj
set_option maxRecDepth 100000 in
theorem isOpen_yes (w : World) (P : PS) (t tm : Nat) (g : Nat → Option (List Nat)) (h : PagAt w P (.pointer (some ⟨t, 0, none⟩))) (k : TxAt w P t tm g) :
    Calls Tryz.prog 48 #[.pointer (some ⟨t, 0, none⟩)] w fun e w' => e = .returned (.bool true) ∧ w = w' := by
  have c4 : w.cell? ⟨P.p, 4, none⟩ = some (.pointer (some ⟨t, 0, none⟩)) := h.held.cell 4
  have t0 : w.cell? ⟨t, 0, none⟩ = some (.pointer (some ⟨P.p, 0, none⟩)) := k.held.cell 0
  have heq := eq_tx w t
  clear h k
  go_enter Tryz.func48, Tryz.ntmps48
  go_wp2_with fail
  go_ret
  exact ⟨rfl, rfl⟩
set_option maxRecDepth 100000 in
theorem talive_any (w : World) (P : PS) (t tm : Nat) (g : Nat → Option (List Nat)) (h : PagAt w P (.pointer (some ⟨t, 0, none⟩))) (k : TxAt w P t tm g) :
    Calls Tryz.prog 42 #[.pointer (some ⟨t, 0, none⟩)] w fun e w' => e = .returned (.int .i64 (deadErr (P.dead || P.m.dead))) ∧ w' = w.setCell ⟨P.p, 5, none⟩ (.bool (P.dead || P.m.dead)) := by
  have t0 : w.cell? ⟨t, 0, none⟩ = some (.pointer (some ⟨P.p, 0, none⟩)) := k.held.cell 0
  have O := Lib.hid (isOpen_yes w P t tm g h k)
  have A := Lib.hid (palive_any w P _ h)
  clear h k
  go_enter Tryz.func42, Tryz.ntmps42
  go_wp2_with fail
  refine O.out.mono ?_
  rintro e w' ⟨rfl, rfl⟩
  go_wp2_with fail
  refine A.out.mono ?_
  rintro e w' ⟨rfl, rfl⟩
  go_wp2_with fail
  go_ret
  exact ⟨rfl, rfl⟩
set_option maxRecDepth 100000 in
theorem blocks_any (w : World) (P : PS) (tx : Value) (h : PagAt w P tx) :
    Calls Tryz.prog 13 #[.pointer (some ⟨P.p, 0, none⟩)] w fun e w' => e = .returned (.int .i64 (P.N : Int)) ∧ ∃ q, w' = w.drewN q := by
  have c0 : w.cell? ⟨P.p, 0, none⟩ = some (.pointer (some ⟨P.d, 0, none⟩)) := h.held.cell 0
  have c2 : w.cell? ⟨P.p, 2, none⟩ = some (.int .i64 (P.reg : Int)) := h.held.cell 2
  have hm := h.most
  have S : ∀ q, Hid (Calls Tryz.prog 24 #[.pointer (some ⟨P.d, 0, none⟩)] (w.drewN q) fun e w' => e = .returned (.int .i64 ((P.reg : Int) + (P.N : Int))) ∧ w' = w.drewN q) := fun q => by
    have h9 := size_any (w.drewN q) P.d P.F P.m (h.log.disk.drewN q)
    rw [h.size, show (((P.reg + P.N : Nat)) : Int) = (P.reg : Int) + (P.N : Int) by omega] at h9
    exact Lib.hid (h9.mono fun _ _ ⟨h1, h2⟩ => ⟨h1, h2.symm⟩)
  have e1 : (P.reg : Int) + (P.N : Int) - (P.reg : Int) = (P.N : Int) := by omega
  have k1 : (P.reg : Int) ≤ 4096 := by omega
  have k2 : (P.N : Int) ≤ 4096 := by omega
  clear h hm
  go_enter Tryz.func13, Tryz.ntmps13
  go_wp2_with fail
  go_quiet ((go_at_call 24; exact Calls.quiet_of_same (S _).out))
  go_wp2
  go_ret
  exact ⟨rfl, _, rfl⟩
end Go.Proofs.YtkajneeihhobhaaGreat

namespace Go.Proofs.YtkajneeihhobhaaGreat
open Go.RowKit Go.Maps Wal

set_option maxRecDepth 100000 in
theorem phas_any (w : World) (P : PS) (tx : Value) (b : Int) (h : PagAt w P tx) :
    Calls Tryz.prog 56 #[.pointer (some ⟨P.p, 0, none⟩), .int .i64 b] w fun e w' => e = .returned (.bool (decide (0 ≤ b ∧ b < (P.N : Int)))) ∧ ∃ q, w' = w.drewN q := by
  have B := Lib.hid (blocks_any w P tx h)
  clear h
  by_cases h0 : 0 ≤ b
  · go_enter Tryz.func56, Tryz.ntmps56
    go_wp2_with fail
    refine B.out.mono ?_
    rintro e w' ⟨rfl, q, rfl⟩
    by_cases h1 : b < (P.N : Int)
    · have e1 : decide (0 ≤ b ∧ b < (P.N : Int)) = true := decide_eq_true ⟨h0, h1⟩
      go_wp2_with fail
      go_ret
      exact ⟨by rw [e1]; rfl, q, rfl⟩
    · have e1 : decide (0 ≤ b ∧ b < (P.N : Int)) = false := decide_eq_false (fun h => h1 h.2)
      go_wp2_with fail
      go_ret
      exact ⟨by show Ending.returned (.bool (decide (b < (P.N : Int)))) = _; rw [e1, decide_eq_false (show ¬ b < (P.N : Int) by omega)], q, rfl⟩
  · have e1 : decide (0 ≤ b ∧ b < (P.N : Int)) = false := decide_eq_false (fun h => h0 h.1)
    have h0' : ¬ b ≥ 0 := h0
    go_enter Tryz.func56, Tryz.ntmps56
    go_wp2_with fail
    go_ret
    exact ⟨rfl, 0, rfl⟩
set_option maxRecDepth 100000 in
theorem heed_any (w : World) (P : PS) (tx : Value) (z : Int) (h : PagAt w P tx) :
    Calls Tryz.prog 49 #[.pointer (some ⟨P.p, 0, none⟩), .int .i64 z] w fun e w' => e = .returned (.int .i64 z) ∧ w' = w.setCell ⟨P.p, 5, none⟩ (.bool (P.dead || decide (z = 10))) := by
  have c5 : w.cell? ⟨P.p, 5, none⟩ = some (.bool P.dead) := h.held.cell 5
  have z5 := h.held.frozen 5
  clear h
  cases hd : P.dead with
  | true =>
    rw [hd] at c5
    go_enter Tryz.func49, Tryz.ntmps49
    go_wp2_with fail
    go_ret
    exact ⟨rfl, rfl⟩
  | false =>
    rw [hd] at c5
    by_cases hz : z = 10
    · subst hz
      go_enter Tryz.func49, Tryz.ntmps49
      go_wp2_with fail
      go_ret
      exact ⟨rfl, rfl⟩
    · have e1 : decide (z = 10) = false := decide_eq_false hz
      rw [e1]
      have e2 : (z == 10) = false := by simpa using hz
      go_enter Tryz.func49, Tryz.ntmps49
      go_wp2_with fail
      go_ret
      exact ⟨rfl, rfl⟩

/-- What a block was last committed as. -/
def PS.at_ (P : PS) (b : Nat) : List Nat := (P.f b).getD (sec (P.m.seen.getD (P.reg + b) []))
/-- What a call that reads a block leaves: 512 fresh bytes; of the pager its mark alone has turned. -/
structure Told512 (w : World) (P : PS) (tx : Value) (l : List Nat) (e : Ending) (w' : World) : Prop where
  told : ∃ q T, e = .returned (.tuple #[.slice (some ⟨q, 0, none⟩) 512 512, .int .i64 0]) ∧ w.heap.size ≤ q ∧ Held w' q T (l.map u8v).toArray
  pag : PagAt w' { P with dead := false } tx
  only : Only [P.p] w w'

theorem store_blk (w : World) (l : List Nat) (hl : Blk l) : (storeCells ⟨w.heap.size, 0, none⟩ (l.map u8v) 0).run Tryz.prog (w.alloc (.cells ((sec []).map u8v).toArray 99)) =
    .ok () (w.alloc (.cells (l.map u8v).toArray 99)) := by
  obtain ⟨_, hi⟩ := zero_of_info zeroBlk
  have := run_storeCells_new (P := Tryz.prog) w 99 ((sec []).map u8v).toArray (l.map u8v).toArray (by rw [hi]; simp [hl.len]) (by simp [sec_length, hl.len]) (by simp [u8v, Value.oneCell'])
  simpa using this
theorem load_blk (w : World) (l : List Nat) (hl : Blk l) : (loadCellsFrom ⟨w.heap.size, 0, none⟩ 0 512 #[]).run Tryz.prog (w.alloc (.cells (l.map u8v).toArray 99)) =
    .ok (l.map u8v).toArray (w.alloc (.cells (l.map u8v).toArray 99)) :=
  run_loadCellsFrom_new w _ _ 512 (by simp [hl.len])
theorem Held.bts {w : World} {q : Nat} {T : TypeId} {l : List Nat} (h : Held w q T (l.map u8v).toArray) (hl : Blk l) : Bts w (some ⟨q, 0, none⟩) 512 l := by
  refine ⟨hl.len, hl.bytes, fun _ => ⟨_, 0, rfl, h.lt, fun i hi => ?_⟩⟩
  have := hl.len
  rw [h.cell]
  simp only [Nat.zero_add, List.getElem?_toArray, List.getElem?_map, List.getD_eq_getElem?_getD]
  rw [List.getElem?_eq_getElem (by omega)]
  rfl
theorem Fresh512.held {w w' : World} {l : List Nat} {v : Value} (h : Fresh512 w l v w') (hl : l.length = 512) : ∃ q, v = .slice (some ⟨q, 0, none⟩) 512 512 ∧ w.heap.size ≤ q ∧ Held w' q 5 (l.map u8v).toArray := by
  obtain ⟨hv, ho, _⟩ := h
  rcases ho.1.2 with ⟨h1, _⟩ | ⟨g, cap, cur, h1, hb, hg, hn, hm, hs, ht⟩
  · rw [hv] at h1; cases h1
  · rw [hv] at h1
    injection h1 with e1 e2 e3
    injection e1 with e1
    injection e1 with e1
    subst e1 e3
    refine ⟨_, hv, hb, ?_⟩
    have e : cur = (l.map u8v).toArray := by
      apply Array.toList_inj.1
      rw [← ht, hl, List.take_of_length_le (by rw [Array.length_toList]; omega)]
    rw [← e]
    exact hg
set_option maxRecDepth 100000 in
set_option maxHeartbeats 1600000 in
theorem pread_any (w : World) (P : PS) (tx : Value) (b : Nat) (h : PagAt w P tx) (hb : b < P.N) (hd : P.dead = false) (hm : P.m.dead = false) :
    Calls Tryz.prog 57 #[.pointer (some ⟨P.p, 0, none⟩), .int .i64 (b : Int)] w (Told512 w P tx (P.at_ b)) := by
  have hmost := h.most
  have c3 : w.cell? ⟨P.p, 3, none⟩ = some (.map (some P.am)) := h.held.cell 3
  have lk := h.away.look b (by omega)
  obtain ⟨hz, hi⟩ := zero_of_info zeroBlk
  have HH := Lib.hid h
  have hP : { P with dead := false } = P := by rw [← hd]
  have HP := Lib.hid hP
  have HB := Lib.hid hb
  clear hi hP
  cases hf : P.f b with
  | some l =>
    rw [hf] at lk
    have hl : Blk l := (h.away.blk hf).2
    have hs := store_blk w l hl
    have HL := Lib.hid hl
    have hlen := hl.len
    have ea : P.at_ b = l := by unfold PS.at_; rw [hf]; rfl
    simp only [Option.getD_some, Option.isSome_some] at lk
    unfold blkV at lk hz
    rw [ea]
    clear hl h ea hf hb
    go_enter Tryz.func57, Tryz.ntmps57
    go_wp2_with fail
    go_ret2
    exact ⟨⟨_, _, rfl, Nat.le_refl _, Held.new _ _ _ rfl⟩, by rw [HP.out]; exact HH.out.alloc _, (Only.refl _ w).alloc _⟩
  | none =>
    rw [hf] at lk
    have hs := store_blk w (sec []) Blk.zero
    have hlen := sec_length []
    obtain ⟨D, hD⟩ : ∃ D, D = sec (P.m.seen.getD (P.reg + b) []) := ⟨_, rfl⟩
    have hDl : Hid (D.length = 512) := by show _ = _; rw [hD]; exact sec_length _
    have ea : P.at_ b = D := by rw [hD]; unfold PS.at_; rw [hf]; rfl
    simp only [Option.getD_none, Option.isSome_none] at lk
    unfold blkV at lk hz
    rw [ea]
    have c0 : w.cell? ⟨P.p, 0, none⟩ = some (.pointer (some ⟨P.d, 0, none⟩)) := h.held.cell 0
    have c2 : w.cell? ⟨P.p, 2, none⟩ = some (.int .i64 (P.reg : Int)) := h.held.cell 2
    have hpl := h.lt.1
    have hr : P.m.readErr ((P.reg : Int) + (b : Int)) = 0 := by
      unfold Dsk.DM.readErr
      rw [if_neg (by rw [hm]; simp), if_neg (by have := h.size; omega)]
    have k1 : (P.reg : Int) ≤ 4096 := by omega
    have k2 : (b : Int) ≤ 4096 := by omega
    clear h ea hf hb
    go_enter Tryz.func57, Tryz.ntmps57
    go_upto_region 4 with fail
    obtain ⟨w1, hw1⟩ : ∃ w1, w1 = w.alloc (.cells ((sec []).map u8v).toArray 99) := ⟨_, rfl⟩
    have BW : Hid (Below w.heap.size w w1) := by rw [hw1]; exact (Below.refl _ _).alloc (Nat.le_refl _) _
    have K1 := Lib.hid (HH.out.under BW.out)
    rw [← hw1]
    have d0 : w1.cell? ⟨P.p, 0, none⟩ = some (.pointer (some ⟨P.d, 0, none⟩)) := K1.out.held.cell 0
    have d2 : w1.cell? ⟨P.p, 2, none⟩ = some (.int .i64 (P.reg : Int)) := K1.out.held.cell 2
    have RD : Hid (∀ q, Calls Tryz.prog 74 #[.pointer (some ⟨P.d, 0, none⟩), .int .i64 ((P.reg : Int) + (b : Int))] (w1.drewN q) fun e w' => ∃ v, e = .returned (.tuple #[v, .int .i64 0]) ∧ Fresh512 (w1.drewN q) D v w') := fun q => by
      have h9 := read_any (w1.drewN q) P.d P.F P.m ((P.reg : Int) + (b : Int)) (K1.out.log.disk.drewN q)
      rw [hr, show ((P.reg : Int) + (b : Int)).toNat = P.reg + b by omega] at h9
      exact h9.mono fun _ _ ht => by rw [hD]; exact ht.ok rfl
    have RD1 := RD.out 1
    clear hw1 c0 c2 c3 lk hs hlen hr hz hD
    have wrp : IntKind.i64.wrap ((P.reg : Int) + (b : Int)) = (P.reg : Int) + (b : Int) := by rw [IntKind.wrap_i64]; omega
    refine wp_region_noPanic ?_
    refine wp_region_held_drew (S := fun w' => w'.cell? ⟨P.p, 0, none⟩ = some (.pointer (some ⟨P.d, 0, none⟩)) ∧ w'.cell? ⟨P.p, 2, none⟩ = some (.int .i64 (P.reg : Int))) (by kernel_rfl) ⟨d0, d2⟩ (fun hHeld => ?_)
    refine take_ (i := 0) (v := ?_) 22 rfl rfl (by kernel_rfl) (by kernel_rfl) (by kernel_rfl) (fun _ _ _ h => h) (Or.inl ⟨by rfl, ?_⟩) (by assumption) ?_
    rotate_left
    · (intro wS hSw; (try dsimp only at hSw); go_simp; try with_reducible rfl)
    simp only [Act.put, List.setIfInBounds_toArray, List.set_cons_zero, List.set_cons_succ]
    refine take_ (i := 1) (v := ?_) 23 rfl rfl (by kernel_rfl) (by kernel_rfl) (by kernel_rfl) (fun _ _ _ h => h) (Or.inl ⟨by rfl, ?_⟩) (by assumption) ?_
    rotate_left
    · (intro wS hSw; (try dsimp only at hSw); go_simp; try with_reducible rfl)
    simp only [Act.put, List.setIfInBounds_toArray, List.set_cons_zero, List.set_cons_succ]
    refine take_ (i := 2) (v := ?_) 24 rfl rfl (by kernel_rfl) (by kernel_rfl) (by kernel_rfl) (fun _ _ _ h => h) (Or.inl ⟨by rfl, ?_⟩) (by assumption) ?_
    rotate_left
    · (intro wS hSw; (try dsimp only at hSw); go_simp; try with_reducible rfl)
    simp only [Act.put, List.setIfInBounds_toArray, List.set_cons_zero, List.set_cons_succ]
    refine take_ (i := 3) (v := ?_) 25 rfl rfl (by kernel_rfl) (by kernel_rfl) (by kernel_rfl) (fun _ _ _ h => h) (Or.inl ⟨by rfl, ?_⟩) (by assumption) ?_
    rotate_left
    · (intro wS hSw; (try dsimp only at hSw); go_simp; try with_reducible rfl)
    simp only [Act.put, List.setIfInBounds_toArray, List.set_cons_zero, List.set_cons_succ]
    refine take_ (i := 4) (v := ?_) 26 rfl rfl (by kernel_rfl) (by kernel_rfl) (by kernel_rfl) (fun _ _ _ h => h) (Or.inl ⟨by rfl, ?_⟩) (by assumption) ?_
    rotate_left
    · (intro wS hSw; (try dsimp only at hSw); go_simp; try with_reducible rfl)
    simp only [Act.put, List.setIfInBounds_toArray, List.set_cons_zero, List.set_cons_succ]
    refine take_ (i := 5) (v := ?_) 27 rfl rfl (by kernel_rfl) (by kernel_rfl) (by kernel_rfl) (fun _ _ _ h => h) (Or.inl ⟨by rfl, ?_⟩) (by assumption) ?_
    rotate_left
    · (intro wS hSw; (try dsimp only at hSw); go_simp; try with_reducible rfl)
    simp only [Act.put, List.setIfInBounds_toArray, List.set_cons_zero, List.set_cons_succ]
    refine take_ (i := 6) (v := ?_) 28 rfl rfl (by kernel_rfl) (by kernel_rfl) (by kernel_rfl) (fun _ _ _ h => h) (Or.inl ⟨by rfl, ?_⟩) (by assumption) ?_
    rotate_left
    · (intro wS hSw; (try dsimp only at hSw); go_simp; try with_reducible rfl)
    simp only [Act.put, List.setIfInBounds_toArray, List.set_cons_zero, List.set_cons_succ]
    refine take_ (i := 7) (v := ?_) 29 rfl rfl (by kernel_rfl) (by kernel_rfl) (by kernel_rfl) (fun _ _ _ h => h) (Or.inl ⟨by rfl, ?_⟩) (by assumption) ?_
    rotate_left
    · (intro wS hSw; (try dsimp only at hSw); go_simp; try with_reducible rfl)
    simp only [Act.put, List.setIfInBounds_toArray, List.set_cons_zero, List.set_cons_succ]
    refine take_ (i := 8) (v := ?_) 30 rfl rfl (by kernel_rfl) (by kernel_rfl) (by kernel_rfl) (fun _ _ _ h => h) (Or.inl ⟨by rfl, ?_⟩) (by assumption) ?_
    rotate_left
    · (intro wS hSw; (try dsimp only at hSw); go_simp; try with_reducible rfl)
    simp only [Act.put, List.setIfInBounds_toArray, List.set_cons_zero, List.set_cons_succ]
    refine take_ (i := 9) (v := ?_) 31 rfl rfl (by kernel_rfl) (by kernel_rfl) (by kernel_rfl) (fun _ _ _ h => h) (Or.inl ⟨by rfl, ?_⟩) (by assumption) ?_
    rotate_left
    · (intro wS hSw; (try dsimp only at hSw); go_simp; try with_reducible rfl)
    simp only [Act.put, List.setIfInBounds_toArray, List.set_cons_zero, List.set_cons_succ]
    refine one_ (i := 10) _ (by kernel_rfl) rfl (fun K hK => ?_)
    go_simp
    refine RD1.mono ?_
    rintro e w3 ⟨v3, rfl, hfr⟩
    obtain ⟨q, rfl, hq, hq3⟩ := hfr.held hDl.out
    have B3 : Hid (Below w.heap.size w w3) := BW.out.trans ((Below.refl _ _).drew.trans (hfr.2.2.mono BW.out.size))
    have Q3 : Hid (w.heap.size ≤ q ∧ Held w3 q 5 (D.map u8v).toArray) := ⟨Nat.le_trans BW.out.size hq, hq3⟩
    have K3 := Lib.hid (HH.out.under B3.out)
    clear hfr hq hq3 RD RD1 K1 BW d0 d2
    have e0 : w3.cell? ⟨P.p, 0, none⟩ = some (.pointer (some ⟨P.d, 0, none⟩)) := K3.out.held.cell 0
    have e2 : w3.cell? ⟨P.p, 2, none⟩ = some (.int .i64 (P.reg : Int)) := K3.out.held.cell 2
    go_wp2_with fail
    refine hK.out _ _ ⟨e0, e2⟩ (fun hHeld => ?_)
    clear hK K
    refine take_ (i := 11) (v := ?_) 21 rfl rfl (by kernel_rfl) (by kernel_rfl) (by kernel_rfl) (fun _ _ _ h => h) (Or.inl ⟨by rfl, ?_⟩) (by assumption) ?_
    rotate_left
    · (intro wS hSw; (try dsimp only at hSw); go_simp; try with_reducible rfl)
    simp only [Act.put, List.setIfInBounds_toArray, List.set_cons_zero, List.set_cons_succ]
    refine take_ (i := 12) (v := ?_) 33 rfl rfl (by kernel_rfl) (by kernel_rfl) (by kernel_rfl) (fun _ _ _ h => h) (Or.inl ⟨by rfl, ?_⟩) (by assumption) ?_
    rotate_left
    · (intro wS hSw; (try dsimp only at hSw); go_simp; try with_reducible rfl)
    simp only [Act.put, List.setIfInBounds_toArray, List.set_cons_zero, List.set_cons_succ]
    refine take_ (i := 13) (v := ?_) 34 rfl rfl (by kernel_rfl) (by kernel_rfl) (by kernel_rfl) (fun _ _ _ h => h) (Or.inl ⟨by rfl, ?_⟩) (by assumption) ?_
    rotate_left
    · (intro wS hSw; (try dsimp only at hSw); go_simp; try with_reducible rfl)
    simp only [Act.put, List.setIfInBounds_toArray, List.set_cons_zero, List.set_cons_succ]
    refine take_ (i := 14) (v := ?_) 8 rfl rfl (by kernel_rfl) (by kernel_rfl) (by kernel_rfl) (fun _ _ _ h => h) (Or.inl ⟨by rfl, ?_⟩) (by assumption) ?_
    rotate_left
    · (intro wS hSw; (try dsimp only at hSw); go_simp; try with_reducible rfl)
    simp only [Act.put, List.setIfInBounds_toArray, List.set_cons_zero, List.set_cons_succ]
    refine take_ (i := 15) (v := ?_) 9 rfl rfl (by kernel_rfl) (by kernel_rfl) (by kernel_rfl) (fun _ _ _ h => h) (Or.inl ⟨by rfl, ?_⟩) (by assumption) ?_
    rotate_left
    · (intro wS hSw; (try dsimp only at hSw); go_simp; try with_reducible rfl)
    simp only [Act.put, List.setIfInBounds_toArray, List.set_cons_zero, List.set_cons_succ]
    refine wpAnyH_done (by kernel_rfl) ?_ _
    refine NoPanic.normal ?_
    have HE := Lib.hid (heed_any w3 P tx 0 K3.out)
    go_wp2_with fail
    refine HE.out.mono ?_
    rintro e w4 ⟨rfl, rfl⟩
    have KD := K3.out.setDead (P.dead || decide ((0 : Int) = 10))
    rw [hd] at KD ⊢
    have ho : Only [P.p] w (w3.setCell ⟨P.p, 5, none⟩ (.bool (false || decide ((0 : Int) = 10)))) := (Only.of_below (F := [P.p]) B3.out).setCell (.inl (by simp)) _
    have KD' := Lib.hid KD
    have HO := Lib.hid ho
    have QQ : Hid (Held (w3.setCell ⟨P.p, 5, none⟩ (.bool (false || decide ((0 : Int) = 10)))) q 5 (D.map u8v).toArray) := Q3.out.2.far (by
      have := HH.out.lt.1
      have := Q3.out.1
      show q ≠ P.p
      omega) _
    clear KD ho
    generalize w3.setCell ⟨P.p, 5, none⟩ (.bool (false || decide ((0 : Int) = 10))) = w5 at *
    go_wp2_with fail
    go_ret2
    exact ⟨⟨q, _, rfl, Q3.out.1, QQ.out⟩, KD'.out, HO.out⟩
end Go.Proofs.YtkajneeihhobhaaGreat
