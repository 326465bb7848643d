/-
  pager: a map from numbers to blocks of 512 bytes, in memory: how it is looked up and stored into.
-/
import Derived.Test.YtaoldopkehbhkaaWal10
import Derived.Maps.OwnSet
import Derived.Maps.Views
import Derived.Maps.Keyed
import Derived.Deep.WholeRow
import Derived.Deep.MidRow
namespace Go.Proofs.Ytaoldopkehbhkaa
open Go.RowKit Go.Maps

/-- A block's value. -/
def blkV (l : List Nat) : Value := .agg (l.map u8v).toArray
/-- A text of just 512 bytes. -/
structure Blk (l : List Nat) : Prop where
  len : l.length = 512
  bytes : ∀ x ∈ l, x < 256
theorem Blk.sec {l : List Nat} (h : ∀ x ∈ l, x < 256) : Blk (sec l) := ⟨sec_length l, sec_bytes h⟩
theorem Blk.zero : Blk (Go.Proofs.Ytaoldopkehbhkaa.sec []) := Blk.sec (fun _ h => by cases h)
theorem u8v_inj {x y : Nat} (h : u8v x = u8v y) : x = y := by
  unfold u8v at h
  injection h with _ h
  omega
theorem map_u8v_inj : ∀ {l m : List Nat}, l.map u8v = m.map u8v → l = m
  | [], [], _ => rfl
  | [], _ :: _, h => by simp at h
  | _ :: _, [], h => by simp at h
  | x :: l, y :: m, h => by
    simp only [List.map_cons, List.cons.injEq] at h
    rw [u8v_inj h.1, map_u8v_inj h.2]
theorem blkV_inj {l m : List Nat} (h : blkV l = blkV m) : l = m := by
  unfold blkV at h
  injection h with h
  exact map_u8v_inj (by simpa using h)
/-- What a block reads as, in a map. -/
def blkD (l : List Nat) : DataW Unit := .agg (l.map fun (x : Nat) => .lit (.int .u8 (x : Int)))
theorem blkD_inj {l m : List Nat} (h : blkD l = blkD m) : l = m := by
  unfold blkD at h
  injection h with h
  have : ∀ {l m : List Nat}, l.map (fun (x : Nat) => (DataW.lit (.int .u8 (x : Int)) : DataW Unit)) = m.map (fun (x : Nat) => .lit (.int .u8 (x : Int))) → l = m := by
    intro l
    induction l with
    | nil => intro m h; cases m with
      | nil => rfl
      | cons _ _ => simp at h
    | cons x l ih => intro m h; cases m with
      | nil => simp at h
      | cons y m =>
        simp only [List.map_cons, List.cons.injEq, DataW.lit.injEq, Lit.int.injEq, true_and] at h
        rw [ih h.2]
        congr 1
        omega
  exact this h
open Classical in
noncomputable def blkElem (v : Value) : Option (DataW Unit × List MemPlace) := if h : ∃ l, Blk l ∧ v = blkV l then some (blkD h.choose, []) else none
theorem blkElem_mk {l : List Nat} (h : Blk l) : blkElem (blkV l) = some (blkD l, []) := by
  have hx : ∃ m, Blk m ∧ blkV l = blkV m := ⟨l, h, rfl⟩
  unfold blkElem
  rw [dif_pos hx, ← blkV_inj hx.choose_spec.2]
theorem blkElem_inv {v : Value} {z : DataW Unit × List MemPlace} (h : blkElem v = some z) : ∃ l, Blk l ∧ v = blkV l ∧ z = (blkD l, []) := by
  unfold blkElem at h
  split at h
  · rename_i hx
    injection h with h
    exact ⟨hx.choose, hx.choose_spec.1, hx.choose_spec.2, h.symm⟩
  · cases h

/-- The key of number k. -/
def keyN (k : Nat) : Lit := .int .i64 (k : Int)
theorem keyN_inj {a b : Nat} (h : keyN a = keyN b) : a = b := by
  unfold keyN at h
  injection h with _ h
  omega
theorem sameKey_keyN (a b : Nat) : (keyN a).sameKey (keyN b) = decide (a = b) := by
  unfold keyN Lit.sameKey
  rw [decide_eq_decide]
  constructor
  · rintro ⟨_, h⟩
    omega
  · intro h
    exact ⟨rfl, by omega⟩
/-- The entries es tell just the blocks of f, by numbers below N. -/
structure Tells4 (es : List (Lit × DataW Unit)) (N : Nat) (f : Nat → Option (List Nat)) : Prop where
  apart : es.Pairwise (fun p q => p.1 ≠ q.1)
  at_ : ∀ p ∈ es, ∃ k l, k < N ∧ Blk l ∧ f k = some l ∧ p = (keyN k, blkD l)
  all : ∀ k l, f k = some l → (keyN k, blkD l) ∈ es
/-- Block b is a map of blocks, of numbers below N. -/
def MapAt (w : World) (b N : Nat) (f : Nat → Option (List Nat)) : Prop := ∃ es, w.ownsMap Try.prog 3 blkElem b N (.map es) ∧ Tells4 es N f
theorem lawI : Keyed Try.prog 3 := int_keyed Try.underlying3
/-- Different numbers below N are N at most. -/
theorem count_below : ∀ (N : Nat) (l : List Nat), l.Pairwise (· ≠ ·) → (∀ x ∈ l, x < N) → l.length ≤ N := by
  intro N
  induction N with
  | zero => intro l _ h; cases l with
    | nil => simp
    | cons x r => have := h x (by simp); omega
  | succ N ih =>
    intro l hp h
    have h1 := ih (l.filter (fun x => decide (x ≠ N))) (hp.filter _) (fun x hx => by
      obtain ⟨h2, h3⟩ := List.mem_filter.1 hx
      have := h x h2
      have : x ≠ N := by simpa using h3
      omega)
    have key : ∀ (l : List Nat), l.Pairwise (· ≠ ·) → l.length ≤ (l.filter (fun x => decide (x ≠ N))).length + 1 := by
      intro l
      induction l with
      | nil => simp
      | cons x r ih2 =>
        intro hp
        obtain ⟨h4, h5⟩ := List.pairwise_cons.1 hp
        by_cases hx : x = N
        · subst hx
          have : r.filter (fun y => decide (y ≠ x)) = r := List.filter_eq_self.2 (fun y hy => by simpa using (h4 y hy).symm)
          rw [List.filter_cons_of_neg (by simp), this]
          simp
        · have := ih2 h5
          rw [List.filter_cons_of_pos (by simpa using hx)]
          simp only [List.length_cons]
          omega
    have := key l hp
    omega
section
variable {es : List (Lit × DataW Unit)} {N : Nat} {f : Nat → Option (List Nat)}
theorem Tells4.lt (h : Tells4 es N f) {k : Nat} {l : List Nat} (hk : f k = some l) : k < N ∧ Blk l := by
  obtain ⟨k', l', h1, h2, h3, h4⟩ := h.at_ _ (h.all k l hk)
  simp only [Prod.mk.injEq] at h4
  rw [keyN_inj h4.1, blkD_inj h4.2]
  exact ⟨h1, h2⟩
theorem Tells4.has (h : Tells4 es N f) (k : Nat) : has (.map es) (keyN k) = (f k).isSome := by
  rw [has_eq]
  cases hf : f k with
  | none =>
    simp only [Option.isSome_none, List.any_eq_false]
    intro p hp
    obtain ⟨k', l', _, _, h3, rfl⟩ := h.at_ p hp
    rw [sameKey_keyN]
    intro e
    have : k' = k := by simpa using e
    rw [this, hf] at h3
    cases h3
  | some l =>
    simp only [Option.isSome_some, List.any_eq_true]
    exact ⟨_, h.all k l hf, by rw [sameKey_keyN]; simp⟩
theorem Tells4.atKey (h : Tells4 es N f) (k : Nat) (z : List Nat) : (DataW.map es).atKey (keyN k) (blkD z) = blkD ((f k).getD z) := by
  unfold DataW.atKey
  dsimp only
  cases hf : es.find? (fun p => p.1.sameKey (keyN k)) with
  | none =>
    have : f k = none := by
      cases hk : f k with
      | none => rfl
      | some l =>
        have := List.find?_eq_none.1 hf _ (h.all k l hk)
        rw [sameKey_keyN] at this
        simp at this
    rw [this]
    rfl
  | some p =>
    have h1 := List.find?_some hf
    obtain ⟨k', l', _, _, h3, rfl⟩ := h.at_ p (List.mem_of_find?_eq_some hf)
    rw [sameKey_keyN] at h1
    have : k' = k := by simpa using h1
    rw [← this, h3]
    rfl
theorem mem_insert4 (x p : Lit × DataW Unit) : ∀ l, p ∈ DataW.insert x l ↔ p = x ∨ p ∈ l
  | [] => by simp [DataW.insert]
  | y :: r => by
    unfold DataW.insert
    split
    · simp
    · simp only [List.mem_cons, mem_insert4 x p r]
      constructor
      · rintro (h | h | h)
        · exact .inr (.inl h)
        · exact .inl h
        · exact .inr (.inr h)
      · rintro (h | h | h)
        · exact .inr (.inl h)
        · exact .inl h
        · exact .inr (.inr h)
/-- f, with the block l at number k. -/
def upd (f : Nat → Option (List Nat)) (k : Nat) (l : List Nat) : Nat → Option (List Nat) := fun i => if i = k then some l else f i
theorem Tells4.put (h : Tells4 es N f) {k : Nat} {l : List Nat} (hk : k < N) (hl : Blk l) (hT : Tidy ((DataW.map es).put (keyN k) (blkD l))) : ∃ es', (DataW.map es).put (keyN k) (blkD l) = .map es' ∧ Tells4 es' N (upd f k l) := by
  obtain ⟨es', he, hp⟩ := hT
  refine ⟨es', he, hp, ?_, ?_⟩
  all_goals
    unfold DataW.put at he
    dsimp only at he
    injection he with he
    subst he
  · intro p hp
    rcases (mem_insert4 _ _ _).1 hp with rfl | hp
    · exact ⟨k, l, hk, hl, by simp [upd], rfl⟩
    · obtain ⟨hp, hne⟩ := List.mem_filter.1 hp
      obtain ⟨k', l', h1, h2, h3, rfl⟩ := h.at_ p hp
      rw [sameKey_keyN] at hne
      have : k' ≠ k := by simpa using hne
      exact ⟨k', l', h1, h2, by simp [upd, this, h3], rfl⟩
  · intro k' l' hk'
    rw [mem_insert4]
    unfold upd at hk'
    split at hk'
    · rename_i e
      injection hk' with hk'
      exact .inl (by rw [e, hk'])
    · rename_i e
      exact .inr (List.mem_filter.2 ⟨h.all k' l' hk', by rw [sameKey_keyN]; simp [e]⟩)
def keyNat : Lit → Nat
  | .int _ z => z.toNat
  | _ => 0
theorem keyNat_keyN (k : Nat) : keyNat (keyN k) = k := by simp [keyNat, keyN]
theorem Tells4.size (h : Tells4 es N f) : es.length ≤ N := by
  have h1 := count_below N (es.map fun p => keyNat p.1) (by
    rw [List.pairwise_map]
    refine List.Pairwise.imp_of_mem ?_ h.apart
    intro p q hp hq hne e
    obtain ⟨k, l, _, _, _, rfl⟩ := h.at_ p hp
    obtain ⟨k', l', _, _, _, rfl⟩ := h.at_ q hq
    rw [keyNat_keyN, keyNat_keyN] at e
    exact hne (by rw [e])) (fun x hx => by
    obtain ⟨p, hp, rfl⟩ := List.mem_map.1 hx
    obtain ⟨k, l, h2, _, _, rfl⟩ := h.at_ p hp
    rw [keyNat_keyN]
    exact h2)
  rwa [List.length_map] at h1
end

theorem zeroBlk : (Try.prog.info? 74).map (fun i => (i.zero, i.size)) = some (some (blkV (Go.Proofs.Ytaoldopkehbhkaa.sec [])), 512) := by kernel_rfl
section
variable {w w' : World} {b N : Nat} {f : Nat → Option (List Nat)}
theorem MapAt.lt (h : MapAt w b N f) : b < w.heap.size := by
  obtain ⟨es, h, _⟩ := h
  exact h.lt
theorem MapAt.only {F : List Nat} (h : MapAt w b N f) (k : Only F w w') (hb : b ∉ F) : MapAt w' b N f := by
  obtain ⟨es, ⟨e, c, hh, r⟩, t⟩ := h
  exact ⟨es, ⟨e, c, k.heap hh hb, r⟩, t⟩
theorem MapAt.made (w : World) {b : Nat} (hb : b = w.heap.size) (N : Nat) : MapAt (w.alloc (.map #[] 0)) b N (fun _ => none) := by
  subst hb
  exact ⟨[], (World.ownsMap_made w _ _ _).mono (Nat.zero_le _), List.Pairwise.nil, (fun p hp => by cases hp), (fun k l h => by cases h)⟩
theorem MapAt.blk (h : MapAt w b N f) {k : Nat} {l : List Nat} (hk : f k = some l) : k < N ∧ Blk l := by
  obtain ⟨es, _, t⟩ := h
  exact t.lt hk
theorem wf_key {k : Nat} (hk : k ≤ 9223372036854775807) : (Lit.int .i64 (k : Int)).wf = true := by
  simp [Lit.wf, IntKind.min, IntKind.max, IntKind.signed, IntKind.bits]
  omega
theorem MapAt.look (h : MapAt w b N f) (k : Nat) (hk : k ≤ 9223372036854775807) :
    (Instr.lookup 71 (.map (some b)) (.int .i64 (k : Int)) true).run Try.prog w = .ok (.tuple #[blkV ((f k).getD (Go.Proofs.Ytaoldopkehbhkaa.sec [])), .bool (f k).isSome]) w := by
  obtain ⟨es, ho, t⟩ := h
  obtain ⟨hz, _⟩ := zero_of_info zeroBlk
  obtain ⟨v, ps, hr, hv⟩ := ho.look_ok lawI Try.underlying71 (hz w) (blkElem_mk Blk.zero) (keyOf_int_mk (P := Try.prog) Try.underlying3 (wf_key hk))
  rw [show (Lit.int .i64 (k : Int)) = keyN k from rfl] at hr hv
  rw [t.has] at hr
  rw [t.atKey] at hv
  obtain ⟨l, hl, rfl, h1⟩ := blkElem_inv hv
  simp only [Prod.mk.injEq] at h1
  rw [← blkD_inj h1.1] at hr
  exact hr
theorem MapAt.sized (h : MapAt w b N f) : ∃ es, w.ownsMap Try.prog 3 blkElem b es.length (.map es) ∧ Tells4 es N f := by
  obtain ⟨es, ⟨e, c, hh, F, hs, hD⟩, t⟩ := h
  refine ⟨es, ⟨e, c, hh, F, ?_, hD⟩, t⟩
  injection hD with hD
  rw [hD, length_sorted, List.length_map, Array.length_toList]
  exact Nat.le_refl _
theorem MapAt.store (h : MapAt w b N f) (hN : N < 4097) {k : Nat} {l : List Nat} (hk : k < N) (hl : Blk l) :
    ∃ w', (Instr.mapUpdate 71 (.map (some b)) (.int .i64 (k : Int)) (blkV l)).run Try.prog w = .ok () w' ∧ MapAt w' b N (upd f k l) ∧ Only [b] w w' := by
  obtain ⟨es, ho, t⟩ := h.sized
  have hsz := t.size
  obtain ⟨w', hr, ho', hm⟩ := ho.store lawI Try.underlying71 (by unfold maxLen; omega) (keyOf_int_mk (P := Try.prog) Try.underlying3 (wf_key (k := k) (by omega))) (blkElem_mk hl)
  rw [show (Lit.int .i64 (k : Int)) = keyN k from rfl] at ho'
  obtain ⟨es', he, t'⟩ := t.put hk hl (ho'.tidy lawI)
  rw [he] at ho'
  have ho2 : w'.ownsMap Try.prog 3 blkElem b N (.map es') := by
    obtain ⟨e, c, hh, F, hs, hD⟩ := ho'
    refine ⟨e, c, hh, F, ?_, hD⟩
    injection hD with hD
    have h2 := t'.size
    rw [hD, length_sorted, List.length_map, Array.length_toList] at h2
    exact h2
  exact ⟨w', hr, ⟨es', ho2, t'⟩, (Only.refl _ _).grown hm.grown (fun k hk => .inl (by injection hk with hk; simp [hk]))⟩
end
end Go.Proofs.Ytaoldopkehbhkaa
