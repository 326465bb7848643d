/-
  btree: a node in memory, in plain words: its entries, the pairs below it, the blocks below it. · btree: pieces; what lays; what a node is once the leaf below is edited: in plain words. · btree: which kid leads to a key; the edits; what a change leaves: in plain words.
-/
import Derived.Test.YtnogmgnbhcmajaaDoorQA14
import Derived.Test.YtnogmgnbhcmajaaDoorQM6
namespace Go.Proofs.YtnogmgnbhcmajaaDoor
open Wal

/-- A pair that may lie in a tree. -/
structure OkE (e : En) : Prop where
  k1 : 1 ≤ e.1.length
  k2 : e.1.length ≤ 128
  v : e.2.length ≤ 64
  kb : ∀ x ∈ e.1, x < 256
  vb : ∀ x ∈ e.2, x < 256
def OkAll (es : List En) : Prop := ∀ e ∈ es, OkE e
theorem OkE.size {e : En} (h : OkE e) : sizeE e ≤ 194 := by
  have := h.k2
  have := h.v
  unfold sizeE
  omega
/-- A node of level d + 1: its entries, the pairs and the blocks below it. -/
def Nd (f : Nat → Option KB) : Nat → List En → List En → List Nat → Prop
  | 0, ents, es, bs => ents = es ∧ bs = []
  | d + 1, ents, es, bs => ∃ ks : List Kid, ents = leads ks ∧ (∀ k ∈ ks, TreeIs f d k.b k.es k.bs) ∧ es = pairs ks ∧ bs = blocksK ks
structure NodeAt (f : Nat → Option KB) (d b : Nat) (es : List En) (bs : List Nat) (ents : List En) (bs0 : List Nat) : Prop where
  nd : Nd f d ents es bs0
  pos : 0 < b
  most : b ≤ 4096
  there : ∃ h, f (b - 1) = some (pad (encN (d + 1) ents), h)
  some_ : ents ≠ []
  two : 0 < d → 2 ≤ ents.length
  fit : totalE ents ≤ 511
  all : bs = b :: bs0
theorem TreeIs.node {f : Nat → Option KB} {d b : Nat} {es : List En} {bs : List Nat} (h : TreeIs f d b es bs) : ∃ ents bs0, NodeAt f d b es bs ents bs0 := by
  match d, h with
  | 0, ⟨h1, h2, h3, h4, h5, h6⟩ => exact ⟨es, [], ⟨rfl, rfl⟩, h1, h2, h3, h4, fun h => absurd h (Nat.lt_irrefl 0), h5, h6⟩
  | d + 1, ⟨ks, h1, h2, h3, h4, h5, h6, h7, h8⟩ =>
    exact ⟨leads ks, blocksK ks, ⟨ks, rfl, h6, h7, rfl⟩, h1, h2, h3, fun e => by
      have : (leads ks).length = 0 := by rw [e]; rfl
      unfold leads at this
      rw [List.length_map] at this
      omega, fun _ => by unfold leads; rw [List.length_map]; exact h4, h5, h8⟩
theorem NodeAt.tree {f : Nat → Option KB} {d b : Nat} {es ents : List En} {bs bs0 : List Nat} (h : NodeAt f d b es bs ents bs0) : TreeIs f d b es bs := by
  match d, h with
  | 0, ⟨⟨e1, e2⟩, h1, h2, h3, h4, _, h5, h6⟩ =>
    subst e1 e2
    exact ⟨h1, h2, h3, h4, h5, h6⟩
  | d + 1, ⟨⟨ks, e1, e2, e3, e4⟩, h1, h2, h3, h4, h7, h5, h6⟩ =>
    subst e1 e4
    have := h7 (by omega)
    unfold leads at this
    rw [List.length_map] at this
    exact ⟨ks, h1, h2, h3, this, h5, e2, e3, h6⟩
/-- What an entry of a node is like. -/
structure EntOk (d : Nat) (e : En) : Prop where
  k1 : 1 ≤ e.1.length
  k2 : e.1.length ≤ 128
  v : e.2.length ≤ 64
  kb : ∀ x ∈ e.1, x < 256
  vb : ∀ x ∈ e.2, x < 256
  kid : 0 < d → ∃ b, 0 < b ∧ b ≤ 4096 ∧ e.2 = pk b
theorem pk_two {b : Nat} (h : b ≤ 4096) : (pk b).length ≤ 2 := pk_length (by have : (256 : Nat) ^ 2 = 65536 := by decide
                                                                             omega)
theorem EntOk.size {d : Nat} {e : En} (h : EntOk d e) : sizeE e ≤ 194 := by
  have := h.k2
  have := h.v
  unfold sizeE
  omega
theorem EntOk.size_kid {d : Nat} {e : En} (h : EntOk d e) (hd : 0 < d) : sizeE e ≤ 138 := by
  obtain ⟨b, _, h2, h3⟩ := h.kid hd
  have := h.k2
  have := pk_two h2
  unfold sizeE
  rw [h3]
  omega
theorem EntOk.small {d : Nat} {e : En} (h : EntOk d e) : Small e := ⟨by have := h.k2; omega, by have := h.v; omega, h.kb, h.vb⟩
theorem head_mem {es : List En} (h : es ≠ []) : es.headD ([], []) ∈ es := by
  cases es with
  | nil => exact absurd rfl h
  | cons a r => simp
theorem kid_in {ks : List Kid} {k : Kid} (hk : k ∈ ks) {e : En} (he : e ∈ k.es) : e ∈ pairs ks := List.mem_flatMap.2 ⟨k, hk, he⟩
theorem lead_key {f : Nat → Option KB} {d : Nat} {ks : List Kid} (h : ∀ k ∈ ks, TreeIs f d k.b k.es k.bs) : ∀ e ∈ leads ks, ∃ x ∈ pairs ks, e.1 = x.1 := fun e he => by
  obtain ⟨k, hk, rfl⟩ := List.mem_map.1 he
  exact ⟨_, kid_in hk (head_mem (h k hk).top.2.2.1), rfl⟩
theorem Nd.key {f : Nat → Option KB} {d : Nat} {ents es : List En} {bs : List Nat} (h : Nd f d ents es bs) : ∀ e ∈ ents, ∃ x ∈ es, e.1 = x.1 := by
  match d, h with
  | 0, ⟨e1, _⟩ => subst e1; exact fun e he => ⟨e, he, rfl⟩
  | d + 1, ⟨ks, e1, e2, e3, _⟩ => subst e1 e3; exact lead_key e2
theorem Nd.ok {f : Nat → Option KB} {d : Nat} {ents es : List En} {bs : List Nat} (h : Nd f d ents es bs) (ho : OkAll es) : ∀ e ∈ ents, EntOk d e := by
  match d, h with
  | 0, ⟨e1, _⟩ =>
    subst e1
    exact fun e he => ⟨(ho e he).k1, (ho e he).k2, (ho e he).v, (ho e he).kb, (ho e he).vb, fun h => absurd h (Nat.lt_irrefl 0)⟩
  | d + 1, ⟨ks, e1, e2, e3, _⟩ =>
    subst e1 e3
    intro e he
    obtain ⟨k, hk, rfl⟩ := List.mem_map.1 he
    have t := (e2 k hk).top
    have o := ho _ (kid_in hk (head_mem t.2.2.1))
    exact ⟨o.k1, o.k2, Nat.le_trans (pk_two t.2.1) (by omega), o.kb, pk_bytes _, fun _ => ⟨k.b, t.1, t.2.1, rfl⟩⟩
theorem Nd.rises {f : Nat → Option KB} {d : Nat} {ents es : List En} {bs : List Nat} (h : Nd f d ents es bs) (hr : Rises es) : Rises ents := by
  match d, h with
  | 0, ⟨e1, _⟩ => subst e1; exact hr
  | d + 1, ⟨ks, e1, e2, e3, _⟩ => subst e1 e3; exact leads_rise e2 hr
/-- The first key of a node is that of its pairs. -/
theorem Nd.first {f : Nat → Option KB} {d : Nat} {ents es : List En} {bs : List Nat} (h : Nd f d ents es bs) : (ents.headD ([], [])).1 = (es.headD ([], [])).1 := by
  match d, h with
  | 0, ⟨e1, _⟩ => subst e1; rfl
  | d + 1, ⟨ks, e1, e2, e3, _⟩ =>
    subst e1 e3
    rcases ks with _ | ⟨k, r⟩
    · rfl
    · have n1 := (e2 k (by simp)).top.2.2.1
      obtain ⟨x, xs, e⟩ := List.exists_cons_of_ne_nil n1
      rw [pairs_cons, e]
      show (k.es.headD ([], [])).1 = _
      rw [e]
      rfl
theorem leads_split : ∀ {ks : List Kid} {a b : List En}, leads ks = a ++ b → ∃ k1 k2, ks = k1 ++ k2 ∧ leads k1 = a ∧ leads k2 = b := fun {ks a b} h => by
  obtain ⟨k1, k2, h1, h2, h3⟩ := List.map_eq_append_iff.1 h
  exact ⟨k1, k2, h1, h2, h3⟩
theorem Nd.split {f : Nat → Option KB} {d : Nat} {a b es : List En} {bs : List Nat} (h : Nd f d (a ++ b) es bs) : ∃ es1 es2 bs1 bs2, Nd f d a es1 bs1 ∧ Nd f d b es2 bs2 ∧ es = es1 ++ es2 ∧ bs = bs1 ++ bs2 := by
  match d, h with
  | 0, ⟨e1, e2⟩ => exact ⟨a, b, [], [], ⟨rfl, rfl⟩, ⟨rfl, rfl⟩, e1.symm, e2⟩
  | d + 1, ⟨ks, e1, e2, e3, e4⟩ =>
    obtain ⟨k1, k2, rfl, h1, h2⟩ := leads_split e1.symm
    exact ⟨pairs k1, pairs k2, blocksK k1, blocksK k2, ⟨k1, h1.symm, fun k hk => e2 k (by simp [hk]), rfl, rfl⟩, ⟨k2, h2.symm, fun k hk => e2 k (by simp [hk]), rfl, rfl⟩, by rw [e3, pairs_append], by rw [e4, blocksK_append]⟩
theorem Nd.join {f : Nat → Option KB} {d : Nat} {a b es1 es2 : List En} {bs1 bs2 : List Nat} (h : Nd f d a es1 bs1) (k : Nd f d b es2 bs2) : Nd f d (a ++ b) (es1 ++ es2) (bs1 ++ bs2) := by
  match d, h, k with
  | 0, ⟨e1, e2⟩, ⟨e3, e4⟩ => subst e1 e2 e3 e4; exact ⟨rfl, rfl⟩
  | d + 1, ⟨ks, e1, e2, e3, e4⟩, ⟨ks', e1', e2', e3', e4'⟩ =>
    subst e1 e3 e4 e1' e3' e4'
    exact ⟨ks ++ ks', (leads_append _ _).symm, fun k hk => (List.mem_append.1 hk).elim (e2 k) (e2' k), (pairs_append _ _).symm, (blocksK_append _ _).symm⟩
theorem Nd.same {f f' : Nat → Option KB} {d : Nat} {ents es : List En} {bs : List Nat} (h : Nd f d ents es bs) (hs : ∀ v ∈ bs, f' (v - 1) = f (v - 1)) : Nd f' d ents es bs := by
  match d, h with
  | 0, h => exact h
  | d + 1, ⟨ks, e1, e2, e3, e4⟩ =>
    exact ⟨ks, e1, fun k hk => (e2 k hk).same (fun v hv => hs v (by rw [e4]; exact List.mem_flatMap.2 ⟨k, hk, hv⟩)), e3, e4⟩
theorem Nd.taken {f : Nat → Option KB} {d : Nat} {ents es : List En} {bs : List Nat} (h : Nd f d ents es bs) : ∀ v ∈ bs, 0 < v ∧ v ≤ 4096 ∧ ∃ x, f (v - 1) = some x := by
  match d, h with
  | 0, ⟨_, e2⟩ => subst e2; exact fun v hv => by cases hv
  | d + 1, ⟨ks, e1, e2, e3, e4⟩ =>
    subst e4
    intro v hv
    obtain ⟨k, hk, hv⟩ := List.mem_flatMap.1 hv
    exact (e2 k hk).taken v hv
theorem Nd.some_ {f : Nat → Option KB} {d : Nat} {ents es : List En} {bs : List Nat} (h : Nd f d ents es bs) : ents = [] ↔ es = [] := by
  match d, h with
  | 0, ⟨e1, _⟩ => subst e1; exact Iff.rfl
  | d + 1, ⟨ks, e1, e2, e3, _⟩ =>
    subst e1 e3
    rcases ks with _ | ⟨k, r⟩
    · exact ⟨fun _ => rfl, fun _ => rfl⟩
    · have n1 := (e2 k (by simp)).top.2.2.1
      refine ⟨fun h => (by cases h), fun h => ?_⟩
      rw [pairs_cons] at h
      exact absurd (List.append_eq_nil_iff.1 h).1 n1
/-- The blocks that are new, and what else has turned: nothing. -/
structure Grew (n : Nat) (f f' : Nat → Option KB) (news : List Nat) : Prop where
  same : ∀ v, v + 1 ∉ news → f' v = f v
  new_ : ∀ b ∈ news, 0 < b ∧ b ≤ n ∧ f (b - 1) = none ∧ ∃ l, f' (b - 1) = some (l, false)
  nodup : news.Nodup
theorem Grew.refl (n : Nat) (f : Nat → Option KB) : Grew n f f [] := ⟨fun _ _ => rfl, by simp, List.nodup_nil⟩
theorem Grew.trans {n : Nat} {f f' f'' : Nat → Option KB} {a b : List Nat} (h : Grew n f f' a) (k : Grew n f' f'' b) : Grew n f f'' (a ++ b) := by
  have dis : ∀ x ∈ a, x ∉ b := fun x hx hb => by
    obtain ⟨_, _, _, l, h1⟩ := h.new_ x hx
    have := (k.new_ x hb).2.2.1
    rw [h1] at this
    cases this
  have pos : ∀ x ∈ a ++ b, 0 < x := fun x hx => (List.mem_append.1 hx).elim (fun h' => (h.new_ x h').1) (fun h' => (k.new_ x h').1)
  refine ⟨fun v hv => ?_, fun x hx => ?_, List.nodup_append.2 ⟨h.nodup, k.nodup, fun x hx y hy e => dis x hx (e ▸ hy)⟩⟩
  · rw [List.mem_append, not_or] at hv
    rw [k.same v hv.2, h.same v hv.1]
  · rcases List.mem_append.1 hx with hx | hx
    · obtain ⟨h1, h2, h3, l, h4⟩ := h.new_ x hx
      refine ⟨h1, h2, h3, l, ?_⟩
      rw [k.same (x - 1) (by rw [show x - 1 + 1 = x by omega]; exact dis x hx)]
      exact h4
    · obtain ⟨h1, h2, h3, l, h4⟩ := k.new_ x hx
      refine ⟨h1, h2, ?_, l, h4⟩
      rw [← h.same (x - 1) (by rw [show x - 1 + 1 = x by omega]; exact fun ha => dis x ha hx)]
      exact h3
/-- What was taken stays as it was. -/
theorem Grew.keep {n : Nat} {f f' : Nat → Option KB} {a : List Nat} (h : Grew n f f' a) {v : Nat} (h0 : 0 < v) (hv : ∃ x, f (v - 1) = some x) : f' (v - 1) = f (v - 1) :=
  h.same (v - 1) (fun hm => by
    rw [show v - 1 + 1 = v by omega] at hm
    obtain ⟨x, hx⟩ := hv
    have := (h.new_ v hm).2.2.1
    rw [hx] at this
    cases this)
theorem Grew.tree {n : Nat} {f f' : Nat → Option KB} {a : List Nat} (h : Grew n f f' a) {d b : Nat} {es : List En} {bs : List Nat} (t : TreeIs f d b es bs) : TreeIs f' d b es bs :=
  t.same (fun v hv => h.keep (t.taken v hv).1 (t.taken v hv).2.2)
theorem Grew.nd {n : Nat} {f f' : Nat → Option KB} {a : List Nat} (h : Grew n f f' a) {d : Nat} {ents es : List En} {bs : List Nat} (t : Nd f d ents es bs) : Nd f' d ents es bs :=
  t.same (fun v hv => h.keep (t.taken v hv).1 (t.taken v hv).2.2)
theorem cnt_putB (f : Nat → Option KB) (i : Nat) (x : KB) (hf : f i = none) : ∀ n, cnt n (put f i (some x)) = cnt n f + if i < n then 1 else 0
  | 0 => by simp [cnt_zero]
  | n + 1 => by
    rw [cnt_succ, cnt_succ, cnt_putB f i x hf n]
    unfold put
    by_cases c : n = i
    · subst c
      simp [hf]
    · rw [if_neg c]
      by_cases c2 : i < n
      · rw [if_pos c2, if_pos (by omega : i < n + 1)]; omega
      · rw [if_neg c2, if_neg (by omega : ¬ i < n + 1)]; omega
theorem cnt_same {f f' : Nat → Option KB} (h : ∀ j, (f' j).isSome = (f j).isSome) (n : Nat) : cnt n f' = cnt n f := by
  unfold cnt
  congr 1
  exact List.filter_congr (fun j _ => h j)
theorem cnt_fullB {f : Nat → Option KB} : ∀ n, (∀ j, j < n → f j ≠ none) → cnt n f = n
  | 0, _ => rfl
  | n + 1, h => by
    rw [cnt_succ, cnt_fullB n (fun j hj => h j (by omega))]
    cases hx : f n with
    | none => exact absurd hx (h n (by omega))
    | some x => rfl
theorem cnt_noneB (n : Nat) : cnt n (fun _ => none) = 0 := by
  induction n with
  | zero => rfl
  | succ n ih => rw [cnt_succ, ih]; rfl
theorem cnt_grew (n : Nat) : ∀ (bs : List Nat) (f f' : Nat → Option KB), bs.Nodup → (∀ v ∈ bs, 1 ≤ v ∧ v ≤ n ∧ f (v - 1) = none ∧ f' (v - 1) ≠ none) → (∀ j, j + 1 ∉ bs → (f' j).isSome = (f j).isSome) → cnt n f' = cnt n f + bs.length
  | [], f, f', _, _, h => cnt_same (fun j => h j (by simp)) n
  | v :: bs, f, f', hd, h1, h2 => by
    obtain ⟨a1, a2, a3, a4⟩ := h1 v (by simp)
    have hd' := List.nodup_cons.1 hd
    have ih := cnt_grew n bs (put f (v - 1) (some zeroKB)) f' hd'.2 (fun u hu => by
      obtain ⟨b1, b2, b3, b4⟩ := h1 u (by simp [hu])
      refine ⟨b1, b2, ?_, b4⟩
      unfold put
      rw [if_neg (fun e => hd'.1 (by rw [show v = u by omega]; exact hu))]
      exact b3) (fun j hj => by
      unfold put
      by_cases c : j = v - 1
      · rw [if_pos c, c]
        cases hx : f' (v - 1) with
        | none => exact absurd hx a4
        | some x => rfl
      · rw [if_neg c]
        exact h2 j (by simp only [List.mem_cons, not_or]; exact ⟨by omega, hj⟩))
    rw [ih, cnt_putB f (v - 1) zeroKB a3 n, if_pos (by omega), List.length_cons]
    omega
theorem Grew.cnt {n : Nat} {f f' : Nat → Option KB} {a : List Nat} (h : Grew n f f' a) : cnt n f' = cnt n f + a.length :=
  cnt_grew n a f f' h.nodup (fun v hv => by
    obtain ⟨h1, h2, h3, l, h4⟩ := h.new_ v hv
    exact ⟨h1, h2, h3, by rw [h4]; simp⟩) (fun j hj => by rw [h.same j hj])
end Go.Proofs.YtnogmgnbhcmajaaDoor

namespace Go.Proofs.YtnogmgnbhcmajaaDoor
open Wal

/-- Two pieces at most, each of which fits. -/
def pieces (es : List En) : List (List En) := if es = [] then [] else if totalE es ≤ 511 then [es] else [es.take (mid es), es.drop (mid es)]
theorem mid_half {es : List En} {m : Nat} (h : 511 < totalE es) (hm : ∀ e ∈ es, sizeE e ≤ m) (h2 : m ≤ 194) : 2 * totalE (es.take (mid es)) ≤ totalE es + m ∧ 2 * totalE (es.drop (mid es)) ≤ totalE es + m := by
  obtain ⟨p1, p2, _, _⟩ := mid_cuts h hm h2
  obtain ⟨_, hb, hc⟩ := midN_spec es 0
  have hmid : midN es 0 (totalE es) = mid es := rfl
  rw [hmid] at hb hc
  have tot : totalE (es.take (mid es)) + totalE (es.drop (mid es)) = totalE es := by rw [← totalE_append, List.take_append_drop]
  have step : ∀ k, k < es.length → ∃ z, z ≤ m ∧ totalE (es.take (k + 1)) = totalE (es.take k) + z := fun k hk => ⟨sizeE es[k], hm _ (List.getElem_mem hk), totalE_take_succ es k hk⟩
  have hB := hb p2
  have hC := hc (mid es - 1) (by omega)
  obtain ⟨y, hy, hs2⟩ := step (mid es - 1) (by omega)
  obtain ⟨z, hz, hs⟩ := step (mid es) p2
  rw [show mid es - 1 + 1 = mid es by omega] at hC hs2
  exact ⟨by omega, by omega⟩
structure Pieces (m : Nat) (es : List En) (ps : List (List En)) : Prop where
  all : ps.flatMap id = es
  fits : ∀ p ∈ ps, totalE p ≤ 511 ∧ p ≠ []
  big : 511 < totalE es → ∀ p ∈ ps, 512 - m ≤ 2 * totalE p
  few : ps.length ≤ 2
  one : totalE es ≤ 511 → ps.length ≤ 1
  same : totalE es ≤ 511 → ∀ p ∈ ps, p = es
  some_ : ps = [] ↔ es = []
theorem pieces_ok {es : List En} {m : Nat} (hm : ∀ e ∈ es, sizeE e ≤ m) (h2 : m ≤ 194) (h3 : totalE es + m ≤ 1023) : Pieces m es (pieces es) := by
  unfold pieces
  by_cases c : es = []
  · subst c
    rw [if_pos rfl]
    exact ⟨rfl, by simp, by simp, by simp, by simp, by simp, by simp⟩
  · rw [if_neg c]
    by_cases c2 : totalE es ≤ 511
    · rw [if_pos c2]
      exact ⟨by simp, fun p hp => by have e : p = es := by simpa using hp
                                     subst e; exact ⟨c2, c⟩, fun h => by omega, by simp, by simp, by simp, by simp [c]⟩
    · rw [if_neg c2]
      obtain ⟨p1, p2, p3, p4⟩ := mid_cuts (by omega) hm h2
      obtain ⟨q1, q2⟩ := mid_half (by omega) hm h2
      refine ⟨by simp, fun p hp => ?_, fun _ p hp => ?_, by simp, fun h => by omega, fun h => by omega, by simp [c]⟩
      · rcases List.mem_cons.1 hp with rfl | hp
        · exact ⟨by omega, fun e => by have := congrArg List.length e; rw [List.length_take, List.length_nil] at this; omega⟩
        · have e : p = es.drop (mid es) := by simpa using hp
          subst e
          exact ⟨by omega, fun e => by have := congrArg List.length e; rw [List.length_drop, List.length_nil] at this; omega⟩
      · rcases List.mem_cons.1 hp with rfl | hp
        · exact p3
        · have e : p = es.drop (mid es) := by simpa using hp
          subst e
          exact p4
/-- A piece of a node is a node. -/
theorem Pieces.two {es : List En} {ps : List (List En)} (h : Pieces 138 es ps) (hm : ∀ e ∈ es, sizeE e ≤ 138) (h2 : 2 ≤ es.length) : ∀ p ∈ ps, 2 ≤ p.length := fun p hp => by
  rcases Nat.lt_or_ge 511 (totalE es) with c | c
  · have := h.big c p hp
    exact two_of (m := 138) (fun e he => hm e (by rw [← h.all]; exact List.mem_flatMap.2 ⟨p, hp, he⟩)) (by omega)
  · rw [h.same c p hp]; exact h2
/-- The first j pieces are laid. -/
structure Laying (n : Nat) (f f' : Nat → Option KB) (d : Nat) (ps : List (List En)) (j : Nat) (es : List En) (bs : List Nat) (ks : List Kid) (news : List Nat) : Prop where
  trees : ∀ k ∈ ks, TreeIs f' d k.b k.es k.bs
  grew : Grew n f f' news
  len : ks.length = j
  nl : news.length = j
  rest : ∃ e1 b0 b1, Nd f d ((ps.drop j).flatMap id) e1 b1 ∧ es = pairs ks ++ e1 ∧ bs = b0 ++ b1 ∧ (blocksK ks).Perm (news ++ b0)
theorem Laying.start {n : Nat} {f : Nat → Option KB} {d : Nat} {ps : List (List En)} {ents es : List En} {bs : List Nat} (h : Nd f d ents es bs) (hp : ps.flatMap id = ents) : Laying n f f d ps 0 es bs [] [] :=
  ⟨fun k hk => (by cases hk), Grew.refl n f, rfl, rfl, es, [], bs, by rw [List.drop_zero, hp]; exact h, rfl, rfl, List.Perm.refl _⟩
theorem put_grew {n : Nat} {f : Nat → Option KB} {i : Nat} (hi : i < n) (hf : f i = none) (l : List Nat) : Grew n f (put (put f i (some zeroKB)) i (some (l, false))) [i + 1] := by
  refine ⟨fun v hv => ?_, fun b hb => ?_, by simp⟩
  · have : v ≠ i := fun e => hv (by simp [e])
    unfold put
    rw [if_neg this, if_neg this]
  · have : b = i + 1 := by simpa using hb
    subst this
    refine ⟨by omega, by omega, hf, l, ?_⟩
    unfold put
    rw [Nat.add_sub_cancel, if_pos rfl]
theorem Laying.step {n : Nat} {f f' : Nat → Option KB} {d : Nat} {ps : List (List En)} {j : Nat} {es : List En} {bs : List Nat} {ks : List Kid} {news : List Nat} (h : Laying n f f' d ps j es bs ks news) (hj : j < ps.length) (hp : totalE ps[j] ≤ 511 ∧ ps[j] ≠ []) (h2 : 0 < d → 2 ≤ ps[j].length)
    {i : Nat} (hi : i < n) (hn : n ≤ 4096) (hf : f' i = none) :
    ∃ k : Kid, k.lead = ((ps[j].headD ([], [])).1, pk (i + 1)) ∧ Laying n f (put (put f' i (some zeroKB)) i (some (pad (encN (d + 1) ps[j]), false))) d ps (j + 1) es bs (ks ++ [k]) (news ++ [i + 1]) := by
  obtain ⟨e1, b0, b1, hr, he, hb, hperm⟩ := h.rest
  rw [List.drop_eq_getElem_cons hj, List.flatMap_cons] at hr
  obtain ⟨ea, eb, ba, bb, ha, hb', e3, e4⟩ := hr.split
  have G1 := put_grew hi hf (pad (encN (d + 1) ps[j]))
  have G := h.grew.trans G1
  have na : Nd (put (put f' i (some zeroKB)) i (some (pad (encN (d + 1) ps[j]), false))) d ps[j] ea ba := G.nd ha
  have hnode : NodeAt (put (put f' i (some zeroKB)) i (some (pad (encN (d + 1) ps[j]), false))) d (i + 1) ea ((i + 1) :: ba) ps[j] ba := by
    refine ⟨na, by omega, by omega, ⟨false, ?_⟩, hp.2, h2, hp.1, rfl⟩
    rw [Nat.add_sub_cancel]
    unfold put
    rw [if_pos rfl]
  refine ⟨⟨i + 1, ea, (i + 1) :: ba⟩, ?_, ⟨fun k hk => ?_, G, by rw [List.length_append, h.len]; rfl, by rw [List.length_append, h.nl]; rfl, eb, b0 ++ ba, bb, hb', ?_, ?_, ?_⟩⟩
  · unfold Kid.lead
    exact congrArg (fun z => (z, pk (i + 1))) ha.first.symm
  · rcases List.mem_append.1 hk with hk | hk
    · exact G1.tree (h.trees k hk)
    · have : k = ⟨i + 1, ea, (i + 1) :: ba⟩ := by simpa using hk
      subst this
      exact hnode.tree
  · rw [he, e3, pairs_append, List.append_assoc]
    simp [pairs]
  · rw [hb, e4, List.append_assoc]
  · rw [blocksK_append]
    refine List.perm_iff_count.2 fun a => ?_
    have := List.perm_iff_count.1 hperm a
    simp only [blocksK, List.flatMap_cons, List.flatMap_nil, List.count_append, List.count_cons, List.count_nil] at this ⊢
    omega
/-- A node is laid. -/
structure LaidN (n : Nat) (f f' : Nat → Option KB) (d : Nat) (ents es : List En) (bs : List Nat) (ks : List Kid) (news : List Nat) : Prop where
  trees : ∀ k ∈ ks, TreeIs f' d k.b k.es k.bs
  pairs : pairs ks = es
  blocks : (blocksK ks).Perm (news ++ bs)
  grew : Grew n f f' news
  few : ks.length ≤ 2
  nl : news.length = ks.length
  one : totalE ents ≤ 511 → ks.length ≤ 1
  some_ : ks = [] ↔ ents = []
theorem Laying.done {n : Nat} {f f' : Nat → Option KB} {d : Nat} {ents es : List En} {ps : List (List En)} {bs : List Nat} {ks : List Kid} {news : List Nat} {m : Nat} (h : Laying n f f' d ps ps.length es bs ks news) (hp : Pieces m ents ps) : LaidN n f f' d ents es bs ks news := by
  obtain ⟨e1, b0, b1, hr, he, hb, hperm⟩ := h.rest
  rw [List.drop_length] at hr
  have z1 : e1 = [] := hr.some_.1 rfl
  have z2 : b1 = [] := by
    match d, hr with
    | 0, ⟨_, e2⟩ => exact e2
    | d + 1, ⟨ks, e1, _, _, e4⟩ =>
      have : ks = [] := by
        rcases ks with _ | ⟨k, r⟩
        · rfl
        · cases e1
      rw [e4, this]; rfl
  subst z1 z2
  rw [List.append_nil] at he hb
  subst hb
  refine ⟨h.trees, he.symm, hperm, h.grew, by rw [h.len]; exact hp.few, by rw [h.nl, h.len], fun hh => by rw [h.len]; exact hp.one hh, ?_⟩
  rw [← hp.some_]
  refine ⟨fun e => ?_, fun e => ?_⟩
  · have := h.len
    rw [e] at this
    exact List.eq_nil_of_length_eq_zero this.symm
  · have := h.len
    rw [e] at this
    exact List.eq_nil_of_length_eq_zero this
theorem LaidN.nd {n : Nat} {f f' : Nat → Option KB} {d : Nat} {ents es : List En} {bs : List Nat} {ks : List Kid} {news : List Nat} (h : LaidN n f f' d ents es bs ks news) : Nd f' (d + 1) (leads ks) es (blocksK ks) := ⟨ks, rfl, h.trees, h.pairs.symm, rfl⟩
theorem total_few {es : List En} {m k : Nat} (h : ∀ e ∈ es, sizeE e ≤ m) (hk : es.length ≤ k) : totalE es ≤ k * m := Nat.le_trans (total_le es m h) (Nat.mul_le_mul_right m hk)
theorem LaidN.fit {n : Nat} {f f' : Nat → Option KB} {d : Nat} {ents es : List En} {bs : List Nat} {ks : List Kid} {news : List Nat} (h : LaidN n f f' d ents es bs ks news) (ho : OkAll es) : totalE (leads ks) ≤ 276 :=
  total_few (m := 138) (k := 2) (fun e he => (h.nd.ok ho e he).size_kid (by omega)) (by unfold leads; rw [List.length_map]; exact h.few)
/-- A node whose leaf below has been edited. -/
structure Renewed (n : Nat) (f f' : Nat → Option KB) (d : Nat) (es' : List En) (bs : List Nat) (ents' : List En) (bs' olds news : List Nat) : Prop where
  nd : Nd f' d ents' es' bs'
  grew : Grew n f f' news
  swap : ∃ kept, bs.Perm (olds ++ kept) ∧ bs'.Perm (news ++ kept)
  fit : totalE ents' ≤ 787
  some_ : 0 < d → ents' ≠ []
  few : news.length ≤ 2 * d
/-- What is done to pairs at a key. -/
structure EditOk (k : List Nat) (E : List En → Option (List En)) : Prop where
  mid : ∀ A B C, (∀ e ∈ A, ltB e.1 k = true) → (∀ e ∈ C, ltB k e.1 = true) → E (A ++ B ++ C) = (E B).map fun B' => A ++ B' ++ C
  ok : ∀ es es', E es = some es' → Rises es → OkAll es → Rises es' ∧ OkAll es'
  size : ∀ es es', E es = some es' → Rises es → OkAll es → totalE es' ≤ totalE es + 194
theorem Renewed.leaf {n : Nat} {f : Nat → Option KB} {b : Nat} {es es' : List En} {bs : List Nat} {ents : List En} {bs0 : List Nat} (h : NodeAt f 0 b es bs ents bs0) (hs : totalE es' ≤ totalE es + 194) : Renewed n f f 0 es' bs es' [] [b] [] := by
  obtain ⟨⟨e1, e2⟩, _, _, _, _, _, h5, h6⟩ := h
  subst e1 e2
  exact ⟨⟨rfl, rfl⟩, Grew.refl n f, ⟨[], by rw [h6]; exact List.Perm.refl _, List.Perm.refl _⟩, by omega, fun h => absurd h (Nat.lt_irrefl 0), by simp⟩
theorem Renewed.up {n : Nat} {f f1 f2 : Nat → Option KB} {d b : Nat} {A M C : List Kid} {bs : List Nat} {ents es1 : List En} {bs1 olds1 news1 kept1 news2 : List Nat} {ks2 : List Kid}
    (hb : bs = b :: blocksK (A ++ M ++ C)) (ht : ∀ k ∈ A ++ M ++ C, TreeIs f d k.b k.es k.bs) (hf : totalE (leads (A ++ M ++ C)) ≤ 511)
    (g1 : Grew n f f1 news1) (p1 : (blocksK M).Perm (olds1 ++ kept1)) (p2 : bs1.Perm (news1 ++ kept1)) (fw : news1.length ≤ 2 * d)
    (l : LaidN n f1 f2 d ents es1 bs1 ks2 news2) (ho : OkAll es1) (hne : A ++ C = [] → ents ≠ []) :
    Renewed n f f2 (d + 1) (pairs A ++ es1 ++ pairs C) bs (leads (A ++ ks2 ++ C)) (blocksK (A ++ ks2 ++ C)) (b :: olds1) (news1 ++ news2) := by
  have G := g1.trans l.grew
  refine ⟨⟨A ++ ks2 ++ C, rfl, fun k hk => ?_, by rw [pairs_append, pairs_append, l.pairs], rfl⟩, G, ⟨kept1 ++ blocksK A ++ blocksK C, ?_, ?_⟩, ?_, fun _ e => ?_, ?_⟩
  · rcases List.mem_append.1 hk with hk | hk
    · rcases List.mem_append.1 hk with hk | hk
      · exact G.tree (ht k (by simp [hk]))
      · exact l.trees k hk
    · exact G.tree (ht k (by simp [hk]))
  · rw [hb, blocksK_append, blocksK_append]
    refine List.perm_iff_count.2 fun a => ?_
    have := List.perm_iff_count.1 p1 a
    simp only [List.count_append, List.count_cons, List.cons_append] at this ⊢
    omega
  · rw [blocksK_append, blocksK_append]
    refine List.perm_iff_count.2 fun a => ?_
    have h1 := List.perm_iff_count.1 l.blocks a
    have h2 := List.perm_iff_count.1 p2 a
    simp only [List.count_append] at h1 h2 ⊢
    omega
  · have := l.fit ho
    rw [leads_append, leads_append, totalE_append, totalE_append] at hf ⊢
    omega
  · have h0 : A ++ ks2 ++ C = [] := List.map_eq_nil_iff.1 e
    have h1 := List.append_eq_nil_iff.1 h0
    have h2 := List.append_eq_nil_iff.1 h1.1
    exact hne (by rw [h2.1, h1.2]; rfl) (l.some_.1 h2.2)
  · rw [List.length_append, l.nl]
    have := l.few
    omega
end Go.Proofs.YtnogmgnbhcmajaaDoor

namespace Go.Proofs.YtnogmgnbhcmajaaDoor
open Wal

/-- Entry j leads to the key. -/
structure Lead (ents : List En) (k : List Nat) (j : Nat) : Prop where
  lt : j < ents.length
  low : 0 < j → ∀ h : j < ents.length, ltB k ents[j].1 = false
  high : ∀ i (h : i < ents.length), j < i → ltB k ents[i].1 = true
theorem ltB_false_trans {a b c : List Nat} (h : ltB a b = true) (k : ltB c b = false) : ltB a c = true := by
  rcases ltB_total a c with h1 | h1 | h1
  · exact h1
  · subst h1; rw [h] at k; cases k
  · have := ltB_trans h1 h
    rw [this] at k; cases k
/-- The kid that leads to the key: what is ahead of it is less, what is behind it is more. -/
theorem kid_bounds {f : Nat → Option KB} {d : Nat} {A C : List Kid} {x : Kid} {k : List Nat} (ht : ∀ y ∈ A ++ [x] ++ C, TreeIs f d y.b y.es y.bs) (hr : Rises (pairs (A ++ [x] ++ C))) (hl : Lead (leads (A ++ [x] ++ C)) k A.length) :
    (∀ e ∈ pairs A, ltB e.1 k = true) ∧ (∀ e ∈ pairs C, ltB k e.1 = true) := by
  have hx := (ht x (by simp)).top.2.2.1
  rw [pairs_append, pairs_append] at hr
  obtain ⟨r1, r2, r3⟩ := rises_append.1 hr
  obtain ⟨r4, r5, r6⟩ := rises_append.1 r1
  have ex : pairs [x] = x.es := by simp [pairs]
  have len : (leads (A ++ [x] ++ C)).length = A.length + 1 + C.length := by simp [leads]; omega
  refine ⟨fun e he => ?_, fun e he => ?_⟩
  · have hA : 0 < A.length := by
      rcases A with _ | ⟨a, r⟩
      · cases he
      · simp
    have h1 := hl.low hA (by rw [len]; omega)
    have h2 : (leads (A ++ [x] ++ C))[A.length]'(by rw [len]; omega) = x.lead := by
      have e0 : leads (A ++ [x] ++ C) = leads A ++ x.lead :: leads C := by simp [leads]
      simp only [e0]
      rw [List.getElem_append_right (by simp [leads])]
      simp [leads]
    rw [h2] at h1
    have h3 := r6 e he (x.es.headD ([], [])) (by rw [ex]; exact head_mem hx)
    exact ltB_false_trans h3 h1
  · obtain ⟨y, hy, hey⟩ := List.mem_flatMap.1 he
    obtain ⟨i, hi, rfl⟩ := List.getElem_of_mem hy
    have h1 := hl.high (A.length + 1 + i) (by rw [len]; omega) (by omega)
    have h2 : (leads (A ++ [x] ++ C))[A.length + 1 + i]'(by rw [len]; omega) = C[i].lead := by
      have e0 : leads (A ++ [x] ++ C) = leads (A ++ [x]) ++ leads C := leads_append _ _
      simp only [e0]
      rw [List.getElem_append_right (by simp [leads])]
      simp only [leads, List.getElem_map]
      congr 2
      simp
    rw [h2] at h1
    have hn := (ht C[i] (by simp)).top.2.2.1
    obtain ⟨z, zs, ez⟩ := List.exists_cons_of_ne_nil hn
    have hz : C[i].lead = (z.1, pk C[i].b) := by unfold Kid.lead; rw [ez]; rfl
    rw [hz] at h1
    rw [ez] at hey
    rcases List.mem_cons.1 hey with rfl | hey
    · exact h1
    · have rC : Rises C[i].es := by
        refine List.Pairwise.sublist ?_ r2
        exact List.sublist_flatten_of_mem (List.mem_map.2 ⟨C[i], by simp, rfl⟩)
      rw [ez] at rC
      exact ltB_trans h1 ((List.pairwise_cons.1 rC).1 e hey)
/-- Put and Delete, as edits: nothing, where nothing turns. -/
def putO (k v : List Nat) (es : List En) : Option (List En) := if (k, v) ∈ es then none else some (putE es k v)
def delO (k : List Nat) (es : List En) : Option (List En) := if ∃ e ∈ es, e.1 = k then some (delE es k) else none
theorem not_lt_self {k : List Nat} {e : En} (h : e.1 = k) : ltB e.1 k = false ∧ ltB k e.1 = false := by rw [h]; exact ⟨ltB_irrefl k, ltB_irrefl k⟩
theorem putO_ok {k v : List Nat} (h : OkE (k, v)) : EditOk k (putO k v) := by
  refine ⟨fun A B C ha hc => ?_, fun es es' he hr ho => ?_, fun es es' he hr ho => ?_⟩
  · have e : (k, v) ∈ A ++ B ++ C ↔ (k, v) ∈ B := by
      refine ⟨fun hm => ?_, fun hm => by simp [hm]⟩
      rcases List.mem_append.1 hm with hm | hm
      · rcases List.mem_append.1 hm with hm | hm
        · have := ha _ hm; rw [(not_lt_self (e := (k, v)) rfl).1] at this; cases this
        · exact hm
      · have := hc _ hm; rw [(not_lt_self (e := (k, v)) rfl).2] at this; cases this
    unfold putO
    by_cases c : (k, v) ∈ B
    · rw [if_pos (e.2 c), if_pos c]; rfl
    · rw [if_neg (fun h => c (e.1 h)), if_neg c, put_mid ha hc]; rfl
  · unfold putO at he
    split at he
    · cases he
    · injection he with he
      subst he
      refine ⟨hr.put k v, fun e he => ?_⟩
      unfold putE at he
      rcases List.mem_append.1 he with he | he
      · exact ho e (List.mem_filter.1 he).1
      · rcases List.mem_cons.1 he with rfl | he
        · exact h
        · exact ho e (List.mem_filter.1 he).1
  · unfold putO at he
    split at he
    · cases he
    · injection he with he
      subst he
      have hs := h.size
      have : ∀ l : List En, totalE (under l k) + totalE (over l k) ≤ totalE l := fun l => by
        induction l with
        | nil => exact Nat.le_refl _
        | cons a r ih =>
          have hu : under (a :: r) k = if ltB a.1 k then a :: under r k else under r k := List.filter_cons
          have hv : over (a :: r) k = if ltB k a.1 then a :: over r k else over r k := List.filter_cons
          rw [hu, hv]
          cases h1 : ltB a.1 k with
          | true =>
            rw [ltB_asymm h1]
            simp only [if_true, totalE_cons, Bool.false_eq_true, if_false]
            omega
          | false =>
            cases h2 : ltB k a.1 with
            | true => simp only [if_true, totalE_cons, Bool.false_eq_true, if_false]; omega
            | false => simp only [totalE_cons, Bool.false_eq_true, if_false]; omega
      have h1 := this es
      unfold putE
      rw [totalE_append, totalE_cons]
      omega
theorem delE_total (es : List En) (k : List Nat) : totalE (delE es k) ≤ totalE es := by
  unfold delE
  induction es with
  | nil => exact Nat.le_refl _
  | cons a r ih =>
    rw [totalE_append] at ih ⊢
    have hu : under (a :: r) k = if ltB a.1 k then a :: under r k else under r k := List.filter_cons
    have hv : over (a :: r) k = if ltB k a.1 then a :: over r k else over r k := List.filter_cons
    rw [hu, hv]
    cases h1 : ltB a.1 k with
    | true =>
      rw [ltB_asymm h1]
      simp only [if_true, totalE_cons, Bool.false_eq_true, if_false]
      omega
    | false =>
      cases h2 : ltB k a.1 with
      | true => simp only [if_true, totalE_cons, Bool.false_eq_true, if_false]; omega
      | false => simp only [totalE_cons, Bool.false_eq_true, if_false]; omega
theorem delO_ok (k : List Nat) : EditOk k (delO k) := by
  refine ⟨fun A B C ha hc => ?_, fun es es' he hr ho => ?_, fun es es' he hr ho => ?_⟩
  · have e : (∃ e ∈ A ++ B ++ C, e.1 = k) ↔ ∃ e ∈ B, e.1 = k := by
      refine ⟨fun ⟨x, hm, hx⟩ => ?_, fun ⟨x, hm, hx⟩ => ⟨x, by simp [hm], hx⟩⟩
      rcases List.mem_append.1 hm with hm | hm
      · rcases List.mem_append.1 hm with hm | hm
        · have := ha _ hm; rw [(not_lt_self hx).1] at this; cases this
        · exact ⟨x, hm, hx⟩
      · have := hc _ hm; rw [(not_lt_self hx).2] at this; cases this
    unfold delO
    by_cases c : ∃ e ∈ B, e.1 = k
    · rw [if_pos (e.2 c), if_pos c, del_mid ha hc]; rfl
    · rw [if_neg (fun h => c (e.1 h)), if_neg c]; rfl
  · unfold delO at he
    split at he
    · injection he with he
      subst he
      refine ⟨hr.del k, fun e he => ?_⟩
      rcases List.mem_append.1 he with he | he
      · exact ho e (List.mem_filter.1 he).1
      · exact ho e (List.mem_filter.1 he).1
    · cases he
  · unfold delO at he
    split at he
    · injection he with he
      subst he
      have := delE_total es k
      omega
    · cases he
/-- A tree of d + 1 levels, or the one without pairs. -/
def At (f : Nat → Option KB) (d b : Nat) (es : List En) (bs : List Nat) : Prop := (b = 0 ∧ d = 0 ∧ es = [] ∧ bs = []) ∨ TreeIs f d b es bs
theorem tree_at {f : Nat → Option KB} {root : Nat} {es : List En} {bs : List Nat} : Tree f root es bs ↔ (∃ d, At f d root es bs) ∧ Rises es ∧ bs.Nodup := by
  constructor
  · rintro (⟨rfl, rfl, rfl⟩ | ⟨d, t, hr, hn⟩)
    · exact ⟨⟨0, .inl ⟨rfl, rfl, rfl, rfl⟩⟩, List.Pairwise.nil, List.nodup_nil⟩
    · exact ⟨⟨d, .inr t⟩, hr, hn⟩
  · rintro ⟨⟨d, ⟨rfl, _, rfl, rfl⟩ | t⟩, hr, hn⟩
    · exact .inl ⟨rfl, rfl, rfl⟩
    · exact .inr ⟨d, t, hr, hn⟩
/-- What is given back: what isn't held. -/
def dropB (f : Nat → Option KB) (olds : List Nat) : Nat → Option KB := fun v => if v + 1 ∈ olds then (match f v with | some (l, true) => some (l, true) | _ => none) else f v
/-- The blocks of a tree are taken by others. -/
structure Swapped (n : Nat) (f f' : Nat → Option KB) (bs bs' : List Nat) (olds news kept : List Nat) : Prop where
  old : bs.Perm (olds ++ kept)
  new_ : bs'.Perm (news ++ kept)
  nodup : news.Nodup
  fresh : ∀ b ∈ news, 0 < b ∧ b ≤ n ∧ f (b - 1) = none ∧ ∃ l, f' (b - 1) = some (l, false)
  gone : ∀ b ∈ olds, f' (b - 1) = (match f (b - 1) with | some (l, true) => some (l, true) | _ => none)
  same : ∀ v, v + 1 ∉ news → v + 1 ∉ olds → f' v = f v
theorem swapped_of {n : Nat} {f f2 : Nat → Option KB} {bs bs' olds news kept : List Nat} (g : Grew n f f2 news) (h1 : bs.Perm (olds ++ kept)) (h2 : bs'.Perm (news ++ kept)) (ht : ∀ v ∈ bs, 0 < v ∧ v ≤ 4096 ∧ ∃ x, f (v - 1) = some x) : Swapped n f (dropB f2 olds) bs bs' olds news kept := by
  have io : ∀ b ∈ olds, b ∈ bs := fun b hb => (h1.mem_iff).2 (by simp [hb])
  have no : ∀ b ∈ news, b ∉ olds := fun b hb ho => by
    obtain ⟨_, _, x, hx⟩ := ht b (io b ho)
    have := (g.new_ b hb).2.2.1
    rw [hx] at this
    cases this
  refine ⟨h1, h2, g.nodup, fun b hb => ?_, fun b hb => ?_, fun v hv ho => ?_⟩
  · obtain ⟨a1, a2, a3, l, a4⟩ := g.new_ b hb
    refine ⟨a1, a2, a3, l, ?_⟩
    unfold dropB
    rw [show b - 1 + 1 = b by omega, if_neg (no b hb), a4]
  · obtain ⟨p, _, hx⟩ := ht b (io b hb)
    unfold dropB
    rw [show b - 1 + 1 = b by omega, if_pos hb, g.keep p hx]
  · unfold dropB
    rw [if_neg ho, g.same v hv]
theorem Swapped.nodup' {n : Nat} {f f' : Nat → Option KB} {bs bs' olds news kept : List Nat} (s : Swapped n f f' bs bs' olds news kept) (h : bs.Nodup) (ht : ∀ v ∈ bs, 0 < v ∧ v ≤ 4096 ∧ ∃ x, f (v - 1) = some x) : bs'.Nodup := by
  refine (s.new_.nodup_iff).2 (List.nodup_append.2 ⟨s.nodup, (List.nodup_append.1 ((s.old.nodup_iff).1 h)).2.1, fun a ha b hb e => ?_⟩)
  subst e
  obtain ⟨_, _, x, hx⟩ := ht a ((s.old.mem_iff).2 (by simp [hb]))
  have := (s.fresh a ha).2.2.1
  rw [hx] at this
  cases this
/-- A tree on blocks that weren't given back is still there. -/
theorem TreeIs.dropped {f2 : Nat → Option KB} {d b : Nat} {es : List En} {bs olds : List Nat} (t : TreeIs f2 d b es bs) (h : ∀ v ∈ bs, v ∉ olds) : TreeIs (dropB f2 olds) d b es bs :=
  t.same (fun v hv => by
    unfold dropB
    rw [show v - 1 + 1 = v by have := (t.taken v hv).1; omega, if_neg (h v hv)])
end Go.Proofs.YtnogmgnbhcmajaaDoor
