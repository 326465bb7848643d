/-
  docketlaw06: a list of pairs that came in; a tree alone on its store.
-/
import Derived.Test.YtldmllmkckklhaaGreatDoorQA73
namespace Go.Proofs.YtldmllmkckklhaaGreatDoor
open Go.ChangeShapes Go.WideShapes Go.ChangeAt Go.RowKit Go.Joins Go.Deep Wal

section
variable {H : Type} {enc : TypeId × Value → H} {W : World}
theorem cellsPair : Tryz.prog.cellsOf 62 = 2 := by kernel_rfl
theorem rowP_get {l : List En} {j : Nat} {u : Value} (h : (rowP l)[j]? = some u) : ∃ (hi : j / 2 < l.length), (j % 2 = 0 → u = .string (strB l[j / 2].1)) ∧ (j % 2 = 1 → u = .string (strB l[j / 2].2)) := by
  have hj := (List.getElem?_eq_some_iff.1 h).1
  rw [rowP_length] at hj
  have hi : j / 2 < l.length := by omega
  obtain ⟨h0, h1⟩ := rowP_at l (j / 2) l[j / 2] (List.getElem?_eq_getElem hi)
  refine ⟨hi, fun e => ?_, fun e => ?_⟩
  · rw [show j / 2 * 2 = j by omega, h] at h0
    injection h0
  · rw [show j / 2 * 2 + 1 = j by omega, h] at h1
    injection h1
set_option maxRecDepth 100000 in
theorem open_pairs {r : Reach} {b0 : Nat} {v : Value} {d : DataW H} {p : List MemPlace} (hv : Value.okWide Tryz.prog W r b0 29 v) (h : DataW.Trod enc Tryz.prog W 0 (fun _ => true) true 29 v d p) :
    ∃ A c l, v = .slice A l.length c ∧ PAt W A l ∧ (∀ e ∈ l, (∀ x ∈ e.1, x < 256) ∧ ∀ x ∈ e.2, x < 256) ∧ l.length ≤ 9223372036854775807 := by
  obtain ⟨A, n, c, rfl⟩ := okWide_slice Tryz.underlying29 hv
  obtain ⟨fuel, hf⟩ := h
  rcases open_slice Tryz.underlying29 hf with ⟨hcs, hx⟩ | ⟨a, len, cap, m, n', D, Pl, hcs, _, hl, hm, hmm, hx, hc⟩
  · simp [Value.cells] at hcs
    obtain ⟨rfl, rfl, rfl⟩ := hcs
    exact ⟨none, 0, [], rfl, fun h => by simp at h, by simp, by simp⟩
  · simp [Value.cells] at hcs
    obtain ⟨rfl, rfl, rfl⟩ := hcs
    simp only [if_true] at hmm
    subst hmm
    have key : ∀ i, i < m → ∃ e : En, ((∀ x ∈ e.1, x < 256) ∧ ∀ x ∈ e.2, x < 256) ∧ W.cell? (a.add (i * 2)) = some (.string (strB e.1)) ∧ W.cell? (a.add (i * 2 + 1)) = some (.string (strB e.2)) := fun i hi => by
      obtain ⟨cs', hcells, ht⟩ := hc i hi
      rw [cellsPair] at hcells
      obtain ⟨_, hlen, hat⟩ := World.cells?_some hcells
      obtain ⟨y0, y1, n2, _, h0, h1⟩ := trod_struct2 Tryz.underlying62 ht
      match cs', hlen with
      | [c0, c1], _ =>
        have k2 : Tryz.prog.cellsOf 9 = 1 := by kernel_rfl
        simp only [k2] at h0 h1
        obtain ⟨z0, e0, _, _⟩ := DataW.trod_string Tryz.underlying9 (show DataW.trod enc Tryz.prog W 0 (fun _ => true) true n2 9 [c0] = some y0 from h0)
        obtain ⟨z1, e1, _, _⟩ := DataW.trod_string Tryz.underlying9 (show DataW.trod enc Tryz.prog W 0 (fun _ => true) true n2 9 [c1] = some y1 from h1)
        injection e0 with e0
        injection e1 with e1
        have b0 := hat 0 (by omega)
        have b1 := hat 1 (by omega)
        rw [Go.Deep.add_add] at b0 b1
        refine ⟨(nums z0, nums z1), ⟨nums_lt _, nums_lt _⟩, ?_, ?_⟩
        · rw [strB_nums]; exact b0.trans (by rw [e0]; rfl)
        · rw [strB_nums]; exact b1.trans (by rw [e1]; rfl)
    have inh : Inhabited En := ⟨([], [])⟩
    obtain ⟨f, hf'⟩ := choose_lt (α := En) (p := fun i e => ((∀ x ∈ e.1, x < 256) ∧ ∀ x ∈ e.2, x < 256) ∧ W.cell? (a.add (i * 2)) = some (.string (strB e.1)) ∧ W.cell? (a.add (i * 2 + 1)) = some (.string (strB e.2))) key
    refine ⟨some a, m, (List.range n).map f, by simp, fun hp => ?_, fun e he => ?_, by simp; unfold maxLen at hm; omega⟩
    · have hm0 : 0 < n := by simpa using hp
      obtain ⟨b, off, spot⟩ := a
      have h00 := (hf' 0 (by omega)).2.1
      have hspot : spot = none := by
        have := World.cell?_spot h00
        simpa [Addr.add] using this
      subst hspot
      refine ⟨b, off, rfl, by simpa [Addr.add] using block_lt h00, fun j u hu => ?_⟩
      obtain ⟨hi, g0, g1⟩ := rowP_get hu
      have hi2 : j / 2 < n := by simpa using hi
      have hg : ((List.range n).map f)[j / 2] = f (j / 2) := by simp
      obtain ⟨_, q0, q1⟩ := hf' (j / 2) (by omega)
      have e1 : ∀ x, (⟨b, off, none⟩ : Addr).add x = ⟨b, off + x, none⟩ := fun x => by rw [add_plain]
      rw [e1] at q0 q1
      rcases Nat.mod_two_eq_zero_or_one j with hj | hj
      · rw [g0 hj, hg, ← q0, show j / 2 * 2 = j by omega]
      · rw [g1 hj, hg, ← q1, show j / 2 * 2 + 1 = j by omega]
    · obtain ⟨i, hi, rfl⟩ := List.mem_map.1 he
      exact (hf' i (by have := List.mem_range.1 hi; omega)).1
end
/-- A tree alone on its store. -/
def Lone (B : Nat) (w : World) (t p n : Nat) (es : List En) : Prop := ∃ root f bs, LiveT B w t p root n f es bs ∧ Full n f bs []
theorem Lone.under {B : Nat} {w w' : World} {t p n : Nat} {es : List En} (h : Lone B w t p n es) (k : Below w.heap.size w w') : Lone B w' t p n es := by
  obtain ⟨root, f, bs, h1, h2⟩ := h
  exact ⟨root, f, bs, h1.under k, h2⟩
theorem Lone.rises {B : Nat} {w : World} {t p n : Nat} {es : List En} (h : Lone B w t p n es) : Rises es ∧ OkAll es := by
  obtain ⟨root, f, bs, h1, _⟩ := h
  exact ⟨(tree_at.1 h1.lies).2.1, h1.ok⟩
theorem lone_put (B : Nat) (w : World) (t p n : Nat) (es : List En) (h : Lone B w t p n es) (h1 : es.length < 4096) (h2 : 2 * es.length + 29 ≤ n) (k v : List Nat) (hk8 : ∀ x ∈ k, x < 256) (hv8 : ∀ x ∈ v, x < 256) :
    Calls Tryz.prog 23 #[.pointer (some ⟨t, 0, none⟩), .string (strB k), .string (strB v)] w fun x w' => (∃ e, x = .returned (.int .i64 e)) ∧ Lone B w' t p n (if (goodK k && goodV v) = true then putE es k v else es) ∧ KpS TS B w w' := by
  obtain ⟨root, f, bs, L, F⟩ := h
  refine (put_any B w t p root n f es bs L (roomy_full L.lies F h1 (by simpa using h2)) k v hk8 hv8).mono ?_
  intro x w' hx
  unfold PutA at hx
  by_cases hg : (goodK k && goodV v) = true
  · rw [if_pos hg] at hx ⊢
    obtain ⟨rfl, f', root', bs', olds, news, kept, L2, W2, _, K2⟩ := hx
    exact ⟨⟨_, rfl⟩, ⟨root', f', bs', L2, F.swap W2⟩, K2⟩
  · rw [if_neg hg] at hx ⊢
    obtain ⟨rfl, hb⟩ := hx
    exact ⟨⟨_, rfl⟩, ⟨root, f, bs, L.under hb, F⟩, KpS.under hb⟩
theorem lone_del (B : Nat) (w : World) (t p n : Nat) (es : List En) (h : Lone B w t p n es) (h1 : es.length < 4096) (h2 : 2 * es.length + 29 ≤ n) (k : List Nat) (hk8 : ∀ x ∈ k, x < 256) (hg : goodK k = true) :
    Calls Tryz.prog 21 #[.pointer (some ⟨t, 0, none⟩), .string (strB k)] w fun x w' => x = .returned (.tuple #[.bool (hasK es k), .int .i64 0]) ∧ Lone B w' t p n (delE es k) ∧ KpS TS B w w' := by
  obtain ⟨root, f, bs, L, F⟩ := h
  refine (tdel_any B w t p root n f es bs L (roomy_full L.lies F h1 (by simpa using h2)) k hk8).mono ?_
  intro x w' hx
  unfold DelA at hx
  rw [if_pos hg] at hx
  obtain ⟨rfl, f', root', bs', olds, news, kept, L2, W2, _, K2⟩ := hx
  exact ⟨rfl, ⟨root', f', bs', L2, F.swap W2⟩, K2⟩
theorem lone_scan (B : Nat) (w : World) (t p n : Nat) (es : List En) (h : Lone B w t p n es) (hl : es.length ≤ 50000) (k : List Nat) (hk8 : ∀ x ∈ k, x < 256) (most : Int) (hlo : -9223372036854775808 ≤ most) (hhi : most ≤ 9223372036854775807) :
    Calls Tryz.prog 16 #[.pointer (some ⟨t, 0, none⟩), .string (strB k), .int .i64 most] w (ScanA es k most w) := by
  obtain ⟨root, f, bs, L, F⟩ := h
  exact tscan_any B w t p root n f es bs L (deep_of hl) hl k hk8 most hlo hhi
theorem lone_none {B : Nat} {w : World} {t p n : Nat} (h : Lone B w t p n []) :
    (Calls Tryz.prog 12 #[.pointer (some ⟨p, 0, none⟩)] w fun x w' => x = .returned (.int .i64 0) ∧ Lone B w' t p n [] ∧ Below w.heap.size w w') ∧
    (Calls Tryz.prog 14 #[.pointer (some ⟨t, 0, none⟩)] w fun x w' => x = .returned (.int .i64 0) ∧ w = w') := by
  obtain ⟨root, f, bs, L, F⟩ := h
  have hz : root = 0 ∧ bs = [] := by
    rcases L.lies with ⟨h1, _, h2⟩ | ⟨d, t, _⟩
    · exact ⟨h1, h2⟩
    · exact absurd rfl t.top.2.2.1
  obtain ⟨rfl, rfl⟩ := hz
  refine ⟨(used_any B w p n f L.mem).mono ?_, (root_any w t p 0 L.tree).mono ?_⟩
  · rintro x w' ⟨rfl, hb⟩
    have := F.cnt
    simp only [List.length_nil] at this
    exact ⟨by rw [show cnt n f = 0 by omega]; rfl, ⟨0, f, [], L.under hb, F⟩, hb⟩
  · rintro x w' ⟨rfl, rfl⟩
    exact ⟨rfl, rfl⟩
theorem fromE_none (es : List En) : fromE es [] = es := List.filter_eq_self.2 fun e _ => by
  have : ltB e.1 [] = false := by cases e.1 <;> rfl
  rw [this]; rfl
theorem lone_new {B : Nat} {w w' : World} {t p : Nat} (hB : B ≤ w.heap.size) (ht : TreeO w' t p 0) (hw : w.heap.size ≤ t) (hm : MemAt B w p 4096 fun _ => none) (hb : Below w.heap.size w w') : Lone B w' t p 4096 [] :=
  ⟨0, _, [], live_new ht (hm.under hb) (Nat.le_refl _) (Nat.le_trans hB hw), Full.none_ _⟩
end Go.Proofs.YtldmllmkckklhaaGreatDoor
