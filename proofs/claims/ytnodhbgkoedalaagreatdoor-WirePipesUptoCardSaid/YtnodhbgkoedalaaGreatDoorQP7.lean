/-
  docketlaw11: lists of texts; requests one behind the other, in plain words.
-/
import Derived.Test.YtnodhbgkoedalaaGreatDoorQP6
import Derived.Test.YtnodhbgkoedalaaGreatDoorQF2
namespace Go.Proofs.YtnodhbgkoedalaaGreatDoor
open Go.ChangeShapes Go.WideShapes Go.ChangeAt Go.RowKit Go.Deep Reply

/-- A slice of strings that reads as the list l. -/
def Strs (w : World) (A : Option Addr) (n : Nat) (l : List Reply.B) : Prop :=
  l.length = n ∧ (0 < n → ∃ b off, A = some ⟨b, off, none⟩ ∧ b < w.heap.size ∧ ∀ i s, l[i]? = some s → w.cell? ⟨b, off + i, none⟩ = some (.string (S s)))
theorem Strs.nil (w : World) (A : Option Addr) : Strs w A 0 [] := ⟨rfl, fun h => by omega⟩
theorem Strs.below {w w' : World} {A : Option Addr} {n : Nat} {l : List Reply.B} (h : Strs w A n l) (k : Below w.heap.size w w') : Strs w' A n l :=
  ⟨h.1, fun hn => by
    obtain ⟨b, off, e, hl, hc⟩ := h.2 hn
    exact ⟨b, off, e, Nat.lt_of_lt_of_le hl k.size, fun i s hi => (k.cell (p := ⟨b, off + i, none⟩) hl).trans (hc i s hi)⟩⟩
theorem Strs.at_ {w : World} {A : Option Addr} {n k : Nat} {l : List Reply.B} (h : Strs w A n l) (hk : k < n) : ∃ b off, A = some ⟨b, off, none⟩ ∧ w.cell? ⟨b, off + k, none⟩ = some (.string (S (l.getD k []))) ∧ l.getD k [] ∈ l ∧ l.drop k = l.getD k [] :: l.drop (k + 1) ∧ l.take (k + 1) = l.take k ++ [l.getD k []] := by
  obtain ⟨b, off, e, hb, hc⟩ := h.2 (by omega)
  have hk' : k < l.length := by rw [h.1]; exact hk
  have e1 : l[k]? = some l[k] := List.getElem?_eq_getElem hk'
  have e2 : l.getD k [] = l[k] := by rw [List.getD_eq_getElem?_getD, e1]; rfl
  rw [e2]
  exact ⟨b, off, e, hc k _ e1, List.getElem_mem _, List.drop_eq_getElem_cons hk', List.take_succ_eq_append_getElem hk'⟩
theorem cellsS : Tryz.prog.cellsOf 9 = 1 := by kernel_rfl
theorem bulk_lits {H : Type} (S : Nat → ByteArray) : ∀ (l : List Nat), l.length ≤ Rows.uptoBulkAll (H := H) (l.map fun i => .lit (.string (S i).data.toList)) ∧ ∀ i ∈ l, (S i).size ≤ Rows.uptoBulkAll (H := H) (l.map fun i => .lit (.string (S i).data.toList))
  | [] => ⟨Nat.zero_le _, by simp⟩
  | i :: r => by
    obtain ⟨h1, h2⟩ := bulk_lits (H := H) S r
    have hb : (S i).data.toList.length = (S i).size := Array.length_toList
    simp only [List.map_cons, Rows.uptoBulkAll, Rows.uptoBulk, List.length_cons]
    refine ⟨by omega, fun j hj => ?_⟩
    rcases List.mem_cons.1 hj with rfl | hj
    · omega
    · have := h2 j hj
      omega
set_option maxRecDepth 100000 in
/-- An argument of type []string. -/
theorem open_list {H : Type} {enc : TypeId × Value → H} {W : World} {r : Reach} {b0 : Nat} {v : Value} {d : DataW H} {p : List MemPlace} (hv : Value.okWide Tryz.prog W r b0 40 v) (h : DataW.Trod enc Tryz.prog W 0 (fun _ => true) true 40 v d p) (hk : Rows.uptoBulk d ≤ 1048576) :
    ∃ A n c l, v = .slice A n c ∧ Strs W A n l ∧ n ≤ 1048576 ∧ ∀ s ∈ l, s.length ≤ 1048576 := by
  obtain ⟨A, n, c, rfl⟩ := okWide_slice Tryz.underlying40 hv
  obtain ⟨fuel, hf0⟩ := h
  have hf : DataW.trod enc Tryz.prog W 0 (fun _ => true) true fuel 40 [.slice A n c] = some (d, p) := hf0
  rcases Go.Deep.open_strs Tryz.underlying40 Tryz.underlying9 cellsS hf with ⟨hcs, hx⟩ | ⟨a, len, cap, m, S', hcs, _, hl, hm, hmm, hx, hc⟩
  · injection hcs with hcs
    injection hcs with e1 e2 e3
    subst e1 e2 e3
    exact ⟨none, 0, 0, [], rfl, Strs.nil _ _, by omega, by simp⟩
  · injection hcs with hcs
    injection hcs with e1 e2 e3
    subst e1 e2 e3
    simp only [if_true] at hmm
    subst hmm
    simp only [Prod.mk.injEq] at hx
    obtain ⟨rfl, _⟩ := hx
    obtain ⟨b1, b2⟩ := bulk_lits (H := H) S' (List.range n)
    simp only [Rows.uptoBulk] at hk
    rw [List.length_range] at b1
    refine ⟨some a, n, m, (List.range n).map fun i => (S' i).data.toList, rfl, ⟨by simp, fun hp => ?_⟩, by omega, fun s hs => ?_⟩
    · obtain ⟨b, off, spot⟩ := a
      have h0 := (hc 0 (by omega)).1
      have hspot : spot = none := by simpa [Addr.add] using World.cell?_spot h0
      subst hspot
      refine ⟨b, off, rfl, by simpa [Addr.add] using block_lt h0, fun i s hi => ?_⟩
      rw [List.getElem?_map] at hi
      obtain ⟨i', hi', rfl⟩ := Option.map_eq_some_iff.1 hi
      have hil : i < n := by
        rcases Nat.lt_or_ge i n with h' | h'
        · exact h'
        · rw [List.getElem?_eq_none (by simpa using h')] at hi'; cases hi'
      rw [List.getElem?_range hil] at hi'
      injection hi' with hi'
      subst hi'
      have h1 := (hc i (by omega)).1
      have e : (⟨b, off, none⟩ : Addr).add i = ⟨b, off + i, none⟩ := by cases i <;> simp [Addr.add]
      rw [← e, h1, S_of]
    · obtain ⟨i, hi, rfl⟩ := List.mem_map.1 hs
      have := b2 i hi
      have hb : (S' i).data.toList.length = (S' i).size := Array.length_toList
      omega
namespace Wire
theorem Reads.run0 {l : B} {q : Rq} {n : Nat} (h : Reads l q n 0) : ∃ s', Runs reader s0 l n 0 s' ∧ q = s'.q := by
  obtain ⟨t, s, r, ⟨_, rfl, rfl⟩ | ⟨h, _⟩⟩ := h
  · exact ⟨s, r, rfl⟩
  · exact absurd rfl h
theorem flat_le : ∀ {l : List B} {m : Nat}, (∀ s ∈ l, s.length ≤ m) → l.flatten.length ≤ l.length * m
  | [], _, _ => by simp
  | s :: l, m, h => by
    have h1 := h s (by simp)
    have h2 := flat_le (l := l) (fun x hx => h x (List.mem_cons_of_mem _ hx))
    rw [List.flatten_cons, List.length_append, List.length_cons, Nat.succ_mul]
    omega
end Wire
/-- What is left behind a request that was taken. -/
theorem rest_next {w : World} {p g off cp k : Nat} {l x l2 : Reply.B} (hl : l = x ++ l2) (hx : x.length = k) (bk : Bk w g off l) (hcp : l.length ≤ cp) (hgp : g ≠ p) (hc : CnAt w p (restV g (off + k) (l.length - k) (cp - k)) false) :
    ∃ v, CnAt w p v false ∧ ((l2 = [] ∧ v = .slice none 0 0) ∨ (l2 ≠ [] ∧ ∃ g off cp, v = .slice (some ⟨g, off, none⟩) l2.length cp ∧ l2.length ≤ cp ∧ g ≠ p ∧ Bk w g off l2)) := by
  have e : l.length - k = l2.length := by rw [hl, List.length_append]; omega
  have d : l.drop k = l2 := by rw [hl, ← hx, List.drop_left]
  refine ⟨_, hc, ?_⟩
  rw [e]
  unfold restV
  by_cases h : l2 = []
  · exact .inl ⟨h, if_pos (by rw [h]; rfl)⟩
  · have : 0 < l2.length := List.length_pos_iff.2 h
    refine .inr ⟨h, g, off + k, cp - k, if_neg (by omega), by omega, hgp, ?_⟩
    rw [← d]
    exact bk.drop k
set_option maxRecDepth 100000 in
set_option maxHeartbeats 8000000 in
theorem read_new (w : World) (E : Env w) (l : Reply.B) (hl : l.length ≤ 4194304) {q : Wire.Rq} {n : Nat} {c' : Int} (hr : Wire.Reads l q n c') (CL : ∀ t s', Wire.Runs Wire.reader Wire.s0 l t c' s' → ∀ s1 : Wire.St, Wire.Ok s1 → Wire.Fit s1 → s1.q.headers <+: s'.q.headers → ClosesC s1.q.headers) :
    Calls Tryz.prog 9 #[.string (S l)] w fun e w' => (∃ A c2, e = .returned (.tuple #[qV q A c2, .int .i64 (n : Int), .int .i64 c']) ∧ HAt w' A q.headers ∧ ∀ x, A = some x → w.heap.size ≤ x.block) ∧ Below w.heap.size w w' := by
  obtain ⟨t, s', hrun, hcs⟩ := hr
  obtain ⟨W2, hW2⟩ : ∃ x, x = (w.alloc (.cells #[.string ⟨#[]⟩, .string ⟨#[]⟩, .slice none 0 0, .string ⟨#[]⟩, .bool false] 26)).alloc (.cells #[.int .i64 0, .int .i64 0, .int .i64 0, .int .i64 0, .string ⟨#[]⟩, .string ⟨#[]⟩, .slice none 0 0, .string ⟨#[]⟩, .bool false] 44) := ⟨_, rfl⟩
  have HW2 := Lib.hid hW2
  have W2S : W2.heap.size = w.heap.size + 2 := by rw [hW2, World.size_alloc, World.size_alloc]
  have BW2 : Below w.heap.size w W2 := by rw [hW2]; exact ((Below.refl _ _).alloc (Nat.le_refl _) _).alloc (by rw [World.size_alloc]; omega) _
  have RD : RdS w (w.heap.size + 1) W2 (w.heap.size + 1) 44 [] Wire.s0 none 0 :=
    ⟨E, by omega, by omega, BW2, by omega, by decide, by rw [hW2]; exact Held.new _ _ _ (World.size_alloc _ _).symm, OwnH.nil _ _⟩
  have RES : Held W2 w.heap.size 26 #[.string ⟨#[]⟩, .string ⟨#[]⟩, .slice none 0 0, .string ⟨#[]⟩, .bool false] := by rw [hW2]; exact (Held.new _ _ _ rfl).alloc _
  have RU := Lib.hid (run_str_any RD l hl Wire.ok0 (fun x hx => by cases hx) hrun (CL t s' hrun))
  have H2 := Lib.hid RES
  have B2 := Lib.hid BW2
  have S2 := Lib.hid W2S
  have HCS := Lib.hid hcs
  obtain ⟨ls, hls⟩ : ∃ x, x = S l := ⟨_, rfl⟩
  rw [← hls] at RU ⊢
  clear hls hcs hrun RD RES BW2 W2S hW2 CL E hl
  go_enter Tryz.func9, Tryz.ntmps9
  go_wp2_with fail
  rw [← HW2.out]
  refine RU.out.mono ?_
  rintro e w3 ⟨rfl, ⟨A, c2, r3⟩, d3⟩
  have H3 : Hid (Held w3 w.heap.size 26 #[.string ⟨#[]⟩, .string ⟨#[]⟩, .slice none 0 0, .string ⟨#[]⟩, .bool false]) := (d3.block _ (by omega) (by omega)).trans H2.out
  have R3 := Lib.hid r3
  have c4 : w3.cell? ⟨w.heap.size + 1, 4, none⟩ = some (.string (S s'.q.method)) := r3.cell 4
  have c5 : w3.cell? ⟨w.heap.size + 1, 5, none⟩ = some (.string (S s'.q.target)) := r3.cell 5
  have c6 : w3.cell? ⟨w.heap.size + 1, 6, none⟩ = some (.slice A s'.q.headers.length c2) := r3.cell 6
  have c7 : w3.cell? ⟨w.heap.size + 1, 7, none⟩ = some (.string (S s'.q.body)) := r3.cell 7
  have c8 : w3.cell? ⟨w.heap.size + 1, 8, none⟩ = some (.bool s'.q.close) := r3.cell 8
  have h0 := H3.out.cell 0
  have h1 := H3.out.cell 1
  have h2 := H3.out.cell 2
  have h3 := H3.out.cell 3
  have h4 := H3.out.cell 4
  have y0 := H3.out.frozen 0
  have y1 := H3.out.frozen 1
  have y2 := H3.out.frozen 2
  have y3 := H3.out.frozen 3
  have y4 := H3.out.frozen 4
  have B3 : Hid (Below w.heap.size w w3) := B2.out.trans (d3.below (by omega) (by omega))
  have FAR : Hid (∀ x, A = some x → x.block ∉ [w.heap.size]) := fun x e hm => by
    subst e
    have := (r3.row.lt x.block (by
      rcases r3.row.2 with ⟨e, _⟩ | ⟨g, cap, cur, e, _⟩
      · cases e
      · injection e with e _ _
        injection e with e
        rw [e]
        rfl)).1
    have := List.mem_singleton.1 hm
    omega
  have NEW : Hid (∀ x, A = some x → w.heap.size ≤ x.block) := fun x e => by
    have := FAR.out x e
    subst e
    have := (R3.out.row.lt x.block (by
      rcases R3.out.row.2 with ⟨e, _⟩ | ⟨g, cap, cur, e, _⟩
      · cases e
      · injection e with e _ _
        injection e with e
        rw [e]
        rfl)).1
    omega
  have HH : Hid (HAt w3 A s'.q.headers) := by
    obtain ⟨A', c9, e, _, hA⟩ := r3.row.any
    show HAt _ _ _
    injection e with e1 e2 e3
    rw [e1]
    exact hA
  clear r3 d3 RU
  by_cases hc : c' = 0
  · obtain ⟨rfl, hq, hn⟩ : c' = 0 ∧ q = s'.q ∧ n = t := by
      rcases HCS.out with h | h
      · exact h
      · exact absurd hc h.1
    have FIN : Hid (∀ u : World, u = put5 w3 w.heap.size (.string (S s'.q.method)) (.string (S s'.q.target)) (.slice A s'.q.headers.length c2) (.string (S s'.q.body)) (.bool s'.q.close) → Held u w.heap.size 26 #[.string (S s'.q.method), .string (S s'.q.target), .slice A s'.q.headers.length c2, .string (S s'.q.body), .bool s'.q.close] ∧ HAt u A q.headers ∧ Below w.heap.size w u) := fun u e => by
      subst e
      have o := put5_only w3 w.heap.size (.string (S s'.q.method)) (.string (S s'.q.target)) (.slice A s'.q.headers.length c2) (.string (S s'.q.body)) (.bool s'.q.close)
      exact ⟨put5_held H3.out _ _ _ _ _, by rw [hq]; exact HH.out.only o FAR.out, o.from_ B3.out (fun x hx => by rw [List.mem_singleton.1 hx]; exact Nat.le_refl _)⟩
    have HQ := Lib.hid hq
    have HN := Lib.hid hn
    clear hc hq hn HCS
    go_wp2_with fail
    obtain ⟨fh, fa, fb⟩ := FIN.out _ rfl
    exact bodyPost_ret (resC3 _ _ 2 3 4 26 _ _ _ _ Tryz.results9 rfl rfl rfl (load_req fh rfl)) rfl ⟨⟨A, c2, by rw [HQ.out, HN.out]; rfl, fa, NEW.out⟩, fb⟩
  · obtain ⟨hq, hn⟩ : q = Wire.zeroRq ∧ n = 0 := by
      rcases HCS.out with h | h
      · exact absurd h.1 hc
      · exact h.2
    have f0 : (c' == 0) = false := by rw [beq_eq_false_iff_ne]; exact hc
    have f1 : (c' != 0) = true := by rw [bne_iff_ne]; exact hc
    have FIN : Hid (∀ u : World, u = put5 w3 w.heap.size (.string ⟨#[]⟩) (.string ⟨#[]⟩) (.slice none 0 0) (.string ⟨#[]⟩) (.bool false) → Held u w.heap.size 26 #[.string ⟨#[]⟩, .string ⟨#[]⟩, .slice none 0 0, .string ⟨#[]⟩, .bool false] ∧ HAt u none q.headers ∧ Below w.heap.size w u) := fun u e => by
      subst e
      have o := put5_only w3 w.heap.size (.string ⟨#[]⟩) (.string ⟨#[]⟩) (.slice none 0 0) (.string ⟨#[]⟩) (.bool false)
      exact ⟨put5_held H3.out _ _ _ _ _, by rw [hq]; exact HAt.nil _ _, o.from_ B3.out (fun x hx => by rw [List.mem_singleton.1 hx]; exact Nat.le_refl _)⟩
    have HQ := Lib.hid hq
    have HN := Lib.hid hn
    clear hc hq hn HCS
    go_wp2_with fail
    obtain ⟨fh, fa, fb⟩ := FIN.out _ rfl
    exact bodyPost_ret (resC3 _ _ 2 3 4 26 _ _ _ _ Tryz.results9 rfl rfl rfl (load_req fh rfl)) rfl ⟨⟨none, 0, by rw [HQ.out, HN.out]; rfl, fa, fun x e => by cases e⟩, fb⟩
/-- Read, with the request's parts by name; its headers lie in new memory. -/
theorem readF (u : World) (E : Env u) (l : Reply.B) (hl : l.length ≤ 4194304) {q : Wire.Rq} {n : Nat} {c' : Int} (hr : Wire.Reads l q n c') {ls qm qt qb : ByteArray} {qn : Nat} {qc : Bool}
    (e0 : ls = S l) (e1 : qm = S q.method) (e2 : qt = S q.target) (e3 : qb = S q.body) (e4 : qn = q.headers.length) (e5 : qc = q.close) :
    Calls Tryz.prog 9 #[.string ls] u fun e w' => (∃ A c2, e = .returned (.tuple #[.agg #[.string qm, .string qt, .slice A qn c2, .string qb, .bool qc], .int .i64 (n : Int), .int .i64 c']) ∧ HAt w' A q.headers ∧ ∀ x, A = some x → u.heap.size ≤ x.block) ∧ Below u.heap.size u w' := by
  subst e0 e1 e2 e3 e4 e5
  exact read_new u E l hl hr (fun _ _ _ s1 ok ft _ => closes_all s1 ok ft)
end Go.Proofs.YtnodhbgkoedalaaGreatDoor
