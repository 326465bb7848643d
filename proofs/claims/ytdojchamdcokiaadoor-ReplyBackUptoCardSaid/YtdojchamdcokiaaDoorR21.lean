/-
  reply: Read.
-/
import Derived.Test.YtdojchamdcokiaaDoorR20
import Derived.Deep.MidRow
namespace Go.Proofs.YtdojchamdcokiaaDoor
open Go.RowKit Reply

theorem resC3 {P : Program} {f : Func} (tm : Array Value) (w : World) (i j k T : Nat) (x y z : Value) (p : Addr) (hf : f.results = #[.cell i T, .tmp j, .tmp k]) (h1 : tm.getD i undef = .pointer (some p)) (h2 : tm.getD j undef = y) (h3 : tm.getD k undef = z)
    (l1 : (loadVar T p).run P w = .ok x w) : (results f tm).run P w = .ok (.tuple #[x, y, z]) w := by
  unfold results
  rw [hf]
  rw [Array.getD_eq_getD_getElem?] at h1 h2 h3
  simp [h1, h2, h3, asAddr, l1]
theorem zeroResp : (Tryd.prog.info? 24).map (fun i => (i.zero, i.size)) = some (some (.agg #[.int .i64 0, .slice none 0 0, .string ⟨#[]⟩, .bool false, .bool false]), 5) := by kernel_rfl
theorem load_resp {w : World} {b : Nat} {cs : Array Value} (h : Held w b 24 cs) (hs : cs.size = 5) : (loadVar 24 ⟨b, 0, none⟩).run Tryd.prog w = .ok (.agg cs) w := by
  have lv := run_loadVar_mid (P := Tryd.prog) w b 0 24 cs.toList _ (fun j v hv => by rw [Nat.zero_add, h.cell]; simpa using hv) Tryd.underlying24 rfl (by rw [(zero_of_info zeroResp).2, Array.length_toList, hs])
  simpa using lv
def zeroR : Rs := ⟨0, [], [], false, false⟩
/-- What Read answers. -/
def ReadE (l : B) (head : Bool) (e : Ending) (w' : World) : Prop :=
  ∃ (r : Rs) (A : Option Addr) (c n : Nat) (ok : Bool), e = .returned (.tuple #[rV r A c, .int .i64 (n : Int), .bool ok]) ∧ HAt w' A r.headers ∧
    (ok = true → ∃ z, read l head = some (r, z) ∧ n + z.length = l.length) ∧ (ok = false → read l head = none ∧ n = 0 ∧ r = zeroR ∧ A = none ∧ c = 0)
/-- The block that a slice lies in. -/
def hdS : Option Value → Option Addr
  | some (Value.slice A _ _) => A
  | _ => none
/-- Where the headers of a response lie. -/
def hdV : Option Value → Option Addr
  | some (Value.agg b) => hdS b[1]?
  | _ => none
/-- Where the headers of an answer lie. -/
def hdA : Ending → Option Addr
  | .returned (Value.tuple a) => hdV a[0]?
  | _ => none
/-- The headers of an answer are new memory. -/
def FreshE (b : Nat) (e : Ending) : Prop := ∀ y, hdA e = some y → b ≤ y.block
theorem OwnH.fresh {w : World} {base b : Nat} {A : Option Addr} {l : List (B × B)} {c : Nat} (h : OwnH w base (.slice A l.length c) l) (hb : b ≤ base) : ∀ y, A = some y → b ≤ y.block := fun y hy => by
  subst hy
  rcases h.2 with ⟨e, _⟩ | ⟨g, cap, cur, e, hg, _⟩
  · cases e
  · injection e with e _ _
    injection e with e
    rw [e]
    exact Nat.le_trans hb hg
/-- How far a reader has come: what it holds, told beside what the text's beginning is. -/
structure Topped (l : B) (v : Int) (l1 : B) (lost1 : Bool) (v3 : Int) (l3 : B) (lost3 : Bool) : Prop where
  s : ∀ s z, statusAt l = some (s, z) → v = s ∧ l1 = z ∧ lost1 = false
  sn : statusAt l = none → lost1 = true
  k : ∀ k z, lenOf v (hdrs 32 l1).2 = some (k, z) → v3 = (k : Nat) ∧ l3 = z ∧ lost3 = lost1
  kn : lenOf v (hdrs 32 l1).2 = none → lost3 = true
theorem Topped.yes {l l1 l3 : B} {v v3 : Int} {lost1 lost3 : Bool} (h : Topped l v l1 lost1 v3 l3 lost3) (hl : (lost3 || !(takeLine [] (takeLine closeLine l3).2).1) = false) :
    readTop l = some (v, (hdrs 32 l1).1, v3.toNat, (takeLine closeLine l3).1, (takeLine [] (takeLine closeLine l3).2).2) ∧ ((v3.toNat : Nat) : Int) = v3 := by
  rw [Bool.or_eq_false_iff, Bool.not_eq_false'] at hl
  obtain ⟨h3, hb⟩ := hl
  cases e3 : lenOf v (hdrs 32 l1).2 with
  | none => rw [h.kn e3] at h3; cases h3
  | some q =>
    obtain ⟨k, z⟩ := q
    obtain ⟨a, b, c⟩ := h.k k z e3
    cases e1 : statusAt l with
    | none => rw [h.sn e1] at c; rw [c] at h3; cases h3
    | some q1 =>
      obtain ⟨s, z1⟩ := q1
      obtain ⟨a1, b1, c1⟩ := h.s s z1 e1
      subst a1 b1 b
      unfold readTop
      simp only [e1, e3, hb, if_true]
      rw [a]
      exact ⟨rfl, rfl⟩
theorem Topped.no {l l1 l3 : B} {v v3 : Int} {lost1 lost3 : Bool} (h : Topped l v l1 lost1 v3 l3 lost3) (hl : (lost3 || !(takeLine [] (takeLine closeLine l3).2).1) = true) : readTop l = none := by
  cases e1 : statusAt l with
  | none => unfold readTop; rw [e1]
  | some q1 =>
    obtain ⟨s, z1⟩ := q1
    obtain ⟨a1, b1, c1⟩ := h.s s z1 e1
    subst a1 b1
    cases e3 : lenOf v (hdrs 32 l1).2 with
    | none => unfold readTop; simp only [e1, e3]
    | some q =>
      obtain ⟨k, z⟩ := q
      obtain ⟨a, b, c⟩ := h.k k z e3
      subst b
      rw [c, c1, Bool.false_or, Bool.not_eq_true'] at hl
      unfold readTop
      simp only [e1, e3, hl]
      rfl
theorem read_none {l : B} {hd : Bool} (h : readTop l = none) : read l hd = none := by unfold Reply.read; rw [h]
theorem only_one (q i : Nat) (w : World) (u : Value) : Only [q] w (w.setCell ⟨q, i, none⟩ u) := (Only.refl [q] w).setCell (p := ⟨q, i, none⟩) (.inl (by simp)) u
theorem HAt.only {w w' : World} {base : Nat} {A : Option Addr} {l : List (B × B)} {c : Nat} {F : List Nat} (h : OwnH w base (.slice A l.length c) l) (k : Only F w w') (hF : ∀ x ∈ F, x < base) : OwnH w' base (.slice A l.length c) l :=
  k.row h (fun g hg hm => by
    have := (h.lt g hg).1
    have := hF g hm
    omega)
theorem far0 {q n : Nat} (h : q + 2 < n) : ∀ x ∈ [q], x < n := fun x hx => by
  have : x = q := by simpa using hx
  omega
theorem far1 {q n : Nat} (h : q + 2 < n) : ∀ x ∈ [q + 1], x < n := fun x hx => by
  have : x = q + 1 := by simpa using hx
  omega
theorem far2 {q n : Nat} (h : q + 2 < n) : ∀ x ∈ [q + 2], x < n := fun x hx => by
  have : x = q + 2 := by simpa using hx
  omega
theorem OwnH.at_ {w : World} {base : Nat} {A : Option Addr} {l : List (B × B)} {c : Nat} (h : OwnH w base (.slice A l.length c) l) : HAt w A l := by
  obtain ⟨A', c', e, _, h2⟩ := h.any
  injection e with e1 e2 e3
  rw [e1]
  exact h2
/-- The three blocks of Read: what it answers, the reader, the response. -/
structure RD (w W : World) (q0 : Nat) (l : B) (lost : Bool) (cs : Array Value) : Prop where
  rs : RS w W (q0 + 1) l lost
  q : Held W q0 24 #[.int .i64 0, .slice none 0 0, .string ⟨#[]⟩, .bool false, .bool false]
  k : Held W (q0 + 2) 24 cs
  lo : w.heap.size ≤ q0
theorem RD.step {w W W' : World} {q0 : Nat} {l l' : B} {lost lost' : Bool} {cs : Array Value} (h : RD w W q0 l lost cs) (o : Only [q0 + 1] W W') (r : RS w W' (q0 + 1) l' lost') : RD w W' q0 l' lost' cs :=
  ⟨r, h.q.only o (by simp), h.k.only o (by simp), h.lo⟩
theorem RD.put {w W : World} {q0 : Nat} {l : B} {lost : Bool} {cs : Array Value} (h : RD w W q0 l lost cs) (i : Nat) (u : Value) : RD w (W.setCell ⟨q0 + 2, i, none⟩ u) q0 l lost (cs.setIfInBounds i u) :=
  ⟨⟨h.rs.env, h.rs.lo, h.rs.bel.setCell (p := ⟨q0 + 2, i, none⟩) (Nat.le_trans h.lo (by show q0 ≤ q0 + 2; omega)) _, h.rs.blk.far (by show q0 + 1 ≠ q0 + 2; omega) u⟩, h.q.far (by show q0 ≠ q0 + 2; omega) u, h.k.set_ i u, h.lo⟩
/-- Five cells of a block, stored one behind the other. -/
def put5 (u : World) (q : Nat) (a0 a1 a2 a3 a4 : Value) : World := ((((u.setCell ⟨q, 0, none⟩ a0).setCell ⟨q, 1, none⟩ a1).setCell ⟨q, 2, none⟩ a2).setCell ⟨q, 3, none⟩ a3).setCell ⟨q, 4, none⟩ a4
theorem put5_only (u : World) (q : Nat) (a0 a1 a2 a3 a4 : Value) : Only [q] u (put5 u q a0 a1 a2 a3 a4) := by
  unfold put5
  exact (((((Only.refl [q] u).setCell (p := ⟨q, 0, none⟩) (.inl (by simp)) a0).setCell (p := ⟨q, 1, none⟩) (.inl (by simp)) a1).setCell (p := ⟨q, 2, none⟩) (.inl (by simp)) a2).setCell (p := ⟨q, 3, none⟩) (.inl (by simp)) a3).setCell (p := ⟨q, 4, none⟩) (.inl (by simp)) a4
theorem put5_held {u : World} {q t : Nat} {b0 b1 b2 b3 b4 : Value} (h : Held u q t #[b0, b1, b2, b3, b4]) (a0 a1 a2 a3 a4 : Value) : Held (put5 u q a0 a1 a2 a3 a4) q t #[a0, a1, a2, a3, a4] := by
  unfold put5
  exact ((((h.set_ 0 a0).set_ 1 a1).set_ 2 a2).set_ 3 a3).set_ 4 a4
/-- All that the store of the answer leaves. -/
structure Put (w wf : World) (q0 base : Nat) (rest : B) (lost : Bool) (cs : Array Value) (a0 a1 a2 a3 a4 : Value) (A : Option Addr) (c : Nat) (hs : List (B × B)) : Prop where
  q : Held wf q0 24 #[a0, a1, a2, a3, a4]
  o : OwnH wf base (.slice A hs.length c) hs
  b : Below w.heap.size w wf
  k : Held wf (q0 + 2) 24 cs
  r : Held wf (q0 + 1) 52 #[.string (S rest), .bool lost]
theorem put_all {w u : World} {q0 base : Nat} {rest : B} {lost : Bool} {cs : Array Value} (E : RD w u q0 rest lost cs) {A : Option Addr} {c : Nat} {hs : List (B × B)} (HO : OwnH u base (.slice A hs.length c) hs) (hq : q0 < base) (a0 a1 a2 a3 a4 : Value) :
    Put w (put5 u q0 a0 a1 a2 a3 a4).drew q0 base rest lost cs a0 a1 a2 a3 a4 A c hs := by
  have o := put5_only u q0 a0 a1 a2 a3 a4
  refine ⟨(put5_held E.q a0 a1 a2 a3 a4).drew, ownsRow_drew (HAt.only HO o (fun x hx => by rw [List.mem_singleton.1 hx]; exact hq)), ?_, (E.k.only o (by simp)).drew, (E.rs.blk.only o (by simp)).drew⟩
  exact (E.rs.bel.trans (o.below E.rs.bel.size (fun x hx => by rw [List.mem_singleton.1 hx]; exact E.lo))).drew
set_option maxRecDepth 100000 in
set_option maxHeartbeats 16000000 in
theorem fread2_any (w : World) (E : Env w) (l : B) (head : Bool) (hl : l.length ≤ 1073741824) :
    Calls Tryd.prog 7 #[.string (S l), .bool head] w fun e w' => (ReadE l head e w' ∧ FreshE w.heap.size e) ∧ Below w.heap.size w w' := by
  obtain ⟨q0, hq0⟩ : ∃ x, x = w.heap.size := ⟨_, rfl⟩
  obtain ⟨W0, hW0⟩ : ∃ x, x = ((w.alloc (.cells #[.int .i64 0, .slice none 0 0, .string ⟨#[]⟩, .bool false, .bool false] 24)).alloc (.cells #[.string (S l), .bool false] 52)).alloc (.cells #[.int .i64 0, .slice none 0 0, .string ⟨#[]⟩, .bool head, .bool false] 24) := ⟨_, rfl⟩
  have HW0 := Lib.hid hW0
  have HQ := Lib.hid hq0
  have hQ : Held W0 q0 24 #[.int .i64 0, .slice none 0 0, .string ⟨#[]⟩, .bool false, .bool false] := by
    rw [hW0]
    exact ((Held.new w _ _ hq0).alloc _).alloc _
  have hP : Held W0 (q0 + 1) 52 #[.string (S l), .bool false] := by
    rw [hW0]
    exact (Held.new _ _ _ (by rw [hq0]; simp)).alloc _
  have hR : Held W0 (q0 + 2) 24 #[.int .i64 0, .slice none 0 0, .string ⟨#[]⟩, .bool head, .bool false] := by
    rw [hW0]
    exact Held.new _ _ _ (by rw [hq0]; simp)
  have b0 : Below w.heap.size w W0 := by rw [hW0]; exact (((Below.refl _ _).alloc (Nat.le_refl _) _).alloc (by simp) _).alloc (by simp; omega) _
  have D0 : Hid (RD w W0 q0 l false #[.int .i64 0, .slice none 0 0, .string ⟨#[]⟩, .bool head, .bool false]) := ⟨⟨E, by rw [hq0]; omega, b0, hP⟩, hQ, hR, by rw [hq0]; exact Nat.le_refl _⟩
  have R0 : Hid (RS w W0 (q0 + 1) l false) := ⟨E, by rw [hq0]; omega, b0, hP⟩
  have ST := Lib.hid (fstatus_any w W0 (q0 + 1) l false R0.out (by omega))
  have hls : ((S l).size : Int) = (l.length : Int) := by rw [S_size]
  have HLS := Lib.hid hls
  clear hW0 hq0 hQ hP hR b0 E hls
  go_enter Tryd.func7, Tryd.ntmps7
  go_wp2_with fail
  rw [← HQ.out]
  rw [← HW0.out]
  refine ST.out.mono ?_
  rintro x w1 ⟨⟨v, rfl, l1, lost1, r1, l1z, v0, v1, f1, f1n⟩, o1⟩
  have D1 := Lib.hid (D0.out.step o1 r1)
  have F1 : Hid (∀ s z, statusAt l = some (s, z) → v = s ∧ l1 = z ∧ lost1 = false) := f1
  have F1N : Hid (statusAt l = none → lost1 = true) := f1n
  have L1Z := Lib.hid l1z
  clear r1 o1 f1 f1n l1z ST v0 v1
  have k0 := D1.out.k.cell 0
  have y0 := D1.out.k.frozen 0
  obtain ⟨u1, hu1⟩ : ∃ x, x = w1.setCell ⟨q0 + 2, 0, none⟩ (.int .i64 v) := ⟨_, rfl⟩
  have D2 : Hid (RD w u1 q0 l1 lost1 #[.int .i64 v, .slice none 0 0, .string ⟨#[]⟩, .bool head, .bool false]) := by show RD _ _ _ _ _ _; rw [hu1]; exact D1.out.put 0 _
  have HU1 := Lib.hid hu1
  have HE := Lib.hid (fheaders_any w u1 (q0 + 1) l1 lost1 D2.out.rs (by have := L1Z.out; omega))
  have U1S : Hid (q0 + 2 < u1.heap.size) := D2.out.k.lt
  clear hu1
  go_wp2_with fail
  rw [← HU1.out]
  refine HE.out.mono ?_
  rintro x w2 ⟨⟨hv, rfl, ho, A, c, rfl⟩, r2, o2⟩
  have HO2 := Lib.hid ho
  have D3 := Lib.hid (D2.out.step o2 r2)
  clear ho r2 o2 HE k0 y0
  obtain ⟨l2, hl2⟩ : ∃ x, x = (hdrs 32 l1).2 := ⟨_, rfl⟩
  obtain ⟨hs, hhs⟩ : ∃ x, x = (hdrs 32 l1).1 := ⟨_, rfl⟩
  have l2z : l2.length ≤ 1073741824 := by
    have h1 := hdrs_back 32 l1
    have h2 := congrArg List.length h1.2.2
    rw [List.length_append, ← hl2] at h2
    have := L1Z.out
    omega
  have HL2 := Lib.hid hl2
  have HHS := Lib.hid hhs
  rw [← hhs] at HO2 ⊢
  rw [← hl2] at D3
  clear hl2 hhs
  obtain ⟨hn, hhn⟩ : ∃ x, x = hs.length := ⟨_, rfl⟩
  rw [← hhn]
  have HHN := Lib.hid hhn
  clear hhn
  have k1 := D3.out.k.cell 1
  have y1 := D3.out.k.frozen 1
  obtain ⟨u2, hu2⟩ : ∃ x, x = w2.setCell ⟨q0 + 2, 1, none⟩ (.slice A hn c) := ⟨_, rfl⟩
  have D4 : Hid (RD w u2 q0 l2 lost1 #[.int .i64 v, .slice A hn c, .string ⟨#[]⟩, .bool head, .bool false]) := by show RD _ _ _ _ _ _; rw [hu2]; exact D3.out.put 1 _
  have HO4 : Hid (OwnH u2 u1.heap.size (.slice A hs.length c) hs) := by show OwnH _ _ _ _; rw [hu2]; exact HAt.only HO2.out (only_one (q0 + 2) 1 w2 _) (far2 U1S.out)
  have HU2 := Lib.hid hu2
  have k0 := D3.out.k.cell 0
  clear hu2
  by_cases g : v = 204
  · skip
    have g1 : (v == 204) = true := by rw [g]; rfl
    have g2 : (v != 204) = false := by rw [g]; rfl
    have TP : Hid (Topped l v l1 lost1 0 l2 lost1) := ⟨F1.out, F1N.out, (fun k z h => by
      rw [← HL2.out] at h
      unfold lenOf at h
      rw [if_pos g] at h
      simp only [Option.some.injEq, Prod.mk.injEq] at h
      exact ⟨by rw [← h.1]; rfl, h.2, rfl⟩), (fun h => by
      unfold lenOf at h
      rw [if_pos g] at h
      cases h)⟩
    clear g

    have TL := Lib.hid (takeline_any w u2 (q0 + 1) l2 closeLine lost1 D4.out.rs (by decide))
    obtain ⟨b4, hb4⟩ : ∃ x, x = (takeLine closeLine l2).1 := ⟨_, rfl⟩
    obtain ⟨l4, hl4⟩ : ∃ x, x = (takeLine closeLine l2).2 := ⟨_, rfl⟩
    rw [← hb4, ← hl4] at TL
    have l4z : l4.length ≤ 1073741824 := by rw [hl4]; have := takeLine_len closeLine l2; omega
    have HB4 := Lib.hid hb4
    have HL4 := Lib.hid hl4
    clear hb4 hl4
    go_wp2_with fail
    rw [← HU2.out]
    refine TL.out.mono ?_
    rintro x w4 ⟨rfl, r4, o4⟩
    have E4 := Lib.hid (D4.out.step o4 r4)
    have HO5 := Lib.hid (HAt.only HO4.out o4 (far1 U1S.out))
    have k4 := E4.out.k.cell 4
    have y4 := E4.out.k.frozen 4
    clear r4 o4 TL k0 k1 y1
    obtain ⟨u4, hu4⟩ : ∃ x, x = w4.setCell ⟨q0 + 2, 4, none⟩ (.bool b4) := ⟨_, rfl⟩
    have E5 : Hid (RD w u4 q0 l4 lost1 #[.int .i64 v, .slice A hn c, .string ⟨#[]⟩, .bool head, .bool b4]) := by show RD _ _ _ _ _ _; rw [hu4]; exact E4.out.put 4 _
    have HO6 : Hid (OwnH u4 u1.heap.size (.slice A hs.length c) hs) := by show OwnH _ _ _ _; rw [hu4]; exact HAt.only HO5.out (only_one (q0 + 2) 4 w4 _) (far2 U1S.out)
    have HU4 := Lib.hid hu4
    have TE : Hid (Calls Tryd.prog 19 #[.pointer (some ⟨q0 + 1, 0, none⟩), .string ⟨#[]⟩] u4 fun e w' => e = .returned (.bool (takeLine [] l4).1) ∧ RS w w' (q0 + 1) (takeLine [] l4).2 lost1 ∧ Only [q0 + 1] u4 w') := takeline_any w u4 (q0 + 1) l4 [] lost1 E5.out.rs (by decide)
    obtain ⟨b5, hb5⟩ : ∃ x, x = (takeLine [] l4).1 := ⟨_, rfl⟩
    obtain ⟨l5, hl5⟩ : ∃ x, x = (takeLine [] l4).2 := ⟨_, rfl⟩
    rw [← hb5, ← hl5] at TE
    have l5z : l5.length ≤ 1073741824 := by rw [hl5]; have := takeLine_len [] l4; omega
    have YES : Hid ((lost1 || !b5) = false → readTop l = some (v, hs, ((0 : Int)).toNat, b4, l5) ∧ ((((0 : Int)).toNat : Nat) : Int) = (0 : Int)) := fun h => by
      have := TP.out.yes (by rw [← HL4.out, ← hb5]; exact h)
      rw [← HHS.out, ← HB4.out, ← HL4.out, ← hl5] at this
      exact this
    have NO : Hid ((lost1 || !b5) = true → readTop l = none) := fun h => TP.out.no (by rw [← HL4.out, ← hb5]; exact h)
    have ND := Lib.hid (fun u k => need_any w u (q0 + 1) l5 lost1 b5 k)
    obtain ⟨lf, hlf⟩ : ∃ x, x = (lost1 || !b5) := ⟨_, rfl⟩
    rw [← hlf] at YES NO ND
    clear hu4 hb5 hl5 hlf
    go_wp2_with fail
    rw [← HU4.out]
    refine TE.out.mono ?_
    rintro x w5 ⟨rfl, r5, o5⟩
    have E6 := Lib.hid (E5.out.step o5 r5)
    have HO7 := Lib.hid (HAt.only HO6.out o5 (far1 U1S.out))
    clear r5 o5 TE
    go_wp2_with fail
    refine (ND.out _ E6.out.rs).mono ?_
    rintro x w6 ⟨rfl, r6, o6⟩
    have E7 := Lib.hid (E6.out.step o6 r6)
    have HO8 := Lib.hid (HAt.only HO7.out o6 (far1 U1S.out))
    clear r6 o6 ND k4 y4
    cases head
    · skip
      by_cases gb : lf = true ∨ (l5.length : Int) < (0 : Int)
      · have RN : Hid (Reply.read l false = none) := by
          show _ = _
          cases lf
          · have gb2 : (l5.length : Int) < (0 : Int) := gb.elim (fun h => by cases h) id
            obtain ⟨a, b⟩ := YES.out rfl
            unfold Reply.read
            rw [a]
            simp only [Bool.false_eq_true, if_false]
            rw [if_neg (by omega)]
          · exact read_none (NO.out rfl)
        have BD := Lib.hid (body_lost w w6 (q0 + 1) l5 lf (0 : Int) E7.out.rs gb)
        clear gb
        go_wp2_with fail
        refine BD.out.mono ?_
        rintro x w7 ⟨rfl, r7, o7⟩
        have E8 := Lib.hid (E7.out.step o7 r7)
        clear r7 o7 BD
        have k2 := E8.out.k.cell 2
        have y2 := E8.out.k.frozen 2
        obtain ⟨u7, hu7⟩ : ∃ x, x = w7.setCell ⟨q0 + 2, 2, none⟩ (.string ⟨#[]⟩) := ⟨_, rfl⟩
        have E9 : Hid (RD w u7 q0 l5 true #[.int .i64 v, .slice A hn c, .string ⟨#[]⟩, .bool false, .bool b4]) := by show RD _ _ _ _ _ _; rw [hu7]; exact E8.out.put 2 _
        have HU7 := Lib.hid hu7
        clear hu7
        go_upto_region 12 with fail
        rw [← HU7.out]
        clear k2 y2
        have c6 := E9.out.rs.blk.cell 1
        have p0 := E9.out.q.cell 0
        have p1 := E9.out.q.cell 1
        have p2 := E9.out.q.cell 2
        have p3 := E9.out.q.cell 3
        have p4 := E9.out.q.cell 4
        have z0 := E9.out.q.frozen 0
        have z1 := E9.out.q.frozen 1
        have z2 := E9.out.q.frozen 2
        have z3 := E9.out.q.frozen 3
        have z4 := E9.out.q.frozen 4
        obtain ⟨wf, hwf⟩ : ∃ x, x = ((((u7.setCell ⟨q0, 0, none⟩ (.int .i64 0)).setCell ⟨q0, 1, none⟩ (.slice none 0 0)).setCell ⟨q0, 2, none⟩ (.string ⟨#[]⟩)).setCell ⟨q0, 3, none⟩ (.bool false)).setCell ⟨q0, 4, none⟩ (.bool false) := ⟨_, rfl⟩
        have HWF := Lib.hid hwf
        have FH : Hid (Held wf q0 24 #[.int .i64 0, .slice none 0 0, .string ⟨#[]⟩, .bool false, .bool false]) := by show Held _ _ _ _; rw [hwf]; exact ((((E9.out.q.set_ 0 _).set_ 1 _).set_ 2 _).set_ 3 _).set_ 4 _
        have BF : Hid (Below w.heap.size w wf) := by
          show Below _ _ _
          rw [hwf]
          have h0 := E9.out.lo
          exact ((((E9.out.rs.bel.setCell (p := ⟨q0, 0, none⟩) h0 _).setCell (p := ⟨q0, 1, none⟩) h0 _).setCell (p := ⟨q0, 2, none⟩) h0 _).setCell (p := ⟨q0, 3, none⟩) h0 _).setCell (p := ⟨q0, 4, none⟩) h0 _
        clear hwf
        go_wp2_with fail
        rw [← HWF.out]
        exact bodyPost_ret (resC3 _ _ 4 5 6 24 _ _ _ _ Tryd.results7 rfl rfl rfl (load_resp FH.out rfl)) rfl ⟨⟨⟨zeroR, none, 0, 0, false, rfl, HAt.nil _ _, (fun h => by cases h), fun _ => ⟨RN.out, rfl, rfl, rfl, rfl⟩⟩, fun y hy => by cases hy⟩, BF.out⟩
      · obtain ⟨gl, gk⟩ := not_or.1 gb
        have gl : lf = false := by cases lf; rfl; exact absurd rfl gl
        subst gl
        have RY := Lib.hid (YES.out rfl)
        obtain ⟨k, hk⟩ : ∃ k : Nat, (0 : Int) = (k : Int) := ⟨_, RY.out.2.symm⟩
        have hkl : k ≤ l5.length := by omega
        have RN : Hid (Reply.read l false = some (⟨v, hs, l5.take k, false, b4⟩, l5.drop k)) := by
          show _ = _
          obtain ⟨a, b⟩ := RY.out
          unfold Reply.read
          rw [a]
          simp only [Bool.false_eq_true, if_false]
          rw [hk, Int.toNat_natCast, if_pos hkl]
        have BD := Lib.hid (body_ok w w6 (q0 + 1) l5 k E7.out.rs hkl (by omega))
        rw [← hk] at BD
        have HKK := Lib.hid hkl
        clear gb gk hk
        go_wp2_with fail
        refine BD.out.mono ?_
        rintro x w7 ⟨rfl, r7, o7⟩
        have E8 := Lib.hid (E7.out.step o7 r7)
        have HO9 := Lib.hid (HAt.only HO8.out o7 (far1 U1S.out))
        clear r7 o7 BD
        have k2 := E8.out.k.cell 2
        have y2 := E8.out.k.frozen 2
        obtain ⟨rst, hrst⟩ : ∃ x, x = l5.drop k := ⟨_, rfl⟩
        rw [← hrst] at E8 RN
        clear hrst
        obtain ⟨bt, hbt⟩ : ∃ x, x = S (l5.take k) := ⟨_, rfl⟩
        rw [← hbt]
        have HBT := Lib.hid hbt
        obtain ⟨u7, hu7⟩ : ∃ x, x = w7.setCell ⟨q0 + 2, 2, none⟩ (.string bt) := ⟨_, rfl⟩
        have E9 : Hid (RD w u7 q0 rst false #[.int .i64 v, .slice A hn c, .string bt, .bool false, .bool b4]) := by show RD _ _ _ _ _ _; rw [hu7]; exact E8.out.put 2 _
        have HO10 : Hid (OwnH u7 u1.heap.size (.slice A hs.length c) hs) := by show OwnH _ _ _ _; rw [hu7]; exact HAt.only HO9.out (only_one (q0 + 2) 2 w7 _) (far2 U1S.out)
        have HU7 := Lib.hid hu7
        clear hu7 hbt
        go_upto_region 12 with fail
        rw [← HU7.out]
        clear k2 y2
        have c6 := E9.out.rs.blk.cell 1
        have c7 := E9.out.rs.blk.cell 0
        have s0 := E9.out.k.cell 0
        have s1 := E9.out.k.cell 1
        have s2 := E9.out.k.cell 2
        have s3 := E9.out.k.cell 3
        have s4 := E9.out.k.cell 4
        have p0 := E9.out.q.cell 0
        have p1 := E9.out.q.cell 1
        have p2 := E9.out.q.cell 2
        have p3 := E9.out.q.cell 3
        have p4 := E9.out.q.cell 4
        have z0 := E9.out.q.frozen 0
        have z1 := E9.out.q.frozen 1
        have z2 := E9.out.q.frozen 2
        have z3 := E9.out.q.frozen 3
        have z4 := E9.out.q.frozen 4
        have RZ : Hid ((rst).length ≤ l.length) := by
          show _ ≤ _
          have h1 := (read_back RN.out).2.2
          rcases Bool.eq_false_or_eq_true false with hh | hh
          · obtain ⟨_, kk, _, _, h2⟩ := h1.2 hh
            have := congrArg List.length h2
            rw [List.length_append] at this
            omega
          · have := congrArg List.length (h1.1 hh)
            rw [List.length_append] at this
            omega
        obtain ⟨nn, hnn⟩ : ∃ x, x = l.length - (rst).length := ⟨_, rfl⟩
        have sl := HLS.out
        have sr : ((S rst).size : Int) = ((rst).length : Int) := by rw [S_size]
        have sd : (l.length : Int) - ((rst).length : Int) = (nn : Int) := by have := RZ.out; omega
        have NN : Hid (nn + (rst).length = l.length) := by have := RZ.out; show _ = _; omega
        obtain ⟨wf, hwf⟩ : ∃ x, x = (put5 u7 q0 (.int .i64 v) (.slice A hn c) (.string bt) (.bool false) (.bool b4)).drew := ⟨_, rfl⟩
        have PA : Hid (Put w wf q0 u1.heap.size rst false #[.int .i64 v, .slice A hn c, .string bt, .bool false, .bool b4] (.int .i64 v) (.slice A hn c) (.string bt) (.bool false) (.bool b4) A c hs) := by
          show Put _ _ _ _ _ _ _ _ _ _ _ _ _ _ _
          rw [hwf]
          exact put_all E9.out HO10.out (by have := U1S.out; omega) _ _ _ _ _
        have HWF : Hid (wf = (((((u7.setCell ⟨q0, 0, none⟩ (.int .i64 v)).setCell ⟨q0, 1, none⟩ (.slice A hn c)).setCell ⟨q0, 2, none⟩ (.string bt)).setCell ⟨q0, 3, none⟩ (.bool false)).setCell ⟨q0, 4, none⟩ (.bool b4)).drew) := hwf
        have FRE : Hid (∀ y, A = some y → w.heap.size ≤ y.block) := PA.out.o.fresh (D2.out.rs.bel.size)
        have FIN : Hid ((ReadE l false (.returned (.tuple #[.agg #[.int .i64 v, .slice A hn c, .string bt, .bool false, .bool b4], .int .i64 (nn : Int), .bool true])) wf ∧ FreshE w.heap.size (.returned (.tuple #[.agg #[.int .i64 v, .slice A hn c, .string bt, .bool false, .bool b4], .int .i64 (nn : Int), .bool true]))) ∧ Below w.heap.size w wf) := by
          refine ⟨⟨⟨⟨v, hs, (l5.take k), false, b4⟩, A, c, nn, true, ?_, PA.out.o.at_, fun _ => ⟨_, RN.out, NN.out⟩, fun h => by cases h⟩, FRE.out⟩, PA.out.b⟩
          unfold rV
          simp only []
          rw [HHN.out, show bt = S (l5.take k) from HBT.out]
        have CF : Hid (wf.cell? ⟨q0 + 2, 0, none⟩ = some (.int .i64 v) ∧ wf.cell? ⟨q0 + 2, 1, none⟩ = some (.slice A hn c) ∧ wf.cell? ⟨q0 + 2, 2, none⟩ = some (.string bt) ∧ wf.cell? ⟨q0 + 2, 3, none⟩ = some (.bool false) ∧ wf.cell? ⟨q0 + 2, 4, none⟩ = some (.bool b4) ∧ wf.cell? ⟨q0 + 1, 0, none⟩ = some (.string (S rst))) :=
          ⟨PA.out.k.cell 0, PA.out.k.cell 1, PA.out.k.cell 2, PA.out.k.cell 3, PA.out.k.cell 4, PA.out.r.cell 0⟩
        have nnb : nn ≤ 1073741824 := by omega
        have wr0 : IntKind.i64.wrap (nn : Int) = (nn : Int) := by rw [IntKind.wrap_i64]; omega
        clear hwf hnn
        go_upto_region 14 with fail
        refine wp_region_noPanic ?_
        refine wp_region_held_drew (S := fun w' => w'.cell? ⟨q0 + 2, 0, none⟩ = some (.int .i64 v) ∧ w'.cell? ⟨q0 + 2, 1, none⟩ = some (.slice A hn c) ∧ w'.cell? ⟨q0 + 2, 2, none⟩ = some (.string bt) ∧ w'.cell? ⟨q0 + 2, 3, none⟩ = some (.bool false) ∧ w'.cell? ⟨q0 + 2, 4, none⟩ = some (.bool b4) ∧ w'.cell? ⟨q0 + 1, 0, none⟩ = some (.string (S rst))) (by kernel_rfl) ⟨s0, s1, s2, s3, s4, c7⟩ (fun hHeld => ?_)
        refine take_ (i := 0) (v := ?_) 34 rfl rfl (by kernel_rfl) (by kernel_rfl) (by kernel_rfl) (fun _ _ _ h => h) (Or.inl ⟨by rfl, ?_⟩) (by assumption) ?_
        rotate_left
        · (intro wS hSw; (try dsimp only at hSw); go_simp; try with_reducible rfl)
        simp only [Act.put, List.setIfInBounds_toArray]
        refine take_ (i := 1) (v := ?_) 35 rfl rfl (by kernel_rfl) (by kernel_rfl) (by kernel_rfl) (fun _ _ _ h => h) (Or.inl ⟨by rfl, ?_⟩) (by assumption) ?_
        rotate_left
        · (intro wS hSw; (try dsimp only at hSw); go_simp; try with_reducible rfl)
        simp only [Act.put, List.setIfInBounds_toArray]
        refine take_ (i := 2) (v := ?_) 36 rfl rfl (by kernel_rfl) (by kernel_rfl) (by kernel_rfl) (fun _ _ _ h => h) (Or.inl ⟨by rfl, ?_⟩) (by assumption) ?_
        rotate_left
        · (intro wS hSw; (try dsimp only at hSw); go_simp; try with_reducible rfl)
        simp only [Act.put, List.setIfInBounds_toArray]
        refine take_ (i := 3) (v := ?_) 37 rfl rfl (by kernel_rfl) (by kernel_rfl) (by kernel_rfl) (fun _ _ _ h => h) (Or.inl ⟨by rfl, ?_⟩) (by assumption) ?_
        rotate_left
        · (intro wS hSw; (try dsimp only at hSw); go_simp; try with_reducible rfl)
        simp only [Act.put, List.setIfInBounds_toArray]
        refine take_ (i := 4) (v := ?_) 38 rfl rfl (by kernel_rfl) (by kernel_rfl) (by kernel_rfl) (fun _ _ _ h => h) (Or.inl ⟨by rfl, ?_⟩) (by assumption) ?_
        rotate_left
        · (intro wS hSw; (try dsimp only at hSw); go_simp; try with_reducible rfl)
        simp only [Act.put, List.setIfInBounds_toArray]
        refine take_ (i := 5) (v := ?_) 39 rfl rfl (by kernel_rfl) (by kernel_rfl) (by kernel_rfl) (fun _ _ _ h => h) (Or.inl ⟨by rfl, ?_⟩) (by assumption) ?_
        rotate_left
        · (intro wS hSw; (try dsimp only at hSw); go_simp; try with_reducible rfl)
        simp only [Act.put, List.setIfInBounds_toArray]
        refine take_ (i := 6) (v := ?_) 40 rfl rfl (by kernel_rfl) (by kernel_rfl) (by kernel_rfl) (fun _ _ _ h => h) (Or.inl ⟨by rfl, ?_⟩) (by assumption) ?_
        rotate_left
        · (intro wS hSw; (try dsimp only at hSw); go_simp; try with_reducible rfl)
        simp only [Act.put, List.setIfInBounds_toArray]
        refine one_ (i := 7) _ (by kernel_rfl) rfl (fun K hK => ?_)
        go_simp
        rw [← HWF.out]
        refine hK.out _ _ CF.out (fun hHeld => ?_)
        clear hK K
        refine take_ (i := 8) (v := ?_) 5 rfl rfl (by kernel_rfl) (by kernel_rfl) (by kernel_rfl) (fun _ _ _ h => h) (Or.inl ⟨by rfl, ?_⟩) (by assumption) ?_
        rotate_left
        · (intro wS hSw; (try dsimp only at hSw); go_simp; try with_reducible rfl)
        simp only [Act.put, List.setIfInBounds_toArray]
        refine take_ (i := 9) (v := ?_) 6 rfl rfl (by kernel_rfl) (by kernel_rfl) (by kernel_rfl) (fun _ _ _ h => h) (Or.inl ⟨by rfl, ?_⟩) (by assumption) ?_
        rotate_left
        · (intro wS hSw; (try dsimp only at hSw); go_simp; try with_reducible rfl)
        simp only [Act.put, List.setIfInBounds_toArray]
        refine wpAnyH_done (by kernel_rfl) ?_ _
        refine NoPanic.normal ?_
        go_wp2_with fail
        exact bodyPost_ret (resC3 _ _ 4 5 6 24 _ _ _ _ Tryd.results7 rfl rfl rfl (load_resp PA.out.q rfl)) rfl FIN.out
    · skip
      cases lf
      · have RY := Lib.hid (YES.out rfl)
        have RN : Hid (Reply.read l true = some (⟨v, hs, [], true, b4⟩, l5)) := by
          show _ = _
          obtain ⟨a, b⟩ := RY.out
          unfold Reply.read
          rw [a]
          simp only [if_true]
        go_upto_region 12 with fail
        have c6 := E7.out.rs.blk.cell 1
        have c7 := E7.out.rs.blk.cell 0
        have s0 := E7.out.k.cell 0
        have s1 := E7.out.k.cell 1
        have s2 := E7.out.k.cell 2
        have s3 := E7.out.k.cell 3
        have s4 := E7.out.k.cell 4
        have p0 := E7.out.q.cell 0
        have p1 := E7.out.q.cell 1
        have p2 := E7.out.q.cell 2
        have p3 := E7.out.q.cell 3
        have p4 := E7.out.q.cell 4
        have z0 := E7.out.q.frozen 0
        have z1 := E7.out.q.frozen 1
        have z2 := E7.out.q.frozen 2
        have z3 := E7.out.q.frozen 3
        have z4 := E7.out.q.frozen 4
        have RZ : Hid ((l5).length ≤ l.length) := by
          show _ ≤ _
          have h1 := (read_back RN.out).2.2
          rcases Bool.eq_false_or_eq_true true with hh | hh
          · obtain ⟨_, kk, _, _, h2⟩ := h1.2 hh
            have := congrArg List.length h2
            rw [List.length_append] at this
            omega
          · have := congrArg List.length (h1.1 hh)
            rw [List.length_append] at this
            omega
        obtain ⟨nn, hnn⟩ : ∃ x, x = l.length - (l5).length := ⟨_, rfl⟩
        have sl := HLS.out
        have sr : ((S l5).size : Int) = ((l5).length : Int) := by rw [S_size]
        have sd : (l.length : Int) - ((l5).length : Int) = (nn : Int) := by have := RZ.out; omega
        have NN : Hid (nn + (l5).length = l.length) := by have := RZ.out; show _ = _; omega
        obtain ⟨wf, hwf⟩ : ∃ x, x = (put5 w6 q0 (.int .i64 v) (.slice A hn c) (.string (⟨#[]⟩ : ByteArray)) (.bool true) (.bool b4)).drew := ⟨_, rfl⟩
        have PA : Hid (Put w wf q0 u1.heap.size l5 false #[.int .i64 v, .slice A hn c, .string (⟨#[]⟩ : ByteArray), .bool true, .bool b4] (.int .i64 v) (.slice A hn c) (.string (⟨#[]⟩ : ByteArray)) (.bool true) (.bool b4) A c hs) := by
          show Put _ _ _ _ _ _ _ _ _ _ _ _ _ _ _
          rw [hwf]
          exact put_all E7.out HO8.out (by have := U1S.out; omega) _ _ _ _ _
        have HWF : Hid (wf = (((((w6.setCell ⟨q0, 0, none⟩ (.int .i64 v)).setCell ⟨q0, 1, none⟩ (.slice A hn c)).setCell ⟨q0, 2, none⟩ (.string (⟨#[]⟩ : ByteArray))).setCell ⟨q0, 3, none⟩ (.bool true)).setCell ⟨q0, 4, none⟩ (.bool b4)).drew) := hwf
        have FRE : Hid (∀ y, A = some y → w.heap.size ≤ y.block) := PA.out.o.fresh (D2.out.rs.bel.size)
        have FIN : Hid ((ReadE l true (.returned (.tuple #[.agg #[.int .i64 v, .slice A hn c, .string (⟨#[]⟩ : ByteArray), .bool true, .bool b4], .int .i64 (nn : Int), .bool true])) wf ∧ FreshE w.heap.size (.returned (.tuple #[.agg #[.int .i64 v, .slice A hn c, .string (⟨#[]⟩ : ByteArray), .bool true, .bool b4], .int .i64 (nn : Int), .bool true]))) ∧ Below w.heap.size w wf) := by
          refine ⟨⟨⟨⟨v, hs, [], true, b4⟩, A, c, nn, true, ?_, PA.out.o.at_, fun _ => ⟨_, RN.out, NN.out⟩, fun h => by cases h⟩, FRE.out⟩, PA.out.b⟩
          unfold rV
          simp only []
          rw [HHN.out, show (⟨#[]⟩ : ByteArray) = S [] from rfl]
        have CF : Hid (wf.cell? ⟨q0 + 2, 0, none⟩ = some (.int .i64 v) ∧ wf.cell? ⟨q0 + 2, 1, none⟩ = some (.slice A hn c) ∧ wf.cell? ⟨q0 + 2, 2, none⟩ = some (.string (⟨#[]⟩ : ByteArray)) ∧ wf.cell? ⟨q0 + 2, 3, none⟩ = some (.bool true) ∧ wf.cell? ⟨q0 + 2, 4, none⟩ = some (.bool b4) ∧ wf.cell? ⟨q0 + 1, 0, none⟩ = some (.string (S l5))) :=
          ⟨PA.out.k.cell 0, PA.out.k.cell 1, PA.out.k.cell 2, PA.out.k.cell 3, PA.out.k.cell 4, PA.out.r.cell 0⟩
        have nnb : nn ≤ 1073741824 := by omega
        have wr0 : IntKind.i64.wrap (nn : Int) = (nn : Int) := by rw [IntKind.wrap_i64]; omega
        clear hwf hnn
        go_upto_region 14 with fail
        refine wp_region_noPanic ?_
        refine wp_region_held_drew (S := fun w' => w'.cell? ⟨q0 + 2, 0, none⟩ = some (.int .i64 v) ∧ w'.cell? ⟨q0 + 2, 1, none⟩ = some (.slice A hn c) ∧ w'.cell? ⟨q0 + 2, 2, none⟩ = some (.string (⟨#[]⟩ : ByteArray)) ∧ w'.cell? ⟨q0 + 2, 3, none⟩ = some (.bool true) ∧ w'.cell? ⟨q0 + 2, 4, none⟩ = some (.bool b4) ∧ w'.cell? ⟨q0 + 1, 0, none⟩ = some (.string (S l5))) (by kernel_rfl) ⟨s0, s1, s2, s3, s4, c7⟩ (fun hHeld => ?_)
        refine take_ (i := 0) (v := ?_) 34 rfl rfl (by kernel_rfl) (by kernel_rfl) (by kernel_rfl) (fun _ _ _ h => h) (Or.inl ⟨by rfl, ?_⟩) (by assumption) ?_
        rotate_left
        · (intro wS hSw; (try dsimp only at hSw); go_simp; try with_reducible rfl)
        simp only [Act.put, List.setIfInBounds_toArray]
        refine take_ (i := 1) (v := ?_) 35 rfl rfl (by kernel_rfl) (by kernel_rfl) (by kernel_rfl) (fun _ _ _ h => h) (Or.inl ⟨by rfl, ?_⟩) (by assumption) ?_
        rotate_left
        · (intro wS hSw; (try dsimp only at hSw); go_simp; try with_reducible rfl)
        simp only [Act.put, List.setIfInBounds_toArray]
        refine take_ (i := 2) (v := ?_) 36 rfl rfl (by kernel_rfl) (by kernel_rfl) (by kernel_rfl) (fun _ _ _ h => h) (Or.inl ⟨by rfl, ?_⟩) (by assumption) ?_
        rotate_left
        · (intro wS hSw; (try dsimp only at hSw); go_simp; try with_reducible rfl)
        simp only [Act.put, List.setIfInBounds_toArray]
        refine take_ (i := 3) (v := ?_) 37 rfl rfl (by kernel_rfl) (by kernel_rfl) (by kernel_rfl) (fun _ _ _ h => h) (Or.inl ⟨by rfl, ?_⟩) (by assumption) ?_
        rotate_left
        · (intro wS hSw; (try dsimp only at hSw); go_simp; try with_reducible rfl)
        simp only [Act.put, List.setIfInBounds_toArray]
        refine take_ (i := 4) (v := ?_) 38 rfl rfl (by kernel_rfl) (by kernel_rfl) (by kernel_rfl) (fun _ _ _ h => h) (Or.inl ⟨by rfl, ?_⟩) (by assumption) ?_
        rotate_left
        · (intro wS hSw; (try dsimp only at hSw); go_simp; try with_reducible rfl)
        simp only [Act.put, List.setIfInBounds_toArray]
        refine take_ (i := 5) (v := ?_) 39 rfl rfl (by kernel_rfl) (by kernel_rfl) (by kernel_rfl) (fun _ _ _ h => h) (Or.inl ⟨by rfl, ?_⟩) (by assumption) ?_
        rotate_left
        · (intro wS hSw; (try dsimp only at hSw); go_simp; try with_reducible rfl)
        simp only [Act.put, List.setIfInBounds_toArray]
        refine take_ (i := 6) (v := ?_) 40 rfl rfl (by kernel_rfl) (by kernel_rfl) (by kernel_rfl) (fun _ _ _ h => h) (Or.inl ⟨by rfl, ?_⟩) (by assumption) ?_
        rotate_left
        · (intro wS hSw; (try dsimp only at hSw); go_simp; try with_reducible rfl)
        simp only [Act.put, List.setIfInBounds_toArray]
        refine one_ (i := 7) _ (by kernel_rfl) rfl (fun K hK => ?_)
        go_simp
        rw [← HWF.out]
        refine hK.out _ _ CF.out (fun hHeld => ?_)
        clear hK K
        refine take_ (i := 8) (v := ?_) 5 rfl rfl (by kernel_rfl) (by kernel_rfl) (by kernel_rfl) (fun _ _ _ h => h) (Or.inl ⟨by rfl, ?_⟩) (by assumption) ?_
        rotate_left
        · (intro wS hSw; (try dsimp only at hSw); go_simp; try with_reducible rfl)
        simp only [Act.put, List.setIfInBounds_toArray]
        refine take_ (i := 9) (v := ?_) 6 rfl rfl (by kernel_rfl) (by kernel_rfl) (by kernel_rfl) (fun _ _ _ h => h) (Or.inl ⟨by rfl, ?_⟩) (by assumption) ?_
        rotate_left
        · (intro wS hSw; (try dsimp only at hSw); go_simp; try with_reducible rfl)
        simp only [Act.put, List.setIfInBounds_toArray]
        refine wpAnyH_done (by kernel_rfl) ?_ _
        refine NoPanic.normal ?_
        go_wp2_with fail
        exact bodyPost_ret (resC3 _ _ 4 5 6 24 _ _ _ _ Tryd.results7 rfl rfl rfl (load_resp PA.out.q rfl)) rfl FIN.out
      · have RN : Hid (Reply.read l true = none) := read_none (NO.out rfl)
        go_upto_region 12 with fail
        have c6 := E7.out.rs.blk.cell 1
        have p0 := E7.out.q.cell 0
        have p1 := E7.out.q.cell 1
        have p2 := E7.out.q.cell 2
        have p3 := E7.out.q.cell 3
        have p4 := E7.out.q.cell 4
        have z0 := E7.out.q.frozen 0
        have z1 := E7.out.q.frozen 1
        have z2 := E7.out.q.frozen 2
        have z3 := E7.out.q.frozen 3
        have z4 := E7.out.q.frozen 4
        obtain ⟨wf, hwf⟩ : ∃ x, x = ((((w6.setCell ⟨q0, 0, none⟩ (.int .i64 0)).setCell ⟨q0, 1, none⟩ (.slice none 0 0)).setCell ⟨q0, 2, none⟩ (.string ⟨#[]⟩)).setCell ⟨q0, 3, none⟩ (.bool false)).setCell ⟨q0, 4, none⟩ (.bool false) := ⟨_, rfl⟩
        have HWF := Lib.hid hwf
        have FH : Hid (Held wf q0 24 #[.int .i64 0, .slice none 0 0, .string ⟨#[]⟩, .bool false, .bool false]) := by show Held _ _ _ _; rw [hwf]; exact ((((E7.out.q.set_ 0 _).set_ 1 _).set_ 2 _).set_ 3 _).set_ 4 _
        have BF : Hid (Below w.heap.size w wf) := by
          show Below _ _ _
          rw [hwf]
          have h0 := E7.out.lo
          exact ((((E7.out.rs.bel.setCell (p := ⟨q0, 0, none⟩) h0 _).setCell (p := ⟨q0, 1, none⟩) h0 _).setCell (p := ⟨q0, 2, none⟩) h0 _).setCell (p := ⟨q0, 3, none⟩) h0 _).setCell (p := ⟨q0, 4, none⟩) h0 _
        clear hwf
        go_wp2_with fail
        rw [← HWF.out]
        exact bodyPost_ret (resC3 _ _ 4 5 6 24 _ _ _ _ Tryd.results7 rfl rfl rfl (load_resp FH.out rfl)) rfl ⟨⟨⟨zeroR, none, 0, 0, false, rfl, HAt.nil _ _, (fun h => by cases h), fun _ => ⟨RN.out, rfl, rfl, rfl, rfl⟩⟩, fun y hy => by cases hy⟩, BF.out⟩
  · skip
    have g1 : (v == 204) = false := by rw [beq_eq_false_iff_ne]; exact g
    have g2 : (v != 204) = true := by rw [bne_iff_ne]; exact g
    have SZ := Lib.hid (fsize_any w u2 (q0 + 1) l2 lost1 D4.out.rs (by omega))
    have G := Lib.hid g
    clear g
    go_wp2_with fail
    rw [← HU2.out]
    refine SZ.out.mono ?_
    rintro x w3 ⟨⟨v3, rfl, l3, lost3, r3, l3z, _, _, f3, f3n⟩, o3⟩
    have D5 := Lib.hid (D4.out.step o3 r3)
    have HO4b := Lib.hid (HAt.only HO4.out o3 (far1 U1S.out))
    have TP : Hid (Topped l v l1 lost1 v3 l3 lost3) := ⟨F1.out, F1N.out, (fun k z h => by
      rw [← HL2.out] at h
      unfold lenOf at h
      rw [if_neg G.out] at h
      exact f3 k z h), (fun h => by
      rw [← HL2.out] at h
      unfold lenOf at h
      rw [if_neg G.out] at h
      exact f3n h)⟩
    clear r3 o3 f3 f3n SZ

    have TL := Lib.hid (takeline_any w w3 (q0 + 1) l3 closeLine lost3 D5.out.rs (by decide))
    obtain ⟨b4, hb4⟩ : ∃ x, x = (takeLine closeLine l3).1 := ⟨_, rfl⟩
    obtain ⟨l4, hl4⟩ : ∃ x, x = (takeLine closeLine l3).2 := ⟨_, rfl⟩
    rw [← hb4, ← hl4] at TL
    have l4z : l4.length ≤ 1073741824 := by rw [hl4]; have := takeLine_len closeLine l3; omega
    have HB4 := Lib.hid hb4
    have HL4 := Lib.hid hl4
    clear hb4 hl4
    go_wp2_with fail
    refine TL.out.mono ?_
    rintro x w4 ⟨rfl, r4, o4⟩
    have E4 := Lib.hid (D5.out.step o4 r4)
    have HO5 := Lib.hid (HAt.only HO4b.out o4 (far1 U1S.out))
    have k4 := E4.out.k.cell 4
    have y4 := E4.out.k.frozen 4
    clear r4 o4 TL k0 k1 y1
    obtain ⟨u4, hu4⟩ : ∃ x, x = w4.setCell ⟨q0 + 2, 4, none⟩ (.bool b4) := ⟨_, rfl⟩
    have E5 : Hid (RD w u4 q0 l4 lost3 #[.int .i64 v, .slice A hn c, .string ⟨#[]⟩, .bool head, .bool b4]) := by show RD _ _ _ _ _ _; rw [hu4]; exact E4.out.put 4 _
    have HO6 : Hid (OwnH u4 u1.heap.size (.slice A hs.length c) hs) := by show OwnH _ _ _ _; rw [hu4]; exact HAt.only HO5.out (only_one (q0 + 2) 4 w4 _) (far2 U1S.out)
    have HU4 := Lib.hid hu4
    have TE : Hid (Calls Tryd.prog 19 #[.pointer (some ⟨q0 + 1, 0, none⟩), .string ⟨#[]⟩] u4 fun e w' => e = .returned (.bool (takeLine [] l4).1) ∧ RS w w' (q0 + 1) (takeLine [] l4).2 lost3 ∧ Only [q0 + 1] u4 w') := takeline_any w u4 (q0 + 1) l4 [] lost3 E5.out.rs (by decide)
    obtain ⟨b5, hb5⟩ : ∃ x, x = (takeLine [] l4).1 := ⟨_, rfl⟩
    obtain ⟨l5, hl5⟩ : ∃ x, x = (takeLine [] l4).2 := ⟨_, rfl⟩
    rw [← hb5, ← hl5] at TE
    have l5z : l5.length ≤ 1073741824 := by rw [hl5]; have := takeLine_len [] l4; omega
    have YES : Hid ((lost3 || !b5) = false → readTop l = some (v, hs, (v3).toNat, b4, l5) ∧ (((v3).toNat : Nat) : Int) = v3) := fun h => by
      have := TP.out.yes (by rw [← HL4.out, ← hb5]; exact h)
      rw [← HHS.out, ← HB4.out, ← HL4.out, ← hl5] at this
      exact this
    have NO : Hid ((lost3 || !b5) = true → readTop l = none) := fun h => TP.out.no (by rw [← HL4.out, ← hb5]; exact h)
    have ND := Lib.hid (fun u k => need_any w u (q0 + 1) l5 lost3 b5 k)
    obtain ⟨lf, hlf⟩ : ∃ x, x = (lost3 || !b5) := ⟨_, rfl⟩
    rw [← hlf] at YES NO ND
    clear hu4 hb5 hl5 hlf
    go_wp2_with fail
    rw [← HU4.out]
    refine TE.out.mono ?_
    rintro x w5 ⟨rfl, r5, o5⟩
    have E6 := Lib.hid (E5.out.step o5 r5)
    have HO7 := Lib.hid (HAt.only HO6.out o5 (far1 U1S.out))
    clear r5 o5 TE
    go_wp2_with fail
    refine (ND.out _ E6.out.rs).mono ?_
    rintro x w6 ⟨rfl, r6, o6⟩
    have E7 := Lib.hid (E6.out.step o6 r6)
    have HO8 := Lib.hid (HAt.only HO7.out o6 (far1 U1S.out))
    clear r6 o6 ND k4 y4
    cases head
    · skip
      by_cases gb : lf = true ∨ (l5.length : Int) < v3
      · have RN : Hid (Reply.read l false = none) := by
          show _ = _
          cases lf
          · have gb2 : (l5.length : Int) < v3 := gb.elim (fun h => by cases h) id
            obtain ⟨a, b⟩ := YES.out rfl
            unfold Reply.read
            rw [a]
            simp only [Bool.false_eq_true, if_false]
            rw [if_neg (by omega)]
          · exact read_none (NO.out rfl)
        have BD := Lib.hid (body_lost w w6 (q0 + 1) l5 lf v3 E7.out.rs gb)
        clear gb
        go_wp2_with fail
        refine BD.out.mono ?_
        rintro x w7 ⟨rfl, r7, o7⟩
        have E8 := Lib.hid (E7.out.step o7 r7)
        clear r7 o7 BD
        have k2 := E8.out.k.cell 2
        have y2 := E8.out.k.frozen 2
        obtain ⟨u7, hu7⟩ : ∃ x, x = w7.setCell ⟨q0 + 2, 2, none⟩ (.string ⟨#[]⟩) := ⟨_, rfl⟩
        have E9 : Hid (RD w u7 q0 l5 true #[.int .i64 v, .slice A hn c, .string ⟨#[]⟩, .bool false, .bool b4]) := by show RD _ _ _ _ _ _; rw [hu7]; exact E8.out.put 2 _
        have HU7 := Lib.hid hu7
        clear hu7
        go_upto_region 12 with fail
        rw [← HU7.out]
        clear k2 y2
        have c6 := E9.out.rs.blk.cell 1
        have p0 := E9.out.q.cell 0
        have p1 := E9.out.q.cell 1
        have p2 := E9.out.q.cell 2
        have p3 := E9.out.q.cell 3
        have p4 := E9.out.q.cell 4
        have z0 := E9.out.q.frozen 0
        have z1 := E9.out.q.frozen 1
        have z2 := E9.out.q.frozen 2
        have z3 := E9.out.q.frozen 3
        have z4 := E9.out.q.frozen 4
        obtain ⟨wf, hwf⟩ : ∃ x, x = ((((u7.setCell ⟨q0, 0, none⟩ (.int .i64 0)).setCell ⟨q0, 1, none⟩ (.slice none 0 0)).setCell ⟨q0, 2, none⟩ (.string ⟨#[]⟩)).setCell ⟨q0, 3, none⟩ (.bool false)).setCell ⟨q0, 4, none⟩ (.bool false) := ⟨_, rfl⟩
        have HWF := Lib.hid hwf
        have FH : Hid (Held wf q0 24 #[.int .i64 0, .slice none 0 0, .string ⟨#[]⟩, .bool false, .bool false]) := by show Held _ _ _ _; rw [hwf]; exact ((((E9.out.q.set_ 0 _).set_ 1 _).set_ 2 _).set_ 3 _).set_ 4 _
        have BF : Hid (Below w.heap.size w wf) := by
          show Below _ _ _
          rw [hwf]
          have h0 := E9.out.lo
          exact ((((E9.out.rs.bel.setCell (p := ⟨q0, 0, none⟩) h0 _).setCell (p := ⟨q0, 1, none⟩) h0 _).setCell (p := ⟨q0, 2, none⟩) h0 _).setCell (p := ⟨q0, 3, none⟩) h0 _).setCell (p := ⟨q0, 4, none⟩) h0 _
        clear hwf
        go_wp2_with fail
        rw [← HWF.out]
        exact bodyPost_ret (resC3 _ _ 4 5 6 24 _ _ _ _ Tryd.results7 rfl rfl rfl (load_resp FH.out rfl)) rfl ⟨⟨⟨zeroR, none, 0, 0, false, rfl, HAt.nil _ _, (fun h => by cases h), fun _ => ⟨RN.out, rfl, rfl, rfl, rfl⟩⟩, fun y hy => by cases hy⟩, BF.out⟩
      · obtain ⟨gl, gk⟩ := not_or.1 gb
        have gl : lf = false := by cases lf; rfl; exact absurd rfl gl
        subst gl
        have RY := Lib.hid (YES.out rfl)
        obtain ⟨k, hk⟩ : ∃ k : Nat, v3 = (k : Int) := ⟨_, RY.out.2.symm⟩
        have hkl : k ≤ l5.length := by omega
        have RN : Hid (Reply.read l false = some (⟨v, hs, l5.take k, false, b4⟩, l5.drop k)) := by
          show _ = _
          obtain ⟨a, b⟩ := RY.out
          unfold Reply.read
          rw [a]
          simp only [Bool.false_eq_true, if_false]
          rw [hk, Int.toNat_natCast, if_pos hkl]
        have BD := Lib.hid (body_ok w w6 (q0 + 1) l5 k E7.out.rs hkl (by omega))
        rw [← hk] at BD
        have HKK := Lib.hid hkl
        clear gb gk hk
        go_wp2_with fail
        refine BD.out.mono ?_
        rintro x w7 ⟨rfl, r7, o7⟩
        have E8 := Lib.hid (E7.out.step o7 r7)
        have HO9 := Lib.hid (HAt.only HO8.out o7 (far1 U1S.out))
        clear r7 o7 BD
        have k2 := E8.out.k.cell 2
        have y2 := E8.out.k.frozen 2
        obtain ⟨rst, hrst⟩ : ∃ x, x = l5.drop k := ⟨_, rfl⟩
        rw [← hrst] at E8 RN
        clear hrst
        obtain ⟨bt, hbt⟩ : ∃ x, x = S (l5.take k) := ⟨_, rfl⟩
        rw [← hbt]
        have HBT := Lib.hid hbt
        obtain ⟨u7, hu7⟩ : ∃ x, x = w7.setCell ⟨q0 + 2, 2, none⟩ (.string bt) := ⟨_, rfl⟩
        have E9 : Hid (RD w u7 q0 rst false #[.int .i64 v, .slice A hn c, .string bt, .bool false, .bool b4]) := by show RD _ _ _ _ _ _; rw [hu7]; exact E8.out.put 2 _
        have HO10 : Hid (OwnH u7 u1.heap.size (.slice A hs.length c) hs) := by show OwnH _ _ _ _; rw [hu7]; exact HAt.only HO9.out (only_one (q0 + 2) 2 w7 _) (far2 U1S.out)
        have HU7 := Lib.hid hu7
        clear hu7 hbt
        go_upto_region 12 with fail
        rw [← HU7.out]
        clear k2 y2
        have c6 := E9.out.rs.blk.cell 1
        have c7 := E9.out.rs.blk.cell 0
        have s0 := E9.out.k.cell 0
        have s1 := E9.out.k.cell 1
        have s2 := E9.out.k.cell 2
        have s3 := E9.out.k.cell 3
        have s4 := E9.out.k.cell 4
        have p0 := E9.out.q.cell 0
        have p1 := E9.out.q.cell 1
        have p2 := E9.out.q.cell 2
        have p3 := E9.out.q.cell 3
        have p4 := E9.out.q.cell 4
        have z0 := E9.out.q.frozen 0
        have z1 := E9.out.q.frozen 1
        have z2 := E9.out.q.frozen 2
        have z3 := E9.out.q.frozen 3
        have z4 := E9.out.q.frozen 4
        have RZ : Hid ((rst).length ≤ l.length) := by
          show _ ≤ _
          have h1 := (read_back RN.out).2.2
          rcases Bool.eq_false_or_eq_true false with hh | hh
          · obtain ⟨_, kk, _, _, h2⟩ := h1.2 hh
            have := congrArg List.length h2
            rw [List.length_append] at this
            omega
          · have := congrArg List.length (h1.1 hh)
            rw [List.length_append] at this
            omega
        obtain ⟨nn, hnn⟩ : ∃ x, x = l.length - (rst).length := ⟨_, rfl⟩
        have sl := HLS.out
        have sr : ((S rst).size : Int) = ((rst).length : Int) := by rw [S_size]
        have sd : (l.length : Int) - ((rst).length : Int) = (nn : Int) := by have := RZ.out; omega
        have NN : Hid (nn + (rst).length = l.length) := by have := RZ.out; show _ = _; omega
        obtain ⟨wf, hwf⟩ : ∃ x, x = (put5 u7 q0 (.int .i64 v) (.slice A hn c) (.string bt) (.bool false) (.bool b4)).drew := ⟨_, rfl⟩
        have PA : Hid (Put w wf q0 u1.heap.size rst false #[.int .i64 v, .slice A hn c, .string bt, .bool false, .bool b4] (.int .i64 v) (.slice A hn c) (.string bt) (.bool false) (.bool b4) A c hs) := by
          show Put _ _ _ _ _ _ _ _ _ _ _ _ _ _ _
          rw [hwf]
          exact put_all E9.out HO10.out (by have := U1S.out; omega) _ _ _ _ _
        have HWF : Hid (wf = (((((u7.setCell ⟨q0, 0, none⟩ (.int .i64 v)).setCell ⟨q0, 1, none⟩ (.slice A hn c)).setCell ⟨q0, 2, none⟩ (.string bt)).setCell ⟨q0, 3, none⟩ (.bool false)).setCell ⟨q0, 4, none⟩ (.bool b4)).drew) := hwf
        have FRE : Hid (∀ y, A = some y → w.heap.size ≤ y.block) := PA.out.o.fresh (D2.out.rs.bel.size)
        have FIN : Hid ((ReadE l false (.returned (.tuple #[.agg #[.int .i64 v, .slice A hn c, .string bt, .bool false, .bool b4], .int .i64 (nn : Int), .bool true])) wf ∧ FreshE w.heap.size (.returned (.tuple #[.agg #[.int .i64 v, .slice A hn c, .string bt, .bool false, .bool b4], .int .i64 (nn : Int), .bool true]))) ∧ Below w.heap.size w wf) := by
          refine ⟨⟨⟨⟨v, hs, (l5.take k), false, b4⟩, A, c, nn, true, ?_, PA.out.o.at_, fun _ => ⟨_, RN.out, NN.out⟩, fun h => by cases h⟩, FRE.out⟩, PA.out.b⟩
          unfold rV
          simp only []
          rw [HHN.out, show bt = S (l5.take k) from HBT.out]
        have CF : Hid (wf.cell? ⟨q0 + 2, 0, none⟩ = some (.int .i64 v) ∧ wf.cell? ⟨q0 + 2, 1, none⟩ = some (.slice A hn c) ∧ wf.cell? ⟨q0 + 2, 2, none⟩ = some (.string bt) ∧ wf.cell? ⟨q0 + 2, 3, none⟩ = some (.bool false) ∧ wf.cell? ⟨q0 + 2, 4, none⟩ = some (.bool b4) ∧ wf.cell? ⟨q0 + 1, 0, none⟩ = some (.string (S rst))) :=
          ⟨PA.out.k.cell 0, PA.out.k.cell 1, PA.out.k.cell 2, PA.out.k.cell 3, PA.out.k.cell 4, PA.out.r.cell 0⟩
        have nnb : nn ≤ 1073741824 := by omega
        have wr0 : IntKind.i64.wrap (nn : Int) = (nn : Int) := by rw [IntKind.wrap_i64]; omega
        clear hwf hnn
        go_upto_region 14 with fail
        refine wp_region_noPanic ?_
        refine wp_region_held_drew (S := fun w' => w'.cell? ⟨q0 + 2, 0, none⟩ = some (.int .i64 v) ∧ w'.cell? ⟨q0 + 2, 1, none⟩ = some (.slice A hn c) ∧ w'.cell? ⟨q0 + 2, 2, none⟩ = some (.string bt) ∧ w'.cell? ⟨q0 + 2, 3, none⟩ = some (.bool false) ∧ w'.cell? ⟨q0 + 2, 4, none⟩ = some (.bool b4) ∧ w'.cell? ⟨q0 + 1, 0, none⟩ = some (.string (S rst))) (by kernel_rfl) ⟨s0, s1, s2, s3, s4, c7⟩ (fun hHeld => ?_)
        refine take_ (i := 0) (v := ?_) 34 rfl rfl (by kernel_rfl) (by kernel_rfl) (by kernel_rfl) (fun _ _ _ h => h) (Or.inl ⟨by rfl, ?_⟩) (by assumption) ?_
        rotate_left
        · (intro wS hSw; (try dsimp only at hSw); go_simp; try with_reducible rfl)
        simp only [Act.put, List.setIfInBounds_toArray]
        refine take_ (i := 1) (v := ?_) 35 rfl rfl (by kernel_rfl) (by kernel_rfl) (by kernel_rfl) (fun _ _ _ h => h) (Or.inl ⟨by rfl, ?_⟩) (by assumption) ?_
        rotate_left
        · (intro wS hSw; (try dsimp only at hSw); go_simp; try with_reducible rfl)
        simp only [Act.put, List.setIfInBounds_toArray]
        refine take_ (i := 2) (v := ?_) 36 rfl rfl (by kernel_rfl) (by kernel_rfl) (by kernel_rfl) (fun _ _ _ h => h) (Or.inl ⟨by rfl, ?_⟩) (by assumption) ?_
        rotate_left
        · (intro wS hSw; (try dsimp only at hSw); go_simp; try with_reducible rfl)
        simp only [Act.put, List.setIfInBounds_toArray]
        refine take_ (i := 3) (v := ?_) 37 rfl rfl (by kernel_rfl) (by kernel_rfl) (by kernel_rfl) (fun _ _ _ h => h) (Or.inl ⟨by rfl, ?_⟩) (by assumption) ?_
        rotate_left
        · (intro wS hSw; (try dsimp only at hSw); go_simp; try with_reducible rfl)
        simp only [Act.put, List.setIfInBounds_toArray]
        refine take_ (i := 4) (v := ?_) 38 rfl rfl (by kernel_rfl) (by kernel_rfl) (by kernel_rfl) (fun _ _ _ h => h) (Or.inl ⟨by rfl, ?_⟩) (by assumption) ?_
        rotate_left
        · (intro wS hSw; (try dsimp only at hSw); go_simp; try with_reducible rfl)
        simp only [Act.put, List.setIfInBounds_toArray]
        refine take_ (i := 5) (v := ?_) 39 rfl rfl (by kernel_rfl) (by kernel_rfl) (by kernel_rfl) (fun _ _ _ h => h) (Or.inl ⟨by rfl, ?_⟩) (by assumption) ?_
        rotate_left
        · (intro wS hSw; (try dsimp only at hSw); go_simp; try with_reducible rfl)
        simp only [Act.put, List.setIfInBounds_toArray]
        refine take_ (i := 6) (v := ?_) 40 rfl rfl (by kernel_rfl) (by kernel_rfl) (by kernel_rfl) (fun _ _ _ h => h) (Or.inl ⟨by rfl, ?_⟩) (by assumption) ?_
        rotate_left
        · (intro wS hSw; (try dsimp only at hSw); go_simp; try with_reducible rfl)
        simp only [Act.put, List.setIfInBounds_toArray]
        refine one_ (i := 7) _ (by kernel_rfl) rfl (fun K hK => ?_)
        go_simp
        rw [← HWF.out]
        refine hK.out _ _ CF.out (fun hHeld => ?_)
        clear hK K
        refine take_ (i := 8) (v := ?_) 5 rfl rfl (by kernel_rfl) (by kernel_rfl) (by kernel_rfl) (fun _ _ _ h => h) (Or.inl ⟨by rfl, ?_⟩) (by assumption) ?_
        rotate_left
        · (intro wS hSw; (try dsimp only at hSw); go_simp; try with_reducible rfl)
        simp only [Act.put, List.setIfInBounds_toArray]
        refine take_ (i := 9) (v := ?_) 6 rfl rfl (by kernel_rfl) (by kernel_rfl) (by kernel_rfl) (fun _ _ _ h => h) (Or.inl ⟨by rfl, ?_⟩) (by assumption) ?_
        rotate_left
        · (intro wS hSw; (try dsimp only at hSw); go_simp; try with_reducible rfl)
        simp only [Act.put, List.setIfInBounds_toArray]
        refine wpAnyH_done (by kernel_rfl) ?_ _
        refine NoPanic.normal ?_
        go_wp2_with fail
        exact bodyPost_ret (resC3 _ _ 4 5 6 24 _ _ _ _ Tryd.results7 rfl rfl rfl (load_resp PA.out.q rfl)) rfl FIN.out
    · skip
      cases lf
      · have RY := Lib.hid (YES.out rfl)
        have RN : Hid (Reply.read l true = some (⟨v, hs, [], true, b4⟩, l5)) := by
          show _ = _
          obtain ⟨a, b⟩ := RY.out
          unfold Reply.read
          rw [a]
          simp only [if_true]
        go_upto_region 12 with fail
        have c6 := E7.out.rs.blk.cell 1
        have c7 := E7.out.rs.blk.cell 0
        have s0 := E7.out.k.cell 0
        have s1 := E7.out.k.cell 1
        have s2 := E7.out.k.cell 2
        have s3 := E7.out.k.cell 3
        have s4 := E7.out.k.cell 4
        have p0 := E7.out.q.cell 0
        have p1 := E7.out.q.cell 1
        have p2 := E7.out.q.cell 2
        have p3 := E7.out.q.cell 3
        have p4 := E7.out.q.cell 4
        have z0 := E7.out.q.frozen 0
        have z1 := E7.out.q.frozen 1
        have z2 := E7.out.q.frozen 2
        have z3 := E7.out.q.frozen 3
        have z4 := E7.out.q.frozen 4
        have RZ : Hid ((l5).length ≤ l.length) := by
          show _ ≤ _
          have h1 := (read_back RN.out).2.2
          rcases Bool.eq_false_or_eq_true true with hh | hh
          · obtain ⟨_, kk, _, _, h2⟩ := h1.2 hh
            have := congrArg List.length h2
            rw [List.length_append] at this
            omega
          · have := congrArg List.length (h1.1 hh)
            rw [List.length_append] at this
            omega
        obtain ⟨nn, hnn⟩ : ∃ x, x = l.length - (l5).length := ⟨_, rfl⟩
        have sl := HLS.out
        have sr : ((S l5).size : Int) = ((l5).length : Int) := by rw [S_size]
        have sd : (l.length : Int) - ((l5).length : Int) = (nn : Int) := by have := RZ.out; omega
        have NN : Hid (nn + (l5).length = l.length) := by have := RZ.out; show _ = _; omega
        obtain ⟨wf, hwf⟩ : ∃ x, x = (put5 w6 q0 (.int .i64 v) (.slice A hn c) (.string (⟨#[]⟩ : ByteArray)) (.bool true) (.bool b4)).drew := ⟨_, rfl⟩
        have PA : Hid (Put w wf q0 u1.heap.size l5 false #[.int .i64 v, .slice A hn c, .string (⟨#[]⟩ : ByteArray), .bool true, .bool b4] (.int .i64 v) (.slice A hn c) (.string (⟨#[]⟩ : ByteArray)) (.bool true) (.bool b4) A c hs) := by
          show Put _ _ _ _ _ _ _ _ _ _ _ _ _ _ _
          rw [hwf]
          exact put_all E7.out HO8.out (by have := U1S.out; omega) _ _ _ _ _
        have HWF : Hid (wf = (((((w6.setCell ⟨q0, 0, none⟩ (.int .i64 v)).setCell ⟨q0, 1, none⟩ (.slice A hn c)).setCell ⟨q0, 2, none⟩ (.string (⟨#[]⟩ : ByteArray))).setCell ⟨q0, 3, none⟩ (.bool true)).setCell ⟨q0, 4, none⟩ (.bool b4)).drew) := hwf
        have FRE : Hid (∀ y, A = some y → w.heap.size ≤ y.block) := PA.out.o.fresh (D2.out.rs.bel.size)
        have FIN : Hid ((ReadE l true (.returned (.tuple #[.agg #[.int .i64 v, .slice A hn c, .string (⟨#[]⟩ : ByteArray), .bool true, .bool b4], .int .i64 (nn : Int), .bool true])) wf ∧ FreshE w.heap.size (.returned (.tuple #[.agg #[.int .i64 v, .slice A hn c, .string (⟨#[]⟩ : ByteArray), .bool true, .bool b4], .int .i64 (nn : Int), .bool true]))) ∧ Below w.heap.size w wf) := by
          refine ⟨⟨⟨⟨v, hs, [], true, b4⟩, A, c, nn, true, ?_, PA.out.o.at_, fun _ => ⟨_, RN.out, NN.out⟩, fun h => by cases h⟩, FRE.out⟩, PA.out.b⟩
          unfold rV
          simp only []
          rw [HHN.out, show (⟨#[]⟩ : ByteArray) = S [] from rfl]
        have CF : Hid (wf.cell? ⟨q0 + 2, 0, none⟩ = some (.int .i64 v) ∧ wf.cell? ⟨q0 + 2, 1, none⟩ = some (.slice A hn c) ∧ wf.cell? ⟨q0 + 2, 2, none⟩ = some (.string (⟨#[]⟩ : ByteArray)) ∧ wf.cell? ⟨q0 + 2, 3, none⟩ = some (.bool true) ∧ wf.cell? ⟨q0 + 2, 4, none⟩ = some (.bool b4) ∧ wf.cell? ⟨q0 + 1, 0, none⟩ = some (.string (S l5))) :=
          ⟨PA.out.k.cell 0, PA.out.k.cell 1, PA.out.k.cell 2, PA.out.k.cell 3, PA.out.k.cell 4, PA.out.r.cell 0⟩
        have nnb : nn ≤ 1073741824 := by omega
        have wr0 : IntKind.i64.wrap (nn : Int) = (nn : Int) := by rw [IntKind.wrap_i64]; omega
        clear hwf hnn
        go_upto_region 14 with fail
        refine wp_region_noPanic ?_
        refine wp_region_held_drew (S := fun w' => w'.cell? ⟨q0 + 2, 0, none⟩ = some (.int .i64 v) ∧ w'.cell? ⟨q0 + 2, 1, none⟩ = some (.slice A hn c) ∧ w'.cell? ⟨q0 + 2, 2, none⟩ = some (.string (⟨#[]⟩ : ByteArray)) ∧ w'.cell? ⟨q0 + 2, 3, none⟩ = some (.bool true) ∧ w'.cell? ⟨q0 + 2, 4, none⟩ = some (.bool b4) ∧ w'.cell? ⟨q0 + 1, 0, none⟩ = some (.string (S l5))) (by kernel_rfl) ⟨s0, s1, s2, s3, s4, c7⟩ (fun hHeld => ?_)
        refine take_ (i := 0) (v := ?_) 34 rfl rfl (by kernel_rfl) (by kernel_rfl) (by kernel_rfl) (fun _ _ _ h => h) (Or.inl ⟨by rfl, ?_⟩) (by assumption) ?_
        rotate_left
        · (intro wS hSw; (try dsimp only at hSw); go_simp; try with_reducible rfl)
        simp only [Act.put, List.setIfInBounds_toArray]
        refine take_ (i := 1) (v := ?_) 35 rfl rfl (by kernel_rfl) (by kernel_rfl) (by kernel_rfl) (fun _ _ _ h => h) (Or.inl ⟨by rfl, ?_⟩) (by assumption) ?_
        rotate_left
        · (intro wS hSw; (try dsimp only at hSw); go_simp; try with_reducible rfl)
        simp only [Act.put, List.setIfInBounds_toArray]
        refine take_ (i := 2) (v := ?_) 36 rfl rfl (by kernel_rfl) (by kernel_rfl) (by kernel_rfl) (fun _ _ _ h => h) (Or.inl ⟨by rfl, ?_⟩) (by assumption) ?_
        rotate_left
        · (intro wS hSw; (try dsimp only at hSw); go_simp; try with_reducible rfl)
        simp only [Act.put, List.setIfInBounds_toArray]
        refine take_ (i := 3) (v := ?_) 37 rfl rfl (by kernel_rfl) (by kernel_rfl) (by kernel_rfl) (fun _ _ _ h => h) (Or.inl ⟨by rfl, ?_⟩) (by assumption) ?_
        rotate_left
        · (intro wS hSw; (try dsimp only at hSw); go_simp; try with_reducible rfl)
        simp only [Act.put, List.setIfInBounds_toArray]
        refine take_ (i := 4) (v := ?_) 38 rfl rfl (by kernel_rfl) (by kernel_rfl) (by kernel_rfl) (fun _ _ _ h => h) (Or.inl ⟨by rfl, ?_⟩) (by assumption) ?_
        rotate_left
        · (intro wS hSw; (try dsimp only at hSw); go_simp; try with_reducible rfl)
        simp only [Act.put, List.setIfInBounds_toArray]
        refine take_ (i := 5) (v := ?_) 39 rfl rfl (by kernel_rfl) (by kernel_rfl) (by kernel_rfl) (fun _ _ _ h => h) (Or.inl ⟨by rfl, ?_⟩) (by assumption) ?_
        rotate_left
        · (intro wS hSw; (try dsimp only at hSw); go_simp; try with_reducible rfl)
        simp only [Act.put, List.setIfInBounds_toArray]
        refine take_ (i := 6) (v := ?_) 40 rfl rfl (by kernel_rfl) (by kernel_rfl) (by kernel_rfl) (fun _ _ _ h => h) (Or.inl ⟨by rfl, ?_⟩) (by assumption) ?_
        rotate_left
        · (intro wS hSw; (try dsimp only at hSw); go_simp; try with_reducible rfl)
        simp only [Act.put, List.setIfInBounds_toArray]
        refine one_ (i := 7) _ (by kernel_rfl) rfl (fun K hK => ?_)
        go_simp
        rw [← HWF.out]
        refine hK.out _ _ CF.out (fun hHeld => ?_)
        clear hK K
        refine take_ (i := 8) (v := ?_) 5 rfl rfl (by kernel_rfl) (by kernel_rfl) (by kernel_rfl) (fun _ _ _ h => h) (Or.inl ⟨by rfl, ?_⟩) (by assumption) ?_
        rotate_left
        · (intro wS hSw; (try dsimp only at hSw); go_simp; try with_reducible rfl)
        simp only [Act.put, List.setIfInBounds_toArray]
        refine take_ (i := 9) (v := ?_) 6 rfl rfl (by kernel_rfl) (by kernel_rfl) (by kernel_rfl) (fun _ _ _ h => h) (Or.inl ⟨by rfl, ?_⟩) (by assumption) ?_
        rotate_left
        · (intro wS hSw; (try dsimp only at hSw); go_simp; try with_reducible rfl)
        simp only [Act.put, List.setIfInBounds_toArray]
        refine wpAnyH_done (by kernel_rfl) ?_ _
        refine NoPanic.normal ?_
        go_wp2_with fail
        exact bodyPost_ret (resC3 _ _ 4 5 6 24 _ _ _ _ Tryd.results7 rfl rfl rfl (load_resp PA.out.q rfl)) rfl FIN.out
      · have RN : Hid (Reply.read l true = none) := read_none (NO.out rfl)
        go_upto_region 12 with fail
        have c6 := E7.out.rs.blk.cell 1
        have p0 := E7.out.q.cell 0
        have p1 := E7.out.q.cell 1
        have p2 := E7.out.q.cell 2
        have p3 := E7.out.q.cell 3
        have p4 := E7.out.q.cell 4
        have z0 := E7.out.q.frozen 0
        have z1 := E7.out.q.frozen 1
        have z2 := E7.out.q.frozen 2
        have z3 := E7.out.q.frozen 3
        have z4 := E7.out.q.frozen 4
        obtain ⟨wf, hwf⟩ : ∃ x, x = ((((w6.setCell ⟨q0, 0, none⟩ (.int .i64 0)).setCell ⟨q0, 1, none⟩ (.slice none 0 0)).setCell ⟨q0, 2, none⟩ (.string ⟨#[]⟩)).setCell ⟨q0, 3, none⟩ (.bool false)).setCell ⟨q0, 4, none⟩ (.bool false) := ⟨_, rfl⟩
        have HWF := Lib.hid hwf
        have FH : Hid (Held wf q0 24 #[.int .i64 0, .slice none 0 0, .string ⟨#[]⟩, .bool false, .bool false]) := by show Held _ _ _ _; rw [hwf]; exact ((((E7.out.q.set_ 0 _).set_ 1 _).set_ 2 _).set_ 3 _).set_ 4 _
        have BF : Hid (Below w.heap.size w wf) := by
          show Below _ _ _
          rw [hwf]
          have h0 := E7.out.lo
          exact ((((E7.out.rs.bel.setCell (p := ⟨q0, 0, none⟩) h0 _).setCell (p := ⟨q0, 1, none⟩) h0 _).setCell (p := ⟨q0, 2, none⟩) h0 _).setCell (p := ⟨q0, 3, none⟩) h0 _).setCell (p := ⟨q0, 4, none⟩) h0 _
        clear hwf
        go_wp2_with fail
        rw [← HWF.out]
        exact bodyPost_ret (resC3 _ _ 4 5 6 24 _ _ _ _ Tryd.results7 rfl rfl rfl (load_resp FH.out rfl)) rfl ⟨⟨⟨zeroR, none, 0, 0, false, rfl, HAt.nil _ _, (fun h => by cases h), fun _ => ⟨RN.out, rfl, rfl, rfl, rfl⟩⟩, fun y hy => by cases hy⟩, BF.out⟩
theorem fread_any (w : World) (E : Env w) (l : B) (head : Bool) (hl : l.length ≤ 1073741824) :
    Calls Tryd.prog 7 #[.string (S l), .bool head] w fun e w' => ReadE l head e w' ∧ Below w.heap.size w w' :=
  (fread2_any w E l head hl).mono fun _ _ h => ⟨h.1.1, h.2⟩
end Go.Proofs.YtdojchamdcokiaaDoor
