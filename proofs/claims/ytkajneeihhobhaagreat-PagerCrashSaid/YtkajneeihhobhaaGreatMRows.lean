/-
  wal: rows of batches that a call makes for itself; the contract of readBatches, where all that is told of lies whole. · wal: the contract of readBatches, where all that is told of lies whole.
-/
import Derived.Test.YtkajneeihhobhaaGreatMReadB
namespace Go.Proofs.YtkajneeihhobhaaGreat
open Go.RowKit Go.Shelf Wal

attribute [local go_sem] Oper.semAt_some

theorem infoL : (Tryz.prog.info? 71).map (fun i => (i.zero, i.size, i.bytes)) = some (some (.slice none 0 0), 1, 24) := by kernel_rfl

theorem own_slice {w : World} {base : Nat} {e : TypeId} {size n : Nat} {v : Value} {xs : List Value} (h : w.ownsRow base e size v n xs) : ∃ A c, v = .slice A n c := by
  rcases h.2 with ⟨h1, h2⟩ | ⟨g, cap, cur, h1, _⟩
  · exact ⟨none, 0, by rw [h1, h2]⟩
  · exact ⟨_, cap, h1⟩

/-- A slice appended to a row of slices of the call's own. -/
theorem wpList_append_batch {ops : Array Oper} {rest : List Oper} {o : Oper} {a : Act} {w : World} {Q : Exit → Act → World → Prop} (hgd : o.guard = none) (s x : Operand) (base : Nat)
    (ho : o.op = .call { callee := .builtin .append, args := #[s, x], argTypes := #[101, 101] }) (v : Value) (k : Nat) (xs : List Value) (hs : a.eval s = v) (hr : w.ownsRow base 71 1 v k xs) (q c : Nat) (A : Option Addr) (un uc : Nat) (hx : a.eval x = .slice (some ⟨q, 0, none⟩) 1 c)
    (hc : w.cell? ⟨q, 0, none⟩ = some (.slice A un uc)) (hk : k ≤ 1000000000) (hb : base ≤ w.heap.size)
    (h : ∀ v' w', w'.ownsRow base 71 1 v' (k + 1) (xs ++ [.slice A un uc]) → w.grownBy w' v.ownBlock → (v'.ownBlock = v.ownBlock ∨ v'.ownBlock = some w.heap.size) → wpList Tryz.prog ops Q rest (a.put o.dst v') w') : wpList Tryz.prog ops Q (o :: rest) a w := by
  obtain ⟨i, hi, hz, hsize, hby⟩ := info_parts infoL
  obtain ⟨v', w', h1, h2, h3, _, h4⟩ := run_append_own_at (P := Tryz.prog) w base 101 o.type 71 i (.slice none 0 0) 1 24 Tryz.underlying101 hi hz hsize hby rfl (by omega) v k xs hr ⟨q, 0, none⟩ 1 c [.slice A un uc] rfl
    (fun j y hy => by
      obtain rfl : j = 0 := by
        rcases j with _ | j
        · rfl
        · simp at hy
      have e : Value.slice A un uc = y := by simpa using hy
      rw [← e]
      exact hc) (fun y hy => by
        have : y = .slice A un uc := by simpa using hy
        rw [this]; rfl) (by simp only [maxLen]; omega) (by omega) hb
  refine wpList_plain hgd fun _ hK => ?_
  unfold Oper.wp execOp
  simp only [ho, resolve, invoke, builtin, Sem.run_bind, Sem.run_pure, Result.andThen_ok, List.map_toArray, List.map_cons, List.map_nil, hs, hx, h1]
  exact hK _ _ (h v' w' h2 h3 h4)

/-- A row of batches of the call's own, each on a row of its own. -/
structure RowsAt (w : World) (base : Nat) (v : Value) (vs : List Value) (Bs : List (List (List Nat))) : Prop where
  row : w.ownsRow base 71 1 v Bs.length vs
  each : ∀ (k : Nat) (u : Value) (B : List (List Nat)), vs[k]? = some u → Bs[k]? = some B → w.ownsRow base 9 1 u B.length (B.map strV)
def rowsFoot (v : Value) (vs : List Value) : List Nat := v.ownBlock.toList ++ vs.flatMap fun u => u.ownBlock.toList
theorem mem_rowsFoot {v : Value} {vs : List Value} {x : Nat} : x ∈ rowsFoot v vs ↔ v.ownBlock = some x ∨ ∃ u ∈ vs, u.ownBlock = some x := by
  simp only [rowsFoot, List.mem_append, Option.mem_toList, List.mem_flatMap]

section
variable {w w' : World} {base : Nat} {v v' u : Value} {vs : List Value} {B : List (List Nat)} {Bs : List (List (List Nat))} {H : List Nat}
theorem RowsAt.len (h : RowsAt w base v vs Bs) : vs.length = Bs.length := by have := h.row.1; omega
theorem RowsAt.nil (w : World) (base : Nat) : RowsAt w base (.slice none 0 0) [] [] := ⟨World.ownsRow_nil _ _ _ _, fun k u B hu => by simp at hu⟩
theorem RowsAt.at_ (h : RowsAt w base v vs Bs) (hu : u ∈ vs) : ∃ (k : Nat) (B : List (List Nat)), vs[k]? = some u ∧ Bs[k]? = some B := by
  obtain ⟨k, hk⟩ := List.mem_iff_getElem?.1 hu
  have hl := (List.getElem?_eq_some_iff.1 hk).1
  rw [h.len] at hl
  exact ⟨k, _, hk, List.getElem?_eq_getElem hl⟩
theorem RowsAt.lt (h : RowsAt w base v vs Bs) : ∀ x ∈ rowsFoot v vs, base ≤ x ∧ x < w.heap.size := by
  intro x hx
  rcases mem_rowsFoot.1 hx with hx | ⟨u, hu, hx⟩
  · exact h.row.lt x hx
  · obtain ⟨k, B, h1, h2⟩ := h.at_ hu
    exact (h.each k u B h1 h2).lt x hx
theorem RowsAt.only (h : RowsAt w base v vs Bs) (k : Only H w w') (hH : ∀ x ∈ rowsFoot v vs, x ∉ H) : RowsAt w' base v vs Bs :=
  ⟨k.row h.row (fun x hx => hH x (mem_rowsFoot.2 (.inl hx))), fun i u B h1 h2 => k.row (h.each i u B h1 h2) (fun x hx => hH x (mem_rowsFoot.2 (.inr ⟨u, List.mem_of_getElem? h1, hx⟩)))⟩
theorem RowsAt.under (h : RowsAt w base v vs Bs) (k : Below w.heap.size w w') : RowsAt w' base v vs Bs := h.only (Only.of_below (F := []) k) (fun _ _ hx => by cases hx)
/-- A batch is appended. -/
theorem RowsAt.push (h : RowsAt w base v vs Bs) (hu : w.ownsRow base 9 1 u B.length (B.map strV)) (hr : w'.ownsRow base 71 1 v' (Bs.length + 1) (vs ++ [u])) (hg : w.grownBy w' v.ownBlock) : RowsAt w' base v' (vs ++ [u]) (Bs ++ [B]) := by
  have ho : Only v.ownBlock.toList w w' := (Only.refl _ w).grown hg (fun k hk => .inl (by simp [hk]))
  refine ⟨by rw [List.length_append]; exact hr, fun k y C h1 h2 => ?_⟩
  have hl := h.len
  rcases Nat.lt_or_ge k Bs.length with hk | hk
  · rw [List.getElem?_append_left (by omega)] at h1 h2
    exact ho.row (h.each k y C h1 h2) (fun x hx hm => rows_ne (h.each k y C h1 h2) h.row (by decide) x hx (by simpa using hm))
  · rw [List.getElem?_append_right (by omega)] at h1 h2
    rw [hl] at h1
    have k0 : k - Bs.length = 0 := by
      rcases Nat.eq_zero_or_pos (k - Bs.length) with h0 | h0
      · exact h0
      · rw [List.getElem?_eq_none (by simp; omega)] at h1; cases h1
    rw [k0] at h1 h2
    have e1 : u = y := by simpa using h1
    have e2 : B = C := by simpa using h2
    subst e1 e2
    exact ho.row hu (fun x hx hm => rows_ne hu h.row (by decide) x hx (by simpa using hm))
theorem rowsFoot_push {x : Nat} (hx : x ∈ rowsFoot v' (vs ++ [u])) (hv : v'.ownBlock = v.ownBlock ∨ v'.ownBlock = some w.heap.size) : x ∈ rowsFoot v vs ∨ u.ownBlock = some x ∨ x = w.heap.size := by
  rcases mem_rowsFoot.1 hx with hx | ⟨y, hy, hx⟩
  · rcases hv with e | e
    · rw [e] at hx
      exact .inl (mem_rowsFoot.2 (.inl hx))
    · rw [e] at hx
      injection hx with hx
      exact .inr (.inr hx.symm)
  · rcases List.mem_append.1 hy with hy | hy
    · exact .inl (mem_rowsFoot.2 (.inr ⟨y, hy, hx⟩))
    · have e : y = u := by simpa using hy
      rw [e] at hx
      exact .inr (.inl hx)
end

/-- A row of texts of the call's own, as a slice of strings. -/
theorem strs_own {w : World} {base n c : Nat} {A : Option Addr} {B : List (List Nat)} (h : w.ownsRow base 9 1 (.slice A n c) B.length (B.map strV)) (hs : ∀ r ∈ B, r.length ≤ 4611686018427387904) (hb : ∀ r ∈ B, ∀ x ∈ r, x < 256) : n = B.length ∧ Strs w A n (B.map strB) ∧ txts (B.map strB) = B := by
  have en : n = B.length := by
    obtain ⟨A', c', e⟩ := own_slice h
    injection e
  subst en
  refine ⟨rfl, ⟨List.length_map _, fun s hs' => ?_, fun h0 => ?_⟩, ?_⟩
  · obtain ⟨r, hr, rfl⟩ := List.mem_map.1 hs'
    rw [strB_size]
    exact hs r hr
  · rcases h.2 with ⟨_, h1⟩ | ⟨g, cap, cur, e, hg, hh, _⟩
    · omega
    · injection e with e1 _ _
      subst e1
      refine ⟨g, 0, rfl, (Array.getElem?_eq_some_iff.1 hh).1, fun i s hi => ?_⟩
      have hil : i < B.length := by
        have := (List.getElem?_eq_some_iff.1 hi).1
        rwa [List.length_map] at this
      rw [Nat.zero_add]
      rw [h.cellAt i (by omega), List.getElem?_map]
      rw [List.getElem?_map] at hi
      obtain ⟨r, hr, rfl⟩ := Option.map_eq_some_iff.1 hi
      rw [hr]
      rfl
  · unfold txts
    rw [List.map_map]
    conv => rhs; rw [← List.map_id B]
    exact List.map_congr_left fun r hr => nums_strB (hb r hr)
end Go.Proofs.YtkajneeihhobhaaGreat

namespace Go.Proofs.YtkajneeihhobhaaGreat
open Go.RowKit Go.Shelf Wal

attribute [local go_sem] Oper.semAt_some

/-- The rows that were read are a call's own blocks, apart from the log. -/
theorem Env.rows {w0 w w1 : World} {G F G' F' G2 F2 : List Nat} {b d : Nat} {s s' : LS} {m m' : Dsk.DM} {v : Value} {vs : List Value} {Bs : List (List (List Nat))} (h : Env w0 G F w b d s m (rowsFoot v vs) G' F') (hr : RowsAt w w0.heap.size v vs Bs)
    (h1 : LD w1 b G2 s' d F2 m') (h2 : Only (G' ++ F') w w1) (h3 : Grown w G' G2) (h4 : Grown w F' F2) : Env w0 G F w1 b d s' m' (rowsFoot v vs) G2 F2 ∧ RowsAt w1 w0.heap.size v vs Bs := by
  have hr1 := hr.only h2 h.far
  refine ⟨⟨h1, h.only.trans h2 (h.gg.append h.gf), h.gg.trans h.only.size h3, h.gf.trans h.only.size h4, fun q hq => Nat.lt_of_lt_of_le (h.lt q hq) h2.size, fun q hq hm => ?_⟩, hr1⟩
  rcases h3.append h4 q hm with h5 | h5
  · exact h.far q hq h5
  · have := h.lt q hq; omega

/-- A row is appended to the rows that were read. -/
theorem Env.pushRow {w0 w w' : World} {G F G' F' : List Nat} {b d : Nat} {s : LS} {m : Dsk.DM} {v v' u : Value} {vs : List Value} {B : List (List Nat)} {Bs : List (List (List Nat))} (h : Env w0 G F w b d s m (rowsFoot v vs) G' F') (hr : RowsAt w w0.heap.size v vs Bs)
    (hu : w.ownsRow w0.heap.size 9 1 u B.length (B.map strV)) (huf : ∀ x, u.ownBlock = some x → x ∉ G' ++ F') (h1 : w'.ownsRow w0.heap.size 71 1 v' (Bs.length + 1) (vs ++ [u])) (h2 : w.grownBy w' v.ownBlock) (h3 : v'.ownBlock = v.ownBlock ∨ v'.ownBlock = some w.heap.size) :
    Env w0 G F w' b d s m (rowsFoot v' (vs ++ [u])) G' F' ∧ RowsAt w' w0.heap.size v' (vs ++ [u]) (Bs ++ [B]) ∧ w'.ownsRow w0.heap.size 9 1 u B.length (B.map strV) := by
  have ho : Only v.ownBlock.toList w w' := (Only.refl _ w).grown h2 (fun k hk => .inl (by simp [hk]))
  have hr' := hr.push hu h1 h2
  have hv : ∀ x ∈ v.ownBlock.toList, x ∉ G' ++ F' ∧ w0.heap.size ≤ x := fun x hx => by
    have hx' : v.ownBlock = some x := by simpa using hx
    exact ⟨h.far x (mem_rowsFoot.2 (.inl hx')), (hr.row.lt x hx').1⟩
  refine ⟨⟨h.ld.only ho (fun x hx hm => (hv x hm).1 (List.mem_append.2 (.inl hx))) (fun x hx hm => (hv x hm).1 (List.mem_append.2 (.inr hx))), h.only.trans ho (fun x hx => .inr (hv x hx).2), h.gg, h.gf, fun q hq => (hr'.lt q hq).2, fun q hq => ?_⟩, hr',
    ho.row hu (fun x hx hm => rows_ne hu hr.row (by decide) x hx (by simpa using hm))⟩
  rcases rowsFoot_push hq h3 with h4 | h4 | h4
  · exact h.far q h4
  · exact huf q h4
  · exact h.ld.far_new (by omega)

set_option maxRecDepth 100000 in
set_option maxHeartbeats 3200000 in
theorem readBatches_any (w : World) (b d : Nat) (s : LS) (G F : List Nat) (m : Dsk.DM) (Bs : List (List (List Nat))) (h : LD w b G s d F m) (hs : s.Ok) (hd : m.dead = false) (hring : ∀ i, sector s i < m.dur.length) (hn : s.needs = [])
    (hlen : s.synced + 1 = s.first + Bs.length) (hsum : (Bs.map need).sum ≤ s.ring) (hB : ∀ k B, Bs[k]? = some B → Lies s (fun i => m.seen.getD i []) ((Bs.take k).map need).sum (s.first + k) B) :
    Calls Tryz.prog 72 #[.pointer (some ⟨b, 0, none⟩)] w fun e w' => ∃ v vs, e = .returned (.tuple #[v, .int .i64 0]) ∧ RowsAt w' w.heap.size v vs Bs ∧ ∃ G' F', Env w G F w' b d { s with needs := Bs.map need } m (rowsFoot v vs) G' F' := by
  have hcount : Bs.length ≤ (Bs.map need).sum := by
    clear hB hsum hlen
    induction Bs with
    | nil => simp
    | cons B r ih =>
      have := need_fits B
      simp only [List.map_cons, List.sum_cons, List.length_cons]
      omega
  have hlen9 : Bs.length ≤ 4096 := by have := hs.ring; omega
  have hN9 : s.first + Bs.length ≤ 2305843009213693952 := by have := hs.first; omega
  have HB := Lib.hid hB
  have HS := Lib.hid hs
  have HG := Lib.hid hring
  have HD := Lib.hid hd
  have H := Lib.hid h
  have HSUM := Lib.hid hsum
  have hlen' : (s.synced : Int) + 1 = ((s.first + Bs.length : Nat) : Int) := by omega
  have HL := Lib.hid hlen'
  have ES : Hid ({ s with needs := (Bs.take 0).map need } = s) := by
    show _ = _
    rw [List.take_zero, List.map_nil, ← hn]
  have HT : Hid (∀ k, ((Bs.take k).map need).sum ≤ s.ring ∧ (Bs.take k).length ≤ 4096) := fun k => by
    have h1 := sum_take_le (Bs.map need) k
    rw [← List.map_take] at h1
    have h2 : (Bs.take k).length ≤ Bs.length := by rw [List.length_take]; omega
    exact ⟨by omega, by omega⟩
  obtain ⟨vn, hlog, _⟩ := h.log
  have c4 := hlog.c4
  clear hB hs hring hd h hsum hn hlen hlen' hcount hlog
  go_enter Tryz.func72, Tryz.ntmps72
  go_wp2_with fail
  go_loopw [4, 5] (fun bv iv wr => ∃ k vs G' F', k ≤ Bs.length ∧ iv = .int .i64 ((s.first + k : Nat) : Int) ∧ Env w G F wr b d { s with needs := (Bs.take k).map need } m (rowsFoot bv vs) G' F' ∧ RowsAt wr w.heap.size bv vs (Bs.take k)) (fun _ iv _ => s.first + Bs.length - (intOf iv).toNat)
  case atStart =>
    refine ⟨0, [], G, F, Nat.zero_le _, rfl, ?_, RowsAt.nil _ _⟩
    rw [ES.out]
    exact Env.start H.out
  case round =>
    obtain ⟨k, vs, G', F', hkB, rfl, he, hrow⟩ := hrel
    have HE := Lib.hid he
    have RW := Lib.hid hrow
    clear he hrow c4
    obtain ⟨N, hN⟩ : ∃ N, N = s.first + k := ⟨_, rfl⟩
    have EN := Lib.hid hN
    rw [← hN]
    have hNN : (N : Int) ≤ 2305843009213693952 := by omega
    obtain ⟨sk, hsk⟩ : ∃ sk : LS, sk = { s with needs := (Bs.take k).map need } := ⟨_, rfl⟩
    have ESK := Lib.hid hsk
    rw [← hsk] at HE
    have SOK : Hid sk.Ok := by
      rw [hsk]
      exact ⟨HS.out.frm, HS.out.ring, HS.out.ring0, HS.out.start, HS.out.first, HS.out.first1, (HT.out k).1, by show ((Bs.take k).map need).length ≤ 4096; rw [List.length_map]; exact (HT.out k).2⟩
    obtain ⟨vn, hlog, _⟩ := HE.out.ld.log
    have c5 : wr.cell? ⟨b, 5, none⟩ = some (.int .i64 (s.synced : Int)) := by have := hlog.c5; rw [hsk] at this; exact this
    clear hlog hsk hN
    by_cases hlt : k < Bs.length
    · have hle : (N : Int) ≤ (s.synced : Int) := by have := HL.out; have := EN.out; omega
      obtain ⟨B, hBk⟩ : ∃ B, Bs[k]? = some B := ⟨_, List.getElem?_eq_getElem hlt⟩
      have LB := Lib.hid (HB.out k B hBk)
      have ET : Hid (Bs.take (k + 1) = Bs.take k ++ [B]) := by show _ = _; rw [List.take_add_one, hBk]; rfl
      have hpl : sk.needs.sum = ((Bs.take k).map need).sum := by rw [ESK.out]
      have LK : Lies sk (fun i => m.seen.getD i []) sk.needs.sum N B := by
        rw [hpl, EN.out, ESK.out]
        exact ⟨LB.out.fits, LB.out.good, LB.out.bytes, LB.out.at_⟩
      have NF := need_fits B
      have C1 := Lib.hid (readBatch_any wr b d sk G' F' m N B HE.out.ld SOK.out HD.out (fun i => by rw [ESK.out]; exact HG.out i) (by have := LK.fits; omega) LB.out.good LB.out.bytes (by omega) LK.batch)
      have KF : Hid (sk.needs.sum + need B ≤ sk.ring) := LK.fits
      clear hBk hpl LK NF
      go_wp2_with fail
      refine C1.out.mono ?_
      rintro e w1 ⟨u, rfl, hu, hk1⟩
      obtain ⟨UA, UC, rfl⟩ := own_slice hu
      have hU := Lib.hid hu
      obtain ⟨e1, r1⟩ := HE.out.rows RW.out hk1.1 (hk1.2.mono (fun x hx => .inl (by
        obtain rfl : x = b := by simpa using hx
        exact List.mem_append.2 (.inl HE.out.ld.mem)))) (Grown.refl _ _) (Grown.refl _ _)
      have E1 := Lib.hid e1
      have R1 := Lib.hid r1
      have UF : Hid (∀ x, (Value.slice UA B.length UC).ownBlock = some x → wr.heap.size ≤ x ∧ x < w1.heap.size ∧ x ∉ G' ++ F') := fun x hx => ⟨(hu.lt x hx).1, (hu.lt x hx).2, HE.out.ld.far_new (hu.lt x hx).1⟩
      have WL : Hid (w.heap.size ≤ wr.heap.size ∧ wr.heap.size ≤ w1.heap.size) := ⟨HE.out.only.size, hk1.2.size⟩
      clear hu hk1 e1 r1 C1 HE c5
      have BA : Hid (Below w1.heap.size w1 (w1.alloc (.cells #[.slice UA B.length UC] 71))) := (Below.refl _ _).alloc (Nat.le_refl _) _
      have EA := Lib.hid (E1.out.under BA.out)
      have RA := Lib.hid (R1.out.under BA.out)
      have UA2 : Hid ((w1.alloc (.cells #[.slice UA B.length UC] 71)).ownsRow w.heap.size 9 1 (.slice UA B.length UC) B.length (B.map strV)) := by
        have h1 := (Only.of_below (F := []) BA.out).row hU.out (fun _ _ hx => by cases hx)
        refine ⟨h1.1, ?_⟩
        rcases h1.2 with h2 | ⟨g, cap, cur, h2, h3, h4⟩
        · exact .inl h2
        · exact .inr ⟨g, cap, cur, h2, Nat.le_trans WL.out.1 h3, h4⟩
      have QA : Hid ((w1.alloc (.cells #[.slice UA B.length UC] 71)).cell? ⟨w1.heap.size, 0, none⟩ = some (.slice UA B.length UC)) := (Held.new w1 71 #[.slice UA B.length UC] rfl).cell 0
      have LA : Hid (w.heap.size ≤ (w1.alloc (.cells #[.slice UA B.length UC] 71)).heap.size) := by show _ ≤ _; rw [World.size_alloc]; have := WL.out; omega
      have hkk : (Bs.take k).length ≤ 1000000000 := by have := (HT.out k).2; omega
      go_upto_region 9 with (refine wpList_append_batch rfl (o := ⟨some 34, _, _, _, _, _⟩) (.tmp 31) (.tmp 33) w.heap.size rfl u4 _ vs rfl RA.out.row w1.heap.size 1 UA B.length UC rfl QA.out hkk LA.out ?_; intro v6 w6 r1 r2 r3)
      obtain ⟨e6, p6, q6⟩ := EA.out.pushRow RA.out UA2.out (fun x hx => (UF.out x hx).2.2) r1 r2 r3
      rw [← ET.out] at p6
      have E6 := Lib.hid e6
      have P6 := Lib.hid p6
      clear r1 r2 r3 e6 p6 EA RA UA2 QA LA BA E1 R1 hU UF WL
      have hgr : (∀ r ∈ B, r.length ≤ 4611686018427387904) ∧ need B ≤ 1209 := by
        have h1 := LB.out.good
        refine ⟨fun r hr => ?_, need_of_good h1⟩
        unfold Wal.good at h1
        simp only [Bool.and_eq_true, decide_eq_true_eq, List.all_eq_true] at h1
        have := h1.1.1 r hr
        omega
      have hk9 : B.length ≤ 1024 := by
        have h1 := LB.out.good
        unfold Wal.good at h1
        simp only [Bool.and_eq_true, decide_eq_true_eq, List.all_eq_true] at h1
        exact h1.2
      obtain ⟨_, st6, tx6⟩ := strs_own q6 hgr.1 LB.out.bytes
      have hbl : bodyLen (txts (B.map strB)) ≤ 4611686018427387904 := by
        rw [tx6]
        have := need_fits B
        have := hgr.2
        omega
      have NC := Lib.hid (need_any w6.drew UA B.length UC (B.map strB) (by omega) (st6.drewN 1) hbl)
      rw [tx6] at NC
      obtain ⟨K, hK⟩ : ∃ K, K = need B := ⟨_, rfl⟩
      have EK := Lib.hid hK
      have hK9 : (K : Int) ≤ 1209 := by have := hgr.2; omega
      rw [← hK] at NC
      clear hgr st6 tx6 q6 hbl hK
      obtain ⟨vn, hlog, _⟩ := E6.out.ld.log
      have c6 := hlog.c6
      have BD : Hid (Below w6.heap.size w6 (w6.drew.alloc (.cells #[.int .i64 (K : Int)] 3))) := (Below.refl _ _).drew.alloc (Nat.le_refl _) _
      have k6 : w6.drew.cell? ⟨b, 6, none⟩ = some vn := c6
      have k6a : (w6.drew.alloc (.cells #[.int .i64 (K : Int)] 3)).cell? ⟨b, 6, none⟩ = some vn := (BD.out.cell (p := ⟨b, 6, none⟩) hlog.lt).trans c6
      have k6b : (w6.alloc (.cells #[.int .i64 (K : Int)] 3)).cell? ⟨b, 6, none⟩ = some vn := k6a
      have RA : Hid (SRow (w6.drew.alloc (.cells #[.int .i64 (K : Int)] 3)) 3 1 vn sk.needs.length (needsV sk.needs)) := hlog.row.only (Only.of_below (F := []) BD.out) (fun _ _ hx => by cases hx)
      have KA : Hid ((w6.drew.alloc (.cells #[.int .i64 (K : Int)] 3)).cell? ⟨w6.heap.size, 0, none⟩ = some (.int .i64 (K : Int))) := (Held.new w6.drew 3 #[.int .i64 (K : Int)] rfl).cell 0
      have hcnt : sk.needs.length ≤ 4000000000 := by have := SOK.out.count; omega
      have F6 : Hid (∀ w3, (w6.drew.alloc (.cells #[.int .i64 (K : Int)] 3)).grownBy w3 vn.ownBlock → w3.frozen? ⟨b, 6, none⟩ = false ∧ w3.cell? ⟨b, 6, none⟩ = some vn) := fun w3 hg => by
        have ho : Only vn.ownBlock.toList (w6.drew.alloc (.cells #[.int .i64 (K : Int)] 3)) w3 := (Only.refl _ _).grown hg (fun k hk => .inl (by simp [hk]))
        have nb : b ∉ vn.ownBlock.toList := fun hm => hlog.far b (by simpa using hm) rfl
        have lb : b < (w6.drew.alloc (.cells #[.int .i64 (K : Int)] 3)).heap.size := Nat.lt_of_lt_of_le hlog.lt BD.out.size
        exact ⟨(ho.frozen (p := ⟨b, 6, none⟩) lb nb).trans ((BD.out.frozen (p := ⟨b, 6, none⟩) hlog.lt).trans (hlog.tab.fr 6)), (ho.cell (p := ⟨b, 6, none⟩) lb nb).trans k6a⟩
      clear hlog c6
      refine wp_region_noPanic ?_
      go_region_law (first
        | (refine step_append_need rfl (.tmp 39) (.tmp 42) rfl vn sk.needs ?q3 RA.out w6.heap.size 1 K ?q5 KA.out hcnt ?_; (case q3 => simp [Act.eval]); (case q5 => simp [Act.eval]); intro v' w3 hrow hgrow hblk; have g2 := (F6.out w3 hgrow).1; have g3 := (F6.out w3 hgrow).2; have hrow2 := Lib.hid hrow; have hgrow2 := Lib.hid hgrow; have hblk2 := Lib.hid hblk; obtain ⟨A', c', rfl⟩ := hrow.form; clear hrow hgrow hblk)
        | (go_simp; refine NC.out.mono ?_; rintro e w' ⟨rfl, rfl⟩; dsimp only))
      all_goals
        have T := LD.pushed (E6.out.under BD.out).ld k6a hrow2.out hgrow2.out hblk2.out
        rw [List.length_append] at T
        obtain ⟨G7, F7, t1, t2, t3, t4⟩ := T
        obtain ⟨e7, p7⟩ := (E6.out.under BD.out).rows (P6.out.under BD.out) t1 t2 t3 t4
        have E7 := Lib.hid e7
        have P7 := Lib.hid p7
        clear g2 g3 hrow2 hgrow2 hblk2 t1 t2 t3 t4 e7 p7 F6 RA KA k6 k6a k6b
        refine NoPanic.normal ?_
        go_wp2_with fail
        go_roundw
        case rel =>
          refine ⟨k + 1, vs ++ [.slice UA B.length UC], G7, F7, by omega, ?_, ?_, ?_⟩
          · have := EN.out
            congr 1
            omega
          · have e : ({ s with needs := (Bs.take (k + 1)).map need } : LS) = { sk with needs := sk.needs ++ [K] } := by
              rw [ESK.out, ET.out, EK.out, List.map_append]
              rfl
            rw [e]
            exact E7.out
          · exact P7.out
        case measure =>
          have := EN.out
          simp [intOf]
          omega
    · obtain rfl : k = Bs.length := by omega
      have hgt : (s.synced : Int) < (N : Int) := by have := HL.out; have := EN.out; omega
      have EE : Hid (sk = { s with needs := Bs.map need }) := by
        have := ESK.out
        rw [List.take_length] at this
        exact this
      rw [List.take_length] at RW
      obtain ⟨A9, c9, rfl⟩ := own_slice RW.out.row
      go_wp2_with fail
      go_ret2
      rw [← EE.out]
      exact ⟨_, vs, rfl, RW.out, G', F', HE.out⟩
end Go.Proofs.YtkajneeihhobhaaGreat
