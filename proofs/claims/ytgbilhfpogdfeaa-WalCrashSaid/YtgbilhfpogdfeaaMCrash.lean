/-
  WalCrash: the log's model beside what a crash may leave; how much a call writes at most. · WalCrash: one life played on a log, up to its crash. · WalCrash: one life played on a log, up to its crash: the walk. · Slices of lives, opened.
-/
import Derived.Test.YtgbilhfpogdfeaaMPlay
namespace Go.Proofs.Ytgbilhfpogdfeaa
open Go.RowKit Wal

/-- What a crash may leave: as many are trimmed as before or T, as many synced as before or A. -/
def Left (m : Dsk.DM) (R : Nat) (Bs : List (List (List Nat))) (F T S A : Nat) : Prop :=
  (F ≤ Bs.length ∧ T ≤ Bs.length ∧ S ≤ Bs.length ∧ A ≤ Bs.length) ∧ ∀ kp, ∃ st f y, (f = F ∨ f = T) ∧ (y = S ∨ y = A) ∧ f ≤ y ∧ y ≤ Bs.length ∧ Wal.Found 1 (R - 1) (holds (Dsk.crashD m.wait kp m.dur)) st (f + 1) y ((Bs.take y).drop f)
/-- The log as it stands, all batches Bs, F trimmed, S synced. -/
structure CS (s : LS) (m : Dsk.DM) (R : Nat) (Bs : List (List (List Nat))) (F S : Nat) : Prop where
  inv : Wal.Inv s m (Bs.drop F)
  frm : s.frm = 1
  ring : s.ring = R - 1
  first : s.first = F + 1
  synced : s.synced = S
  ts : F ≤ S ∧ S ≤ Bs.length
/-- The same, and what a crash may leave, where the disk may be dead; k calls were done. -/
structure CL (s : LS) (m : Dsk.DM) (R k : Nat) (Bs : List (List (List Nat))) (F T S A : Nat) : Prop where
  size : m.dur.length = R + 1
  wait : m.wait.length ≤ 1209 * k
  left : Left m R Bs F T S A
  up : m.dead = false → T = F ∧ A = S ∧ CS s m R Bs F S
section
variable {s : LS} {m : Dsk.DM} {R k F T S A : Nat} {Bs : List (List (List Nat))}
theorem CS.old (h : CS s m R Bs F S) {V : Nat → List Nat} (hf : Wal.Found s.frm s.ring V s.start s.first s.synced ((Bs.drop F).take (s.synced + 1 - s.first))) : Wal.Found 1 (R - 1) V s.start (F + 1) S ((Bs.take S).drop F) := by
  have e : (Bs.drop F).take (S + 1 - (F + 1)) = (Bs.take S).drop F := by
    rw [List.drop_take]
    congr 1
    omega
  rwa [h.frm, h.ring, h.first, h.synced, e] at hf
theorem CS.left (h : CS s m R Bs F S) : Left m R Bs F F S S := by
  have := h.ts
  exact ⟨⟨by omega, by omega, by omega, by omega⟩, fun kp => ⟨s.start, F, S, .inl rfl, .inl rfl, h.ts.1, h.ts.2, h.old (h.inv.safe kp)⟩⟩
theorem CS.last (h : CS s m R Bs F S) : s.last = (Bs.length : Int) := by
  rw [h.inv.last, h.first, List.length_drop]
  have := h.ts
  omega
theorem CS.append (h : CS s m R Bs F S) (hz : m.dur.length = R + 1) (hw : m.wait.length ≤ 1209 * k) (hf : -1 ≤ m.fuel) {b : List (List Nat)} (hb : ∀ r ∈ b, ∀ x ∈ r, x < 256) :
    ∃ z1 z2 s' m', appendO s m b = (z1, z2, s', m') ∧ ((z2 = 0 ∧ z1 = (Bs.length : Int) + 1 ∧ m'.dead = false) ∨ ((z2 = 1 ∨ z2 = 12) ∧ m'.dead = false) ∨ (z2 = 10 ∧ m'.dead = true)) ∧ CL s' m' R (k + 1) (if z2 = 0 then Bs ++ [b] else Bs) F F S S := by
  have hts := h.ts
  have same : ∀ z : Int, z ≠ 0 → CL s m R (k + 1) (if z = 0 then Bs ++ [b] else Bs) F F S S := fun z hz0 => by
    rw [if_neg hz0]
    exact ⟨hz, by omega, h.left, fun _ => ⟨rfl, rfl, h⟩⟩
  by_cases hg : Wal.good b = true
  · by_cases hr : s.room < (need b : Int)
    · exact ⟨0, 12, s, m, h.inv.append_full hg hr, .inr (.inl ⟨.inr rfl, h.inv.alive⟩), same 12 (by decide)⟩
    · have hn := need_of_good hg
      rcases h.inv.append hg hb (by omega) hf with ⟨m', e, i', d', f', w', _⟩ | ⟨m', e, hd, _, _, d', hl⟩
      · have hC : CS { s with needs := s.needs ++ [need b] } m' R (Bs ++ [b]) F S := by
          refine ⟨?_, h.frm, h.ring, h.first, h.synced, by rw [List.length_append]; omega⟩
          rw [List.drop_append_of_le_length (by omega)]
          exact i'
        refine ⟨_, 0, _, m', e, .inl ⟨rfl, by rw [h.last], i'.alive⟩, ?_⟩
        rw [if_pos rfl]
        exact ⟨by rw [d']; exact hz, by omega, hC.left, fun _ => ⟨rfl, rfl, hC⟩⟩
      · have hw2 := appendO_wait s m b
        rw [e] at hw2
        refine ⟨0, 10, _, m', e, .inr (.inr ⟨rfl, hd⟩), ?_⟩
        rw [if_neg (by decide)]
        exact ⟨by rw [d']; exact hz, by have h9 : m'.wait.length ≤ m.wait.length + need b := hw2; omega, ⟨⟨by omega, by omega, by omega, by omega⟩, fun kp => ⟨s.start, F, S, .inl rfl, .inl rfl, hts.1, hts.2, h.old (hl kp)⟩⟩, fun h0 => by rw [hd] at h0; cases h0⟩
  · exact ⟨0, 1, s, m, h.inv.append_bad (by simpa using hg), .inr (.inl ⟨.inl rfl, h.inv.alive⟩), same 1 (by decide)⟩
theorem CS.sync (h : CS s m R Bs F S) (hz : m.dur.length = R + 1) (hw : m.wait.length ≤ 1209 * k) :
    ∃ z s' m', syncO s m = (z, s', m') ∧ ((z = 0 ∧ m'.dead = false) ∨ (z = 10 ∧ m'.dead = true)) ∧ CL s' m' R (k + 1) Bs F F (if z = 0 then Bs.length else S) Bs.length := by
  have hts := h.ts
  have hlast : s.first + (Bs.drop F).length - 1 = Bs.length := by
    rw [h.first, List.length_drop]
    omega
  rcases h.inv.sync with ⟨m', e, i', w', d', f', _⟩ | ⟨m', e, hd, _, _, d', hl⟩
  · rw [hlast] at e i'
    have hC : CS { s with synced := Bs.length } m' R Bs F Bs.length := ⟨i', h.frm, h.ring, h.first, rfl, by omega, Nat.le_refl _⟩
    refine ⟨0, _, m', e, .inl ⟨rfl, i'.alive⟩, ?_⟩
    rw [if_pos rfl]
    exact ⟨by rw [d']; exact hz, by omega, hC.left, fun _ => ⟨rfl, rfl, hC⟩⟩
  · have hw2 := syncO_wait s m
    rw [e] at hw2
    refine ⟨10, _, m', e, .inr ⟨rfl, hd⟩, ?_⟩
    rw [if_neg (by decide)]
    refine ⟨by rw [d']; exact hz, by have h9 : m'.wait.length ≤ m.wait.length + 1 := hw2; omega, ⟨⟨by omega, by omega, by omega, by omega⟩, fun kp => ?_⟩, fun h0 => by rw [hd] at h0; cases h0⟩
    rcases hl kp with h1 | h1
    · exact ⟨s.start, F, S, .inl rfl, .inl rfl, hts.1, hts.2, h.old h1⟩
    · rw [hlast, h.frm, h.ring, h.first] at h1
      refine ⟨s.start, F, Bs.length, .inl rfl, .inr rfl, by omega, Nat.le_refl _, ?_⟩
      rw [List.take_length]
      exact h1
theorem CS.trim (h : CS s m R Bs F S) (hz : m.dur.length = R + 1) (hw : m.wait.length ≤ 1209 * k) (hS : S ≤ 1152921504606846975) (u : Int) :
    ∃ z s' m', trimO s m u = (z, s', m') ∧ ((z = 1 ∧ m'.dead = false) ∨ (z = 0 ∧ 0 ≤ u ∧ u ≤ S ∧ m'.dead = false) ∨ (z = 10 ∧ 0 ≤ u ∧ u ≤ S ∧ m'.dead = true)) ∧ CL s' m' R (k + 1) Bs (if z = 0 then max F u.toNat else F) (if z = 1 then F else max F u.toNat) S S := by
  have hts := h.ts
  by_cases hb : u < 0 ∨ (s.synced : Int) < u
  · exact ⟨1, s, m, h.inv.trim_bad hb, .inl ⟨rfl, h.inv.alive⟩, by
      rw [if_neg (by decide), if_pos rfl]
      exact ⟨hz, by omega, h.left, fun _ => ⟨rfl, rfl, h⟩⟩⟩
  · have hsy := h.synced
    have hb1 : 0 ≤ u ∧ u ≤ (S : Int) := by omega
    by_cases hu : u < (s.first : Int)
    · have e : max F u.toNat = F := by rw [h.first] at hu; omega
      refine ⟨0, s, m, h.inv.trim_none hb1.1 hu (by omega), .inr (.inl ⟨rfl, hb1.1, hb1.2, h.inv.alive⟩), ?_⟩
      rw [if_pos rfl, if_neg (by decide), e]
      exact ⟨hz, by omega, h.left, fun _ => ⟨rfl, rfl, h⟩⟩
    · obtain ⟨j, hj⟩ : ∃ j : Nat, u = (s.first : Int) + j - 1 ∧ 1 ≤ j := ⟨(u - s.first + 1).toNat, by omega, by omega⟩
      have hjT : max F u.toNat = F + j := by rw [h.first] at hj; omega
      have hfi := h.first
      have hw2 := trimO_wait s m u
      rcases h.inv.trim (k := j) hj.2 (by rw [h.synced]; omega) (by omega) with ⟨m', s', e, es, i', w', d', f'⟩ | ⟨m', e, hd, _, d', hl⟩
      · rw [← hj.1] at e
        have hC : CS s' m' R Bs (F + j) S := by
          refine ⟨?_, by rw [es]; exact h.frm, by rw [es]; exact h.ring, by rw [es]; show s.first + j = F + j + 1; omega, by rw [es]; exact h.synced, by omega, hts.2⟩
          rw [List.drop_drop] at i'
          exact i'
        refine ⟨0, s', m', e, .inr (.inl ⟨rfl, hb1.1, hb1.2, i'.alive⟩), ?_⟩
        rw [if_pos rfl, if_neg (by decide), hjT]
        exact ⟨by rw [d']; exact hz, by rw [w']; exact Nat.zero_le _, hC.left, fun _ => ⟨rfl, rfl, hC⟩⟩
      · rw [← hj.1] at e
        rw [e] at hw2
        refine ⟨10, _, m', e, .inr (.inr ⟨rfl, hb1.1, hb1.2, hd⟩), ?_⟩
        rw [if_neg (by decide), if_neg (by decide), hjT]
        refine ⟨by rw [d']; exact hz, by have h9 : m'.wait.length ≤ m.wait.length + 1 := hw2; omega, ⟨⟨by omega, by omega, by omega, by omega⟩, fun kp => ?_⟩, fun h0 => by rw [hd] at h0; cases h0⟩
        rcases hl kp with h1 | h1
        · exact ⟨s.start, F, S, .inl rfl, .inl rfl, hts.1, hts.2, h.old h1⟩
        · have e2 : ((Bs.drop F).take (S + 1 - (F + 1))).drop j = (Bs.take S).drop (F + j) := by
            rw [← List.drop_drop]
            congr 1
            rw [List.drop_take]
            congr 1
            omega
          have e3 : s.first + j = F + j + 1 := by omega
          rw [h.frm, h.ring, e3, h.synced, h.first, e2] at h1
          exact ⟨_, F + j, S, .inr rfl, .inl rfl, by omega, hts.2, h1⟩
/-- A crash, and the log opened behind it. -/
theorem CS.opened {m : Dsk.DM} {st f y : Nat} {kp : List Bool} (hR : R + 1 ≤ 4096) (hR1 : 2 ≤ R) (hz : m.dur.length = R + 1) (hf : f ≤ y) (hy : y ≤ Bs.length) (hB : Bs.length ≤ 1000000) (h : Wal.Found 1 (R - 1) (holds (Dsk.crashD m.wait kp m.dur)) st (f + 1) y ((Bs.take y).drop f)) :
    CS (openS 1 (R - 1) st (f + 1) y ((Bs.take y).drop f)) (m.crash kp) R (Bs.take y) f y := by
  have hl : (m.crash kp).dur.length = R + 1 := by
    show (Dsk.crashD m.wait kp m.dur).length = _
    rw [Dsk.crashD_length]
    exact hz
  exact ⟨inv_open (by rw [hl]; exact hR) rfl (by rw [hl]; omega) (by omega) (crash_found kp h), rfl, rfl, rfl, rfl, hf, by rw [List.length_take]; omega⟩
end
end Go.Proofs.Ytgbilhfpogdfeaa

namespace Go.Proofs.Ytgbilhfpogdfeaa
open Go.ChangeShapes Go.WideShapes Go.ChangeAt Go.RowKit Go.Joins Go.Deep Wal

/-- A life, read. -/
structure WLife where
  A : Option Addr
  N : Nat
  c : Nat
  ops : List WOp
  fuel : Nat
  kA : Option Addr
  kn : Nat
  kc : Nat
  keep : List Bool
def WLife.cells (x : WLife) : Array Value := #[.slice x.A x.N x.c, .int .u8 (x.fuel : Int), .slice x.kA x.kn x.kc]
structure WLifeGood (W : World) (x : WLife) : Prop where
  ops : WOps W x.A x.N x.ops
  n : x.N ≤ 3518437208884
  f : x.fuel < 256
  keep : Bls W x.kA x.kn x.keep
  kn : x.kn ≤ 9223372036854775807
  lt : 0 < x.kn → ∀ a, x.kA = some a → a.block < W.heap.size

/-- What lies in memory while a life is played: the log, its disk, the life, the bounds, the named result, the list of all batches. -/
structure Mv (w0 w : World) (x : WLife) (pl pb pr po : Nat) (co : Array Value) (b : Nat) (G : List Nat) (s : LS) (d : Nat) (F : List Nat) (m : Dsk.DM) (v : Value) (vs : List Value) (Ls : List (List ByteArray)) (cs : Array Value) : Prop where
  lives : LLives w0 w b G s d F m
  lx : Held w pl 38 x.cells
  bd : Held w pb 33 cs
  rs : Held w pr 33 #[.int .i64 0, .int .i64 0, .int .i64 0, .int .i64 0]
  out : Held w po 33 co
  list : ListAt w0 w v vs Ls
  new : w0.heap.size ≤ pl ∧ w0.heap.size ≤ pb ∧ w0.heap.size ≤ pr
  far : ∀ y, (y = pl ∨ y = pb ∨ y = pr ∨ y = po ∨ v.ownBlock = some y) → y ∉ G ++ F
  ne : pb ≠ pr ∧ pb ≠ po ∧ pr ≠ po
section
variable {w0 w w' : World} {x : WLife} {pl pb pr po b d : Nat} {co : Array Value} {G G' F F' H : List Nat} {s s' : LS} {m m' : Dsk.DM} {v : Value} {vs : List Value} {Ls : List (List ByteArray)} {cs : Array Value}
theorem Mv.lt (h : Mv w0 w x pl pb pr po co b G s d F m v vs Ls cs) : ∀ y, (y = pl ∨ y = pb ∨ y = pr ∨ y = po ∨ v.ownBlock = some y) → y < w.heap.size := fun y hy => by
  rcases hy with rfl | rfl | rfl | rfl | hy
  · exact h.lx.lt
  · exact h.bd.lt
  · exact h.rs.lt
  · exact h.out.lt
  · exact (h.list.row.lt y hy).2
theorem Mv.moved (h : Mv w0 w x pl pb pr po co b G s d F m v vs Ls cs) (hL : LLives w0 w' b G' s' d F' m') (k : Only H w w') (hH : ∀ y, (y = pl ∨ y = pb ∨ y = pr ∨ y = po ∨ v.ownBlock = some y) → y ∉ H) (hF : ∀ y ∈ G' ++ F', y ∈ G ++ F ∨ w.heap.size ≤ y) : Mv w0 w' x pl pb pr po co b G' s' d F' m' v vs Ls cs :=
  ⟨hL, h.lx.only k (hH _ (.inl rfl)), h.bd.only k (hH _ (.inr (.inl rfl))), h.rs.only k (hH _ (.inr (.inr (.inl rfl)))), h.out.only k (hH _ (.inr (.inr (.inr (.inl rfl))))), h.list.only k (fun y hy => hH y (.inr (.inr (.inr (.inr hy))))), h.new, fun y hy hm => by
    rcases hF y hm with h1 | h1
    · exact h.far y hy h1
    · have := h.lt y hy; omega, h.ne⟩
theorem Mv.logged (h : Mv w0 w x pl pb pr po co b G s d F m v vs Ls cs) (t : LTurned w b G d F w' s' m') : ∃ G' F', Mv w0 w' x pl pb pr po co b G' s' d F' m' v vs Ls cs := by
  obtain ⟨G', F', hL, hO, hG⟩ := h.lives.turned t
  exact ⟨G', F', h.moved hL hO h.far hG⟩
theorem Mv.under (h : Mv w0 w x pl pb pr po co b G s d F m v vs Ls cs) (k : Below w.heap.size w w') : Mv w0 w' x pl pb pr po co b G s d F m v vs Ls cs :=
  h.moved (h.lives.under k) (Only.of_below (F := []) k) (fun _ _ hx => by cases hx) (fun _ hy => .inl hy)
theorem Mv.fuelled (h : Mv w0 w x pl pb pr po co b G s d F m v vs Ls cs) (t : Turned w d F w' m') : ∃ F', Mv w0 w' x pl pb pr po co b G s d F' m' v vs Ls cs := by
  obtain ⟨F', hL, hO, hN⟩ := h.lives.ld.turned t
  have hF : ∀ y ∈ G ++ F', y ∈ G ++ F ∨ w.heap.size ≤ y := fun y hy => by
    rcases List.mem_append.1 hy with h1 | h1
    · exact .inl (List.mem_append.2 (.inl h1))
    · rcases hN y h1 with h2 | h2
      · exact .inl (List.mem_append.2 (.inr h2))
      · exact .inr h2
  refine ⟨F', h.moved ⟨hL, h.lives.below.trans (hO.below h.lives.below.size h.lives.new), fun y hy => ?_⟩ hO h.far hF⟩
  rcases hF y hy with h1 | h1
  · exact h.lives.new y h1
  · exact Nat.le_trans h.lives.below.size h1
theorem Mv.store (h : Mv w0 w x pl pb pr po co b G s d F m v vs Ls cs) (i : Nat) (u : Value) : Mv w0 (w.setCell ⟨pb, i, none⟩ u) x pl pb pr po co b G s d F m v vs Ls (cs.setIfInBounds i u) := by
  have ho : Only [pb] w (w.setCell ⟨pb, i, none⟩ u) := (Only.refl _ w).setCell (.inl (by simp)) _
  have n1 : pl ∉ [pb] := by
    have := h.lx.ne_ h.bd (by decide)
    simpa using this
  have n2 : pr ∉ [pb] := by
    have := h.ne.1.symm
    simpa using this
  have n3 : po ∉ [pb] := by
    have := h.ne.2.1.symm
    simpa using this
  refine ⟨h.lives.own ho (fun y hy => ?_), h.lx.only ho n1, h.bd.set_ i u, h.rs.only ho n2, h.out.only ho n3, h.list.only ho (fun y hy hm => ?_), h.new, h.far, h.ne⟩
  · obtain rfl : y = pb := by simpa using hy
    exact ⟨h.new.2.1, h.far _ (.inr (.inl rfl))⟩
  · obtain rfl : y = pb := by simpa using hm
    exact h.bd.ne_row h.list.row (by decide) y hy rfl
theorem Mv.push (h : Mv w0 w x pl pb pr po co b G s d F m v vs Ls cs) {v' : Value} {A : Option Addr} {c : Nat} {l : List ByteArray} (hl : Strs w0 A l.length l) (r1 : w'.ownsRow w0.heap.size 57 1 v' (Ls.length + 1) (vs ++ [.slice A l.length c])) (r2 : w.grownBy w' v.ownBlock) (r3 : v'.ownBlock = v.ownBlock ∨ v'.ownBlock = some w.heap.size) :
    Mv w0 w' x pl pb pr po co b G s d F m v' (vs ++ [.slice A l.length c]) (Ls ++ [l]) cs := by
  have ho : Only v.ownBlock.toList w w' := (Only.refl _ _).grown r2 (fun k hk => .inl (by simp [hk]))
  have hne : ∀ y, (y = pl ∨ y = pb ∨ y = pr ∨ y = po) → y ∉ v.ownBlock.toList := fun y hy hm => by
    have hm' : v.ownBlock = some y := by simpa using hm
    rcases hy with rfl | rfl | rfl | rfl
    · exact h.lx.ne_row h.list.row (by decide) y hm' rfl
    · exact h.bd.ne_row h.list.row (by decide) y hm' rfl
    · exact h.rs.ne_row h.list.row (by decide) y hm' rfl
    · exact h.out.ne_row h.list.row (by decide) y hm' rfl
  refine ⟨h.lives.own ho (fun y hy => ?_), h.lx.only ho (hne _ (.inl rfl)), h.bd.only ho (hne _ (.inr (.inl rfl))), h.rs.only ho (hne _ (.inr (.inr (.inl rfl)))), h.out.only ho (hne _ (.inr (.inr (.inr rfl)))), h.list.push hl r1, h.new, fun y hy => ?_, h.ne⟩
  · have hy' : v.ownBlock = some y := by simpa using hy
    exact ⟨(h.list.row.lt y hy').1, h.far y (.inr (.inr (.inr (.inr hy'))))⟩
  · rcases hy with hy | hy | hy | hy | hy
    · exact h.far y (.inl hy)
    · exact h.far y (.inr (.inl hy))
    · exact h.far y (.inr (.inr (.inl hy)))
    · exact h.far y (.inr (.inr (.inr (.inl hy))))
    · rcases r3 with h1 | h1
      · exact h.far y (.inr (.inr (.inr (.inr (h1 ▸ hy)))))
      · rw [h1] at hy
        injection hy with hy
        rw [← hy]
        exact h.lives.far (Nat.le_refl _)
end
end Go.Proofs.Ytgbilhfpogdfeaa

namespace Go.Proofs.Ytgbilhfpogdfeaa
open Go.ChangeShapes Go.WideShapes Go.ChangeAt Go.RowKit Go.Joins Go.Deep Wal

theorem Wal.Inv.setFuel {s : LS} {m : Dsk.DM} {Bs : List (List (List Nat))} (h : Wal.Inv s m Bs) (f : Int) : Wal.Inv s (m.setFuel f) Bs := ⟨h.ok, h.up, h.alive, h.size, h.needs, h.syn1, h.syn2, h.live, h.safe⟩
theorem CS.setFuel {s : LS} {m : Dsk.DM} {R F S : Nat} {Bs : List (List (List Nat))} (h : CS s m R Bs F S) (f : Int) : CS s (m.setFuel f) R Bs F S := ⟨h.inv.setFuel f, h.frm, h.ring, h.first, h.synced, h.ts⟩
/-- The bounds' cells. -/
def bnd (f T y A : Nat) : Array Value := #[.int .i64 (f : Int), .int .i64 (T : Int), .int .i64 (y : Int), .int .i64 (A : Int)]
/-- What a life leaves. -/
def Ended (w0 : World) (x : WLife) (R d n po : Nat) (co : Array Value) (e : Ending) (w' : World) : Prop := ∃ v vs Ls f T y A m F,
  e = .returned (.tuple #[v, .agg (bnd f T y A), .bool true]) ∧ Lives w0 w' d F (m.crash x.keep) ∧ m.dur.length = R + 1 ∧ Left m R (Ls.map txts) f T y A ∧ ListAt w0 w' v vs Ls ∧ (∀ y, v.ownBlock = some y → y ∉ F) ∧ Ls.length ≤ n + 60 ∧ Held w' po 33 co ∧ po ∉ F

set_option maxRecDepth 100000 in
set_option maxHeartbeats 6400000 in
theorem live_any (w0 w : World) (x : WLife) (po : Nat) (co : Array Value) (b d : Nat) (G F : List Nat) (s : LS) (m : Dsk.DM) (v : Value) (vs : List Value) (Ls : List (List ByteArray)) (R f y : Nat) (hx : WLifeGood w0 x) (hL : LLives w0 w b G s d F m) (hC : CS s m R (Ls.map txts) f y) (hz : m.dur.length = R + 1) (hw : m.wait = [])
    (hl : ListAt w0 w v vs Ls) (hfar : ∀ y, v.ownBlock = some y → y ∉ G ++ F) (hn : Ls.length ≤ 1000) (ho : Held w po 33 co) (ho0 : w0.heap.size ≤ po) (hoF : po ∉ G ++ F) :
    Calls Try.prog 9 #[.pointer (some ⟨d, 0, none⟩), .pointer (some ⟨b, 0, none⟩), .agg x.cells, v, .agg (bnd f f y y)] w (Ended w0 x R d Ls.length po co) := by
  have HX := Lib.hid hx
  have HC := Lib.hid hC
  have HZ : Hid (m.dur.length = R + 1 ∧ m.wait = []) := ⟨hz, hw⟩
  have hf9 := hx.f
  obtain ⟨AL, cL, hv⟩ := own_slice hl.row
  subst hv
  have hP : ∀ (w1 : World) (pl pb pr : Nat), Below w.heap.size w w1 → Held w1 pl 38 x.cells → Held w1 pb 33 (bnd f f y y) → Held w1 pr 33 #[.int .i64 0, .int .i64 0, .int .i64 0, .int .i64 0] → w.heap.size ≤ pl → w.heap.size ≤ pb → w.heap.size ≤ pr → pb ≠ pr → Mv w0 w1 x pl pb pr po co b G s d F m (.slice AL Ls.length cL) vs Ls (bnd f f y y) := fun w1 pl pb pr k h1 h2 h3 l1 l2 l3 hne =>
    ⟨hL.under k, h1, h2, h3, ho.only (Only.of_below (F := []) k) (fun hx => by cases hx), hl.only (Only.of_below (F := []) k) (fun _ _ hx => by cases hx), ⟨Nat.le_trans hL.below.size l1, Nat.le_trans hL.below.size l2, Nat.le_trans hL.below.size l3⟩, fun z hz => by
      rcases hz with rfl | rfl | rfl | rfl | hz
      · exact hL.far l1
      · exact hL.far l2
      · exact hL.far l3
      · exact hoF
      · exact hfar z hz, ⟨hne, by have := ho.lt; omega, by have := ho.lt; omega⟩⟩
  have HP := Lib.hid hP
  clear hx hL hC hz hw hl hfar hP ho ho0 hoF
  unfold WLife.cells bnd
  go_enter Try.func9, Try.ntmps9
  go_upto_region 1 with fail
  obtain ⟨w1, hw1⟩ : ∃ w1, w1 = ((w.alloc (.cells x.cells 38)).alloc (.cells (bnd f f y y) 33)).alloc (.cells #[.int .i64 0, .int .i64 0, .int .i64 0, .int .i64 0] 33) := ⟨_, rfl⟩
  obtain ⟨pl, hpl⟩ : ∃ pl, pl = w.heap.size := ⟨_, rfl⟩
  obtain ⟨pb, hpb⟩ : ∃ pb, pb = w.heap.size + 1 := ⟨_, rfl⟩
  obtain ⟨pr, hpr⟩ : ∃ pr, pr = w.heap.size + 1 + 1 := ⟨_, rfl⟩
  have M1 : Hid (Mv w0 w1 x pl pb pr po co b G s d F m (.slice AL Ls.length cL) vs Ls (bnd f f y y)) := by
    refine HP.out w1 pl pb pr ?_ ?_ ?_ ?_ (by omega) (by omega) (by omega) (by omega)
    · rw [hw1]
      exact (((Below.refl _ _).alloc (Nat.le_refl _) _).alloc (by simp) _).alloc (by simp; omega) _
    · rw [hw1]
      exact ((Held.new _ _ _ hpl).alloc _).alloc _
    · rw [hw1]
      exact (Held.new _ _ _ (by rw [hpb]; simp)).alloc _
    · rw [hw1]
      exact Held.new _ _ _ (by rw [hpr]; simp)
  unfold WLife.cells bnd at hw1
  rw [← hw1, ← hpr, ← hpb, ← hpl]
  have HPR : Hid (w0.heap.size ≤ pr) := M1.out.new.2.2
  clear hw1 hpl hpb hpr HP
  have l1 : w1.cell? ⟨pl, 1, none⟩ = some (.int .u8 (x.fuel : Int)) := M1.out.lx.cell 1
  go_upto_if 21 with fail
  go_cut [] (fun wc => ∃ F m1, Mv w0 wc x pl pb pr po co b G s d F m1 (.slice AL Ls.length cL) vs Ls (bnd f f y y) ∧ CL s m1 R 0 (Ls.map txts) f f y y)
  case first =>
    by_cases hfu : x.fuel < 250
    · have hfu' : (x.fuel : Int) < 250 := by omega
      have FU := Lib.hid (fuel_any w1 d F m (x.fuel : Int) (by omega) M1.out.lives.ld.disk)
      go_wp2_with fail
      refine FU.out.mono ?_
      rintro e w2 ⟨rfl, ht⟩
      obtain ⟨F2, hM⟩ := M1.out.fuelled ht
      have M2 := Lib.hid hM
      have C2 := Lib.hid (HC.out.setFuel x.fuel)
      clear ht hM FU
      go_wp2_with fail
      go_meet
      case rel => exact ⟨_, _, M2.out, ⟨HZ.out.1, by show m.wait.length ≤ _; rw [HZ.out.2]; exact Nat.zero_le _, C2.out.left, fun _ => ⟨rfl, rfl, C2.out⟩⟩⟩
    · have hfu' : ¬ (x.fuel : Int) < 250 := by omega
      go_wp2_with fail
      go_meet
      case rel => exact ⟨_, _, M1.out, ⟨HZ.out.1, by rw [HZ.out.2]; exact Nat.zero_le _, HC.out.left, fun _ => ⟨rfl, rfl, HC.out⟩⟩⟩
  case rest =>
    obtain ⟨F1, m1, hM, hCL⟩ := hcut
    have M2 := Lib.hid hM
    have C2 := Lib.hid hCL
    clear hM hCL M1 l1 HC HZ
    go_wp2_with fail
    go_loopw [3, 13] (fun av iv wr => ∃ i v vs Ls' G s F m f T y A, i ≤ 60 ∧ iv = .int .i64 (i : Nat) ∧ av = v ∧ Mv w0 wr x pl pb pr po co b G s d F m v vs Ls' (bnd f T y A) ∧ CL s m R i (Ls'.map txts) f T y A ∧ Ls'.length ≤ Ls.length + i) (fun _ iv _ => 60 - (intOf iv).toNat)
    case atStart => exact ⟨0, _, vs, Ls, G, s, F1, m1, f, f, y, y, by omega, rfl, rfl, M2.out, C2.out, by omega⟩
    case round =>
      obtain ⟨i, v, vs, Ls', G, s, F, m, f, T, y, A, hi, rfl, rfl, hM, hCL, hLn⟩ := hrel
      have MM := Lib.hid hM
      have CC := Lib.hid hCL
      have hi9 : (i : Int) ≤ 60 := by omega
      clear hM hCL M2 C2
      obtain ⟨A1, c1, hv⟩ := own_slice MM.out.list.row
      subst hv
      have l0 : wr.cell? ⟨pl, 0, none⟩ = some (.slice x.A x.N x.c) := MM.out.lx.cell 0
      have l2 : wr.cell? ⟨pl, 2, none⟩ = some (.slice x.kA x.kn x.kc) := MM.out.lx.cell 2
      have DD : Hid (Calls Try.prog 25 #[.pointer (some ⟨d, 0, none⟩)] wr fun e w' => e = .returned (.bool m.dead) ∧ wr = w') := dead_any wr d F m MM.out.lives.ld.disk
      by_cases hN : i < x.N
      · have hN' : (i : Int) < (x.N : Int) := by omega
        by_cases h60 : i < 60
        · have h60' : (i : Int) < 60 := by omega
          by_cases hdd : m.dead = true
          · rw [hdd] at DD
            go_wp2_with fail
            refine DD.out.mono ?_
            rintro e w' ⟨rfl, rfl⟩
            have CR := Lib.hid (crash_any wr d F m x.kA x.kn x.kc x.keep MM.out.lives.ld.disk (HX.out.keep.kept MM.out.lives.below) HX.out.kn (fun h0 a ha hm => by
              have h1 := HX.out.lt h0 a ha
              have h2 := MM.out.lives.new _ (List.mem_append.2 (.inr hm))
              omega) (by have := CC.out.wait; omega))
            go_wp2_with fail
            refine CR.out.mono ?_
            rintro e w5 ⟨rfl, ht⟩
            obtain ⟨F5, hL, hN5, hO⟩ := MM.out.lives.lives.turned ht
            have hfF : ∀ z, (z = pl ∨ z = pb ∨ z = pr ∨ z = po ∨ (Value.slice A1 Ls'.length c1).ownBlock = some z) → z ∉ F := fun z hz hm => MM.out.far z hz (List.mem_append.2 (.inr hm))
            have hsz : wr.heap.size ≤ w5.heap.size := hO.size
            have B5 : Hid (Held w5 pb 33 (bnd f T y A)) := MM.out.bd.only hO (hfF _ (.inr (.inl rfl)))
            have R5 : Hid (Held w5 pr 33 #[.int .i64 0, .int .i64 0, .int .i64 0, .int .i64 0]) := MM.out.rs.only hO (hfF _ (.inr (.inr (.inl rfl))))
            have P5 : Hid (Held w5 po 33 co ∧ pr ≠ po) := ⟨MM.out.out.only hO (hfF _ (.inr (.inr (.inr (.inl rfl))))), MM.out.ne.2.2⟩
            have T5 : Hid (ListAt w0 w5 (.slice A1 Ls'.length c1) vs Ls') := MM.out.list.only hO (fun z hz => hfF z (.inr (.inr (.inr (.inr hz)))))
            have L5 := Lib.hid hL
            have FF : Hid ((pr ∉ F5 ∧ po ∉ F5) ∧ ∀ z, (Value.slice A1 Ls'.length c1).ownBlock = some z → z ∉ F5 ∧ z ≠ pr) := by
              have hq : ∀ z, (z = pl ∨ z = pb ∨ z = pr ∨ z = po ∨ (Value.slice A1 Ls'.length c1).ownBlock = some z) → z ∉ F5 := fun z hz hm => by
                rcases hN5 z hm with h1 | h1
                · exact hfF z hz h1
                · have := MM.out.lt z hz; omega
              exact ⟨⟨hq _ (.inr (.inr (.inl rfl))), hq _ (.inr (.inr (.inr (.inl rfl))))⟩, fun z hz => ⟨hq z (.inr (.inr (.inr (.inr hz)))), MM.out.rs.ne_row MM.out.list.row (by decide) z hz⟩⟩
            clear ht hL hN5 hO CR hfF hsz DD l0 l2
            have q0 : w5.cell? ⟨pb, 0, none⟩ = some (.int .i64 (f : Int)) := B5.out.cell 0
            have q1 : w5.cell? ⟨pb, 1, none⟩ = some (.int .i64 (T : Int)) := B5.out.cell 1
            have q2 : w5.cell? ⟨pb, 2, none⟩ = some (.int .i64 (y : Int)) := B5.out.cell 2
            have q3 : w5.cell? ⟨pb, 3, none⟩ = some (.int .i64 (A : Int)) := B5.out.cell 3
            have r0 := R5.out.cell 0
            have r1 := R5.out.cell 1
            have r2 := R5.out.cell 2
            have r3 := R5.out.cell 3
            have z0 := R5.out.frozen 0
            have z1 := R5.out.frozen 1
            have z2 := R5.out.frozen 2
            have z3 := R5.out.frozen 3
            go_upto_region 30 with fail
            refine wp_region_noPanic ?_
            go_region
            all_goals
              refine NoPanic.normal ?_
              have O6 : Only [pr] w5 ((((w5.setCell ⟨pr, 0, none⟩ (.int .i64 (f : Int))).setCell ⟨pr, 1, none⟩ (.int .i64 (T : Int))).setCell ⟨pr, 2, none⟩ (.int .i64 (y : Int))).setCell ⟨pr, 3, none⟩ (.int .i64 (A : Int))).drew := (((((Only.refl _ w5).setCell (.inl (by simp)) _).setCell (.inl (by simp)) _).setCell (.inl (by simp)) _).setCell (.inl (by simp)) _).drew
              have R6 : Hid (Held ((((w5.setCell ⟨pr, 0, none⟩ (.int .i64 (f : Int))).setCell ⟨pr, 1, none⟩ (.int .i64 (T : Int))).setCell ⟨pr, 2, none⟩ (.int .i64 (y : Int))).setCell ⟨pr, 3, none⟩ (.int .i64 (A : Int))).drew pr 33 (bnd f T y A)) := by
                have h1 := (((R5.out.set_ 0 (.int .i64 (f : Int))).set_ 1 (.int .i64 (T : Int))).set_ 2 (.int .i64 (y : Int))).set_ 3 (.int .i64 (A : Int))
                exact h1.drew
              generalize ((((w5.setCell ⟨pr, 0, none⟩ (.int .i64 (f : Int))).setCell ⟨pr, 1, none⟩ (.int .i64 (T : Int))).setCell ⟨pr, 2, none⟩ (.int .i64 (y : Int))).setCell ⟨pr, 3, none⟩ (.int .i64 (A : Int))).drew = w6 at *
              have E6 : Hid (Lives w0 w6 d F5 (m.crash x.keep) ∧ ListAt w0 w6 (.slice A1 Ls'.length c1) vs Ls') := ⟨⟨L5.out.disk.only O6 (fun z hz hm => by
                  obtain rfl : z = pr := by simpa using hm
                  exact FF.out.1.1 hz), L5.out.below.trans (O6.below L5.out.below.size (fun z hz => by
                  obtain rfl : z = pr := by simpa using hz
                  exact HPR.out)), L5.out.new⟩, T5.out.only O6 (fun z hz hm => (FF.out.2 z hz).2 (by simpa using hm))⟩
              have P6 : Hid (Held w6 po 33 co) := P5.out.1.only O6 (fun hm => by
                have e : po = pr := by simpa using hm
                exact P5.out.2 e.symm)
              clear P5 O6 q0 q1 q2 q3 r0 r1 r2 r3 z0 z1 z2 z3 L5 T5 B5 R5
              have r0 : w6.cell? ⟨pr, 0, none⟩ = some (.int .i64 (f : Int)) := R6.out.cell 0
              have r1 : w6.cell? ⟨pr, 1, none⟩ = some (.int .i64 (T : Int)) := R6.out.cell 1
              have r2 : w6.cell? ⟨pr, 2, none⟩ = some (.int .i64 (y : Int)) := R6.out.cell 2
              have r3 : w6.cell? ⟨pr, 3, none⟩ = some (.int .i64 (A : Int)) := R6.out.cell 3
              go_wp2_with fail
              refine bodyPost_ret (v := .tuple #[.slice A1 Ls'.length c1, .agg (bnd f T y A), .bool true]) ?_ rfl ?_
              · simp [results, Try.results9, go_sem, r0, r1, r2, r3, bnd]
              · exact ⟨_, vs, Ls', f, T, y, A, m, F5, rfl, E6.out.1, CC.out.size, CC.out.left, E6.out.2, fun z hz => (FF.out.2 z hz).1, by omega, P6.out, FF.out.1.2⟩
          · have hdd' : m.dead = false := by simpa using hdd
            rw [hdd'] at DD
            obtain ⟨e1, e2, hCS⟩ := CC.out.up hdd'
            have e1' := e1.symm
            have e2' := e2.symm
            clear e1 e2
            subst e1'
            subst e2'
            have CS_ := Lib.hid hCS
            obtain ⟨g, off, o, hA, hg, ho, hgo, _, c0, c1', c2⟩ := HX.out.ops.at_ hN
            rw [hA] at l0
            have BW := MM.out.lives.below
            have x0 := (BW.cell (p := ⟨g, off + i * 3, none⟩) hg).trans c0
            have x1 := (BW.cell (p := ⟨g, off + i * 3 + 1, none⟩) hg).trans c1'
            have x2 := (BW.cell (p := ⟨g, off + i * 3 + 2, none⟩) hg).trans c2
            have GO := Lib.hid hgo
            clear hgo c0 c1' c2 ho BW hA hCS hdd hdd'
            go_wp2_with fail
            refine DD.out.mono ?_
            rintro e w' ⟨rfl, rfl⟩
            go_upto_region 7 with fail
            obtain ⟨q, hq⟩ : ∃ q, q = wr.heap.size := ⟨_, rfl⟩
            obtain ⟨wq, hwq⟩ : ∃ wq, wq = wr.alloc (.cells #[.int .u8 (o.kind : Int), .slice o.A o.n o.c, .int .i64 o.num] 87) := ⟨_, rfl⟩
            have hbq : Below wr.heap.size wr wq := by rw [hwq]; exact (Below.refl _ _).alloc (Nat.le_refl _) _
            have MQ := Lib.hid (MM.out.under hbq)
            have HQ : Hid (Held wq q 87 #[.int .u8 (o.kind : Int), .slice o.A o.n o.c, .int .i64 o.num]) := by rw [hwq]; exact Held.new _ _ _ hq
            have QF : Hid (q ∉ G ++ F) := MM.out.lives.far (by omega)
            rw [← hwq, ← hq]
            have z0 := HQ.out.cell 0
            have z1 := HQ.out.cell 1
            have z2 := HQ.out.cell 2
            clear hwq hq hbq MM x0 x1 x2 l0 l2 DD
            obtain ⟨κ, hκ⟩ : ∃ κ, κ = o.kind % 4 := ⟨_, rfl⟩
            have hm1 : ((o.kind : Int)).tmod 4 = (κ : Int) := by
              rw [Int.tmod_eq_emod_of_nonneg (by omega)]
              omega
            have hκ4 : κ < 4 := by rw [hκ]; exact Nat.mod_lt _ (by omega)
            clear hκ
            have hk : κ = 0 ∨ κ = 1 ∨ κ = 2 ∨ κ = 3 := by omega
            have WT : Hid (m.wait.length ≤ 5600000000000) := by show _ ≤ _; have := CC.out.wait; omega
            rcases hk with rfl | rfl | rfl | rfl
            · obtain ⟨y1, y2, s', m', hAp, hz, hCL⟩ := CS_.out.append (k := i) CC.out.size CC.out.wait MQ.out.lives.ld.disk.good.f0 (txts_bytes o.batch)
              obtain ⟨L6, hL6⟩ : ∃ L6, L6 = Ls'.length + 1 := ⟨_, rfl⟩
              have eL6 : ((Ls'.length : Nat) : Int) + 1 = (L6 : Int) := by omega
              simp only [List.length_map, eL6] at hz
              have EL6 := Lib.hid hL6
              have hL69 : L6 ≤ 1000000001 := by omega
              clear eL6 hL6
              have NC := Lib.hid hCL
              have HZZ := Lib.hid hz
              have AC := Lib.hid (append_any wq b d s G F m o.A o.n o.c o.batch MQ.out.lives.ld CS_.out.inv.ok (GO.out.batch.below MQ.out.lives.below) (by have := GO.out.n; omega) (fun h0 a ha hm => by
                have h1 := GO.out.lt h0 a ha
                have h2 := MQ.out.lives.new _ hm
                omega) WT.out)
              rw [hAp] at AC
              clear hCL hz hAp
              go_wp2_with fail
              refine AC.out.mono ?_
              rintro e w5 ⟨rfl, ht⟩
              have hO : Only (G ++ F) wq w5 := by obtain ⟨_, _, _, h2, _, _⟩ := ht; exact h2
              obtain ⟨G5, F5, hM5⟩ := MQ.out.logged ht
              have M5 := Lib.hid hM5
              have Q5 := Lib.hid (HQ.out.only hO QF.out)
              clear ht hM5 hO AC z0 z1 z2
              have z1 := Q5.out.cell 1
              rcases HZZ.out with ⟨rfl, rfl, hd⟩ | ⟨rfl | rfl, hd⟩ | ⟨rfl, hd⟩
              · rw [if_pos rfl] at NC
                have NC' : Hid (CL s' m' R (i + 1) ((Ls' ++ [o.batch]).map txts) f f y y) := by rw [List.map_append]; exact NC.out
                have BA : Hid (Below w5.heap.size w5 (w5.alloc (.cells #[.slice o.A o.n o.c] 57))) := (Below.refl _ _).alloc (Nat.le_refl _) _
                have MA := Lib.hid (M5.out.under BA.out)
                have QA : Hid ((w5.alloc (.cells #[.slice o.A o.n o.c] 57)).cell? ⟨w5.heap.size, 0, none⟩ = some (.slice o.A o.n o.c)) := (Held.new w5 57 #[.slice o.A o.n o.c] rfl).cell 0
                have LA : Hid (w0.heap.size ≤ (w5.alloc (.cells #[.slice o.A o.n o.c] 57)).heap.size) := MA.out.lives.below.size
                have hkk : Ls'.length ≤ 1000000000 := by omega
                have hDM : ∀ W G' F' v' vs' L', Mv w0 W x pl pb pr po co b G' s' d F' m' v' vs' L' (bnd f f y y) → Hid (Calls Try.prog 25 #[.pointer (some ⟨d, 0, none⟩)] W fun e w' => e = .returned (.bool false) ∧ W = w') := fun W G' F' v' vs' L' h => by
                  have h9 := dead_any W d F' m' h.lives.ld.disk
                  rw [hd] at h9
                  exact Lib.hid h9
                have HDM := Lib.hid hDM
                clear hDM hd NC
                go_wp2_with (refine wpList_append_batch rfl (o := ⟨some 66, _, _, _, _, _⟩) (.tmp 62) (.tmp 65) w0.heap.size rfl (.slice A1 Ls'.length c1) _ vs rfl MA.out.list.row w5.heap.size 1 o.A o.n o.c rfl QA.out hkk LA.out ?_; intro v6 w6 r1 r2 r3; obtain ⟨A6, c6, hv6⟩ := own_slice r1; rw [← EL6.out] at hv6; subst hv6)
                rw [← GO.out.batch.1] at r1
                have M6 := Lib.hid (MA.out.push (by rw [GO.out.batch.1]; exact GO.out.batch) r1 r2 r3)
                clear r1 r2 r3 MA QA LA BA z1
                have D6 := HDM.out _ _ _ _ _ _ M6.out
                refine D6.out.mono ?_
                rintro e w' ⟨rfl, rfl⟩
                go_wp2_with fail
                go_roundw
                case rel => exact ⟨i + 1, _, _, Ls' ++ [o.batch], G5, s', F5, m', f, f, y, y, by omega, by go_num, rfl, M6.out, NC'.out, by rw [List.length_append]; simp; omega⟩
                case measure => simp [intOf]; omega
              · rw [if_neg (by decide)] at NC
                have D6 := Lib.hid (dead_any _ d F5 m' M5.out.lives.ld.disk)
                rw [hd] at D6
                clear hd
                go_wp2_with fail
                refine D6.out.mono ?_
                rintro e w' ⟨rfl, rfl⟩
                go_wp2_with fail
                go_roundw
                case rel => exact ⟨i + 1, _, vs, Ls', G5, s', F5, m', f, f, y, y, by omega, by go_num, rfl, M5.out, NC.out, by omega⟩
                case measure => simp [intOf]; omega
              · rw [if_neg (by decide)] at NC
                have D6 := Lib.hid (dead_any _ d F5 m' M5.out.lives.ld.disk)
                rw [hd] at D6
                clear hd
                go_wp2_with fail
                refine D6.out.mono ?_
                rintro e w' ⟨rfl, rfl⟩
                go_wp2_with fail
                go_roundw
                case rel => exact ⟨i + 1, _, vs, Ls', G5, s', F5, m', f, f, y, y, by omega, by go_num, rfl, M5.out, NC.out, by omega⟩
                case measure => simp [intOf]; omega
              · rw [if_neg (by decide)] at NC
                have D6 := Lib.hid (dead_any _ d F5 m' M5.out.lives.ld.disk)
                rw [hd] at D6
                clear hd
                go_wp2_with fail
                refine D6.out.mono ?_
                rintro e w' ⟨rfl, rfl⟩
                go_wp2_with fail
                go_roundw
                case rel => exact ⟨i + 1, _, vs, Ls', G5, s', F5, m', f, f, y, y, by omega, by go_num, rfl, M5.out, NC.out, by omega⟩
                case measure => simp [intOf]; omega
            · obtain ⟨zz, s', m', hAp, hz, hCL⟩ := CS_.out.sync (k := i) CC.out.size CC.out.wait
              simp only [List.length_map] at hCL
              have NC := Lib.hid hCL
              have HZZ := Lib.hid hz
              have AC := Lib.hid (sync_any wq b d s G F m MQ.out.lives.ld CS_.out.inv.ok WT.out)
              rw [hAp] at AC
              clear hCL hz hAp
              go_wp2_with fail
              refine AC.out.mono ?_
              rintro e w5 ⟨rfl, ht⟩
              obtain ⟨G5, F5, hM5⟩ := MQ.out.logged ht
              have M5 := Lib.hid hM5
              clear ht hM5 AC z0 z1 z2
              have y2 : w5.cell? ⟨pb, 2, none⟩ = some (.int .i64 (y : Int)) := M5.out.bd.cell 2
              have y3 : w5.cell? ⟨pb, 3, none⟩ = some (.int .i64 (y : Int)) := M5.out.bd.cell 3
              have x2 := M5.out.bd.frozen 2
              have x3 := M5.out.bd.frozen 3
              have M6 : Hid (Mv w0 (w5.setCell ⟨pb, 3, none⟩ (.int .i64 (Ls'.length : Int))) x pl pb pr po co b G5 s' d F5 m' (.slice A1 Ls'.length c1) vs Ls' (bnd f f y Ls'.length)) := M5.out.store 3 _
              rcases HZZ.out with ⟨rfl, hd⟩ | ⟨rfl, hd⟩
              · rw [if_pos rfl] at NC
                have M7 : Hid (Mv w0 ((w5.setCell ⟨pb, 3, none⟩ (.int .i64 (Ls'.length : Int))).setCell ⟨pb, 2, none⟩ (.int .i64 (Ls'.length : Int))) x pl pb pr po co b G5 s' d F5 m' (.slice A1 Ls'.length c1) vs Ls' (bnd f f Ls'.length Ls'.length)) := M6.out.store 2 _
                have D7 := Lib.hid (dead_any _ d F5 m' M7.out.lives.ld.disk)
                rw [hd] at D7
                clear M6 hd
                go_wp2_with fail
                refine D7.out.mono ?_
                rintro e w' ⟨rfl, rfl⟩
                go_wp2_with fail
                go_roundw
                case rel => exact ⟨i + 1, _, vs, Ls', G5, s', F5, m', f, f, Ls'.length, Ls'.length, by omega, by go_num, rfl, M7.out, NC.out, by omega⟩
                case measure => simp [intOf]; omega
              · rw [if_neg (by decide)] at NC
                have D7 := Lib.hid (dead_any _ d F5 m' M6.out.lives.ld.disk)
                rw [hd] at D7
                clear hd
                go_wp2_with fail
                refine D7.out.mono ?_
                rintro e w' ⟨rfl, rfl⟩
                go_wp2_with fail
                go_roundw
                case rel => exact ⟨i + 1, _, vs, Ls', G5, s', F5, m', f, f, y, Ls'.length, by omega, by go_num, rfl, M6.out, NC.out, by omega⟩
                case measure => simp [intOf]; omega
            · have hS9 : y ≤ 1152921504606846975 := by have := CS_.out.ts; simp only [List.length_map] at this; omega
              obtain ⟨zz, s', m', hAp, hz, hCL⟩ := CS_.out.trim (k := i) CC.out.size CC.out.wait hS9 o.num
              have NC := Lib.hid hCL
              have HZZ := Lib.hid hz
              have hfy : f ≤ y := CS_.out.ts.1
              have AC := Lib.hid (trim_any wq b d s G F m o.num MQ.out.lives.ld CS_.out.inv.ok (by rw [CS_.out.synced, CS_.out.last]; have := CS_.out.ts; omega) WT.out)
              rw [hAp] at AC
              clear hCL hz hAp
              go_wp2_with fail
              refine AC.out.mono ?_
              rintro e w5 ⟨rfl, ht⟩
              have hO : Only (G ++ F) wq w5 := by obtain ⟨_, _, _, h2, _, _⟩ := ht; exact h2
              obtain ⟨G5, F5, hM5⟩ := MQ.out.logged ht
              have M5 := Lib.hid hM5
              have Q5 := Lib.hid (HQ.out.only hO QF.out)
              clear ht hM5 hO AC z0 z1 z2
              have z2 := Q5.out.cell 2
              have y0 : w5.cell? ⟨pb, 0, none⟩ = some (.int .i64 (f : Int)) := M5.out.bd.cell 0
              have y1 : w5.cell? ⟨pb, 1, none⟩ = some (.int .i64 (f : Int)) := M5.out.bd.cell 1
              have x0 := M5.out.bd.frozen 0
              have x1 := M5.out.bd.frozen 1
              rcases HZZ.out with ⟨rfl, hd⟩ | ⟨rfl, hu0, hu1, hd⟩ | ⟨rfl, hu0, hu1, hd⟩
              · rw [if_neg (by decide), if_pos rfl] at NC
                have D7 := Lib.hid (dead_any _ d F5 m' M5.out.lives.ld.disk)
                rw [hd] at D7
                clear hd
                go_wp2_with fail
                refine D7.out.mono ?_
                rintro e w' ⟨rfl, rfl⟩
                go_wp2_with fail
                go_roundw
                case rel => exact ⟨i + 1, _, vs, Ls', G5, s', F5, m', f, f, y, y, by omega, by go_num, rfl, M5.out, NC.out, by omega⟩
                case measure => simp [intOf]; omega
              · rw [if_pos rfl, if_neg (by decide)] at NC
                obtain ⟨u, hu⟩ : ∃ u, u = max f o.num.toNat := ⟨_, rfl⟩
                rw [← hu] at NC
                have eu : (if (f : Int) < o.num then o.num else (f : Int)) = (u : Int) := by split <;> omega
                have EU := Lib.hid eu
                have hu9 : (u : Int) ≤ 1152921504606846975 := by omega
                clear hu eu hu0 hu1
                go_upto_region 25 with fail
                rw [EU.out]
                have M6 : Hid (Mv w0 (w5.setCell ⟨pb, 1, none⟩ (.int .i64 (u : Int))) x pl pb pr po co b G5 s' d F5 m' (.slice A1 Ls'.length c1) vs Ls' (bnd f u y y)) := M5.out.store 1 _
                clear M5 y0 y1 x0 x1 Q5 z2 EU
                generalize w5.setCell ⟨pb, 1, none⟩ (.int .i64 (u : Int)) = w6 at *
                have y1 : w6.cell? ⟨pb, 1, none⟩ = some (.int .i64 (u : Int)) := M6.out.bd.cell 1
                have y0 : w6.cell? ⟨pb, 0, none⟩ = some (.int .i64 (f : Int)) := M6.out.bd.cell 0
                have x0 := M6.out.bd.frozen 0
                have M7 : Hid (Mv w0 (w6.setCell ⟨pb, 0, none⟩ (.int .i64 (u : Int))) x pl pb pr po co b G5 s' d F5 m' (.slice A1 Ls'.length c1) vs Ls' (bnd u u y y)) := M6.out.store 0 _
                have D7 := Lib.hid (dead_any _ d F5 m' M7.out.lives.ld.disk)
                rw [hd] at D7
                clear hd
                go_wp2_with fail
                refine D7.out.mono ?_
                rintro e w' ⟨rfl, rfl⟩
                go_wp2_with fail
                go_roundw
                case rel => exact ⟨i + 1, _, vs, Ls', G5, s', F5, m', u, u, y, y, by omega, by go_num, rfl, M7.out, NC.out, by omega⟩
                case measure => simp [intOf]; omega
              · rw [if_neg (by decide), if_neg (by decide)] at NC
                obtain ⟨u, hu⟩ : ∃ u, u = max f o.num.toNat := ⟨_, rfl⟩
                rw [← hu] at NC
                have eu : (if (f : Int) < o.num then o.num else (f : Int)) = (u : Int) := by split <;> omega
                have EU := Lib.hid eu
                have hu9 : (u : Int) ≤ 1152921504606846975 := by omega
                clear hu eu hu0 hu1
                go_upto_region 25 with fail
                rw [EU.out]
                have M6 : Hid (Mv w0 (w5.setCell ⟨pb, 1, none⟩ (.int .i64 (u : Int))) x pl pb pr po co b G5 s' d F5 m' (.slice A1 Ls'.length c1) vs Ls' (bnd f u y y)) := M5.out.store 1 _
                clear M5 y0 y1 x0 x1 Q5 z2 EU
                generalize w5.setCell ⟨pb, 1, none⟩ (.int .i64 (u : Int)) = w6 at *
                have y1 : w6.cell? ⟨pb, 1, none⟩ = some (.int .i64 (u : Int)) := M6.out.bd.cell 1
                have y0 : w6.cell? ⟨pb, 0, none⟩ = some (.int .i64 (f : Int)) := M6.out.bd.cell 0
                have x0 := M6.out.bd.frozen 0
                have D7 := Lib.hid (dead_any _ d F5 m' M6.out.lives.ld.disk)
                rw [hd] at D7
                clear hd
                go_wp2_with fail
                refine D7.out.mono ?_
                rintro e w' ⟨rfl, rfl⟩
                go_wp2_with fail
                go_roundw
                case rel => exact ⟨i + 1, _, vs, Ls', G5, s', F5, m', f, u, y, y, by omega, by go_num, rfl, M6.out, NC.out, by omega⟩
                case measure => simp [intOf]; omega
            · go_wp2_with fail
              go_roundw
              case rel => exact ⟨i + 1, _, vs, Ls', G, s, F, m, f, f, y, y, by omega, by go_num, rfl, MQ.out, ⟨CC.out.size, by have := CC.out.wait; omega, CC.out.left, CC.out.up⟩, by omega⟩
              case measure => simp [intOf]; omega
        · have h60' : ¬ (i : Int) < 60 := by omega
          have CR := Lib.hid (crash_any wr d F m x.kA x.kn x.kc x.keep MM.out.lives.ld.disk (HX.out.keep.kept MM.out.lives.below) HX.out.kn (fun h0 a ha hm => by
            have h1 := HX.out.lt h0 a ha
            have h2 := MM.out.lives.new _ (List.mem_append.2 (.inr hm))
            omega) (by have := CC.out.wait; omega))
          go_wp2_with fail
          refine CR.out.mono ?_
          rintro e w5 ⟨rfl, ht⟩
          obtain ⟨F5, hL, hN5, hO⟩ := MM.out.lives.lives.turned ht
          have hfF : ∀ z, (z = pl ∨ z = pb ∨ z = pr ∨ z = po ∨ (Value.slice A1 Ls'.length c1).ownBlock = some z) → z ∉ F := fun z hz hm => MM.out.far z hz (List.mem_append.2 (.inr hm))
          have hsz : wr.heap.size ≤ w5.heap.size := hO.size
          have B5 : Hid (Held w5 pb 33 (bnd f T y A)) := MM.out.bd.only hO (hfF _ (.inr (.inl rfl)))
          have R5 : Hid (Held w5 pr 33 #[.int .i64 0, .int .i64 0, .int .i64 0, .int .i64 0]) := MM.out.rs.only hO (hfF _ (.inr (.inr (.inl rfl))))
          have P5 : Hid (Held w5 po 33 co ∧ pr ≠ po) := ⟨MM.out.out.only hO (hfF _ (.inr (.inr (.inr (.inl rfl))))), MM.out.ne.2.2⟩
          have T5 : Hid (ListAt w0 w5 (.slice A1 Ls'.length c1) vs Ls') := MM.out.list.only hO (fun z hz => hfF z (.inr (.inr (.inr (.inr hz)))))
          have L5 := Lib.hid hL
          have FF : Hid ((pr ∉ F5 ∧ po ∉ F5) ∧ ∀ z, (Value.slice A1 Ls'.length c1).ownBlock = some z → z ∉ F5 ∧ z ≠ pr) := by
            have hq : ∀ z, (z = pl ∨ z = pb ∨ z = pr ∨ z = po ∨ (Value.slice A1 Ls'.length c1).ownBlock = some z) → z ∉ F5 := fun z hz hm => by
              rcases hN5 z hm with h1 | h1
              · exact hfF z hz h1
              · have := MM.out.lt z hz; omega
            exact ⟨⟨hq _ (.inr (.inr (.inl rfl))), hq _ (.inr (.inr (.inr (.inl rfl))))⟩, fun z hz => ⟨hq z (.inr (.inr (.inr (.inr hz)))), MM.out.rs.ne_row MM.out.list.row (by decide) z hz⟩⟩
          clear ht hL hN5 hO CR hfF hsz DD l0 l2
          have q0 : w5.cell? ⟨pb, 0, none⟩ = some (.int .i64 (f : Int)) := B5.out.cell 0
          have q1 : w5.cell? ⟨pb, 1, none⟩ = some (.int .i64 (T : Int)) := B5.out.cell 1
          have q2 : w5.cell? ⟨pb, 2, none⟩ = some (.int .i64 (y : Int)) := B5.out.cell 2
          have q3 : w5.cell? ⟨pb, 3, none⟩ = some (.int .i64 (A : Int)) := B5.out.cell 3
          have r0 := R5.out.cell 0
          have r1 := R5.out.cell 1
          have r2 := R5.out.cell 2
          have r3 := R5.out.cell 3
          have z0 := R5.out.frozen 0
          have z1 := R5.out.frozen 1
          have z2 := R5.out.frozen 2
          have z3 := R5.out.frozen 3
          go_upto_region 30 with fail
          refine wp_region_noPanic ?_
          go_region
          all_goals
            refine NoPanic.normal ?_
            have O6 : Only [pr] w5 ((((w5.setCell ⟨pr, 0, none⟩ (.int .i64 (f : Int))).setCell ⟨pr, 1, none⟩ (.int .i64 (T : Int))).setCell ⟨pr, 2, none⟩ (.int .i64 (y : Int))).setCell ⟨pr, 3, none⟩ (.int .i64 (A : Int))).drew := (((((Only.refl _ w5).setCell (.inl (by simp)) _).setCell (.inl (by simp)) _).setCell (.inl (by simp)) _).setCell (.inl (by simp)) _).drew
            have R6 : Hid (Held ((((w5.setCell ⟨pr, 0, none⟩ (.int .i64 (f : Int))).setCell ⟨pr, 1, none⟩ (.int .i64 (T : Int))).setCell ⟨pr, 2, none⟩ (.int .i64 (y : Int))).setCell ⟨pr, 3, none⟩ (.int .i64 (A : Int))).drew pr 33 (bnd f T y A)) := by
              have h1 := (((R5.out.set_ 0 (.int .i64 (f : Int))).set_ 1 (.int .i64 (T : Int))).set_ 2 (.int .i64 (y : Int))).set_ 3 (.int .i64 (A : Int))
              exact h1.drew
            generalize ((((w5.setCell ⟨pr, 0, none⟩ (.int .i64 (f : Int))).setCell ⟨pr, 1, none⟩ (.int .i64 (T : Int))).setCell ⟨pr, 2, none⟩ (.int .i64 (y : Int))).setCell ⟨pr, 3, none⟩ (.int .i64 (A : Int))).drew = w6 at *
            have E6 : Hid (Lives w0 w6 d F5 (m.crash x.keep) ∧ ListAt w0 w6 (.slice A1 Ls'.length c1) vs Ls') := ⟨⟨L5.out.disk.only O6 (fun z hz hm => by
                obtain rfl : z = pr := by simpa using hm
                exact FF.out.1.1 hz), L5.out.below.trans (O6.below L5.out.below.size (fun z hz => by
                obtain rfl : z = pr := by simpa using hz
                exact HPR.out)), L5.out.new⟩, T5.out.only O6 (fun z hz hm => (FF.out.2 z hz).2 (by simpa using hm))⟩
            have P6 : Hid (Held w6 po 33 co) := P5.out.1.only O6 (fun hm => by
              have e : po = pr := by simpa using hm
              exact P5.out.2 e.symm)
            clear P5 O6 q0 q1 q2 q3 r0 r1 r2 r3 z0 z1 z2 z3 L5 T5 B5 R5
            have r0 : w6.cell? ⟨pr, 0, none⟩ = some (.int .i64 (f : Int)) := R6.out.cell 0
            have r1 : w6.cell? ⟨pr, 1, none⟩ = some (.int .i64 (T : Int)) := R6.out.cell 1
            have r2 : w6.cell? ⟨pr, 2, none⟩ = some (.int .i64 (y : Int)) := R6.out.cell 2
            have r3 : w6.cell? ⟨pr, 3, none⟩ = some (.int .i64 (A : Int)) := R6.out.cell 3
            go_wp2_with fail
            refine bodyPost_ret (v := .tuple #[.slice A1 Ls'.length c1, .agg (bnd f T y A), .bool true]) ?_ rfl ?_
            · simp [results, Try.results9, go_sem, r0, r1, r2, r3, bnd]
            · exact ⟨_, vs, Ls', f, T, y, A, m, F5, rfl, E6.out.1, CC.out.size, CC.out.left, E6.out.2, fun z hz => (FF.out.2 z hz).1, by omega, P6.out, FF.out.1.2⟩
      · have hN' : ¬ (i : Int) < (x.N : Int) := by omega
        have CR := Lib.hid (crash_any wr d F m x.kA x.kn x.kc x.keep MM.out.lives.ld.disk (HX.out.keep.kept MM.out.lives.below) HX.out.kn (fun h0 a ha hm => by
          have h1 := HX.out.lt h0 a ha
          have h2 := MM.out.lives.new _ (List.mem_append.2 (.inr hm))
          omega) (by have := CC.out.wait; omega))
        go_wp2_with fail
        refine CR.out.mono ?_
        rintro e w5 ⟨rfl, ht⟩
        obtain ⟨F5, hL, hN5, hO⟩ := MM.out.lives.lives.turned ht
        have hfF : ∀ z, (z = pl ∨ z = pb ∨ z = pr ∨ z = po ∨ (Value.slice A1 Ls'.length c1).ownBlock = some z) → z ∉ F := fun z hz hm => MM.out.far z hz (List.mem_append.2 (.inr hm))
        have hsz : wr.heap.size ≤ w5.heap.size := hO.size
        have B5 : Hid (Held w5 pb 33 (bnd f T y A)) := MM.out.bd.only hO (hfF _ (.inr (.inl rfl)))
        have R5 : Hid (Held w5 pr 33 #[.int .i64 0, .int .i64 0, .int .i64 0, .int .i64 0]) := MM.out.rs.only hO (hfF _ (.inr (.inr (.inl rfl))))
        have P5 : Hid (Held w5 po 33 co ∧ pr ≠ po) := ⟨MM.out.out.only hO (hfF _ (.inr (.inr (.inr (.inl rfl))))), MM.out.ne.2.2⟩
        have T5 : Hid (ListAt w0 w5 (.slice A1 Ls'.length c1) vs Ls') := MM.out.list.only hO (fun z hz => hfF z (.inr (.inr (.inr (.inr hz)))))
        have L5 := Lib.hid hL
        have FF : Hid ((pr ∉ F5 ∧ po ∉ F5) ∧ ∀ z, (Value.slice A1 Ls'.length c1).ownBlock = some z → z ∉ F5 ∧ z ≠ pr) := by
          have hq : ∀ z, (z = pl ∨ z = pb ∨ z = pr ∨ z = po ∨ (Value.slice A1 Ls'.length c1).ownBlock = some z) → z ∉ F5 := fun z hz hm => by
            rcases hN5 z hm with h1 | h1
            · exact hfF z hz h1
            · have := MM.out.lt z hz; omega
          exact ⟨⟨hq _ (.inr (.inr (.inl rfl))), hq _ (.inr (.inr (.inr (.inl rfl))))⟩, fun z hz => ⟨hq z (.inr (.inr (.inr (.inr hz)))), MM.out.rs.ne_row MM.out.list.row (by decide) z hz⟩⟩
        clear ht hL hN5 hO CR hfF hsz DD l0 l2
        have q0 : w5.cell? ⟨pb, 0, none⟩ = some (.int .i64 (f : Int)) := B5.out.cell 0
        have q1 : w5.cell? ⟨pb, 1, none⟩ = some (.int .i64 (T : Int)) := B5.out.cell 1
        have q2 : w5.cell? ⟨pb, 2, none⟩ = some (.int .i64 (y : Int)) := B5.out.cell 2
        have q3 : w5.cell? ⟨pb, 3, none⟩ = some (.int .i64 (A : Int)) := B5.out.cell 3
        have r0 := R5.out.cell 0
        have r1 := R5.out.cell 1
        have r2 := R5.out.cell 2
        have r3 := R5.out.cell 3
        have z0 := R5.out.frozen 0
        have z1 := R5.out.frozen 1
        have z2 := R5.out.frozen 2
        have z3 := R5.out.frozen 3
        go_upto_region 30 with fail
        refine wp_region_noPanic ?_
        go_region
        all_goals
          refine NoPanic.normal ?_
          have O6 : Only [pr] w5 ((((w5.setCell ⟨pr, 0, none⟩ (.int .i64 (f : Int))).setCell ⟨pr, 1, none⟩ (.int .i64 (T : Int))).setCell ⟨pr, 2, none⟩ (.int .i64 (y : Int))).setCell ⟨pr, 3, none⟩ (.int .i64 (A : Int))).drew := (((((Only.refl _ w5).setCell (.inl (by simp)) _).setCell (.inl (by simp)) _).setCell (.inl (by simp)) _).setCell (.inl (by simp)) _).drew
          have R6 : Hid (Held ((((w5.setCell ⟨pr, 0, none⟩ (.int .i64 (f : Int))).setCell ⟨pr, 1, none⟩ (.int .i64 (T : Int))).setCell ⟨pr, 2, none⟩ (.int .i64 (y : Int))).setCell ⟨pr, 3, none⟩ (.int .i64 (A : Int))).drew pr 33 (bnd f T y A)) := by
            have h1 := (((R5.out.set_ 0 (.int .i64 (f : Int))).set_ 1 (.int .i64 (T : Int))).set_ 2 (.int .i64 (y : Int))).set_ 3 (.int .i64 (A : Int))
            exact h1.drew
          generalize ((((w5.setCell ⟨pr, 0, none⟩ (.int .i64 (f : Int))).setCell ⟨pr, 1, none⟩ (.int .i64 (T : Int))).setCell ⟨pr, 2, none⟩ (.int .i64 (y : Int))).setCell ⟨pr, 3, none⟩ (.int .i64 (A : Int))).drew = w6 at *
          have E6 : Hid (Lives w0 w6 d F5 (m.crash x.keep) ∧ ListAt w0 w6 (.slice A1 Ls'.length c1) vs Ls') := ⟨⟨L5.out.disk.only O6 (fun z hz hm => by
              obtain rfl : z = pr := by simpa using hm
              exact FF.out.1.1 hz), L5.out.below.trans (O6.below L5.out.below.size (fun z hz => by
              obtain rfl : z = pr := by simpa using hz
              exact HPR.out)), L5.out.new⟩, T5.out.only O6 (fun z hz hm => (FF.out.2 z hz).2 (by simpa using hm))⟩
          have P6 : Hid (Held w6 po 33 co) := P5.out.1.only O6 (fun hm => by
            have e : po = pr := by simpa using hm
            exact P5.out.2 e.symm)
          clear P5 O6 q0 q1 q2 q3 r0 r1 r2 r3 z0 z1 z2 z3 L5 T5 B5 R5
          have r0 : w6.cell? ⟨pr, 0, none⟩ = some (.int .i64 (f : Int)) := R6.out.cell 0
          have r1 : w6.cell? ⟨pr, 1, none⟩ = some (.int .i64 (T : Int)) := R6.out.cell 1
          have r2 : w6.cell? ⟨pr, 2, none⟩ = some (.int .i64 (y : Int)) := R6.out.cell 2
          have r3 : w6.cell? ⟨pr, 3, none⟩ = some (.int .i64 (A : Int)) := R6.out.cell 3
          go_wp2_with fail
          refine bodyPost_ret (v := .tuple #[.slice A1 Ls'.length c1, .agg (bnd f T y A), .bool true]) ?_ rfl ?_
          · simp [results, Try.results9, go_sem, r0, r1, r2, r3, bnd]
          · exact ⟨_, vs, Ls', f, T, y, A, m, F5, rfl, E6.out.1, CC.out.size, CC.out.left, E6.out.2, fun z hz => (FF.out.2 z hz).1, by omega, P6.out, FF.out.1.2⟩
end Go.Proofs.Ytgbilhfpogdfeaa

namespace Go.Proofs.Ytgbilhfpogdfeaa
open Go.ChangeShapes Go.WideShapes Go.ChangeAt Go.RowKit Go.Joins Go.Deep Wal

instance : Inhabited WLife := ⟨⟨none, 0, 0, [], 0, none, 0, 0, []⟩⟩
/-- A slice of lives, read. -/
def WLives (w : World) (A : Option Addr) (n : Nat) (l : List WLife) : Prop :=
  l.length = n ∧ (∀ x ∈ l, WLifeGood w x) ∧ (0 < n → ∃ b off, A = some ⟨b, off, none⟩ ∧ b < w.heap.size ∧ ∀ i x, l[i]? = some x → ∀ j, j < 3 → w.cell? ⟨b, off + i * 3 + j, none⟩ = x.cells[j]?)
theorem cellsWLife : Try.prog.cellsOf 38 = 3 := by kernel_rfl
theorem bytesWLife : Try.prog.bytesOf 38 = 56 := by kernel_rfl

section
variable {H : Type} {enc : TypeId × Value → H} {W : World}
set_option maxRecDepth 100000 in
theorem open_wlives_trod {fuel : Nat} {v : Value} {x : DataW H × List MemPlace} (hf : DataW.trod enc Try.prog W 0 (fun _ => true) true fuel 22 [v] = some x) (hs : Small Try.prog 22 x.1) :
    ∃ A n c l, v = .slice A n c ∧ WLives W A n l ∧ n ≤ 3518437208884 := by
  rcases open_slice Try.underlying22 hf with ⟨hcs, hx⟩ | ⟨a, len, cap, m, n', D, Pl, hcs, _, hl, hm, hmm, hx, hc⟩
  · injection hcs with hcs
    exact ⟨none, 0, 0, [], hcs, ⟨rfl, by simp, fun h => by omega⟩, by omega⟩
  · injection hcs with hcs
    simp only [if_true] at hmm
    subst hmm
    rw [hx] at hs
    obtain ⟨h1, h2⟩ := small_slice Try.underlying22 hs
    rw [bytesWLife] at h1
    simp only [List.length_map, List.length_range, reachBytes] at h1
    have key : ∀ i, i < len → ∃ o : WLife, WLifeGood W o ∧ ∀ j, j < 3 → W.cell? (a.add (i * 3 + j)) = o.cells[j]? := fun i hi => by
      obtain ⟨cs', hcells, ht⟩ := hc i (by omega)
      rw [cellsWLife] at hcells
      obtain ⟨_, hlen, hat⟩ := World.cells?_some hcells
      have hsm := h2 (D i) (List.mem_map.2 ⟨i, List.mem_range.2 hi, rfl⟩)
      obtain ⟨y0, y1, y2, n2, hy, _, g0, g1, g2⟩ := trod_struct3 Try.underlying38 ht
      simp only [Prod.mk.injEq] at hy
      match cs', hlen with
      | [c0, c1, c2], _ =>
        have k0 : Try.prog.cellsOf 35 = 1 := by kernel_rfl
        have k1 : Try.prog.cellsOf 5 = 1 := cells5
        have k2 : Try.prog.cellsOf 36 = 1 := by kernel_rfl
        simp only [k0] at g0
        simp only [k1] at g1
        simp only [k2] at g2
        rw [hy.1] at hsm
        obtain ⟨A0, n0, c0', l0, e0, hw0, hn0⟩ := open_wops_trod g0 (small_struct Try.underlying38 hsm 0 _ _ rfl rfl)
        obtain ⟨z1, e1, _, w1⟩ := DataW.trod_int Try.underlying5 g1
        obtain ⟨A2, n2', c2', l2, e2, hb2, hn2, hlt2, _⟩ := open_bls g2
        injection e1 with e1
        have u := u8_nat w1
        refine ⟨⟨A0, n0, c0', l0, z1.toNat, A2, n2', c2', l2⟩, ⟨hw0, hn0, u.2, hb2, hn2, hlt2⟩, fun j hj => ?_⟩
        have := hat j hj
        rw [Go.Deep.add_add] at this
        rw [this]
        match j, hj with
        | 0, _ => simp [WLife.cells, e0]
        | 1, _ =>
          show some c1 = some (.int .u8 ((z1.toNat : Nat) : Int))
          rw [e1, u.1]
        | 2, _ => simp [WLife.cells, e2]
    obtain ⟨f, hf'⟩ := choose_lt (α := WLife) (p := fun i o => WLifeGood W o ∧ ∀ j, j < 3 → W.cell? (a.add (i * 3 + j)) = o.cells[j]?) key
    refine ⟨some a, len, m, (List.range len).map f, hcs, ⟨by simp, fun o ho => ?_, fun hp => ?_⟩, by omega⟩
    · obtain ⟨i, hi, rfl⟩ := List.mem_map.1 ho
      exact (hf' i (List.mem_range.1 hi)).1
    · obtain ⟨b, off, spot⟩ := a
      have h0 := (hf' 0 hp).2 0 (by omega)
      have hspot : spot = none := by
        have := World.cell?_spot (h0.trans (rfl : (f 0).cells[0]? = some _))
        simpa [Addr.add] using this
      subst hspot
      refine ⟨b, off, rfl, by simpa [Addr.add] using block_lt (h0.trans (rfl : (f 0).cells[0]? = some _)), fun i o hio j hj => ?_⟩
      rw [List.getElem?_map] at hio
      obtain ⟨i', hi', rfl⟩ := Option.map_eq_some_iff.1 hio
      have hil : i < len := by
        rcases Nat.lt_or_ge i len with h' | h'
        · exact h'
        · rw [List.getElem?_eq_none (by simpa using h')] at hi'; cases hi'
      rw [List.getElem?_range hil] at hi'
      injection hi' with hi'
      subst hi'
      have h1 := (hf' i hil).2 j hj
      have e : (⟨b, off, none⟩ : Addr).add (i * 3 + j) = ⟨b, off + i * 3 + j, none⟩ := by rw [add_plain]; congr 1; omega
      rw [← e, h1]
set_option maxRecDepth 100000 in
theorem open_wlives {r : Reach} {b0 : Nat} {v : Value} {d : DataW H} {p : List MemPlace} (hv : Value.okWide Try.prog W r b0 22 v) (h : DataW.Trod enc Try.prog W 0 (fun _ => true) true 22 v d p) (hs : Small Try.prog 22 d) :
    ∃ A n c l, v = .slice A n c ∧ WLives W A n l ∧ n ≤ 3518437208884 := by
  obtain ⟨A, n, c, rfl⟩ := okWide_slice Try.underlying22 hv
  obtain ⟨fuel, hf⟩ := h
  exact open_wlives_trod (x := (d, p)) hf hs
/-- The k-th of the lives, in memory. -/
theorem WLives.at_ {A : Option Addr} {n k : Nat} {l : List WLife} (h : WLives W A n l) (hk : k < n) : ∃ b off x, A = some ⟨b, off, none⟩ ∧ b < W.heap.size ∧ WLifeGood W x ∧
    W.cell? ⟨b, off + k * 3, none⟩ = some (.slice x.A x.N x.c) ∧ W.cell? ⟨b, off + k * 3 + 1, none⟩ = some (.int .u8 (x.fuel : Int)) ∧ W.cell? ⟨b, off + k * 3 + 2, none⟩ = some (.slice x.kA x.kn x.kc) := by
  obtain ⟨h1, h2, h3⟩ := h
  obtain ⟨b, off, e, hb, hc⟩ := h3 (by omega)
  have hkl : k < l.length := by omega
  have hx := hc k _ (List.getElem?_eq_getElem hkl)
  exact ⟨b, off, l[k], e, hb, h2 _ (List.getElem_mem hkl), hx 0 (by omega), hx 1 (by omega), hx 2 (by omega)⟩
end

/-- A list of batches, cut. -/
theorem ListAt.cut {w0 w : World} {A : Option Addr} {c S : Nat} {vs : List Value} {Ls : List (List ByteArray)} (h : ListAt w0 w (.slice A Ls.length c) vs Ls) (hS : S ≤ Ls.length) : ListAt w0 w (.slice A S c) (vs.take S) (Ls.take S) := by
  have hl : (Ls.take S).length = S := by rw [List.length_take]; omega
  refine ⟨?_, fun k u l h1 h2 => ?_⟩
  · rw [hl]
    have h1 := h.row
    refine ⟨by rw [List.length_take, h1.1]; omega, ?_⟩
    rcases h1.2 with ⟨e, h0⟩ | ⟨g, cap, cur, e, hg, hh, hn, hm, hs, ht⟩
    · injection e with e1 e2 e3
      have : S = 0 := by omega
      subst e1 e3 this
      exact .inl ⟨rfl, rfl⟩
    · injection e with e1 e2 e3
      subst e1 e3
      refine .inr ⟨g, c, cur, rfl, hg, hh, by omega, hm, hs, ?_⟩
      rw [← ht, List.take_take]
      congr 1
      omega
  · rw [List.getElem?_take] at h1 h2
    split at h1
    · rename_i hk
      rw [if_pos hk] at h2
      exact h.each k u l h1 h2
    · cases h1
end Go.Proofs.Ytgbilhfpogdfeaa
