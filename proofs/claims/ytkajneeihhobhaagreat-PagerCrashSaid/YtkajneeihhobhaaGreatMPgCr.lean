/-
  PagerCrash: the law's walk.
-/
import Derived.Test.YtkajneeihhobhaaGreatMPgLv
namespace Go.Proofs.YtkajneeihhobhaaGreat.pagerCrash
open Go.ChangeShapes Go.WideShapes Go.ChangeAt Go.RowKit Pgr Wal

theorem clamp_small {M : Nat} (h0 : 1 ≤ M) (h : M ≤ 4096) : clampN (M : Int) = M := by
  unfold clampN
  rw [if_neg (by omega), if_neg (by omega)]
  omega
theorem side_of {w0 w : World} {p d reg N : Nat} {tx : Value} {C : List Com} {P : PS} (h : HoldP w0 w p d reg N tx C P) : PSide w0 w false p d reg N tx C P :=
  ⟨h.pag, h.inv, h.ids, h.below, h.new, by rw [h.calm]; omega, fun e => by cases e⟩
/-- The disk rests behind a crash: it tells of the commits D; the document has C. -/
structure RestC (w0 w : World) (d reg N r : Nat) (D C : List Com) (Ls : List (List (Nat × List Nat))) (F : List Nat) (m : Dsk.DM) (v : Value) (vs : List Value) (K : List Nat) : Prop where
  disk : DiskAt w d F m
  len : m.dur.length = reg + N
  wait : m.wait = []
  up : m.dead = false
  tells : ∃ st fi, Pgr.Tells N reg (holds m.dur) D st fi
  rb : RBase w0 w r N (reg - 1) Ls v vs K
  far : ∀ x ∈ K, x ∉ F
  sims : Sims N C Ls
  below : Below w0.heap.size w0 w
  new : ∀ x ∈ F, w0.heap.size ≤ x
theorem RestC.under {w0 w w' : World} {d reg N r : Nat} {D C : List Com} {Ls : List (List (Nat × List Nat))} {F : List Nat} {m : Dsk.DM} {v : Value} {vs : List Value} {K : List Nat} (h : RestC w0 w d reg N r D C Ls F m v vs K) (k : Below w.heap.size w w') : RestC w0 w' d reg N r D C Ls F m v vs K :=
  ⟨h.disk.below k, h.len, h.wait, h.up, h.tells, h.rb.under k, h.far, h.sims, h.below.trans (k.mono h.below.size), h.new⟩
/-- The first crash. -/
theorem crashed {w0 w w' : World} {d reg N r least : Nat} {C : List Com} {Ls : List (List (Nat × List Nat))} {F : List Nat} {m : Dsk.DM} {v : Value} {vs : List Value} {K : List Nat} (h : LEnd w0 w d reg N r C Ls F m v vs K least) (l : List Bool) (ht : Turned w d F w' (m.crash l)) : ∃ k F', least ≤ k ∧ k ≤ C.length ∧ (m.crash l).fuel = -1 ∧ RestC w0 w' d reg N r (C.take k) C Ls F' (m.crash l) v vs K := by
  obtain ⟨F', hd, ho, hf⟩ := ht
  obtain ⟨k, h1, h2, st, fi, h3⟩ := h.tells l
  refine ⟨k, F', h1, h2, rfl, hd, ?_, rfl, rfl, ⟨st, fi, h3⟩, h.rb.only ho (fun x hx hm => h.far x hx hm), fun x hx hm => ?_, h.sims, h.below.trans (ho.below h.below.size h.new), fun x hx => ?_⟩
  · show (Dsk.crashD m.wait l m.dur).length = _
    rw [Dsk.crashD_length]
    exact h.len
  · rcases hf x hm with e | e
    · exact h.far x hx e
    · have := (h.rb.lt x hx).2; omega
  · rcases hf x hx with e | e
    · exact h.new x e
    · exact Nat.le_trans h.below.size e
/-- A crash of a disk that rests. -/
theorem RestC.crashed {w0 w w' : World} {d reg N r : Nat} {D C : List Com} {Ls : List (List (Nat × List Nat))} {F : List Nat} {m : Dsk.DM} {v : Value} {vs : List Value} {K : List Nat} (h : RestC w0 w d reg N r D C Ls F m v vs K) (l : List Bool) (ht : Turned w d F w' (m.crash l)) : ∃ F', (m.crash l).fuel = -1 ∧ RestC w0 w' d reg N r D C Ls F' (m.crash l) v vs K := by
  obtain ⟨F', hd, ho, hf⟩ := ht
  have e : (m.crash l).dur = m.dur := by
    show Dsk.crashD m.wait l m.dur = _
    rw [h.wait]
    rfl
  refine ⟨F', rfl, hd, by rw [e]; exact h.len, rfl, rfl, by rw [e]; exact h.tells, h.rb.only ho (fun x hx hm => h.far x hx hm), fun x hx hm => ?_, h.sims, h.below.trans (ho.below h.below.size h.new), fun x hx => ?_⟩
  · rcases hf x hm with e | e
    · exact h.far x hx e
    · have := (h.rb.lt x hx).2; omega
  · rcases hf x hx with e | e
    · exact h.new x e
    · exact Nat.le_trans h.below.size e
/-- The fuel of a disk that rests is set. -/
theorem RestC.fuelled {w0 w w' : World} {d reg N r : Nat} {D C : List Com} {Ls : List (List (Nat × List Nat))} {F : List Nat} {m : Dsk.DM} {v : Value} {vs : List Value} {K : List Nat} (h : RestC w0 w d reg N r D C Ls F m v vs K) (x : Int) (ht : Turned w d F w' (m.setFuel x)) : ∃ F', RestC w0 w' d reg N r D C Ls F' (m.setFuel x) v vs K := by
  obtain ⟨F', hd, ho, hf⟩ := ht
  refine ⟨F', hd, h.len, h.wait, h.up, h.tells, h.rb.only ho (fun x hx hm => h.far x hx hm), fun x hx hm => ?_, h.sims, h.below.trans (ho.below h.below.size h.new), fun x hx => ?_⟩
  · rcases hf x hm with e | e
    · exact h.far x hx e
    · have := (h.rb.lt x hx).2; omega
  · rcases hf x hx with e | e
    · exact h.new x e
    · exact Nat.le_trans h.below.size e
/-- It is opened. -/
theorem r_open (w0 w : World) (d reg N r : Nat) (D C : List Com) (Ls : List (List (Nat × List Nat))) (F : List Nat) (m : Dsk.DM) (v : Value) (vs : List Value) (K : List Nat) (h : RestC w0 w d reg N r D C Ls F m v vs K) (h2 : 2 ≤ reg) (hN : 1 ≤ N) (hD : D.length < 1152921504606846976) :
    Calls Tryz.prog 22 #[.pointer (some ⟨d, 0, none⟩), .int .i64 (reg : Int)] w fun e w' => ∃ P, e = .returned (.tuple #[.pointer (some ⟨P.p, 0, none⟩), .int .i64 0]) ∧ RestC w0 w' d reg N r D C Ls P.F m v vs K ∧ (-1 ≤ m.fuel → PSide w0 w' false P.p d reg N (.pointer none) D P) ∧ P.s.synced = D.length ∧ (∀ x ∈ K, x ∉ P.foot) := by
  obtain ⟨st, fi, ht⟩ := h.tells
  have e1 : m.dur.length - reg = N := by have := h.len; omega
  refine (popen_any w d F m reg st fi D h.disk h2 (by have := h.len; omega) h.up h.wait hD (by rw [e1]; exact ht)).mono ?_
  rintro e w' ⟨P, rfl, k⟩
  have hf : ∀ x ∈ P.foot, x ∈ F ∨ w.heap.size ≤ x := fun x hx => by
    rcases pmem_foot.1 hx with e2 | e2 | e2
    · exact .inr (k.new x (.inl e2))
    · exact .inr (k.new x (.inr (.inl e2)))
    · rcases List.mem_append.1 e2 with e3 | e3
      · exact .inr (k.new x (.inr (.inr e3)))
      · exact k.foot x e3
  have hnew : ∀ x ∈ P.foot, w0.heap.size ≤ x := fun x hx => (hf x hx).elim (h.new x) (fun e => Nat.le_trans h.below.size e)
  have hb : Below w0.heap.size w0 w' := h.below.trans (k.only.below h.below.size h.new)
  have hK : ∀ x ∈ K, x ∉ P.foot := fun x hx hm => by
    rcases hf x hm with e | e
    · exact h.far x hx e
    · have := (h.rb.lt x hx).2; omega
  have hdk := k.pag.log.disk
  rw [k.d_, k.m_] at hdk
  exact ⟨P, rfl, ⟨hdk, h.len, h.wait, h.up, h.tells, h.rb.only k.only (fun x hx hm => h.far x hx hm), fun x hx hm => hK x hx (in_foot hm), h.sims, hb, fun x hx => hnew x (in_foot hx)⟩, fun hm => ⟨k.pag, k.inv, ⟨rfl, k.d_, k.reg, by rw [k.n, e1]⟩, hb, hnew, by rw [k.m_]; exact hm, fun e => by cases e⟩, k.syn, hK⟩
/-- The document's commits are cut. -/
theorem RBase.cut {w0 w : World} {r bn rg k c : Nat} {A : Option Addr} {Ls : List (List (Nat × List Nat))} {vs : List Value} {K : List Nat} (h : RBase w0 w r bn rg Ls (.slice A Ls.length c) vs K) (hk : k ≤ Ls.length) :
    ∃ K', RBase w0 (w.setCell ⟨r, 2, none⟩ (.slice A k c)) r bn rg (Ls.take k) (.slice A k c) (vs.take k) K' ∧ ∀ x ∈ K', x ∈ K := by
  have ho : Only [r] w (w.setCell ⟨r, 2, none⟩ (.slice A k c)) := (Only.refl _ w).setCell (.inl (by simp)) _
  have hl : (Ls.take k).length = k := by rw [List.length_take]; omega
  have hown : (Value.slice A k c).ownBlock = (Value.slice A Ls.length c).ownBlock := by cases A <;> rfl
  refine ⟨r :: ((Value.slice A k c).ownBlock.toList ++ (vs.take k).flatMap fun u => u.ownBlock.toList), ⟨?_, ⟨?_, fun j u L h1 h2 => ?_⟩, h.new, fun x => ?_⟩, fun x hx => ?_⟩
  · exact h.pg.set_ 2 (.slice A k c)
  · rw [hl]
    have h1 := ho.row h.puts.row (fun x hx hm => by
      have e : x = r := by simpa using hm
      exact h.pg.ne_row h.puts.row (by decide) x hx e)
    refine ⟨by rw [List.length_take, h1.1]; omega, ?_⟩
    rcases h1.2 with ⟨e, h0⟩ | ⟨g, cap, cur, e, hg, hh, hn, hm, hs, ht⟩
    · injection e with e1 e2 e3
      have : k = 0 := by omega
      subst e1 e3 this
      exact .inl ⟨rfl, rfl⟩
    · injection e with e1 e2 e3
      subst e1 e3
      refine .inr ⟨g, c, cur, rfl, hg, hh, by omega, hm, hs, ?_⟩
      rw [← ht, List.take_take]
      congr 1
      omega
  · rw [List.getElem?_take] at h1 h2
    split at h1
    · rename_i hj
      rw [if_pos hj] at h2
      obtain ⟨h3, h4⟩ := h.puts.each j u L h1 h2
      refine ⟨h3, ho.row h4 (fun x hx hm => ?_)⟩
      have e : x = r := by simpa using hm
      exact h.pg.ne_row h4 (by decide) x hx e
    · cases h1
  · simp only [List.mem_cons, List.mem_append, Option.mem_toList, List.mem_flatMap]
  · simp only [List.mem_cons, List.mem_append, Option.mem_toList, List.mem_flatMap] at hx
    rw [hown] at hx
    refine (h.foot x).2 ?_
    rcases hx with e | e | ⟨u, e1, e2⟩
    · exact .inl e
    · exact .inr (.inl e)
    · exact .inr (.inr ⟨u, List.mem_of_mem_take e1, e2⟩)
/-- Behind an opening, and the cut of the document's commits. -/
theorem btw_cut {w0 w w1 : World} {d reg N r k c : Nat} {A : Option Addr} {C : List Com} {Ls : List (List (Nat × List Nat))} {F : List Nat} {m : Dsk.DM} {vs : List Value} {K : List Nat} {P : PS} (h : RestC w0 w d reg N r (C.take k) C Ls F m (.slice A Ls.length c) vs K) (hp : PSide w0 w false P.p d reg N (.pointer none) (C.take k) P) (hK : ∀ x ∈ K, x ∉ P.foot) (hk : k ≤ C.length) (hb : Below w.heap.size w w1) :
    ∃ K', Btw w0 (w1.setCell ⟨r, 2, none⟩ (.slice A k c)) false P.p d reg N r (C.take k) (Ls.take k) P (.slice A k c) (vs.take k) K' := by
  have hl := h.sims.len
  obtain ⟨K', h1, h2⟩ := RBase.cut (h.rb.under hb) (k := k) (by omega)
  have ho : Only [r] w1 (w1.setCell ⟨r, 2, none⟩ (.slice A k c)) := (Only.refl _ w1).setCell (.inl (by simp)) _
  refine ⟨K', (hp.under hb).only ho (fun x hx => ?_), h1, fun x hx => hK x (h2 x hx), h.sims.take k⟩
  have e : x = r := by simpa using hx
  rw [e]
  exact ⟨hK r ((h.rb.foot r).2 (.inl rfl)), h.rb.new⟩
end Go.Proofs.YtkajneeihhobhaaGreat.pagerCrash
