/-
  pager: a pager of a law's own on a disk that doesn't run out, and the calls on it. · pager: the document's examples (docketlaw04's fixed).
-/
import Derived.Test.YtkajneeihhobhaaGreatMPgH
import Derived.Test.YtkajneeihhobhaaGreatMPgB
import Derived.Test.YtkajneeihhobhaaGreatMDisk
namespace Go.Proofs.YtkajneeihhobhaaGreat
open Go.RowKit Go.Maps Wal Pgr

structure HoldP (w0 w : World) (p d reg N : Nat) (tx : Value) (C : List Com) (P : PS) : Prop where
  pag : PagAt w P tx
  inv : PInv P C
  ids : P.p = p ∧ P.d = d ∧ P.reg = reg ∧ P.N = N
  below : Below w0.heap.size w0 w
  new : ∀ x ∈ P.foot, w0.heap.size ≤ x
  calm : P.m.fuel = -1
/-- No transaction is open. -/
def Hold (w0 w : World) (p d reg N : Nat) (C : List Com) : Prop := ∃ P, HoldP w0 w p d reg N (.pointer none) C P
/-- The transaction at t is open, g is what it has written. -/
def HoldT (w0 w : World) (p d reg N t tm : Nat) (g : Com) (C : List Com) : Prop := ∃ P, HoldP w0 w p d reg N (.pointer (some ⟨t, 0, none⟩)) C P ∧ TxAt w P t tm g ∧ w0.heap.size ≤ t ∧ w0.heap.size ≤ tm
section
variable {w0 w w' : World} {p d reg N t tm : Nat} {tx : Value} {g g' : Com} {C C' : List Com} {P P' : PS}
theorem HoldP.moved (h : HoldP w0 w p d reg N tx C P) (hp : PagAt w' P' tx) (hm : Moved w w' P P') (hf : Fuels P.m P'.m) (hi : PInv P' C') : HoldP w0 w' p d reg N tx C' P' :=
  ⟨hp, hi, ⟨hm.p.trans h.ids.1, hm.d.trans h.ids.2.1, hm.reg.trans h.ids.2.2.1, hm.n.trans h.ids.2.2.2⟩, h.below.trans (hm.only.below h.below.size h.new), fun x hx => by
    rcases hm.foot x hx with h1 | h1
    · exact h.new x h1
    · exact Nat.le_trans h.below.size h1, hf.1 h.calm⟩
theorem HoldP.under (h : HoldP w0 w p d reg N tx C P) (k : Below w.heap.size w w') : HoldP w0 w' p d reg N tx C P := ⟨h.pag.under k, h.inv, h.ids, h.below.trans (k.mono h.below.size), h.new, h.calm⟩
theorem Hold.under (h : Hold w0 w p d reg N C) (k : Below w.heap.size w w') : Hold w0 w' p d reg N C := by
  obtain ⟨P, hP⟩ := h
  exact ⟨P, hP.under k⟩
theorem HoldT.under (h : HoldT w0 w p d reg N t tm g C) (k : Below w.heap.size w w') : HoldT w0 w' p d reg N t tm g C := by
  obtain ⟨P, hP, hT, h1, h2⟩ := h
  exact ⟨P, hP.under k, hT.under k, h1, h2⟩
theorem Hold.below (h : Hold w0 w p d reg N C) : Below w0.heap.size w0 w := by
  obtain ⟨P, hP⟩ := h
  exact hP.below
theorem HoldT.below (h : HoldT w0 w p d reg N t tm g C) : Below w0.heap.size w0 w := by
  obtain ⟨P, hP, _⟩ := h
  exact hP.below
theorem HoldT.lt (h : HoldT w0 w p d reg N t tm g C) : p < w.heap.size ∧ tm < w.heap.size ∧ t < w.heap.size := by
  obtain ⟨P, hP, hT, _⟩ := h
  exact ⟨by have := hP.pag.held.lt; rwa [hP.ids.1] at this, hT.dirty.lt, hT.held.lt⟩
theorem HoldT.fine (h : HoldT w0 w p d reg N t tm g C) : Fine N g := by
  obtain ⟨P, hP, hT, _⟩ := h
  intro b l hb
  have := hT.dirty.blk hb
  rwa [hP.ids.2.2.2] at this
end
theorem calm_dead {w0 w : World} {p d reg N : Nat} {tx : Value} {C : List Com} {P : PS} (h : HoldP w0 w p d reg N tx C P) : P.dead = false ∧ P.m.dead = false := ⟨h.inv.alive, h.inv.inv.alive⟩

theorem l_make (w0 w : World) (d : Nat) (F : List Nat) (M log : Nat) (hD : DiskAt w d F (Dsk.fresh M)) (hb : Below w0.heap.size w0 w) (hF : ∀ x ∈ F, w0.heap.size ≤ x) (h2 : 2 ≤ log) (hl : log < M) :
    Calls Tryz.prog 12 #[.pointer (some ⟨d, 0, none⟩), .int .i64 (log : Int)] w fun e w' => ∃ p, e = .returned (.tuple #[.pointer (some ⟨p, 0, none⟩), .int .i64 0]) ∧ Hold w0 w' p d log (M - log) [] := by
  have hmost : M ≤ 4096 := by
    have := hD.good.most
    simpa [Dsk.fresh] using this
  refine (pmake_fresh w d F M log hD h2 hl).mono ?_
  rintro e w' ⟨P, rfl, hP⟩
  have hlen : (Dsk.fresh M).dur.length = M := by simp [Dsk.fresh]
  obtain ⟨m', e1, hi, hw, hl', hf, hd⟩ := inv_make (m := Dsk.fresh M) (frm := 0) (n := log) (by omega) rfl h2 (by omega) rfl
  have es : P.s = openS 0 (log - 1) 0 1 0 [] := by rw [hP.s_, e1]
  have em : P.m = m' := by rw [hP.m_, e1]
  refine ⟨P.p, rfl, P, hP.pag, ?_, ⟨rfl, hP.d_, hP.reg, hP.n⟩, hb.trans (hP.only.below hb.size hF), fun x hx => ?_, by rw [em]; exact hf⟩
  · have hz : sec (holds m'.dur (P.reg + 0)) = Z ∧ ∀ b, sec (holds m'.dur (P.reg + b)) = Z := by
      have key : ∀ b, sec (holds m'.dur (P.reg + b)) = Z := fun b => by
        rw [hd, holds_set_other (by rw [hP.reg]; omega)]
        show sec (holds (Dsk.fresh M).dur _) = Z
        unfold holds Dsk.fresh
        dsimp only
        rw [List.getD_eq_getElem?_getD, List.getElem?_replicate]
        split <;> rfl
      exact ⟨key 0, key⟩
    refine ⟨?_, by rw [es]; rfl, by rw [es, hP.reg]; show log - 1 + 1 = log; omega, by rw [es]; exact Nat.le_refl _, fun g hg => (by cases hg), by rw [em, hw]; exact fun p hp => (by cases hp), fun b _ _ => ?_, by rw [hP.none_, List.drop_nil]; rfl, by rw [em, hw]; exact Nat.zero_le _, hP.alive⟩
    · rw [es, em]
      exact hi
    · rw [em, hz.2 b]
      simp [At]
  · rcases pmem_foot.1 hx with h1 | h1 | h1
    · exact Nat.le_trans hb.size (hP.new x (.inl h1))
    · exact Nat.le_trans hb.size (hP.new x (.inr (.inl h1)))
    · rcases List.mem_append.1 h1 with h1 | h1
      · exact Nat.le_trans hb.size (hP.new x (.inr (.inr h1)))
      · rcases hP.foot x h1 with h3 | h3
        · exact hF x h3
        · exact Nat.le_trans hb.size h3
theorem l_begin (w0 w : World) (p d reg N : Nat) (C : List Com) (h : Hold w0 w p d reg N C) :
    Calls Tryz.prog 14 #[.pointer (some ⟨p, 0, none⟩)] w fun e w' => ∃ t tm, e = .returned (.tuple #[.pointer (some ⟨t, 0, none⟩), .int .i64 0]) ∧ HoldT w0 w' p d reg N t tm (fun _ => none) C := by
  obtain ⟨P, hP⟩ := h
  obtain ⟨rfl, rfl, rfl, rfl⟩ := hP.ids
  refine (begin_any w P hP.pag hP.inv.alive hP.inv.inv.alive).mono ?_
  rintro e w' ⟨t, tm, rfl, ht, htm, h1, h2, h3⟩
  have hO : Only P.foot w w' := h3.mono (fun x hx => .inl (pmem_foot.2 (.inl (by simpa using hx))))
  exact ⟨t, tm, rfl, P, ⟨h1, hP.inv, ⟨rfl, rfl, rfl, rfl⟩, hP.below.trans (hO.below hP.below.size hP.new), hP.new, hP.calm⟩, h2, Nat.le_trans hP.below.size ht, Nat.le_trans hP.below.size htm⟩
theorem HoldT.marked {w0 w : World} {p d reg N t tm : Nat} {g : Com} {C : List Com} (h : HoldT w0 w p d reg N t tm g C) : HoldT w0 (w.setCell ⟨p, 5, none⟩ (.bool false)) p d reg N t tm g C := by
  obtain ⟨P, hP, hT, h1, h2⟩ := h
  obtain ⟨rfl, rfl, rfl, rfl⟩ := hP.ids
  have M := hP.pag.marked false
  rw [PS.alive_same hP.inv.alive] at M
  exact ⟨P, hP.moved M.1 M.2 (Fuels.refl _) hP.inv, hT.moved M.2, h1, h2⟩
set_option maxRecDepth 100000 in
theorem l_busy (w0 w : World) (p d reg N t tm : Nat) (g : Com) (C : List Com) (h : HoldT w0 w p d reg N t tm g C) :
    Calls Tryz.prog 14 #[.pointer (some ⟨p, 0, none⟩)] w fun e w' => e = .returned (.tuple #[.pointer none, .int .i64 6]) ∧ HoldT w0 w' p d reg N t tm g C := by
  have HM := Lib.hid h.marked
  obtain ⟨P, hP, hT, h1, h2⟩ := h
  obtain ⟨rfl, rfl, rfl, rfl⟩ := hP.ids
  have TA := palive_any w P _ hP.pag
  rw [hP.inv.alive, hP.inv.inv.alive] at TA
  have TA := Lib.hid TA
  have M := hP.pag.setDead false
  have c4 : (w.setCell ⟨P.p, 5, none⟩ (.bool false)).cell? ⟨P.p, 4, none⟩ = some (.pointer (some ⟨t, 0, none⟩)) := M.held.cell 4
  clear M hP hT h1 h2
  go_enter Tryz.func14, Tryz.ntmps14
  go_wp2_with fail
  refine TA.out.mono ?_
  rintro e w1 ⟨rfl, rfl⟩
  clear TA
  have ed : deadErr (false || false) = 0 := rfl
  rw [show (false || false) = false from rfl] at ed ⊢
  rw [ed]
  generalize w.setCell ⟨P.p, 5, none⟩ (.bool false) = w1 at *
  go_wp2_with fail
  go_ret2
  exact ⟨rfl, HM.out⟩
/-- What a transaction tells of a block. -/
def seeB (C : List Com) (g : Com) (b : Nat) : List Nat := (g b).getD (At C b)
theorem seeB_blk {N : Nat} {C : List Com} {g : Com} (hC : ∀ x ∈ C, Fine N x) (hg : Fine N g) (b : Nat) : Blk (seeB C g b) := by
  unfold seeB
  cases hb : g b with
  | some l => exact (hg b l hb).2
  | none =>
    show Blk (At C b)
    have key : ∀ (D : List Com) (z : List Nat), Blk z → (∀ x ∈ D, Fine N x) → Blk (D.foldl (fun z g => (g b).getD z) z) := by
      intro D
      induction D with
      | nil => intro z hz _; exact hz
      | cons x r ih =>
        intro z hz hD
        refine ih _ ?_ (fun y hy => hD y (by simp [hy]))
        rcases hx : x b with _ | l
        · exact (show Blk ((x b).getD z) by rw [hx]; exact hz)
        · exact (show Blk ((x b).getD z) by rw [hx]; exact (hD x (by simp) b l hx).2)
    exact key C Z Blk.zero hC
theorem l_write (w0 w : World) (p d reg N t tm : Nat) (g : Com) (C : List Com) (b : Nat) (A : Option Addr) (n c : Nat) (l : List Nat) (h : HoldT w0 w p d reg N t tm g C) (hb : b < N) (hl : Bts w A n l) (hn : n ≤ 512) (hA : 0 < n → ∀ x, A = some x → x.block ≠ p ∧ x.block ≠ tm) :
    Calls Tryz.prog 27 #[.pointer (some ⟨t, 0, none⟩), .int .i64 (b : Int), .slice A n c] w fun e w' => e = .returned (.int .i64 0) ∧ HoldT w0 w' p d reg N t tm (upd g b (sec l)) C ∧ Only [p, tm] w w' := by
  obtain ⟨P, hP, hT, h1, h2⟩ := h
  obtain ⟨rfl, rfl, rfl, rfl⟩ := hP.ids
  refine (twrite_any w P t tm g b A n c l hP.pag hT hb hP.inv.alive hP.inv.inv.alive hl hn hA).mono ?_
  rintro e w' ⟨rfl, h3, h4, h5⟩
  refine ⟨rfl, ⟨P, ⟨h3, hP.inv, ⟨rfl, rfl, rfl, rfl⟩, hP.below.trans (h5.below hP.below.size (fun x hx => ?_)), hP.new, hP.calm⟩, h4, h1, h2⟩, h5⟩
  simp only [List.mem_cons, List.not_mem_nil, or_false] at hx
  rcases hx with rfl | rfl
  · exact hP.new _ (pmem_foot.2 (.inl rfl))
  · exact h2
theorem lp_read (w0 w : World) (p d reg N t tm : Nat) (g : Com) (C : List Com) (P : PS) (b : Nat) (hP : HoldP w0 w p d reg N (.pointer (some ⟨t, 0, none⟩)) C P) (hT : TxAt w P t tm g) (hb : b < N) :
    Calls Tryz.prog 28 #[.pointer (some ⟨t, 0, none⟩), .int .i64 (b : Int)] w fun e w' => ∃ q T, e = .returned (.tuple #[.slice (some ⟨q, 0, none⟩) 512 512, .int .i64 0]) ∧ w.heap.size ≤ q ∧ Held w' q T ((seeB C g b).map u8v).toArray ∧ HoldP w0 w' p d reg N (.pointer (some ⟨t, 0, none⟩)) C P ∧ TxAt w' P t tm g ∧ Only [p] w w' := by
  obtain ⟨rfl, rfl, rfl, rfl⟩ := hP.ids
  refine (tread_any w P t tm g b hP.pag hT hb hP.inv.alive hP.inv.inv.alive).mono ?_
  rintro e w' ⟨⟨⟨q, T, rfl, hq, hh⟩, hp, ho⟩, hk⟩
  rw [PS.alive_same hP.inv.alive] at hp
  have es : P.got g b = seeB C g b := by
    unfold PS.got seeB
    rw [hP.inv.at_ hb]
  rw [es] at hh
  refine ⟨q, T, rfl, hq, hh, ⟨hp, hP.inv, ⟨rfl, rfl, rfl, rfl⟩, hP.below.trans (ho.below hP.below.size (fun x hx => ?_)), hP.new, hP.calm⟩, hk, ho⟩
  have hx : x = P.p := by simpa using hx
  rw [hx]
  exact hP.new _ (pmem_foot.2 (.inl rfl))
theorem l_read (w0 w : World) (p d reg N t tm : Nat) (g : Com) (C : List Com) (b : Nat) (h : HoldT w0 w p d reg N t tm g C) (hb : b < N) :
    Calls Tryz.prog 28 #[.pointer (some ⟨t, 0, none⟩), .int .i64 (b : Int)] w fun e w' => ∃ q T, e = .returned (.tuple #[.slice (some ⟨q, 0, none⟩) 512 512, .int .i64 0]) ∧ w.heap.size ≤ q ∧ Held w' q T ((seeB C g b).map u8v).toArray ∧ HoldT w0 w' p d reg N t tm g C ∧ Only [p] w w' := by
  obtain ⟨P, hP, hT, h1, h2⟩ := h
  refine (lp_read w0 w p d reg N t tm g C P b hP hT hb).mono ?_
  rintro e w' ⟨q, T, rfl, hq, hh, k1, k2, k3⟩
  exact ⟨q, T, rfl, hq, hh, ⟨P, k1, k2, h1, h2⟩, k3⟩
/-- A transaction at t that is open no more. -/
def EndT (w : World) (p t : Nat) : Prop := Held w t 91 #[.pointer (some ⟨p, 0, none⟩), .map none] ∧ t ≠ p
structure LCom (w0 w' : World) (p d reg N t : Nat) (C : List Com) (g : Com) (e : Ending) : Prop where
  none_ : (dirt N g).length = 0 → e = .returned (.tuple #[.int .i64 (C.length : Nat), .int .i64 0]) ∧ Hold w0 w' p d reg N C
  big : (dirt N g).length ≠ 0 → ¬ ((dirt N g).length ≤ 1024 ∧ need (rows N g) ≤ reg - 1) → e = .returned (.tuple #[.int .i64 0, .int .i64 13]) ∧ Hold w0 w' p d reg N C
  some_ : (dirt N g).length ≠ 0 → (dirt N g).length ≤ 1024 ∧ need (rows N g) ≤ reg - 1 → e = .returned (.tuple #[.int .i64 ((C.length : Int) + 1), .int .i64 0]) ∧ Hold w0 w' p d reg N (C ++ [g])
  ended : EndT w' p t
theorem hold_over {w0 w w' : World} {p d reg N t : Nat} {C C' : List Com} {P : PS} (hP : HoldP w0 w p d reg N (.pointer (some ⟨t, 0, none⟩)) C P) (ht : w0.heap.size ≤ t) (h : Over w w' P t C') : Hold w0 w' p d reg N C' ∧ EndT w' p t := by
  obtain ⟨P', h1, h2, h3, h4, h5⟩ := h
  refine ⟨⟨P', h1, h4, ⟨h2.p.trans hP.ids.1, h2.d.trans hP.ids.2.1, h2.reg.trans hP.ids.2.2.1, h2.n.trans hP.ids.2.2.2⟩, hP.below.trans (h2.only.below hP.below.size (fun x hx => ?_)), fun x hx => ?_, h3.1 hP.calm⟩, ?_⟩
  · rcases List.mem_cons.1 hx with rfl | hx
    · exact ht
    · exact hP.new x hx
  · rcases h2.foot x hx with h6 | h6
    · exact hP.new x h6
    · exact Nat.le_trans hP.below.size h6
  · have e1 : P'.p = p := h2.p.trans hP.ids.1
    rw [← e1]
    exact ⟨h5.held, h5.ne⟩
theorem lp_commit (w0 w : World) (p d reg N t tm : Nat) (g : Com) (C : List Com) (P : PS) (hP : HoldP w0 w p d reg N (.pointer (some ⟨t, 0, none⟩)) C P) (hT : TxAt w P t tm g) (h1 : w0.heap.size ≤ t) (hC : C.length < 1152921504606846976) :
    Calls Tryz.prog 16 #[.pointer (some ⟨t, 0, none⟩)] w fun e w' => LCom w0 w' p d reg N t C g e ∧ Only (t :: P.foot) w w' := by
  refine (tcommit_any w P t tm C g hP.pag hT hP.inv hC (by rw [hP.calm]; omega)).mono ?_
  rintro e w' ⟨r1, r2, r3⟩
  have eN := hP.ids.2.2.2
  have eR := hP.ids.2.2.1
  have hfit : fitB P g = decide ((dirt N g).length ≤ 1024 ∧ need (rows N g) ≤ reg - 1) := by
    unfold fitB
    rw [eN, eR, Bool.decide_and]
  rw [eN] at r1 r2 r3
  have key : ∀ C', Over w w' P t C' → Hold w0 w' p d reg N C' ∧ EndT w' p t := fun C' ho => hold_over hP h1 ho
  have keyO : ∀ C', Over w w' P t C' → Only (t :: P.foot) w w' := fun C' ⟨_, _, h, _⟩ => h.only
  by_cases z : (dirt N g).length = 0
  · obtain ⟨e1, o1⟩ := r1 z
    exact ⟨⟨fun _ => ⟨e1, (key _ o1).1⟩, fun h => absurd z h, fun h => absurd z h, (key _ o1).2⟩, keyO _ o1⟩
  · by_cases f : (dirt N g).length ≤ 1024 ∧ need (rows N g) ≤ reg - 1
    · rcases r3 z (by rw [hfit, decide_eq_true f]) with ⟨e1, o1⟩ | ⟨e1, _, _, _, _, _, hne, _⟩
      · exact ⟨⟨fun h => absurd h z, fun _ h => absurd f h, fun _ _ => ⟨e1, (key _ o1).1⟩, (key _ o1).2⟩, keyO _ o1⟩
      · exact absurd hP.calm hne
    · obtain ⟨e1, o1⟩ := r2 z (by rw [hfit, decide_eq_false f])
      exact ⟨⟨fun h => absurd h z, fun _ _ => ⟨e1, (key _ o1).1⟩, fun _ h => absurd h f, (key _ o1).2⟩, keyO _ o1⟩
theorem l_commit (w0 w : World) (p d reg N t tm : Nat) (g : Com) (C : List Com) (h : HoldT w0 w p d reg N t tm g C) (hC : C.length < 1152921504606846976) :
    Calls Tryz.prog 16 #[.pointer (some ⟨t, 0, none⟩)] w fun e w' => LCom w0 w' p d reg N t C g e := by
  obtain ⟨P, hP, hT, h1, _⟩ := h
  exact (lp_commit w0 w p d reg N t tm g C P hP hT h1 hC).mono fun _ _ h => h.1
/-- Blocks that are none of the pager's. -/
theorem HoldP.lt {w0 w : World} {p d reg N : Nat} {tx : Value} {C : List Com} {P : PS} (h : HoldP w0 w p d reg N tx C P) : ∀ x ∈ P.foot, x < w.heap.size := fun x hx => by
  have h1 := h.pag.lt
  rcases pmem_foot.1 hx with h2 | h2 | h2
  · omega
  · omega
  · exact h1.2.2 x h2
/-- One block written. -/
def one (b : Nat) (l : List Nat) : Com := upd (fun _ => none) b l
theorem dirt_of_mem {N : Nat} {g : Com} {L : List Nat} (hL : L.Nodup) (h : ∀ x, (x < N ∧ (g x).isSome = true) ↔ x ∈ L) : (dirt N g).length = L.length := by
  refine ((List.perm_ext_iff_of_nodup ((dirt_rise N g).imp fun {a b} h => Nat.ne_of_lt h) hL).2 fun x => ?_).length_eq
  rw [mem_dirt]
  exact h x
theorem dirt_one {N b : Nat} (hb : b < N) (l : List Nat) : (dirt N (one b l)).length = 1 := by
  refine dirt_of_mem (L := [b]) (by simp) fun x => ?_
  unfold one upd
  by_cases h : x = b
  · subst h; simp [hb]
  · simp [h]
theorem fine_one {N b : Nat} {l : List Nat} (hb : b < N) (hl : Blk l) : Fine N (one b l) := fun i x hx => by
  unfold one upd at hx
  split at hx
  · rename_i e
    injection hx with hx
    rw [e, ← hx]
    exact ⟨hb, hl⟩
  · cases hx
theorem l_abort (w0 w : World) (p d reg N t tm : Nat) (g : Com) (C : List Com) (h : HoldT w0 w p d reg N t tm g C) :
    Calls Tryz.prog 18 #[.pointer (some ⟨t, 0, none⟩)] w fun e w' => e = .returned (.tuple #[]) ∧ Hold w0 w' p d reg N C ∧ EndT w' p t := by
  obtain ⟨P, hP, hT, h1, h2⟩ := h
  refine (abort_any w P t tm g hP.pag hT).mono ?_
  rintro e w' ⟨rfl, h3, h4, h5⟩
  exact ⟨rfl, hold_over hP h1 ⟨P, h3, ended_moved h5, Fuels.refl _, hP.inv, h4⟩⟩
theorem l_sync (w0 w : World) (p d reg N : Nat) (C : List Com) (h : Hold w0 w p d reg N C) :
    Calls Tryz.prog 19 #[.pointer (some ⟨p, 0, none⟩)] w fun e w' => e = .returned (.int .i64 0) ∧ ∃ P, HoldP w0 w' p d reg N (.pointer none) C P ∧ P.s.synced = C.length := by
  obtain ⟨P, hP⟩ := h
  obtain ⟨rfl, rfl, rfl, rfl⟩ := hP.ids
  refine (psync_any w P _ C hP.pag hP.inv).mono ?_
  rintro e w' (⟨rfl, P', h1, h2, h3, h4, _, h5, _⟩ | ⟨_, _, _, _, _, _, hne, _⟩)
  · exact ⟨rfl, P', hP.moved h1 h2 h3 h4, h5⟩
  · exact absurd hP.calm hne
theorem l_syncT (w0 w : World) (p d reg N t tm : Nat) (g : Com) (C : List Com) (h : HoldT w0 w p d reg N t tm g C) :
    Calls Tryz.prog 19 #[.pointer (some ⟨p, 0, none⟩)] w fun e w' => e = .returned (.int .i64 0) ∧ ∃ P, HoldP w0 w' p d reg N (.pointer (some ⟨t, 0, none⟩)) C P ∧ TxAt w' P t tm g ∧ w0.heap.size ≤ t ∧ w0.heap.size ≤ tm ∧ P.s.synced = C.length := by
  obtain ⟨P, hP, hT, k1, k2⟩ := h
  obtain ⟨rfl, rfl, rfl, rfl⟩ := hP.ids
  refine (psync_any w P _ C hP.pag hP.inv).mono ?_
  rintro e w' (⟨rfl, P', h1, h2, h3, h4, _, h5, _⟩ | ⟨_, _, _, _, _, _, hne, _⟩)
  · exact ⟨rfl, P', hP.moved h1 h2 h3 h4, hT.moved h2, k1, k2, h5⟩
  · exact absurd hP.calm hne
theorem l_synced (w0 w : World) (p d reg N : Nat) (tx : Value) (C : List Com) (P : PS) (h : HoldP w0 w p d reg N tx C P) (hs : P.s.synced = C.length) :
    Calls Tryz.prog 20 #[.pointer (some ⟨p, 0, none⟩)] w fun e w' => e = .returned (.int .i64 (C.length : Nat)) ∧ w = w' := by
  have := psynced_any w P tx h.pag
  rw [hs, h.ids.1] at this
  exact this
theorem l_done (w0 w : World) (p d reg N : Nat) (tx : Value) (C : List Com) (P : PS) (h : HoldP w0 w p d reg N tx C P) :
    Calls Tryz.prog 21 #[.pointer (some ⟨p, 0, none⟩)] w fun e w' => e = .returned (.int .i64 (C.length : Nat)) ∧ ∃ q, w' = w.drewN q := by
  have := done_any w P tx C h.pag h.inv
  rw [h.ids.1] at this
  exact this
theorem l_blocks (w0 w : World) (p d reg N : Nat) (tx : Value) (C : List Com) (P : PS) (h : HoldP w0 w p d reg N tx C P) :
    Calls Tryz.prog 13 #[.pointer (some ⟨p, 0, none⟩)] w fun e w' => e = .returned (.int .i64 (N : Int)) ∧ ∃ q, w' = w.drewN q := by
  have := blocks_any w P tx h.pag
  rw [h.ids.1, h.ids.2.2.2] at this
  exact this
end Go.Proofs.YtkajneeihhobhaaGreat

namespace Go.Proofs.YtkajneeihhobhaaGreat
open Go.RowKit Go.Maps Wal Pgr

theorem need_small {N : Nat} {g : Com} (h : Fine N g) {k : Nat} (hk : (dirt N g).length = k) : need (rows N g) = (16 + 520 * k + 511) / 512 := by
  rw [rows_need h, hk]
set_option maxRecDepth 100000 in
set_option maxHeartbeats 3200000 in
theorem pfixed_any (w : World) :
    Calls Tryz.prog 9 #[] w fun e w' => e = .returned (.bool true) ∧ Below w.heap.size w w' := by
  have ND := new_any w (20 : Int)
  rw [show clampN (20 : Int) = 20 from by decide] at ND
  have ND := Lib.hid ND
  go_enter Tryz.func9, Tryz.ntmps9
  go_wp2_with fail
  refine ND.out.mono ?_
  rintro e w1 ⟨d, F, rfl, hD, hb, hF⟩
  have MK := Lib.hid (l_make w w1 d F 20 6 hD hb hF (by omega) (by omega))
  clear ND hD hb hF
  go_wp2_with fail
  refine MK.out.mono ?_
  rintro e w2 ⟨p, rfl, P, hP⟩
  have BL := Lib.hid (l_blocks w w2 p d 6 14 _ [] P hP)
  have HP2 := Lib.hid hP
  clear MK hP
  go_wp2_with fail
  refine BL.out.mono ?_
  rintro e w3 ⟨rfl, q, hw3⟩
  have BG : Hid (Calls Tryz.prog 14 #[.pointer (some ⟨p, 0, none⟩)] w3 fun e w' => ∃ t tm, e = .returned (.tuple #[.pointer (some ⟨t, 0, none⟩), .int .i64 0]) ∧ HoldT w w' p d 6 14 t tm (fun _ => none) []) := by
    rw [hw3]
    exact l_begin w _ p d 6 14 [] ⟨P, HP2.out.under (punder_drewN w2 q)⟩
  clear BL HP2 hw3
  go_wp2_with fail
  refine BG.out.mono ?_
  rintro e w4 ⟨t, tm, rfl, hT⟩
  have BB := Lib.hid (l_busy w w4 p d 6 14 t tm _ [] hT)
  clear BG hT
  go_wp2_with fail
  refine BB.out.mono ?_
  rintro e w5 ⟨rfl, hT⟩
  have T5 := Lib.hid hT
  clear BB hT
  have kc := conv_new w5 w5.heap.size #[.int .u8 97] 1 1 rfl
  obtain ⟨o6, ho6⟩ : ∃ o6 : Obj, o6 = .cells #[.int .u8 97] 5 ((#[Value.int .u8 97]).size, (#[Value.int .u8 97]).size + 1) := ⟨_, rfl⟩
  rw [← ho6] at kc
  have T6 : Hid (HoldT w (w5.alloc o6) p d 6 14 t tm (fun _ => none) []) := T5.out.under ((Below.refl _ _).alloc (Nat.le_refl _) _)
  have B6 : Bts (w5.alloc o6) (some ⟨w5.heap.size, 0, none⟩) 1 [97] := by rw [ho6]; exact bts_one w5 97 (by omega) _ _ _ rfl
  have LT := T5.out.lt
  have WR := l_write w (w5.alloc o6) p d 6 14 t tm _ [] 3 (some ⟨w5.heap.size, 0, none⟩) 1 1 [97] T6.out (by omega) B6 (by omega) (fun _ x hx => by injection hx with hx; rw [← hx]; exact ⟨by show w5.heap.size ≠ p; omega, by show w5.heap.size ≠ tm; omega⟩)
  have WR := Lib.hid WR
  have HO := Lib.hid ho6
  clear B6 LT T5 T6 ho6
  go_wp2_with fail
  refine WR.out.mono ?_
  rintro e w7 ⟨rfl, hT, _⟩
  obtain ⟨P7, hP7, hT7, h71, _⟩ := hT
  have RD := Lib.hid (lp_read w w7 p d 6 14 t tm _ [] P7 3 hP7 hT7 (by omega))
  have LT7 : Hid ((∀ x ∈ P7.foot, x < w7.heap.size) ∧ t < w7.heap.size ∧ w.heap.size ≤ t) := ⟨hP7.lt, hT7.held.lt, h71⟩
  clear WR hP7 hT7 h71 kc HO
  go_wp2_with fail
  refine RD.out.mono ?_
  rintro e w8 ⟨q8, T8, rfl, hq8, hh8, hP8, hT8, _⟩
  have es : seeB [] (upd (fun _ => none) 3 (sec [97])) 3 = sec [97] := rfl
  rw [es] at hh8
  have hs : Blk (sec [97]) := Blk.sec (fun x hx => by simp at hx; omega)
  have hfn : Fine 14 (one 3 (sec [97])) := fine_one (by omega) hs
  have hd1 : (dirt 14 (one 3 (sec [97]))).length = 1 := dirt_one (by omega) _
  have CM := lp_commit w w8 p d 6 14 t tm (one 3 (sec [97])) [] P7 hP8 hT8 LT7.out.2.2 (by simp)
  have CM := Lib.hid (CM.mono fun e w' h => (⟨(h.1.some_ (by rw [hd1]; omega) (by rw [hd1, need_small hfn hd1]; omega)), h.2⟩ : _ ∧ _))
  have Q8 : Hid (w7.heap.size ≤ q8 ∧ Held w8 q8 T8 ((sec [97]).map u8v).toArray) := ⟨hq8, hh8⟩
  clear RD hP8 hT8 hq8 hh8 es hs hfn hd1
  go_wp2_with fail
  refine CM.out.mono ?_
  rintro e w9 ⟨⟨rfl, P9, hP9⟩, ho9⟩
  have Q9 : Hid (Held w9 q8 T8 ((sec [97]).map u8v).toArray) := Q8.out.2.only ho9 (fun hm => by
    have h1 := Q8.out.1
    rcases List.mem_cons.1 hm with h2 | h2
    · have := LT7.out.2.1; omega
    · have := LT7.out.1 _ h2; omega)
  have c0 : w9.cell? ⟨q8, 0, none⟩ = some (.int .u8 97) := (Q9.out.cell 0).trans (by rfl)
  have DN := Lib.hid (l_done w w9 p d 6 14 _ _ P9 hP9)
  have BB := Lib.hid hP9.below
  clear CM ho9 hP9 Q8 Q9 LT7
  go_wp2_with fail
  refine DN.out.mono ?_
  rintro e w10 ⟨rfl, q, hw10⟩
  have B10 : Hid (Below w.heap.size w w10) := by rw [hw10]; exact BB.out.trans ((punder_drewN w9 q).mono BB.out.size)
  clear hw10 DN BB
  go_wp2_with fail
  go_ret
  exact ⟨rfl, B10.out⟩
end Go.Proofs.YtkajneeihhobhaaGreat
