/-
  PagerAborts: what the law's scripts do, as lists. · pager beside the document's: the pager's side, its disk calm or not. · pager beside the document's: the document's side.
-/
import Derived.Test.YtkajneeihhobhaaGreatMPgRb
import Derived.Test.YtkajneeihhobhaaGreatMPgZ
namespace Go.Proofs.YtkajneeihhobhaaGreat
open Go.RowKit Go.Maps Wal Pgr

def wgood (N : Nat) (z : Int) (s : ByteArray) : Prop := (0 ≤ z ∧ z < (N : Int)) ∧ s.size ≤ 512
instance (N : Nat) (z : Int) (s : ByteArray) : Decidable (wgood N z s) := inferInstanceAs (Decidable (_ ∧ _))
/-- How many Writes of the first k were taken (30 at most), and what they have written. -/
def runA (N : Nat) (l : Nat → Nat × Int × ByteArray) : Nat → Nat × List (Nat × List Nat)
  | 0 => (0, [])
  | k + 1 => if (runA N l k).1 < 30 ∧ wgood N (l k).2.1 (l k).2.2 then ((runA N l k).1 + 1, dropB (runA N l k).2 (l k).2.1 ++ [((l k).2.1.toNat, sec (nums (l k).2.2))]) else runA N l k
theorem runA_succ (N : Nat) (l : Nat → Nat × Int × ByteArray) (k : Nat) : runA N l (k + 1) = if (runA N l k).1 < 30 ∧ wgood N (l k).2.1 (l k).2.2 then ((runA N l k).1 + 1, dropB (runA N l k).2 (l k).2.1 ++ [((l k).2.1.toNat, sec (nums (l k).2.2))]) else runA N l k := rfl
theorem runA_le (N : Nat) (l : Nat → Nat × Int × ByteArray) : ∀ k, (runA N l k).2.length ≤ (runA N l k).1 ∧ (runA N l k).1 ≤ 30
  | 0 => ⟨Nat.le_refl _, by simp [runA]⟩
  | k + 1 => by
    have ih := runA_le N l k
    unfold runA
    split
    · rename_i h
      have := dropB_len (runA N l k).2 (l k).2.1
      constructor
      · show (dropB (runA N l k).2 (l k).2.1 ++ _).length ≤ (runA N l k).1 + 1
        rw [List.length_append]
        show _ + 1 ≤ _
        omega
      · show (runA N l k).1 + 1 ≤ 30
        omega
    · exact ih
theorem runA_len (N : Nat) (l : Nat → Nat × Int × ByteArray) (k : Nat) : (runA N l k).2.length ≤ 30 := Nat.le_trans (runA_le N l k).1 (runA_le N l k).2
theorem runA_stop (N : Nat) (l : Nat → Nat × Int × ByteArray) {k : Nat} (h : ¬ (runA N l k).1 < 30) : ∀ j, runA N l (k + j) = runA N l k
  | 0 => rfl
  | j + 1 => by
    have ih := runA_stop N l h j
    rw [show k + (j + 1) = (k + j) + 1 from rfl, runA_succ, ih, if_neg (fun x => h x.1)]
theorem runA_all (N : Nat) (l : Nat → Nat × Int × ByteArray) {k n : Nat} (h : ¬ (runA N l k).1 < 30) (hk : k ≤ n) : runA N l n = runA N l k := by
  obtain ⟨j, rfl⟩ := Nat.exists_eq_add_of_le hk
  exact runA_stop N l h j
def comC (N : Nat) (C : List Com) (g : Com) : List Com := if (dirt N g).length = 0 then C else C ++ [g]
def comL (Ls : List (List (Nat × List Nat))) (L : List (Nat × List Nat)) : List (List (Nat × List Nat)) := if L.length = 0 then Ls else Ls ++ [L]
theorem Sims.com {N : Nat} {C : List Com} {Ls : List (List (Nat × List Nat))} {g : Com} {L : List (Nat × List Nat)} (h : Sims N C Ls) (k : Sim4 N g L) : Sims N (comC N C g) (comL Ls L) := by
  unfold comC comL
  rw [k.len]
  split
  · exact h
  · exact h.push k
theorem PutsAt.nil (w : World) (base : Nat) : PutsAt w base (.slice none 0 0) [] [] := ⟨World.ownsRow_nil _ _ _ _, fun k u L hu => by simp at hu⟩
/-- A Write of a law's own, good or not. -/
theorem w_any (w0 w : World) (p d reg N t tm : Nat) (g : Com) (C : List Com) (z : Int) (A : Option Addr) (n c : Nat) (l : List Nat) (h : HoldT w0 w p d reg N t tm g C) (hl : Bts w A n l) (hA : 0 < n → ∀ x, A = some x → x.block ≠ p ∧ x.block ≠ tm) :
    Calls Tryz.prog 27 #[.pointer (some ⟨t, 0, none⟩), .int .i64 z, .slice A n c] w fun e w' => e = .returned (.int .i64 (if (0 ≤ z ∧ z < (N : Int)) ∧ n ≤ 512 then 0 else 1)) ∧ HoldT w0 w' p d reg N t tm (if (0 ≤ z ∧ z < (N : Int)) ∧ n ≤ 512 then upd g z.toNat (sec l) else g) C ∧ Only [p, tm] w w' := by
  by_cases hz : (0 ≤ z ∧ z < (N : Int)) ∧ n ≤ 512
  · rw [if_pos hz, if_pos hz]
    have ez : z = (z.toNat : Int) := by omega
    have := l_write w0 w p d reg N t tm g C z.toNat A n c l h (by omega) hl hz.2 hA
    rw [← ez] at this
    exact this
  · rw [if_neg hz, if_neg hz]
    exact (l_write_bad w0 w p d reg N t tm g C z A n c h (by omega)).mono fun e w' h => ⟨h.1, h.2.1, h.2.2.mono (fun x hx => .inl (by simp at hx; simp [hx]))⟩
/-- A Write of the document's transaction, good or not. -/
theorem rw_any (w : World) (base r t bn rg : Nat) (v vL : Value) (L : List (Nat × List Nat)) (z : Int) (s : ByteArray) (h : RTx w base r t bn rg v vL L) (hL : L.length ≤ 100000) :
    Calls Tryz.prog 34 #[.pointer (some ⟨t, 0, none⟩), .int .i64 z, .string s] w fun e w' => ∃ vL' base', e = .returned (.int .i64 (if wgood bn z s then 0 else 1)) ∧ RTx w' base' r t bn rg v vL' (if wgood bn z s then dropB L z ++ [(z.toNat, sec (nums s))] else L) ∧ Only [t] w w' ∧ (base' = base ∨ base' = w.heap.size) := by
  by_cases hz : wgood bn z s
  · rw [if_pos hz, if_pos hz]
    have ez : z = (z.toNat : Int) := by have := hz.1; omega
    have := rtwrite_any w base r t bn rg v vL L z.toNat (nums s) h (by have := hz.1; omega) (nums_lt s) (by rw [nums_length]; exact hz.2) hL
    rw [← ez, strB_nums] at this
    refine this.mono ?_
    rintro e w' ⟨vL', rfl, h1, h2⟩
    exact ⟨vL', _, rfl, h1, h2, .inr rfl⟩
  · rw [if_neg hz, if_neg hz]
    refine (rtwrite_bad w base r t bn rg v vL L z s h ?_).mono ?_
    · unfold wgood at hz; omega
    · rintro e w' ⟨rfl, rfl⟩
      exact ⟨vL, base, rfl, h, Only.refl _ _, .inl rfl⟩
/-- What a law's own commit leaves, if it fits. -/
theorem c_any (w0 w : World) (p d reg N t tm : Nat) (g : Com) (C : List Com) (h : HoldT w0 w p d reg N t tm g C) (hC : C.length < 1152921504606846976) (h1 : (dirt N g).length ≤ 1024) (h2 : (16 + 520 * (dirt N g).length + 511) / 512 ≤ reg - 1) :
    Calls Tryz.prog 16 #[.pointer (some ⟨t, 0, none⟩)] w fun e w' => ∃ x, e = .returned (.tuple #[.int .i64 x, .int .i64 0]) ∧ Hold w0 w' p d reg N (comC N C g) := by
  have hf := h.fine
  refine (l_commit w0 w p d reg N t tm g C h hC).mono fun e w' k => ?_
  unfold comC
  by_cases h0 : (dirt N g).length = 0
  · obtain ⟨rfl, h3⟩ := k.none_ h0
    rw [if_pos h0]
    exact ⟨_, rfl, h3⟩
  · obtain ⟨rfl, h3⟩ := k.some_ h0 ⟨h1, by rw [rows_need hf]; exact h2⟩
    rw [if_neg h0]
    exact ⟨_, rfl, h3⟩
/-- The same of the document's. -/
theorem rc_any (w : World) (base base2 r t bn rg : Nat) (v vL : Value) (vs : List Value) (L : List (Nat × List Nat)) (Ls : List (List (Nat × List Nat))) (h : RTx w base r t bn rg v vL L) (hv : PutsAt w base2 v vs Ls) (hL : L.length ≤ 100000) (hLs : Ls.length ≤ 5800000000000) (hb : base2 ≤ base) (hb2 : base2 ≤ w.heap.size) (hf : (16 + L.length * 520 + 511) / 512 ≤ rg) :
    Calls Tryz.prog 17 #[.pointer (some ⟨t, 0, none⟩)] w fun e w' => ∃ x v' vs', e = .returned (.tuple #[.int .i64 x, .int .i64 0]) ∧ Held w' r 35 #[.int .i64 (bn : Int), .int .i64 (rg : Int), v'] ∧ PutsAt w' base2 v' vs' (comL Ls L) ∧ Only (r :: v.ownBlock.toList) w w' := by
  refine (rtcommit_any w base base2 r t bn rg v vL vs L Ls h hv hL hLs hb hb2).mono fun e w' k => ?_
  unfold comL
  by_cases h0 : L.length = 0
  · obtain ⟨rfl, rfl⟩ := k.none_ h0
    rw [if_pos h0]
    exact ⟨_, v, vs, rfl, h.pg, hv, Only.refl _ _⟩
  · obtain ⟨rfl, v', h3, h4, h5, _⟩ := k.some_ h0 hf
    rw [if_neg h0]
    exact ⟨_, v', _, rfl, h3, h4, h5⟩
end Go.Proofs.YtkajneeihhobhaaGreat

namespace Go.Proofs.YtkajneeihhobhaaGreat
open Go.RowKit Go.Maps Wal Pgr

/-- Only blocks of S, and new ones, have turned; S' holds blocks of S, and new ones. -/
def Grows (w w' : World) (S S' : List Nat) : Prop := Only S w w' ∧ ∀ x ∈ S', x ∈ S ∨ w.heap.size ≤ x
theorem Grows.trans {w w1 w2 : World} {S S1 S2 : List Nat} (h : Grows w w1 S S1) (k : Grows w1 w2 S1 S2) : Grows w w2 S S2 :=
  ⟨h.1.trans k.1 h.2, fun x hx => by
    rcases k.2 x hx with e | e
    · exact h.2 x e
    · exact .inr (Nat.le_trans h.1.size e)⟩
theorem Grows.below {w w' : World} (h : Below w.heap.size w w') (S : List Nat) : Grows w w' S S := ⟨Only.of_below h, fun _ hx => .inl hx⟩
theorem Grows.held {w w' : World} {S S' : List Nat} {q : Nat} {T : TypeId} {cs : Array Value} (h : Grows w w' S S') (hq : Held w q T cs) (hn : q ∉ S) : Held w' q T cs ∧ q ∉ S' :=
  ⟨hq.only h.1 hn, fun hm => by
    rcases h.2 q hm with e | e
    · exact hn e
    · have := hq.lt; omega⟩
structure PSide (w0 w : World) (cm : Bool) (p d reg N : Nat) (tx : Value) (C : List Com) (P : PS) : Prop where
  pag : PagAt w P tx
  inv : PInv P C
  ids : P.p = p ∧ P.d = d ∧ P.reg = reg ∧ P.N = N
  below : Below w0.heap.size w0 w
  new : ∀ x ∈ P.foot, w0.heap.size ≤ x
  fuel : -1 ≤ P.m.fuel
  calm : cm = true → P.m.fuel = -1
structure POpen (w0 w : World) (cm : Bool) (p d reg N t tm : Nat) (g : Com) (C : List Com) (P : PS) : Prop where
  ps : PSide w0 w cm p d reg N (.pointer (some ⟨t, 0, none⟩)) C P
  tx : TxAt w P t tm g
  tb : w0.heap.size ≤ t ∧ w0.heap.size ≤ tm
def pfoot (t tm : Nat) (P : PS) : List Nat := t :: tm :: P.foot
theorem mem_pfoot {t tm : Nat} {P : PS} {x : Nat} : x ∈ pfoot t tm P ↔ x = t ∨ x = tm ∨ x ∈ P.foot := by simp [pfoot]
section
variable {w0 w w' : World} {cm : Bool} {p d reg N t tm : Nat} {tx : Value} {g g' : Com} {C C' : List Com} {P P' : PS} {H : List Nat}
theorem PSide.moved (h : PSide w0 w cm p d reg N tx C P) (hp : PagAt w' P' tx) (hm : Moved w w' P P') (hf : Fuels P.m P'.m) (hi : PInv P' C') : PSide w0 w' cm p d reg N tx C' P' :=
  ⟨hp, hi, ⟨hm.p.trans h.ids.1, hm.d.trans h.ids.2.1, hm.reg.trans h.ids.2.2.1, hm.n.trans h.ids.2.2.2⟩, h.below.trans (hm.only.below h.below.size h.new), fun x hx => by
    rcases hm.foot x hx with h1 | h1
    · exact h.new x h1
    · exact Nat.le_trans h.below.size h1, hf.2 h.fuel, fun e => hf.1 (h.calm e)⟩
theorem PSide.only (h : PSide w0 w cm p d reg N tx C P) (k : Only H w w') (hH : ∀ x ∈ H, x ∉ P.foot ∧ w0.heap.size ≤ x) : PSide w0 w' cm p d reg N tx C P :=
  ⟨h.pag.only k (fun hx => (hH _ hx).1 (pmem_foot.2 (.inl rfl))) (fun hx => (hH _ hx).1 (pmem_foot.2 (.inr (.inl rfl)))) (fun _ hx hm => (hH _ hm).1 (pmem_foot.2 (.inr (.inr hx)))), h.inv, h.ids, h.below.trans (k.below h.below.size (fun x hx => (hH x hx).2)), h.new, h.fuel, h.calm⟩
theorem PSide.under (h : PSide w0 w cm p d reg N tx C P) (k : Below w.heap.size w w') : PSide w0 w' cm p d reg N tx C P := ⟨h.pag.under k, h.inv, h.ids, h.below.trans (k.mono h.below.size), h.new, h.fuel, h.calm⟩
theorem PSide.lt (h : PSide w0 w cm p d reg N tx C P) : ∀ x ∈ P.foot, x < w.heap.size := fun x hx => by
  have h1 := h.pag.lt
  rcases pmem_foot.1 hx with h2 | h2 | h2
  · omega
  · omega
  · exact h1.2.2 x h2
theorem PSide.pin (h : PSide w0 w cm p d reg N tx C P) : p ∈ P.foot := pmem_foot.2 (.inl h.ids.1.symm)
theorem POpen.only (h : POpen w0 w cm p d reg N t tm g C P) (k : Only H w w') (hH : ∀ x ∈ H, x ∉ pfoot t tm P ∧ w0.heap.size ≤ x) : POpen w0 w' cm p d reg N t tm g C P :=
  ⟨h.ps.only k (fun x hx => ⟨fun hm => (hH x hx).1 (mem_pfoot.2 (.inr (.inr hm))), (hH x hx).2⟩), h.tx.only k (fun hm => (hH _ hm).1 (mem_pfoot.2 (.inl rfl))) (fun hm => (hH _ hm).1 (mem_pfoot.2 (.inr (.inl rfl)))), h.tb⟩
theorem POpen.under (h : POpen w0 w cm p d reg N t tm g C P) (k : Below w.heap.size w w') : POpen w0 w' cm p d reg N t tm g C P := ⟨h.ps.under k, h.tx.under k, h.tb⟩
theorem POpen.lt (h : POpen w0 w cm p d reg N t tm g C P) : ∀ x ∈ pfoot t tm P, w0.heap.size ≤ x ∧ x < w.heap.size := fun x hx => by
  rcases mem_pfoot.1 hx with rfl | rfl | hx
  · exact ⟨h.tb.1, h.tx.held.lt⟩
  · exact ⟨h.tb.2, h.tx.dirty.lt⟩
  · exact ⟨h.ps.new x hx, h.ps.lt x hx⟩
theorem POpen.fine (h : POpen w0 w cm p d reg N t tm g C P) : Fine N g := by
  intro b l hb
  have := h.tx.dirty.blk hb
  rwa [h.ps.ids.2.2.2] at this
/-- Behind a call that turns just the pager's own block, or the transaction's map too. -/
theorem POpen.turned (h : POpen w0 w cm p d reg N t tm g C P) (h1 : PagAt w' P (.pointer (some ⟨t, 0, none⟩))) (h2 : TxAt w' P t tm g') (h3 : Only [p, tm] w w') : POpen w0 w' cm p d reg N t tm g' C P :=
  ⟨⟨h1, h.ps.inv, h.ps.ids, h.ps.below.trans (h3.below h.ps.below.size (fun x hx => by
    simp only [List.mem_cons, List.not_mem_nil, or_false] at hx
    rcases hx with rfl | rfl
    · exact h.ps.new _ h.ps.pin
    · exact h.tb.2)), h.ps.new, h.ps.fuel, h.ps.calm⟩, h2, h.tb⟩
end
theorem s_write (w0 w : World) (cm : Bool) (p d reg N t tm : Nat) (g : Com) (C : List Com) (P : PS) (z : Int) (A : Option Addr) (n c : Nat) (l : List Nat) (h : POpen w0 w cm p d reg N t tm g C P) (hl : Bts w A n l) (hA : 0 < n → ∀ x, A = some x → x.block ≠ p ∧ x.block ≠ tm) :
    Calls Tryz.prog 27 #[.pointer (some ⟨t, 0, none⟩), .int .i64 z, .slice A n c] w fun e w' => e = .returned (.int .i64 (if (0 ≤ z ∧ z < (N : Int)) ∧ n ≤ 512 then 0 else 1)) ∧ POpen w0 w' cm p d reg N t tm (if (0 ≤ z ∧ z < (N : Int)) ∧ n ≤ 512 then upd g z.toNat (sec l) else g) C P ∧ Only [p, tm] w w' := by
  have e1 := h.ps.ids
  by_cases hz : (0 ≤ z ∧ z < (N : Int)) ∧ n ≤ 512
  · rw [if_pos hz, if_pos hz]
    have ez : z = (z.toNat : Int) := by omega
    have := twrite_any w P t tm g z.toNat A n c l h.ps.pag h.tx (by have := e1.2.2.2; omega) h.ps.inv.alive h.ps.inv.inv.alive hl hz.2 (by rw [e1.1]; exact hA)
    rw [← ez, e1.1] at this
    exact this.mono fun e w' k => ⟨k.1, h.turned k.2.1 k.2.2.1 k.2.2.2, k.2.2.2⟩
  · rw [if_neg hz, if_neg hz]
    have := twrite_bad w P t tm g z A n c h.ps.pag h.tx h.ps.inv.alive h.ps.inv.inv.alive (by have := e1.2.2.2; omega)
    rw [e1.1] at this
    refine this.mono fun e w' k => ?_
    have o : Only [p, tm] w w' := k.2.2.2.mono (fun x hx => .inl (by simp at hx; simp [hx]))
    exact ⟨k.1, h.turned k.2.1 k.2.2.1 o, o⟩
theorem s_read (w0 w : World) (cm : Bool) (p d reg N t tm : Nat) (g : Com) (C : List Com) (P : PS) (b : Nat) (h : POpen w0 w cm p d reg N t tm g C P) (hb : b < N) :
    Calls Tryz.prog 28 #[.pointer (some ⟨t, 0, none⟩), .int .i64 (b : Int)] w fun e w' => ∃ q T, e = .returned (.tuple #[.slice (some ⟨q, 0, none⟩) 512 512, .int .i64 0]) ∧ w.heap.size ≤ q ∧ Held w' q T ((seeB C g b).map u8v).toArray ∧ POpen w0 w' cm p d reg N t tm g C P ∧ Only [p] w w' := by
  have e1 := h.ps.ids
  refine (tread_any w P t tm g b h.ps.pag h.tx (by have := e1.2.2.2; omega) h.ps.inv.alive h.ps.inv.inv.alive).mono ?_
  rintro e w' ⟨⟨⟨q, T, rfl, hq, hh⟩, hp, ho⟩, hk⟩
  rw [PS.alive_same h.ps.inv.alive] at hp
  have es : P.got g b = seeB C g b := by
    unfold PS.got seeB
    rw [h.ps.inv.at_ (by have := e1.2.2.2; omega)]
  rw [es] at hh
  rw [e1.1] at ho
  exact ⟨q, T, rfl, hq, hh, h.turned hp hk (ho.mono (fun x hx => .inl (by simp at hx; simp [hx]))), ho⟩
theorem s_read_bad (w0 w : World) (cm : Bool) (p d reg N t tm : Nat) (g : Com) (C : List Com) (P : PS) (z : Int) (h : POpen w0 w cm p d reg N t tm g C P) (hz : ¬ (0 ≤ z ∧ z < (N : Int))) :
    Calls Tryz.prog 28 #[.pointer (some ⟨t, 0, none⟩), .int .i64 z] w fun e w' => e = .returned (.tuple #[.slice none 0 0, .int .i64 1]) ∧ POpen w0 w' cm p d reg N t tm g C P ∧ Only [p] w w' := by
  have e1 := h.ps.ids
  have := tread_bad w P t tm g z h.ps.pag h.tx h.ps.inv.alive h.ps.inv.inv.alive (by have := e1.2.2.2; omega)
  rw [e1.1] at this
  exact this.mono fun e w' k => ⟨k.1, h.turned k.2.1 k.2.2.1 (k.2.2.2.mono (fun x hx => .inl (by simp at hx; simp [hx]))), k.2.2.2⟩
theorem s_dirty (w0 w : World) (cm : Bool) (p d reg N t tm : Nat) (g : Com) (C : List Com) (P : PS) (h : POpen w0 w cm p d reg N t tm g C P) :
    Calls Tryz.prog 23 #[.pointer (some ⟨t, 0, none⟩)] w fun e w' => e = .returned (.int .i64 ((dirt N g).length : Nat)) ∧ w = w' := by
  have := dirty_any w P t tm g h.ps.pag h.tx
  rwa [h.ps.ids.2.2.2] at this
theorem s_begin (w0 w : World) (cm : Bool) (p d reg N : Nat) (C : List Com) (P : PS) (h : PSide w0 w cm p d reg N (.pointer none) C P) :
    Calls Tryz.prog 14 #[.pointer (some ⟨p, 0, none⟩)] w fun e w' => ∃ t tm, e = .returned (.tuple #[.pointer (some ⟨t, 0, none⟩), .int .i64 0]) ∧ POpen w0 w' cm p d reg N t tm (fun _ => none) C P ∧ w.heap.size ≤ t ∧ w.heap.size ≤ tm ∧ Only [p] w w' := by
  obtain ⟨rfl, rfl, rfl, rfl⟩ := h.ids
  refine (begin_any w P h.pag h.inv.alive h.inv.inv.alive).mono ?_
  rintro e w' ⟨t, tm, rfl, ht, htm, h1, h2, h3⟩
  have hO : Only P.foot w w' := h3.mono (fun x hx => .inl (pmem_foot.2 (.inl (by simpa using hx))))
  exact ⟨t, tm, rfl, ⟨⟨h1, h.inv, ⟨rfl, rfl, rfl, rfl⟩, h.below.trans (hO.below h.below.size h.new), h.new, h.fuel, h.calm⟩, h2, Nat.le_trans h.below.size ht, Nat.le_trans h.below.size htm⟩, ht, htm, h3⟩
theorem s_abort (w0 w : World) (cm : Bool) (p d reg N t tm : Nat) (g : Com) (C : List Com) (P : PS) (h : POpen w0 w cm p d reg N t tm g C P) :
    Calls Tryz.prog 18 #[.pointer (some ⟨t, 0, none⟩)] w fun e w' => e = .returned (.tuple #[]) ∧ PSide w0 w' cm p d reg N (.pointer none) C P ∧ TxEnd w' P t ∧ Only [p, t] w w' := by
  obtain ⟨rfl, rfl, rfl, rfl⟩ := h.ps.ids
  refine (abort_any w P t tm g h.ps.pag h.tx).mono ?_
  rintro e w' ⟨rfl, h3, h4, h5⟩
  refine ⟨rfl, ⟨h3, h.ps.inv, ⟨rfl, rfl, rfl, rfl⟩, h.ps.below.trans (h5.below h.ps.below.size (fun x hx => ?_)), h.ps.new, h.ps.fuel, h.ps.calm⟩, h4, h5⟩
  simp only [List.mem_cons, List.not_mem_nil, or_false] at hx
  rcases hx with rfl | rfl
  · exact h.ps.new _ (pmem_foot.2 (.inl rfl))
  · exact h.tb.1
/-- A transaction at t is over, C are the commits. -/
def SOver (w0 w w' : World) (cm : Bool) (p d reg N t : Nat) (C : List Com) (P : PS) : Prop := ∃ P', PSide w0 w' cm p d reg N (.pointer none) C P' ∧ TxEnd w' P' t ∧ Only (t :: P.foot) w w' ∧ ∀ x ∈ P'.foot, x ∈ P.foot ∨ w.heap.size ≤ x
structure SCom (w0 w w' : World) (cm : Bool) (p d reg N t : Nat) (C : List Com) (g : Com) (P : PS) (e : Ending) : Prop where
  none_ : (dirt N g).length = 0 → e = .returned (.tuple #[.int .i64 (C.length : Nat), .int .i64 0]) ∧ SOver w0 w w' cm p d reg N t C P
  big : (dirt N g).length ≠ 0 → ¬ ((dirt N g).length ≤ 1024 ∧ need (rows N g) ≤ reg - 1) → e = .returned (.tuple #[.int .i64 0, .int .i64 13]) ∧ SOver w0 w w' cm p d reg N t C P
  some_ : (dirt N g).length ≠ 0 → (dirt N g).length ≤ 1024 ∧ need (rows N g) ≤ reg - 1 → (e = .returned (.tuple #[.int .i64 ((C.length : Int) + 1), .int .i64 0]) ∧ SOver w0 w w' cm p d reg N t (C ++ [g]) P) ∨
    (e = .returned (.tuple #[.int .i64 0, .int .i64 10]) ∧ cm = false ∧ Died w w' P (.pointer (some ⟨t, 0, none⟩)) C)
theorem not_calm {cm : Bool} {m : Dsk.DM} (h : cm = true → m.fuel = -1) (hne : m.fuel ≠ -1) : cm = false := by
  cases cm
  · rfl
  · exact absurd (h rfl) hne
theorem s_commit (w0 w : World) (cm : Bool) (p d reg N t tm : Nat) (g : Com) (C : List Com) (P : PS) (h : POpen w0 w cm p d reg N t tm g C P) (hC : C.length < 1152921504606846976) :
    Calls Tryz.prog 16 #[.pointer (some ⟨t, 0, none⟩)] w fun e w' => SCom w0 w w' cm p d reg N t C g P e := by
  refine (tcommit_any w P t tm C g h.ps.pag h.tx h.ps.inv hC h.ps.fuel).mono ?_
  rintro e w' ⟨r1, r2, r3⟩
  have eN := h.ps.ids.2.2.2
  have eR := h.ps.ids.2.2.1
  have hfit : fitB P g = decide ((dirt N g).length ≤ 1024 ∧ need (rows N g) ≤ reg - 1) := by
    unfold fitB
    rw [eN, eR, Bool.decide_and]
  rw [eN] at r1 r2 r3
  have key : ∀ C', Over w w' P t C' → SOver w0 w w' cm p d reg N t C' P := by
    rintro C' ⟨P', h1, h2, h3, h4, h5⟩
    refine ⟨P', ⟨h1, h4, ⟨h2.p.trans h.ps.ids.1, h2.d.trans h.ps.ids.2.1, h2.reg.trans eR, h2.n.trans eN⟩, h.ps.below.trans (h2.only.below h.ps.below.size (fun x hx => ?_)), fun x hx => ?_, h3.2 h.ps.fuel, fun e => h3.1 (h.ps.calm e)⟩, h5, h2.only, h2.foot⟩
    · rcases List.mem_cons.1 hx with rfl | hx
      · exact h.tb.1
      · exact h.ps.new x hx
    · rcases h2.foot x hx with h6 | h6
      · exact h.ps.new x h6
      · exact Nat.le_trans h.ps.below.size h6
  refine ⟨fun z => ⟨(r1 z).1, key _ (r1 z).2⟩, fun z f => ?_, fun z f => ?_⟩
  · obtain ⟨e1, o1⟩ := r2 z (by rw [hfit, decide_eq_false f])
    exact ⟨e1, key _ o1⟩
  · rcases r3 z (by rw [hfit, decide_eq_true f]) with ⟨e1, o1⟩ | ⟨e1, o1⟩
    · exact .inl ⟨e1, key _ o1⟩
    · obtain ⟨_, _, _, _, _, hne, _⟩ := id o1
      exact .inr ⟨e1, not_calm h.ps.calm hne, o1⟩
def SSync (w0 w w' : World) (cm : Bool) (p d reg N : Nat) (tx : Value) (C : List Com) (P : PS) (e : Ending) : Prop :=
  (e = .returned (.int .i64 0) ∧ ∃ P', PSide w0 w' cm p d reg N tx C P' ∧ P'.s.synced = C.length ∧ Moved w w' P P') ∨ (e = .returned (.int .i64 10) ∧ cm = false ∧ Died w w' P tx C)
theorem s_sync (w0 w : World) (cm : Bool) (p d reg N : Nat) (tx : Value) (C : List Com) (P : PS) (h : PSide w0 w cm p d reg N tx C P) :
    Calls Tryz.prog 19 #[.pointer (some ⟨p, 0, none⟩)] w fun e w' => SSync w0 w w' cm p d reg N tx C P e := by
  have := psync_any w P tx C h.pag h.inv
  rw [h.ids.1] at this
  refine this.mono ?_
  rintro e w' (⟨rfl, P', h1, h2, h3, h4, _, h5, _⟩ | ⟨rfl, h1⟩)
  · exact .inl ⟨rfl, P', h.moved h1 h2 h3 h4, h5, h2⟩
  · obtain ⟨_, _, _, _, _, hne, _⟩ := id h1
    exact .inr ⟨rfl, not_calm h.calm hne, h1⟩
theorem s_synced (w0 w : World) (cm : Bool) (p d reg N : Nat) (tx : Value) (C : List Com) (P : PS) (h : PSide w0 w cm p d reg N tx C P) :
    Calls Tryz.prog 20 #[.pointer (some ⟨p, 0, none⟩)] w fun e w' => e = .returned (.int .i64 (P.s.synced : Nat)) ∧ w = w' := by
  have := psynced_any w P tx h.pag
  rwa [h.ids.1] at this
theorem s_done (w0 w : World) (cm : Bool) (p d reg N : Nat) (tx : Value) (C : List Com) (P : PS) (h : PSide w0 w cm p d reg N tx C P) :
    Calls Tryz.prog 21 #[.pointer (some ⟨p, 0, none⟩)] w fun e w' => e = .returned (.int .i64 (C.length : Nat)) ∧ ∃ q, w' = w.drewN q := by
  have := done_any w P tx C h.pag h.inv
  rwa [h.ids.1] at this
end Go.Proofs.YtkajneeihhobhaaGreat

namespace Go.Proofs.YtkajneeihhobhaaGreat
open Go.RowKit Go.Maps Wal Pgr

/-- The document's pager at r, its commits Ls; K are its blocks. -/
structure RBase (w0 w : World) (r bn rg : Nat) (Ls : List (List (Nat × List Nat))) (v : Value) (vs : List Value) (K : List Nat) : Prop where
  pg : Held w r 35 #[.int .i64 (bn : Int), .int .i64 (rg : Int), v]
  puts : PutsAt w w0.heap.size v vs Ls
  new : w0.heap.size ≤ r
  foot : ∀ x, x ∈ K ↔ (x = r ∨ v.ownBlock = some x ∨ ∃ u ∈ vs, u.ownBlock = some x)
/-- Its transaction at t, that has written L; K are its blocks. -/
structure RTran (w0 w : World) (r t : Nat) (L : List (Nat × List Nat)) (vL : Value) (K : List Nat) : Prop where
  tx : Held w t 43 #[.pointer (some ⟨r, 0, none⟩), vL]
  row : w.ownsRow w0.heap.size 109 2 vL L.length (waitCells L)
  new : w0.heap.size ≤ t
  foot : ∀ x, x ∈ K ↔ (x = t ∨ vL.ownBlock = some x)
section
variable {w0 w w' : World} {r t bn rg : Nat} {Ls : List (List (Nat × List Nat))} {L : List (Nat × List Nat)} {v vL : Value} {vs : List Value} {K K2 H : List Nat}
theorem puts_at {base : Nat} (h : PutsAt w base v vs Ls) {u : Value} (hu : u ∈ vs) : ∃ M : List (Nat × List Nat), w.ownsRow base 109 2 u M.length (waitCells M) := by
  obtain ⟨k, hk⟩ := List.mem_iff_getElem?.1 hu
  have hl := (List.getElem?_eq_some_iff.1 hk).1
  have h1 : vs.length = Ls.length := by have := h.row.1; omega
  exact ⟨_, (h.each k u _ hk (List.getElem?_eq_getElem (by omega))).2⟩
theorem RBase.lt (h : RBase w0 w r bn rg Ls v vs K) : ∀ x ∈ K, w0.heap.size ≤ x ∧ x < w.heap.size := fun x hx => by
  rcases (h.foot x).1 hx with rfl | hx | ⟨u, hu, hx⟩
  · exact ⟨h.new, h.pg.lt⟩
  · exact h.puts.row.lt x hx
  · obtain ⟨M, hM⟩ := puts_at h.puts hu
    exact hM.lt x hx
theorem RTran.lt (h : RTran w0 w r t L vL K) : ∀ x ∈ K, w0.heap.size ≤ x ∧ x < w.heap.size := fun x hx => by
  rcases (h.foot x).1 hx with rfl | hx
  · exact ⟨h.new, h.tx.lt⟩
  · exact h.row.lt x hx
theorem RBase.only (h : RBase w0 w r bn rg Ls v vs K) (k : Only H w w') (hH : ∀ x ∈ K, x ∉ H) : RBase w0 w' r bn rg Ls v vs K :=
  ⟨h.pg.only k (hH r ((h.foot r).2 (.inl rfl))), ⟨k.row h.puts.row (fun x hx => hH x ((h.foot x).2 (.inr (.inl hx)))), fun i u M h1 h2 => ⟨(h.puts.each i u M h1 h2).1, k.row (h.puts.each i u M h1 h2).2 (fun x hx => hH x ((h.foot x).2 (.inr (.inr ⟨u, List.mem_of_getElem? h1, hx⟩))))⟩⟩, h.new, h.foot⟩
theorem RTran.only (h : RTran w0 w r t L vL K) (k : Only H w w') (hH : ∀ x ∈ K, x ∉ H) : RTran w0 w' r t L vL K :=
  ⟨h.tx.only k (hH t ((h.foot t).2 (.inl rfl))), k.row h.row (fun x hx => hH x ((h.foot x).2 (.inr hx))), h.new, h.foot⟩
theorem RBase.under (h : RBase w0 w r bn rg Ls v vs K) (k : Below w.heap.size w w') : RBase w0 w' r bn rg Ls v vs K := h.only (Only.of_below (F := []) k) (by simp)
theorem RTran.under (h : RTran w0 w r t L vL K) (k : Below w.heap.size w w') : RTran w0 w' r t L vL K := h.only (Only.of_below (F := []) k) (by simp)
theorem RBase.apart (h : RBase w0 w r bn rg Ls v vs K) (k : Held w t 43 #[.pointer (some ⟨r, 0, none⟩), vL]) : t ∉ K := fun hx => by
  rcases (h.foot t).1 hx with e | hx | ⟨u, hu, hx⟩
  · exact k.ne_ h.pg (by decide) e
  · exact k.ne_row h.puts.row (by decide) t hx rfl
  · obtain ⟨M, hM⟩ := puts_at h.puts hu
    exact k.ne_row hM (by decide) t hx rfl
theorem RTran.rtx (h : RTran w0 w r t L vL K) (b : RBase w0 w r bn rg Ls v vs K2) : RTx w w0.heap.size r t bn rg v vL L := ⟨b.pg, h.tx, h.row⟩
end
theorem r_write (w0 w : World) (r t bn rg : Nat) (L : List (Nat × List Nat)) (Ls : List (List (Nat × List Nat))) (v vL : Value) (vs : List Value) (K K2 : List Nat) (z : Int) (s : ByteArray) (hb : RBase w0 w r bn rg Ls v vs K) (ht : RTran w0 w r t L vL K2) (h0 : w0.heap.size ≤ w.heap.size) (hL : L.length ≤ 100000) :
    Calls Tryz.prog 34 #[.pointer (some ⟨t, 0, none⟩), .int .i64 z, .string s] w fun e w' => ∃ vL' K', e = .returned (.int .i64 (if wgood bn z s then 0 else 1)) ∧ RBase w0 w' r bn rg Ls v vs K ∧ RTran w0 w' r t (if wgood bn z s then dropB L z ++ [(z.toNat, sec (nums s))] else L) vL' K' ∧ Only [t] w w' ∧ (∀ x ∈ K', x ∈ K2 ∨ w.heap.size ≤ x) := by
  by_cases hz : wgood bn z s
  · rw [if_pos hz, if_pos hz]
    have ez : z = (z.toNat : Int) := by have := hz.1; omega
    have := rtwrite_any w w0.heap.size r t bn rg v vL L z.toNat (nums s) (ht.rtx hb) (by have := hz.1; omega) (nums_lt s) (by rw [nums_length]; exact hz.2) hL
    rw [← ez, strB_nums] at this
    refine this.mono ?_
    rintro e w' ⟨vL', rfl, h1, h2⟩
    refine ⟨vL', t :: vL'.ownBlock.toList, rfl, hb.only h2 (fun x hx hm => ?_), ⟨h1.tx, row_mono h1.row h0, ht.new, fun x => by simp⟩, h2, fun x hx => ?_⟩
    · have : x = t := by simpa using hm
      subst this
      exact hb.apart ht.tx hx
    · rcases List.mem_cons.1 hx with rfl | hx
      · exact .inl ((ht.foot _).2 (.inl rfl))
      · exact .inr (h1.row.lt x (by simpa using hx)).1
  · rw [if_neg hz, if_neg hz]
    refine (rtwrite_bad w w0.heap.size r t bn rg v vL L z s (ht.rtx hb) ?_).mono ?_
    · unfold wgood at hz; omega
    · rintro e w' ⟨rfl, rfl⟩
      exact ⟨vL, K2, rfl, hb, ht, Only.refl _ _, fun x hx => .inl hx⟩
structure RCommit (w0 w w' : World) (r bn rg : Nat) (L : List (Nat × List Nat)) (Ls : List (List (Nat × List Nat))) (v : Value) (vs : List Value) (K K2 : List Nat) (e : Ending) : Prop where
  none_ : L.length = 0 → e = .returned (.tuple #[.int .i64 (Ls.length : Nat), .int .i64 0]) ∧ RBase w0 w' r bn rg Ls v vs K ∧ w = w'
  big : L.length ≠ 0 → rg < (16 + L.length * 520 + 511) / 512 → e = .returned (.tuple #[.int .i64 0, .int .i64 13]) ∧ RBase w0 w' r bn rg Ls v vs K ∧ w = w'
  some_ : L.length ≠ 0 → (16 + L.length * 520 + 511) / 512 ≤ rg → e = .returned (.tuple #[.int .i64 ((Ls.length : Int) + 1), .int .i64 0]) ∧ ∃ v' vs' K', RBase w0 w' r bn rg (Ls ++ [L]) v' vs' K' ∧ Only K w w' ∧ ∀ x ∈ K', x ∈ K ∨ x ∈ K2 ∨ w.heap.size ≤ x
theorem r_commit (w0 w : World) (r t bn rg : Nat) (L : List (Nat × List Nat)) (Ls : List (List (Nat × List Nat))) (v vL : Value) (vs : List Value) (K K2 : List Nat) (hb : RBase w0 w r bn rg Ls v vs K) (ht : RTran w0 w r t L vL K2) (h0 : w0.heap.size ≤ w.heap.size) (hL : L.length ≤ 100000) (hLs : Ls.length ≤ 5800000000000) :
    Calls Tryz.prog 17 #[.pointer (some ⟨t, 0, none⟩)] w fun e w' => RCommit w0 w w' r bn rg L Ls v vs K K2 e := by
  refine (rtcommit_any w w0.heap.size w0.heap.size r t bn rg v vL vs L Ls (ht.rtx hb) hb.puts hL hLs (Nat.le_refl _) h0).mono fun e w' k => ⟨fun h => ?_, fun h h2 => ?_, fun h h2 => ?_⟩
  · obtain ⟨h3, rfl⟩ := k.none_ h
    exact ⟨h3, hb, rfl⟩
  · obtain ⟨h3, rfl⟩ := k.big h h2
    exact ⟨h3, hb, rfl⟩
  · obtain ⟨h3, v', h4, h5, h6, h7⟩ := k.some_ h h2
    refine ⟨h3, v', vs ++ [vL], r :: (v'.ownBlock.toList ++ (vs ++ [vL]).flatMap fun u => u.ownBlock.toList), ⟨h4, h5, hb.new, fun x => ?_⟩, h6.mono (fun x hx => ?_), fun x hx => ?_⟩
    · simp only [List.mem_cons, List.mem_append, Option.mem_toList, List.mem_flatMap]
    · rcases List.mem_cons.1 hx with rfl | hx
      · exact .inl ((hb.foot _).2 (.inl rfl))
      · exact .inl ((hb.foot _).2 (.inr (.inl (by simpa using hx))))
    · simp only [List.mem_cons, List.mem_append, Option.mem_toList, List.mem_flatMap] at hx
      rcases hx with rfl | hx | ⟨u, hu, hx⟩
      · exact .inl ((hb.foot _).2 (.inl rfl))
      · rcases h7 with h7 | ⟨y, h7, h8⟩
        · exact .inl ((hb.foot _).2 (.inr (.inl (by rw [← h7]; exact hx))))
        · rw [h7] at hx
          injection hx with hx
          exact .inr (.inr (by omega))
      · rcases hu with hu | hu
        · exact .inl ((hb.foot _).2 (.inr (.inr ⟨u, hu, hx⟩)))
        · have : u = vL := by simpa using hu
          subst this
          exact .inr (.inl ((ht.foot _).2 (.inr hx)))
/-- A new transaction of the document's. -/
theorem RBase.begin {w0 w w' : World} {r bn rg : Nat} {Ls : List (List (Nat × List Nat))} {v : Value} {vs : List Value} {K : List Nat} (h : RBase w0 w r bn rg Ls v vs K) (h0 : w0.heap.size ≤ w.heap.size) (hw : w' = w.alloc (.cells #[.pointer (some ⟨r, 0, none⟩), .slice none 0 0] 43)) :
    RBase w0 w' r bn rg Ls v vs K ∧ RTran w0 w' r w.heap.size [] (.slice none 0 0) [w.heap.size] := by
  subst hw
  exact ⟨h.under ((Below.refl _ _).alloc (Nat.le_refl _) _), Held.new _ _ _ rfl, World.ownsRow_nil _ _ _ _, h0, fun x => by simp [Value.ownBlock]⟩
end Go.Proofs.YtkajneeihhobhaaGreat
