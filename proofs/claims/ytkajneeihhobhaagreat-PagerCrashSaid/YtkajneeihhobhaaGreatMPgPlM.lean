/-
  PagerPlays: what the law's calls leave, for both sides.
-/
import Derived.Test.YtkajneeihhobhaaGreatMPgSb
namespace Go.Proofs.YtkajneeihhobhaaGreat
open Go.RowKit Go.Maps Wal Pgr

set_option maxRecDepth 100000 in
theorem isOpen_nil (w : World) (p t : Nat) (c4 : w.cell? ⟨p, 4, none⟩ = some (.pointer none)) (t0 : w.cell? ⟨t, 0, none⟩ = some (.pointer (some ⟨p, 0, none⟩))) :
    Calls Tryz.prog 48 #[.pointer (some ⟨t, 0, none⟩)] w fun e w' => e = .returned (.bool false) ∧ w = w' := by
  have heq := eq_tx_none w t
  go_enter Tryz.func48, Tryz.ntmps48
  go_wp2_with fail
  go_ret
  exact ⟨rfl, rfl⟩
set_option maxRecDepth 100000 in
theorem dirty_nil (w : World) (p t : Nat) (c4 : w.cell? ⟨p, 4, none⟩ = some (.pointer none)) (t0 : w.cell? ⟨t, 0, none⟩ = some (.pointer (some ⟨p, 0, none⟩))) :
    Calls Tryz.prog 23 #[.pointer (some ⟨t, 0, none⟩)] w fun e w' => e = .returned (.int .i64 0) ∧ w = w' := by
  have O := Lib.hid (isOpen_nil w p t c4 t0)
  clear c4 t0
  go_enter Tryz.func23, Tryz.ntmps23
  go_wp2_with fail
  refine O.out.mono ?_
  rintro e w' ⟨rfl, rfl⟩
  go_wp2_with fail
  go_ret
  exact ⟨rfl, rfl⟩
set_option maxRecDepth 100000 in
theorem size_any4 (w : World) (a b : Nat) (ha : a < 256) (hb : b < 256) :
    Calls Tryz.prog 10 #[.int .u8 (a : Int), .int .u8 (b : Int)] w fun e w' => e = .returned (.tuple #[.int .i64 ((2 + b % 24 + (1 + a % 24) : Nat) : Int), .int .i64 ((2 + b % 24 : Nat) : Int)]) ∧ w = w' := by
  have a1 : (a : Int) < 256 := by omega
  have b1 : (b : Int) < 256 := by omega
  have a0 : (0 : Int) ≤ (a : Int) := by omega
  have b0 : (0 : Int) ≤ (b : Int) := by omega
  go_enter Tryz.func10, Tryz.ntmps10
  go_wp2_with fail
  go_ret2
  have e1 : 2 + (b : Int) % 24 + 1 + (a : Int) % 24 = ((2 + b % 24 + (1 + a % 24) : Nat) : Int) := by omega
  have e2 : 2 + (b : Int) % 24 = ((2 + b % 24 : Nat) : Int) := by omega
  rw [← e1, ← e2]
  exact ⟨rfl, rfl⟩
/-- Between transactions, t the one that is over. -/
structure Mid (w0 w : World) (p d reg N t r : Nat) (C : List Com) (Ls : List (List (Nat × List Nat))) (P : PS) (v : Value) (vs : List Value) (K : List Nat) : Prop where
  ps : PSide w0 w true p d reg N (.pointer none) C P
  te : ∃ p0, w.cell? ⟨p0, 4, none⟩ = some (.pointer none) ∧ w.cell? ⟨t, 0, none⟩ = some (.pointer (some ⟨p0, 0, none⟩))
  rb : RBase w0 w r N (reg - 1) Ls v vs K
  far : ∀ x ∈ K, x ∉ P.foot
  sims : Sims N C Ls
section
variable {w0 w w' w2 : World} {p d reg N t tm r t2 : Nat} {g : Com} {C C' : List Com} {L : List (Nat × List Nat)} {Ls Ls' : List (List (Nat × List Nat))} {P P' : PS} {v v' vL : Value} {vs vs' : List Value} {K K' K2 : List Nat}
theorem Mid.drewN (h : Mid w0 w p d reg N t r C Ls P v vs K) (q : Nat) : Mid w0 (w.drewN q) p d reg N t r C Ls P v vs K :=
  ⟨h.ps.under (punder_drewN w q), h.te, h.rb.under (punder_drewN w q), h.far, h.sims⟩
/-- A new transaction on both sides. -/
theorem duo_begin {cm : Bool} (hps : PSide w0 w cm p d reg N (.pointer none) C P) (hrb : RBase w0 w r N (reg - 1) Ls v vs K) (hfar : ∀ x ∈ K, x ∉ P.foot) (hs : Sims N C Ls) {t' tm' : Nat} (k : POpen w0 w' cm p d reg N t' tm' (fun _ => none) C P) (ht : w.heap.size ≤ t') (htm : w.heap.size ≤ tm') (ho : Only [p] w w') :
    Duo w0 (w'.alloc (.cells #[.pointer (some ⟨r, 0, none⟩), .slice none 0 0] 43)) cm p d reg N t' tm' r w'.heap.size (fun _ => none) C [] Ls P v (.slice none 0 0) vs K [w'.heap.size] := by
  have hp := hps.pin
  have hb := hrb.only ho (fun x hx hm => hfar x hx (by
    have : x = p := by simpa using hm
    rw [this]; exact hp))
  obtain ⟨h1, h2⟩ := hb.begin k.ps.below.size rfl
  refine ⟨k.under ((Below.refl _ _).alloc (Nat.le_refl _) _), h1, h2, fun x hx hm => ?_, Sim4.nil N, hs⟩
  rcases hx with hx | hx
  · have hl := (hrb.lt x hx).2
    rcases mem_pfoot.1 hm with e | e | e
    · omega
    · omega
    · exact hfar x hx e
  · have : x = w'.heap.size := by simpa using hx
    have := (k.lt x hm).2
    omega
theorem Mid.begin (h : Mid w0 w p d reg N t r C Ls P v vs K) {t' tm' : Nat} (k : POpen w0 w' true p d reg N t' tm' (fun _ => none) C P) (ht : w.heap.size ≤ t') (htm : w.heap.size ≤ tm') (ho : Only [p] w w') :
    Duo w0 (w'.alloc (.cells #[.pointer (some ⟨r, 0, none⟩), .slice none 0 0] 43)) true p d reg N t' tm' r w'.heap.size (fun _ => none) C [] Ls P v (.slice none 0 0) vs K [w'.heap.size] := duo_begin h.ps h.rb h.far h.sims k ht htm ho
/-- The transaction was ended, without a commit of the document's. -/
theorem Duo.ended (h : Duo w0 w true p d reg N t tm r t2 g C L Ls P v vL vs K K2) (k : PSide w0 w' true p d reg N (.pointer none) C P) (te : TxEnd w' P t) (ho : Only [p, t] w w') : Mid w0 w' p d reg N t r C Ls P v vs K := by
  refine ⟨k, ⟨P.p, k.pag.held.cell 4, te.held.cell 0⟩, h.rb.only ho (fun x hx hm => ?_), fun x hx hm => h.far x (.inl hx) (mem_pfoot.2 (.inr (.inr hm))), h.sims⟩
  simp only [List.mem_cons, List.not_mem_nil, or_false] at hm
  refine h.far x (.inl hx) (mem_pfoot.2 ?_)
  rcases hm with rfl | rfl
  · exact .inr (.inr h.po.ps.pin)
  · exact .inl rfl
/-- A sync. -/
theorem Duo.synced (h : Duo w0 w true p d reg N t tm r t2 g C L Ls P v vL vs K K2) (k : PSide w0 w' true p d reg N (.pointer (some ⟨t, 0, none⟩)) C P') (hm : Moved w w' P P') : Duo w0 w' true p d reg N t tm r t2 g C L Ls P' v vL vs K K2 := by
  have hin : ∀ x ∈ P.foot, x ∈ pfoot t tm P := fun x hx => mem_pfoot.2 (.inr (.inr hx))
  refine ⟨⟨k, h.po.tx.moved hm, h.po.tb⟩, h.rb.only hm.only (fun x hx hy => h.far x (.inl hx) (hin x hy)), h.rt.only hm.only (fun x hx hy => h.far x (.inr hx) (hin x hy)), fun x hx hy => ?_, h.sim, h.sims⟩
  have hl : x < w.heap.size := by
    rcases hx with hx | hx
    · exact (h.rb.lt x hx).2
    · exact (h.rt.lt x hx).2
  rcases mem_pfoot.1 hy with e | e | e
  · exact h.far x hx (mem_pfoot.2 (.inl e))
  · exact h.far x hx (mem_pfoot.2 (.inr (.inl e)))
  · rcases hm.foot x e with e | e
    · exact h.far x hx (hin x e)
    · omega
theorem Mid.synced (h : Mid w0 w p d reg N t r C Ls P v vs K) (k : PSide w0 w' true p d reg N (.pointer none) C P') (hm : Moved w w' P P') (ht : w.cell? ⟨p, 4, none⟩ = some (.pointer none) ∧ w.cell? ⟨t, 0, none⟩ = some (.pointer (some ⟨p, 0, none⟩)) ∧ t < w.heap.size ∧ t ∉ P.foot) : Mid w0 w' p d reg N t r C Ls P' v vs K := by
  refine ⟨k, ⟨p, ?_, (hm.only.cell (p := ⟨t, 0, none⟩) ht.2.2.1 ht.2.2.2).trans ht.2.1⟩, h.rb.only hm.only (fun x hx hy => h.far x hx hy), fun x hx hy => ?_, h.sims⟩
  · have := k.pag.held.cell 4
    rwa [k.ids.1] at this
  · rcases hm.foot x hy with e | e
    · exact h.far x hx e
    · have := (h.rb.lt x hx).2; omega
end
/-- Does the log hold it? -/
def fitL (reg : Nat) (L : List (Nat × List Nat)) : Bool := decide ((16 + L.length * 520 + 511) / 512 ≤ reg - 1)
def comX (n : Nat) (L : List (Nat × List Nat)) (f : Bool) : Int := if L.length = 0 then (n : Int) else if f then (n : Int) + 1 else 0
def comY (L : List (Nat × List Nat)) (f : Bool) : Int := if L.length = 0 then 0 else if f then 0 else 13
def comS {α : Type} (l : List α) (x : α) (n : Nat) (f : Bool) : List α := if n ≠ 0 ∧ f = true then l ++ [x] else l
theorem comS_len {α : Type} (l : List α) (x : α) (n : Nat) (f : Bool) : (comS l x n f).length ≤ l.length + 1 := by
  unfold comS
  split <;> simp
theorem t_commit (w0 w : World) (p d reg N t tm r t2 : Nat) (g : Com) (C : List Com) (L : List (Nat × List Nat)) (Ls : List (List (Nat × List Nat))) (P : PS) (v vL : Value) (vs : List Value) (K K2 : List Nat) (h : Duo w0 w true p d reg N t tm r t2 g C L Ls P v vL vs K K2) (hC : C.length < 1152921504606846976) (hN : N ≤ 1024) :
    Calls Tryz.prog 16 #[.pointer (some ⟨t, 0, none⟩)] w fun e w' => e = .returned (.tuple #[.int .i64 (comX C.length L (fitL reg L)), .int .i64 (comY L (fitL reg L))]) ∧ SOver w0 w w' true p d reg N t (comS C g L.length (fitL reg L)) P := by
  have hf := h.po.fine
  have hl := h.sim.len
  have hd := dirt_le N g
  refine (s_commit w0 w true p d reg N t tm g C P h.po hC).mono fun e w' k => ?_
  unfold comX comY comS
  by_cases h0 : L.length = 0
  · obtain ⟨rfl, h3⟩ := k.none_ (by omega)
    simp only [h0, ne_eq, not_true_eq_false, false_and, if_true, if_false]
    exact ⟨trivial, h3⟩
  · have hn : need (rows N g) = (16 + L.length * 520 + 511) / 512 := by rw [rows_need hf, hl, Nat.mul_comm]
    by_cases hfit : (16 + L.length * 520 + 511) / 512 ≤ reg - 1
    · have ef : fitL reg L = true := decide_eq_true hfit
      rcases k.some_ (by omega) ⟨by omega, by rw [hn]; exact hfit⟩ with ⟨rfl, h3⟩ | ⟨_, h3, _⟩
      · simp only [ef, h0, ne_eq, not_false_eq_true, and_self, if_true, if_false]
        exact ⟨trivial, h3⟩
      · cases h3
    · have ef : fitL reg L = false := decide_eq_false hfit
      obtain ⟨rfl, h3⟩ := k.big (by omega) (by rw [hn]; omega)
      simp only [ef, h0, if_false, Bool.false_eq_true, and_false]
      exact ⟨trivial, h3⟩
theorem u_commit (w0 w : World) (r t reg N : Nat) (L : List (Nat × List Nat)) (Ls : List (List (Nat × List Nat))) (v vL : Value) (vs : List Value) (K K2 : List Nat) (hb : RBase w0 w r N (reg - 1) Ls v vs K) (ht : RTran w0 w r t L vL K2) (h0 : w0.heap.size ≤ w.heap.size) (hL : L.length ≤ 100000) (hLs : Ls.length ≤ 5800000000000) :
    Calls Tryz.prog 17 #[.pointer (some ⟨t, 0, none⟩)] w fun e w' => e = .returned (.tuple #[.int .i64 (comX Ls.length L (fitL reg L)), .int .i64 (comY L (fitL reg L))]) ∧ ∃ v' vs' K', RBase w0 w' r N (reg - 1) (comS Ls L L.length (fitL reg L)) v' vs' K' ∧ Only K w w' ∧ ∀ x ∈ K', x ∈ K ∨ x ∈ K2 ∨ w.heap.size ≤ x := by
  refine (r_commit w0 w r t N (reg - 1) L Ls v vL vs K K2 hb ht h0 hL hLs).mono fun e w' k => ?_
  unfold comX comY comS
  by_cases hl : L.length = 0
  · obtain ⟨rfl, h3, rfl⟩ := k.none_ hl
    simp only [hl, ne_eq, not_true_eq_false, false_and, if_true, if_false]
    exact ⟨trivial, v, vs, K, h3, Only.refl _ _, fun x hx => .inl hx⟩
  · by_cases hfit : (16 + L.length * 520 + 511) / 512 ≤ reg - 1
    · have ef : fitL reg L = true := decide_eq_true hfit
      obtain ⟨rfl, h3⟩ := k.some_ hl hfit
      simp only [ef, hl, ne_eq, not_false_eq_true, and_self, if_true, if_false]
      exact ⟨trivial, h3⟩
    · have ef : fitL reg L = false := decide_eq_false hfit
      obtain ⟨rfl, h3, rfl⟩ := k.big hl (by omega)
      simp only [ef, hl, if_false, Bool.false_eq_true, and_false]
      exact ⟨trivial, v, vs, K, h3, Only.refl _ _, fun x hx => .inl hx⟩
section
variable {w0 w w1 w2 : World} {p d reg N t tm r t2 : Nat} {g : Com} {C : List Com} {L : List (Nat × List Nat)} {Ls : List (List (Nat × List Nat))} {P P1 : PS} {v v' vL : Value} {vs vs' : List Value} {K K' K2 : List Nat}
theorem Duo.over (h : Duo w0 w true p d reg N t tm r t2 g C L Ls P v vL vs K K2) (ho : Only (t :: P.foot) w w1) : RBase w0 w1 r N (reg - 1) Ls v vs K ∧ RTran w0 w1 r t2 L vL K2 := by
  have hin : ∀ x ∈ t :: P.foot, x ∈ pfoot t tm P := fun x hx => by
    rcases List.mem_cons.1 hx with rfl | hx
    · exact mem_pfoot.2 (.inl rfl)
    · exact mem_pfoot.2 (.inr (.inr hx))
  exact ⟨h.rb.only ho (fun x hx hm => h.far x (.inl hx) (hin x hm)), h.rt.only ho (fun x hx hm => h.far x (.inr hx) (hin x hm))⟩
theorem Duo.committed (h : Duo w0 w true p d reg N t tm r t2 g C L Ls P v vL vs K K2) (f : Bool) (k : PSide w0 w1 true p d reg N (.pointer none) (comS C g L.length f) P1) (te : TxEnd w1 P1 t) (hf : ∀ x ∈ P1.foot, x ∈ P.foot ∨ w.heap.size ≤ x)
    (hb : RBase w0 w2 r N (reg - 1) (comS Ls L L.length f) v' vs' K') (ho2 : Only K w1 w2) (hk : ∀ x ∈ K', x ∈ K ∨ x ∈ K2 ∨ w1.heap.size ≤ x) : Mid w0 w2 p d reg N t r (comS C g L.length f) (comS Ls L L.length f) P1 v' vs' K' := by
  have hin : ∀ x, x ∈ K ∨ x ∈ K2 → x ∉ P1.foot := fun x hx hm => by
    rcases hf x hm with e | e
    · exact h.far x hx (mem_pfoot.2 (.inr (.inr e)))
    · have : x < w.heap.size := by
        rcases hx with hx | hx
        · exact (h.rb.lt x hx).2
        · exact (h.rt.lt x hx).2
      omega
  have k2 := k.only ho2 (fun x hx => ⟨hin x (.inl hx), (h.rb.lt x hx).1⟩)
  refine ⟨k2, ⟨P1.p, k2.pag.held.cell 4, (te.held.only ho2 (fun hm => h.far t (.inl hm) (mem_pfoot.2 (.inl rfl)))).cell 0⟩, hb, fun x hx hm => ?_, ?_⟩
  · rcases hk x hx with e | e | e
    · exact hin x (.inl e) hm
    · exact hin x (.inr e) hm
    · have := k.lt x hm; omega
  · unfold comS
    split
    · exact h.sims.push h.sim
    · exact h.sims
end
/-- A pager that rests, opened anew. -/
theorem s_open (w0 w : World) (cm : Bool) (p d reg N : Nat) (tx : Value) (C : List Com) (P : PS) (h : PSide w0 w cm p d reg N tx C P) (hs : P.s.synced = C.length) (h2 : 2 ≤ reg) (hN : 1 ≤ N) (hC : C.length < 1152921504606846976) :
    Calls Tryz.prog 22 #[.pointer (some ⟨d, 0, none⟩), .int .i64 (reg : Int)] w fun e w' => ∃ P', e = .returned (.tuple #[.pointer (some ⟨P'.p, 0, none⟩), .int .i64 0]) ∧ PSide w0 w' cm P'.p d reg N (.pointer none) C P' ∧ P'.s.synced = C.length ∧ Only P.F w w' ∧ ∀ x ∈ P'.foot, x ∈ P.F ∨ w.heap.size ≤ x := by
  have k1 := h.inv.wait_none hs
  have k2 := h.inv.safe []
  rw [k1, hs, List.take_length, h.ids.2.2.1, h.ids.2.2.2] at k2
  have k3 := h.pag.size
  rw [h.ids.2.2.1, h.ids.2.2.2] at k3
  have k4 := h.pag.log.disk
  rw [h.ids.2.1] at k4
  have e1 : P.m.dur.length - reg = N := by omega
  refine (popen_any w d P.F P.m reg _ _ C k4 h2 (by omega) h.inv.inv.alive k1 hC (by rw [e1]; exact k2)).mono ?_
  rintro e w' ⟨P', rfl, k⟩
  have hf : ∀ x ∈ P'.foot, x ∈ P.F ∨ w.heap.size ≤ x := fun x hx => by
    rcases pmem_foot.1 hx with e2 | e2 | e2
    · exact .inr (k.new x (.inl e2))
    · exact .inr (k.new x (.inr (.inl e2)))
    · rcases List.mem_append.1 e2 with e3 | e3
      · exact .inr (k.new x (.inr (.inr e3)))
      · exact k.foot x e3
  have hF : ∀ x ∈ P.F, w0.heap.size ≤ x := fun x hx => h.new x (pmem_foot.2 (.inr (.inr (List.mem_append.2 (.inr hx)))))
  exact ⟨P', rfl, ⟨k.pag, k.inv, ⟨rfl, k.d_, k.reg, by rw [k.n, e1]⟩, h.below.trans (k.only.below h.below.size hF), fun x hx => (hf x hx).elim (hF x) (fun e => Nat.le_trans h.below.size e), by rw [k.m_]; exact h.fuel, by rw [k.m_]; exact h.calm⟩, k.syn, k.only, hf⟩
theorem Mid.opened {w0 w w' : World} {p d reg N t r : Nat} {C : List Com} {Ls : List (List (Nat × List Nat))} {P P' : PS} {v : Value} {vs : List Value} {K : List Nat} (h : Mid w0 w p d reg N t r C Ls P v vs K) (k : PSide w0 w' true P'.p d reg N (.pointer none) C P') (ho : Only P.F w w') (hf : ∀ x ∈ P'.foot, x ∈ P.F ∨ w.heap.size ≤ x)
    (ht : w.cell? ⟨p, 4, none⟩ = some (.pointer none) ∧ w.cell? ⟨t, 0, none⟩ = some (.pointer (some ⟨p, 0, none⟩)) ∧ t < w.heap.size ∧ t ∉ P.foot) : Mid w0 w' P'.p d reg N t r C Ls P' v vs K := by
  have hin : ∀ x ∈ P.F, x ∈ P.foot := fun x hx => pmem_foot.2 (.inr (.inr (List.mem_append.2 (.inr hx))))
  have hp : p < w.heap.size ∧ p ∉ P.F := ⟨h.ps.lt p h.ps.pin, fun hm => h.ps.pag.pfar (by rw [h.ps.ids.1]; exact List.mem_append.2 (.inr hm))⟩
  refine ⟨k, ⟨p, (ho.cell (p := ⟨p, 4, none⟩) hp.1 hp.2).trans ht.1, (ho.cell (p := ⟨t, 0, none⟩) ht.2.2.1 (fun hm => ht.2.2.2 (hin t hm))).trans ht.2.1⟩, h.rb.only ho (fun x hx hm => h.far x hx (hin x hm)), fun x hx hm => ?_, h.sims⟩
  rcases hf x hm with e | e
  · exact h.far x hx (hin x e)
  · have := (h.rb.lt x hx).2; omega
end Go.Proofs.YtkajneeihhobhaaGreat
