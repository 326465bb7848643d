/-
  pager: a pager and its open transaction in memory; the contracts of the small calls.
-/
import Derived.Test.YtaoldopkehbhkaaPg1
import Derived.BigQuiet
import Derived.Deep.QuietTactic
import Derived.LaidEqlPtr
namespace Go.Proofs.Ytaoldopkehbhkaa
open Go.RowKit Go.Maps Wal

/-- A pager's parts: its block, its disk's and its log's, the map of what is away, the log's and the disk's blocks and what they hold, how many sectors are the log's, how many blocks there are. -/
structure PS where
  p : Nat
  d : Nat
  lb : Nat
  am : Nat
  G : List Nat
  F : List Nat
  s : LS
  m : Dsk.DM
  reg : Nat
  N : Nat
  dead : Bool
  f : Nat → Option (List Nat)
def PS.cells (P : PS) (tx : Value) : Array Value := #[.pointer (some ⟨P.d, 0, none⟩), .pointer (some ⟨P.lb, 0, none⟩), .int .i64 (P.reg : Int), .map (some P.am), tx, .bool P.dead]
/-- In w the pager P lies, tx is its open transaction. -/
structure PagAt (w : World) (P : PS) (tx : Value) : Prop where
  held : Held w P.p 87 (P.cells tx)
  log : LD w P.lb P.G P.s P.d P.F P.m
  away : MapAt w P.am P.N P.f
  ne : P.p ≠ P.am
  pfar : P.p ∉ P.G ++ P.F
  afar : P.am ∉ P.G ++ P.F
  size : P.m.dur.length = P.reg + P.N
/-- In w the transaction t of P lies, g is what it has written. -/
structure TxAt (w : World) (P : PS) (t tm : Nat) (g : Nat → Option (List Nat)) : Prop where
  held : Held w t 73 #[.pointer (some ⟨P.p, 0, none⟩), .map (some tm)]
  dirty : MapAt w tm P.N g
  ne : t ≠ P.p ∧ t ≠ P.am ∧ t ≠ tm ∧ tm ≠ P.p ∧ tm ≠ P.am
  tfar : t ∉ P.G ++ P.F
  mfar : tm ∉ P.G ++ P.F
section
variable {w w' : World} {P : PS} {tx : Value} {t tm : Nat} {g : Nat → Option (List Nat)} {H : List Nat}
theorem PagAt.only (h : PagAt w P tx) (k : Only H w w') (hp : P.p ∉ H) (ha : P.am ∉ H) (hf : ∀ x ∈ P.G ++ P.F, x ∉ H) : PagAt w' P tx :=
  ⟨h.held.only k hp, h.log.only k (fun x hx => hf x (List.mem_append.2 (.inl hx))) (fun x hx => hf x (List.mem_append.2 (.inr hx))), h.away.only k ha, h.ne, h.pfar, h.afar, h.size⟩
theorem PagAt.under (h : PagAt w P tx) (k : Below w.heap.size w w') : PagAt w' P tx := h.only (Only.of_below (F := []) k) (by simp) (by simp) (fun _ _ => by simp)
theorem PagAt.drewN (h : PagAt w P tx) (n : Nat) : PagAt (w.drewN n) P tx := h.only ((Only.refl [] w).drewN n) (by simp) (by simp) (fun _ _ => by simp)
theorem PagAt.alloc (h : PagAt w P tx) (o : Obj) : PagAt (w.alloc o) P tx := h.under ((Below.refl _ _).alloc (Nat.le_refl _) o)
theorem PagAt.lt (h : PagAt w P tx) : P.p < w.heap.size ∧ P.am < w.heap.size ∧ ∀ x ∈ P.G ++ P.F, x < w.heap.size :=
  ⟨h.held.lt, h.away.lt, fun x hx => by
    rcases List.mem_append.1 hx with hx | hx
    · exact h.log.glt x hx
    · exact h.log.flt x hx⟩
theorem PagAt.most (h : PagAt w P tx) : P.reg + P.N ≤ 4096 := by
  have := h.log.disk.good.most
  have := h.size
  omega
theorem TxAt.only (h : TxAt w P t tm g) (k : Only H w w') (ht : t ∉ H) (hm : tm ∉ H) : TxAt w' P t tm g := ⟨h.held.only k ht, h.dirty.only k hm, h.ne, h.tfar, h.mfar⟩
theorem TxAt.under (h : TxAt w P t tm g) (k : Below w.heap.size w w') : TxAt w' P t tm g := h.only (Only.of_below (F := []) k) (by simp) (by simp)
theorem TxAt.drewN (h : TxAt w P t tm g) (n : Nat) : TxAt (w.drewN n) P t tm g := h.only ((Only.refl [] w).drewN n) (by simp) (by simp)
theorem TxAt.alloc (h : TxAt w P t tm g) (o : Obj) : TxAt (w.alloc o) P t tm g := h.under ((Below.refl _ _).alloc (Nat.le_refl _) o)
/-- A store into the pager's own block: whether it is dead; its open transaction. -/
theorem PagAt.setDead (h : PagAt w P tx) (x : Bool) : PagAt (w.setCell ⟨P.p, 5, none⟩ (.bool x)) { P with dead := x } tx := by
  have ho : Only [P.p] w (w.setCell ⟨P.p, 5, none⟩ (.bool x)) := (Only.refl _ w).setCell (.inl (by simp)) _
  refine ⟨h.held.set_ 5 (.bool x), h.log.only ho (fun y hy => ?_) (fun y hy => ?_), h.away.only ho (by have := h.ne; simpa using this.symm), h.ne, h.pfar, h.afar, h.size⟩
  · have := h.pfar
    simp only [List.mem_singleton]
    rintro rfl
    exact this (List.mem_append.2 (.inl hy))
  · have := h.pfar
    simp only [List.mem_singleton]
    rintro rfl
    exact this (List.mem_append.2 (.inr hy))
theorem PagAt.setTx (h : PagAt w P tx) (v : Value) : PagAt (w.setCell ⟨P.p, 4, none⟩ v) P v := by
  have ho : Only [P.p] w (w.setCell ⟨P.p, 4, none⟩ v) := (Only.refl _ w).setCell (.inl (by simp)) _
  refine ⟨h.held.set_ 4 v, h.log.only ho (fun y hy => ?_) (fun y hy => ?_), h.away.only ho (by have := h.ne; simpa using this.symm), h.ne, h.pfar, h.afar, h.size⟩
  · have := h.pfar
    simp only [List.mem_singleton]
    rintro rfl
    exact this (List.mem_append.2 (.inl hy))
  · have := h.pfar
    simp only [List.mem_singleton]
    rintro rfl
    exact this (List.mem_append.2 (.inr hy))
theorem TxAt.beside (h : TxAt w P t tm g) (x : Bool) : TxAt (w.setCell ⟨P.p, 5, none⟩ (.bool x)) { P with dead := x } t tm g :=
  have k := h.only ((Only.refl [P.p] w).setCell (p := ⟨P.p, 5, none⟩) (.inl (by simp)) (.bool x)) (by simpa using h.ne.1) (by simpa using h.ne.2.2.2.1)
  ⟨k.held, k.dirty, k.ne, k.tfar, k.mfar⟩
end

def deadErr (x : Bool) : Int := if x then 10 else 0
set_option maxRecDepth 100000 in
theorem palive_any (w : World) (P : PS) (tx : Value) (h : PagAt w P tx) :
    Calls Try.prog 39 #[.pointer (some ⟨P.p, 0, none⟩)] w fun e w' => e = .returned (.int .i64 (deadErr (P.dead || P.m.dead))) ∧ w' = w.setCell ⟨P.p, 5, none⟩ (.bool (P.dead || P.m.dead)) := by
  have c0 : w.cell? ⟨P.p, 0, none⟩ = some (.pointer (some ⟨P.d, 0, none⟩)) := h.held.cell 0
  have c5 : w.cell? ⟨P.p, 5, none⟩ = some (.bool P.dead) := h.held.cell 5
  have z5 := h.held.frozen 5
  have D : Hid (Calls Try.prog 52 #[.pointer (some ⟨P.d, 0, none⟩)] w fun e w' => e = .returned (.bool P.m.dead) ∧ w = w') := dead_any w P.d P.F P.m h.log.disk
  clear h
  cases hd : P.dead with
  | true =>
    rw [hd] at c5
    go_enter Try.func39, Try.ntmps39
    go_wp2_with fail
    go_ret
    exact ⟨rfl, rfl⟩
  | false =>
    rw [hd] at c5
    cases hm : P.m.dead with
    | true =>
      rw [hm] at D
      go_enter Try.func39, Try.ntmps39
      go_wp2_with fail
      refine D.out.mono ?_
      rintro e w' ⟨rfl, rfl⟩
      go_wp2_with fail
      go_ret
      exact ⟨rfl, rfl⟩
    | false =>
      rw [hm] at D
      go_enter Try.func39, Try.ntmps39
      go_wp2_with fail
      refine D.out.mono ?_
      rintro e w' ⟨rfl, rfl⟩
      go_wp2_with fail
      go_ret
      exact ⟨rfl, rfl⟩
set_option maxRecDepth 100000 in
theorem eq_tx (w : World) (t : Nat) : (binOp .eql 25 (.pointer (some ⟨t, 0, none⟩)) (.pointer (some ⟨t, 0, none⟩))).run Try.prog w = .ok (.bool true) w := by
  obtain ⟨j, hj⟩ : ∃ j, Try.prog.info? 73 = some j := Option.isSome_iff_exists.1 (by kernel_rfl)
  exact run_eql_ptr_same w ⟨t, 0, none⟩ Try.underlying25 hj
set_option maxRecDepth 100000 in
theorem isOpen_yes (w : World) (P : PS) (t tm : Nat) (g : Nat → Option (List Nat)) (h : PagAt w P (.pointer (some ⟨t, 0, none⟩))) (k : TxAt w P t tm g) :
    Calls Try.prog 43 #[.pointer (some ⟨t, 0, none⟩)] w fun e w' => e = .returned (.bool true) ∧ w = w' := by
  have c4 : w.cell? ⟨P.p, 4, none⟩ = some (.pointer (some ⟨t, 0, none⟩)) := h.held.cell 4
  have t0 : w.cell? ⟨t, 0, none⟩ = some (.pointer (some ⟨P.p, 0, none⟩)) := k.held.cell 0
  have heq := eq_tx w t
  clear h k
  go_enter Try.func43, Try.ntmps43
  go_wp2_with fail
  go_ret
  exact ⟨rfl, rfl⟩
set_option maxRecDepth 100000 in
theorem talive_any (w : World) (P : PS) (t tm : Nat) (g : Nat → Option (List Nat)) (h : PagAt w P (.pointer (some ⟨t, 0, none⟩))) (k : TxAt w P t tm g) :
    Calls Try.prog 30 #[.pointer (some ⟨t, 0, none⟩)] w fun e w' => e = .returned (.int .i64 (deadErr (P.dead || P.m.dead))) ∧ w' = w.setCell ⟨P.p, 5, none⟩ (.bool (P.dead || P.m.dead)) := by
  have t0 : w.cell? ⟨t, 0, none⟩ = some (.pointer (some ⟨P.p, 0, none⟩)) := k.held.cell 0
  have O := Lib.hid (isOpen_yes w P t tm g h k)
  have A := Lib.hid (palive_any w P _ h)
  clear h k
  go_enter Try.func30, Try.ntmps30
  go_wp2_with fail
  refine O.out.mono ?_
  rintro e w' ⟨rfl, rfl⟩
  go_wp2_with fail
  refine A.out.mono ?_
  rintro e w' ⟨rfl, rfl⟩
  go_wp2_with fail
  go_ret
  exact ⟨rfl, rfl⟩
set_option maxRecDepth 100000 in
theorem blocks_any (w : World) (P : PS) (tx : Value) (h : PagAt w P tx) :
    Calls Try.prog 44 #[.pointer (some ⟨P.p, 0, none⟩)] w fun e w' => e = .returned (.int .i64 (P.N : Int)) ∧ ∃ q, w' = w.drewN q := by
  have c0 : w.cell? ⟨P.p, 0, none⟩ = some (.pointer (some ⟨P.d, 0, none⟩)) := h.held.cell 0
  have c2 : w.cell? ⟨P.p, 2, none⟩ = some (.int .i64 (P.reg : Int)) := h.held.cell 2
  have hm := h.most
  have S : ∀ q, Hid (Calls Try.prog 36 #[.pointer (some ⟨P.d, 0, none⟩)] (w.drewN q) fun e w' => e = .returned (.int .i64 ((P.reg : Int) + (P.N : Int))) ∧ w' = w.drewN q) := fun q => by
    have h9 := size_any (w.drewN q) P.d P.F P.m (h.log.disk.drewN q)
    rw [h.size, show (((P.reg + P.N : Nat)) : Int) = (P.reg : Int) + (P.N : Int) by omega] at h9
    exact Lib.hid (h9.mono fun _ _ ⟨h1, h2⟩ => ⟨h1, h2.symm⟩)
  have e1 : (P.reg : Int) + (P.N : Int) - (P.reg : Int) = (P.N : Int) := by omega
  have k1 : (P.reg : Int) ≤ 4096 := by omega
  have k2 : (P.N : Int) ≤ 4096 := by omega
  clear h hm
  go_enter Try.func44, Try.ntmps44
  go_wp2_with fail
  go_quiet ((go_at_call 36; exact Calls.quiet_of_same (S _).out))
  go_wp2
  go_ret
  exact ⟨rfl, _, rfl⟩
end Go.Proofs.Ytaoldopkehbhkaa
