/-
  wire: the reader in memory: its block, its headers' row; what a call of its own leaves of the others' blocks.
-/
import Derived.Test.YtnodhbgkoedalaaGreatDoorR12
import Derived.Test.YtnodhbgkoedalaaGreatDoorQWi
import Derived.Test.YtnodhbgkoedalaaGreatDoorReg
namespace Go.Proofs.YtnodhbgkoedalaaGreatDoor
open Go.RowKit Reply

/-- The reader's cells. -/
def rdL (s : Wire.St) (A : Option Addr) (c : Nat) : List Value := [.int .i64 (s.step : Int), .int .i64 (s.size : Int), .int .i64 (s.head : Int), .int .i64 (s.trailers : Int), .string (S s.q.method), .string (S s.q.target), .slice A s.q.headers.length c, .string (S s.q.body), .bool s.q.close]
/-- Blocks below B but p are as they were. -/
structure Fr (B p : Nat) (w w' : World) : Prop where
  os : w'.os = w.os
  tape : w'.tape = w.tape
  output : w'.output = w.output
  size : w.heap.size ≤ w'.heap.size
  block : ∀ k, k < B → k ≠ p → w'.heap[k]? = w.heap[k]?
section
variable {B p : Nat} {a b c : World}
theorem Fr.refl (B p : Nat) (w : World) : Fr B p w w := ⟨rfl, rfl, rfl, Nat.le_refl _, fun _ _ _ => rfl⟩
theorem Fr.trans (h : Fr B p a b) (k : Fr B p b c) : Fr B p a c := ⟨k.os.trans h.os, k.tape.trans h.tape, k.output.trans h.output, Nat.le_trans h.size k.size, fun i hi hn => (k.block i hi hn).trans (h.block i hi hn)⟩
theorem Fr.of_below (hB : B ≤ a.heap.size) (h : Below a.heap.size a b) : Fr B p a b := ⟨h.os, h.tape, h.output, h.size, fun i hi _ => h.block i (by omega)⟩
theorem Fr.under (h : Fr B p a b) (hB : B ≤ a.heap.size) (k : Below b.heap.size b c) : Fr B p a c := h.trans (Fr.of_below (Nat.le_trans hB h.size) k)
theorem Fr.set_ (h : Fr B p a b) (i : Nat) (u : Value) : Fr B p a (b.setCell ⟨p, i, none⟩ u) :=
  h.trans ⟨rfl, rfl, rfl, by simp [World.setCell], fun k _ hn => Below.heap_setCell b ⟨p, i, none⟩ u k hn⟩
theorem Fr.only (h : Fr B p a b) (k : Only [p] b c) (hB : B ≤ b.heap.size) : Fr B p a c := h.trans ⟨k.os, k.tape, k.output, k.size, fun i hi hn => k.block i (by omega) (by simpa using hn)⟩
theorem Fr.grown {row : Option Nat} (h : Fr B p a b) (hg : b.grownBy c row) (hB : B ≤ b.heap.size) (hr : ∀ k, row = some k → B ≤ k) : Fr B p a c :=
  h.trans ⟨hg.os, hg.tape, hg.output, hg.size, fun i hi _ => hg.block i (by omega) (fun e => by have := hr i e.symm; omega)⟩
theorem Fr.below {B' : Nat} (h : Fr B p a b) (h1 : B' ≤ B) (h2 : B' ≤ p) : Below B' a b := ⟨h.os, h.tape, h.output, h.size, fun k hk => h.block k (by omega) (by omega)⟩
end
theorem set_only (p i : Nat) (w : World) (u : Value) : Only [p] w (w.setCell ⟨p, i, none⟩ u) := (Only.refl [p] w).setCell (p := ⟨p, i, none⟩) (.inl (by simp)) u
/-- The reader in block p (of type ty, further cells z behind it), with state s, its headers' row made since B, within a call that began in w0. -/
structure RdS (w0 : World) (B : Nat) (w : World) (p : Nat) (ty : TypeId) (z : List Value) (s : Wire.St) (A : Option Addr) (c : Nat) : Prop where
  env : Env w0
  l0 : w0.heap.size ≤ p
  lB : w0.heap.size ≤ B
  bel : Below w0.heap.size w0 w
  sz : B ≤ w.heap.size
  tyn : 38 ≠ ty
  blk : Held w p ty (rdL s A c ++ z).toArray
  row : OwnH w B (.slice A s.q.headers.length c) s.q.headers
section
variable {w0 w w' : World} {B p : Nat} {ty : TypeId} {z : List Value} {s : Wire.St} {A : Option Addr} {c : Nat}
theorem RdS.envw (h : RdS w0 B w p ty z s A c) : Env w := h.env.below h.bel
theorem RdS.cell (h : RdS w0 B w p ty z s A c) (i : Nat) : w.cell? ⟨p, i, none⟩ = (rdL s A c ++ z)[i]? := by rw [h.blk.cell i, List.getElem?_toArray]
theorem RdS.frozen (h : RdS w0 B w p ty z s A c) (i : Nat) : w.frozen? ⟨p, i, none⟩ = false := h.blk.frozen i
theorem RdS.under (h : RdS w0 B w p ty z s A c) (k : Below w.heap.size w w') : RdS w0 B w' p ty z s A c :=
  ⟨h.env, h.l0, h.lB, h.bel.trans (k.mono h.bel.size), Nat.le_trans h.sz k.size, h.tyn, Held.below h.blk k h.blk.lt, h.row.below k⟩
theorem RdS.far (h : RdS w0 B w p ty z s A c) : ∀ g, (Value.slice A s.q.headers.length c).ownBlock = some g → g ∉ [p] := fun g hg hm => Held.ne_row h.blk h.row h.tyn g hg (by simpa using hm)
/-- One cell is written. -/
theorem RdS.put (h : RdS w0 B w p ty z s A c) (i : Nat) (u : Value) {s' : Wire.St} (hl : (rdL s A c ++ z).set i u = rdL s' A c ++ z) (hh : s'.q.headers = s.q.headers) : RdS w0 B (w.setCell ⟨p, i, none⟩ u) p ty z s' A c := by
  have b := h.blk.set_ i u
  rw [List.setIfInBounds_toArray, hl] at b
  have r := (set_only p i w u).row h.row h.far
  rw [← hh] at r
  exact ⟨h.env, h.l0, h.lB, h.bel.setCell (p := ⟨p, i, none⟩) h.l0 _, Nat.le_trans h.sz (by simp [World.setCell]), h.tyn, b, r⟩
theorem RdS.step_ (h : RdS w0 B w p ty z s A c) (k : Nat) : RdS w0 B (w.setCell ⟨p, 0, none⟩ (.int .i64 (k : Int))) p ty z { s with step := k } A c := h.put 0 _ rfl rfl
theorem RdS.size_ (h : RdS w0 B w p ty z s A c) (k : Nat) : RdS w0 B (w.setCell ⟨p, 1, none⟩ (.int .i64 (k : Int))) p ty z { s with size := k } A c := h.put 1 _ rfl rfl
theorem RdS.head_ (h : RdS w0 B w p ty z s A c) (k : Nat) : RdS w0 B (w.setCell ⟨p, 2, none⟩ (.int .i64 (k : Int))) p ty z { s with head := k } A c := h.put 2 _ rfl rfl
theorem RdS.tr_ (h : RdS w0 B w p ty z s A c) (k : Nat) : RdS w0 B (w.setCell ⟨p, 3, none⟩ (.int .i64 (k : Int))) p ty z { s with trailers := k } A c := h.put 3 _ rfl rfl
theorem RdS.meth_ (h : RdS w0 B w p ty z s A c) (m : List UInt8) : RdS w0 B (w.setCell ⟨p, 4, none⟩ (.string (S m))) p ty z { s with q := { s.q with method := m } } A c := h.put 4 _ rfl rfl
theorem RdS.targ_ (h : RdS w0 B w p ty z s A c) (m : List UInt8) : RdS w0 B (w.setCell ⟨p, 5, none⟩ (.string (S m))) p ty z { s with q := { s.q with target := m } } A c := h.put 5 _ rfl rfl
theorem RdS.body_ (h : RdS w0 B w p ty z s A c) (m : List UInt8) : RdS w0 B (w.setCell ⟨p, 7, none⟩ (.string (S m))) p ty z { s with q := { s.q with body := m } } A c := h.put 7 _ rfl rfl
theorem RdS.close_ (h : RdS w0 B w p ty z s A c) (m : Bool) : RdS w0 B (w.setCell ⟨p, 8, none⟩ (.bool m)) p ty z { s with q := { s.q with close := m } } A c := h.put 8 _ rfl rfl
/-- The headers' row is another one. -/
theorem RdS.heads_ (h : RdS w0 B w p ty z s A c) {A' : Option Addr} {c' : Nat} {hs : List (List UInt8 × List UInt8)} (ho : OwnH w B (.slice A' hs.length c') hs) : RdS w0 B (w.setCell ⟨p, 6, none⟩ (.slice A' hs.length c')) p ty z { s with q := { s.q with headers := hs } } A' c' := by
  have b := h.blk.set_ 6 (.slice A' hs.length c')
  rw [List.setIfInBounds_toArray] at b
  have r := (set_only p 6 w (.slice A' hs.length c')).row ho (fun g hg hm => Held.ne_row h.blk ho h.tyn g hg (by simpa using hm))
  exact ⟨h.env, h.l0, h.lB, h.bel.setCell (p := ⟨p, 6, none⟩) h.l0 _, Nat.le_trans h.sz (by simp [World.setCell]), h.tyn, b, r⟩
end
/-- What a step answers, and leaves. -/
def Took (w0 : World) (B : Nat) (w : World) (p : Nat) (ty : TypeId) (z : List Value) (r : Int × Wire.St) (e : Ending) (w' : World) : Prop :=
  e = .returned (.int .i64 r.1) ∧ (∃ A c, RdS w0 B w' p ty z r.2 A c) ∧ Fr B p w w'
set_option maxRecDepth 100000 in
set_option maxHeartbeats 4000000 in
theorem then_any {w0 w : World} {B p : Nat} {ty : TypeId} {z : List Value} {s : Wire.St} {A : Option Addr} {c : Nat} (h : RdS w0 B w p ty z s A c) (k : Nat) :
    Calls Tryz.prog 34 #[.pointer (some ⟨p, 0, none⟩), .int .i64 (k : Int)] w fun e w' => e = .returned (.int .i64 0) ∧ w' = w.setCell ⟨p, 0, none⟩ (.int .i64 (k : Int)) := by
  have c0 : w.cell? ⟨p, 0, none⟩ = some (.int .i64 (s.step : Int)) := h.cell 0
  have y0 := h.frozen 0
  clear h
  go_enter Tryz.func34, Tryz.ntmps34
  go_wp2_with fail
  go_ret
  exact ⟨rfl, rfl⟩
theorem Fr.then_ {w : World} {B p : Nat} {k : Int} : Fr B p w (w.setCell ⟨p, 0, none⟩ (.int .i64 k)) := (Fr.refl B p w).set_ 0 _
end Go.Proofs.YtnodhbgkoedalaaGreatDoor
