/-
  btree: Tree.change.
-/
import Derived.Test.YtnogmgnbhcmajaaDoorQA53
namespace Go.Proofs.YtnogmgnbhcmajaaDoor
open Go.RowKit Wal

/-- What Put and Delete turn: the store's blocks, the tree's, a change's. -/
def TS : List TypeId := [56, 59, 94, 67]
theorem KpC.kps {B C : Nat} {w w' : World} (h : KpC B C w w') (u : World) (hu : Below u.heap.size u w) (hC : u.heap.size ≤ C) : KpS TS B u w' :=
  ⟨h.os.trans hu.os, h.tape.trans hu.tape, h.output.trans hu.output, Nat.le_trans hu.size h.size, fun i hi hf => by
    have e := hu.block i hi
    refine (h.block i (Nat.lt_of_lt_of_le hi hu.size) (fun cs t m hx hc => ?_)).trans e
    rcases hc with ⟨h1, h2⟩ | ⟨h1, _⟩
    · rcases hf with hf | hf
      · omega
      · refine hf cs t m (by rw [← e]; exact hx) ?_
        simp only [TS, List.mem_cons, List.not_mem_nil, or_false] at h2 ⊢
        rcases h2 with h2 | h2 | h2 <;> simp [h2]
    · omega⟩
/-- What change's closure leaves. -/
def RunR (B C : Nat) (W : World) (cb t p root n : Nat) (f : Nat → Option KB) (key : List Nat) (ed : Value) (es : List En) (bs : List Nat) (E : List En → Option (List En)) (rb fb : Nat) (w2 : World) : Prop :=
  ∃ r b ww, RunE B C W cb t p root n f key ed es bs E (.returned (.tuple #[.int .i64 r, .bool b])) ww ∧ w2 = (ww.setCell ⟨rb, 0, none⟩ (.int .i64 r)).setCell ⟨fb, 0, none⟩ (.bool b)
theorem RunE.form {B C : Nat} {w w' : World} {cb t p root n : Nat} {f : Nat → Option KB} {key : List Nat} {ed : Value} {es : List En} {bs : List Nat} {E : List En → Option (List En)} {x : Ending} (h : RunE B C w cb t p root n f key ed es bs E x w') : ∃ r b, x = .returned (.tuple #[.int .i64 r, .bool b]) ∧ KpC B C w w' := by
  rcases h with ⟨_, _, _, _, e, _, k⟩ | ⟨_, _, _, _, _, _, _, _, _, _, e, _, _, _, k⟩
  · exact ⟨_, _, e, k⟩
  · exact ⟨_, _, e, k⟩
set_option maxRecDepth 100000 in
set_option maxHeartbeats 3200000 in
theorem change1_any (B C : Nat) (w : World) (cb t p root n : Nat) (f : Nat → Option KB) (key : List Nat) (ed : Value) (es : List En) (bs : List Nat) (E : List En → Option (List En)) (rb fb : Nat) (r0 : Int) (b0 : Bool) (hr : Held w rb 3 #[.int .i64 r0]) (hf : Held w fb 4 #[.bool b0]) (hC : rb < C)
    (h : Calls Tryd.prog 36 #[.pointer (some ⟨cb, 0, none⟩)] w (RunE B C w cb t p root n f key ed es bs E)) :
    Calls Tryd.prog 35 #[.pointer (some ⟨cb, 0, none⟩), .pointer (some ⟨rb, 0, none⟩), .pointer (some ⟨fb, 0, none⟩)] w fun x w' => x = .returned (.tuple #[]) ∧ RunR B C w cb t p root n f key ed es bs E rb fb w' := by
  have HR := Lib.hid hr
  have HF := Lib.hid hf
  have HH := Lib.hid h
  clear hr hf h
  go_enter Tryd.func35, Tryd.ntmps35
  go_wp2_with fail
  refine HH.out.mono ?_
  intro x w2 hx
  obtain ⟨r, b, rfl, hk⟩ := hx.form
  have HX := Lib.hid hx
  have R2 := Lib.hid (hk.held HR.out (by decide) (fun _ => hC))
  have F2 := Lib.hid (hk.held HF.out (by decide) (fun e => absurd e (by decide)))
  have NE : fb ≠ rb := Held.ne_ F2.out R2.out (by decide)
  have a0 := R2.out.cell 0
  have b0 := F2.out.cell 0
  have ya := R2.out.frozen 0
  have yb := F2.out.frozen 0
  have la := R2.out.lt
  have lb := F2.out.lt
  clear hx hk HH
  go_wp2_with fail
  go_end0
  exact ⟨rfl, r, b, w2, HX.out, rfl⟩
end Go.Proofs.YtnogmgnbhcmajaaDoor
