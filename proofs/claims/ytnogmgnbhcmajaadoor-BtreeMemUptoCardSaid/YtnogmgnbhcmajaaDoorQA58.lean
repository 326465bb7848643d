/-
  btree: Tree.change, whole. · btree: a tree and its store together; check; Put and Delete. · btree: Delete.
-/
import Derived.Test.YtnogmgnbhcmajaaDoorQA57
import Derived.Laws.EntriesVeiled
namespace Go.Proofs.YtnogmgnbhcmajaaDoor
open Go.RowKit Wal

theorem KpS.fresh2 {S : List TypeId} {B : Nat} {w w' w'' : World} (h : KpS S B w w') (k : Below w.heap.size w' w'') : KpS S B w w'' :=
  ⟨k.os.trans h.os, k.tape.trans h.tape, k.output.trans h.output, Nat.le_trans h.size k.size, fun i hi hf => (k.block i hi).trans (h.block i hi hf)⟩
def ChangeE (B : Nat) (w : World) (t p root n : Nat) (f : Nat → Option KB) (es : List En) (bs : List Nat) (E : List En → Option (List En)) (x : Ending) (w' : World) : Prop :=
  KpS TS B w w' ∧ ((E es = none ∧ x = .returned (.tuple #[.bool false, .int .i64 0]) ∧ TreeO w' t p root ∧ MemAt B w' p n f) ∨
    ∃ es' f' root' bs' olds news kept, E es = some es' ∧ x = .returned (.tuple #[.bool true, .int .i64 0]) ∧ Swapped n f f' bs bs' olds news kept ∧ (Tree f' root' es' bs' ∧ (bs.length ≤ 1 → totalE es' ≤ 511 → bs'.length ≤ 1)) ∧ TreeO w' t p root' ∧ MemAt B w' p n f')
theorem change_after {B C : Nat} {w W ww : World} {cb t p root n : Nat} {f : Nat → Option KB} {key : List Nat} {ed : Value} {es : List En} {bs : List Nat} {E : List En → Option (List En)} {r : Int} {b : Bool} (hx : RunE B C W cb t p root n f key ed es bs E (.returned (.tuple #[.int .i64 r, .bool b])) ww) :
    ∃ (root1 : Nat) (f' : Nat → Option KB), r = (root1 : Int) ∧ TreeO ww t p root ∧ MemAt B ww p n f' ∧ ∀ w', TreeO w' t p root1 → MemAt B w' p n f' → KpS TS B w w' → ChangeE B w t p root n f es bs E (.returned (.tuple #[.bool b, .int .i64 0])) w' := by
  rcases hx with ⟨hE, _, _, _, e, hC, _⟩ | ⟨es', f', root', bs', olds, news, kept, _, _, hE, e, hS, hT, hC, _⟩
  · injection e with e
    injection e with e
    injection e with e
    injection e with e1 e
    injection e with e2 _
    injection e1 with _ e1
    injection e2 with e2
    subst e1 e2
    exact ⟨root, f, rfl, hC.tree, hC.mem, fun w' h1 h2 h3 => ⟨h3, .inl ⟨hE, rfl, h1, h2⟩⟩⟩
  · injection e with e
    injection e with e
    injection e with e
    injection e with e1 e
    injection e with e2 _
    injection e1 with _ e1
    injection e2 with e2
    subst e1 e2
    exact ⟨root', f', rfl, hC.tree, hC.mem, fun w' h1 h2 h3 => ⟨h3, .inr ⟨es', f', root', bs', olds, news, kept, hE, rfl, hS, hT, h1, h2⟩⟩⟩
set_option maxRecDepth 100000 in
set_option maxHeartbeats 3200000 in
theorem change_any (B : Nat) (w : World) (t p root n : Nat) (f : Nat → Option KB) (ht : TreeO w t p root) (hBt : B ≤ t) (hm : MemAt B w p n f) (key : List Nat) (hk8 : ∀ x ∈ key, x < 256) (k : FuncId) (caps : Array Value) (hk : ∀ (l : Array Value) u, (callFunc k l).run Tryd.prog u = .ok (.enter k l) u) (hB : B ≤ w.heap.size) (E : List En → Option (List En)) (hE : EditOk key E) (hed : ∀ C w0, Below w.heap.size w w0 → w.heap.size ≤ C → EdAt B C w0 k caps E)
    (d : Nat) (es : List En) (bs : List Nat) (ha : At f d root es bs) (hd : d ≤ 190) (hok : OkAll es) (hr : Rises es) (hn : bs.Nodup) (hn4 : n ≤ 4096) (room : cnt n f + 2 * d + 5 ≤ n) :
    Calls Tryd.prog 23 #[.pointer (some ⟨t, 0, none⟩), .string (strB key), .func (.func k) #[] caps] w (ChangeE B w t p root n f es bs E) := by
  obtain ⟨cb, hcb⟩ : ∃ cb, cb = w.heap.size := ⟨_, rfl⟩
  obtain ⟨w1, hw1⟩ : ∃ w1, w1 = w.alloc (.cells #[.pointer (some ⟨t, 0, none⟩), .string (strB key), .func (.func k) #[] caps, .slice none 0 0, .slice none 0 0] 94) := ⟨_, rfl⟩
  obtain ⟨rb, hrb⟩ : ∃ rb, rb = w1.heap.size := ⟨_, rfl⟩
  obtain ⟨w2, hw2⟩ : ∃ w2, w2 = w1.alloc (.cells #[.int .i64 0] 3) := ⟨_, rfl⟩
  obtain ⟨fb, hfb⟩ : ∃ fb, fb = w2.heap.size := ⟨_, rfl⟩
  obtain ⟨w3, hw3⟩ : ∃ w3, w3 = w2.alloc (.cells #[.bool false] 4) := ⟨_, rfl⟩
  obtain ⟨C, hC⟩ : ∃ C, C = w3.heap.size := ⟨_, rfl⟩
  obtain ⟨w4, hw4⟩ : ∃ w4, w4 = w3.alloc (.cells #[.int .i64 0, .bool false] 82) := ⟨_, rfl⟩
  have U1 : Below w.heap.size w w1 := by rw [hw1]; exact (Below.refl _ _).alloc (Nat.le_refl _) _
  have U2 : Below w1.heap.size w1 w2 := by rw [hw2]; exact (Below.refl _ _).alloc (Nat.le_refl _) _
  have U3 : Below w2.heap.size w2 w3 := by rw [hw3]; exact (Below.refl _ _).alloc (Nat.le_refl _) _
  have U4 : Below w3.heap.size w3 w4 := by rw [hw4]; exact (Below.refl _ _).alloc (Nat.le_refl _) _
  have B3 : Below w.heap.size w w3 := (U1.trans (U2.mono U1.size)).trans (U3.mono (Nat.le_trans U1.size U2.size))
  have B4 : Below w.heap.size w w4 := B3.trans (U4.mono B3.size)
  have N1 : Held w1 cb 94 #[.pointer (some ⟨t, 0, none⟩), .string (strB key), .func (.func k) #[] caps, .slice none 0 0, .slice none 0 0] := by rw [hw1]; exact Held.new _ _ _ hcb
  have N2 : Held w2 rb 3 #[.int .i64 0] := by rw [hw2]; exact Held.new _ _ _ hrb
  have N3 : Held w3 fb 4 #[.bool false] := by rw [hw3]; exact Held.new _ _ _ hfb
  have N4 : Held w4 C 82 #[.int .i64 0, .bool false] := by rw [hw4]; exact Held.new _ _ _ hC
  have M3 := Held.below N2 U3 N2.lt
  have M4 := Held.below M3 U4 M3.lt
  have F4 := Held.below N3 U4 N3.lt
  have K2 := Held.below N1 U2 N1.lt
  have K3 := Held.below K2 U3 K2.lt
  have K4 := Held.below K3 U4 K3.lt
  have CH : Chg B C w4 cb t p root n f key (.func (.func k) #[] caps) (.slice none 0 0) (.slice none 0 0) [] [] :=
    ⟨K4, ht.below B4, hm.under B4, OwnN.nil _ _, OwnN.nil _ _, (fun b hb => (by cases hb)), by omega⟩
  have rbC : rb < C := by rw [hC]; exact M3.lt
  have szC : C ≤ w4.heap.size := by rw [hC]; exact U4.size
  have wC : w.heap.size ≤ C := by rw [hC]; exact B3.size
  have RN := run_any B C w4 cb t p root n f key hk8 k caps hk _ _ CH szC (Nat.le_trans hB B4.size) E hE (hed C w4 B4 wC) d es bs ha hd hok hr hn hn4 room
  have C1 := change1_any B C w4 cb t p root n f key (.func (.func k) #[] caps) es bs E rb fb 0 false M4 F4 rbC RN
  have AT := Lib.hid (attempt_any 35 #[.pointer (some ⟨cb, 0, none⟩), .pointer (some ⟨rb, 0, none⟩), .pointer (some ⟨fb, 0, none⟩)] w3 (RunR B C w4 cb t p root n f key (.func (.func k) #[] caps) es bs E rb fb) (fun _ _ _ => False) (fun _ => rfl) (by
    rw [← hw4, ← hC]
    refine C1.mono ?_
    rintro x w5 ⟨rfl, hR⟩
    refine ⟨?_, .inl ⟨rfl, hR⟩⟩
    obtain ⟨r, b, ww, hx, rfl⟩ := hR
    obtain ⟨r', b', e, hk'⟩ := hx.form
    have T5 := hk'.held N4 (by decide) (fun e => absurd e (by decide))
    have R5 := hk'.held M4 (by decide) (fun _ => rbC)
    have F5 := hk'.held F4 (by decide) (fun e => absurd e (by decide))
    exact (T5.far (p := ⟨rb, 0, none⟩) (Held.ne_ T5 R5 (by decide)) _).far (p := ⟨fb, 0, none⟩) (Held.ne_ T5 F5 (by decide)) _))
  rw [← hC] at AT
  have HW1 := Lib.hid hw1
  have HW2 := Lib.hid hw2
  have HW3 := Lib.hid hw3
  have HCB := Lib.hid hcb
  have HRB : Hid (rb = cb + 1) := by show _ = _; rw [hrb, hcb, hw1]; simp
  have HFB : Hid (fb = rb + 1) := by show _ = _; rw [hfb, hrb, hw2]; simp
  have HT := Lib.hid ht
  have FR := Lib.hid (And.intro hBt (And.intro B4 (And.intro wC (And.intro rbC hC))))
  have HH := Lib.hid (And.intro M4 (And.intro F4 N4))
  have LB : Hid (w.heap.size ≤ rb ∧ w.heap.size ≤ fb) := ⟨by rw [hrb]; exact U1.size, by rw [hfb]; exact Nat.le_trans U1.size U2.size⟩
  clear hw1 hw2 hw3 hw4 hcb hrb hfb hC U1 U2 U3 U4 B3 B4 N1 N2 N3 N4 M3 M4 F4 K2 K3 K4 CH rbC szC wC RN C1 ht hBt hm hk8 hk hB hE hed ha hd hok hr hn hn4 room
  go_enter Tryd.func23, Tryd.ntmps23
  go_upto_region 3 with fail
  rw [← HCB.out, ← HW1.out, ← HW2.out, ← HW3.out, ← HRB.out, ← HFB.out]
  go_wp2_with fail
  refine AT.out.mono ?_
  rintro x w6 ⟨w5, ⟨hR, rfl, hw6⟩ | ⟨_, _, _, h, _⟩⟩
  · obtain ⟨r, b, ww, hx, rfl⟩ := hR
    obtain ⟨r', b', _, hk'⟩ := hx.form
    obtain ⟨root1, f', rfl, hT, hM, hfin⟩ := change_after (w := w) hx
    have R5 := hk'.held HH.out.1 (by decide) (fun _ => FR.out.2.2.2.1)
    have F5 := hk'.held HH.out.2.1 (by decide) (fun e => absurd e (by decide))
    have T5 := hk'.held HH.out.2.2 (by decide) (fun e => absurd e (by decide))
    have n1 : rb ≠ fb := Held.ne_ R5 F5 (by decide)
    have n2 : rb ≠ C := Held.ne_ R5 T5 (by decide)
    have n3 : fb ≠ C := Held.ne_ F5 T5 (by decide)
    have R6 : Held w6 rb 3 #[.int .i64 (root1 : Int)] := by rw [hw6]; exact (((R5.set_ 0 (.int .i64 (root1 : Int))).far (p := ⟨fb, 0, none⟩) n1 _).far (p := ⟨C, 0, none⟩) n2 _).far (p := ⟨C, 1, none⟩) n2 _
    have F6 : Held w6 fb 4 #[.bool b] := by rw [hw6]; exact (((F5.far (p := ⟨rb, 0, none⟩) n1.symm _).set_ 0 (.bool b)).far (p := ⟨C, 0, none⟩) n3 _).far (p := ⟨C, 1, none⟩) n3 _
    have KS : KpS [3, 4, 82] 0 ww w6 := by
      rw [hw6]
      have q1 := (KpS.refl [3, 4, 82] 0 ww).set_ R5 (by simp) (Nat.zero_le _) 0 (.int .i64 (root1 : Int))
      have q2 := q1.set_ (F5.far (p := ⟨rb, 0, none⟩) n1.symm _) (by simp) (Nat.zero_le _) 0 (.bool b)
      have q3 := q2.set_ ((T5.far (p := ⟨rb, 0, none⟩) n2.symm _).far (p := ⟨fb, 0, none⟩) n3.symm _) (by simp) (Nat.zero_le _) 0 (.int .i64 0)
      exact q3.set_ (((T5.far (p := ⟨rb, 0, none⟩) n2.symm _).far (p := ⟨fb, 0, none⟩) n3.symm _).set_ 0 _) (by simp) (Nat.zero_le _) 1 (.bool false)
    have BL : Below w.heap.size ww w6 := by
      rw [hw6]
      exact ((((Below.refl _ _).setCell (p := ⟨rb, 0, none⟩) LB.out.1 _).setCell (p := ⟨fb, 0, none⟩) LB.out.2 _).setCell (p := ⟨C, 0, none⟩) FR.out.2.2.1 _).setCell (p := ⟨C, 1, none⟩) FR.out.2.2.1 _
    obtain ⟨mb, hmb⟩ : ∃ mb, mb = w6.heap.size := ⟨_, rfl⟩
    obtain ⟨w7, hw7⟩ : ∃ w7, w7 = w6.alloc (.cells #[.int .i64 0, .bool false] 82) := ⟨_, rfl⟩
    have U7 : Below w6.heap.size w6 w7 := by rw [hw7]; exact (Below.refl _ _).alloc (Nat.le_refl _) _
    have N7 : Held w7 mb 82 #[.int .i64 0, .bool false] := by rw [hw7]; exact Held.new _ _ _ hmb
    have R7 := Held.below R6 U7 R6.lt
    have F7 := Held.below F6 U7 F6.lt
    have T7 : TreeO w7 t p root := TreeO.below (KS.held hT (by decide)) U7
    have M7 : MemAt B w7 p n f' := (KS.mem hM (by decide) (by decide) (by decide)).under U7
    have KF : KpS TS B w w7 := ((hk'.kps w FR.out.2.1 FR.out.2.2.1).fresh2 BL).fresh2 (U7.mono (Nat.le_trans (Nat.le_trans FR.out.2.1.size hk'.size) BL.size))
    obtain ⟨ri, hri⟩ : ∃ ri : Int, ri = (root1 : Int) := ⟨_, rfl⟩
    rw [← hri] at R7
    have FIN : Hid (ChangeE B w t p root n f es bs E (.returned (.tuple #[.bool b, .int .i64 0])) (w7.setCell ⟨t, 1, none⟩ (.int .i64 ri))) := by
      refine hfin _ (by rw [hri]; exact T7.set_ 1 _) ?_ (KF.set_ T7 (by simp [TS]) FR.out.1 1 _)
      exact (((KpS.refl [67] 0 w7).set_ T7 (by simp) (Nat.zero_le _) 1 (.int .i64 ri)).mem M7 (by decide) (by decide) (by decide))
    have NEF : fb ≠ t := Held.ne_ F7 T7 (by decide)
    have m0 := N7.cell 0
    have a0 := R7.cell 0
    have b0 := F7.cell 0
    have t1 := T7.cell 1
    have ty := T7.frozen 1
    have tl := T7.lt
    have HW7 := Lib.hid hw7
    have HMB := Lib.hid hmb
    clear hx hk' hT hM hfin R5 F5 T5 n1 n2 n3 R6 F6 KS BL hmb hw7 U7 N7 R7 F7 T7 M7 KF hri hw6 AT
    go_upto_region 4 with fail
    rw [← HW7.out, ← HMB.out]
    go_wp2_with fail
    go_ret2
    exact FIN.out
  · exact h.elim
end Go.Proofs.YtnogmgnbhcmajaaDoor

namespace Go.Proofs.YtnogmgnbhcmajaaDoor
open Go.RowKit Wal

/-- A tree on its store. -/
structure LiveT (B : Nat) (w : World) (t p root n : Nat) (f : Nat → Option KB) (es : List En) (bs : List Nat) : Prop where
  tree : TreeO w t p root
  mem : MemAt B w p n f
  lies : Tree f root es bs
  ok : OkAll es
  n4 : n ≤ 4096
  low : B ≤ t
theorem LiveT.under {B : Nat} {w w' : World} {t p root n : Nat} {f : Nat → Option KB} {es : List En} {bs : List Nat} (h : LiveT B w t p root n f es bs) (k : Below w.heap.size w w') : LiveT B w' t p root n f es bs :=
  ⟨h.tree.below k, h.mem.under k, h.lies, h.ok, h.n4, h.low⟩
theorem LiveT.kps {S : List TypeId} {B C : Nat} {w w' : World} {t p root n : Nat} {f : Nat → Option KB} {es : List En} {bs : List Nat} (h : LiveT B w t p root n f es bs) (k : KpS S C w w') (h1 : ∀ x ∈ [67, 54, 56, 59], x ∉ S) : LiveT B w' t p root n f es bs :=
  ⟨k.held h.tree (h1 _ (by simp)), k.mem h.mem (h1 _ (by simp)) (h1 _ (by simp)) (h1 _ (by simp)), h.lies, h.ok, h.n4, h.low⟩
/-- Room enough for one change. -/
def Roomy (n : Nat) (f : Nat → Option KB) (root : Nat) (es : List En) (bs : List Nat) : Prop := ∀ d, At f d root es bs → d ≤ 190 ∧ cnt n f + 2 * d + 5 ≤ n
theorem roomy {n m : Nat} {f : Nat → Option KB} {root : Nat} {es : List En} {bs : List Nat} (hm : es.length < 2 ^ m) (hm2 : m ≤ 190) (h : cnt n f + 2 * m + 5 ≤ n) : Roomy n f root es bs := fun d hd => by
  have : d ≤ m := by
    rcases hd with ⟨_, rfl, _, _⟩ | t
    · omega
    · have h1 := t.len.2
      have h2 : 2 ^ d < 2 ^ m := by omega
      have h3 := (Nat.pow_lt_pow_iff_right (by omega : 1 < 2)).1 h2
      omega
  omega
set_option maxRecDepth 100000 in
theorem check_ok (w : World) (t p root : Nat) (h : TreeO w t p root) (g : Bool) : Calls Tryd.prog 20 #[.pointer (some ⟨t, 0, none⟩), .bool g] w fun x w' => x = .returned (.int .i64 (if g then 0 else 1)) ∧ w = w' := by
  have c2 := h.cell 2
  have lt := h.lt
  clear h
  go_enter Tryd.func20, Tryd.ntmps20
  cases g with
  | true =>
    go_wp2_with fail
    go_ret
    exact ⟨rfl, rfl⟩
  | false =>
    go_wp2_with fail
    go_ret
    exact ⟨rfl, rfl⟩
set_option maxRecDepth 100000 in
theorem check_none (w : World) (g : Bool) : Calls Tryd.prog 20 #[.pointer none, .bool g] w fun x w' => x = .returned (.int .i64 2) ∧ w = w' := by
  go_enter Tryd.func20, Tryd.ntmps20
  go_wp2_with fail
  go_ret
  exact ⟨rfl, rfl⟩
/-- What a change of the tree leaves: pairs es', the store swapped, or nothing turned. -/
def Turned2 (B : Nat) (w w' : World) (t p n : Nat) (f : Nat → Option KB) (bs : List Nat) (es' : List En) : Prop :=
  ∃ f' root' bs' olds news kept, LiveT B w' t p root' n f' es' bs' ∧ Swapped n f f' bs bs' olds news kept ∧ (bs.length ≤ 1 → totalE es' ≤ 511 → bs'.length ≤ 1) ∧ KpS TS B w w'
theorem Swapped.same_ {n : Nat} {f : Nat → Option KB} {bs : List Nat} : Swapped n f f bs bs [] [] bs :=
  ⟨by simp, by simp, List.nodup_nil, by simp, by simp, fun _ _ _ => rfl⟩
theorem put_same {es : List En} {k v : List Nat} (h : Rises es) (hm : (k, v) ∈ es) : putE es k v = es := by
  obtain ⟨a, c, rfl⟩ := List.append_of_mem hm
  rw [show a ++ (k, v) :: c = a ++ [(k, v)] ++ c by simp] at h ⊢
  obtain ⟨h1, _, h3⟩ := rises_append.1 h
  obtain ⟨_, _, h5⟩ := rises_append.1 h1
  rw [put_mid (fun e he => h5 e he (k, v) (by simp)) (fun e he => h3 (k, v) (by simp) e he)]
  have : putE [(k, v)] k v = [(k, v)] := by simp [putE, under, over, ltB_irrefl]
  rw [this]
theorem del_same {k : List Nat} : ∀ {es : List En}, Rises es → (∀ e ∈ es, e.1 ≠ k) → delE es k = es
  | [], _, _ => rfl
  | x :: r, h, hn => by
    obtain ⟨h1, h2⟩ := List.pairwise_cons.1 h
    rcases ltB_total x.1 k with hx | hx | hx
    · have ih := del_same h2 (fun e he => hn e (by simp [he]))
      have hy := ltB_asymm hx
      unfold delE under over at ih ⊢
      simp only [List.filter_cons, hx, hy, if_true, Bool.false_eq_true, if_false, List.cons_append]
      rw [ih]
    · exact absurd hx (hn x (by simp))
    · have h3 : ∀ e ∈ x :: r, ltB k e.1 = true := fun e he => by
        rcases List.mem_cons.1 he with rfl | he
        · exact hx
        · exact ltB_trans hx (h1 e he)
      unfold delE
      rw [under_none h3, over_all h3]
      rfl
def goodK (k : List Nat) : Bool := decide (1 ≤ k.length ∧ k.length ≤ 128)
def goodV (v : List Nat) : Bool := decide (v.length ≤ 64)
/-- Put's answer. -/
def PutA (B : Nat) (w : World) (t p n : Nat) (f : Nat → Option KB) (es : List En) (bs : List Nat) (k v : List Nat) (x : Ending) (w' : World) : Prop :=
  if (goodK k && goodV v) = true then x = .returned (.int .i64 0) ∧ Turned2 B w w' t p n f bs (putE es k v) else x = .returned (.int .i64 1) ∧ Below w.heap.size w w'
set_option maxRecDepth 100000 in
set_option maxHeartbeats 1600000 in
theorem put_any (B : Nat) (w : World) (t p root n : Nat) (f : Nat → Option KB) (es : List En) (bs : List Nat) (h : LiveT B w t p root n f es bs) (room : Roomy n f root es bs) (k v : List Nat) (hk8 : ∀ x ∈ k, x < 256) (hv8 : ∀ x ∈ v, x < 256) :
    Calls Tryd.prog 12 #[.pointer (some ⟨t, 0, none⟩), .string (strB k), .string (strB v)] w (PutA B w t p n f es bs k v) := by
  obtain ⟨q, hq⟩ : ∃ q, q = w.heap.size := ⟨_, rfl⟩
  obtain ⟨w2, hw2⟩ : ∃ w2, w2 = (w.alloc (.cells #[.string (strB k)] 9)).alloc (.cells #[.string (strB v)] 9) := ⟨_, rfl⟩
  have KH : Held w2 q 9 #[.string (strB k)] := by rw [hw2]; exact (Held.new _ _ _ hq).alloc _
  have VH : Held w2 (q + 1) 9 #[.string (strB v)] := by rw [hw2]; exact Held.new _ _ _ (by rw [hq]; simp)
  have BW : Below w.heap.size w w2 := by rw [hw2]; exact ((Below.refl _ _).alloc (Nat.le_refl _) _).alloc (by simp) _
  have H2 := h.under BW
  have CK := Lib.hid (fun g => check_ok w2 t p root H2.tree g)
  obtain ⟨g1, hg1⟩ : ∃ g, g = goodK k := ⟨_, rfl⟩
  obtain ⟨g2, hg2⟩ : ∃ g, g = goodV v := ⟨_, rfl⟩
  have GK := Lib.hid (isGoodKey_any w2 k)
  have GV := Lib.hid (isGoodValue_any w2 v)
  rw [show decide (1 ≤ k.length ∧ k.length ≤ 128) = g1 from hg1.symm] at GK
  rw [show decide (v.length ≤ 64) = g2 from hg2.symm] at GV
  have CH : Hid ((goodK k && goodV v) = true → Calls Tryd.prog 23 #[.pointer (some ⟨t, 0, none⟩), .string (strB k), .func (.func 24) #[] #[.pointer (some ⟨q, 0, none⟩), .pointer (some ⟨q + 1, 0, none⟩)]] w2 (ChangeE B w2 t p root n f es bs (putO k v))) := fun hg => by
    obtain ⟨g1, g2⟩ := Bool.and_eq_true_iff.1 hg
    have g1 := of_decide_eq_true g1
    have g2 := of_decide_eq_true g2
    obtain ⟨⟨d, ha⟩, hr, hn⟩ := tree_at.1 H2.lies
    obtain ⟨hd, rm⟩ := room d ha
    refine change_any B w2 t p root n f H2.tree H2.low H2.mem k hk8 _ _ (fun _ _ => rfl) (Nat.le_trans H2.low (Nat.le_of_lt H2.tree.lt)) _ (putO_ok ⟨g1.1, g1.2, g2, hk8, hv8⟩) (fun C w0 hb hC => put_ed B C w0 q (q + 1) k v hk8 hv8 (KH.below hb KH.lt) (VH.below hb VH.lt)) d es bs ha hd H2.ok hr hn H2.n4 rm
  have GG : Hid ((g1 && g2) = true → (1 ≤ k.length ∧ k.length ≤ 128) ∧ v.length ≤ 64) := fun hg => by
    rw [hg1, hg2] at hg
    obtain ⟨g1, g2⟩ := Bool.and_eq_true_iff.1 hg
    exact ⟨of_decide_eq_true g1, of_decide_eq_true g2⟩
  have HH := Lib.hid h
  have B2 := Lib.hid BW
  have H22 := Lib.hid H2
  have k0 := KH.cell 0
  have v0 := VH.cell 0
  have kl := KH.lt
  have vl := VH.lt
  have HQ := Lib.hid hq
  have HW2 := Lib.hid hw2
  have K8 := Lib.hid hk8
  have V8 := Lib.hid hv8
  clear hq hw2 KH VH BW H2 h room hk8 hv8
  have PU : Hid (∀ x w', (if (g1 && g2) = true then x = .returned (.int .i64 0) ∧ Turned2 B w w' t p n f bs (putE es k v) else x = .returned (.int .i64 1) ∧ Below w.heap.size w w') → PutA B w t p n f es bs k v x w') := fun x w' hx => by
    unfold PutA
    rw [← hg1, ← hg2]
    exact hx
  rw [← hg1, ← hg2] at CH
  clear hg1 hg2
  go_enter Tryd.func12, Tryd.ntmps12
  go_upto_region 1 with fail
  rw [← HQ.out, ← HW2.out]
  go_wp2_with fail
  refine GK.out.mono ?_
  rintro x w3 ⟨rfl, rfl⟩
  have C0 := CK.out false
  have C1 := CK.out true
  simp only [Bool.false_eq_true, if_false, if_true] at C0 C1
  have C0 := Lib.hid C0
  have C1 := Lib.hid C1
  clear CK GK
  cases g1 with
  | false =>
    go_wp2_with fail
    refine C0.out.mono ?_
    rintro x w3 ⟨rfl, rfl⟩
    go_wp2_with fail
    go_ret
    exact PU.out _ _ ⟨rfl, B2.out⟩
  | true =>
    go_wp2_with fail
    refine GV.out.mono ?_
    rintro x w3 ⟨rfl, rfl⟩
    cases g2 with
    | false =>
      go_wp2_with fail
      refine C0.out.mono ?_
      rintro x w3 ⟨rfl, rfl⟩
      go_wp2_with fail
      go_ret
      exact PU.out _ _ ⟨rfl, B2.out⟩
    | true =>
      go_wp2_with fail
      refine C1.out.mono ?_
      rintro x w3 ⟨rfl, rfl⟩
      go_wp2_with fail
      refine (CH.out rfl).mono ?_
      rintro x w4 ⟨KS, ⟨hE, rfl, hT, hM⟩ | ⟨es', f', root', bs', olds, news, kept, hE, rfl, hS, ⟨hL, hF⟩, hT, hM⟩⟩
      · have FIN : Hid (PutA B w t p n f es bs k v (.returned (.int .i64 0)) w4) := by
          refine PU.out _ _ ⟨rfl, f, root, bs, [], [], bs, ?_, Swapped.same_, fun h _ => h, (KpS.under B2.out).trans KS⟩
          have hm : (k, v) ∈ es := by
            unfold putO at hE
            by_cases c : (k, v) ∈ es
            · exact c
            · rw [if_neg c] at hE; cases hE
          rw [put_same (tree_at.1 HH.out.lies).2.1 hm]
          exact ⟨hT, hM, HH.out.lies, HH.out.ok, HH.out.n4, HH.out.low⟩
        clear KS hE hT hM
        go_wp2_with fail
        go_ret
        exact FIN.out
      · have FIN : Hid (PutA B w t p n f es bs k v (.returned (.int .i64 0)) w4) := by
          have he : es' = putE es k v := by
            unfold putO at hE
            by_cases c : (k, v) ∈ es
            · rw [if_pos c] at hE; cases hE
            · rw [if_neg c] at hE; injection hE with hE; exact hE.symm
          refine PU.out _ _ ⟨rfl, f', root', bs', olds, news, kept, ?_, hS, he ▸ hF, (KpS.under B2.out).trans KS⟩
          subst he
          obtain ⟨g1, g2⟩ := GG.out rfl
          exact ⟨hT, hM, hL, ((putO_ok ⟨g1.1, g1.2, g2, K8.out, V8.out⟩).ok es _ hE (tree_at.1 HH.out.lies).2.1 HH.out.ok).2, HH.out.n4, HH.out.low⟩
        clear KS hE hT hM hS hL hF
        go_wp2_with fail
        go_ret
        exact FIN.out
end Go.Proofs.YtnogmgnbhcmajaaDoor

namespace Go.Proofs.YtnogmgnbhcmajaaDoor
open Go.RowKit Wal

def hasK (es : List En) (k : List Nat) : Bool := decide (∃ e ∈ es, e.1 = k)
/-- Delete's answer. -/
def DelA (B : Nat) (w : World) (t p n : Nat) (f : Nat → Option KB) (es : List En) (bs : List Nat) (k : List Nat) (x : Ending) (w' : World) : Prop :=
  if goodK k = true then x = .returned (.tuple #[.bool (hasK es k), .int .i64 0]) ∧ Turned2 B w w' t p n f bs (delE es k) else x = .returned (.tuple #[.bool false, .int .i64 1]) ∧ Below w.heap.size w w'
set_option maxRecDepth 100000 in
set_option maxHeartbeats 1600000 in
theorem tdel_any (B : Nat) (w : World) (t p root n : Nat) (f : Nat → Option KB) (es : List En) (bs : List Nat) (h : LiveT B w t p root n f es bs) (room : Roomy n f root es bs) (k : List Nat) (hk8 : ∀ x ∈ k, x < 256) :
    Calls Tryd.prog 14 #[.pointer (some ⟨t, 0, none⟩), .string (strB k)] w (DelA B w t p n f es bs k) := by
  obtain ⟨q, hq⟩ : ∃ q, q = w.heap.size := ⟨_, rfl⟩
  obtain ⟨w2, hw2⟩ : ∃ w2, w2 = w.alloc (.cells #[.string (strB k)] 9) := ⟨_, rfl⟩
  have KH : Held w2 q 9 #[.string (strB k)] := by rw [hw2]; exact Held.new _ _ _ hq
  have BW : Below w.heap.size w w2 := by rw [hw2]; exact (Below.refl _ _).alloc (Nat.le_refl _) _
  have H2 := h.under BW
  have CK := Lib.hid (fun g => check_ok w2 t p root H2.tree g)
  obtain ⟨g1, hg1⟩ : ∃ g, g = goodK k := ⟨_, rfl⟩
  have GK := Lib.hid (isGoodKey_any w2 k)
  rw [show decide (1 ≤ k.length ∧ k.length ≤ 128) = g1 from hg1.symm] at GK
  have CH : Hid (Calls Tryd.prog 23 #[.pointer (some ⟨t, 0, none⟩), .string (strB k), .func (.func 30) #[] #[.pointer (some ⟨q, 0, none⟩)]] w2 (ChangeE B w2 t p root n f es bs (delO k))) := by
    obtain ⟨⟨d, ha⟩, hr, hn⟩ := tree_at.1 H2.lies
    obtain ⟨hd, rm⟩ := room d ha
    exact change_any B w2 t p root n f H2.tree H2.low H2.mem k hk8 _ _ (fun _ _ => rfl) (Nat.le_trans H2.low (Nat.le_of_lt H2.tree.lt)) _ (delO_ok k) (fun C w0 hb hC => delete_ed B C w0 q k hk8 (KH.below hb KH.lt)) d es bs ha hd H2.ok hr hn H2.n4 rm
  have HH := Lib.hid h
  have B2 := Lib.hid BW
  have k0 := KH.cell 0
  have kl := KH.lt
  have HQ := Lib.hid hq
  have HW2 := Lib.hid hw2
  have PU : Hid (∀ x w', (if g1 = true then x = .returned (.tuple #[.bool (hasK es k), .int .i64 0]) ∧ Turned2 B w w' t p n f bs (delE es k) else x = .returned (.tuple #[.bool false, .int .i64 1]) ∧ Below w.heap.size w w') → DelA B w t p n f es bs k x w') := fun x w' hx => by
    unfold DelA
    rw [← hg1]
    exact hx
  clear hq hw2 KH BW H2 h room hk8 hg1
  go_enter Tryd.func14, Tryd.ntmps14
  go_upto_region 1 with fail
  rw [← HQ.out, ← HW2.out]
  go_wp2_with fail
  refine GK.out.mono ?_
  rintro x w3 ⟨rfl, rfl⟩
  have C0 := CK.out false
  have C1 := CK.out true
  simp only [Bool.false_eq_true, if_false, if_true] at C0 C1
  have C0 := Lib.hid C0
  have C1 := Lib.hid C1
  clear CK GK
  cases g1 with
  | false =>
    go_wp2_with fail
    refine C0.out.mono ?_
    rintro x w3 ⟨rfl, rfl⟩
    go_wp2_with fail
    go_ret2
    exact PU.out _ _ ⟨rfl, B2.out⟩
  | true =>
    go_wp2_with fail
    refine C1.out.mono ?_
    rintro x w3 ⟨rfl, rfl⟩
    go_wp2_with fail
    refine CH.out.mono ?_
    rintro x w4 ⟨KS, ⟨hE, rfl, hT, hM⟩ | ⟨es', f', root', bs', olds, news, kept, hE, rfl, hS, ⟨hL, hF⟩, hT, hM⟩⟩
    · have FIN : Hid (DelA B w t p n f es bs k (.returned (.tuple #[.bool false, .int .i64 0])) w4) := by
        have hm : ¬ ∃ e ∈ es, e.1 = k := by
          unfold delO at hE
          by_cases c : ∃ e ∈ es, e.1 = k
          · rw [if_pos c] at hE; cases hE
          · exact c
        refine PU.out _ _ ⟨by rw [show hasK es k = false from decide_eq_false hm], f, root, bs, [], [], bs, ?_, Swapped.same_, fun h _ => h, (KpS.under B2.out).trans KS⟩
        rw [del_same (tree_at.1 HH.out.lies).2.1 (fun e he hk => hm ⟨e, he, hk⟩)]
        exact ⟨hT, hM, HH.out.lies, HH.out.ok, HH.out.n4, HH.out.low⟩
      clear KS hE hT hM
      go_wp2_with fail
      go_ret2
      exact FIN.out
    · have FIN : Hid (DelA B w t p n f es bs k (.returned (.tuple #[.bool true, .int .i64 0])) w4) := by
        have hm : (∃ e ∈ es, e.1 = k) ∧ es' = delE es k := by
          unfold delO at hE
          by_cases c : ∃ e ∈ es, e.1 = k
          · rw [if_pos c] at hE; injection hE with hE; exact ⟨c, hE.symm⟩
          · rw [if_neg c] at hE; cases hE
        obtain ⟨hm, he⟩ := hm
        refine PU.out _ _ ⟨by rw [show hasK es k = true from decide_eq_true hm], f', root', bs', olds, news, kept, ?_, hS, he ▸ hF, (KpS.under B2.out).trans KS⟩
        subst he
        exact ⟨hT, hM, hL, ((delO_ok k).ok es _ hE (tree_at.1 HH.out.lies).2.1 HH.out.ok).2, HH.out.n4, HH.out.low⟩
      clear KS hE hT hM hS hL hF
      go_wp2_with fail
      go_ret2
      exact FIN.out
end Go.Proofs.YtnogmgnbhcmajaaDoor
