/-
  docketlaw06: the tree beside the document's; step at a Put and at a Delete. · docketlaw06: step at a Delete, a Get, a Scan; step.
-/
import Derived.Test.YtldmllmkckklhaaGreatDoorQA68
namespace Go.Proofs.YtldmllmkckklhaaGreatDoor
open Go.RowKit Wal

/-- What a step turns. -/
def TS2 : List TypeId := [85, 91, 114, 73, 31]
theorem KpS.two {B : Nat} {w w' : World} (h : KpS TS B w w') : KpS TS2 B w w' := h.mono (by intro x hx; simp only [TS, TS2, List.mem_cons, List.not_mem_nil, or_false] at hx ⊢; rcases hx with h | h | h | h <;> simp [h]) (Nat.le_refl _)
theorem KpS.ref {B : Nat} {w w' : World} (h : KpS [31] B w w') : KpS TS2 B w w' := h.mono (by intro x hx; simp only [TS2, List.mem_cons, List.not_mem_nil, or_false] at hx ⊢; simp [hx]) (Nat.le_refl _)
/-- The tree beside the document's; hs: the blocks that are held, as they are in f0. -/
structure Both (B : Nat) (w : World) (t p n r : Nat) (es : List En) (hs : List Nat) (f0 : Nat → Option KB) : Prop where
  tree : ∃ root f bs, LiveT B w t p root n f es bs ∧ Full n f bs hs ∧ ∀ v ∈ hs, f (v - 1) = f0 (v - 1)
  ref : ∃ A c, RefP w B r es A c
  low : B ≤ r
theorem Both.under {B : Nat} {w w' : World} {t p n r : Nat} {es : List En} {hs : List Nat} {f0 : Nat → Option KB} (h : Both B w t p n r es hs f0) (k : Below w.heap.size w w') : Both B w' t p n r es hs f0 := by
  obtain ⟨root, f, bs, h1, h2, h3⟩ := h.tree
  obtain ⟨A, c, h4⟩ := h.ref
  exact ⟨⟨root, f, bs, h1.under k, h2, h3⟩, ⟨A, c, h4.blk.below k h4.blk.lt, h4.own.below_ k⟩, h.low⟩
/-- An Op. -/
structure OT where
  kind : Nat
  key : List Nat
  val : List Nat
  most : Int
structure OTGood (o : OT) : Prop where
  k8 : ∀ x ∈ o.key, x < 256
  v8 : ∀ x ∈ o.val, x < 256
  lo : -9223372036854775808 ≤ o.most
  hi : o.most ≤ 9223372036854775807
def OT.cells (o : OT) : Array Value := #[.int .u8 (o.kind : Int), .string (strB o.key), .string (strB o.val), .int .i64 o.most]
def stepE (es : List En) (o : OT) : List En := if o.kind % 4 = 0 then (if (goodK o.key && goodV o.val) = true then putE es o.key o.val else es) else if o.kind % 4 = 1 then (if goodK o.key = true then delE es o.key else es) else es
def StepE (B : Nat) (w : World) (t p n r : Nat) (es : List En) (hs : List Nat) (f0 : Nat → Option KB) (x : Ending) (w' : World) : Prop := x = .returned (.bool true) ∧ Both B w' t p n r es hs f0 ∧ KpS TS2 B w w'
theorem roomy_full {n : Nat} {f : Nat → Option KB} {root : Nat} {es : List En} {bs hs : List Nat} (h : Tree f root es bs) (hf : Full n f bs hs) (h1 : es.length < 4096) (h2 : 2 * es.length + hs.length + 29 ≤ n) : Roomy n f root es bs :=
  roomy (m := 12) (by omega) (by omega) (by have := hf.cnt; have := h.few; omega)
set_option maxRecDepth 100000 in
set_option maxHeartbeats 3200000 in
theorem step_put (B : Nat) (w : World) (t p n r : Nat) (es : List En) (hs : List Nat) (f0 : Nat → Option KB) (h : Both B w t p n r es hs f0) (h1 : es.length < 4096) (h2 : 2 * es.length + hs.length + 29 ≤ n) (o : OT) (ho : OTGood o) (hk : o.kind % 4 = 0) :
    Calls Tryz.prog 11 #[.pointer (some ⟨t, 0, none⟩), .pointer (some ⟨r, 0, none⟩), .agg o.cells] w (StepE B w t p n r (stepE es o) hs f0) := by
  obtain ⟨q, hq⟩ : ∃ q, q = w.heap.size := ⟨_, rfl⟩
  obtain ⟨w1, hw1⟩ : ∃ w1, w1 = w.alloc (.cells o.cells 34) := ⟨_, rfl⟩
  have U1 : Below w.heap.size w w1 := by rw [hw1]; exact (Below.refl _ _).alloc (Nat.le_refl _) _
  have N1 : Held w1 q 34 o.cells := by rw [hw1]; exact Held.new _ _ _ hq
  have B1 := h.under U1
  obtain ⟨root, f, bs, L1, F1, S1⟩ := B1.tree
  obtain ⟨A, c, R1⟩ := B1.ref
  have SE : stepE es o = if (goodK o.key && goodV o.val) = true then putE es o.key o.val else es := by unfold stepE; rw [if_pos hk]
  have PU := Lib.hid (put_any B w1 t p root n f es bs L1 (roomy_full L1.lies F1 h1 h2) o.key o.val ho.k8 ho.v8)
  have GD := Lib.hid (fun W => good_any W o.key o.val)
  have OK := Lib.hid L1.ok
  have RS := Lib.hid (tree_at.1 L1.lies).2.1
  have RP := Lib.hid (fun W (hR : RefP W B r es A c) => rput_any W B r es A c hR B1.low (fun e he => (L1.ok e he).kb) (by omega) (tree_at.1 L1.lies).2.1 o.key o.val ho.k8)
  have k0 : ((o.kind : Int) % 4 == 0) = true := by simp; omega
  obtain ⟨kind, key, val, most⟩ := o
  have e0 := N1.cell 0
  have e1 := N1.cell 1
  have e2 := N1.cell 2
  have e3 := N1.cell 3
  have el := N1.lt
  have HW1 := Lib.hid hw1
  have HQ := Lib.hid hq
  have UU := Lib.hid U1
  have NN := Lib.hid N1
  have RR := Lib.hid R1
  have FF := Lib.hid F1
  have SS := Lib.hid S1
  have LO := Lib.hid h.low
  have SEE := Lib.hid SE
  have BB1 := Lib.hid B1
  dsimp only at PU GD RP k0
  unfold OT.cells at *
  dsimp only at e0 e1 e2 e3
  clear h h1 h2 ho hk hq hw1 U1 N1 B1 L1 F1 S1 R1 SE
  go_enter Tryz.func11, Tryz.ntmps11
  go_upto_region 1 with fail
  rw [← HQ.out, ← HW1.out]
  go_wp2_with fail
  refine PU.out.mono ?_
  intro x w2 hx
  unfold PutA at hx
  cases hg : (goodK key && goodV val) with
  | false =>
    rw [hg, if_neg (by decide)] at hx
    obtain ⟨rfl, hb⟩ := hx
    have B2 := Lib.hid hb
    have N2 := NN.out.below hb NN.out.lt
    have G2 := GD.out w2
    rw [hg] at G2
    have G2 := Lib.hid G2
    have FIN : Hid (StepE B w t p n r (stepE es ⟨kind, key, val, most⟩) hs f0 (.returned (.bool true)) w2) := by
      refine ⟨rfl, ?_, ((KpS.under UU.out).trans (KpS.under hb))⟩
      rw [SEE.out, hg, if_neg (by decide)]
      exact BB1.out.under hb
    have e0 := N2.cell 0
    have e1 := N2.cell 1
    have e2 := N2.cell 2
    have el := N2.lt
    clear hb hg N2 GD
    go_wp2_with fail
    refine G2.out.mono ?_
    rintro x w3 ⟨rfl, rfl⟩
    go_wp2_with fail
    go_ret
    exact FIN.out
  | true =>
    rw [hg, if_pos rfl] at hx
    obtain ⟨rfl, f', root', bs', olds, news, kept, L2, W2, _, K2⟩ := hx
    have N2 := K2.held NN.out (by decide)
    have R2 : RefP w2 B r es A c := ⟨K2.held RR.out.blk (by decide), K2.row RR.out.own (by decide)⟩
    have P2 := Lib.hid (RP.out w2 R2)
    have G2 := GD.out w2
    rw [hg] at G2
    have G2 := Lib.hid G2
    have FIN : Hid (∀ w3, (∃ A' c', RefP w3 B r (putE es key val) A' c') → KpS [31] B w2 w3 → StepE B w t p n r (stepE es ⟨kind, key, val, most⟩) hs f0 (.returned (.bool true)) w3) := fun w3 h3 k3 => by
      refine ⟨rfl, ?_, (KpS.under UU.out).trans (K2.two.trans k3.ref)⟩
      rw [SEE.out, hg, if_pos rfl]
      exact ⟨⟨root', f', bs', L2.kps k3 (by decide), FF.out.swap W2, fun v hv => (FF.out.keep W2 v hv).trans (SS.out v hv)⟩, h3, LO.out⟩
    have e1 := N2.cell 1
    have e2 := N2.cell 2
    have el := N2.lt
    clear hg N2 GD R2 RP L2 W2 K2 e0 e3
    go_wp2_with fail
    refine G2.out.mono ?_
    rintro x w3 ⟨rfl, rfl⟩
    go_wp2_with fail
    refine P2.out.mono ?_
    rintro x w3 ⟨rfl, h3, k3⟩
    have F3 := Lib.hid (FIN.out w3 h3 k3)
    clear h3 k3 e1 e2 el
    go_wp2_with fail
    go_ret
    exact F3.out
end Go.Proofs.YtldmllmkckklhaaGreatDoor

namespace Go.Proofs.YtldmllmkckklhaaGreatDoor
open Go.RowKit Wal

set_option maxRecDepth 100000 in
set_option maxHeartbeats 3200000 in
theorem step_del (B : Nat) (w : World) (t p n r : Nat) (es : List En) (hs : List Nat) (f0 : Nat → Option KB) (h : Both B w t p n r es hs f0) (h1 : es.length < 4096) (h2 : 2 * es.length + hs.length + 29 ≤ n) (o : OT) (ho : OTGood o) (hk : o.kind % 4 = 1) :
    Calls Tryz.prog 11 #[.pointer (some ⟨t, 0, none⟩), .pointer (some ⟨r, 0, none⟩), .agg o.cells] w (StepE B w t p n r (stepE es o) hs f0) := by
  obtain ⟨q, hq⟩ : ∃ q, q = w.heap.size := ⟨_, rfl⟩
  obtain ⟨w1, hw1⟩ : ∃ w1, w1 = w.alloc (.cells o.cells 34) := ⟨_, rfl⟩
  have U1 : Below w.heap.size w w1 := by rw [hw1]; exact (Below.refl _ _).alloc (Nat.le_refl _) _
  have N1 : Held w1 q 34 o.cells := by rw [hw1]; exact Held.new _ _ _ hq
  have B1 := h.under U1
  obtain ⟨root, f, bs, L1, F1, S1⟩ := B1.tree
  obtain ⟨A, c, R1⟩ := B1.ref
  have SE : stepE es o = if goodK o.key = true then delE es o.key else es := by unfold stepE; rw [if_neg (by omega), if_pos hk]
  have PU := Lib.hid (tdel_any B w1 t p root n f es bs L1 (roomy_full L1.lies F1 h1 h2) o.key ho.k8)
  have e00 : strB [] = ⟨#[]⟩ := rfl
  have GD : Hid (∀ W, Calls Tryz.prog 27 #[.string (strB o.key), .string ⟨#[]⟩] W fun x w' => x = .returned (.bool (goodK o.key)) ∧ W = w') := fun W => by
    have := good_any W o.key []
    rw [e00, show goodV [] = true from rfl, Bool.and_true] at this
    exact this
  have RP := Lib.hid (fun W (hR : RefP W B r es A c) => rdel_any W B r es A c hR B1.low (fun e he => (L1.ok e he).kb) (by omega) (tree_at.1 L1.lies).2.1 o.key ho.k8)
  have k0 : ((o.kind : Int) % 4 == 0) = false := by simp; omega
  have k1 : ((o.kind : Int) % 4 == 1) = true := by simp; omega
  have BB1 := Lib.hid B1
  obtain ⟨kind, key, val, most⟩ := o
  have e0 := N1.cell 0
  have e1 := N1.cell 1
  have el := N1.lt
  have HW1 := Lib.hid hw1
  have HQ := Lib.hid hq
  have UU := Lib.hid U1
  have NN := Lib.hid N1
  have RR := Lib.hid R1
  have FF := Lib.hid F1
  have SS := Lib.hid S1
  have LO := Lib.hid h.low
  have SEE := Lib.hid SE
  dsimp only at PU GD RP k0 k1
  unfold OT.cells at *
  dsimp only at e0 e1
  clear h h1 h2 ho hk hq hw1 U1 N1 B1 L1 F1 S1 R1 SE e00
  go_enter Tryz.func11, Tryz.ntmps11
  go_upto_region 1 with fail
  rw [← HQ.out, ← HW1.out]
  go_wp2_with fail
  refine PU.out.mono ?_
  intro x w2 hx
  unfold DelA at hx
  cases hg : goodK key with
  | false =>
    rw [hg, if_neg (by decide)] at hx
    obtain ⟨rfl, hb⟩ := hx
    have N2 := NN.out.below hb NN.out.lt
    have G2 := GD.out w2
    rw [hg] at G2
    have G2 := Lib.hid G2
    have FIN : Hid (StepE B w t p n r (stepE es ⟨kind, key, val, most⟩) hs f0 (.returned (.bool true)) w2) := by
      refine ⟨rfl, ?_, ((KpS.under UU.out).trans (KpS.under hb))⟩
      rw [SEE.out, hg, if_neg (by decide)]
      exact BB1.out.under hb
    have e1 := N2.cell 1
    have el := N2.lt
    clear hb hg N2 GD e0
    go_wp2_with fail
    refine G2.out.mono ?_
    rintro x w3 ⟨rfl, rfl⟩
    go_wp2_with fail
    go_ret
    exact FIN.out
  | true =>
    rw [hg, if_pos rfl] at hx
    obtain ⟨rfl, f', root', bs', olds, news, kept, L2, W2, _, K2⟩ := hx
    have N2 := K2.held NN.out (by decide)
    have R2 : RefP w2 B r es A c := ⟨K2.held RR.out.blk (by decide), K2.row RR.out.own (by decide)⟩
    have P2 := Lib.hid (RP.out w2 R2)
    have G2 := GD.out w2
    rw [hg] at G2
    have G2 := Lib.hid G2
    have FIN : Hid (∀ w3, (∃ A' c', RefP w3 B r (delE es key) A' c') → KpS [31] B w2 w3 → StepE B w t p n r (stepE es ⟨kind, key, val, most⟩) hs f0 (.returned (.bool true)) w3) := fun w3 h3 k3 => by
      refine ⟨rfl, ?_, (KpS.under UU.out).trans (K2.two.trans k3.ref)⟩
      rw [SEE.out, hg, if_pos rfl]
      exact ⟨⟨root', f', bs', L2.kps k3 (by decide), FF.out.swap W2, fun v hv => (FF.out.keep W2 v hv).trans (SS.out v hv)⟩, h3, LO.out⟩
    obtain ⟨hb, hhb⟩ : ∃ b, b = hasK es key := ⟨_, rfl⟩
    rw [← hhb] at P2 ⊢
    have e1 := N2.cell 1
    have el := N2.lt
    clear hg N2 GD R2 RP L2 W2 K2 e0 hhb
    go_wp2_with fail
    refine G2.out.mono ?_
    rintro x w3 ⟨rfl, rfl⟩
    go_wp2_with fail
    refine P2.out.mono ?_
    rintro x w3 ⟨rfl, h3, k3⟩
    have F3 := Lib.hid (FIN.out w3 h3 k3)
    clear h3 k3 e1 el P2 FIN
    cases hb with
    | true =>
      go_wp2_with fail
      go_ret
      exact F3.out
    | false =>
      go_wp2_with fail
      go_ret
      exact F3.out
set_option maxRecDepth 100000 in
set_option maxHeartbeats 3200000 in
theorem step_get (B : Nat) (w : World) (t p n r : Nat) (es : List En) (hs : List Nat) (f0 : Nat → Option KB) (h : Both B w t p n r es hs f0) (h1 : es.length < 4096) (o : OT) (ho : OTGood o) (hk : o.kind % 4 = 2) :
    Calls Tryz.prog 11 #[.pointer (some ⟨t, 0, none⟩), .pointer (some ⟨r, 0, none⟩), .agg o.cells] w (StepE B w t p n r (stepE es o) hs f0) := by
  obtain ⟨q, hq⟩ : ∃ q, q = w.heap.size := ⟨_, rfl⟩
  obtain ⟨w1, hw1⟩ : ∃ w1, w1 = w.alloc (.cells o.cells 34) := ⟨_, rfl⟩
  have U1 : Below w.heap.size w w1 := by rw [hw1]; exact (Below.refl _ _).alloc (Nat.le_refl _) _
  have N1 : Held w1 q 34 o.cells := by rw [hw1]; exact Held.new _ _ _ hq
  have B1 := h.under U1
  obtain ⟨root, f, bs, L1, F1, S1⟩ := B1.tree
  obtain ⟨A, c, R1⟩ := B1.ref
  have SE : stepE es o = es := by unfold stepE; rw [if_neg (by omega), if_neg (by omega)]
  have PU := Lib.hid (tget_any B w1 t p root n f es bs L1 (deep_of (by omega)) o.key ho.k8)
  have e00 : strB [] = ⟨#[]⟩ := rfl
  have GD : Hid (∀ W, Calls Tryz.prog 27 #[.string (strB o.key), .string ⟨#[]⟩] W fun x w' => x = .returned (.bool (goodK o.key)) ∧ W = w') := fun W => by
    have := good_any W o.key []
    rw [e00, show goodV [] = true from rfl, Bool.and_true] at this
    exact this
  have RP := Lib.hid (fun W (hR : RefP W B r es A c) => rget_any W B r es A c hR (fun e he => (L1.ok e he).kb) (by omega) o.key ho.k8)
  have k0 : ((o.kind : Int) % 4 == 0) = false := by simp; omega
  have k1 : ((o.kind : Int) % 4 == 1) = false := by simp; omega
  have k2 : ((o.kind : Int) % 4 == 2) = true := by simp; omega
  have BB1 := Lib.hid B1
  obtain ⟨kind, key, val, most⟩ := o
  have e0 := N1.cell 0
  have e1 := N1.cell 1
  have el := N1.lt
  have HW1 := Lib.hid hw1
  have HQ := Lib.hid hq
  have UU := Lib.hid U1
  have NN := Lib.hid N1
  have RR := Lib.hid R1
  have SEE := Lib.hid SE
  dsimp only at PU GD RP k0 k1 k2
  unfold OT.cells at *
  dsimp only at e0 e1
  clear h h1 ho hk hq hw1 U1 N1 B1 L1 F1 S1 R1 SE e00
  go_enter Tryz.func11, Tryz.ntmps11
  go_upto_region 1 with fail
  rw [← HQ.out, ← HW1.out]
  go_wp2_with fail
  refine PU.out.mono ?_
  rintro x w2 ⟨hx, hb⟩
  have N2 := NN.out.below hb NN.out.lt
  have G2 := GD.out w2
  have FIN : Hid (StepE B w t p n r (stepE es ⟨kind, key, val, most⟩) hs f0 (.returned (.bool true)) w2) := by
    refine ⟨rfl, ?_, ((KpS.under UU.out).trans (KpS.under hb))⟩
    rw [SEE.out]
    exact BB1.out.under hb
  have e1 := N2.cell 1
  have el := N2.lt
  unfold GetA at hx
  cases hg : goodK key with
  | false =>
    rw [hg, if_neg (by decide)] at hx
    subst hx
    rw [hg] at G2
    have G2 := Lib.hid G2
    clear hb hg N2 GD e0
    go_wp2_with fail
    refine G2.out.mono ?_
    rintro x w3 ⟨rfl, rfl⟩
    go_wp2_with fail
    go_ret
    exact FIN.out
  | true =>
    rw [hg, if_pos rfl] at hx
    rw [hg] at G2
    have G2 := Lib.hid G2
    have P2 := RP.out w2 ⟨RR.out.blk.below hb RR.out.blk.lt, RR.out.own.below_ hb⟩
    unfold GetR at P2
    cases hge : getE es key with
    | none =>
      rw [hge] at hx P2
      dsimp only at hx P2
      have P2 := Lib.hid P2
      subst hx
      clear hb hg hge N2 GD RP e0
      go_wp2_with fail
      refine G2.out.mono ?_
      rintro x w3 ⟨rfl, rfl⟩
      go_wp2_with fail
      refine P2.out.mono ?_
      rintro x w3 ⟨rfl, rfl⟩
      clear e1 el P2 G2
      go_wp2_with fail
      go_ret
      exact FIN.out
    | some v =>
      rw [hge] at hx P2
      dsimp only at hx P2
      have P2 := Lib.hid P2
      subst hx
      clear hb hg hge N2 GD RP e0
      go_wp2_with fail
      refine G2.out.mono ?_
      rintro x w3 ⟨rfl, rfl⟩
      go_wp2_with fail
      refine P2.out.mono ?_
      rintro x w3 ⟨rfl, rfl⟩
      clear e1 el P2 G2
      go_wp2_with fail
      go_ret
      exact FIN.out
set_option maxRecDepth 100000 in
set_option maxHeartbeats 3200000 in
theorem step_scan (B : Nat) (w : World) (t p n r : Nat) (es : List En) (hs : List Nat) (f0 : Nat → Option KB) (h : Both B w t p n r es hs f0) (h1 : es.length < 4096) (o : OT) (ho : OTGood o) (hk : o.kind % 4 = 3) :
    Calls Tryz.prog 11 #[.pointer (some ⟨t, 0, none⟩), .pointer (some ⟨r, 0, none⟩), .agg o.cells] w (StepE B w t p n r (stepE es o) hs f0) := by
  obtain ⟨q, hq⟩ : ∃ q, q = w.heap.size := ⟨_, rfl⟩
  obtain ⟨w1, hw1⟩ : ∃ w1, w1 = w.alloc (.cells o.cells 34) := ⟨_, rfl⟩
  have U1 : Below w.heap.size w w1 := by rw [hw1]; exact (Below.refl _ _).alloc (Nat.le_refl _) _
  have N1 : Held w1 q 34 o.cells := by rw [hw1]; exact Held.new _ _ _ hq
  have B1 := h.under U1
  obtain ⟨root, f, bs, L1, F1, S1⟩ := B1.tree
  obtain ⟨A, c, R1⟩ := B1.ref
  have SE : stepE es o = es := by unfold stepE; rw [if_neg (by omega), if_neg (by omega)]
  have PU := Lib.hid (tscan_any B w1 t p root n f es bs L1 (deep_of (by omega)) (by omega) o.key ho.k8 o.most ho.lo ho.hi)
  have RP := Lib.hid (fun W (hR : RefP W B r es A c) => rscan_any W B r es A c hR (fun e he => (L1.ok e he).kb) (by omega) o.key ho.k8 o.most)
  have OKS : Hid (∀ e ∈ (fromE es o.key).take o.most.toNat, (∀ x ∈ e.1, x < 256) ∧ ∀ x ∈ e.2, x < 256) := fun e he => by
    have := L1.ok e ((List.mem_filter.1 (List.mem_of_mem_take he)).1)
    exact ⟨this.kb, this.vb⟩
  have LS : Hid (((fromE es o.key).take o.most.toNat).length ≤ 50000) := by
    show _ ≤ _
    rw [List.length_take]
    have := List.length_filter_le (fun e : En => !ltB e.1 o.key) es
    unfold fromE
    omega
  have k0 : ((o.kind : Int) % 4 == 0) = false := by simp; omega
  have k1 : ((o.kind : Int) % 4 == 1) = false := by simp; omega
  have k2 : ((o.kind : Int) % 4 == 2) = false := by simp; omega
  have BB1 := Lib.hid B1
  obtain ⟨kind, key, val, most⟩ := o
  have e0 := N1.cell 0
  have e1 := N1.cell 1
  have e3 := N1.cell 3
  have el := N1.lt
  have HW1 := Lib.hid hw1
  have HQ := Lib.hid hq
  have UU := Lib.hid U1
  have NN := Lib.hid N1
  have RR := Lib.hid R1
  have SEE := Lib.hid SE
  dsimp only at PU RP k0 k1 k2 OKS LS
  unfold OT.cells at *
  dsimp only at e0 e1 e3
  obtain ⟨res, hres⟩ : ∃ x, x = (fromE es key).take most.toNat := ⟨_, rfl⟩
  unfold ScanA at PU
  rw [← hres] at PU RP OKS LS
  clear h h1 ho hk hq hw1 U1 N1 B1 L1 F1 S1 R1 SE hres
  go_enter Tryz.func11, Tryz.ntmps11
  go_upto_region 1 with fail
  rw [← HQ.out, ← HW1.out]
  go_wp2_with fail
  refine PU.out.mono ?_
  rintro x w2 ⟨v, rfl, hO, hb⟩
  have N2 := NN.out.below hb NN.out.lt
  obtain ⟨A2, c2, rfl, _, _⟩ := hO.any
  have O2 := Lib.hid hO
  have B2 := Lib.hid hb
  have P2 := Lib.hid (RP.out w2 ⟨RR.out.blk.below hb RR.out.blk.lt, RR.out.own.below_ hb⟩)
  have e1 := N2.cell 1
  have e3 := N2.cell 3
  have el := N2.lt
  obtain ⟨m, hm⟩ : ∃ m, m = res.length := ⟨_, rfl⟩
  rw [← hm]
  have HM := Lib.hid hm
  clear hO hb N2 PU RP e0 hm
  go_wp2_with fail
  refine P2.out.mono ?_
  rintro x w3 ⟨v3, rfl, hO3, hb3⟩
  obtain ⟨A3, c3, rfl, _, hP3⟩ := hO3.any
  have SM := same_any w3 res res A2 A3 c2 c3 (O2.out.below_ hb3).at_.2 hP3 OKS.out OKS.out LS.out
  rw [← HM.out, decide_eq_true rfl] at SM
  have SM := Lib.hid SM
  have B3 := Lib.hid (B2.out.trans (hb3.mono B2.out.size))
  rw [← HM.out]
  clear hO3 hb3 hP3 P2 e1 e3 el
  go_wp2_with fail
  refine SM.out.mono ?_
  rintro x w4 ⟨rfl, hb4⟩
  have FIN : Hid (StepE B w t p n r (stepE es ⟨kind, key, val, most⟩) hs f0 (.returned (.bool true)) w4) := by
    have B4 := B3.out.trans (hb4.mono B3.out.size)
    refine ⟨rfl, ?_, ((KpS.under UU.out).trans (KpS.under B4))⟩
    rw [SEE.out]
    exact BB1.out.under B4
  clear hb4 SM
  go_wp2_with fail
  go_ret
  exact FIN.out
theorem step_any (B : Nat) (w : World) (t p n r : Nat) (es : List En) (hs : List Nat) (f0 : Nat → Option KB) (h : Both B w t p n r es hs f0) (h1 : es.length < 4096) (h2 : 2 * es.length + hs.length + 29 ≤ n) (o : OT) (ho : OTGood o) :
    Calls Tryz.prog 11 #[.pointer (some ⟨t, 0, none⟩), .pointer (some ⟨r, 0, none⟩), .agg o.cells] w (StepE B w t p n r (stepE es o) hs f0) := by
  have : o.kind % 4 = 0 ∨ o.kind % 4 = 1 ∨ o.kind % 4 = 2 ∨ o.kind % 4 = 3 := by omega
  rcases this with hk | hk | hk | hk
  · exact step_put B w t p n r es hs f0 h h1 h2 o ho hk
  · exact step_del B w t p n r es hs f0 h h1 h2 o ho hk
  · exact step_get B w t p n r es hs f0 h h1 o ho hk
  · exact step_scan B w t p n r es hs f0 h h1 o ho hk
theorem stepE_length {es : List En} (hr : Rises es) (o : OT) : (stepE es o).length ≤ es.length + 1 := by
  unfold stepE
  have h1 := del_length es o.key hr
  have h2 : (putE es o.key o.val).length ≤ es.length + 1 := by
    unfold delE at h1
    unfold putE
    rw [List.length_append] at h1 ⊢
    rw [List.length_cons]
    omega
  split
  · split <;> omega
  · split
    · split <;> omega
    · omega
theorem Both.rises {B : Nat} {w : World} {t p n r : Nat} {es : List En} {hs : List Nat} {f0 : Nat → Option KB} (h : Both B w t p n r es hs f0) : Rises es := by
  obtain ⟨root, f, bs, L, _, _⟩ := h.tree
  exact (tree_at.1 L.lies).2.1
end Go.Proofs.YtldmllmkckklhaaGreatDoor
