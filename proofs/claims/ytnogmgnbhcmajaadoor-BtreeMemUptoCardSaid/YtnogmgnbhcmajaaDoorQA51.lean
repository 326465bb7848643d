/-
  btree: a change under way: renew above a leaf: what stands behind Replace; and what is told then, in plain words. · btree: a change under way: renew, above a leaf.
-/
import Derived.Test.YtnogmgnbhcmajaaDoorQA50
namespace Go.Proofs.YtnogmgnbhcmajaaDoor
open Go.RowKit Wal

/-- Behind Replace: the node's own cell, and the answer's, are written. -/
theorem after_replace {B C : Nat} {w W wy wz : World} {cb t p root n nb kb q : Nat} {f2 : Nat → Option KB} {key u : List Nat} {ed tvy ov : Value} {tk ol : List Nat} {A2 : Option Addr} {m2 c2 : Nat} {D : Int} {ents LL : List En} {vz : Value} {cs : Array Value}
    (hW : w.heap.size ≤ W.heap.size) (hq : q = w.heap.size) (ne : q + 1 ≠ nb) (nk : kb ≠ nb ∧ w.heap.size ≤ nb) (hm : m2 = ents.length)
    (hO : OwnEn wy W.heap.size (.slice A2 ents.length c2) ents) (hN : Held wy nb 79 #[.int .i64 D, .slice A2 ents.length c2, .string (strB u)]) (hK : Held wy kb 79 cs) (hR : Held wy (q + 1) 79 #[.int .i64 0, .slice none 0 0, .string ⟨#[]⟩]) (hC : Chg B C wy cb t p root n f2 key ed tvy ov tk ol) (hP : KpC B C w wy) (hOZ : OwnEn wz W.heap.size vz LL) (hGZ : wy.grownBy wz (Value.slice A2 m2 c2).ownBlock) :
    ∃ AZ mZ cZ wa wf, vz = .slice AZ mZ cZ ∧ mZ = LL.length ∧ wa = wz.setCell ⟨nb, 1, none⟩ (.slice AZ mZ cZ) ∧ wf = ((wa.setCell ⟨q + 1, 0, none⟩ (.int .i64 D)).setCell ⟨q + 1, 1, none⟩ (.slice AZ mZ cZ)).setCell ⟨q + 1, 2, none⟩ (.string (strB u)) ∧
      Held wz nb 79 #[.int .i64 D, .slice A2 m2 c2, .string (strB u)] ∧ Held wz kb 79 cs ∧
      Held wa nb 79 #[.int .i64 D, .slice AZ mZ cZ, .string (strB u)] ∧ Held wa kb 79 cs ∧ Held wa (q + 1) 79 #[.int .i64 0, .slice none 0 0, .string ⟨#[]⟩] ∧
      Held wf (q + 1) 79 #[.int .i64 D, .slice AZ mZ cZ, .string (strB u)] ∧
      Chg B C wf cb t p root n f2 key ed tvy ov tk ol ∧ KpC B C w wf ∧ OwnEn wf w.heap.size (.slice AZ mZ cZ) LL := by
  subst hm hq
  obtain ⟨AZ, cZ, rfl, _, _⟩ := hOZ.any
  have KSZ := KpS.of_grown hO hGZ
  have NZ := KSZ.held hN (by decide)
  have KBZ := KSZ.held hK (by decide)
  have RZ := KSZ.held hR (by decide)
  have CZ := hC.kps KSZ (by decide)
  have KZ : KpC B C w wz := hP.past hO hW hGZ
  have NA := NZ.set_ 1 (.slice AZ LL.length cZ)
  have KBA := KBZ.far (p := ⟨nb, 1, none⟩) nk.1 (.slice AZ LL.length cZ)
  have RA := RZ.far (p := ⟨nb, 1, none⟩) ne (.slice AZ LL.length cZ)
  have KSA : KpS [79] 0 wz (wz.setCell ⟨nb, 1, none⟩ (.slice AZ LL.length cZ)) := (KpS.refl _ _ _).set_ NZ (by simp) (Nat.zero_le _) 1 _
  have BA : Below w.heap.size wz (wz.setCell ⟨nb, 1, none⟩ (.slice AZ LL.length cZ)) := (Below.refl _ _).setCell (p := ⟨nb, 1, none⟩) nk.2 _
  obtain ⟨wa, hwa⟩ : ∃ wa, wa = wz.setCell ⟨nb, 1, none⟩ (.slice AZ LL.length cZ) := ⟨_, rfl⟩
  rw [← hwa] at NA KBA RA KSA BA
  have KSF : KpS [79] 0 wa (((wa.setCell ⟨w.heap.size + 1, 0, none⟩ (.int .i64 D)).setCell ⟨w.heap.size + 1, 1, none⟩ (.slice AZ LL.length cZ)).setCell ⟨w.heap.size + 1, 2, none⟩ (.string (strB u))) := (((KpS.refl _ _ _).set_ RA (by simp) (Nat.zero_le _) 0 _).set_ (RA.set_ 0 _) (by simp) (Nat.zero_le _) 1 _).set_ ((RA.set_ 0 _).set_ 1 _) (by simp) (Nat.zero_le _) 2 _
  have hq' : w.heap.size ≤ w.heap.size + 1 := by omega
  have BF : Below w.heap.size wa (((wa.setCell ⟨w.heap.size + 1, 0, none⟩ (.int .i64 D)).setCell ⟨w.heap.size + 1, 1, none⟩ (.slice AZ LL.length cZ)).setCell ⟨w.heap.size + 1, 2, none⟩ (.string (strB u))) := (((Below.refl _ _).setCell (p := ⟨w.heap.size + 1, 0, none⟩) hq' _).setCell (p := ⟨w.heap.size + 1, 1, none⟩) hq' _).setCell (p := ⟨w.heap.size + 1, 2, none⟩) hq' _
  have OF := (KSF.row (KSA.row hOZ (by decide)) (by decide) : OwnEn _ W.heap.size _ LL)
  exact ⟨AZ, LL.length, cZ, wa, _, rfl, rfl, hwa, rfl, NZ, KBZ, NA, KBA, RA, ((RA.set_ 0 _).set_ 1 _).set_ 2 _, (CZ.kps KSA (by decide)).kps KSF (by decide), (KZ.fresh BA).fresh BF, OwnEn.base_ OF hW⟩
/-- What renew tells, once the kids M of the node are replaced. -/
theorem renewE_up {B C : Nat} {w wf : World} {cb t p root n : Nat} {f f1 f2 : Nat → Option KB} {key u : List Nat} {ed tv ov : Value} {taken old : List Nat} {d b fr to_ : Nat} {es ents1 es1 ents : List En} {bs bs1 olds news news2 : List Nat} {E : List En → Option (List En)} {ks AA M CC ks2 : List Kid} {AZ : Option Addr} {mZ cZ : Nat} {D : Int}
    (std : Stead n f f1 d M ents1 es1 bs1 olds news) (hb : bs = b :: blocksK ks) (hks : ks = AA ++ M ++ CC) (ht : ∀ k ∈ ks, TreeIs f d k.b k.es k.bs) (hf : totalE (leads ks) ≤ 511) (l : LaidN n f1 f2 d ents1 es1 bs1 ks2 news2) (ho : OkAll es1) (hne : AA ++ CC = [] → ents1 ≠ [])
    (hE : E es = some (pairs AA ++ es1 ++ pairs CC)) (tk : ents.take fr = leads AA ∧ ents.drop to_ = leads CC) (hD : D = ((d + 1 + 1 : Nat) : Int)) (hm : mZ = (ents.take fr ++ leads ks2 ++ ents.drop to_).length)
    (hv : OwnEn wf w.heap.size (.slice AZ mZ cZ) (ents.take fr ++ leads ks2 ++ ents.drop to_)) (hC : Chg B C wf cb t p root n f2 key ed tv ov (taken ++ news ++ news2) (old ++ [b] ++ olds)) (hK : KpC B C w wf) (c1 : cnt n f1 = cnt n f + news.length) (c2 : cnt n f2 = cnt n f1 + news2.length) (ol : olds.length ≤ 2 * d + 2) :
    RenewE B C w cb t p root n f key ed taken old (d + 1) es bs E (.returned (.tuple #[.agg #[.int .i64 D, .slice AZ mZ cZ, .string (strB u)], .bool true])) wf := by
  subst hks hD
  have LEQ : ents.take fr ++ leads ks2 ++ ents.drop to_ = leads (AA ++ ks2 ++ CC) := by rw [leads_append, leads_append, tk.1, tk.2]
  rw [LEQ] at hv hm
  subst hm
  have R := std.up hb ht hf l ho hne
  refine .inr ⟨_, f2, _, _, b :: olds, news ++ news2, AZ, cZ, tv, ov, strB u, hE, rfl, R, hv, ?_, ?_, hK, ?_⟩
  · rw [show taken ++ (news ++ news2) = taken ++ news ++ news2 from (List.append_assoc _ _ _).symm, show old ++ b :: olds = old ++ [b] ++ olds by simp]
    exact hC
  · rw [List.length_append, c2, c1]
    omega
  · rw [List.length_cons]
    omega
/-- A kid beside the one that was renewed. -/
theorem side_kid {n : Nat} {f f1 : Nat → Option KB} {d : Nat} {ks : List Kid} {ents es : List En} {u news : List Nat} (hks : ents = leads ks) (ht : ∀ k ∈ ks, TreeIs f d k.b k.es k.bs) (he : es = pairs ks) (hr : Rises es) (ho : OkAll es) (hd : d ≤ 200) (hu : u = [] ∨ ∀ e ∈ es, ltB e.1 u = true) (hu8 : ∀ x ∈ u, x < 256) (g : Grew n f f1 news) (i : Nat) (hi : i < ks.length) (hi' : i < ents.length) :
    ents[i].2 = pk ks[i].b ∧ ks[i].b ≠ 0 ∧ ks[i].b ≤ 4096 ∧ SpotOk f1 d ks[i].b ks[i].es ks[i].bs (d + 1) ents[i].1 (nextU ents i u) := by
  subst hks
  have t := (ht _ (List.getElem_mem hi)).top
  have e1 : (leads ks)[i] = ks[i].lead := by simp only [leads, List.getElem_map]
  rw [e1]
  exact ⟨rfl, by omega, t.2.1, kid_spot (fun k hk => g.tree (ht k hk)) he hr ho hd hu hu8 i hi⟩
/-- Behind join: the kid's own cell is written. -/
theorem after_join {B C : Nat} {w W wj w1 : World} {cb t p root n nb kb q : Nat} {f1 : Nat → Option KB} {key : List Nat} {ed tv ov : Value} {tk ol : List Nat} {A2 : Option Addr} {c2 : Nat} {D6 : Int} {ents LL : List En} {v6 v' : Value} {s : ByteArray} {csn csr : Array Value}
    (hWj : W.heap.size ≤ wj.heap.size) (ne : q + 1 ≠ kb) (nk : kb ≠ nb) (hk : w.heap.size ≤ kb)
    (hN : Held wj nb 79 csn) (hK : Held wj kb 79 #[.int .i64 D6, v6, .string s]) (hR : Held wj (q + 1) 79 csr) (hO : OwnEn wj W.heap.size (.slice A2 ents.length c2) ents) (hP : KpC B C w wj)
    (hv : OwnEn w1 wj.heap.size v' LL) (hC : Chg B C w1 cb t p root n f1 key ed tv ov tk ol) (hP1 : KpC B C wj w1) :
    ∃ AK cK WX, v' = .slice AK LL.length cK ∧ WX = w1.setCell ⟨kb, 1, none⟩ v' ∧ Held WX nb 79 csn ∧ Held WX kb 79 #[.int .i64 D6, .slice AK LL.length cK, .string s] ∧ Held WX (q + 1) 79 csr ∧
      OwnEn WX W.heap.size (.slice A2 ents.length c2) ents ∧ OwnEn WX wj.heap.size (.slice AK LL.length cK) LL ∧ Chg B C WX cb t p root n f1 key ed tv ov tk ol ∧ KpC B C w WX ∧ W.heap.size ≤ WX.heap.size := by
  obtain ⟨AK, cK, rfl, _, _⟩ := hv.any
  have K1 := hP1.held hK (by decide) (fun e => absurd e (by decide))
  have N1 := hP1.held hN (by decide) (fun e => absurd e (by decide))
  have R1 := hP1.held hR (by decide) (fun e => absurd e (by decide))
  have KS : KpS [79] 0 w1 (w1.setCell ⟨kb, 1, none⟩ (.slice AK LL.length cK)) := (KpS.refl _ _ _).set_ K1 (by simp) (Nat.zero_le _) 1 _
  have BA : Below w.heap.size w1 (w1.setCell ⟨kb, 1, none⟩ (.slice AK LL.length cK)) := (Below.refl _ _).setCell (p := ⟨kb, 1, none⟩) hk _
  exact ⟨AK, cK, _, rfl, rfl, N1.far (p := ⟨kb, 1, none⟩) (fun e => nk e.symm) _, K1.set_ 1 _, R1.far (p := ⟨kb, 1, none⟩) (fun e => ne e) _, KS.row (hP1.en hO) (by decide), KS.row hv (by decide), hC.kps KS (by decide), (hP.trans hP1).fresh BA, Nat.le_trans hWj (Nat.le_trans hP1.size BA.size)⟩
end Go.Proofs.YtnogmgnbhcmajaaDoor

namespace Go.Proofs.YtnogmgnbhcmajaaDoor
open Go.RowKit Wal

/-- renew, at every tree so deep. -/
def RenewAll (B C : Nat) (cb t p root n : Nat) (f : Nat → Option KB) (key : List Nat) (k : FuncId) (caps : Array Value) (taken : List Nat) (E : List En → Option (List En)) (w0 : World) (d : Nat) : Prop :=
  ∀ (w : World) (tv ov : Value) (old : List Nat), Chg B C w cb t p root n f key (.func (.func k) #[] caps) tv ov taken old → C ≤ w.heap.size → B ≤ w.heap.size → old.length + 4 * (d + 1) ≤ 80000 → KpC B C w0 w →
    ∀ (b : Nat) (es : List En) (bs : List Nat) (lv : Nat) (fk u : List Nat), SpotOk f d b es bs lv fk u →
      Calls Tryd.prog 48 #[.pointer (some ⟨cb, 0, none⟩), spV b lv fk u] w (RenewE B C w cb t p root n f key (.func (.func k) #[] caps) taken old d es bs E)
set_option maxRecDepth 100000 in
set_option maxHeartbeats 6400000 in
theorem renew_step (B C : Nat) (cb t p root n : Nat) (f : Nat → Option KB) (key : List Nat) (hk8 : ∀ x ∈ key, x < 256) (k : FuncId) (caps : Array Value) (taken : List Nat) (E : List En → Option (List En)) (hE : EditOk key E) (w0 : World) (d : Nat) (ih : RenewAll B C cb t p root n f key k caps taken E w0 d) (hd : d ≤ 190) (room : cnt n f + 2 * (d + 1) ≤ n) (hn4 : n ≤ 4096) (ft : taken.length + 2 * (d + 1) ≤ 80000) : RenewAll B C cb t p root n f key k caps taken E w0 (d + 1) := by
  intro w tv ov old h hC hB few h0 b es bs lv fk u hs
  have H := Lib.hid h
  have SP := Lib.hid hs
  have EK := Lib.hid hE
  have K0 := Lib.hid h0
  have IH := Lib.hid ih
  have RM := Lib.hid (And.intro room (And.intro hn4 ft))
  have FEW : Hid (old.length + 4 * (d + 1 + 1) ≤ 80000) := few
  obtain ⟨q, hq⟩ : ∃ q, q = w.heap.size := ⟨_, rfl⟩
  obtain ⟨bi, hbi⟩ : ∃ bi : Int, bi = (b : Int) := ⟨_, rfl⟩
  obtain ⟨W, hW⟩ : ∃ W, W = (w.alloc (.cells #[.int .i64 bi, .int .i64 (lv : Int), .string (strB fk), .string (strB u)] 89)).alloc (.cells #[.int .i64 0, .slice none 0 0, .string ⟨#[]⟩] 79) := ⟨_, rfl⟩
  have HS : Hid (Held W q 89 #[.int .i64 bi, .int .i64 (lv : Int), .string (strB fk), .string (strB u)]) := by rw [hW]; exact (Held.new w _ _ hq).alloc _
  have HN : Hid (Held W (q + 1) 79 #[.int .i64 0, .slice none 0 0, .string ⟨#[]⟩]) := by rw [hW]; exact Held.new _ _ _ (by rw [hq]; simp)
  have BW : Hid (Below w.heap.size w W) := by rw [hW]; exact ((Below.refl _ _).alloc (Nat.le_refl _) _).alloc (by simp) _
  have RD := Lib.hid (chread_any B C W cb t p root n f key (.func (.func k) #[] caps) tv ov taken old (h.under BW.out) (Nat.le_trans hC BW.out.size) (by omega) (d + 1) b es bs lv fk u hs)
  have TI : Hid (TreeIs f (d + 1) b es bs) := by
    rcases hs.at_ with ⟨_, e, _⟩ | ta
    · omega
    · exact ta
  have B0 : Hid (b ≠ 0) := by
    have := TI.out.top.1
    show b ≠ 0
    omega
  have HW := Lib.hid hW
  have HQ := Lib.hid hq
  have s0 := HS.out.cell 0
  have s1 := HS.out.cell 1
  have s2 := HS.out.cell 2
  have s3 := HS.out.cell 3
  have sl := HS.out.lt
  unfold spV at RD ⊢
  rw [← hbi] at RD ⊢
  clear h hs hE h0 few hq hW hbi ih room hn4 ft
  go_enter Tryd.func48, Tryd.ntmps48
  go_upto_region 1 with fail
  rw [← HW.out, ← HQ.out]
  go_wp2_with fail
  refine RD.out.mono ?_
  rintro x w2 ⟨ents, v, bs0, ov2, rfl, ho2, hEn, hbs, hC2, hK2⟩
  obtain ⟨A2, c2, rfl, _, _⟩ := ho2.any
  rw [if_neg B0.out] at hC2
  obtain ⟨D, hD⟩ : ∃ D : Int, D = ((d + 1 + 1 : Nat) : Int) := ⟨_, rfl⟩
  have HD := Lib.hid hD
  rw [← hD]
  obtain ⟨nb, hnb⟩ : ∃ nb, nb = w2.heap.size := ⟨_, rfl⟩
  obtain ⟨w3, hw3⟩ : ∃ w3, w3 = w2.alloc (.cells #[.int .i64 D, .slice A2 ents.length c2, .string (strB u)] 79) := ⟨_, rfl⟩
  have U3 : Hid (Below w2.heap.size w2 w3) := by rw [hw3]; exact (Below.refl _ _).alloc (Nat.le_refl _) _
  have N3 : Hid (Held w3 nb 79 #[.int .i64 D, .slice A2 ents.length c2, .string (strB u)]) := by rw [hw3]; exact Held.new _ _ _ hnb
  have KW : Hid (KpC B C w W) := KpC.under BW.out
  have K2 : Hid (KpC B C w w2) := KW.out.trans hK2
  have K3 : Hid (KpC B C w w3) := K2.out.trans (KpC.under U3.out)
  have C3 := Lib.hid (hC2.under U3.out)
  have O3 := Lib.hid (ho2.below_ U3.out)
  have R2 := Lib.hid (hK2.held HN.out (by decide) (fun e => absurd e (by decide)))
  have R3 := Lib.hid (Held.below R2.out U3.out R2.out.lt)
  have NE : Hid (q + 1 ≠ nb) := fun e => by
    have := R2.out.lt
    omega
  have WS3 : Hid (W.heap.size ≤ w3.heap.size) := Nat.le_trans hK2.size U3.out.size
  have EN := Lib.hid hEn
  have BS : Hid (bs = b :: bs0) := hbs B0.out
  have EA : Hid (∀ W', OwnEn W' W.heap.size (.slice A2 ents.length c2) ents → EAt W' A2 ents) := fun W' hW' => by
    obtain ⟨A', c', e, _, h1⟩ := hW'.any
    injection e with e1 _ _
    subst e1
    exact h1
  have eok := EN.out.nd.ok SP.out.ok
  have ers := EN.out.nd.rises SP.out.rises
  have LD := Lib.hid (lead_any w3.drew (d + 1 + 1) u A2 c2 ents (EA.out _ (O3.out.below_ (Below.refl _ _).drew)) ers (fun e he => (eok e he).kb) (by have := EN.out.few; omega) (EN.out.some_ (by omega)) key hk8)
  unfold noV at LD
  rw [← hD] at LD
  have HW3 := Lib.hid hw3
  have HNB := Lib.hid hnb
  have n0 := N3.out.cell 0
  have n1 := N3.out.cell 1
  have n2 := N3.out.cell 2
  have nl := N3.out.lt
  have z1 := C3.out.blk.cell 1
  have D1 : ¬ D = 1 := by omega
  obtain ⟨m2, hm2⟩ : ∃ m, m = ents.length := ⟨_, rfl⟩
  rw [← hm2] at n1 LD HW3 ⊢
  have HM2 := Lib.hid hm2
  clear ho2 hEn hbs hC2 hK2 hw3 hnb s0 s1 s2 s3 sl RD eok ers hD hm2
  go_upto_region 2 with fail
  rw [← HW3.out, ← HNB.out]
  go_upto_region 5 with fail
  refine wp_region_noPanic ?_
  refine wp_region_held_drew (S := fun w' => w'.cell? ⟨nb, 0, none⟩ = some (.int .i64 D) ∧ w'.cell? ⟨nb, 1, none⟩ = some (.slice A2 m2 c2) ∧ w'.cell? ⟨nb, 2, none⟩ = some (.string (strB u)) ∧ w'.cell? ⟨cb, 1, none⟩ = some (.string (strB key))) (by kernel_rfl) ⟨n0, n1, n2, z1⟩ (fun hHeld => ?_)
  refine take_ (i := 0) (v := ?_) 26 rfl rfl (by kernel_rfl) (by kernel_rfl) (by kernel_rfl) (fun _ _ _ h => h) (Or.inl ⟨by rfl, ?_⟩) (by assumption) ?_
  rotate_left
  · (intro wS hSw; (try dsimp only at hSw); go_simp; try with_reducible rfl)
  simp only [Act.put, List.setIfInBounds_toArray]
  refine take_ (i := 1) (v := ?_) 27 rfl rfl (by kernel_rfl) (by kernel_rfl) (by kernel_rfl) (fun _ _ _ h => h) (Or.inl ⟨by rfl, ?_⟩) (by assumption) ?_
  rotate_left
  · (intro wS hSw; (try dsimp only at hSw); go_simp; try with_reducible rfl)
  simp only [Act.put, List.setIfInBounds_toArray]
  refine take_ (i := 2) (v := ?_) 28 rfl rfl (by kernel_rfl) (by kernel_rfl) (by kernel_rfl) (fun _ _ _ h => h) (Or.inl ⟨by rfl, ?_⟩) (by assumption) ?_
  rotate_left
  · (intro wS hSw; (try dsimp only at hSw); go_simp; try with_reducible rfl)
  simp only [Act.put, List.setIfInBounds_toArray]
  refine take_ (i := 3) (v := ?_) 29 rfl rfl (by kernel_rfl) (by kernel_rfl) (by kernel_rfl) (fun _ _ _ h => h) (Or.inl ⟨by rfl, ?_⟩) (by assumption) ?_
  rotate_left
  · (intro wS hSw; (try dsimp only at hSw); go_simp; try with_reducible rfl)
  simp only [Act.put, List.setIfInBounds_toArray]
  refine take_ (i := 4) (v := ?_) 30 rfl rfl (by kernel_rfl) (by kernel_rfl) (by kernel_rfl) (fun _ _ _ h => h) (Or.inl ⟨by rfl, ?_⟩) (by assumption) ?_
  rotate_left
  · (intro wS hSw; (try dsimp only at hSw); go_simp; try with_reducible rfl)
  simp only [Act.put, List.setIfInBounds_toArray]
  refine one_ (i := 5) _ (by kernel_rfl) rfl (fun K hK => ?_)
  go_simp
  refine LD.out.mono ?_
  rintro x w4 ⟨j, hj, rfl, hb4⟩
  dsimp only
  have U4 : Hid (Below w3.heap.size w3 w4) := (Below.refl _ _).drew.trans hb4
  have C4 := Lib.hid (C3.out.under U4.out)
  have N4 := Lib.hid (Held.below N3.out U4.out N3.out.lt)
  have R4 := Lib.hid (Held.below R3.out U4.out R3.out.lt)
  have O4 := Lib.hid (O3.out.below_ U4.out)
  have K4 : Hid (KpC B C w w4) := K3.out.trans (KpC.under U4.out)
  have HJ := Lib.hid hj
  have s4 : w4.cell? ⟨nb, 0, none⟩ = some (.int .i64 D) ∧ w4.cell? ⟨nb, 1, none⟩ = some (.slice A2 m2 c2) ∧ w4.cell? ⟨nb, 2, none⟩ = some (.string (strB u)) ∧ w4.cell? ⟨cb, 1, none⟩ = some (.string (strB key)) := ⟨N4.out.cell 0, by rw [HM2.out]; exact N4.out.cell 1, N4.out.cell 2, C4.out.blk.cell 1⟩
  obtain ⟨ks, hks, htr, hes, hbk⟩ := EN.out.nd
  have HKS := Lib.hid hks
  have HTR := Lib.hid htr
  have HES := Lib.hid hes
  have HBK := Lib.hid hbk
  have jl := hj.lt
  have LKS : ks.length = ents.length := by rw [hks]; unfold leads; rw [List.length_map]
  have jk : j < ks.length := by omega
  have SK := Lib.hid (kid_spot htr hes SP.out.rises SP.out.ok (by omega) (SP.out.ou.imp id fun h => h.2) SP.out.bytes j jk)
  have lj : ents[j] = ks[j].lead := by simp only [hks, leads, List.getElem_map]
  have tj := (htr _ (List.getElem_mem jk)).top
  have KDJ := Lib.hid (kid_any w4 (d + 1 + 1) (by omega) (by omega) u A2 c2 ents (EA.out _ O4.out) (by have := EN.out.few; omega) j jl ks[j].b (by rw [lj]; rfl) tj.2.1)
  have k1 : ents[j].1 = (ks[j].es.headD ([], [])).1 := by rw [lj]; rfl
  rw [k1, show d + 1 + 1 - 1 = d + 1 by omega] at KDJ
  rw [← hks] at SK
  have IHK := Lib.hid (fun W' (hW' : Below w4.heap.size w4 W') => IH.out W' tv ov2 (old ++ [b]) (C4.out.under hW') (Nat.le_trans hC (Nat.le_trans K4.out.size hW'.size)) (Nat.le_trans hB (Nat.le_trans K4.out.size hW'.size)) (by rw [List.length_append]; have := FEW.out; show old.length + 1 + _ ≤ _; omega) (K0.out.trans (K4.out.trans (KpC.under hW'))) ks[j].b ks[j].es ks[j].bs (d + 1) (ks[j].es.headD ([], [])).1 (nextU ents j u) SK.out)
  obtain ⟨kx, hkx⟩ : ∃ kx, kx = (ks[j].es.headD ([], [])).1 := ⟨_, rfl⟩
  obtain ⟨kn, hkn⟩ : ∃ kn, kn = ks[j].b := ⟨_, rfl⟩
  rw [← hkx, ← hkn] at KDJ IHK
  unfold noV at KDJ
  rw [← HD.out, ← HM2.out] at KDJ
  clear hj hks htr hes hbk lj tj k1 hkx hkn n0 n1 n2 nl z1 hb4 LD
  refine hK.out _ _ s4 (fun hHeld => ?_)
  clear hK K
  refine take_ (i := 6) (v := ?_) 8 rfl rfl (by kernel_rfl) (by kernel_rfl) (by kernel_rfl) (fun _ _ _ h => h) (Or.inl ⟨by rfl, ?_⟩) (by assumption) ?_
  rotate_left
  · (intro wS hSw; (try dsimp only at hSw); go_simp; try with_reducible rfl)
  simp only [Act.put, List.setIfInBounds_toArray]
  refine wpAnyH_done (by kernel_rfl) ?_ _
  refine NoPanic.normal ?_
  go_wp2_with fail
  refine KDJ.out.mono ?_
  rintro x w5 ⟨rfl, hb5⟩
  have B5 := Lib.hid hb5
  clear hb5 KDJ s4
  go_wp2_with fail
  have HSP : Hid (ks = ks.take j ++ [ks[j]] ++ ks.drop (j + 1)) := by
    show _ = _
    have h1 : ks.take j ++ [ks[j]] ++ ks.drop (j + 1) = ks.take j ++ ks.drop j := by rw [List.drop_eq_getElem_cons jk]; simp
    rw [h1, List.take_append_drop]
  have KBD := Lib.hid (kid_bounds (A := ks.take j) (C := ks.drop (j + 1)) (x := ks[j]) (k := key) (f := f) (d := d) (by rw [← HSP.out]; exact HTR.out) (by rw [← HSP.out, ← HES.out]; exact SP.out.rises) (by rw [← HSP.out, ← HKS.out, List.length_take, Nat.min_eq_left (by omega)]; exact HJ.out))
  have ES : Hid (es = pairs (ks.take j) ++ ks[j].es ++ pairs (ks.drop (j + 1))) := by
    show _ = _
    have h1 : pairs ks = pairs (ks.take j ++ [ks[j]] ++ ks.drop (j + 1)) := congrArg pairs HSP.out
    rw [HES.out, h1, pairs_append, pairs_append]
    simp [pairs]
  have EM : Hid (E es = (E ks[j].es).map fun B' => pairs (ks.take j) ++ B' ++ pairs (ks.drop (j + 1))) := by
    show _ = _
    have h1 := EK.out.mid (pairs (ks.take j)) ks[j].es (pairs (ks.drop (j + 1))) KBD.out.1 KBD.out.2
    rw [← ES.out] at h1
    exact h1
  refine (IHK.out _ B5.out).mono ?_
  rintro x w6 (⟨hEn, a, A6, m6, c6, sx, tv6, ov6, olds, rfl, hC6, hK6, lo⟩ | ⟨es1, f1, ents1, bs1, olds, news, A6, c6, tv6, ov6, sx, hEs, rfl, hR, hO6, hC6, cnt6, hK6, lo⟩)
  · have K46 : Hid (KpC B C w4 w6) := (KpC.under B5.out).trans hK6
    have N6 := Lib.hid (K46.out.held N4.out (by decide) (fun e => absurd e (by decide)))
    have R6 := Lib.hid (K46.out.held R4.out (by decide) (fun e => absurd e (by decide)))
    obtain ⟨w7, hw7⟩ : ∃ w7, w7 = w6.alloc (.cells #[.int .i64 a, .slice A6 m6 c6, .string sx] 79) := ⟨_, rfl⟩
    have U7 : Hid (Below w6.heap.size w6 w7) := by rw [hw7]; exact (Below.refl _ _).alloc (Nat.le_refl _) _
    have N7 := Lib.hid (Held.below N6.out U7.out N6.out.lt)
    have R7 := Lib.hid (Held.below R6.out U7.out R6.out.lt)
    have C7 := Lib.hid (hC6.under U7.out)
    have K7 : Hid (KpC B C w w7) := K4.out.trans (K46.out.trans (KpC.under U7.out))
    obtain ⟨wf, hwf⟩ : ∃ wf, wf = ((w7.setCell ⟨q + 1, 0, none⟩ (.int .i64 D)).setCell ⟨q + 1, 1, none⟩ (.slice A2 m2 c2)).setCell ⟨q + 1, 2, none⟩ (.string (strB u)) := ⟨_, rfl⟩
    have FH : Hid (Held wf (q + 1) 79 #[.int .i64 D, .slice A2 m2 c2, .string (strB u)]) := by rw [hwf]; exact ((R7.out.set_ 0 _).set_ 1 _).set_ 2 _
    have KS : Hid (KpS [79] 0 w7 wf) := by rw [hwf]; exact (((KpS.refl _ _ _).set_ R7.out (by simp) (Nat.zero_le _) 0 _).set_ (R7.out.set_ 0 _) (by simp) (Nat.zero_le _) 1 _).set_ ((R7.out.set_ 0 _).set_ 1 _) (by simp) (Nat.zero_le _) 2 _
    have BF : Hid (Below w.heap.size w7 wf) := by
      rw [hwf]
      have hq' : w.heap.size ≤ q + 1 := by rw [HQ.out]; omega
      exact (((Below.refl _ _).setCell (p := ⟨q + 1, 0, none⟩) hq' _).setCell (p := ⟨q + 1, 1, none⟩) hq' _).setCell (p := ⟨q + 1, 2, none⟩) hq' _
    have CF := C7.out.kps KS.out (by decide)
    rw [List.append_assoc] at CF
    have FIN : Hid (RenewE B C w cb t p root n f key (.func (.func k) #[] caps) taken old (d + 1) es bs E (.returned (.tuple #[.agg #[.int .i64 D, .slice A2 m2 c2, .string (strB u)], .bool false])) wf) :=
      .inl ⟨by rw [EM.out, hEn]; rfl, D, A2, m2, c2, strB u, tv6, ov6, [b] ++ olds, rfl, CF, K7.out.fresh BF.out, by rw [List.length_append]; show 1 + olds.length ≤ _; omega⟩
    have HW7 := Lib.hid hw7
    have HWF := Lib.hid hwf
    have n0 := N7.out.cell 0
    have n1 := N7.out.cell 1
    rw [← HM2.out] at n1
    have n2 := N7.out.cell 2
    have nl := N7.out.lt
    have r0 := R7.out.cell 0
    have r1 := R7.out.cell 1
    have r2 := R7.out.cell 2
    have y0 := R7.out.frozen 0
    have y1 := R7.out.frozen 1
    have y2 := R7.out.frozen 2
    clear hC6 hK6 hw7 hwf CF IHK
    go_upto_region 7 with fail
    rw [← HW7.out]
    go_wp2_with fail
    rw [← HWF.out]
    exact bodyPost_ret (res_cellB _ _ 5 4 79 _ _ _ Tryd.results48 rfl rfl (load_node FH.out rfl)) rfl FIN.out
  · obtain ⟨ux, rfl⟩ : ∃ ux, sx = strB ux := ⟨nums sx, (strB_nums sx).symm⟩
    have K46 : Hid (KpC B C w4 w6) := (KpC.under B5.out).trans hK6
    have N6 := Lib.hid (K46.out.held N4.out (by decide) (fun e => absurd e (by decide)))
    have R6 := Lib.hid (K46.out.held R4.out (by decide) (fun e => absurd e (by decide)))
    have ON6 := Lib.hid (K46.out.en O4.out)
    obtain ⟨D6, hD6⟩ : ∃ D6 : Int, D6 = ((d + 1 : Nat) : Int) := ⟨_, rfl⟩
    rw [← hD6]
    have HD6 := Lib.hid hD6
    have RN := Lib.hid hR
    obtain ⟨kb, hkb⟩ : ∃ kb, kb = w6.heap.size := ⟨_, rfl⟩
    obtain ⟨w7, hw7⟩ : ∃ w7, w7 = w6.alloc (.cells #[.int .i64 D6, .slice A6 ents1.length c6, .string (strB ux)] 79) := ⟨_, rfl⟩
    have U7 : Hid (Below w6.heap.size w6 w7) := by rw [hw7]; exact (Below.refl _ _).alloc (Nat.le_refl _) _
    have KB7 : Hid (Held w7 kb 79 #[.int .i64 D6, .slice A6 ents1.length c6, .string (strB ux)]) := by rw [hw7]; exact Held.new _ _ _ hkb
    have N7 := Lib.hid (Held.below N6.out U7.out N6.out.lt)
    have R7 := Lib.hid (Held.below R6.out U7.out R6.out.lt)
    have ON7 := Lib.hid (ON6.out.below_ U7.out)
    have OK7 := Lib.hid (hO6.below_ U7.out)
    have C7 := Lib.hid (hC6.under U7.out)
    have WS7 : Hid (W.heap.size ≤ w7.heap.size) := Nat.le_trans WS3.out (Nat.le_trans U4.out.size (Nat.le_trans K46.out.size U7.out.size))
    have K7 : Hid (KpC B C w w7) := K4.out.trans (K46.out.trans (KpC.under U7.out))
    have NBK : Hid (kb ≠ nb ∧ w.heap.size ≤ nb) := ⟨fun e => by have := N6.out.lt; omega, by rw [HNB.out]; exact K2.out.size⟩
    have NQK : Hid (q + 1 ≠ kb ∧ w.heap.size ≤ kb) := ⟨fun e => by have := R6.out.lt; omega, by rw [hkb]; exact Nat.le_trans K4.out.size K46.out.size⟩
    have EOK1 := EK.out.ok ks[j].es es1 hEs SK.out.rises SK.out.ok
    have eok1 := RN.out.nd.ok EOK1.2
    have fit1 := RN.out.fit
    have few1 := few_ents eok1
    have FW1 : Hid (ents1.length ≤ 500) := by show _ ≤ _; omega
    have WM := Lib.hid (fun W' (hW' : EAt W' A6 ents1) => wantsMore_any W' (d + 1) A6 c6 ux ents1 hW' (fun e he => Nat.le_trans (eok1 e he).size (by omega)) (by omega))
    have EA1 : Hid (EAt w7 A6 ents1) := by
      obtain ⟨A', c', e, _, h1⟩ := OK7.out.any
      injection e with e1 _ _
      subst e1
      exact h1
    unfold noV at WM
    rw [← hD6] at WM
    have CN1 := Lib.hid cnt6
    have LO := Lib.hid lo
    have HES1 := Lib.hid hEs
    have HW7 := Lib.hid hw7
    have HKB := Lib.hid hkb
    have OKES := Lib.hid EOK1
    obtain ⟨m1, hm1⟩ : ∃ m, m = ents1.length := ⟨_, rfl⟩
    have HM1 := Lib.hid hm1
    rw [← hm1] at WM HW7 ⊢
    have k0 := KB7.out.cell 0
    have k1 := KB7.out.cell 1
    have k2 := KB7.out.cell 2
    have kl := KB7.out.lt
    rw [← hm1] at k1
    clear hK6 hO6 hC6 hw7 hkb hm1 eok1 few1 fit1 EOK1 hEs hR cnt6 lo hD6 IHK
    go_upto_region 7 with fail
    rw [← HW7.out, ← HKB.out]
    go_wp2_with fail
    refine (WM.out _ EA1.out).mono ?_
    rintro x w8 ⟨rfl, hb8⟩
    have B8 := Lib.hid hb8
    clear hb8 WM k0 k1 k2 kl
    have N8 := Lib.hid (Held.below N7.out B8.out N7.out.lt)
    have R8 := Lib.hid (Held.below R7.out B8.out R7.out.lt)
    have KB8 := Lib.hid (Held.below KB7.out B8.out KB7.out.lt)
    have ON8 := Lib.hid (ON7.out.below_ B8.out)
    have OK8 := Lib.hid (OK7.out.below_ B8.out)
    have C8 := Lib.hid (C7.out.under B8.out)
    have WS8 : Hid (W.heap.size ≤ w8.heap.size) := Nat.le_trans WS7.out B8.out.size
    have K8 : Hid (KpC B C w w8) := K7.out.trans (KpC.under B8.out)
    have OLF : Hid (olds.length ≤ 2 * d + 1 ∧ (old ++ [b] ++ olds).length ≤ 80000) := ⟨LO.out, by
      have h1 := LO.out
      have h2 := FEW.out
      rw [List.length_append, List.length_append]
      show old.length + 1 + _ ≤ _
      omega⟩
    have CC8 : Hid (C ≤ w8.heap.size) := Nat.le_trans hC K8.out.size
    clear N7 R7 KB7 ON7 OK7 C7 WS7 K7 B8
    by_cases hw : ents1 ≠ [] ∧ totalE ents1 < 255
    · have hwb : decide (ents1 ≠ [] ∧ totalE ents1 < 255) = true := decide_eq_true hw
      rw [hwb]
      have HWM := Lib.hid hw
      clear hw hwb
      rcases Nat.eq_zero_or_pos j with j0 | jp
      · have JP := Lib.hid j0
        have j1e : j + 1 < ents.length := by have := EN.out.two (by omega); omega
        have j1k : j + 1 < ks.length := by omega
        clear j0
        have SJ := side_kid HKS.out HTR.out HES.out SP.out.rises SP.out.ok (by omega) (SP.out.ou.imp id fun h => h.2) SP.out.bytes RN.out.grew (j + 1) (by omega) (by omega)
        have JN := Lib.hid (join_right B C w8 cb t p root n f1 key (.func (.func k) #[] caps) tv6 ov6 (taken ++ news) (old ++ [b] ++ olds) C8.out CC8.out OLF.out.2 d (by omega) ents W.heap.size A2 c2 u ON8.out EN.out.few j JP.out (by omega) ks[j + 1].b SJ.1 SJ.2.1 SJ.2.2.1 ks[j + 1].es ks[j + 1].bs SJ.2.2.2 kb w5.heap.size ents1 A6 c6 D6 ux KB8.out OK8.out (List.length_pos_iff.2 HWM.out.1) FW1.out)
        unfold noV at JN
        rw [← HD.out, ← HM2.out] at JN
        rw [show (0 : Int) = (j : Int) by have := JP.out; omega] at JN
        have n0 := N8.out.cell 0
        have n1 := N8.out.cell 1
        have n2 := N8.out.cell 2
        have nl := N8.out.lt
        rw [← HM2.out] at n1
        clear SJ
        go_upto_region 11 with fail
        go_wp2_with fail
        refine JN.out.mono ?_
        rintro x WX ⟨lents, bs0s, ovX, v', w1, rfl, hWX, hES, hSB, hOX, hCX, hKX⟩
        obtain ⟨AK, cK, WX', rfl, hWX', NX, KBX, RX, ONX, OKX, CX, KX, XS2⟩ := after_join WS8.out NQK.out.1 NBK.out.1 NQK.out.2 N8.out KB8.out R8.out ON8.out K8.out hOX hCX hKX
        rw [← hWX] at hWX'
        replace hWX' := hWX'.symm
        subst hWX'
        have STD := Lib.hid (Stead.right RN.out hES.nd hSB hES.sizes hES.two HWM.out.2)
        have NX := Lib.hid NX
        have KBX := Lib.hid KBX
        have RX := Lib.hid RX
        have ONX := Lib.hid ONX
        have OKX := Lib.hid OKX
        have CX := Lib.hid CX
        have KX := Lib.hid KX
        have XS2 := Lib.hid XS2
        obtain ⟨oldsX, hox⟩ : ∃ x, x = olds ++ [ks[j + 1].b] := ⟨_, rfl⟩
        have OLX : Hid (oldsX.length ≤ 2 * d + 2) := by
          have := OLF.out.1
          show _ ≤ _
          rw [hox, List.length_append]
          show olds.length + 1 ≤ _
          omega
        rw [show old ++ [b] ++ olds ++ [ks[j + 1].b] = old ++ [b] ++ (olds ++ [ks[j + 1].b]) by rw [List.append_assoc], ← hox] at CX
        rw [← hox] at STD

        obtain ⟨AA, hAA⟩ : ∃ x, x = ks.take j := ⟨_, rfl⟩
        obtain ⟨CC, hCC⟩ : ∃ x, x = ks.drop (j + 1 + 1) := ⟨_, rfl⟩
        have TJ : ks.drop (j + 1) = ks[j + 1] :: CC := by
          rw [hCC]
          exact List.drop_eq_getElem_cons (by omega)
        have TK : Hid (ents.take j = leads AA ∧ ents.drop 2 = leads CC) := by
          have := JP.out
          subst this
          rw [hAA, hCC, HKS.out]
          unfold leads
          exact ⟨List.map_take.symm, List.map_drop.symm⟩
        have KS3 : Hid (ks = AA ++ [ks[j], ks[j + 1]] ++ CC) := by
          have h1 : ks = AA ++ [ks[j]] ++ (ks[j + 1] :: CC) := by rw [← TJ, hAA]; exact HSP.out
          show _ = _
          exact h1.trans (by simp)
        have ESQ : Hid (E es = some (pairs AA ++ (es1 ++ ks[j + 1].es) ++ pairs CC)) := by
          show _ = _
          rw [EM.out, HES1.out, TJ, hAA, pairs_cons]
          simp
        have OKE : Hid (OkAll (es1 ++ ks[j + 1].es)) := fun e he => by
          rcases List.mem_append.1 he with he | he
          · exact OKES.out.2 e he
          · exact SP.out.ok e (by rw [HES.out]; exact kid_in (List.getElem_mem _) he)
        have NEM : Hid (AA ++ CC = [] → ents1 ++ lents ≠ []) := fun _ e => HWM.out.1 (List.append_eq_nil_iff.1 e).1
        have FT : Hid (j < 2 ∧ 2 ≤ ents.length) := ⟨by have := JP.out; omega, by have := JP.out; omega⟩
        have CNX : Hid (cnt n f1 = cnt n f + news.length) := CN1.out
        obtain ⟨mK, hmK⟩ : ∃ m, m = (ents1 ++ lents).length := ⟨_, rfl⟩

        have HMK := Lib.hid hmK
        clear hAA hCC hWX hES hSB hOX hCX hKX hmK hox JN n0 n1 n2 nl TJ

        have U9 : Hid (Below WX.heap.size WX WX.drew) := (Below.refl _ _).drew
        have LAY := Lib.hid (lay_any B C WX.drew cb t p root n f1 key (.func (.func k) #[] caps) tv6 ovX (taken ++ news) (old ++ [b] ++ oldsX) (CX.out.under U9.out) (Nat.le_trans hB (Nat.le_trans KX.out.size U9.out.size)) (Nat.le_trans hC (Nat.le_trans KX.out.size U9.out.size)) (by rw [List.length_append]; have h1 := RM.out.2.2; have h2 := STD.out.few; omega) d (by omega) (ents1 ++ lents) (es1 ++ ks[j + 1].es) (bs1 ++ bs0s) STD.out.nd OKE.out STD.out.fit STD.out.two RM.out.2.1 (by have h1 := RM.out.1; have h2 := STD.out.few; have h3 := CNX.out; omega) w8.heap.size AK cK ux (OKX.out.below_ U9.out))
        unfold noV at LAY
        rw [← HD6.out, ← HMK.out] at LAY
        have NXD := Lib.hid (Held.below NX.out U9.out NX.out.lt)
        have KBD2 := Lib.hid (Held.below KBX.out U9.out KBX.out.lt)
        have RXD := Lib.hid (Held.below RX.out U9.out RX.out.lt)
        have ONXD := Lib.hid (ONX.out.below_ U9.out)
        have xs : WX.cell? ⟨kb, 0, none⟩ = some (.int .i64 D6) ∧ WX.cell? ⟨kb, 1, none⟩ = some (.slice AK mK cK) ∧ WX.cell? ⟨kb, 2, none⟩ = some (.string (strB ux)) := ⟨KBX.out.cell 0, by rw [HMK.out]; exact KBX.out.cell 1, KBX.out.cell 2⟩
        have xn : WX.cell? ⟨nb, 1, none⟩ = some (.slice A2 m2 c2) := by rw [HM2.out]; exact NX.out.cell 1
        go_upto_region 12 with fail
        refine wp_region_noPanic ?_
        refine wp_region_held_drew (S := fun w' => w'.cell? ⟨kb, 0, none⟩ = some (.int .i64 D6) ∧ w'.cell? ⟨kb, 1, none⟩ = some (.slice AK mK cK) ∧ w'.cell? ⟨kb, 2, none⟩ = some (.string (strB ux))) (by kernel_rfl) xs (fun hHeld => ?_)
        refine take_ (i := 0) (v := ?_) 55 rfl rfl (by kernel_rfl) (by kernel_rfl) (by kernel_rfl) (fun _ _ _ h => h) (Or.inl ⟨by rfl, ?_⟩) (by assumption) ?_
        rotate_left
        · (intro wS hSw; (try dsimp only at hSw); go_simp; try with_reducible rfl)
        simp only [Act.put, List.setIfInBounds_toArray]
        refine take_ (i := 2) (v := ?_) 57 rfl rfl (by kernel_rfl) (by kernel_rfl) (by kernel_rfl) (fun _ _ _ h => h) (Or.inl ⟨by rfl, ?_⟩) (by assumption) ?_
        rotate_left
        · (intro wS hSw; (try dsimp only at hSw); go_simp; try with_reducible rfl)
        simp only [Act.put, List.setIfInBounds_toArray]
        refine take_ (i := 3) (v := ?_) 58 rfl rfl (by kernel_rfl) (by kernel_rfl) (by kernel_rfl) (fun _ _ _ h => h) (Or.inl ⟨by rfl, ?_⟩) (by assumption) ?_
        rotate_left
        · (intro wS hSw; (try dsimp only at hSw); go_simp; try with_reducible rfl)
        simp only [Act.put, List.setIfInBounds_toArray]
        refine take_ (i := 4) (v := ?_) 59 rfl rfl (by kernel_rfl) (by kernel_rfl) (by kernel_rfl) (fun _ _ _ h => h) (Or.inl ⟨by rfl, ?_⟩) (by assumption) ?_
        rotate_left
        · (intro wS hSw; (try dsimp only at hSw); go_simp; try with_reducible rfl)
        simp only [Act.put, List.setIfInBounds_toArray]
        refine take_ (i := 5) (v := ?_) 60 rfl rfl (by kernel_rfl) (by kernel_rfl) (by kernel_rfl) (fun _ _ _ h => h) (Or.inl ⟨by rfl, ?_⟩) (by assumption) ?_
        rotate_left
        · (intro wS hSw; (try dsimp only at hSw); go_simp; try with_reducible rfl)
        simp only [Act.put, List.setIfInBounds_toArray]
        refine two_ (i := 1) (j := 6) _ _ (by kernel_rfl) rfl rfl (fun K hK => ?_) (fun K hK => ?_)
        · go_simp
          refine hK.out _ _ xs (fun hHeld => ?_)
          clear hK K
          refine one_ (i := 6) _ (by kernel_rfl) rfl (fun K hK => ?_)
          go_simp
          refine LAY.out.mono ?_
          rintro x wy ⟨f2, ks2, news2, vy, tvy, rfl, hLaid, hOY, hCY, hKY, cntY, hNil⟩
          obtain ⟨AY, cY, rfl, _, _⟩ := hOY.any
          have CY := Lib.hid hCY
          have OY := Lib.hid hOY
          have LA := Lib.hid hLaid
          have LKL : (leads ks2).length ≤ 2 := by unfold leads; rw [List.length_map]; exact hLaid.few
          have NY := Lib.hid (hKY.held NXD.out (by decide) (fun e => absurd e (by decide)))
          have KBY := Lib.hid (hKY.held KBD2.out (by decide) (fun e => absurd e (by decide)))
          have RY := Lib.hid (hKY.held RXD.out (by decide) (fun e => absurd e (by decide)))
          have ONY := Lib.hid (hKY.en ONXD.out)
          have CNY := Lib.hid cntY
          have KWY : Hid (KpC B C w wy) := KX.out.trans ((KpC.under U9.out).trans hKY)
          have RP := Lib.hid (replace_any wy W.heap.size _ ents ONY.out j 2 FT.out.1 FT.out.2 WX.drew.heap.size AY cY (leads ks2) OY.out (fun g e1 e2 => by
            have h1 := (World.ownsRow.lt ONXD.out g e1).2
            have h2 := (World.ownsRow.lt OY.out g e2).1
            omega) (fun hA e => hA (by
            have e3 : ks2 = [] := by unfold leads at e; exact List.map_eq_nil_iff.1 e
            have := hNil e3
            injection this)) (Nat.le_trans XS2.out (Nat.le_trans U9.out.size hKY.size)) (by have := EN.out.few; omega) (by omega))
          rw [← HM2.out] at RP
          rw [show ((2 : Nat) : Int) = 2 from rfl] at RP
          obtain ⟨mY, hmY⟩ : ∃ m, m = (leads ks2).length := ⟨_, rfl⟩
          rw [← hmY] at RP ⊢
          have ys : wy.cell? ⟨kb, 0, none⟩ = some (.int .i64 D6) ∧ wy.cell? ⟨kb, 1, none⟩ = some (.slice AK mK cK) ∧ wy.cell? ⟨kb, 2, none⟩ = some (.string (strB ux)) := ⟨KBY.out.cell 0, by rw [HMK.out]; exact KBY.out.cell 1, KBY.out.cell 2⟩
          have yn : wy.cell? ⟨nb, 1, none⟩ = some (.slice A2 m2 c2) := by rw [HM2.out]; exact NY.out.cell 1
          clear hOY hCY hKY hLaid hNil hmY LAY cntY
          dsimp only
          refine hK.out _ _ ys (fun hHeld => ?_)
          clear hK K
          refine one_ (i := 7) _ (by kernel_rfl) rfl (fun K hK => ?_)
          go_simp
          refine RP.out.mono ?_
          rintro x wz ⟨vz, rfl, hOZ, hGZ⟩
          dsimp only
          obtain ⟨AZ, mZ, cZ, wa, wf, rfl, hmZ, hwa, hwf, NZ, KBZ, NA, KBA, RA, FH, CF, KF, OF⟩ := after_replace BW.out.size HQ.out NE.out NBK.out HM2.out ONY.out NY.out KBY.out RY.out CY.out KWY.out hOZ hGZ
          have FIN := Lib.hid (renewE_up (u := u) (E := E) (taken := taken) (old := old) STD.out (b := b) (bs := bs) (ks := ks) (es := es) (d := d) (by rw [BS.out, HBK.out]) KS3.out HTR.out (by rw [← HKS.out]; exact EN.out.sizes) LA.out OKE.out NEM.out ESQ.out TK.out HD.out hmZ OF CF KF CNX.out CNY.out OLX.out)
          have FHH := Lib.hid FH
          have za : wz.cell? ⟨kb, 0, none⟩ = some (.int .i64 D6) ∧ wz.cell? ⟨kb, 1, none⟩ = some (.slice AK mK cK) ∧ wz.cell? ⟨kb, 2, none⟩ = some (.string (strB ux)) := ⟨KBZ.cell 0, by rw [HMK.out]; exact KBZ.cell 1, KBZ.cell 2⟩
          have aa : wa.cell? ⟨kb, 0, none⟩ = some (.int .i64 D6) ∧ wa.cell? ⟨kb, 1, none⟩ = some (.slice AK mK cK) ∧ wa.cell? ⟨kb, 2, none⟩ = some (.string (strB ux)) := ⟨KBA.cell 0, by rw [HMK.out]; exact KBA.cell 1, KBA.cell 2⟩
          have zn := NZ.cell 1
          have zf := NZ.frozen 1
          have n0 := NA.cell 0
          have n1 := NA.cell 1
          have n2 := NA.cell 2
          have nl := NA.lt
          have r0 := RA.cell 0
          have r1 := RA.cell 1
          have r2 := RA.cell 2
          have y0 := RA.frozen 0
          have y1 := RA.frozen 1
          have y2 := RA.frozen 2
          have HWA := Lib.hid hwa
          have HWF := Lib.hid hwf
          clear hOZ hGZ hwa hwf CF KF OF RP hmZ NZ KBZ NA KBA RA FH
          refine hK.out _ _ za (fun hHeld => ?_)
          clear hK K
          refine take_ (i := 8) (v := ?_) 63 rfl rfl (by kernel_rfl) (by kernel_rfl) (by kernel_rfl) (fun _ _ _ h => h) (Or.inl ⟨by rfl, ?_⟩) (by assumption) ?_
          rotate_left
          · (intro wS hSw; (try dsimp only at hSw); go_simp; try with_reducible rfl)
          simp only [Act.put, List.setIfInBounds_toArray]
          refine one_ (i := 9) _ (by kernel_rfl) rfl (fun K hK => ?_)
          go_simp
          rw [← HWA.out]
          refine hK.out _ _ aa (fun hHeld => ?_)
          clear hK K
          clear ys yn za aa zn zf xs xn
          refine wpAnyH_done (by kernel_rfl) ?_ _
          refine NoPanic.normal ?_
          go_wp2_with fail
          rw [← HWF.out]
          exact bodyPost_ret (res_cellB _ _ 5 4 79 _ _ _ Tryd.results48 rfl rfl (load_node FHH.out rfl)) rfl FIN.out
        · go_simp
          refine LAY.out.mono ?_
          rintro x wy ⟨f2, ks2, news2, vy, tvy, rfl, hLaid, hOY, hCY, hKY, cntY, hNil⟩
          obtain ⟨AY, cY, rfl, _, _⟩ := hOY.any
          have CY := Lib.hid hCY
          have OY := Lib.hid hOY
          have LA := Lib.hid hLaid
          have LKL : (leads ks2).length ≤ 2 := by unfold leads; rw [List.length_map]; exact hLaid.few
          have NY := Lib.hid (hKY.held NXD.out (by decide) (fun e => absurd e (by decide)))
          have KBY := Lib.hid (hKY.held KBD2.out (by decide) (fun e => absurd e (by decide)))
          have RY := Lib.hid (hKY.held RXD.out (by decide) (fun e => absurd e (by decide)))
          have ONY := Lib.hid (hKY.en ONXD.out)
          have CNY := Lib.hid cntY
          have KWY : Hid (KpC B C w wy) := KX.out.trans ((KpC.under U9.out).trans hKY)
          have RP := Lib.hid (replace_any wy W.heap.size _ ents ONY.out j 2 FT.out.1 FT.out.2 WX.drew.heap.size AY cY (leads ks2) OY.out (fun g e1 e2 => by
            have h1 := (World.ownsRow.lt ONXD.out g e1).2
            have h2 := (World.ownsRow.lt OY.out g e2).1
            omega) (fun hA e => hA (by
            have e3 : ks2 = [] := by unfold leads at e; exact List.map_eq_nil_iff.1 e
            have := hNil e3
            injection this)) (Nat.le_trans XS2.out (Nat.le_trans U9.out.size hKY.size)) (by have := EN.out.few; omega) (by omega))
          rw [← HM2.out] at RP
          rw [show ((2 : Nat) : Int) = 2 from rfl] at RP
          obtain ⟨mY, hmY⟩ : ∃ m, m = (leads ks2).length := ⟨_, rfl⟩
          rw [← hmY] at RP ⊢
          have ys : wy.cell? ⟨kb, 0, none⟩ = some (.int .i64 D6) ∧ wy.cell? ⟨kb, 1, none⟩ = some (.slice AK mK cK) ∧ wy.cell? ⟨kb, 2, none⟩ = some (.string (strB ux)) := ⟨KBY.out.cell 0, by rw [HMK.out]; exact KBY.out.cell 1, KBY.out.cell 2⟩
          have yn : wy.cell? ⟨nb, 1, none⟩ = some (.slice A2 m2 c2) := by rw [HM2.out]; exact NY.out.cell 1
          clear hOY hCY hKY hLaid hNil hmY LAY cntY
          dsimp only
          refine hK.out _ _ ys (fun hHeld => ?_)
          clear hK K
          refine one_ (i := 1) _ (by kernel_rfl) rfl (fun K hK => ?_)
          go_simp
          refine hK.out _ _ ys (fun hHeld => ?_)
          clear hK K
          refine one_ (i := 7) _ (by kernel_rfl) rfl (fun K hK => ?_)
          go_simp
          refine RP.out.mono ?_
          rintro x wz ⟨vz, rfl, hOZ, hGZ⟩
          dsimp only
          obtain ⟨AZ, mZ, cZ, wa, wf, rfl, hmZ, hwa, hwf, NZ, KBZ, NA, KBA, RA, FH, CF, KF, OF⟩ := after_replace BW.out.size HQ.out NE.out NBK.out HM2.out ONY.out NY.out KBY.out RY.out CY.out KWY.out hOZ hGZ
          have FIN := Lib.hid (renewE_up (u := u) (E := E) (taken := taken) (old := old) STD.out (b := b) (bs := bs) (ks := ks) (es := es) (d := d) (by rw [BS.out, HBK.out]) KS3.out HTR.out (by rw [← HKS.out]; exact EN.out.sizes) LA.out OKE.out NEM.out ESQ.out TK.out HD.out hmZ OF CF KF CNX.out CNY.out OLX.out)
          have FHH := Lib.hid FH
          have za : wz.cell? ⟨kb, 0, none⟩ = some (.int .i64 D6) ∧ wz.cell? ⟨kb, 1, none⟩ = some (.slice AK mK cK) ∧ wz.cell? ⟨kb, 2, none⟩ = some (.string (strB ux)) := ⟨KBZ.cell 0, by rw [HMK.out]; exact KBZ.cell 1, KBZ.cell 2⟩
          have aa : wa.cell? ⟨kb, 0, none⟩ = some (.int .i64 D6) ∧ wa.cell? ⟨kb, 1, none⟩ = some (.slice AK mK cK) ∧ wa.cell? ⟨kb, 2, none⟩ = some (.string (strB ux)) := ⟨KBA.cell 0, by rw [HMK.out]; exact KBA.cell 1, KBA.cell 2⟩
          have zn := NZ.cell 1
          have zf := NZ.frozen 1
          have n0 := NA.cell 0
          have n1 := NA.cell 1
          have n2 := NA.cell 2
          have nl := NA.lt
          have r0 := RA.cell 0
          have r1 := RA.cell 1
          have r2 := RA.cell 2
          have y0 := RA.frozen 0
          have y1 := RA.frozen 1
          have y2 := RA.frozen 2
          have HWA := Lib.hid hwa
          have HWF := Lib.hid hwf
          clear hOZ hGZ hwa hwf CF KF OF RP hmZ NZ KBZ NA KBA RA FH
          refine hK.out _ _ za (fun hHeld => ?_)
          clear hK K
          refine take_ (i := 8) (v := ?_) 63 rfl rfl (by kernel_rfl) (by kernel_rfl) (by kernel_rfl) (fun _ _ _ h => h) (Or.inl ⟨by rfl, ?_⟩) (by assumption) ?_
          rotate_left
          · (intro wS hSw; (try dsimp only at hSw); go_simp; try with_reducible rfl)
          simp only [Act.put, List.setIfInBounds_toArray]
          refine one_ (i := 9) _ (by kernel_rfl) rfl (fun K hK => ?_)
          go_simp
          rw [← HWA.out]
          refine hK.out _ _ aa (fun hHeld => ?_)
          clear hK K
          clear ys yn za aa zn zf xs xn
          refine wpAnyH_done (by kernel_rfl) ?_ _
          refine NoPanic.normal ?_
          go_wp2_with fail
          rw [← HWF.out]
          exact bodyPost_ret (res_cellB _ _ 5 4 79 _ _ _ Tryd.results48 rfl rfl (load_node FHH.out rfl)) rfl FIN.out
      · have JP := Lib.hid jp
        clear jp
        have SJ := side_kid HKS.out HTR.out HES.out SP.out.rises SP.out.ok (by omega) (SP.out.ou.imp id fun h => h.2) SP.out.bytes RN.out.grew (j - 1) (by omega) (by omega)
        have JN := Lib.hid (join_left B C w8 cb t p root n f1 key (.func (.func k) #[] caps) tv6 ov6 (taken ++ news) (old ++ [b] ++ olds) C8.out CC8.out OLF.out.2 d (by omega) ents W.heap.size A2 c2 u ON8.out EN.out.few j JP.out (by omega) ks[j - 1].b SJ.1 SJ.2.1 SJ.2.2.1 ks[j - 1].es ks[j - 1].bs SJ.2.2.2 kb w5.heap.size ents1 A6 c6 D6 ux KB8.out OK8.out (List.length_pos_iff.2 HWM.out.1) FW1.out)
        unfold noV at JN
        rw [← HD.out, ← HM2.out] at JN

        have n0 := N8.out.cell 0
        have n1 := N8.out.cell 1
        have n2 := N8.out.cell 2
        have nl := N8.out.lt
        rw [← HM2.out] at n1
        clear SJ
        go_upto_region 11 with fail
        go_wp2_with fail
        refine JN.out.mono ?_
        rintro x WX ⟨lents, bs0s, ovX, v', w1, rfl, hWX, hES, hSB, hOX, hCX, hKX⟩
        obtain ⟨AK, cK, WX', rfl, hWX', NX, KBX, RX, ONX, OKX, CX, KX, XS2⟩ := after_join WS8.out NQK.out.1 NBK.out.1 NQK.out.2 N8.out KB8.out R8.out ON8.out K8.out hOX hCX hKX
        rw [← hWX] at hWX'
        replace hWX' := hWX'.symm
        subst hWX'
        have STD := Lib.hid (Stead.left RN.out hES.nd hSB hES.sizes hES.two HWM.out.2)
        have NX := Lib.hid NX
        have KBX := Lib.hid KBX
        have RX := Lib.hid RX
        have ONX := Lib.hid ONX
        have OKX := Lib.hid OKX
        have CX := Lib.hid CX
        have KX := Lib.hid KX
        have XS2 := Lib.hid XS2
        obtain ⟨oldsX, hox⟩ : ∃ x, x = olds ++ [ks[j - 1].b] := ⟨_, rfl⟩
        have OLX : Hid (oldsX.length ≤ 2 * d + 2) := by
          have := OLF.out.1
          show _ ≤ _
          rw [hox, List.length_append]
          show olds.length + 1 ≤ _
          omega
        rw [show old ++ [b] ++ olds ++ [ks[j - 1].b] = old ++ [b] ++ (olds ++ [ks[j - 1].b]) by rw [List.append_assoc], ← hox] at CX
        rw [← hox] at STD

        obtain ⟨AA, hAA⟩ : ∃ x, x = ks.take (j - 1) := ⟨_, rfl⟩
        obtain ⟨CC, hCC⟩ : ∃ x, x = ks.drop (j + 1) := ⟨_, rfl⟩
        have TJ : ks.take j = AA ++ [ks[j - 1]] := by
          rw [hAA]
          have := List.take_succ_eq_append_getElem (l := ks) (i := j - 1) (by omega)
          rw [show j - 1 + 1 = j by have := JP.out; omega] at this
          exact this
        have TK : Hid (ents.take (j - 1) = leads AA ∧ ents.drop (j + 1) = leads CC) := by
          rw [hAA, hCC, HKS.out]
          unfold leads
          exact ⟨List.map_take.symm, List.map_drop.symm⟩
        have KS3 : Hid (ks = AA ++ [ks[j - 1], ks[j]] ++ CC) := by
          have h1 : ks = AA ++ [ks[j - 1]] ++ [ks[j]] ++ CC := by rw [← TJ, hCC]; exact HSP.out
          show _ = _
          exact h1.trans (by simp)
        have ESQ : Hid (E es = some (pairs AA ++ (ks[j - 1].es ++ es1) ++ pairs CC)) := by
          show _ = _
          rw [EM.out, HES1.out, TJ, hCC, pairs_append]
          simp [pairs]
        have OKE : Hid (OkAll (ks[j - 1].es ++ es1)) := fun e he => by
          rcases List.mem_append.1 he with he | he
          · exact SP.out.ok e (by rw [HES.out]; exact kid_in (List.getElem_mem _) he)
          · exact OKES.out.2 e he
        have NEM : Hid (AA ++ CC = [] → lents ++ ents1 ≠ []) := fun _ e => HWM.out.1 (List.append_eq_nil_iff.1 e).2
        have FT : Hid (j - 1 < j + 1 ∧ j + 1 ≤ ents.length) := ⟨by omega, by omega⟩
        have CNX : Hid (cnt n f1 = cnt n f + news.length) := CN1.out
        obtain ⟨mK, hmK⟩ : ∃ m, m = (lents ++ ents1).length := ⟨_, rfl⟩

        have HMK := Lib.hid hmK
        clear hAA hCC hWX hES hSB hOX hCX hKX hmK hox JN n0 n1 n2 nl TJ

        have U9 : Hid (Below WX.heap.size WX WX.drew) := (Below.refl _ _).drew
        have LAY := Lib.hid (lay_any B C WX.drew cb t p root n f1 key (.func (.func k) #[] caps) tv6 ovX (taken ++ news) (old ++ [b] ++ oldsX) (CX.out.under U9.out) (Nat.le_trans hB (Nat.le_trans KX.out.size U9.out.size)) (Nat.le_trans hC (Nat.le_trans KX.out.size U9.out.size)) (by rw [List.length_append]; have h1 := RM.out.2.2; have h2 := STD.out.few; omega) d (by omega) (lents ++ ents1) (ks[j - 1].es ++ es1) (bs0s ++ bs1) STD.out.nd OKE.out STD.out.fit STD.out.two RM.out.2.1 (by have h1 := RM.out.1; have h2 := STD.out.few; have h3 := CNX.out; omega) w8.heap.size AK cK ux (OKX.out.below_ U9.out))
        unfold noV at LAY
        rw [← HD6.out, ← HMK.out] at LAY
        have NXD := Lib.hid (Held.below NX.out U9.out NX.out.lt)
        have KBD2 := Lib.hid (Held.below KBX.out U9.out KBX.out.lt)
        have RXD := Lib.hid (Held.below RX.out U9.out RX.out.lt)
        have ONXD := Lib.hid (ONX.out.below_ U9.out)
        have xs : WX.cell? ⟨kb, 0, none⟩ = some (.int .i64 D6) ∧ WX.cell? ⟨kb, 1, none⟩ = some (.slice AK mK cK) ∧ WX.cell? ⟨kb, 2, none⟩ = some (.string (strB ux)) := ⟨KBX.out.cell 0, by rw [HMK.out]; exact KBX.out.cell 1, KBX.out.cell 2⟩
        have xn : WX.cell? ⟨nb, 1, none⟩ = some (.slice A2 m2 c2) := by rw [HM2.out]; exact NX.out.cell 1
        go_upto_region 12 with fail
        refine wp_region_noPanic ?_
        refine wp_region_held_drew (S := fun w' => w'.cell? ⟨kb, 0, none⟩ = some (.int .i64 D6) ∧ w'.cell? ⟨kb, 1, none⟩ = some (.slice AK mK cK) ∧ w'.cell? ⟨kb, 2, none⟩ = some (.string (strB ux))) (by kernel_rfl) xs (fun hHeld => ?_)
        refine take_ (i := 0) (v := ?_) 55 rfl rfl (by kernel_rfl) (by kernel_rfl) (by kernel_rfl) (fun _ _ _ h => h) (Or.inl ⟨by rfl, ?_⟩) (by assumption) ?_
        rotate_left
        · (intro wS hSw; (try dsimp only at hSw); go_simp; try with_reducible rfl)
        simp only [Act.put, List.setIfInBounds_toArray]
        refine take_ (i := 2) (v := ?_) 57 rfl rfl (by kernel_rfl) (by kernel_rfl) (by kernel_rfl) (fun _ _ _ h => h) (Or.inl ⟨by rfl, ?_⟩) (by assumption) ?_
        rotate_left
        · (intro wS hSw; (try dsimp only at hSw); go_simp; try with_reducible rfl)
        simp only [Act.put, List.setIfInBounds_toArray]
        refine take_ (i := 3) (v := ?_) 58 rfl rfl (by kernel_rfl) (by kernel_rfl) (by kernel_rfl) (fun _ _ _ h => h) (Or.inl ⟨by rfl, ?_⟩) (by assumption) ?_
        rotate_left
        · (intro wS hSw; (try dsimp only at hSw); go_simp; try with_reducible rfl)
        simp only [Act.put, List.setIfInBounds_toArray]
        refine take_ (i := 4) (v := ?_) 59 rfl rfl (by kernel_rfl) (by kernel_rfl) (by kernel_rfl) (fun _ _ _ h => h) (Or.inl ⟨by rfl, ?_⟩) (by assumption) ?_
        rotate_left
        · (intro wS hSw; (try dsimp only at hSw); go_simp; try with_reducible rfl)
        simp only [Act.put, List.setIfInBounds_toArray]
        refine take_ (i := 5) (v := ?_) 60 rfl rfl (by kernel_rfl) (by kernel_rfl) (by kernel_rfl) (fun _ _ _ h => h) (Or.inl ⟨by rfl, ?_⟩) (by assumption) ?_
        rotate_left
        · (intro wS hSw; (try dsimp only at hSw); go_simp; try with_reducible rfl)
        simp only [Act.put, List.setIfInBounds_toArray]
        refine two_ (i := 1) (j := 6) _ _ (by kernel_rfl) rfl rfl (fun K hK => ?_) (fun K hK => ?_)
        · go_simp
          refine hK.out _ _ xs (fun hHeld => ?_)
          clear hK K
          refine one_ (i := 6) _ (by kernel_rfl) rfl (fun K hK => ?_)
          go_simp
          refine LAY.out.mono ?_
          rintro x wy ⟨f2, ks2, news2, vy, tvy, rfl, hLaid, hOY, hCY, hKY, cntY, hNil⟩
          obtain ⟨AY, cY, rfl, _, _⟩ := hOY.any
          have CY := Lib.hid hCY
          have OY := Lib.hid hOY
          have LA := Lib.hid hLaid
          have LKL : (leads ks2).length ≤ 2 := by unfold leads; rw [List.length_map]; exact hLaid.few
          have NY := Lib.hid (hKY.held NXD.out (by decide) (fun e => absurd e (by decide)))
          have KBY := Lib.hid (hKY.held KBD2.out (by decide) (fun e => absurd e (by decide)))
          have RY := Lib.hid (hKY.held RXD.out (by decide) (fun e => absurd e (by decide)))
          have ONY := Lib.hid (hKY.en ONXD.out)
          have CNY := Lib.hid cntY
          have KWY : Hid (KpC B C w wy) := KX.out.trans ((KpC.under U9.out).trans hKY)
          have RP := Lib.hid (replace_any wy W.heap.size _ ents ONY.out (j - 1) (j + 1) FT.out.1 FT.out.2 WX.drew.heap.size AY cY (leads ks2) OY.out (fun g e1 e2 => by
            have h1 := (World.ownsRow.lt ONXD.out g e1).2
            have h2 := (World.ownsRow.lt OY.out g e2).1
            omega) (fun hA e => hA (by
            have e3 : ks2 = [] := by unfold leads at e; exact List.map_eq_nil_iff.1 e
            have := hNil e3
            injection this)) (Nat.le_trans XS2.out (Nat.le_trans U9.out.size hKY.size)) (by have := EN.out.few; omega) (by omega))
          rw [← HM2.out] at RP
          rw [show ((j - 1 : Nat) : Int) = (j : Int) - 1 by have := JP.out; omega, show ((j + 1 : Nat) : Int) = (j : Int) + 1 by omega] at RP
          obtain ⟨mY, hmY⟩ : ∃ m, m = (leads ks2).length := ⟨_, rfl⟩
          rw [← hmY] at RP ⊢
          have ys : wy.cell? ⟨kb, 0, none⟩ = some (.int .i64 D6) ∧ wy.cell? ⟨kb, 1, none⟩ = some (.slice AK mK cK) ∧ wy.cell? ⟨kb, 2, none⟩ = some (.string (strB ux)) := ⟨KBY.out.cell 0, by rw [HMK.out]; exact KBY.out.cell 1, KBY.out.cell 2⟩
          have yn : wy.cell? ⟨nb, 1, none⟩ = some (.slice A2 m2 c2) := by rw [HM2.out]; exact NY.out.cell 1
          clear hOY hCY hKY hLaid hNil hmY LAY cntY
          dsimp only
          refine hK.out _ _ ys (fun hHeld => ?_)
          clear hK K
          refine one_ (i := 7) _ (by kernel_rfl) rfl (fun K hK => ?_)
          go_simp
          refine RP.out.mono ?_
          rintro x wz ⟨vz, rfl, hOZ, hGZ⟩
          dsimp only
          obtain ⟨AZ, mZ, cZ, wa, wf, rfl, hmZ, hwa, hwf, NZ, KBZ, NA, KBA, RA, FH, CF, KF, OF⟩ := after_replace BW.out.size HQ.out NE.out NBK.out HM2.out ONY.out NY.out KBY.out RY.out CY.out KWY.out hOZ hGZ
          have FIN := Lib.hid (renewE_up (u := u) (E := E) (taken := taken) (old := old) STD.out (b := b) (bs := bs) (ks := ks) (es := es) (d := d) (by rw [BS.out, HBK.out]) KS3.out HTR.out (by rw [← HKS.out]; exact EN.out.sizes) LA.out OKE.out NEM.out ESQ.out TK.out HD.out hmZ OF CF KF CNX.out CNY.out OLX.out)
          have FHH := Lib.hid FH
          have za : wz.cell? ⟨kb, 0, none⟩ = some (.int .i64 D6) ∧ wz.cell? ⟨kb, 1, none⟩ = some (.slice AK mK cK) ∧ wz.cell? ⟨kb, 2, none⟩ = some (.string (strB ux)) := ⟨KBZ.cell 0, by rw [HMK.out]; exact KBZ.cell 1, KBZ.cell 2⟩
          have aa : wa.cell? ⟨kb, 0, none⟩ = some (.int .i64 D6) ∧ wa.cell? ⟨kb, 1, none⟩ = some (.slice AK mK cK) ∧ wa.cell? ⟨kb, 2, none⟩ = some (.string (strB ux)) := ⟨KBA.cell 0, by rw [HMK.out]; exact KBA.cell 1, KBA.cell 2⟩
          have zn := NZ.cell 1
          have zf := NZ.frozen 1
          have n0 := NA.cell 0
          have n1 := NA.cell 1
          have n2 := NA.cell 2
          have nl := NA.lt
          have r0 := RA.cell 0
          have r1 := RA.cell 1
          have r2 := RA.cell 2
          have y0 := RA.frozen 0
          have y1 := RA.frozen 1
          have y2 := RA.frozen 2
          have HWA := Lib.hid hwa
          have HWF := Lib.hid hwf
          clear hOZ hGZ hwa hwf CF KF OF RP hmZ NZ KBZ NA KBA RA FH
          refine hK.out _ _ za (fun hHeld => ?_)
          clear hK K
          refine take_ (i := 8) (v := ?_) 63 rfl rfl (by kernel_rfl) (by kernel_rfl) (by kernel_rfl) (fun _ _ _ h => h) (Or.inl ⟨by rfl, ?_⟩) (by assumption) ?_
          rotate_left
          · (intro wS hSw; (try dsimp only at hSw); go_simp; try with_reducible rfl)
          simp only [Act.put, List.setIfInBounds_toArray]
          refine one_ (i := 9) _ (by kernel_rfl) rfl (fun K hK => ?_)
          go_simp
          rw [← HWA.out]
          refine hK.out _ _ aa (fun hHeld => ?_)
          clear hK K
          clear ys yn za aa zn zf xs xn
          refine wpAnyH_done (by kernel_rfl) ?_ _
          refine NoPanic.normal ?_
          go_wp2_with fail
          rw [← HWF.out]
          exact bodyPost_ret (res_cellB _ _ 5 4 79 _ _ _ Tryd.results48 rfl rfl (load_node FHH.out rfl)) rfl FIN.out
        · go_simp
          refine LAY.out.mono ?_
          rintro x wy ⟨f2, ks2, news2, vy, tvy, rfl, hLaid, hOY, hCY, hKY, cntY, hNil⟩
          obtain ⟨AY, cY, rfl, _, _⟩ := hOY.any
          have CY := Lib.hid hCY
          have OY := Lib.hid hOY
          have LA := Lib.hid hLaid
          have LKL : (leads ks2).length ≤ 2 := by unfold leads; rw [List.length_map]; exact hLaid.few
          have NY := Lib.hid (hKY.held NXD.out (by decide) (fun e => absurd e (by decide)))
          have KBY := Lib.hid (hKY.held KBD2.out (by decide) (fun e => absurd e (by decide)))
          have RY := Lib.hid (hKY.held RXD.out (by decide) (fun e => absurd e (by decide)))
          have ONY := Lib.hid (hKY.en ONXD.out)
          have CNY := Lib.hid cntY
          have KWY : Hid (KpC B C w wy) := KX.out.trans ((KpC.under U9.out).trans hKY)
          have RP := Lib.hid (replace_any wy W.heap.size _ ents ONY.out (j - 1) (j + 1) FT.out.1 FT.out.2 WX.drew.heap.size AY cY (leads ks2) OY.out (fun g e1 e2 => by
            have h1 := (World.ownsRow.lt ONXD.out g e1).2
            have h2 := (World.ownsRow.lt OY.out g e2).1
            omega) (fun hA e => hA (by
            have e3 : ks2 = [] := by unfold leads at e; exact List.map_eq_nil_iff.1 e
            have := hNil e3
            injection this)) (Nat.le_trans XS2.out (Nat.le_trans U9.out.size hKY.size)) (by have := EN.out.few; omega) (by omega))
          rw [← HM2.out] at RP
          rw [show ((j - 1 : Nat) : Int) = (j : Int) - 1 by have := JP.out; omega, show ((j + 1 : Nat) : Int) = (j : Int) + 1 by omega] at RP
          obtain ⟨mY, hmY⟩ : ∃ m, m = (leads ks2).length := ⟨_, rfl⟩
          rw [← hmY] at RP ⊢
          have ys : wy.cell? ⟨kb, 0, none⟩ = some (.int .i64 D6) ∧ wy.cell? ⟨kb, 1, none⟩ = some (.slice AK mK cK) ∧ wy.cell? ⟨kb, 2, none⟩ = some (.string (strB ux)) := ⟨KBY.out.cell 0, by rw [HMK.out]; exact KBY.out.cell 1, KBY.out.cell 2⟩
          have yn : wy.cell? ⟨nb, 1, none⟩ = some (.slice A2 m2 c2) := by rw [HM2.out]; exact NY.out.cell 1
          clear hOY hCY hKY hLaid hNil hmY LAY cntY
          dsimp only
          refine hK.out _ _ ys (fun hHeld => ?_)
          clear hK K
          refine one_ (i := 1) _ (by kernel_rfl) rfl (fun K hK => ?_)
          go_simp
          refine hK.out _ _ ys (fun hHeld => ?_)
          clear hK K
          refine one_ (i := 7) _ (by kernel_rfl) rfl (fun K hK => ?_)
          go_simp
          refine RP.out.mono ?_
          rintro x wz ⟨vz, rfl, hOZ, hGZ⟩
          dsimp only
          obtain ⟨AZ, mZ, cZ, wa, wf, rfl, hmZ, hwa, hwf, NZ, KBZ, NA, KBA, RA, FH, CF, KF, OF⟩ := after_replace BW.out.size HQ.out NE.out NBK.out HM2.out ONY.out NY.out KBY.out RY.out CY.out KWY.out hOZ hGZ
          have FIN := Lib.hid (renewE_up (u := u) (E := E) (taken := taken) (old := old) STD.out (b := b) (bs := bs) (ks := ks) (es := es) (d := d) (by rw [BS.out, HBK.out]) KS3.out HTR.out (by rw [← HKS.out]; exact EN.out.sizes) LA.out OKE.out NEM.out ESQ.out TK.out HD.out hmZ OF CF KF CNX.out CNY.out OLX.out)
          have FHH := Lib.hid FH
          have za : wz.cell? ⟨kb, 0, none⟩ = some (.int .i64 D6) ∧ wz.cell? ⟨kb, 1, none⟩ = some (.slice AK mK cK) ∧ wz.cell? ⟨kb, 2, none⟩ = some (.string (strB ux)) := ⟨KBZ.cell 0, by rw [HMK.out]; exact KBZ.cell 1, KBZ.cell 2⟩
          have aa : wa.cell? ⟨kb, 0, none⟩ = some (.int .i64 D6) ∧ wa.cell? ⟨kb, 1, none⟩ = some (.slice AK mK cK) ∧ wa.cell? ⟨kb, 2, none⟩ = some (.string (strB ux)) := ⟨KBA.cell 0, by rw [HMK.out]; exact KBA.cell 1, KBA.cell 2⟩
          have zn := NZ.cell 1
          have zf := NZ.frozen 1
          have n0 := NA.cell 0
          have n1 := NA.cell 1
          have n2 := NA.cell 2
          have nl := NA.lt
          have r0 := RA.cell 0
          have r1 := RA.cell 1
          have r2 := RA.cell 2
          have y0 := RA.frozen 0
          have y1 := RA.frozen 1
          have y2 := RA.frozen 2
          have HWA := Lib.hid hwa
          have HWF := Lib.hid hwf
          clear hOZ hGZ hwa hwf CF KF OF RP hmZ NZ KBZ NA KBA RA FH
          refine hK.out _ _ za (fun hHeld => ?_)
          clear hK K
          refine take_ (i := 8) (v := ?_) 63 rfl rfl (by kernel_rfl) (by kernel_rfl) (by kernel_rfl) (fun _ _ _ h => h) (Or.inl ⟨by rfl, ?_⟩) (by assumption) ?_
          rotate_left
          · (intro wS hSw; (try dsimp only at hSw); go_simp; try with_reducible rfl)
          simp only [Act.put, List.setIfInBounds_toArray]
          refine one_ (i := 9) _ (by kernel_rfl) rfl (fun K hK => ?_)
          go_simp
          rw [← HWA.out]
          refine hK.out _ _ aa (fun hHeld => ?_)
          clear hK K
          clear ys yn za aa zn zf xs xn
          refine wpAnyH_done (by kernel_rfl) ?_ _
          refine NoPanic.normal ?_
          go_wp2_with fail
          rw [← HWF.out]
          exact bodyPost_ret (res_cellB _ _ 5 4 79 _ _ _ Tryd.results48 rfl rfl (load_node FHH.out rfl)) rfl FIN.out
    · have hwb : decide (ents1 ≠ [] ∧ totalE ents1 < 255) = false := decide_eq_false hw
      rw [hwb]
      have T2 := Lib.hid (two_enough RN.out.nd OKES.out.2 RN.out.some_ hw)
      clear hw hwb
      obtain ⟨WX, hWX⟩ : ∃ WX, WX = w8 := ⟨_, rfl⟩
      subst hWX
      obtain ⟨AA, hAA⟩ : ∃ x, x = ks.take j := ⟨_, rfl⟩
      obtain ⟨CC, hCC⟩ : ∃ x, x = ks.drop (j + 1) := ⟨_, rfl⟩
      have STD := Lib.hid (Stead.alone RN.out T2.out)
      have NX := N8
      have RX := R8
      have KBX := KB8
      have ONX := ON8
      have OKX := OK8
      have CX := C8
      have XS2 := WS8
      have KX := K8
      have TK : Hid (ents.take j = leads AA ∧ ents.drop (j + 1) = leads CC) := by
        rw [hAA, hCC, HKS.out]
        unfold leads
        exact ⟨List.map_take.symm, List.map_drop.symm⟩
      have KS3 : Hid (ks = AA ++ [ks[j]] ++ CC) := by rw [hAA, hCC]; exact HSP.out
      have NEM : Hid (AA ++ CC = [] → ents1 ≠ []) := fun e => by
        have h1 := congrArg List.length KS3.out
        have h2 := EN.out.two (by omega)
        have h3 := List.append_eq_nil_iff.1 e
        rw [h3.1, h3.2] at h1
        simp at h1
        omega
      have ESQ : Hid (E es = some (pairs AA ++ es1 ++ pairs CC)) := by rw [hAA, hCC, EM.out, HES1.out]; rfl
      have OKE : Hid (OkAll es1) := OKES.out.2
      have CNX : Hid (cnt n f1 = cnt n f + news.length) := CN1.out
      have OLX : Hid (olds.length ≤ 2 * d + 2) := by have := LO.out; show _ ≤ _; omega
      have FT : Hid (j < j + 1 ∧ j + 1 ≤ ents.length) := ⟨by omega, by omega⟩
      have HMK := HM1
      clear hAA hCC

      have U9 : Hid (Below WX.heap.size WX WX.drew) := (Below.refl _ _).drew
      have LAY := Lib.hid (lay_any B C WX.drew cb t p root n f1 key (.func (.func k) #[] caps) tv6 ov6 (taken ++ news) (old ++ [b] ++ olds) (CX.out.under U9.out) (Nat.le_trans hB (Nat.le_trans KX.out.size U9.out.size)) (Nat.le_trans hC (Nat.le_trans KX.out.size U9.out.size)) (by rw [List.length_append]; have h1 := RM.out.2.2; have h2 := STD.out.few; omega) d (by omega) ents1 es1 bs1 STD.out.nd OKE.out STD.out.fit STD.out.two RM.out.2.1 (by have h1 := RM.out.1; have h2 := STD.out.few; have h3 := CNX.out; omega) w5.heap.size A6 c6 ux (OKX.out.below_ U9.out))
      unfold noV at LAY
      rw [← HD6.out, ← HMK.out] at LAY
      have NXD := Lib.hid (Held.below NX.out U9.out NX.out.lt)
      have KBD2 := Lib.hid (Held.below KBX.out U9.out KBX.out.lt)
      have RXD := Lib.hid (Held.below RX.out U9.out RX.out.lt)
      have ONXD := Lib.hid (ONX.out.below_ U9.out)
      have xs : WX.cell? ⟨kb, 0, none⟩ = some (.int .i64 D6) ∧ WX.cell? ⟨kb, 1, none⟩ = some (.slice A6 m1 c6) ∧ WX.cell? ⟨kb, 2, none⟩ = some (.string (strB ux)) := ⟨KBX.out.cell 0, by rw [HMK.out]; exact KBX.out.cell 1, KBX.out.cell 2⟩
      have xn : WX.cell? ⟨nb, 1, none⟩ = some (.slice A2 m2 c2) := by rw [HM2.out]; exact NX.out.cell 1
      go_upto_region 12 with fail
      refine wp_region_noPanic ?_
      refine wp_region_held_drew (S := fun w' => w'.cell? ⟨kb, 0, none⟩ = some (.int .i64 D6) ∧ w'.cell? ⟨kb, 1, none⟩ = some (.slice A6 m1 c6) ∧ w'.cell? ⟨kb, 2, none⟩ = some (.string (strB ux))) (by kernel_rfl) xs (fun hHeld => ?_)
      refine take_ (i := 0) (v := ?_) 55 rfl rfl (by kernel_rfl) (by kernel_rfl) (by kernel_rfl) (fun _ _ _ h => h) (Or.inl ⟨by rfl, ?_⟩) (by assumption) ?_
      rotate_left
      · (intro wS hSw; (try dsimp only at hSw); go_simp; try with_reducible rfl)
      simp only [Act.put, List.setIfInBounds_toArray]
      refine take_ (i := 2) (v := ?_) 57 rfl rfl (by kernel_rfl) (by kernel_rfl) (by kernel_rfl) (fun _ _ _ h => h) (Or.inl ⟨by rfl, ?_⟩) (by assumption) ?_
      rotate_left
      · (intro wS hSw; (try dsimp only at hSw); go_simp; try with_reducible rfl)
      simp only [Act.put, List.setIfInBounds_toArray]
      refine take_ (i := 3) (v := ?_) 58 rfl rfl (by kernel_rfl) (by kernel_rfl) (by kernel_rfl) (fun _ _ _ h => h) (Or.inl ⟨by rfl, ?_⟩) (by assumption) ?_
      rotate_left
      · (intro wS hSw; (try dsimp only at hSw); go_simp; try with_reducible rfl)
      simp only [Act.put, List.setIfInBounds_toArray]
      refine take_ (i := 4) (v := ?_) 59 rfl rfl (by kernel_rfl) (by kernel_rfl) (by kernel_rfl) (fun _ _ _ h => h) (Or.inl ⟨by rfl, ?_⟩) (by assumption) ?_
      rotate_left
      · (intro wS hSw; (try dsimp only at hSw); go_simp; try with_reducible rfl)
      simp only [Act.put, List.setIfInBounds_toArray]
      refine take_ (i := 5) (v := ?_) 60 rfl rfl (by kernel_rfl) (by kernel_rfl) (by kernel_rfl) (fun _ _ _ h => h) (Or.inl ⟨by rfl, ?_⟩) (by assumption) ?_
      rotate_left
      · (intro wS hSw; (try dsimp only at hSw); go_simp; try with_reducible rfl)
      simp only [Act.put, List.setIfInBounds_toArray]
      refine two_ (i := 1) (j := 6) _ _ (by kernel_rfl) rfl rfl (fun K hK => ?_) (fun K hK => ?_)
      · go_simp
        refine hK.out _ _ xs (fun hHeld => ?_)
        clear hK K
        refine one_ (i := 6) _ (by kernel_rfl) rfl (fun K hK => ?_)
        go_simp
        refine LAY.out.mono ?_
        rintro x wy ⟨f2, ks2, news2, vy, tvy, rfl, hLaid, hOY, hCY, hKY, cntY, hNil⟩
        obtain ⟨AY, cY, rfl, _, _⟩ := hOY.any
        have CY := Lib.hid hCY
        have OY := Lib.hid hOY
        have LA := Lib.hid hLaid
        have LKL : (leads ks2).length ≤ 2 := by unfold leads; rw [List.length_map]; exact hLaid.few
        have NY := Lib.hid (hKY.held NXD.out (by decide) (fun e => absurd e (by decide)))
        have KBY := Lib.hid (hKY.held KBD2.out (by decide) (fun e => absurd e (by decide)))
        have RY := Lib.hid (hKY.held RXD.out (by decide) (fun e => absurd e (by decide)))
        have ONY := Lib.hid (hKY.en ONXD.out)
        have CNY := Lib.hid cntY
        have KWY : Hid (KpC B C w wy) := KX.out.trans ((KpC.under U9.out).trans hKY)
        have RP := Lib.hid (replace_any wy W.heap.size _ ents ONY.out j (j + 1) FT.out.1 FT.out.2 WX.drew.heap.size AY cY (leads ks2) OY.out (fun g e1 e2 => by
          have h1 := (World.ownsRow.lt ONXD.out g e1).2
          have h2 := (World.ownsRow.lt OY.out g e2).1
          omega) (fun hA e => hA (by
          have e3 : ks2 = [] := by unfold leads at e; exact List.map_eq_nil_iff.1 e
          have := hNil e3
          injection this)) (Nat.le_trans XS2.out (Nat.le_trans U9.out.size hKY.size)) (by have := EN.out.few; omega) (by omega))
        rw [← HM2.out] at RP
        rw [show ((j + 1 : Nat) : Int) = wrap64 ((j : Int) + 1) by have := EN.out.few; unfold wrap64; omega] at RP
        obtain ⟨mY, hmY⟩ : ∃ m, m = (leads ks2).length := ⟨_, rfl⟩
        rw [← hmY] at RP ⊢
        have ys : wy.cell? ⟨kb, 0, none⟩ = some (.int .i64 D6) ∧ wy.cell? ⟨kb, 1, none⟩ = some (.slice A6 m1 c6) ∧ wy.cell? ⟨kb, 2, none⟩ = some (.string (strB ux)) := ⟨KBY.out.cell 0, by rw [HMK.out]; exact KBY.out.cell 1, KBY.out.cell 2⟩
        have yn : wy.cell? ⟨nb, 1, none⟩ = some (.slice A2 m2 c2) := by rw [HM2.out]; exact NY.out.cell 1
        clear hOY hCY hKY hLaid hNil hmY LAY cntY
        dsimp only
        refine hK.out _ _ ys (fun hHeld => ?_)
        clear hK K
        refine one_ (i := 7) _ (by kernel_rfl) rfl (fun K hK => ?_)
        go_simp
        refine RP.out.mono ?_
        rintro x wz ⟨vz, rfl, hOZ, hGZ⟩
        dsimp only
        obtain ⟨AZ, mZ, cZ, wa, wf, rfl, hmZ, hwa, hwf, NZ, KBZ, NA, KBA, RA, FH, CF, KF, OF⟩ := after_replace BW.out.size HQ.out NE.out NBK.out HM2.out ONY.out NY.out KBY.out RY.out CY.out KWY.out hOZ hGZ
        have FIN := Lib.hid (renewE_up (u := u) (E := E) (taken := taken) (old := old) STD.out (b := b) (bs := bs) (ks := ks) (es := es) (d := d) (by rw [BS.out, HBK.out]) KS3.out HTR.out (by rw [← HKS.out]; exact EN.out.sizes) LA.out OKE.out NEM.out ESQ.out TK.out HD.out hmZ OF CF KF CNX.out CNY.out OLX.out)
        have FHH := Lib.hid FH
        have za : wz.cell? ⟨kb, 0, none⟩ = some (.int .i64 D6) ∧ wz.cell? ⟨kb, 1, none⟩ = some (.slice A6 m1 c6) ∧ wz.cell? ⟨kb, 2, none⟩ = some (.string (strB ux)) := ⟨KBZ.cell 0, by rw [HMK.out]; exact KBZ.cell 1, KBZ.cell 2⟩
        have aa : wa.cell? ⟨kb, 0, none⟩ = some (.int .i64 D6) ∧ wa.cell? ⟨kb, 1, none⟩ = some (.slice A6 m1 c6) ∧ wa.cell? ⟨kb, 2, none⟩ = some (.string (strB ux)) := ⟨KBA.cell 0, by rw [HMK.out]; exact KBA.cell 1, KBA.cell 2⟩
        have zn := NZ.cell 1
        have zf := NZ.frozen 1
        have n0 := NA.cell 0
        have n1 := NA.cell 1
        have n2 := NA.cell 2
        have nl := NA.lt
        have r0 := RA.cell 0
        have r1 := RA.cell 1
        have r2 := RA.cell 2
        have y0 := RA.frozen 0
        have y1 := RA.frozen 1
        have y2 := RA.frozen 2
        have HWA := Lib.hid hwa
        have HWF := Lib.hid hwf
        clear hOZ hGZ hwa hwf CF KF OF RP hmZ NZ KBZ NA KBA RA FH
        refine hK.out _ _ za (fun hHeld => ?_)
        clear hK K
        refine take_ (i := 8) (v := ?_) 63 rfl rfl (by kernel_rfl) (by kernel_rfl) (by kernel_rfl) (fun _ _ _ h => h) (Or.inl ⟨by rfl, ?_⟩) (by assumption) ?_
        rotate_left
        · (intro wS hSw; (try dsimp only at hSw); go_simp; try with_reducible rfl)
        simp only [Act.put, List.setIfInBounds_toArray]
        refine one_ (i := 9) _ (by kernel_rfl) rfl (fun K hK => ?_)
        go_simp
        rw [← HWA.out]
        refine hK.out _ _ aa (fun hHeld => ?_)
        clear hK K
        clear ys yn za aa zn zf xs xn
        refine wpAnyH_done (by kernel_rfl) ?_ _
        refine NoPanic.normal ?_
        go_wp2_with fail
        rw [← HWF.out]
        exact bodyPost_ret (res_cellB _ _ 5 4 79 _ _ _ Tryd.results48 rfl rfl (load_node FHH.out rfl)) rfl FIN.out
      · go_simp
        refine LAY.out.mono ?_
        rintro x wy ⟨f2, ks2, news2, vy, tvy, rfl, hLaid, hOY, hCY, hKY, cntY, hNil⟩
        obtain ⟨AY, cY, rfl, _, _⟩ := hOY.any
        have CY := Lib.hid hCY
        have OY := Lib.hid hOY
        have LA := Lib.hid hLaid
        have LKL : (leads ks2).length ≤ 2 := by unfold leads; rw [List.length_map]; exact hLaid.few
        have NY := Lib.hid (hKY.held NXD.out (by decide) (fun e => absurd e (by decide)))
        have KBY := Lib.hid (hKY.held KBD2.out (by decide) (fun e => absurd e (by decide)))
        have RY := Lib.hid (hKY.held RXD.out (by decide) (fun e => absurd e (by decide)))
        have ONY := Lib.hid (hKY.en ONXD.out)
        have CNY := Lib.hid cntY
        have KWY : Hid (KpC B C w wy) := KX.out.trans ((KpC.under U9.out).trans hKY)
        have RP := Lib.hid (replace_any wy W.heap.size _ ents ONY.out j (j + 1) FT.out.1 FT.out.2 WX.drew.heap.size AY cY (leads ks2) OY.out (fun g e1 e2 => by
          have h1 := (World.ownsRow.lt ONXD.out g e1).2
          have h2 := (World.ownsRow.lt OY.out g e2).1
          omega) (fun hA e => hA (by
          have e3 : ks2 = [] := by unfold leads at e; exact List.map_eq_nil_iff.1 e
          have := hNil e3
          injection this)) (Nat.le_trans XS2.out (Nat.le_trans U9.out.size hKY.size)) (by have := EN.out.few; omega) (by omega))
        rw [← HM2.out] at RP
        rw [show ((j + 1 : Nat) : Int) = wrap64 ((j : Int) + 1) by have := EN.out.few; unfold wrap64; omega] at RP
        obtain ⟨mY, hmY⟩ : ∃ m, m = (leads ks2).length := ⟨_, rfl⟩
        rw [← hmY] at RP ⊢
        have ys : wy.cell? ⟨kb, 0, none⟩ = some (.int .i64 D6) ∧ wy.cell? ⟨kb, 1, none⟩ = some (.slice A6 m1 c6) ∧ wy.cell? ⟨kb, 2, none⟩ = some (.string (strB ux)) := ⟨KBY.out.cell 0, by rw [HMK.out]; exact KBY.out.cell 1, KBY.out.cell 2⟩
        have yn : wy.cell? ⟨nb, 1, none⟩ = some (.slice A2 m2 c2) := by rw [HM2.out]; exact NY.out.cell 1
        clear hOY hCY hKY hLaid hNil hmY LAY cntY
        dsimp only
        refine hK.out _ _ ys (fun hHeld => ?_)
        clear hK K
        refine one_ (i := 1) _ (by kernel_rfl) rfl (fun K hK => ?_)
        go_simp
        refine hK.out _ _ ys (fun hHeld => ?_)
        clear hK K
        refine one_ (i := 7) _ (by kernel_rfl) rfl (fun K hK => ?_)
        go_simp
        refine RP.out.mono ?_
        rintro x wz ⟨vz, rfl, hOZ, hGZ⟩
        dsimp only
        obtain ⟨AZ, mZ, cZ, wa, wf, rfl, hmZ, hwa, hwf, NZ, KBZ, NA, KBA, RA, FH, CF, KF, OF⟩ := after_replace BW.out.size HQ.out NE.out NBK.out HM2.out ONY.out NY.out KBY.out RY.out CY.out KWY.out hOZ hGZ
        have FIN := Lib.hid (renewE_up (u := u) (E := E) (taken := taken) (old := old) STD.out (b := b) (bs := bs) (ks := ks) (es := es) (d := d) (by rw [BS.out, HBK.out]) KS3.out HTR.out (by rw [← HKS.out]; exact EN.out.sizes) LA.out OKE.out NEM.out ESQ.out TK.out HD.out hmZ OF CF KF CNX.out CNY.out OLX.out)
        have FHH := Lib.hid FH
        have za : wz.cell? ⟨kb, 0, none⟩ = some (.int .i64 D6) ∧ wz.cell? ⟨kb, 1, none⟩ = some (.slice A6 m1 c6) ∧ wz.cell? ⟨kb, 2, none⟩ = some (.string (strB ux)) := ⟨KBZ.cell 0, by rw [HMK.out]; exact KBZ.cell 1, KBZ.cell 2⟩
        have aa : wa.cell? ⟨kb, 0, none⟩ = some (.int .i64 D6) ∧ wa.cell? ⟨kb, 1, none⟩ = some (.slice A6 m1 c6) ∧ wa.cell? ⟨kb, 2, none⟩ = some (.string (strB ux)) := ⟨KBA.cell 0, by rw [HMK.out]; exact KBA.cell 1, KBA.cell 2⟩
        have zn := NZ.cell 1
        have zf := NZ.frozen 1
        have n0 := NA.cell 0
        have n1 := NA.cell 1
        have n2 := NA.cell 2
        have nl := NA.lt
        have r0 := RA.cell 0
        have r1 := RA.cell 1
        have r2 := RA.cell 2
        have y0 := RA.frozen 0
        have y1 := RA.frozen 1
        have y2 := RA.frozen 2
        have HWA := Lib.hid hwa
        have HWF := Lib.hid hwf
        clear hOZ hGZ hwa hwf CF KF OF RP hmZ NZ KBZ NA KBA RA FH
        refine hK.out _ _ za (fun hHeld => ?_)
        clear hK K
        refine take_ (i := 8) (v := ?_) 63 rfl rfl (by kernel_rfl) (by kernel_rfl) (by kernel_rfl) (fun _ _ _ h => h) (Or.inl ⟨by rfl, ?_⟩) (by assumption) ?_
        rotate_left
        · (intro wS hSw; (try dsimp only at hSw); go_simp; try with_reducible rfl)
        simp only [Act.put, List.setIfInBounds_toArray]
        refine one_ (i := 9) _ (by kernel_rfl) rfl (fun K hK => ?_)
        go_simp
        rw [← HWA.out]
        refine hK.out _ _ aa (fun hHeld => ?_)
        clear hK K
        clear ys yn za aa zn zf xs xn
        refine wpAnyH_done (by kernel_rfl) ?_ _
        refine NoPanic.normal ?_
        go_wp2_with fail
        rw [← HWF.out]
        exact bodyPost_ret (res_cellB _ _ 5 4 79 _ _ _ Tryd.results48 rfl rfl (load_node FHH.out rfl)) rfl FIN.out
end Go.Proofs.YtnogmgnbhcmajaaDoor
