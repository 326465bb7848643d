/-
  btree: get.
-/
import Derived.Test.YtnogmgnbhcmajaaDoorQA30
namespace Go.Proofs.YtnogmgnbhcmajaaDoor
open Go.RowKit Wal

/-- A node in a block of the call's own: of level d + 1, with these entries; below it lie es. -/
structure NodeM (f : Nat → Option KB) (w : World) (base q d : Nat) (ents es : List En) (u : List Nat) : Prop where
  mem : ∃ v, Held w q 79 #[.int .i64 ((d + 1 : Nat) : Int), v, .string (strB u)] ∧ OwnEn w base v ents
  nd : ∃ bs, Nd f d ents es bs
  deep : d ≤ 200
  ok : OkAll es
  rises : Rises es
  some_ : 0 < d → ents ≠ []
  few : ents.length ≤ 1000
  upto : u = [] ∨ ∀ e ∈ es, ltB e.1 u = true
  bytes : ∀ y ∈ u, y < 256
theorem NodeAt.few {f : Nat → Option KB} {d b : Nat} {es : List En} {bs : List Nat} {ents : List En} {bs0 : List Nat} (h : NodeAt f d b es bs ents bs0) (ho : OkAll es) : ents.length ≤ 1000 := by
  have := few_ents (h.nd.ok ho)
  have := h.fit
  omega
def GetR (es : List En) (k : List Nat) (x : Ending) : Prop := match getE es k with
  | some v => x = .returned (.tuple #[.string (strB v), .bool true])
  | none => x = .returned (.tuple #[.string ⟨#[]⟩, .bool false])
set_option maxRecDepth 100000 in
set_option maxHeartbeats 3200000 in
theorem get_any (B : Nat) (w : World) (t p root n : Nat) (f : Nat → Option KB) (ht : TreeO w t p root) (hm : MemAt B w p n f) (d : Nat) (es : List En) (bs : List Nat) (ha : At f d root es bs) (hd : d ≤ 200) (ho : OkAll es) (hr : Rises es) (k : List Nat) (hk : ∀ x ∈ k, x < 256) :
    Calls Tryd.prog 29 #[.pointer (some ⟨t, 0, none⟩), .string (strB k)] w fun x w' => GetR es k x ∧ Below w.heap.size w w' := by
  have TP := Lib.hid (top_any w t p root ht)
  have RDN : Hid (∀ W, Below w.heap.size w W → Calls Tryd.prog 45 #[.pointer (some ⟨t, 0, none⟩), spV root 0 [] []] W fun x w' => ∃ d' ents v, x = .returned (.agg #[.int .i64 ((d' + 1 : Nat) : Int), v, .string (strB [])]) ∧ OwnEn w' W.heap.size v ents ∧ (∃ bs', Nd f d' ents es bs') ∧ d' ≤ 200 ∧ (0 < d' → ents ≠ []) ∧ ents.length ≤ 1000 ∧ Below W.heap.size W w') := fun W hW => by
    rcases ha with ⟨rfl, rfl, rfl, rfl⟩ | ta
    · refine (read_none W t 0 [] []).mono ?_
      rintro x w' ⟨rfl, hb⟩
      exact ⟨0, [], _, rfl, OwnEn.nil _ _, ⟨[], rfl, rfl⟩, by omega, fun h => absurd h (Nat.lt_irrefl 0), by simp, hb⟩
    · obtain ⟨ents, bs0, hn⟩ := ta.node
      refine (read_any B W t p root n f (ht.below hW) (hm.under hW) d root es bs ents bs0 hn hd ho hr 0 [] [] (.inl rfl) (.inl rfl) (.inl rfl) (by simp)).mono ?_
      rintro x w' ⟨v, rfl, hv, hb⟩
      exact ⟨d, ents, v, rfl, hv, ⟨_, hn.nd⟩, hd, fun _ => hn.some_, hn.few ho, hb⟩
  have RDK : Hid (∀ W, Below w.heap.size w W → ∀ d' (y : Kid) (u : List Nat), TreeIs f d' y.b y.es y.bs → d' ≤ 200 → OkAll y.es → Rises y.es → (u = [] ∨ ∀ e ∈ y.es, ltB e.1 u = true) → (∀ z ∈ u, z < 256) → Calls Tryd.prog 45 #[.pointer (some ⟨t, 0, none⟩), spV y.b (d' + 1) (y.es.headD ([], [])).1 u] W fun x w' => ∃ ents v, x = .returned (.agg #[.int .i64 ((d' + 1 : Nat) : Int), v, .string (strB u)]) ∧ OwnEn w' W.heap.size v ents ∧ (∃ bs', Nd f d' ents y.es bs') ∧ (0 < d' → ents ≠ []) ∧ ents.length ≤ 1000 ∧ Below W.heap.size W w') := fun W hW d' y u ty hd' hoy hry hu hu8 => by
    obtain ⟨ents, bs0, hn⟩ := ty.node
    refine (read_any B W t p root n f (ht.below hW) (hm.under hW) d' y.b y.es y.bs ents bs0 hn hd' hoy hry (d' + 1) _ u (.inr rfl) (.inr rfl) hu hu8).mono ?_
    rintro x w' ⟨v, rfl, hv, hb⟩
    exact ⟨ents, v, rfl, hv, ⟨_, hn.nd⟩, fun _ => hn.some_, hn.few hoy, hb⟩
  have HO := Lib.hid ho
  have HR := Lib.hid hr
  have HK := Lib.hid hk
  clear ht hm ha hd ho hr hk
  go_enter Tryd.func29, Tryd.ntmps29
  go_wp2_with fail
  refine TP.out.mono ?_
  rintro x w1 ⟨rfl, hb1⟩
  have B1 := Lib.hid hb1
  clear hb1 TP
  go_wp2_with fail
  refine (RDN.out _ B1.out).mono ?_
  rintro x w2 ⟨d0, ents0, v0, rfl, ho2, hn2, hd2, hs2, hf2, hb2⟩
  obtain ⟨q, hq⟩ : ∃ q, q = w2.heap.size := ⟨_, rfl⟩
  obtain ⟨D0, hD0⟩ : ∃ D : Int, D = ((d0 + 1 : Nat) : Int) := ⟨_, rfl⟩
  rw [← hD0]
  obtain ⟨w3, hw3⟩ : ∃ w3, w3 = w2.alloc (.cells #[.int .i64 D0, v0, .string (strB [])] 79) := ⟨_, rfl⟩
  have B2 : Below w.heap.size w w2 := B1.out.trans (hb2.mono B1.out.size)
  have B3 : Hid (Below w.heap.size w w3) := by rw [hw3]; exact B2.alloc B2.size _
  have QW : Hid (w.heap.size ≤ q) := by rw [hq]; exact B2.size
  have M3 : Hid (NodeM f w3 w.heap.size q d0 ents0 es []) := by
    refine ⟨⟨v0, by rw [hw3, ← hD0]; exact Held.new _ _ _ hq, ?_⟩, hn2, hd2, HO.out, HR.out, hs2, hf2, .inl rfl, by simp⟩
    rw [hw3]
    have := ho2.alloc (.cells #[.int .i64 D0, v0, .string (strB [])] 79)
    exact ⟨this.1, this.2.imp id fun ⟨g, cap, cur, a1, a2, a3⟩ => ⟨g, cap, cur, a1, Nat.le_trans B1.out.size a2, a3⟩⟩
  clear ho2 hn2 hd2 hs2 hf2 hb2 B2
  obtain ⟨A0, c0, hv0, _, _⟩ : ∃ A c, v0 = .slice A ents0.length c ∧ ents0.length ≤ c ∧ True := by
    obtain ⟨v, hv, ho⟩ := M3.out.mem
    obtain ⟨A, c, e, h1, _⟩ := ho.any
    have := hv.cell 1
    rw [hw3, (Held.new w2 _ _ hq).cell 1] at this
    have e2 : v0 = v := by simpa using this
    exact ⟨A, c, by rw [e2, e], h1, trivial⟩
  subst hv0
  have HW3 := Lib.hid hw3
  have HQ3 := Lib.hid hq
  clear hw3 hq hD0
  go_wp2_with fail
  rw [← HW3.out, ← HQ3.out]
  go_loopw [] (fun wr => ∃ (d' : Nat) (ents es' : List En) (u : List Nat), Hid (NodeM f wr w.heap.size q d' ents es' u ∧ getE es k = getE es' k ∧ Below w.heap.size w wr)) (fun wr => (wr.cell? ⟨q, 0, none⟩).elim 0 fun x => (intOf x).toNat)
  case atStart => exact ⟨d0, ents0, es, [], M3.out, rfl, B3.out⟩
  case round =>
    obtain ⟨d', ents, es', u, G⟩ := hrel
    obtain ⟨v, hv, hown⟩ := G.out.1.mem
    obtain ⟨A, c, rfl, _, hEA⟩ := hown.any
    have HV := Lib.hid hv
    have HOW := Lib.hid hown
    have EA := Lib.hid hEA
    have c0 := hv.cell 0
    have c1 := hv.cell 1
    have c2 := hv.cell 2
    have nd := G.out.1.nd
    obtain ⟨bs', hnd⟩ := nd
    have ND := Lib.hid hnd
    have EOK := Lib.hid (hnd.ok G.out.1.ok)
    have ERS := Lib.hid (hnd.rises G.out.1.rises)
    have few := G.out.1.few
    have deep := G.out.1.deep
    clear hv hown hEA hnd
    rcases Nat.eq_zero_or_pos d' with rfl | hd'
    · have FD := Lib.hid (find_any wr 1 u A c ents EA.out ERS.out (fun e he => (EOK.out e he).kb) (by omega) k HK.out)
      unfold noV at FD
      have e1 : (((0 + 1 : Nat) : Int)) = 1 := rfl
      rw [e1] at c0
      go_wp2_with fail
      refine FD.out.mono ?_
      rintro x w5 ⟨i, hi, rfl, hb5⟩
      have GS := Lib.hid (getE_spot hi ERS.out)
      have H5 := Lib.hid (HV.out.below hb5 HV.out.lt)
      have FIN : Hid (Below w.heap.size w w5) := G.out.2.2.trans (hb5.mono G.out.2.2.size)
      have E5 := Lib.hid (EA.out.below hb5)
      have EE : Hid (getE es k = getE ents k) := by
        have := G.out.2.1
        obtain ⟨e1, _⟩ := ND.out
        show _ = _
        rw [this, e1]
      have il := hi.le
      clear hi hb5 FD c0 c1 c2
      have c1 := H5.out.cell 1
      cases hc : isAt ents k i with
      | true =>
        obtain ⟨hlt, hge⟩ := GS.out.1 hc
        obtain ⟨g, off, rfl, x0, x1⟩ := E5.out.at_ hlt
        have li : (i : Int) < (ents.length : Int) := by omega
        have R : Hid (GetR es k (.returned (.tuple #[.string (strB ents[i].2), .bool true]))) := by
          show GetR _ _ _
          unfold GetR
          rw [EE.out, hge]
        clear hc hge GS
        generalize ents[i].2 = ev at *
        go_wp2_with fail
        go_ret2
        exact ⟨R.out, FIN.out⟩
      | false =>
        have hge := GS.out.2 hc
        have R : Hid (GetR es k (.returned (.tuple #[.string ⟨#[]⟩, .bool false]))) := by
          show GetR _ _ _
          unfold GetR
          rw [EE.out, hge]
        clear hc hge GS
        go_wp2_with fail
        go_ret2
        exact ⟨R.out, FIN.out⟩
    · obtain ⟨d1, rfl⟩ : ∃ d1, d' = d1 + 1 := ⟨d' - 1, by omega⟩
      have l1 : (1 : Int) < ((d1 + 1 + 1 : Nat) : Int) := by omega
      have ne := G.out.1.some_ hd'
      have LD := Lib.hid (fun W (hW : Below wr.heap.size wr W) => lead_any W (d1 + 1 + 1) u A c ents (EA.out.below hW) ERS.out (fun e he => (EOK.out e he).kb) (by omega) ne k HK.out)
      have DN := Lib.hid (fun j (hl : Lead ents k j) => ND.out.down G.out.1.rises G.out.1.ok hl G.out.1.upto G.out.1.bytes)
      have KD := Lib.hid (fun W (hW : Below wr.heap.size wr W) j (hj : j < ents.length) b hb hb4 => kid_any W (d1 + 1 + 1) (by omega) (by omega) u A c ents (EA.out.below hW) (by omega) j hj b hb hb4)
      unfold noV at LD KD
      obtain ⟨D, hD⟩ : ∃ D : Int, D = ((d1 + 1 + 1 : Nat) : Int) := ⟨_, rfl⟩
      rw [← hD] at l1 c0 LD KD HV
      have HD := Lib.hid hD
      clear hD ne
      go_wp2_with fail
      refine wp_region_noPanic ?_
      refine wp_region_held_drew (S := fun _ => True) (by kernel_rfl) trivial (fun hHeld => ?_)
      refine take_ (i := 0) (v := ?_) 16 rfl rfl (by kernel_rfl) (by kernel_rfl) (by kernel_rfl) (fun _ _ _ h => h) (Or.inl ⟨by rfl, ?_⟩) (by assumption) ?_
      rotate_left
      · (intro wS hSw; (try dsimp only at hSw); go_simp; try with_reducible rfl)
      simp only [Act.put, List.setIfInBounds_toArray]
      refine take_ (i := 3) (v := ?_) 19 rfl rfl (by kernel_rfl) (by kernel_rfl) (by kernel_rfl) (fun _ _ _ h => h) (Or.inl ⟨by rfl, ?_⟩) (by assumption) ?_
      rotate_left
      · (intro wS hSw; (try dsimp only at hSw); go_simp; try with_reducible rfl)
      simp only [Act.put, List.setIfInBounds_toArray]
      refine two_ (i := 1) (j := 2) _ _ (by kernel_rfl) rfl rfl (fun K hK => ?_) (fun K hK => ?_)
      · go_simp
        refine hK.out _ _ trivial (fun hHeld => ?_)
        clear hK K
        refine one_ (i := 2) _ (by kernel_rfl) rfl (fun K hK => ?_)
        go_simp
        refine hK.out _ _ trivial (fun hHeld => ?_)
        clear hK K
        refine one_ (i := 4) _ (by kernel_rfl) rfl (fun K hK => ?_)
        go_simp
        refine (LD.out _ ((Below.refl _ _).drew)).mono ?_
        rintro x w5 ⟨j, hj, rfl, hb5⟩
        dsimp only
        have B5 : Hid (Below wr.heap.size wr w5) := ((Below.refl _ _).drew).trans hb5
        have H5 := Lib.hid (HV.out.below B5.out HV.out.lt)
        have HJ := Lib.hid hj
        obtain ⟨XA, X, XC, dn⟩ := DN.out j hj
        have DX := Lib.hid dn
        have jl := hj.lt
        have le : ents[j].2 = pk X.b := by rw [dn.lead jl]; rfl
        have tx := dn.trees X (by simp)
        have KDJ := Lib.hid (KD.out w5 B5.out j jl X.b le tx.top.2.1)
        have k1 : ents[j].1 = (X.es.headD ([], [])).1 := by rw [dn.lead jl]; rfl
        rw [k1] at KDJ
        have RDX := Lib.hid (fun W (hW : Below w.heap.size w W) => RDK.out W hW d1 X (nextU ents j u) tx (by omega) dn.ok dn.rises dn.upto dn.bytes)
        obtain ⟨kx, hkx⟩ : ∃ kx, kx = (X.es.headD ([], [])).1 := ⟨_, rfl⟩
        rw [← hkx] at KDJ RDX
        clear hb5 hj le tx k1 hkx
        have LL1 : d1 + 1 + 1 - 1 = d1 + 1 := by omega
        rw [LL1] at KDJ
        clear LL1 dn
        refine hK.out _ _ trivial (fun hHeld => ?_)
        clear hK K
        refine one_ (i := 5) _ (by kernel_rfl) rfl (fun K hK => ?_)
        go_simp
        refine KDJ.out.mono ?_
        rintro x w6 ⟨rfl, hb6⟩
        dsimp only
        have B6 : Hid (Below wr.heap.size wr w6) := B5.out.trans (hb6.mono B5.out.size)
        have H6 := Lib.hid (HV.out.below B6.out HV.out.lt)
        clear hb6
        refine hK.out _ _ trivial (fun hHeld => ?_)
        clear hK K
        refine one_ (i := 6) _ (by kernel_rfl) rfl (fun K hK => ?_)
        go_simp
        refine (RDX.out _ (G.out.2.2.trans (B6.out.mono G.out.2.2.size))).mono ?_
        rintro x w7 ⟨ents', v7, rfl, ho7, hn7, hs7, hf7, hb7⟩
        dsimp only
        obtain ⟨A7, c7, hv7, _, _⟩ := ho7.any
        subst hv7
        have B7 : Hid (Below wr.heap.size wr w7) := B6.out.trans (hb7.mono B6.out.size)
        have H7 := Lib.hid (HV.out.below B7.out HV.out.lt)
        obtain ⟨D7, hD7⟩ : ∃ D : Int, D = ((d1 + 1 : Nat) : Int) := ⟨_, rfl⟩
        rw [← hD7]
        have M7 : Hid (NodeM f (((w7.setCell ⟨q, 0, none⟩ (.int .i64 D7)).setCell ⟨q, 1, none⟩ (.slice A7 ents'.length c7)).setCell ⟨q, 2, none⟩ (.string (strB (nextU ents j u)))) w.heap.size q d1 ents' X.es (nextU ents j u)) := by
          have hh : Held (((w7.setCell ⟨q, 0, none⟩ (.int .i64 D7)).setCell ⟨q, 1, none⟩ (.slice A7 ents'.length c7)).setCell ⟨q, 2, none⟩ (.string (strB (nextU ents j u)))) q 79 #[.int .i64 D7, .slice A7 ents'.length c7, .string (strB (nextU ents j u))] := ((H7.out.set_ 0 _).set_ 1 _).set_ 2 _
          have oo : Only [q] w7 (((w7.setCell ⟨q, 0, none⟩ (.int .i64 D7)).setCell ⟨q, 1, none⟩ (.slice A7 ents'.length c7)).setCell ⟨q, 2, none⟩ (.string (strB (nextU ents j u)))) := (((Only.refl [q] w7).setCell (p := ⟨q, 0, none⟩) (.inl (by simp)) _).setCell (p := ⟨q, 1, none⟩) (.inl (by simp)) _).setCell (p := ⟨q, 2, none⟩) (.inl (by simp)) _
          have ro := oo.row ho7 (fun b hb hm => Held.ne_row H7.out ho7 (by decide) b hb (by simpa using hm))
          refine ⟨⟨_, by rw [← hD7]; exact hh, ⟨ro.1, ro.2.imp id fun ⟨g, cap, cur, a1, a2, a3⟩ => ⟨g, cap, cur, a1, Nat.le_trans (Nat.le_trans G.out.2.2.size B6.out.size) a2, a3⟩⟩⟩, hn7, by omega, DX.out.ok, DX.out.rises, hs7, hf7, DX.out.upto, DX.out.bytes⟩
        have E7 : Hid (getE es k = getE X.es k) := by
          show _ = _
          rw [G.out.2.1, DX.out.e2]
          exact getE_mid DX.out.low DX.out.high
        have BB7 : Hid (Below w.heap.size w (((w7.setCell ⟨q, 0, none⟩ (.int .i64 D7)).setCell ⟨q, 1, none⟩ (.slice A7 ents'.length c7)).setCell ⟨q, 2, none⟩ (.string (strB (nextU ents j u))))) := (((G.out.2.2.trans (B7.out.mono G.out.2.2.size)).setCell (p := ⟨q, 0, none⟩) QW.out _).setCell (p := ⟨q, 1, none⟩) QW.out _).setCell (p := ⟨q, 2, none⟩) QW.out _
        have HD7 := Lib.hid hD7
        clear hb7 ho7 hn7 hs7 hf7 hD7
        refine hK.out _ _ trivial (fun hHeld => ?_)
        clear hK K
        have h0 := H7.out.cell 0
        have h1 := H7.out.cell 1
        have h2 := H7.out.cell 2
        have y0 := H7.out.frozen 0
        have y1 := H7.out.frozen 1
        have y2 := H7.out.frozen 2
        refine one_ (i := 7) _ (by kernel_rfl) rfl (fun K hK => ?_)
        go_simp
        refine hK.out _ _ trivial (fun hHeld => ?_)
        clear hK K
        refine wpAnyH_done (by kernel_rfl) ?_ _
        refine NoPanic.normal ?_
        go_wp2_with fail
        go_roundw
        case rel => exact ⟨d1, ents', X.es, nextU ents j u, M7.out, E7.out, BB7.out⟩
        case measure =>
          obtain ⟨v9, hv9, _⟩ := M7.out.mem
          rw [hv9.cell 0, HV.out.cell 0]
          have := HD.out
          simp [intOf]
          omega
      · go_simp
        refine hK.out _ _ trivial (fun hHeld => ?_)
        clear hK K
        refine two_ (i := 1) (j := 4) _ _ (by kernel_rfl) rfl rfl (fun K hK => ?_) (fun K hK => ?_)
        · go_simp
          refine hK.out _ _ trivial (fun hHeld => ?_)
          clear hK K
          refine one_ (i := 4) _ (by kernel_rfl) rfl (fun K hK => ?_)
          go_simp
          refine (LD.out _ ((Below.refl _ _).drew)).mono ?_
          rintro x w5 ⟨j, hj, rfl, hb5⟩
          dsimp only
          have B5 : Hid (Below wr.heap.size wr w5) := ((Below.refl _ _).drew).trans hb5
          have H5 := Lib.hid (HV.out.below B5.out HV.out.lt)
          have HJ := Lib.hid hj
          obtain ⟨XA, X, XC, dn⟩ := DN.out j hj
          have DX := Lib.hid dn
          have jl := hj.lt
          have le : ents[j].2 = pk X.b := by rw [dn.lead jl]; rfl
          have tx := dn.trees X (by simp)
          have KDJ := Lib.hid (KD.out w5 B5.out j jl X.b le tx.top.2.1)
          have k1 : ents[j].1 = (X.es.headD ([], [])).1 := by rw [dn.lead jl]; rfl
          rw [k1] at KDJ
          have RDX := Lib.hid (fun W (hW : Below w.heap.size w W) => RDK.out W hW d1 X (nextU ents j u) tx (by omega) dn.ok dn.rises dn.upto dn.bytes)
          obtain ⟨kx, hkx⟩ : ∃ kx, kx = (X.es.headD ([], [])).1 := ⟨_, rfl⟩
          rw [← hkx] at KDJ RDX
          clear hb5 hj le tx k1 hkx
          have LL1 : d1 + 1 + 1 - 1 = d1 + 1 := by omega
          rw [LL1] at KDJ
          clear LL1 dn
          refine hK.out _ _ trivial (fun hHeld => ?_)
          clear hK K
          refine one_ (i := 5) _ (by kernel_rfl) rfl (fun K hK => ?_)
          go_simp
          refine KDJ.out.mono ?_
          rintro x w6 ⟨rfl, hb6⟩
          dsimp only
          have B6 : Hid (Below wr.heap.size wr w6) := B5.out.trans (hb6.mono B5.out.size)
          have H6 := Lib.hid (HV.out.below B6.out HV.out.lt)
          clear hb6
          refine hK.out _ _ trivial (fun hHeld => ?_)
          clear hK K
          refine one_ (i := 6) _ (by kernel_rfl) rfl (fun K hK => ?_)
          go_simp
          refine (RDX.out _ (G.out.2.2.trans (B6.out.mono G.out.2.2.size))).mono ?_
          rintro x w7 ⟨ents', v7, rfl, ho7, hn7, hs7, hf7, hb7⟩
          dsimp only
          obtain ⟨A7, c7, hv7, _, _⟩ := ho7.any
          subst hv7
          have B7 : Hid (Below wr.heap.size wr w7) := B6.out.trans (hb7.mono B6.out.size)
          have H7 := Lib.hid (HV.out.below B7.out HV.out.lt)
          obtain ⟨D7, hD7⟩ : ∃ D : Int, D = ((d1 + 1 : Nat) : Int) := ⟨_, rfl⟩
          rw [← hD7]
          have M7 : Hid (NodeM f (((w7.setCell ⟨q, 0, none⟩ (.int .i64 D7)).setCell ⟨q, 1, none⟩ (.slice A7 ents'.length c7)).setCell ⟨q, 2, none⟩ (.string (strB (nextU ents j u)))) w.heap.size q d1 ents' X.es (nextU ents j u)) := by
            have hh : Held (((w7.setCell ⟨q, 0, none⟩ (.int .i64 D7)).setCell ⟨q, 1, none⟩ (.slice A7 ents'.length c7)).setCell ⟨q, 2, none⟩ (.string (strB (nextU ents j u)))) q 79 #[.int .i64 D7, .slice A7 ents'.length c7, .string (strB (nextU ents j u))] := ((H7.out.set_ 0 _).set_ 1 _).set_ 2 _
            have oo : Only [q] w7 (((w7.setCell ⟨q, 0, none⟩ (.int .i64 D7)).setCell ⟨q, 1, none⟩ (.slice A7 ents'.length c7)).setCell ⟨q, 2, none⟩ (.string (strB (nextU ents j u)))) := (((Only.refl [q] w7).setCell (p := ⟨q, 0, none⟩) (.inl (by simp)) _).setCell (p := ⟨q, 1, none⟩) (.inl (by simp)) _).setCell (p := ⟨q, 2, none⟩) (.inl (by simp)) _
            have ro := oo.row ho7 (fun b hb hm => Held.ne_row H7.out ho7 (by decide) b hb (by simpa using hm))
            refine ⟨⟨_, by rw [← hD7]; exact hh, ⟨ro.1, ro.2.imp id fun ⟨g, cap, cur, a1, a2, a3⟩ => ⟨g, cap, cur, a1, Nat.le_trans (Nat.le_trans G.out.2.2.size B6.out.size) a2, a3⟩⟩⟩, hn7, by omega, DX.out.ok, DX.out.rises, hs7, hf7, DX.out.upto, DX.out.bytes⟩
          have E7 : Hid (getE es k = getE X.es k) := by
            show _ = _
            rw [G.out.2.1, DX.out.e2]
            exact getE_mid DX.out.low DX.out.high
          have BB7 : Hid (Below w.heap.size w (((w7.setCell ⟨q, 0, none⟩ (.int .i64 D7)).setCell ⟨q, 1, none⟩ (.slice A7 ents'.length c7)).setCell ⟨q, 2, none⟩ (.string (strB (nextU ents j u))))) := (((G.out.2.2.trans (B7.out.mono G.out.2.2.size)).setCell (p := ⟨q, 0, none⟩) QW.out _).setCell (p := ⟨q, 1, none⟩) QW.out _).setCell (p := ⟨q, 2, none⟩) QW.out _
          have HD7 := Lib.hid hD7
          clear hb7 ho7 hn7 hs7 hf7 hD7
          refine hK.out _ _ trivial (fun hHeld => ?_)
          clear hK K
          have h0 := H7.out.cell 0
          have h1 := H7.out.cell 1
          have h2 := H7.out.cell 2
          have y0 := H7.out.frozen 0
          have y1 := H7.out.frozen 1
          have y2 := H7.out.frozen 2
          refine one_ (i := 7) _ (by kernel_rfl) rfl (fun K hK => ?_)
          go_simp
          refine hK.out _ _ trivial (fun hHeld => ?_)
          clear hK K
          refine wpAnyH_done (by kernel_rfl) ?_ _
          refine NoPanic.normal ?_
          go_wp2_with fail
          go_roundw
          case rel => exact ⟨d1, ents', X.es, nextU ents j u, M7.out, E7.out, BB7.out⟩
          case measure =>
            obtain ⟨v9, hv9, _⟩ := M7.out.mem
            rw [hv9.cell 0, HV.out.cell 0]
            have := HD.out
            simp [intOf]
            omega
        · go_simp
          refine (LD.out _ ((Below.refl _ _).drew)).mono ?_
          rintro x w5 ⟨j, hj, rfl, hb5⟩
          dsimp only
          have B5 : Hid (Below wr.heap.size wr w5) := ((Below.refl _ _).drew).trans hb5
          have H5 := Lib.hid (HV.out.below B5.out HV.out.lt)
          have HJ := Lib.hid hj
          obtain ⟨XA, X, XC, dn⟩ := DN.out j hj
          have DX := Lib.hid dn
          have jl := hj.lt
          have le : ents[j].2 = pk X.b := by rw [dn.lead jl]; rfl
          have tx := dn.trees X (by simp)
          have KDJ := Lib.hid (KD.out w5 B5.out j jl X.b le tx.top.2.1)
          have k1 : ents[j].1 = (X.es.headD ([], [])).1 := by rw [dn.lead jl]; rfl
          rw [k1] at KDJ
          have RDX := Lib.hid (fun W (hW : Below w.heap.size w W) => RDK.out W hW d1 X (nextU ents j u) tx (by omega) dn.ok dn.rises dn.upto dn.bytes)
          obtain ⟨kx, hkx⟩ : ∃ kx, kx = (X.es.headD ([], [])).1 := ⟨_, rfl⟩
          rw [← hkx] at KDJ RDX
          clear hb5 hj le tx k1 hkx
          have LL1 : d1 + 1 + 1 - 1 = d1 + 1 := by omega
          rw [LL1] at KDJ
          clear LL1 dn
          refine hK.out _ _ trivial (fun hHeld => ?_)
          clear hK K
          have g0 := H5.out.cell 0
          have g1 := H5.out.cell 1
          have g2 := H5.out.cell 2
          refine one_ (i := 1) _ (by kernel_rfl) rfl (fun K hK => ?_)
          go_simp
          refine hK.out _ _ trivial (fun hHeld => ?_)
          clear hK K
          refine one_ (i := 5) _ (by kernel_rfl) rfl (fun K hK => ?_)
          go_simp
          refine KDJ.out.mono ?_
          rintro x w6 ⟨rfl, hb6⟩
          dsimp only
          have B6 : Hid (Below wr.heap.size wr w6) := B5.out.trans (hb6.mono B5.out.size)
          have H6 := Lib.hid (HV.out.below B6.out HV.out.lt)
          clear hb6
          refine hK.out _ _ trivial (fun hHeld => ?_)
          clear hK K
          refine one_ (i := 6) _ (by kernel_rfl) rfl (fun K hK => ?_)
          go_simp
          refine (RDX.out _ (G.out.2.2.trans (B6.out.mono G.out.2.2.size))).mono ?_
          rintro x w7 ⟨ents', v7, rfl, ho7, hn7, hs7, hf7, hb7⟩
          dsimp only
          obtain ⟨A7, c7, hv7, _, _⟩ := ho7.any
          subst hv7
          have B7 : Hid (Below wr.heap.size wr w7) := B6.out.trans (hb7.mono B6.out.size)
          have H7 := Lib.hid (HV.out.below B7.out HV.out.lt)
          obtain ⟨D7, hD7⟩ : ∃ D : Int, D = ((d1 + 1 : Nat) : Int) := ⟨_, rfl⟩
          rw [← hD7]
          have M7 : Hid (NodeM f (((w7.setCell ⟨q, 0, none⟩ (.int .i64 D7)).setCell ⟨q, 1, none⟩ (.slice A7 ents'.length c7)).setCell ⟨q, 2, none⟩ (.string (strB (nextU ents j u)))) w.heap.size q d1 ents' X.es (nextU ents j u)) := by
            have hh : Held (((w7.setCell ⟨q, 0, none⟩ (.int .i64 D7)).setCell ⟨q, 1, none⟩ (.slice A7 ents'.length c7)).setCell ⟨q, 2, none⟩ (.string (strB (nextU ents j u)))) q 79 #[.int .i64 D7, .slice A7 ents'.length c7, .string (strB (nextU ents j u))] := ((H7.out.set_ 0 _).set_ 1 _).set_ 2 _
            have oo : Only [q] w7 (((w7.setCell ⟨q, 0, none⟩ (.int .i64 D7)).setCell ⟨q, 1, none⟩ (.slice A7 ents'.length c7)).setCell ⟨q, 2, none⟩ (.string (strB (nextU ents j u)))) := (((Only.refl [q] w7).setCell (p := ⟨q, 0, none⟩) (.inl (by simp)) _).setCell (p := ⟨q, 1, none⟩) (.inl (by simp)) _).setCell (p := ⟨q, 2, none⟩) (.inl (by simp)) _
            have ro := oo.row ho7 (fun b hb hm => Held.ne_row H7.out ho7 (by decide) b hb (by simpa using hm))
            refine ⟨⟨_, by rw [← hD7]; exact hh, ⟨ro.1, ro.2.imp id fun ⟨g, cap, cur, a1, a2, a3⟩ => ⟨g, cap, cur, a1, Nat.le_trans (Nat.le_trans G.out.2.2.size B6.out.size) a2, a3⟩⟩⟩, hn7, by omega, DX.out.ok, DX.out.rises, hs7, hf7, DX.out.upto, DX.out.bytes⟩
          have E7 : Hid (getE es k = getE X.es k) := by
            show _ = _
            rw [G.out.2.1, DX.out.e2]
            exact getE_mid DX.out.low DX.out.high
          have BB7 : Hid (Below w.heap.size w (((w7.setCell ⟨q, 0, none⟩ (.int .i64 D7)).setCell ⟨q, 1, none⟩ (.slice A7 ents'.length c7)).setCell ⟨q, 2, none⟩ (.string (strB (nextU ents j u))))) := (((G.out.2.2.trans (B7.out.mono G.out.2.2.size)).setCell (p := ⟨q, 0, none⟩) QW.out _).setCell (p := ⟨q, 1, none⟩) QW.out _).setCell (p := ⟨q, 2, none⟩) QW.out _
          have HD7 := Lib.hid hD7
          clear hb7 ho7 hn7 hs7 hf7 hD7
          refine hK.out _ _ trivial (fun hHeld => ?_)
          clear hK K
          have h0 := H7.out.cell 0
          have h1 := H7.out.cell 1
          have h2 := H7.out.cell 2
          have y0 := H7.out.frozen 0
          have y1 := H7.out.frozen 1
          have y2 := H7.out.frozen 2
          refine one_ (i := 7) _ (by kernel_rfl) rfl (fun K hK => ?_)
          go_simp
          refine hK.out _ _ trivial (fun hHeld => ?_)
          clear hK K
          refine wpAnyH_done (by kernel_rfl) ?_ _
          refine NoPanic.normal ?_
          go_wp2_with fail
          go_roundw
          case rel => exact ⟨d1, ents', X.es, nextU ents j u, M7.out, E7.out, BB7.out⟩
          case measure =>
            obtain ⟨v9, hv9, _⟩ := M7.out.mem
            rw [hv9.cell 0, HV.out.cell 0]
            have := HD.out
            simp [intOf]
            omega
end Go.Proofs.YtnogmgnbhcmajaaDoor
