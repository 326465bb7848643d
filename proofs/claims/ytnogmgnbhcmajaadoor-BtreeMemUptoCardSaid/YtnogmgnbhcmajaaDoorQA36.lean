/-
  btree: scan. · btree: rows of numbers of the call's own; the blocks below a spot.
-/
import Derived.Test.YtnogmgnbhcmajaaDoorQA34
namespace Go.Proofs.YtnogmgnbhcmajaaDoor
open Go.RowKit Wal

theorem kpS_sub {B : Nat} {w w' w'' : World} (h : KpS PS B w w') (hb : Below w'.heap.size w' w'') : KpS PS B w w'' := h.trans (KpS.under hb)
theorem low_kids {f : Nat → Option KB} {d : Nat} {ks : List Kid} {k : List Nat} {j : Nat} (ht : ∀ y ∈ ks, TreeIs f d y.b y.es y.bs) (hr : Rises (pairs ks)) (hl : Lead (leads ks) k j) : ∀ e ∈ pairs (ks.take j), ltB e.1 k = true := by
  have hj' : j < ks.length := by simpa [leads] using hl.lt
  have ek : ks = ks.take j ++ [ks[j]] ++ ks.drop (j + 1) := by
    rw [List.append_assoc, List.singleton_append, ← List.drop_eq_getElem_cons hj', List.take_append_drop]
  have la : (ks.take j).length = j := by rw [List.length_take]; omega
  generalize ks.take j = A at *
  generalize ks[j] = x at *
  generalize ks.drop (j + 1) = C at *
  subst ek
  subst la
  exact (kid_bounds ht hr hl).1
set_option maxRecDepth 100000 in
set_option maxHeartbeats 3200000 in
theorem scan_any (B : Nat) (w0 : World) (t p root n : Nat) (f : Nat → Option KB) (ht : TreeO w0 t p root) (hm : MemAt B w0 p n f) (k : List Nat) (hk : ∀ x ∈ k, x < 256) (most : Nat) (hm0 : 0 < most) (hmm : most ≤ 9223372036854775807) :
    ∀ (d : Nat) (w : World) (_ : KpS PS w0.heap.size w0 w) (b : Nat) (es : List En) (bs : List Nat) (lv : Nat) (fk u : List Nat) (_ : SpotOk f d b es bs lv fk u) (v : Value) (acc : List En) (_ : OwnP w w0.heap.size v acc) (_ : acc.length ≤ most) (_ : acc.length + es.length ≤ 50000),
    Calls Tryd.prog 33 #[.pointer (some ⟨t, 0, none⟩), spV b lv fk u, .string (strB k), .int .i64 (most : Nat), v] w (ScanE w0 w ((acc ++ fromE es k).take most))
  | 0, w, hw, b, es, bs, lv, fk, u, hs, v, acc, hv, ha, hl => scan_leaf B w0 t p root n f ht hm k hk most hm0 hmm w hw b es bs lv fk u hs v acc hv ha hl
  | d + 1, w, hw, b, es, bs, lv, fk, u, hs, v, acc, hv, ha, hl => by
    have IH := Lib.hid (scan_any B w0 t p root n f ht hm k hk most hm0 hmm d)
    have TO : Hid (TreeO w t p root) := hw.held ht (by decide)
    have MA := Lib.hid (hw.mem hm (by decide) (by decide) (by decide))
    have RD := Lib.hid (fun W (hW : Below w.heap.size w W) => read_at B W t p root n f (TO.out.below hW) (MA.out.under hW) hs)
    have HV := Lib.hid hv
    have HK := Lib.hid hk
    have SP := Lib.hid hs
    have K0 := Lib.hid hw
    have SW : Hid (w0.heap.size ≤ w.heap.size) := hw.size
    obtain ⟨Av, cv, rfl, hcv, _⟩ := hv.any
    have BA : Hid (∀ o, Below w.heap.size w (w.alloc o)) := fun o => (Below.refl _ _).alloc (Nat.le_refl _) o
    unfold spV at RD ⊢
    clear ht hm hw hv hk hs
    go_enter Tryd.func33, Tryd.ntmps33
    go_wp2_with fail
    refine (RD.out _ (BA.out _)).mono ?_
    rintro x w2 ⟨ents, vn, bs0, rfl, ho2, hE, _, hb2⟩
    have B2 : Hid (Below w.heap.size w w2) := (BA.out _).trans (hb2.mono (BA.out _).size)
    obtain ⟨An, cn, rfl, _, hEA⟩ := ho2.any
    have few := hE.few
    have EOK := Lib.hid (hE.nd.ok SP.out.ok)
    have ERS := Lib.hid (hE.nd.rises SP.out.rises)
    have ne := hE.some_ (by omega)
    obtain ⟨ks, hks, htr, hes, _⟩ := hE.nd
    have HKS := Lib.hid hks
    have HTR := Lib.hid htr
    have HES := Lib.hid hes
    have LKS : Hid (ks.length = ents.length) := by show _ = _; rw [hks]; unfold leads; rw [List.length_map]
    have deep := SP.out.deep
    obtain ⟨q, hq⟩ : ∃ q, q = w2.heap.size := ⟨_, rfl⟩
    obtain ⟨D, hD⟩ : ∃ D : Int, D = ((d + 1 + 1 : Nat) : Int) := ⟨_, rfl⟩
    rw [← hD]
    obtain ⟨w3, hw3⟩ : ∃ w3, w3 = w2.alloc (.cells #[.int .i64 D, .slice An ents.length cn, .string (strB u)] 79) := ⟨_, rfl⟩
    have B3 : Hid (Below w.heap.size w w3) := by rw [hw3]; exact B2.out.alloc B2.out.size _
    have N3 : Hid (Held w3 q 79 #[.int .i64 D, .slice An ents.length cn, .string (strB u)]) := by rw [hw3]; exact Held.new _ _ _ hq
    have O3 : Hid (OwnEn w3 w.heap.size (.slice An ents.length cn) ents) := by rw [hw3]; exact (ho2.below_ ((Below.refl _ _).alloc (Nat.le_refl _) _)).base_ (BA.out _).size
    have E3 : Hid (EAt w3 An ents) := by rw [hw3]; exact hEA.below ((Below.refl _ _).alloc (Nat.le_refl _) _)
    have LD := Lib.hid (lead_any w3 (d + 1 + 1) u An cn ents E3.out ERS.out (fun e he => (EOK.out e he).kb) (by omega) ne k HK.out)
    have KD := Lib.hid (fun W (h : EAt W An ents) j (hj : j < ents.length) b' hb' hb4 => kid_any W (d + 1 + 1) (by omega) (by omega) u An cn ents h (by omega) j hj b' hb' hb4)
    unfold noV at LD KD
    rw [← hD] at LD KD
    have D1 : ¬ D = 1 := by omega
    have HQ := Lib.hid hq
    have HW := Lib.hid hw3
    have HD := Lib.hid hD
    clear ho2 hE hb2 hEA hq hw3 hks htr hes hD RD ne
    go_upto_region 2 with fail
    rw [← HW.out, ← HQ.out]
    have n0 := N3.out.cell 0
    have n1 := N3.out.cell 1
    have n2 := N3.out.cell 2
    go_wp2_with fail
    refine LD.out.mono ?_
    rintro x w5 ⟨j0, hj0, rfl, hb5⟩
    have J0 := Lib.hid hj0
    have jlt := hj0.lt
    have N5 := Lib.hid (Held.below N3.out hb5 N3.out.lt)
    have O5 := Lib.hid (O3.out.below_ hb5)
    have B5 : Hid (Below w.heap.size w w5) := B3.out.trans (hb5.mono B3.out.size)
    have V5 := Lib.hid (HV.out.below_ B5.out)
    clear hb5 LD n0 n1 n2 hj0
    have R0 : Hid ((acc ++ fromE (pairs (ks.take j0)) k).take most = acc) := by
      show _ = _
      have hlow : ∀ e ∈ pairs (ks.take j0), ltB e.1 k = true := by
        have hr' := SP.out.rises
        have hl' := J0.out
        rw [HES.out] at hr'
        rw [HKS.out] at hl'
        exact low_kids HTR.out hr' hl'
      rw [fromE_low hlow, List.append_nil, List.take_of_length_le ha]
    go_wp2_with fail
    go_loopw [4, 16] (fun v4 vi wr => ∃ j : Nat, j ≤ ks.length ∧ vi = .int .i64 j ∧ (∃ A c m, v4 = .slice A m c ∧ m ≤ c ∧ m = ((acc ++ fromE (pairs (ks.take j)) k).take most).length) ∧ Hid (OwnP wr w0.heap.size v4 ((acc ++ fromE (pairs (ks.take j)) k).take most) ∧ KpS PS w0.heap.size w wr ∧ KpS PS w0.heap.size w5 wr)) (fun _ vi _ => ks.length - (intOf vi).toNat)
    case atStart => exact ⟨j0, by have := LKS.out; omega, rfl, ⟨Av, cv, acc.length, rfl, hcv, by rw [R0.out]⟩, by rw [R0.out]; exact V5.out, KpS.under B5.out, KpS.refl _ _ _⟩
    case round =>
      obtain ⟨j, hj, rfl, ⟨A4, c4, m4, rfl, hc4, hm4⟩, G⟩ := hrel
      have G1 : Hid (OwnP wr w0.heap.size (.slice A4 m4 c4) ((acc ++ fromE (pairs (ks.take j)) k).take most)) := G.out.1
      have G2 : Hid (KpS PS w0.heap.size w wr) := G.out.2.1
      have G3 : Hid (KpS PS w0.heap.size w5 wr) := G.out.2.2
      have N9 := Lib.hid (G3.out.held N5.out (by decide))
      have O9 : Hid (OwnEn wr w.heap.size (.slice An ents.length cn) ents) := G3.out.row O5.out (by decide)
      have n0 := N9.out.cell 0
      have n1 := N9.out.cell 1
      have n2 := N9.out.cell 2
      have M4 := Lib.hid hm4
      have m4le : m4 ≤ most := by rw [hm4, List.length_take]; omega
      have lks := LKS.out
      clear G hm4
      by_cases hlt : j < ks.length
      · have lk : (j : Int) < (ents.length : Int) := by omega
        by_cases hfull : m4 < most
        · have lf : (m4 : Int) < (most : Int) := by omega
          have SK := Lib.hid (kid_spot HTR.out HES.out SP.out.rises SP.out.ok (show d ≤ 200 by omega) (SP.out.ou.imp id fun h => h.2) SP.out.bytes j hlt)
          have jl : j < ents.length := by omega
          have EA9 : Hid (EAt wr An ents) := by
            obtain ⟨A', c', e, _, h⟩ := O9.out.any
            injection e with e1 _ _
            subst e1
            exact h
          have lj : ents[j] = ks[j].lead := by simp only [HKS.out, leads, List.getElem_map]
          have KDJ := Lib.hid (KD.out wr EA9.out j jl ks[j].b (by rw [lj]; rfl) (HTR.out _ (List.getElem_mem hlt)).top.2.1)
          have k1 : ents[j].1 = (ks[j].es.headD ([], [])).1 := by rw [lj]; rfl
          rw [k1, show d + 1 + 1 - 1 = d + 1 by omega] at KDJ
          rw [← HKS.out] at SK
          have TK : Hid ((((acc ++ fromE (pairs (ks.take j)) k).take most) ++ fromE ks[j].es k).take most = (acc ++ fromE (pairs (ks.take (j + 1))) k).take most) := by
            show _ = _
            rw [take_more, List.take_succ_eq_append_getElem hlt, pairs_append, fromE_append, List.append_assoc]
            simp [pairs]
          have few2 : ((acc ++ fromE (pairs (ks.take j)) k).take most).length + ks[j].es.length ≤ 50000 := by
            have l1 : (fromE (pairs (ks.take j)) k).length ≤ (pairs (ks.take j)).length := List.length_filter_le _ _
            have l2 : (pairs (ks.take j)).length + ks[j].es.length ≤ es.length := by
              rw [HES.out]
              have ek : pairs ks = pairs (ks.take j) ++ (ks[j].es ++ pairs (ks.drop (j + 1))) := by
                rw [← pairs_cons, ← pairs_append, ← List.drop_eq_getElem_cons hlt, List.take_append_drop]
              rw [ek, List.length_append, List.length_append]
              omega
            rw [List.length_take, List.length_append]
            omega
          have IHK := Lib.hid (fun W (hW : Below wr.heap.size wr W) => IH.out W (K0.out.trans (G2.out.trans (KpS.under hW))) ks[j].b ks[j].es ks[j].bs (d + 1) (ks[j].es.headD ([], [])).1 (nextU ents j u) SK.out _ _ (G1.out.below_ hW) (by rw [← M4.out]; exact m4le) few2)
          rw [TK.out] at IHK
          obtain ⟨kx, hkx⟩ : ∃ kx, kx = (ks[j].es.headD ([], [])).1 := ⟨_, rfl⟩
          rw [← hkx] at KDJ IHK
          obtain ⟨kb, hkb⟩ : ∃ kb, kb = ks[j].b := ⟨_, rfl⟩
          rw [← hkb] at KDJ IHK
          clear lj k1 hkx hkb few2
          go_wp2_with fail
          refine KDJ.out.mono ?_
          rintro x w6 ⟨rfl, hb6⟩
          have B6 := Lib.hid hb6
          clear hb6 KDJ n0 n1 n2
          go_wp2_with fail
          refine (IHK.out _ B6.out).mono ?_
          rintro x w7 ⟨v7, rfl, ho7, hk7⟩
          have K7 : Hid (KpS PS w0.heap.size w w7) := (kpS_sub G2.out B6.out).trans hk7
          have K75 : Hid (KpS PS w0.heap.size w5 w7) := (kpS_sub G3.out B6.out).trans hk7
          have O7 := Lib.hid ho7
          obtain ⟨A7, c7, hv7, hc7, _⟩ := ho7.any
          have HV7 := Lib.hid hv7
          clear ho7 hk7 hv7 IHK
          go_wp2_with fail
          go_roundw
          case rel => exact ⟨j + 1, by omega, by go_num, ⟨A7, c7, _, HV7.out, hc7, rfl⟩, O7.out, K7.out, K75.out⟩
          case measure => simp [intOf]; omega
        · have lf : ¬ (m4 : Int) < (most : Int) := by omega
          have RES : Hid ((acc ++ fromE es k).take most = (acc ++ fromE (pairs (ks.take j)) k).take most) := by
            show _ = _
            have ek : pairs ks = pairs (ks.take j) ++ pairs (ks.drop j) := by rw [← pairs_append, List.take_append_drop]
            rw [HES.out, ek, fromE_append, ← List.append_assoc]
            exact (take_full (by rw [← M4.out]; omega)).symm
          go_wp2_with fail
          go_ret
          exact ⟨_, rfl, by rw [RES.out]; exact G1.out, G2.out⟩
      · obtain rfl : j = ks.length := by omega
        have lk : ¬ ((ks.length : Nat) : Int) < (ents.length : Int) := by omega
        have RES : Hid ((acc ++ fromE es k).take most = (acc ++ fromE (pairs (ks.take ks.length)) k).take most) := by
          show _ = _
          rw [List.take_length, HES.out]
        go_wp2_with fail
        go_ret
        exact ⟨_, rfl, by rw [RES.out]; exact G1.out, G2.out⟩
end Go.Proofs.YtnogmgnbhcmajaaDoor

namespace Go.Proofs.YtnogmgnbhcmajaaDoor
open Go.RowKit Wal

def iV (x : Nat) : Value := .int .i64 (x : Int)
theorem infoN : (Tryd.prog.info? 3).map (fun i => (i.zero, i.size, i.bytes)) = some (some (.int .i64 0), 1, 8) := by kernel_rfl
/-- Numbers that lie in cells. -/
def NAt (w : World) (A : Option Addr) (bs : List Nat) : Prop := 0 < bs.length → ∃ g off, A = some ⟨g, off, none⟩ ∧ g < w.heap.size ∧ ∀ j u, (bs.map iV)[j]? = some u → w.cell? ⟨g, off + j, none⟩ = some u
def OwnN (w : World) (base : Nat) (v : Value) (bs : List Nat) : Prop := w.ownsRow base 3 1 v bs.length (bs.map iV)
abbrev IS : List TypeId := [3]
section
variable {w w' : World} {base : Nat} {v : Value} {bs : List Nat} {A : Option Addr}
theorem OwnN.nil (w : World) (base : Nat) : OwnN w base (.slice none 0 0) [] := ⟨rfl, .inl ⟨rfl, rfl⟩⟩
theorem OwnN.any (h : OwnN w base v bs) : ∃ A c, v = .slice A bs.length c ∧ bs.length ≤ c ∧ NAt w A bs := by
  rcases h.2 with ⟨rfl, h0⟩ | ⟨g, cap, cur, rfl, hg, hh, hn, hcap, hsz, htake⟩
  · exact ⟨none, 0, by rw [h0], by omega, fun hp => by omega⟩
  · refine ⟨_, cap, rfl, hn, fun _ => ⟨g, 0, rfl, (Array.getElem?_eq_some_iff.1 hh).1, fun j u hu => ?_⟩⟩
    have hj := (List.getElem?_eq_some_iff.1 hu).1
    rw [List.length_map] at hj
    rw [← htake, List.getElem?_take, if_pos (by omega)] at hu
    rw [Nat.zero_add, cell_of_row w g j cur _ _ hh, ← Array.getElem?_toList]
    exact hu
theorem OwnN.below_ (h : OwnN w base v bs) (k : Below w.heap.size w w') : OwnN w' base v bs := (KpS.under (S := []) (B := 0) k).row h (by simp)
theorem OwnN.alloc (h : OwnN w base v bs) (o : Obj) : OwnN (w.alloc o) base v bs := World.ownsRow.alloc h o
theorem OwnN.base_ {base' : Nat} (h : OwnN w base v bs) (hb : base' ≤ base) : OwnN w base' v bs :=
  ⟨h.1, h.2.imp id fun ⟨g, cap, cur, a1, a2, a3⟩ => ⟨g, cap, cur, a1, Nat.le_trans hb a2, a3⟩⟩
theorem NAt.below (h : NAt w A bs) (k : Below w.heap.size w w') : NAt w' A bs := fun hp => by
  obtain ⟨g, off, e, hl, hc⟩ := h hp
  exact ⟨g, off, e, Nat.lt_of_lt_of_le hl k.size, fun j u hu => (k.cell (p := ⟨g, off + j, none⟩) hl).trans (hc j u hu)⟩
set_option maxRecDepth 100000 in
theorem run_append_n (base : Nat) (ty : TypeId) (v : Value) (k : List Nat) (hown : OwnN w base v k) (A : Option Addr) (m c : Nat) (l : List Nat) (hl : l.length = m) (hA : NAt w A l) (hr : k.length + m ≤ 100000) (hbase : base ≤ w.heap.size) :
    ∃ v' w', (Builtin.append_ #[92, 92] ty #[v, .slice A m c]).run Tryd.prog w = .ok v' w' ∧ OwnN w' base v' (k ++ l) ∧ w.grownBy w' v.ownBlock := by
  obtain ⟨i, hi, hz, hsize, hby⟩ := info_parts infoN
  rcases A with _ | ad
  · have hm : l = [] := by
      rcases l with _ | ⟨x, l⟩
      · rfl
      · obtain ⟨g, off, h, _⟩ := hA (by simp)
        cases h
    subst hm
    obtain rfl : m = 0 := hl.symm
    refine ⟨v, w, ?_, by rw [List.append_nil]; exact hown, World.grownBy.refl w _⟩
    rcases hown.2 with ⟨rfl, _⟩ | ⟨g, cap, cur, rfl, _, _, hnc, _⟩
    · simp [Builtin.append_, run_underlying Tryd.underlying92, sizeOf, typeInfo, hi, Builtin.lenOf, Builtin.firstCells]
    · simp [Builtin.append_, run_underlying Tryd.underlying92, sizeOf, typeInfo, hi, Builtin.lenOf, Builtin.firstCells, hnc, storeCells]
  · obtain ⟨v', w', hrun, h2, h3, _, h5⟩ := run_append_own_at (P := Tryd.prog) w base 92 ty 3 i (.int .i64 0) 1 8 Tryd.underlying92 hi hz hsize hby rfl (by omega) v k.length (k.map iV) hown ad m c (l.map iV) (by simp [hl])
      (fun j u hu => by
        have hj := (List.getElem?_eq_some_iff.1 hu).1
        rw [List.length_map] at hj
        obtain ⟨g, off, e, _, hc⟩ := hA (by omega)
        cases e
        rw [WideShapes.add_plain]
        exact hc j u hu)
      (fun u hu => by obtain ⟨x, _, rfl⟩ := List.mem_map.1 hu; rfl) (by simp only [maxLen]; omega) (by omega) hbase
    exact ⟨v', w', hrun, by unfold OwnN; rw [List.length_append, List.map_append, hl]; exact h2, h3⟩
set_option maxRecDepth 100000 in
theorem wp_append_n {o : Oper} {a : Act} {K : Act → World → Prop} {Q : Exit → Act → World → Prop} (s x : Operand)
    (ho : o.op = .call { callee := .builtin .append, args := #[s, x], argTypes := #[92, 92] })
    (base : Nat) (v : Value) (k : List Nat) (hs : a.eval s = v) (hown : OwnN w base v k)
    (A : Option Addr) (m c : Nat) (l : List Nat) (hx : a.eval x = .slice A m c) (hl : l.length = m) (hA : NAt w A l) (hr : k.length + m ≤ 100000) (hbase : base ≤ w.heap.size)
    (h : ∀ v' w', OwnN w' base v' (k ++ l) → w.grownBy w' v.ownBlock → K (a.put o.dst v') w') : o.wp Tryd.prog a w K Q := by
  obtain ⟨v', w', hrun, h2, h3⟩ := run_append_n base o.type v k hown A m c l hl hA hr hbase
  unfold Oper.wp execOp
  simp only [ho, resolve, invoke, builtin, Sem.run_bind, Sem.run_pure, Result.andThen_ok, List.map_toArray, List.map_cons, List.map_nil, hs, hx, hrun]
  exact h v' w' h2 h3
theorem wpList_append_n {ops : Array Oper} {rest : List Oper} {o : Oper} {a : Act} {Q : Exit → Act → World → Prop} (hgd : o.guard = none) (s x : Operand)
    (ho : o.op = .call { callee := .builtin .append, args := #[s, x], argTypes := #[92, 92] })
    (base : Nat) (v : Value) (k : List Nat) (hs : a.eval s = v) (hown : OwnN w base v k)
    (A : Option Addr) (m c : Nat) (l : List Nat) (hx : a.eval x = .slice A m c) (hl : l.length = m) (hA : NAt w A l) (hr : k.length + m ≤ 100000) (hbase : base ≤ w.heap.size)
    (h : ∀ v' w', OwnN w' base v' (k ++ l) → w.grownBy w' v.ownBlock → wpList Tryd.prog ops Q rest (a.put o.dst v') w') : wpList Tryd.prog ops Q (o :: rest) a w :=
  wpList_plain hgd fun _ hK => wp_append_n s x ho base v k hs hown A m c l hx hl hA hr hbase fun v' w' h2 h3 => hK _ _ (h v' w' h2 h3)
/-- One number, just laid. -/
theorem n_one (w : World) (x : Nat) (b : Nat) (hb : b = w.heap.size) : NAt (w.alloc (.cells #[.int .i64 (x : Int)] 3)) (some ⟨b, 0, none⟩) [x] := fun _ =>
  ⟨b, 0, rfl, by rw [hb]; simp, fun j u hu => by
    rw [Nat.zero_add, (Held.new w 3 #[.int .i64 (x : Int)] hb).cell, ← List.getElem?_toArray] at *
    exact hu⟩
theorem n_own (w : World) (x : Nat) (b base : Nat) (hb : b = w.heap.size) (hbase : base ≤ b) : OwnN (w.alloc (.cells #[.int .i64 (x : Int)] 3)) base (.slice (some ⟨b, 0, none⟩) 1 1) [x] :=
  ⟨rfl, .inr ⟨b, 1, _, rfl, hbase, Held.new w 3 #[.int .i64 (x : Int)] hb, Nat.le_refl _, by unfold maxLen; omega, rfl, rfl⟩⟩
end
end Go.Proofs.YtnogmgnbhcmajaaDoor
