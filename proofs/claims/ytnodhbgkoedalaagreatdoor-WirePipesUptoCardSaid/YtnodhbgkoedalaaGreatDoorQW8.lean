/-
  wire: rows of strings; what all headers of a name say. · wire: the body's length; the end of the headers.
-/
import Derived.Test.YtnodhbgkoedalaaGreatDoorQW5
namespace Go.Proofs.YtnodhbgkoedalaaGreatDoor
open Go.RowKit Reply

def rowT (l : List Reply.B) : List Value := l.map fun b => .string (S b)
theorem infoT : (Tryz.prog.info? 9).map (fun i => (i.zero, i.size, i.bytes)) = some (some (.string ⟨#[]⟩), 1, 16) := by kernel_rfl
/-- Cells that hold a list of strings. -/
def TAt (w : World) (A : Option Addr) (l : List Reply.B) : Prop := 0 < l.length → ∃ g off, A = some ⟨g, off, none⟩ ∧ g < w.heap.size ∧ ∀ j u, (rowT l)[j]? = some u → w.cell? ⟨g, off + j, none⟩ = some u
def OwnT (w : World) (base : Nat) (v : Value) (l : List Reply.B) : Prop := w.ownsRow base 9 1 v l.length (rowT l)
section
variable {w w' : World} {base : Nat} {v : Value} {l : List Reply.B} {A : Option Addr}
theorem OwnT.nil (w : World) (base : Nat) : OwnT w base (.slice none 0 0) [] := ⟨rfl, .inl ⟨rfl, rfl⟩⟩
theorem OwnT.any (h : OwnT w base v l) : ∃ A c, v = .slice A l.length c ∧ l.length ≤ c ∧ TAt w A l := by
  rcases h.2 with ⟨rfl, h0⟩ | ⟨g, cap, cur, rfl, hg, hh, hn, hcap, hsz, htake⟩
  · exact ⟨none, 0, by rw [h0], by omega, fun hp => by omega⟩
  · refine ⟨_, cap, rfl, hn, fun _ => ⟨g, 0, rfl, (Array.getElem?_eq_some_iff.1 hh).1, fun j u hu => ?_⟩⟩
    have hj := (List.getElem?_eq_some_iff.1 hu).1
    unfold rowT at hj
    rw [List.length_map] at hj
    rw [← htake, List.getElem?_take, if_pos (by omega)] at hu
    rw [Nat.zero_add, cell_of_row w g j cur _ _ hh, ← Array.getElem?_toList]
    exact hu
theorem OwnT.lt (h : OwnT w base v l) : ∀ g, v.ownBlock = some g → base ≤ g ∧ g < w.heap.size := World.ownsRow.lt h
theorem OwnT.alloc (h : OwnT w base v l) (o : Obj) : OwnT (w.alloc o) base v l := World.ownsRow.alloc h o
theorem OwnT.below (h : OwnT w base v l) (k : Below w.heap.size w w') : OwnT w' base v l := by
  refine ⟨h.1, ?_⟩
  rcases h.2 with h0 | ⟨g, cap, cur, rfl, hg, hh, r⟩
  · exact .inl h0
  · exact .inr ⟨g, cap, cur, rfl, hg, (k.block g (Array.getElem?_eq_some_iff.1 hh).1).trans hh, r⟩
theorem TAt.below (h : TAt w A l) (k : Below w.heap.size w w') : TAt w' A l := fun hp => by
  obtain ⟨g, off, e, hl, hc⟩ := h hp
  exact ⟨g, off, e, Nat.lt_of_lt_of_le hl k.size, fun j u hu => (k.cell (p := ⟨g, off + j, none⟩) hl).trans (hc j u hu)⟩
theorem TAt.at_ (h : TAt w A l) {k : Nat} (hk : k < l.length) : ∃ g off, A = some ⟨g, off, none⟩ ∧ w.cell? ⟨g, off + k, none⟩ = some (.string (S (l.getD k []))) := by
  obtain ⟨g, off, e, _, hc⟩ := h (by omega)
  refine ⟨g, off, e, hc k _ ?_⟩
  unfold rowT
  rw [List.getElem?_map, List.getElem?_eq_getElem hk, List.getD_eq_getElem?_getD, List.getElem?_eq_getElem hk]
  rfl
theorem TAt.nil (w : World) (A : Option Addr) : TAt w A [] := fun h => by simp at h
theorem run_append_t (base : Nat) (ty : TypeId) (v : Value) (k : List Reply.B) (hown : OwnT w base v k) (ad : Addr) (m c : Nat) (l : List Reply.B) (hl : l.length = m) (hA : TAt w (some ad) l) (hr : k.length + m ≤ 100000) (hbase : base ≤ w.heap.size) :
    ∃ v' w', (Builtin.append_ #[40, 40] ty #[v, .slice (some ad) m c]).run Tryz.prog w = .ok v' w' ∧ OwnT w' base v' (k ++ l) ∧ w.grownBy w' v.ownBlock := by
  obtain ⟨i, hi, hz, hsize, hby⟩ := info_parts infoT
  obtain ⟨v', w', hrun, h2, h3, _, h5⟩ := run_append_own_at (P := Tryz.prog) w base 40 ty 9 i (.string ⟨#[]⟩) 1 16 Tryz.underlying40 hi hz hsize hby rfl (by omega) v k.length (rowT k) hown ad m c (rowT l) (by unfold rowT; rw [List.length_map, hl]; omega)
    (fun j u hu => by
      have hj := (List.getElem?_eq_some_iff.1 hu).1
      unfold rowT at hj
      rw [List.length_map] at hj
      obtain ⟨g, off, e, _, hc⟩ := hA (by omega)
      cases e
      rw [WideShapes.add_plain]
      exact hc j u hu)
    (fun u hu => by
      obtain ⟨b, _, rfl⟩ := List.mem_map.1 hu
      rfl) (by simp only [maxLen]; omega) (by omega) hbase
  exact ⟨v', w', hrun, by unfold OwnT; rw [List.length_append, show rowT (k ++ l) = rowT k ++ rowT l by unfold rowT; rw [List.map_append], hl]; exact h2, h3⟩
end
set_option maxRecDepth 100000 in
theorem wpList_append_t {w : World} {ops : Array Oper} {rest : List Oper} {o : Oper} {a : Act} {Q : Exit → Act → World → Prop} (hgd : o.guard = none) (s x : Operand)
    (ho : o.op = .call { callee := .builtin .append, args := #[s, x], argTypes := #[40, 40] })
    (base : Nat) (v : Value) (k : List Reply.B) (hs : a.eval s = v) (hown : OwnT w base v k)
    (ad : Addr) (m c : Nat) (l : List Reply.B) (hx : a.eval x = .slice (some ad) m c) (hl : l.length = m) (hA : TAt w (some ad) l) (hr : k.length + m ≤ 100000) (hbase : base ≤ w.heap.size)
    (h : ∀ v' w', OwnT w' base v' (k ++ l) → w.grownBy w' v.ownBlock → wpList Tryz.prog ops Q rest (a.put o.dst v') w') : wpList Tryz.prog ops Q (o :: rest) a w := by
  obtain ⟨v', w', hrun, h2, h3⟩ := run_append_t base o.type v k hown ad m c l hl hA hr hbase
  refine wpList_plain hgd fun _ hK => ?_
  unfold Oper.wp execOp
  simp only [ho, resolve, invoke, builtin, Sem.run_bind, Sem.run_pure, Result.andThen_ok, List.map_toArray, List.map_cons, List.map_nil, hs, hx, hrun]
  exact hK _ _ (h v' w' h2 h3)
theorem OwnT.grown {base : Nat} {v : Value} {l : List Reply.B} {a w w' : World} (ho : OwnT w base v l) (hb : Below base a w) (hg : w.grownBy w' v.ownBlock) (hs : base ≤ w.heap.size) : Below base a w' :=
  hb.trans ⟨hg.os, hg.tape, hg.output, hg.size, fun k hk => hg.block k (by omega) (fun e => by
    have := (ho.lt k e.symm).1
    omega)⟩
theorem text_one (w : World) (n : ByteArray) (e : TypeId) (m : Nat × Nat) (b : Nat) (hb : b = w.heap.size) : TAt (w.alloc (.cells #[.string n] e m)) (some ⟨b, 0, none⟩) [n.data.toList] := by
  subst hb
  refine fun _ => ⟨_, 0, rfl, by simp, fun j u hu => ?_⟩
  rw [Nat.zero_add, World.cell?_alloc_mark]
  unfold rowT at hu
  rw [List.map_singleton, S_of] at hu
  simpa using hu
theorem values_next {hs : List (Reply.B × Reply.B)} {k : Nat} (hk : k < hs.length) (n : Reply.B) : Wire.values (hs.take (k + 1)) n = Wire.values (hs.take k) n ++ (if (hs[k]).1 = n then [(hs[k]).2] else []) := by
  rw [List.take_add_one, List.getElem?_eq_getElem hk]
  unfold Wire.values
  simp only [Option.toList_some, List.filter_append, List.map_append]
  congr 1
  by_cases h : (hs[k]).1 = n
  · rw [if_pos h]; simp [h]
  · rw [if_neg h]; simp [h]
theorem values_le (hs : List (Reply.B × Reply.B)) (n : Reply.B) : (Wire.values hs n).length ≤ hs.length := by
  unfold Wire.values
  rw [List.length_map]
  exact List.length_filter_le _ _
section
variable {w0 w : World} {Bn p : Nat} {ty : TypeId} {z : List Value} {s : Wire.St} {A : Option Addr} {c : Nat}
set_option maxRecDepth 100000 in
set_option maxHeartbeats 8000000 in
theorem values_any (h : RdS w0 Bn w p ty z s A c) (n : Reply.B) (hc : s.q.headers.length ≤ 32) :
    Calls Tryz.prog 52 #[.pointer (some ⟨p, 0, none⟩), .string (S n)] w fun e w' => (∃ A' c', e = .returned (.slice A' (Wire.values s.q.headers n).length c') ∧ TAt w' A' (Wire.values s.q.headers n)) ∧ Below w.heap.size w w' := by
  have c6 : w.cell? ⟨p, 6, none⟩ = some (.slice A s.q.headers.length c) := h.cell 6
  have HH : Hid (HAt w A s.q.headers) := by
    obtain ⟨A', c', e, _, hA⟩ := h.row.any
    show HAt _ _ _
    injection e with e1 e2 e3
    rw [e1]
    exact hA
  obtain ⟨hs, hhs⟩ : ∃ x, x = s.q.headers := ⟨_, rfl⟩
  rw [← hhs] at c6 HH hc ⊢
  obtain ⟨ns, hns⟩ : ∃ x, x = S n := ⟨_, rfl⟩
  rw [← hns]
  have HNS := Lib.hid hns
  obtain ⟨m, hm⟩ : ∃ m, m = hs.length := ⟨_, rfl⟩
  have HM := Lib.hid hm
  rw [← hm] at c6 hc
  clear h hhs hns hm
  go_enter Tryz.func52, Tryz.ntmps52
  go_wp2
  go_loopw [5, 14] (fun v i wr => ∃ (k : Nat) (A' : Option Addr) (c' : Nat), k ≤ m ∧ i = .int .i64 k ∧ v = .slice A' (Wire.values (hs.take k) n).length c' ∧ Hid (OwnT wr w.heap.size (.slice A' (Wire.values (hs.take k) n).length c') (Wire.values (hs.take k) n)) ∧ Hid (Below w.heap.size w wr)) (fun _ i _ => m - (intOf i).toNat)
  case atStart => exact ⟨0, none, 0, by omega, rfl, rfl, OwnT.nil _ _, Below.refl _ _⟩
  case round =>
    obtain ⟨k, A', c', hk, rfl, rfl, HO, HB⟩ := hrel
    by_cases hlt : k < m
    · have hkl : Hid (k < hs.length) := by show k < _; rw [← HM.out]; exact hlt
      obtain ⟨x, hx⟩ : ∃ x, x = hs[k]'hkl.out := ⟨_, rfl⟩
      have VN := Lib.hid (values_next hkl.out n)
      rw [← hx] at VN
      obtain ⟨g, off, rfl, a0, a1⟩ := (HH.out.below HB.out).at_ hkl.out
      rw [← hx] at a0 a1
      obtain ⟨xs, hxs⟩ : ∃ y, y = S x.1 := ⟨_, rfl⟩
      obtain ⟨us, hus⟩ : ∃ y, y = S x.2 := ⟨_, rfl⟩
      have f1 : (xs.toList == ns.toList) = decide (x.1 = n) := by rw [hxs, HNS.out, S_eq]
      have HUS : Hid (us.data.toList = x.2) := by show _ = _; rw [hus]; rfl
      rw [← hxs] at a0
      rw [← hus] at a1
      have kz : (k : Int) < (m : Int) := by omega
      have VL : Hid ((Wire.values (hs.take k) n).length + 1 ≤ 100000) := by show _ ≤ _; have := values_le (hs.take k) n; rw [List.length_take] at this; omega
      have BW := Lib.hid (HB.out.alloc HB.out.size (.cells #[.string xs, .string us] 38))
      have OW := Lib.hid (HO.out.alloc (.cells #[.string xs, .string us] 38))
      clear hx hxs hus
      by_cases hn : x.1 = n
      · rw [decide_eq_true hn] at f1
        have V2 : Hid (Wire.values (hs.take (k + 1)) n = Wire.values (hs.take k) n ++ [x.2]) := by show _ = _; rw [VN.out, if_pos hn]
        clear VN hn
        have T1 : Hid (TAt ((wr.alloc (.cells #[.string xs, .string us] 38)).alloc (.cells #[.string us] 9)) (some ⟨wr.heap.size + 1, 0, none⟩) [x.2]) := by
          have := text_one (wr.alloc (.cells #[.string xs, .string us] 38)) us 9 (0, 0) (wr.heap.size + 1) (World.size_alloc _ _).symm
          rw [HUS.out] at this
          exact this
        go_wp2_with (at_builtin; refine wpList_append_t rfl (.tmp 22) (.tmp 25) rfl w.heap.size _ (Wire.values (hs.take k) n) rfl (OW.out.alloc _) ⟨wr.heap.size + 1, 0, none⟩ 1 1 [x.2] rfl rfl T1.out VL.out (by have := BW.out.size; rw [World.size_alloc]; omega) ?_; intro v8 w8 hown8 hg8; have O8 := Lib.hid hown8; have B8 := Lib.hid ((OW.out.alloc _).grown (BW.out.alloc BW.out.size _) hg8 (by have := BW.out.size; rw [World.size_alloc]; omega)); clear hown8 hg8; obtain ⟨A8, c8, rfl, _⟩ := O8.out.any)
        go_roundw
        case rel => exact ⟨k + 1, A8, c8, by omega, by go_num, by rw [V2.out, List.length_append]; rfl, by show OwnT _ _ _ _; rw [V2.out]; exact O8.out, B8⟩
        case measure => simp [intOf]; omega
      · rw [decide_eq_false hn] at f1
        have V2 : Hid (Wire.values (hs.take (k + 1)) n = Wire.values (hs.take k) n) := by show _ = _; rw [VN.out, if_neg hn, List.append_nil]
        clear VN hn
        go_wp2
        go_roundw
        case rel => exact ⟨k + 1, A', c', by omega, by go_num, by rw [V2.out], by show OwnT _ _ _ _; rw [V2.out]; exact OW.out, BW⟩
        case measure => simp [intOf]; omega
    · obtain rfl : k = m := by omega
      have TK : Hid (hs.take k = hs) := by show _ = _; rw [HM.out, List.take_length]
      obtain ⟨A9, c9, e9, _, T9⟩ := HO.out.any
      cases e9
      have T10 := Lib.hid T9
      clear T9
      rw [TK.out] at T10 ⊢
      go_wp2
      go_ret
      exact ⟨⟨_, _, rfl, T10.out⟩, HB.out⟩
end
end Go.Proofs.YtnodhbgkoedalaaGreatDoor

namespace Go.Proofs.YtnodhbgkoedalaaGreatDoor
open Go.RowKit Reply

/-- What becomes of the number that the headers tell. -/
def lenOf (s : Wire.St) (m : Nat) : Option (Nat × Reply.B) → Int × Wire.St
  | none => (400, s)
  | some (n, rest) => if 1 < m ∨ rest ≠ [] then (400, s) else if 8192 < n then (413, s) else (0, { s with size := n, step := 2 })
theorem length_of (s : Wire.St) (ls : List Reply.B) : Wire.expectLength s ls = lenOf s ls.length (Wire.number (ls.headD []) Wire.decs 10 18) := by
  unfold Wire.expectLength
  cases Wire.number (ls.headD []) Wire.decs 10 18 <;> rfl
section
variable {w0 w : World} {Bn p : Nat} {ty : TypeId} {z : List Value} {s : Wire.St} {A : Option Addr} {c : Nat}
set_option maxRecDepth 100000 in
set_option maxHeartbeats 8000000 in
theorem expectLength_any (h : RdS w0 Bn w p ty z s A c) (ls : List Reply.B) (A' : Option Addr) (c' : Nat) (hT : TAt w A' ls) (h0 : 0 < ls.length) (hm : ls.length ≤ 32) (hb : (ls.headD []).length ≤ 1073741824) :
    Calls Tryz.prog 53 #[.pointer (some ⟨p, 0, none⟩), .slice A' ls.length c'] w fun e w' => Took w0 Bn w p ty z (Wire.expectLength s ls) e w' := by
  have NU := Lib.hid (number10_any w (ls.headD []) hb)
  obtain ⟨nr, hnr⟩ : ∃ x, x = Wire.number (ls.headD []) Wire.decs 10 18 := ⟨_, rfl⟩
  have E : Hid (Wire.expectLength s ls = lenOf s ls.length nr) := by show _ = _; rw [length_of, ← hnr]
  obtain ⟨R, hR⟩ : ∃ x, x = Wire.expectLength s ls := ⟨_, rfl⟩
  rw [← hR] at E ⊢
  rw [← hnr] at NU
  obtain ⟨g, off, rfl, a0⟩ := hT.at_ h0
  rw [show ls.getD 0 [] = ls.headD [] by cases ls <;> rfl, Nat.add_zero] at a0
  obtain ⟨xs, hxs⟩ : ∃ x, x = S (ls.headD []) := ⟨_, rfl⟩
  rw [← hxs] at a0 NU
  obtain ⟨m, hmm⟩ : ∃ m, m = ls.length := ⟨_, rfl⟩
  rw [← hmm] at E h0 hm ⊢
  have mz : (m : Int) ≤ 32 := by omega
  have mp : (0 : Int) < (m : Int) := by omega
  have HRD := Lib.hid h
  have Y1 : Hid (∀ u, RdS w0 Bn u p ty z s A c → u.frozen? ⟨p, 1, none⟩ = false) := fun u k => k.frozen 1
  have X1 : Hid (∀ u, RdS w0 Bn u p ty z s A c → u.cell? ⟨p, 1, none⟩ = some (.int .i64 (s.size : Int))) := fun u k => k.cell 1
  have TH := Lib.hid (fun u (n : Nat) (k : RdS w0 Bn u p ty z s A c) => then_any (k.size_ n) 2)
  have FR : Hid (∀ (u : World) (r : Int), Below w.heap.size w u → R = (r, s) → Took w0 Bn w p ty z R (.returned (.int .i64 r)) u) := fun u r k e => by rw [e]; exact ⟨rfl, ⟨A, c, h.under k⟩, Fr.of_below h.sz k⟩
  have F2 : Hid (∀ (u : World) (n : Nat), Below w.heap.size w u → R = (0, { s with size := n, step := 2 }) → Took w0 Bn w p ty z R (.returned (.int .i64 0)) ((u.setCell ⟨p, 1, none⟩ (.int .i64 (n : Int))).setCell ⟨p, 0, none⟩ (.int .i64 (2 : Nat)))) := fun u n k e => by rw [e]; exact ⟨rfl, ⟨A, c, ((h.under k).size_ n).step_ 2⟩, ((Fr.of_below h.sz k).set_ 1 _).set_ 0 _⟩
  clear h hnr hR hT hxs hmm hb
  by_cases h1 : 1 < m
  · have f1 : decide ((1 : Int) < (m : Int)) = true := decide_eq_true (by omega)
    have G : Hid (∀ u, Below w.heap.size w u → Took w0 Bn w p ty z R (.returned (.int .i64 400)) u) := fun u k => FR.out u 400 k (by rw [E.out]; rcases nr with _ | ⟨n, r⟩ <;> first | rfl | exact if_pos (.inl h1))
    rcases nr with _ | ⟨n, r⟩
    · rw [show numV none = .tuple #[.int .u64 0, .string ⟨#[]⟩, .bool false] from rfl] at NU
      clear E FR F2 TH h1
      go_enter Tryz.func53, Tryz.ntmps53
      go_wp2_with fail
      refine NU.out.mono ?_
      rintro e w1 ⟨rfl, hb1⟩
      have B1 := Lib.hid hb1
      have R1 := Lib.hid (HRD.out.under hb1)
      have y1 := Y1.out _ R1.out
      have x1 := X1.out _ R1.out
      clear hb1 NU
      go_wp2_with fail
      go_ret
      exact G.out _ B1.out
    · rw [show numV (some (n, r)) = .tuple #[.int .u64 (n : Int), .string (S r), .bool true] from rfl] at NU
      clear E FR F2 TH h1
      go_enter Tryz.func53, Tryz.ntmps53
      go_wp2_with fail
      refine NU.out.mono ?_
      rintro e w1 ⟨rfl, hb1⟩
      have B1 := Lib.hid hb1
      have R1 := Lib.hid (HRD.out.under hb1)
      have y1 := Y1.out _ R1.out
      have x1 := X1.out _ R1.out
      clear hb1 NU
      go_wp2_with fail
      go_ret
      exact G.out _ B1.out
  · have f1 : decide ((1 : Int) < (m : Int)) = false := decide_eq_false (by omega)
    rcases nr with _ | ⟨n, r⟩
    · have G := Lib.hid (fun u k => FR.out u 400 k E.out)
      rw [show numV none = .tuple #[.int .u64 0, .string ⟨#[]⟩, .bool false] from rfl] at NU
      clear E FR F2 TH h1
      go_enter Tryz.func53, Tryz.ntmps53
      go_wp2_with fail
      refine NU.out.mono ?_
      rintro e w1 ⟨rfl, hb1⟩
      have B1 := Lib.hid hb1
      have R1 := Lib.hid (HRD.out.under hb1)
      have y1 := Y1.out _ R1.out
      have x1 := X1.out _ R1.out
      clear hb1 NU
      go_wp2_with fail
      go_ret
      exact G.out _ B1.out
    · have g1 : (S r).toList.isEmpty = decide (r = []) := S_empty r
      rw [show numV (some (n, r)) = .tuple #[.int .u64 (n : Int), .string (S r), .bool true] from rfl] at NU
      have E2 : Hid (R = if 1 < m ∨ r ≠ [] then (400, s) else if 8192 < n then (413, s) else (0, { s with size := n, step := 2 })) := E.out
      clear E
      obtain ⟨rs, hrs⟩ : ∃ x, x = S r := ⟨_, rfl⟩
      rw [← hrs] at g1 NU
      clear hrs
      by_cases hr : r = []
      · rw [decide_eq_true hr] at g1
        have E3 := Lib.hid (E2.out.trans (if_neg (fun x => x.elim h1 (fun y => y hr))))
        clear E2
        by_cases hgt : 8192 < n
        · have f2 : decide ((8192 : Int) < (n : Int)) = true := decide_eq_true (by omega)
          have f3 : (8192 : Int) < (n : Int) := by omega
          have G := Lib.hid (fun u k => FR.out u 413 k (by rw [E3.out, if_pos hgt]))
          clear E3 FR F2 TH h1 hr hgt
          go_enter Tryz.func53, Tryz.ntmps53
          go_wp2_with fail
          refine NU.out.mono ?_
          rintro e w1 ⟨rfl, hb1⟩
          have B1 := Lib.hid hb1
          have R1 := Lib.hid (HRD.out.under hb1)
          have y1 := Y1.out _ R1.out
          have x1 := X1.out _ R1.out
          clear hb1 NU
          go_wp2_with fail
          go_ret
          exact G.out _ B1.out
        · have f2 : decide ((8192 : Int) < (n : Int)) = false := decide_eq_false (by omega)
          have f3 : ¬ (8192 : Int) < (n : Int) := by omega
          have f4 : (n : Int) ≤ 8192 := by omega
          have G := Lib.hid (fun u k => F2.out u n k (by rw [E3.out, if_neg hgt]))
          clear E3 FR F2 h1 hr hgt
          go_enter Tryz.func53, Tryz.ntmps53
          go_wp2_with fail
          refine NU.out.mono ?_
          rintro e w1 ⟨rfl, hb1⟩
          have B1 := Lib.hid hb1
          have R1 := Lib.hid (HRD.out.under hb1)
          have y1 := Y1.out _ R1.out
          have x1 := X1.out _ R1.out
          clear hb1 NU
          go_wp2_with fail
          refine (TH.out _ n R1.out).mono ?_
          rintro e w' ⟨rfl, rfl⟩
          clear TH
          go_wp2_with fail
          go_ret
          exact G.out _ B1.out
      · rw [decide_eq_false hr] at g1
        have G := Lib.hid (fun u k => FR.out u 400 k (by rw [E2.out, if_pos (.inr hr)]))
        clear E2 FR F2 TH h1 hr
        go_enter Tryz.func53, Tryz.ntmps53
        go_wp2_with fail
        refine NU.out.mono ?_
        rintro e w1 ⟨rfl, hb1⟩
        have B1 := Lib.hid hb1
        have R1 := Lib.hid (HRD.out.under hb1)
        have y1 := Y1.out _ R1.out
        have x1 := X1.out _ R1.out
        clear hb1 NU
        go_wp2_with fail
        go_ret
        exact G.out _ B1.out
/-- What closes answers of these headers. -/
def ClosesC (hs : List (Reply.B × Reply.B)) : Prop := ∀ (w0 : World) (Bn : Nat) (w : World) (p : Nat) (ty : TypeId) (z : List Value) (s : Wire.St) (A : Option Addr) (c : Nat), RdS w0 Bn w p ty z s A c → s.q.headers = hs →
  Calls Tryz.prog 51 #[.pointer (some ⟨p, 0, none⟩)] w fun e w' => e = .returned (.bool (Wire.closes hs)) ∧ Below w.heap.size w w'
set_option maxRecDepth 100000 in
set_option maxHeartbeats 8000000 in
theorem endHead_any (h : RdS w0 Bn w p ty z s A c) (hc : s.q.headers.length ≤ 32) (hv : ∀ x ∈ s.q.headers, x.2.length ≤ 1073741824) (CL : ClosesC s.q.headers) :
    Calls Tryz.prog 39 #[.pointer (some ⟨p, 0, none⟩)] w fun e w' => Took w0 Bn w p ty z (Wire.endHead s) e w' := by
  have CC := Lib.hid (CL w0 Bn w p ty z s A c h rfl)
  obtain ⟨hs, hhs⟩ : ∃ x, x = s.q.headers := ⟨_, rfl⟩
  obtain ⟨b, hb⟩ : ∃ x, x = Wire.closes s.q.headers := ⟨_, rfl⟩
  obtain ⟨s1, hs1⟩ : ∃ s1 : Wire.St, s1 = { s with q := { s.q with close := b } } := ⟨_, rfl⟩
  have q1 : s1.q.headers = hs := by rw [hs1, hhs]
  have VV := Lib.hid (fun u (n : Reply.B) (k : RdS w0 Bn u p ty z s1 A c) => values_any k n (by rw [q1, hhs]; exact hc))
  rw [q1] at VV
  obtain ⟨te, hte⟩ : ∃ x, x = Wire.values hs Reply.nTE := ⟨_, rfl⟩
  obtain ⟨cl, hcl⟩ : ∃ x, x = Wire.values hs Reply.nCL := ⟨_, rfl⟩
  obtain ⟨ho, hho⟩ : ∃ x, x = Wire.values hs Wire.nHost := ⟨_, rfl⟩
  have V1 : Hid (∀ u, RdS w0 Bn u p ty z s1 A c → Calls Tryz.prog 52 #[.pointer (some ⟨p, 0, none⟩), .string ⟨#[116, 114, 97, 110, 115, 102, 101, 114, 45, 101, 110, 99, 111, 100, 105, 110, 103]⟩] u fun e w' => (∃ A' c', e = .returned (.slice A' te.length c') ∧ TAt w' A' te) ∧ Below u.heap.size u w') := fun u k => by rw [hte]; exact VV.out u Reply.nTE k
  have V2 : Hid (∀ u, RdS w0 Bn u p ty z s1 A c → Calls Tryz.prog 52 #[.pointer (some ⟨p, 0, none⟩), .string ⟨#[99, 111, 110, 116, 101, 110, 116, 45, 108, 101, 110, 103, 116, 104]⟩] u fun e w' => (∃ A' c', e = .returned (.slice A' cl.length c') ∧ TAt w' A' cl) ∧ Below u.heap.size u w') := fun u k => by rw [hcl]; exact VV.out u Reply.nCL k
  have V3 : Hid (∀ u, RdS w0 Bn u p ty z s1 A c → Calls Tryz.prog 52 #[.pointer (some ⟨p, 0, none⟩), .string ⟨#[104, 111, 115, 116]⟩] u fun e w' => (∃ A' c', e = .returned (.slice A' ho.length c') ∧ TAt w' A' ho) ∧ Below u.heap.size u w') := fun u k => by rw [hho]; exact VV.out u Wire.nHost k
  have E : Hid (Wire.endHead s = if ho.length ≠ 1 then (400, s1) else if te = [] ∧ cl = [] then (0, { s1 with step := 8 }) else if te = [] then Wire.expectLength s1 cl else if cl ≠ [] then (400, s1) else if 1 < te.length ∨ small (te.headD []) ≠ Wire.wChunked then (501, s1) else (0, { s1 with step := 3 })) := by show _ = _; unfold Wire.endHead; dsimp only; rw [← hhs, ← hte, ← hcl, ← hho, hs1, hb, hhs]
  obtain ⟨R, hR⟩ : ∃ x, x = Wire.endHead s := ⟨_, rfl⟩
  rw [← hR] at E ⊢
  rw [← hb] at CC
  have bnd : ∀ n : Reply.B, ∀ x ∈ Wire.values hs n, x.length ≤ 1073741824 := fun n x hx => by
    unfold Wire.values at hx
    obtain ⟨y, hy, rfl⟩ := List.mem_map.1 hx
    exact hv y (by rw [← hhs]; exact (List.mem_filter.1 hy).1)
  have TZ : te.length ≤ 32 := by rw [hte]; have := values_le hs Reply.nTE; rw [hhs] at this ⊢; omega
  have CZ : cl.length ≤ 32 := by rw [hcl]; have := values_le hs Reply.nCL; rw [hhs] at this ⊢; omega
  have HZ : ho.length ≤ 32 := by rw [hho]; have := values_le hs Wire.nHost; rw [hhs] at this ⊢; omega
  have TB : Hid ((te.headD []).length ≤ 1073741824) := by
    show _ ≤ _
    have := bnd Reply.nTE
    rw [← hte] at this
    cases te with
    | nil => simp
    | cons y ys => exact this y (by simp)
  have CB : Hid ((cl.headD []).length ≤ 1073741824) := by
    show _ ≤ _
    have := bnd Reply.nCL
    rw [← hcl] at this
    cases cl with
    | nil => simp
    | cons y ys => exact this y (by simp)
  have CF : Hid (∀ u, RdS w0 Bn u p ty z s A c → u.cell? ⟨p, 8, none⟩ = some (.bool s.q.close) ∧ u.frozen? ⟨p, 8, none⟩ = false) := fun u k => ⟨k.cell 8, k.frozen 8⟩
  have S1 : Hid (∀ u, RdS w0 Bn u p ty z s A c → RdS w0 Bn (u.setCell ⟨p, 8, none⟩ (.bool b)) p ty z s1 A c) := fun u k => by show RdS _ _ _ _ _ _ _ _ _; rw [hs1]; exact k.close_ b
  have SZ := Lib.hid h.sz
  have HRD := Lib.hid h
  have TH := Lib.hid (fun u (j : Nat) (k : RdS w0 Bn u p ty z s1 A c) => then_any k j)
  have EL := Lib.hid (fun u (A' : Option Addr) (c' : Nat) (k : RdS w0 Bn u p ty z s1 A c) (t : TAt u A' cl) (q : 0 < cl.length) => expectLength_any k cl A' c' t q CZ CB.out)
  have FR : Hid (∀ (u : World) (r : Int), RdS w0 Bn u p ty z s1 A c → Fr Bn p w u → R = (r, s1) → Took w0 Bn w p ty z R (.returned (.int .i64 r)) u) := fun u r k f e => by rw [e]; exact ⟨rfl, ⟨A, c, k⟩, f⟩
  have FT : Hid (∀ (u : World) (j : Nat), RdS w0 Bn u p ty z s1 A c → Fr Bn p w u → R = (0, { s1 with step := j }) → Took w0 Bn w p ty z R (.returned (.int .i64 0)) (u.setCell ⟨p, 0, none⟩ (.int .i64 (j : Int)))) := fun u j k f e => by rw [e]; exact ⟨rfl, ⟨A, c, k.step_ j⟩, f.set_ 0 _⟩
  have FS := Lib.hid (fun u (j : Nat) => fsmall_any u (te.headD []) (by have := TB.out; omega))
  clear h CL hb hs1 q1 VV hte hcl hho hR bnd hc hv hhs
  obtain ⟨n1, hn1⟩ : ∃ n, n = te.length := ⟨_, rfl⟩
  obtain ⟨n2, hn2⟩ : ∃ n, n = cl.length := ⟨_, rfl⟩
  obtain ⟨n3, hn3⟩ : ∃ n, n = ho.length := ⟨_, rfl⟩
  have N2 := Lib.hid hn2
  have N1 := Lib.hid hn1
  have e1 : te = [] ↔ n1 = 0 := by rw [hn1]; exact List.length_eq_zero_iff.symm
  have e2 : cl = [] ↔ n2 = 0 := by rw [hn2]; exact List.length_eq_zero_iff.symm
  rw [← hn1] at V1 TZ
  rw [← hn2] at V2 CZ EL
  rw [← hn3] at V3 HZ E
  rw [← hn1] at E
  clear hn1 hn2 hn3
  by_cases h3 : n3 = 1
  · have f3 : ((n3 : Int) == 1) = true := by rw [h3]; rfl
    have f3' : ((n3 : Int) != 1) = false := by rw [h3]; rfl
    have E2 := Lib.hid (E.out.trans (if_neg (by omega)))
    clear E
    by_cases h1 : n1 = 0
    · have f1 : ((n1 : Int) == 0) = true := by rw [h1]; rfl
      by_cases h2 : n2 = 0
      · have f2 : ((n2 : Int) == 0) = true := by rw [h2]; rfl
        have G := Lib.hid (fun u k f => FT.out u 8 k f (by rw [E2.out, if_pos ⟨e1.2 h1, e2.2 h2⟩]))
        clear E2 FR FT EL FS e1 e2 h3 h1 h2
        go_enter Tryz.func39, Tryz.ntmps39
        go_wp2_with fail
        refine CC.out.mono ?_
        rintro e w1 ⟨rfl, hb1⟩
        have R1 := Lib.hid (HRD.out.under hb1)
        have D1 := Lib.hid (Fr.of_below (p := p) SZ.out hb1)
        have x8 := (CF.out _ R1.out).1
        have y8 := (CF.out _ R1.out).2
        have R2 := Lib.hid (S1.out _ R1.out)
        have D2 := Lib.hid (D1.out.set_ 8 (.bool b))
        clear hb1 CC
        go_wp2_with fail
        refine (V1.out _ R2.out).mono ?_
        rintro e w3 ⟨⟨A3, c3, rfl, t3⟩, hb3⟩
        have R3 := Lib.hid (R2.out.under hb3)
        have D3 := Lib.hid (D2.out.under SZ.out hb3)
        have T3 := Lib.hid t3
        clear hb3 V1 t3 x8 y8
        go_wp2_with fail
        refine (V2.out _ R3.out).mono ?_
        rintro e w4 ⟨⟨A4, c4, rfl, t4⟩, hb4⟩
        have R4 := Lib.hid (R3.out.under hb4)
        have D4 := Lib.hid (D3.out.under SZ.out hb4)
        have T4 := Lib.hid t4
        have T34 := Lib.hid (T3.out.below hb4)
        clear hb4 V2 t4
        go_wp2_with fail
        refine (V3.out _ R4.out).mono ?_
        rintro e w5 ⟨⟨A5, c5, rfl, t5⟩, hb5⟩
        have R5 := Lib.hid (R4.out.under hb5)
        have D5 := Lib.hid (D4.out.under SZ.out hb5)
        have T35 := Lib.hid (T34.out.below hb5)
        have T45 := Lib.hid (T4.out.below hb5)
        clear hb5 V3 t5
        go_wp2_with fail
        refine (TH.out _ 8 R5.out).mono ?_
        rintro e w' ⟨rfl, rfl⟩
        clear TH
        go_wp2_with fail
        go_ret
        exact G.out _ R5.out D5.out
      · have f2 : ((n2 : Int) == 0) = false := by rw [beq_eq_false_iff_ne]; omega
        have E3 : Hid (R = Wire.expectLength s1 cl) := by show _ = _; rw [E2.out, if_neg (fun x => h2 (e2.1 x.2)), if_pos (e1.2 h1)]
        have p2 : 0 < n2 := by omega
        clear E2 FR FT FS e1 e2 h3 h1 h2
        go_enter Tryz.func39, Tryz.ntmps39
        go_wp2_with fail
        refine CC.out.mono ?_
        rintro e w1 ⟨rfl, hb1⟩
        have R1 := Lib.hid (HRD.out.under hb1)
        have D1 := Lib.hid (Fr.of_below (p := p) SZ.out hb1)
        have x8 := (CF.out _ R1.out).1
        have y8 := (CF.out _ R1.out).2
        have R2 := Lib.hid (S1.out _ R1.out)
        have D2 := Lib.hid (D1.out.set_ 8 (.bool b))
        clear hb1 CC
        go_wp2_with fail
        refine (V1.out _ R2.out).mono ?_
        rintro e w3 ⟨⟨A3, c3, rfl, t3⟩, hb3⟩
        have R3 := Lib.hid (R2.out.under hb3)
        have D3 := Lib.hid (D2.out.under SZ.out hb3)
        have T3 := Lib.hid t3
        clear hb3 V1 t3 x8 y8
        go_wp2_with fail
        refine (V2.out _ R3.out).mono ?_
        rintro e w4 ⟨⟨A4, c4, rfl, t4⟩, hb4⟩
        have R4 := Lib.hid (R3.out.under hb4)
        have D4 := Lib.hid (D3.out.under SZ.out hb4)
        have T4 := Lib.hid t4
        have T34 := Lib.hid (T3.out.below hb4)
        clear hb4 V2 t4
        go_wp2_with fail
        refine (V3.out _ R4.out).mono ?_
        rintro e w5 ⟨⟨A5, c5, rfl, t5⟩, hb5⟩
        have R5 := Lib.hid (R4.out.under hb5)
        have D5 := Lib.hid (D4.out.under SZ.out hb5)
        have T35 := Lib.hid (T34.out.below hb5)
        have T45 := Lib.hid (T4.out.below hb5)
        clear hb5 V3 t5
        go_wp2_with fail
        refine (EL.out _ _ _ R5.out T45.out p2).mono ?_
        rintro e w6 ⟨rfl, h61, h62⟩
        have G : Hid (Took w0 Bn w p ty z R (.returned (.int .i64 (Wire.expectLength s1 cl).1)) w6) := by show Took _ _ _ _ _ _ _ _ _; rw [E3.out]; exact ⟨rfl, h61, D5.out.trans h62⟩
        clear EL h61 h62
        go_wp2_with fail
        go_ret
        exact G.out
    · have f1 : ((n1 : Int) == 0) = false := by rw [beq_eq_false_iff_ne]; omega
      have p1 : (0 : Int) < (n1 : Int) := by omega
      have E3 := Lib.hid (E2.out.trans ((if_neg (fun x => h1 (e1.1 x.1))).trans (if_neg (fun x => h1 (e1.1 x)))))
      clear E2
      by_cases h2 : n2 = 0
      · have f2 : ((n2 : Int) == 0) = true := by rw [h2]; rfl
        have f2' : decide (0 < n2) = false := decide_eq_false (by omega)
        have f2n : ¬ 0 < n2 := by omega
        have E4 := Lib.hid (E3.out.trans (if_neg (fun x => x (e2.2 h2))))
        clear E3
        by_cases h4 : 1 < n1
        · have f4 : decide ((1 : Int) < (n1 : Int)) = true := decide_eq_true (by omega)
          have G := Lib.hid (fun u k f => FR.out u 501 k f (by rw [E4.out, if_pos (.inl h4)]))
          clear E4 FR FT EL FS TH e1 e2 h3 h1 h2 h4
          go_enter Tryz.func39, Tryz.ntmps39
          go_wp2_with fail
          refine CC.out.mono ?_
          rintro e w1 ⟨rfl, hb1⟩
          have R1 := Lib.hid (HRD.out.under hb1)
          have D1 := Lib.hid (Fr.of_below (p := p) SZ.out hb1)
          have x8 := (CF.out _ R1.out).1
          have y8 := (CF.out _ R1.out).2
          have R2 := Lib.hid (S1.out _ R1.out)
          have D2 := Lib.hid (D1.out.set_ 8 (.bool b))
          clear hb1 CC
          go_wp2_with fail
          refine (V1.out _ R2.out).mono ?_
          rintro e w3 ⟨⟨A3, c3, rfl, t3⟩, hb3⟩
          have R3 := Lib.hid (R2.out.under hb3)
          have D3 := Lib.hid (D2.out.under SZ.out hb3)
          have T3 := Lib.hid t3
          clear hb3 V1 t3 x8 y8
          go_wp2_with fail
          refine (V2.out _ R3.out).mono ?_
          rintro e w4 ⟨⟨A4, c4, rfl, t4⟩, hb4⟩
          have R4 := Lib.hid (R3.out.under hb4)
          have D4 := Lib.hid (D3.out.under SZ.out hb4)
          have T4 := Lib.hid t4
          have T34 := Lib.hid (T3.out.below hb4)
          clear hb4 V2 t4
          go_wp2_with fail
          refine (V3.out _ R4.out).mono ?_
          rintro e w5 ⟨⟨A5, c5, rfl, t5⟩, hb5⟩
          have R5 := Lib.hid (R4.out.under hb5)
          have D5 := Lib.hid (D4.out.under SZ.out hb5)
          have T35 := Lib.hid (T34.out.below hb5)
          have T45 := Lib.hid (T4.out.below hb5)
          clear hb5 V3 t5
          go_wp2_with fail
          go_ret
          exact G.out _ R5.out D5.out
        · have f4 : decide ((1 : Int) < (n1 : Int)) = false := decide_eq_false (by omega)
          have g1 : ((S (small (te.headD []))).toList == [99, 104, 117, 110, 107, 101, 100]) = decide (small (te.headD []) = Wire.wChunked) := by rw [S_toList]; exact eqd _ _
          have AT : Hid (∀ u A', TAt u A' te → ∃ g off, A' = some ⟨g, off, none⟩ ∧ u.cell? ⟨g, off, none⟩ = some (.string (S (te.headD [])))) := fun u A' t => by
            obtain ⟨g, off, e, hc⟩ := t.at_ (k := 0) (by rw [← N1.out]; omega)
            exact ⟨g, off, e, by rw [show te.getD 0 [] = te.headD [] by cases te <;> rfl] at hc; exact hc⟩
          obtain ⟨xs, hxs⟩ : ∃ x, x = S (te.headD []) := ⟨_, rfl⟩
          obtain ⟨us, hus⟩ : ∃ x, x = S (small (te.headD [])) := ⟨_, rfl⟩
          rw [← hxs] at AT FS
          rw [← hus] at FS g1
          clear hxs hus
          by_cases h5 : small (te.headD []) = Wire.wChunked
          · rw [decide_eq_true h5] at g1
            have G := Lib.hid (fun u k f => FT.out u 3 k f (by rw [E4.out, if_neg (fun x => x.elim h4 (fun y => y h5))]))
            clear E4 FR FT EL e1 e2 h3 h1 h2 h4 h5
            go_enter Tryz.func39, Tryz.ntmps39
            go_wp2_with fail
            refine CC.out.mono ?_
            rintro e w1 ⟨rfl, hb1⟩
            have R1 := Lib.hid (HRD.out.under hb1)
            have D1 := Lib.hid (Fr.of_below (p := p) SZ.out hb1)
            have x8 := (CF.out _ R1.out).1
            have y8 := (CF.out _ R1.out).2
            have R2 := Lib.hid (S1.out _ R1.out)
            have D2 := Lib.hid (D1.out.set_ 8 (.bool b))
            clear hb1 CC
            go_wp2_with fail
            refine (V1.out _ R2.out).mono ?_
            rintro e w3 ⟨⟨A3, c3, rfl, t3⟩, hb3⟩
            have R3 := Lib.hid (R2.out.under hb3)
            have D3 := Lib.hid (D2.out.under SZ.out hb3)
            have T3 := Lib.hid t3
            clear hb3 V1 t3 x8 y8
            go_wp2_with fail
            refine (V2.out _ R3.out).mono ?_
            rintro e w4 ⟨⟨A4, c4, rfl, t4⟩, hb4⟩
            have R4 := Lib.hid (R3.out.under hb4)
            have D4 := Lib.hid (D3.out.under SZ.out hb4)
            have T4 := Lib.hid t4
            have T34 := Lib.hid (T3.out.below hb4)
            clear hb4 V2 t4
            go_wp2_with fail
            refine (V3.out _ R4.out).mono ?_
            rintro e w5 ⟨⟨A5, c5, rfl, t5⟩, hb5⟩
            have R5 := Lib.hid (R4.out.under hb5)
            have D5 := Lib.hid (D4.out.under SZ.out hb5)
            have T35 := Lib.hid (T34.out.below hb5)
            have T45 := Lib.hid (T4.out.below hb5)
            clear hb5 V3 t5
            obtain ⟨g9, o9, e9, a9⟩ := AT.out _ _ T35.out
            subst e9
            go_wp2_with fail
            refine (FS.out _ 0).mono ?_
            rintro e w6 ⟨rfl, hb6⟩
            have R6 := Lib.hid (R5.out.under hb6)
            have D6 := Lib.hid (D5.out.under SZ.out hb6)
            clear hb6 FS
            go_wp2_with fail
            refine (TH.out _ 3 R6.out).mono ?_
            rintro e w' ⟨rfl, rfl⟩
            clear TH
            go_wp2_with fail
            go_ret
            exact G.out _ R6.out D6.out
          · rw [decide_eq_false h5] at g1
            have G := Lib.hid (fun u k f => FR.out u 501 k f (by rw [E4.out, if_pos (.inr h5)]))
            clear E4 FR FT EL TH e1 e2 h3 h1 h2 h4 h5
            go_enter Tryz.func39, Tryz.ntmps39
            go_wp2_with fail
            refine CC.out.mono ?_
            rintro e w1 ⟨rfl, hb1⟩
            have R1 := Lib.hid (HRD.out.under hb1)
            have D1 := Lib.hid (Fr.of_below (p := p) SZ.out hb1)
            have x8 := (CF.out _ R1.out).1
            have y8 := (CF.out _ R1.out).2
            have R2 := Lib.hid (S1.out _ R1.out)
            have D2 := Lib.hid (D1.out.set_ 8 (.bool b))
            clear hb1 CC
            go_wp2_with fail
            refine (V1.out _ R2.out).mono ?_
            rintro e w3 ⟨⟨A3, c3, rfl, t3⟩, hb3⟩
            have R3 := Lib.hid (R2.out.under hb3)
            have D3 := Lib.hid (D2.out.under SZ.out hb3)
            have T3 := Lib.hid t3
            clear hb3 V1 t3 x8 y8
            go_wp2_with fail
            refine (V2.out _ R3.out).mono ?_
            rintro e w4 ⟨⟨A4, c4, rfl, t4⟩, hb4⟩
            have R4 := Lib.hid (R3.out.under hb4)
            have D4 := Lib.hid (D3.out.under SZ.out hb4)
            have T4 := Lib.hid t4
            have T34 := Lib.hid (T3.out.below hb4)
            clear hb4 V2 t4
            go_wp2_with fail
            refine (V3.out _ R4.out).mono ?_
            rintro e w5 ⟨⟨A5, c5, rfl, t5⟩, hb5⟩
            have R5 := Lib.hid (R4.out.under hb5)
            have D5 := Lib.hid (D4.out.under SZ.out hb5)
            have T35 := Lib.hid (T34.out.below hb5)
            have T45 := Lib.hid (T4.out.below hb5)
            clear hb5 V3 t5
            obtain ⟨g9, o9, e9, a9⟩ := AT.out _ _ T35.out
            subst e9
            go_wp2_with fail
            refine (FS.out _ 0).mono ?_
            rintro e w6 ⟨rfl, hb6⟩
            have R6 := Lib.hid (R5.out.under hb6)
            have D6 := Lib.hid (D5.out.under SZ.out hb6)
            clear hb6 FS
            go_wp2_with fail
            go_ret
            exact G.out _ R6.out D6.out
      · have f2 : ((n2 : Int) == 0) = false := by rw [beq_eq_false_iff_ne]; omega
        have f2' : decide (0 < n2) = true := decide_eq_true (by omega)
        have f2n : 0 < n2 := by omega
        have G := Lib.hid (fun u k f => FR.out u 400 k f (by rw [E3.out, if_pos (fun x => h2 (e2.1 x))]))
        clear E3 FR FT EL FS TH e1 e2 h3 h1 h2
        go_enter Tryz.func39, Tryz.ntmps39
        go_wp2_with fail
        refine CC.out.mono ?_
        rintro e w1 ⟨rfl, hb1⟩
        have R1 := Lib.hid (HRD.out.under hb1)
        have D1 := Lib.hid (Fr.of_below (p := p) SZ.out hb1)
        have x8 := (CF.out _ R1.out).1
        have y8 := (CF.out _ R1.out).2
        have R2 := Lib.hid (S1.out _ R1.out)
        have D2 := Lib.hid (D1.out.set_ 8 (.bool b))
        clear hb1 CC
        go_wp2_with fail
        refine (V1.out _ R2.out).mono ?_
        rintro e w3 ⟨⟨A3, c3, rfl, t3⟩, hb3⟩
        have R3 := Lib.hid (R2.out.under hb3)
        have D3 := Lib.hid (D2.out.under SZ.out hb3)
        have T3 := Lib.hid t3
        clear hb3 V1 t3 x8 y8
        go_wp2_with fail
        refine (V2.out _ R3.out).mono ?_
        rintro e w4 ⟨⟨A4, c4, rfl, t4⟩, hb4⟩
        have R4 := Lib.hid (R3.out.under hb4)
        have D4 := Lib.hid (D3.out.under SZ.out hb4)
        have T4 := Lib.hid t4
        have T34 := Lib.hid (T3.out.below hb4)
        clear hb4 V2 t4
        go_wp2_with fail
        refine (V3.out _ R4.out).mono ?_
        rintro e w5 ⟨⟨A5, c5, rfl, t5⟩, hb5⟩
        have R5 := Lib.hid (R4.out.under hb5)
        have D5 := Lib.hid (D4.out.under SZ.out hb5)
        have T35 := Lib.hid (T34.out.below hb5)
        have T45 := Lib.hid (T4.out.below hb5)
        clear hb5 V3 t5
        go_wp2_with fail
        go_ret
        exact G.out _ R5.out D5.out
  · have f3 : ((n3 : Int) == 1) = false := by rw [beq_eq_false_iff_ne]; omega
    have f3' : ((n3 : Int) != 1) = true := by rw [bne_iff_ne]; omega
    have G := Lib.hid (fun u k f => FR.out u 400 k f (by rw [E.out, if_pos h3]))
    clear E FR FT EL FS TH e1 e2 h3
    go_enter Tryz.func39, Tryz.ntmps39
    go_wp2_with fail
    refine CC.out.mono ?_
    rintro e w1 ⟨rfl, hb1⟩
    have R1 := Lib.hid (HRD.out.under hb1)
    have D1 := Lib.hid (Fr.of_below (p := p) SZ.out hb1)
    have x8 := (CF.out _ R1.out).1
    have y8 := (CF.out _ R1.out).2
    have R2 := Lib.hid (S1.out _ R1.out)
    have D2 := Lib.hid (D1.out.set_ 8 (.bool b))
    clear hb1 CC
    go_wp2_with fail
    refine (V1.out _ R2.out).mono ?_
    rintro e w3 ⟨⟨A3, c3, rfl, t3⟩, hb3⟩
    have R3 := Lib.hid (R2.out.under hb3)
    have D3 := Lib.hid (D2.out.under SZ.out hb3)
    have T3 := Lib.hid t3
    clear hb3 V1 t3 x8 y8
    go_wp2_with fail
    refine (V2.out _ R3.out).mono ?_
    rintro e w4 ⟨⟨A4, c4, rfl, t4⟩, hb4⟩
    have R4 := Lib.hid (R3.out.under hb4)
    have D4 := Lib.hid (D3.out.under SZ.out hb4)
    have T4 := Lib.hid t4
    have T34 := Lib.hid (T3.out.below hb4)
    clear hb4 V2 t4
    go_wp2_with fail
    refine (V3.out _ R4.out).mono ?_
    rintro e w5 ⟨⟨A5, c5, rfl, t5⟩, hb5⟩
    have R5 := Lib.hid (R4.out.under hb5)
    have D5 := Lib.hid (D4.out.under SZ.out hb5)
    have T35 := Lib.hid (T34.out.below hb5)
    have T45 := Lib.hid (T4.out.below hb5)
    clear hb5 V3 t5
    go_wp2_with fail
    go_ret
    exact G.out _ R5.out D5.out
end
end Go.Proofs.YtnodhbgkoedalaaGreatDoor
