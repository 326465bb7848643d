/-
  btree: a node read off its block. · btree: a tree in memory; its top; a node read through the store. · btree: what turns, told by types; the way down to a key, in plain words.
-/
import Derived.Test.YtnogmgnbhcmajaaDoorQA28
import Derived.Test.YtnogmgnbhcmajaaDoorQBase
namespace Go.Proofs.YtnogmgnbhcmajaaDoor
open Go.RowKit Wal

set_option maxRecDepth 100000 in
theorem trimLeft_none (w : World) : Calls Tryd.prog 75 #[.string (strB []), .int .u8 0] w fun x w' => x = .returned (.string (strB [])) ∧ w = w' := by
  rw [strB_nil]
  go_enter Tryd.func75, Tryd.ntmps75
  go_wp2_with fail
  go_loop [0] (fun v => v = .string ⟨#[]⟩) (fun _ => 0)
  case atStart => rfl
  case round =>
    subst hrel
    go_wp2_with fail
    go_ret
    exact ⟨rfl, rfl⟩
set_option maxRecDepth 100000 in
set_option maxHeartbeats 800000 in
theorem trim_any (w : World) (k : Nat) (hk : k ≤ 100000) :
    Calls Tryd.prog 66 #[.string (strB (List.replicate k 0)), .string ⟨#[0]⟩] w fun x w' => x = .returned (.string (strB [])) ∧ Below w.heap.size w w' := by
  have TR := Lib.hid (fun W => trimRight_any W k hk)
  have TL := Lib.hid trimLeft_none
  have FD : Hid (∀ q, Below w.heap.size w (w.drewN q)) := fun q => ⟨rfl, rfl, rfl, Nat.le_refl _, fun _ _ => rfl⟩
  rcases Nat.eq_zero_or_pos k with rfl | h0
  · have e : List.replicate 0 0 = ([] : List Nat) := rfl
    rw [e, strB_nil] at *
    go_enter Tryd.func66, Tryd.ntmps66
    go_wp2_with fail
    go_ret
    exact ⟨rfl, Below.refl _ _⟩
  · have ne : (strB (List.replicate k 0)).toList.isEmpty = false := strB_some (by rw [List.length_replicate]; exact h0)
    generalize strB (List.replicate k 0) = s at *
    go_enter Tryd.func66, Tryd.ntmps66
    go_upto_region 4 with fail
    go_quiet (first | (go_at_call 76; exact Calls.quiet_of_same ((TR.out _).mono fun _ _ h => ⟨h.1, h.2.symm⟩)) | (go_at_call 75; exact Calls.quiet_of_same ((TL.out _).mono fun _ _ h => ⟨h.1, h.2.symm⟩)))
    go_wp2_with fail
    go_ret
    exact ⟨rfl, FD.out _⟩
theorem Bts.sub_ {w : World} {g o n : Nat} {l : List Nat} (h : Bts w (some ⟨g, o, none⟩) n l) (i m : Nat) (hm : i + m ≤ n) : Bts w (some ⟨g, o + i, none⟩) m ((l.drop i).take m) := by
  refine ⟨by rw [List.length_take, List.length_drop, h.1]; omega, fun x hx => h.2.1 x (List.mem_of_mem_drop (List.mem_of_mem_take hx)), fun hp => ?_⟩
  obtain ⟨b, off, e, hl, hc⟩ := h.2.2 (by omega)
  cases e
  refine ⟨g, o + i, rfl, hl, fun j hj => ?_⟩
  rw [Nat.add_assoc, hc _ (by omega)]
  simp only [List.getD_eq_getElem?_getD, List.getElem?_take, if_pos hj, List.getElem?_drop]
theorem few_ents {d : Nat} {es : List En} (ho : ∀ e ∈ es, EntOk d e) : es.length * 3 ≤ totalE es := by
  induction es with
  | nil => exact Nat.zero_le _
  | cons e r ih =>
    have h1 := ih (fun x hx => ho x (by simp [hx]))
    have h2 := (ho e (by simp)).k1
    rw [totalE_cons, List.length_cons]
    have h3 : 3 ≤ sizeE e := by unfold sizeE; omega
    omega
/-- What is left of a block's text behind k entries. -/
def leftB (es : List En) (k : Nat) : List Nat := (es.drop k).flatMap encE ++ List.replicate (511 - totalE es) 0
theorem leftB_succ (es : List En) (k : Nat) (h : k < es.length) : leftB es k = encT es[k].1 ++ (encT es[k].2 ++ leftB es (k + 1)) := by
  unfold leftB
  rw [List.drop_eq_getElem_cons h, List.flatMap_cons]
  simp [encE]
theorem leftB_bytes {es : List En} (ho : ∀ e ∈ es, Small e) (k : Nat) : ∀ x ∈ leftB es k, x < 256 := fun x hx => by
  rcases List.mem_append.1 hx with hx | hx
  · obtain ⟨e, he, hx⟩ := List.mem_flatMap.1 hx
    exact encE_bytes (ho e (List.mem_of_mem_drop he)) x hx
  · exact zeros_bytes _ x hx
theorem leftB_length (es : List En) (k : Nat) (hf : totalE es ≤ 511) : (leftB es k).length ≤ 511 := by
  unfold leftB
  rw [List.length_append, flat_length, List.length_replicate]
  have : totalE (es.take k) + totalE (es.drop k) = totalE es := by rw [← totalE_append, List.take_append_drop]
  omega
theorem leftB_zero (level : Nat) (es : List En) (hf : totalE es ≤ 511) : (pad (encN level es)).drop 1 = leftB es 0 := by
  unfold pad leftB encN
  rw [List.cons_append, List.drop_succ_cons, List.drop_zero, List.drop_zero, List.length_cons, flat_length]
  congr 2
  omega
theorem OwnEn.below_ {w w' : World} {base : Nat} {v : Value} {l : List En} (h : OwnEn w base v l) (k : Below w.heap.size w w') : OwnEn w' base v l := h.kp (Kp.under (B := 0) k)
theorem res_cellB {P : Program} {f : Func} (tm : Array Value) (w : World) (i j T : Nat) (x v : Value) (p : Addr) (hf : f.results = #[.cell j T, .tmp i]) (h2 : tm.getD i undef = x) (h3 : tm.getD j undef = .pointer (some p)) (lv : (loadVar T p).run P w = .ok v w) :
    (results f tm).run P w = .ok (.tuple #[v, x]) w := by
  unfold results
  rw [hf]
  rw [Array.getD_eq_getD_getElem?] at h2 h3
  simp [h2, h3, asAddr, lv]
set_option maxRecDepth 100000 in
set_option maxHeartbeats 3200000 in
theorem unpack_any (w : World) (d : Nat) (hd : d ≤ 200) (g c : Nat) (es : List En) (hb : Bts w (some ⟨g, 0, none⟩) 512 (pad (encN (d + 1) es))) (hc : 512 ≤ c) (ho : ∀ e ∈ es, EntOk d e) (hr : Rises es) (hf : totalE es ≤ 511) (hne : es ≠ []) (h2 : 0 < d → 2 ≤ es.length) :
    Calls Tryd.prog 55 #[.slice (some ⟨g, 0, none⟩) 512 c] w fun x w' => ∃ v, x = .returned (.tuple #[.agg #[.int .i64 ((d + 1 : Nat) : Int), v, .string ⟨#[]⟩], .bool true]) ∧ OwnEn w' w.heap.size v es ∧ Below w.heap.size w w' := by
  have few := few_ents ho
  have sm : ∀ e ∈ es, Small e := fun e he => (ho e he).small
  have SM := Lib.hid sm
  have HO := Lib.hid ho
  have SND := Lib.hid (fun W A c' (h : EAt W A es) => isSound_any W d (by omega) A c' [] es h ho hr (by omega) hne h2)
  obtain ⟨b', off', eb, hlt, hcell⟩ := hb.2.2 (by omega)
  cases eb
  have c0 : w.cell? ⟨g, 0, none⟩ = some (.int .u8 ((d + 1 : Nat) : Int)) := by
    have := hcell 0 (by omega)
    rw [this]
    rfl
  have hs1 := hb.sub_ 1 511 (by omega)
  rw [leftB_zero (d + 1) es hf, List.take_of_length_le (leftB_length es 0 hf), Nat.zero_add] at hs1
  have HS1 := Lib.hid hs1
  have ZT := Lib.hid (fun W => trim_any W (511 - totalE es) (by omega))
  have zb := zeros_bytes (511 - totalE es)
  have wl : IntKind.i64.wrap ((d + 1 : Nat) : Int) = ((d + 1 : Nat) : Int) := by rw [IntKind.wrap_i64]; omega
  obtain ⟨D, hD⟩ : ∃ D : Int, D = ((d + 1 : Nat) : Int) := ⟨_, rfl⟩
  unfold noV at SND
  rw [← hD] at SND c0 wl ⊢
  have LN : Hid (∀ k (hk : k < es.length), leftB es k = encT es[k].1 ++ (encT es[k].2 ++ leftB es (k + 1))) := fun k hk => leftB_succ es k hk
  have LB : Hid (∀ k, ∀ x ∈ leftB es k, x < 256) := fun k => leftB_bytes sm k
  have LL : Hid (∀ k, (leftB es k).length ≤ 511) := fun k => leftB_length es k hf
  have LE : Hid (leftB es es.length = List.replicate (511 - totalE es) 0) := by show _ = _; unfold leftB; rw [List.drop_length]; rfl
  have ltg : Hid (g < w.heap.size) := hlt
  clear hb hs1 ho hr hne h2 sm hD hcell zb
  have c511 : 1 ≤ c := by omega
  go_enter Tryd.func55, Tryd.ntmps55
  go_upto_region 4 with fail
  obtain ⟨p, hp⟩ : ∃ p, p = w.heap.size := ⟨_, rfl⟩
  obtain ⟨W, hW⟩ : ∃ W, W = (w.alloc (.cells #[.int .i64 0, .slice none 0 0, .string ⟨#[]⟩] 79)).alloc (.cells #[.int .i64 D, .slice none 0 0, .string ⟨#[]⟩] 79) := ⟨_, rfl⟩
  have HR1 : Hid (Held W p 79 #[.int .i64 0, .slice none 0 0, .string ⟨#[]⟩]) := by rw [hW]; exact (Held.new w _ _ hp).alloc _
  have HN1 : Hid (Held W (p + 1) 79 #[.int .i64 D, .slice none 0 0, .string ⟨#[]⟩]) := by rw [hW]; exact Held.new _ _ _ (by rw [hp]; simp)
  have BW : Hid (Below w.heap.size w W) := by rw [hW]; exact ((Below.refl _ _).alloc (Nat.le_refl _) _).alloc (by simp) _
  have ts := (HS1.out.under BW.out).toStr byteT Tryd.underlying9 (c - 1)
  rw [← hW, ← hp]
  have HP := Lib.hid hp
  clear hW hp c0
  go_wp2_with fail
  go_loopw [5] (fun v wr => ∃ k : Nat, k ≤ es.length ∧ v = .string (strB (leftB es k)) ∧ Hid (Held wr p 79 #[.int .i64 0, .slice none 0 0, .string ⟨#[]⟩] ∧ Below w.heap.size w wr ∧ ∃ v1, Held wr (p + 1) 79 #[.int .i64 D, v1, .string ⟨#[]⟩] ∧ OwnEn wr w.heap.size v1 (es.take k))) (fun v _ => match v with | .string s => s.size | _ => 0)
  case atStart => exact ⟨0, Nat.zero_le _, rfl, HR1.out, BW.out, _, HN1.out, OwnEn.nil _ _⟩
  case round =>
    obtain ⟨k, hk, rfl, G⟩ := hrel
    have sz := strB_size (leftB es k)
    by_cases hlt : k < es.length
    · obtain ⟨r1, r2, v1, r3, r4⟩ := G.out
      obtain ⟨A1, c1, rfl, _, hEA⟩ := r4.any
      have R1 := Lib.hid r1
      have R2 := Lib.hid r2
      have R3 := Lib.hid r3
      have R4 := Lib.hid r4
      have EO := Lib.hid (HO.out _ (List.getElem_mem hlt))
      have LK := LN.out k hlt
      have nb : (strB (leftB es k)).toList.isEmpty = false := strB_some (by rw [LK]; simp [encT])
      have hat : ∀ hx : 0 < (strB (leftB es k)).size, ((strB (leftB es k))[0]'hx).toNat = es[k].1.length := fun hx => by
        rw [strB_at (LB.out k), LK]
        rfl
      have n1 : 0 < es[k].1.length := EO.out.k1
      have n2 : ¬ (es[k].1.length : Int) = 0 := by omega
      have lt1 : Hid ((leftB es (k + 1)).length < (leftB es k).length) := by show _ < _; rw [LK]; simp [encT]; omega
      have TK : Hid ((es.take k) ++ [es[k]] = es.take (k + 1)) := (List.take_succ_eq_append_getElem hlt).symm
      have CT1 := Lib.hid (fun X => cutText_any X es[k].1 (encT es[k].2 ++ leftB es (k + 1)) (by have := EO.out.k2; omega) EO.out.kb (fun x hx => LB.out k x (by rw [LK]; exact List.mem_append_right _ hx)) (by have := LL.out k; rw [LK, List.length_append] at this; omega))
      have CT2 := Lib.hid (fun X => cutText_any X es[k].2 (leftB es (k + 1)) (by have := EO.out.v; omega) EO.out.vb (LB.out (k + 1)) (by have := LL.out (k + 1); omega))
      rw [← LK] at CT1
      have lk2 : (es.take k).length = k := by rw [List.length_take]; omega
      have LK2 := Lib.hid lk2
      rw [lk2] at R3 R4
      have hsz : 0 < (strB (leftB es k)).size := by rw [sz]; have := lt1.out; omega
      have hat0 := hat hsz
      have LKH := Lib.hid LK
      have SZ1 := Lib.hid (strB_size (leftB es (k + 1)))
      have SZ0 := Lib.hid sz
      clear hat G r1 r2 r3 r4 hEA LK lk2 sz
      generalize strB (encT es[k].2 ++ leftB es (k + 1)) = sm at *
      obtain ⟨s1, hs1⟩ : ∃ s1, s1 = strB (leftB es (k + 1)) := ⟨_, rfl⟩
      rw [← hs1] at CT2 SZ1
      have HSS := Lib.hid hs1
      clear hs1
      generalize strB (leftB es k) = s0 at *
      generalize es[k] = e at *
      obtain ⟨ek, ev⟩ := e
      have n3 : ((ek.length : Int) != 0) = true := by
        have : 0 < ek.length := n1
        simp
        intro h0
        rw [h0] at this
        simp at this
      clear n1 n2
      go_upto_region 7 with fail
      obtain ⟨q, hq⟩ : ∃ q, q = wr.heap.size := ⟨_, rfl⟩
      obtain ⟨wq, hwq⟩ : ∃ wq, wq = wr.alloc (.cells #[.string ⟨#[]⟩, .string ⟨#[]⟩] 77) := ⟨_, rfl⟩
      have HQ : Hid (Held wq q 77 #[.string ⟨#[]⟩, .string ⟨#[]⟩]) := by rw [hwq]; exact Held.new _ _ _ hq
      have BQ : Hid (Below wr.heap.size wr wq) := by rw [hwq]; exact (Below.refl _ _).alloc (Nat.le_refl _) _
      have QW : Hid (w.heap.size + 2 ≤ q) := by
        have := R3.out.lt
        have := HP.out
        show _ ≤ _
        omega
      rw [← hwq, ← hq]
      have HQQ := Lib.hid hq
      clear hwq hq
      go_upto_region 8 with fail
      go_wp2_with fail
      refine (CT1.out _).mono ?_
      rintro x w5 ⟨rfl, hb5⟩
      have B5 := Lib.hid hb5
      have H5 := Lib.hid (HQ.out.below hb5 HQ.out.lt)
      have z0 := H5.out.cell 0
      have y0 := H5.out.frozen 0
      clear hb5 CT1
      go_upto_region 11 with fail
      have H6 : Hid (Held (w5.setCell ⟨q, 0, none⟩ (.string (strB ek))) q 77 #[.string (strB ek), .string ⟨#[]⟩]) := H5.out.set_ 0 _
      clear z0 y0
      obtain ⟨w6, hw6⟩ : ∃ w6, w6 = w5.setCell ⟨q, 0, none⟩ (.string (strB ek)) := ⟨_, rfl⟩
      have O6 : Hid (Below wr.heap.size wr w6) := by
        rw [hw6]
        exact (BQ.out.trans (B5.out.mono BQ.out.size)).setCell (by show wr.heap.size ≤ q; have := HQQ.out; omega) _
      rw [← hw6] at H6 ⊢
      clear hw6 H5
      go_wp2_with fail
      refine (CT2.out _).mono ?_
      rintro x w7 ⟨rfl, hb7⟩
      have O7 : Hid (Below wr.heap.size wr w7) := O6.out.trans (hb7.mono O6.out.size)
      have H7 := Lib.hid (H6.out.below hb7 H6.out.lt)
      have z1 := H7.out.cell 1
      have y1 := H7.out.frozen 1
      clear hb7 CT2 H6
      go_upto_region 14 with fail
      have H8 : Hid (Held (w7.setCell ⟨q, 1, none⟩ (.string (strB ev))) q 77 #[.string (strB ek), .string (strB ev)]) := H7.out.set_ 1 _
      clear z1 y1
      obtain ⟨w8, hw8⟩ : ∃ w8, w8 = w7.setCell ⟨q, 1, none⟩ (.string (strB ev)) := ⟨_, rfl⟩
      have O8 : Hid (Below wr.heap.size wr w8) := by
        rw [hw8]
        exact O7.out.setCell (by show wr.heap.size ≤ q; have := HQQ.out; omega) _
      rw [← hw8] at H8 ⊢
      clear hw8 H7
      have N8 := Lib.hid (Held.below R3.out O8.out R3.out.lt)
      have R8 := Lib.hid (R4.out.below_ O8.out)
      have P8 := Lib.hid (Held.below R1.out O8.out R1.out.lt)
      have z0 := H8.out.cell 0
      have z1 := H8.out.cell 1
      have m1 := N8.out.cell 1
      have BB8 : Hid (Below w.heap.size w w8) := R2.out.trans (O8.out.mono R2.out.size)
      obtain ⟨w9, hw9⟩ : ∃ w9, w9 = w8.alloc (.cells #[.string (strB ek), .string (strB ev)] 77) := ⟨_, rfl⟩
      have U9 : Hid (Below w8.heap.size w8 w9) := by rw [hw9]; exact (Below.refl _ _).alloc (Nat.le_refl _) _
      have V9 : Hid (EAt w9 (some ⟨w8.heap.size, 0, none⟩) [(ek, ev)]) := by rw [hw9]; exact (show OneEn (w8.alloc (.cells #[.string (strB ek), .string (strB ev)] 77)) w8.heap.size (ek, ev) from Held.new _ _ _ rfl).at_
      have R9 := Lib.hid (R8.out.below_ U9.out)
      have N9 := Lib.hid (Held.below N8.out U9.out N8.out.lt)
      have P9 := Lib.hid (Held.below P8.out U9.out P8.out.lt)
      have BB9 : Hid (Below w.heap.size w w9) := BB8.out.trans (U9.out.mono BB8.out.size)
      have HW9 := Lib.hid hw9
      clear hw9
      go_wp2_with (at_builtin; rw [← HW9.out]; refine wpList_append_e rfl (o := ⟨some 51, _, _, _, _, _⟩) (.tmp 48) (.tmp 50) rfl w.heap.size _ _ rfl R9.out (some ⟨w8.heap.size, 0, none⟩) 1 1 [(ek, ev)] rfl rfl V9.out (by have := LK2.out; omega) BB9.out.size ?_; intro v4 w4 hown4 hg4; rw [TK.out] at hown4; obtain ⟨A4, c4, hv4, _, _⟩ := hown4.any; have lk4 : (es.take (k + 1)).length = k + 1 := (by rw [List.length_take]; omega); rw [lk4] at hv4; subst hv4; have OW4 := Lib.hid hown4; have BB4 : Hid (Below w.heap.size w w4) := R9.out.grown BB9.out hg4 BB9.out.size; have N4 : Hid (Held w4 (p + 1) 79 #[.int .i64 D, .slice A1 k c1, .string ⟨#[]⟩]) := (hg4.block _ N9.out.lt (fun e => Held.ne_row N9.out R9.out (by decide) (p + 1) e.symm rfl)).trans N9.out; have P4 : Hid (Held w4 p 79 #[.int .i64 0, .slice none 0 0, .string ⟨#[]⟩]) := (hg4.block _ P9.out.lt (fun e => Held.ne_row P9.out R9.out (by decide) p e.symm rfl)).trans P9.out; have e4 := N4.out.cell 1; have f4 := N4.out.frozen 1; clear hown4 hg4)
      have F : Hid (Held (w4.setCell ⟨p + 1, 1, none⟩ (.slice A4 (k + 1) c4)) p 79 #[.int .i64 0, .slice none 0 0, .string ⟨#[]⟩] ∧ Below w.heap.size w (w4.setCell ⟨p + 1, 1, none⟩ (.slice A4 (k + 1) c4)) ∧ ∃ v1, Held (w4.setCell ⟨p + 1, 1, none⟩ (.slice A4 (k + 1) c4)) (p + 1) 79 #[.int .i64 D, v1, .string ⟨#[]⟩] ∧ OwnEn (w4.setCell ⟨p + 1, 1, none⟩ (.slice A4 (k + 1) c4)) w.heap.size v1 (es.take (k + 1))) :=
        ⟨P4.out.far (p := ⟨p + 1, 1, none⟩) (by show p ≠ p + 1; omega) _, BB4.out.setCell (by show w.heap.size ≤ p + 1; have := HP.out; omega) _, _, N4.out.set_ 1 _, ownsRow_far OW4.out (p := ⟨p + 1, 1, none⟩) (Held.ne_row N4.out OW4.out (by decide)) _⟩
      go_roundw
      case rel => exact ⟨k + 1, by omega, by rw [HSS.out], F⟩
      case measure => simp only; have := lt1.out; have h1 := SZ1.out; have h0 := SZ0.out; omega
    · obtain rfl : k = es.length := by omega
      obtain ⟨r1, r2, v1, r3, r4⟩ := G.out
      rw [List.take_length] at r4
      obtain ⟨A1, c1, rfl, _, hEA⟩ := r4.any
      have R1 := Lib.hid r1
      have R2 := Lib.hid r2
      have R3 := Lib.hid r3
      have R4 := Lib.hid r4
      have EA := Lib.hid hEA
      rw [LE.out] at sz ⊢
      clear r1 r2 r3 r4 hEA G
      rw [List.length_replicate] at sz
      obtain ⟨zn, hzn⟩ : ∃ zn, zn = 511 - totalE es := ⟨_, rfl⟩
      rw [← hzn] at sz ZT ⊢
      have HZ : (zn = 0 ∧ strB (List.replicate zn 0) = ⟨#[]⟩) ∨ (0 < zn ∧ (strB (List.replicate zn 0)).toList.isEmpty = false ∧ ∀ hx : 0 < (strB (List.replicate zn 0)).size, ((strB (List.replicate zn 0))[0]'hx).toNat = 0) := by
        rcases Nat.eq_zero_or_pos zn with h0 | h0
        · exact .inl ⟨h0, by rw [h0]; rfl⟩
        · exact .inr ⟨h0, strB_some (by rw [List.length_replicate]; exact h0), fun hx => by
            rw [strB_at (zeros_bytes zn), List.getD_eq_getElem?_getD, List.getElem?_replicate]
            split <;> rfl⟩
      clear hzn
      generalize strB (List.replicate zn 0) = s0 at *
      have hx' : 0 < zn → 0 < s0.size := fun h => by omega
      have e0 := R3.out.cell 0
      have e1 := R3.out.cell 1
      have e2 := R3.out.cell 2
      have d0 := R1.out.cell 0
      have d1 := R1.out.cell 1
      have d2 := R1.out.cell 2
      have f0 := R1.out.frozen 0
      have f1 := R1.out.frozen 1
      have f2 := R1.out.frozen 2
      rw [strB_nil] at ZT SND
      rcases HZ with ⟨rfl, rfl⟩ | ⟨h0, h1, h2⟩
      · clear hx'
        go_wp2_with fail
        refine wp_region_noPanic ?_
        refine wp_region_held_drew (S := fun w' => w'.cell? ⟨p + 1, 0, none⟩ = some (.int .i64 D) ∧ w'.cell? ⟨p + 1, 1, none⟩ = some (.slice A1 es.length c1) ∧ w'.cell? ⟨p + 1, 2, none⟩ = some (.string ⟨#[]⟩)) (by kernel_rfl) ⟨e0, e1, e2⟩ (fun hHeld => ?_)
        refine take_ (i := 0) (v := ?_) 53 rfl rfl (by kernel_rfl) (by kernel_rfl) (by kernel_rfl) (fun _ _ _ h => h) (Or.inl ⟨by rfl, ?_⟩) (by assumption) ?_
        rotate_left
        · (intro wS hSw; (try dsimp only at hSw); go_simp; try with_reducible rfl)
        simp only [Act.put, List.setIfInBounds_toArray]
        refine take_ (i := 1) (v := ?_) 54 rfl rfl (by kernel_rfl) (by kernel_rfl) (by kernel_rfl) (fun _ _ _ h => h) (Or.inl ⟨by rfl, ?_⟩) (by assumption) ?_
        rotate_left
        · (intro wS hSw; (try dsimp only at hSw); go_simp; try with_reducible rfl)
        simp only [Act.put, List.setIfInBounds_toArray]
        refine one_ (i := 2) _ (by kernel_rfl) rfl (fun K hK => ?_)
        go_simp
        refine (ZT.out _).mono ?_
        rintro x w5 ⟨rfl, hb5⟩
        dsimp only
        have B5 : Hid (Below wr.heap.size wr w5) := ((Below.refl _ _).drew).trans hb5
        have N5 := Lib.hid (Held.below R3.out B5.out R3.out.lt)
        have P5 := Lib.hid (Held.below R1.out B5.out R1.out.lt)
        have W5 := Lib.hid (R4.out.below_ B5.out)
        have A5 := Lib.hid (EA.out.below B5.out)
        clear hb5
        refine hK.out _ _ ⟨N5.out.cell 0, N5.out.cell 1, N5.out.cell 2⟩ (fun hHeld => ?_)
        clear hK K
        refine take_ (i := 3) (v := ?_) 56 rfl rfl (by kernel_rfl) (by kernel_rfl) (by kernel_rfl) (fun _ _ _ h => h) (Or.inl ⟨by rfl, ?_⟩) (by assumption) ?_
        rotate_left
        · (intro wS hSw; (try dsimp only at hSw); go_simp; try with_reducible rfl)
        simp only [Act.put, List.setIfInBounds_toArray]
        refine take_ (i := 4) (v := ?_) 57 rfl rfl (by kernel_rfl) (by kernel_rfl) (by kernel_rfl) (fun _ _ _ h => h) (Or.inl ⟨by rfl, ?_⟩) (by assumption) ?_
        rotate_left
        · (intro wS hSw; (try dsimp only at hSw); go_simp; try with_reducible rfl)
        simp only [Act.put, List.setIfInBounds_toArray]
        refine take_ (i := 5) (v := ?_) 58 rfl rfl (by kernel_rfl) (by kernel_rfl) (by kernel_rfl) (fun _ _ _ h => h) (Or.inl ⟨by rfl, ?_⟩) (by assumption) ?_
        rotate_left
        · (intro wS hSw; (try dsimp only at hSw); go_simp; try with_reducible rfl)
        simp only [Act.put, List.setIfInBounds_toArray]
        refine one_ (i := 6) _ (by kernel_rfl) rfl (fun K hK => ?_)
        go_simp
        refine (SND.out _ A1 c1 A5.out).mono ?_
        rintro x w6 ⟨rfl, hb6⟩
        dsimp only
        have N6 := Lib.hid (Held.below N5.out hb6 N5.out.lt)
        have P6 := Lib.hid (Held.below P5.out hb6 P5.out.lt)
        have W6 := Lib.hid (W5.out.below_ hb6)
        have B6 : Hid (Below w.heap.size w w6) := R2.out.trans ((B5.out.trans (hb6.mono B5.out.size)).mono R2.out.size)
        clear hb6
        refine hK.out _ _ ⟨N6.out.cell 0, N6.out.cell 1, N6.out.cell 2⟩ (fun hHeld => ?_)
        clear hK K
        have d0 := P6.out.cell 0
        have d1 := P6.out.cell 1
        have d2 := P6.out.cell 2
        have f0 := P6.out.frozen 0
        have f1 := P6.out.frozen 1
        have f2 := P6.out.frozen 2
        have pne : ¬ p + 1 = p := by omega
        have pne2 : ¬ p = p + 1 := by omega
        refine take_ (i := 7) (v := ?_) 60 rfl rfl (by kernel_rfl) (by kernel_rfl) (by kernel_rfl) (fun _ _ _ h => h) (Or.inl ⟨by rfl, ?_⟩) (by assumption) ?_
        rotate_left
        · (intro wS hSw; (try dsimp only at hSw); go_simp; try with_reducible rfl)
        simp only [Act.put, List.setIfInBounds_toArray]
        refine one_ (i := 8) _ (by kernel_rfl) rfl (fun K hK => ?_)
        go_simp
        have P7 : Hid (Held (((w6.setCell ⟨p, 0, none⟩ (.int .i64 D)).setCell ⟨p, 1, none⟩ (.slice A1 es.length c1)).setCell ⟨p, 2, none⟩ (.string ⟨#[]⟩)) p 79 #[.int .i64 D, .slice A1 es.length c1, .string ⟨#[]⟩]) := ((P6.out.set_ 0 _).set_ 1 _).set_ 2 _
        have ON7 : Hid (Only [p] w6 (((w6.setCell ⟨p, 0, none⟩ (.int .i64 D)).setCell ⟨p, 1, none⟩ (.slice A1 es.length c1)).setCell ⟨p, 2, none⟩ (.string ⟨#[]⟩))) := (((Only.refl [p] w6).setCell (p := ⟨p, 0, none⟩) (.inl (by simp)) _).setCell (p := ⟨p, 1, none⟩) (.inl (by simp)) _).setCell (p := ⟨p, 2, none⟩) (.inl (by simp)) _
        have N7 := Lib.hid (Held.only N6.out ON7.out (by simp))
        have W7 := Lib.hid (ON7.out.row W6.out (fun b hb hm => Held.ne_row P6.out W6.out (by decide) b hb (by simpa using hm)))
        have B7 := Lib.hid (below_only B6.out ON7.out (by have := HP.out; omega) B6.out.size)
        refine hK.out _ _ ⟨N7.out.cell 0, N7.out.cell 1, N7.out.cell 2⟩ (fun hHeld => ?_)
        clear hK K
        refine take_ (i := 9) (v := ?_) 3 rfl rfl (by kernel_rfl) (by kernel_rfl) (by kernel_rfl) (fun _ _ _ h => h) (Or.inl ⟨by rfl, ?_⟩) (by assumption) ?_
        rotate_left
        · (intro wS hSw; (try dsimp only at hSw); go_simp; try with_reducible rfl)
        simp only [Act.put, List.setIfInBounds_toArray]
        refine wpAnyH_done (by kernel_rfl) ?_ _
        refine NoPanic.normal ?_
        go_wp2_with fail
        exact bodyPost_ret (res_cellB _ _ 3 2 79 (.bool true) _ _ Tryd.results55 rfl rfl (load_node P7.out rfl)) rfl ⟨_, rfl, W7.out, B7.out⟩
      · have hx : 0 < s0.size := hx' h0
        have hat := h2 hx
        clear h2 hx'
        go_wp2_with fail
        refine wp_region_noPanic ?_
        refine wp_region_held_drew (S := fun w' => w'.cell? ⟨p + 1, 0, none⟩ = some (.int .i64 D) ∧ w'.cell? ⟨p + 1, 1, none⟩ = some (.slice A1 es.length c1) ∧ w'.cell? ⟨p + 1, 2, none⟩ = some (.string ⟨#[]⟩)) (by kernel_rfl) ⟨e0, e1, e2⟩ (fun hHeld => ?_)
        refine take_ (i := 0) (v := ?_) 53 rfl rfl (by kernel_rfl) (by kernel_rfl) (by kernel_rfl) (fun _ _ _ h => h) (Or.inl ⟨by rfl, ?_⟩) (by assumption) ?_
        rotate_left
        · (intro wS hSw; (try dsimp only at hSw); go_simp; try with_reducible rfl)
        simp only [Act.put, List.setIfInBounds_toArray]
        refine take_ (i := 1) (v := ?_) 54 rfl rfl (by kernel_rfl) (by kernel_rfl) (by kernel_rfl) (fun _ _ _ h => h) (Or.inl ⟨by rfl, ?_⟩) (by assumption) ?_
        rotate_left
        · (intro wS hSw; (try dsimp only at hSw); go_simp; try with_reducible rfl)
        simp only [Act.put, List.setIfInBounds_toArray]
        refine one_ (i := 2) _ (by kernel_rfl) rfl (fun K hK => ?_)
        go_simp
        refine (ZT.out _).mono ?_
        rintro x w5 ⟨rfl, hb5⟩
        dsimp only
        have B5 : Hid (Below wr.heap.size wr w5) := ((Below.refl _ _).drew).trans hb5
        have N5 := Lib.hid (Held.below R3.out B5.out R3.out.lt)
        have P5 := Lib.hid (Held.below R1.out B5.out R1.out.lt)
        have W5 := Lib.hid (R4.out.below_ B5.out)
        have A5 := Lib.hid (EA.out.below B5.out)
        clear hb5
        refine hK.out _ _ ⟨N5.out.cell 0, N5.out.cell 1, N5.out.cell 2⟩ (fun hHeld => ?_)
        clear hK K
        refine take_ (i := 3) (v := ?_) 56 rfl rfl (by kernel_rfl) (by kernel_rfl) (by kernel_rfl) (fun _ _ _ h => h) (Or.inl ⟨by rfl, ?_⟩) (by assumption) ?_
        rotate_left
        · (intro wS hSw; (try dsimp only at hSw); go_simp; try with_reducible rfl)
        simp only [Act.put, List.setIfInBounds_toArray]
        refine take_ (i := 4) (v := ?_) 57 rfl rfl (by kernel_rfl) (by kernel_rfl) (by kernel_rfl) (fun _ _ _ h => h) (Or.inl ⟨by rfl, ?_⟩) (by assumption) ?_
        rotate_left
        · (intro wS hSw; (try dsimp only at hSw); go_simp; try with_reducible rfl)
        simp only [Act.put, List.setIfInBounds_toArray]
        refine take_ (i := 5) (v := ?_) 58 rfl rfl (by kernel_rfl) (by kernel_rfl) (by kernel_rfl) (fun _ _ _ h => h) (Or.inl ⟨by rfl, ?_⟩) (by assumption) ?_
        rotate_left
        · (intro wS hSw; (try dsimp only at hSw); go_simp; try with_reducible rfl)
        simp only [Act.put, List.setIfInBounds_toArray]
        refine one_ (i := 6) _ (by kernel_rfl) rfl (fun K hK => ?_)
        go_simp
        refine (SND.out _ A1 c1 A5.out).mono ?_
        rintro x w6 ⟨rfl, hb6⟩
        dsimp only
        have N6 := Lib.hid (Held.below N5.out hb6 N5.out.lt)
        have P6 := Lib.hid (Held.below P5.out hb6 P5.out.lt)
        have W6 := Lib.hid (W5.out.below_ hb6)
        have B6 : Hid (Below w.heap.size w w6) := R2.out.trans ((B5.out.trans (hb6.mono B5.out.size)).mono R2.out.size)
        clear hb6
        refine hK.out _ _ ⟨N6.out.cell 0, N6.out.cell 1, N6.out.cell 2⟩ (fun hHeld => ?_)
        clear hK K
        have d0 := P6.out.cell 0
        have d1 := P6.out.cell 1
        have d2 := P6.out.cell 2
        have f0 := P6.out.frozen 0
        have f1 := P6.out.frozen 1
        have f2 := P6.out.frozen 2
        have pne : ¬ p + 1 = p := by omega
        have pne2 : ¬ p = p + 1 := by omega
        refine take_ (i := 7) (v := ?_) 60 rfl rfl (by kernel_rfl) (by kernel_rfl) (by kernel_rfl) (fun _ _ _ h => h) (Or.inl ⟨by rfl, ?_⟩) (by assumption) ?_
        rotate_left
        · (intro wS hSw; (try dsimp only at hSw); go_simp; try with_reducible rfl)
        simp only [Act.put, List.setIfInBounds_toArray]
        refine one_ (i := 8) _ (by kernel_rfl) rfl (fun K hK => ?_)
        go_simp
        have P7 : Hid (Held (((w6.setCell ⟨p, 0, none⟩ (.int .i64 D)).setCell ⟨p, 1, none⟩ (.slice A1 es.length c1)).setCell ⟨p, 2, none⟩ (.string ⟨#[]⟩)) p 79 #[.int .i64 D, .slice A1 es.length c1, .string ⟨#[]⟩]) := ((P6.out.set_ 0 _).set_ 1 _).set_ 2 _
        have ON7 : Hid (Only [p] w6 (((w6.setCell ⟨p, 0, none⟩ (.int .i64 D)).setCell ⟨p, 1, none⟩ (.slice A1 es.length c1)).setCell ⟨p, 2, none⟩ (.string ⟨#[]⟩))) := (((Only.refl [p] w6).setCell (p := ⟨p, 0, none⟩) (.inl (by simp)) _).setCell (p := ⟨p, 1, none⟩) (.inl (by simp)) _).setCell (p := ⟨p, 2, none⟩) (.inl (by simp)) _
        have N7 := Lib.hid (Held.only N6.out ON7.out (by simp))
        have W7 := Lib.hid (ON7.out.row W6.out (fun b hb hm => Held.ne_row P6.out W6.out (by decide) b hb (by simpa using hm)))
        have B7 := Lib.hid (below_only B6.out ON7.out (by have := HP.out; omega) B6.out.size)
        refine hK.out _ _ ⟨N7.out.cell 0, N7.out.cell 1, N7.out.cell 2⟩ (fun hHeld => ?_)
        clear hK K
        refine take_ (i := 9) (v := ?_) 3 rfl rfl (by kernel_rfl) (by kernel_rfl) (by kernel_rfl) (fun _ _ _ h => h) (Or.inl ⟨by rfl, ?_⟩) (by assumption) ?_
        rotate_left
        · (intro wS hSw; (try dsimp only at hSw); go_simp; try with_reducible rfl)
        simp only [Act.put, List.setIfInBounds_toArray]
        refine wpAnyH_done (by kernel_rfl) ?_ _
        refine NoPanic.normal ?_
        go_wp2_with fail
        exact bodyPost_ret (res_cellB _ _ 3 2 79 (.bool true) _ _ Tryd.results55 rfl rfl (load_node P7.out rfl)) rfl ⟨_, rfl, W7.out, B7.out⟩
end Go.Proofs.YtnogmgnbhcmajaaDoor

namespace Go.Proofs.YtnogmgnbhcmajaaDoor
open Go.RowKit Wal

/-- A store in memory, as an interface's value. -/
def stoB (p : Nat) : Value := .iface 24 (.pointer (some ⟨p, 0, none⟩))
set_option maxRecDepth 100000 in
theorem meetsB_read (p : Nat) (w : World) (n : Nat) (hn : n = Tryd.prog.types.size + Made.depth) : (method n 24 (.pointer (some ⟨p, 0, none⟩)) "Read").run Tryd.prog w = .ok (10, .pointer (some ⟨p, 0, none⟩)) w := by
  subst hn
  kernel_rfl
set_option maxRecDepth 100000 in
theorem meetsB_write (p : Nat) (w : World) (n : Nat) (hn : n = Tryd.prog.types.size + Made.depth) : (method n 24 (.pointer (some ⟨p, 0, none⟩)) "Write").run Tryd.prog w = .ok (9, .pointer (some ⟨p, 0, none⟩)) w := by
  subst hn
  kernel_rfl
set_option maxRecDepth 100000 in
theorem meetsB_take (p : Nat) (w : World) (n : Nat) (hn : n = Tryd.prog.types.size + Made.depth) : (method n 24 (.pointer (some ⟨p, 0, none⟩)) "Take").run Tryd.prog w = .ok (6, .pointer (some ⟨p, 0, none⟩)) w := by
  subst hn
  kernel_rfl
set_option maxRecDepth 100000 in
theorem meetsB_free (p : Nat) (w : World) (n : Nat) (hn : n = Tryd.prog.types.size + Made.depth) : (method n 24 (.pointer (some ⟨p, 0, none⟩)) "Free").run Tryd.prog w = .ok (8, .pointer (some ⟨p, 0, none⟩)) w := by
  subst hn
  kernel_rfl
theorem headD_at {l : List En} (h : 0 < l.length) : l.headD ([], []) = l[0] := by
  cases l with
  | nil => simp at h
  | cons a r => rfl
/-- A tree, not spoilt, at block t. -/
def TreeO (w : World) (t p root : Nat) : Prop := Held w t 67 #[stoB p, .int .i64 (root : Int), .int .i64 0]
theorem TreeO.kp {B : Nat} {w w' : World} {t p root : Nat} (h : TreeO w t p root) (k : Kp B w w') : TreeO w' t p root := k.held h (by decide) (by decide)
theorem TreeO.below {w w' : World} {t p root : Nat} (h : TreeO w t p root) (k : Below w.heap.size w w') : TreeO w' t p root := Held.below h k h.lt
set_option maxRecDepth 100000 in
theorem top_any (w : World) (t p root : Nat) (h : TreeO w t p root) :
    Calls Tryd.prog 34 #[.pointer (some ⟨t, 0, none⟩)] w fun x w' => x = .returned (spV root 0 [] []) ∧ Below w.heap.size w w' := by
  have c1 := h.cell 1
  have lt := h.lt
  have H1 : Hid (Held (w.alloc (.cells #[.int .i64 (root : Int), .int .i64 0, .string ⟨#[]⟩, .string ⟨#[]⟩] 89)) w.heap.size 89 #[.int .i64 (root : Int), .int .i64 0, .string ⟨#[]⟩, .string ⟨#[]⟩]) := Held.new _ _ _ rfl
  have B1 : Hid (Below w.heap.size w (w.alloc (.cells #[.int .i64 (root : Int), .int .i64 0, .string ⟨#[]⟩, .string ⟨#[]⟩] 89))) := (Below.refl _ _).alloc (Nat.le_refl _) _
  clear h
  go_enter Tryd.func34, Tryd.ntmps34
  go_wp2_with fail
  exact bodyPost_ret (resC _ _ 2 89 _ _ Tryd.results34 rfl (load_spot H1.out rfl)) rfl ⟨rfl, B1.out⟩
set_option maxRecDepth 100000 in
set_option maxHeartbeats 800000 in
/-- read: the tree without keys. -/
theorem read_none (w : World) (t lv : Nat) (f u : List Nat) :
    Calls Tryd.prog 45 #[.pointer (some ⟨t, 0, none⟩), spV 0 lv f u] w fun x w' => x = .returned (noV 1 none 0 0 []) ∧ Below w.heap.size w w' := by
  unfold spV noV
  rw [strB_nil]
  go_enter Tryd.func45, Tryd.ntmps45
  go_wp2_with fail
  obtain ⟨W, hW⟩ : ∃ W, W = w.alloc (.cells #[.int .i64 0, .int .i64 (lv : Int), .string (strB f), .string (strB u)] 89) := ⟨_, rfl⟩
  rw [← hW]
  have B1 : Below w.heap.size w W := by rw [hW]; exact (Below.refl _ _).alloc (Nat.le_refl _) _
  have sz : W.heap.size = w.heap.size + 1 := by rw [hW]; exact World.size_alloc _ _
  exact bodyPost_ret (resC _ _ 4 79 _ _ Tryd.results45 rfl (load_node (Held.new W 79 #[.int .i64 1, .slice none 0 0, .string ⟨#[]⟩] sz.symm) rfl)) rfl ⟨rfl, B1.alloc B1.size _⟩
set_option maxRecDepth 100000 in
set_option maxHeartbeats 3200000 in
/-- read: a node that lies on a block. -/
theorem read_any (B : Nat) (w : World) (t p root n : Nat) (f : Nat → Option KB) (ht : TreeO w t p root) (hm : MemAt B w p n f) (d b : Nat) (es : List En) (bs : List Nat) (ents : List En) (bs0 : List Nat) (hn : NodeAt f d b es bs ents bs0) (hd : d ≤ 200) (ho : OkAll es) (hr : Rises es)
    (lv : Nat) (fk u : List Nat) (h1 : lv = 0 ∨ lv = d + 1) (h2 : fk = [] ∨ fk = (es.headD ([], [])).1) (h3 : u = [] ∨ ∀ e ∈ es, ltB e.1 u = true) (hu : ∀ x ∈ u, x < 256) :
    Calls Tryd.prog 45 #[.pointer (some ⟨t, 0, none⟩), spV b lv fk u] w fun x w' => ∃ v, x = .returned (.agg #[.int .i64 ((d + 1 : Nat) : Int), v, .string (strB u)]) ∧ OwnEn w' w.heap.size v ents ∧ Below w.heap.size w w' := by
  have eok := hn.nd.ok ho
  have ers := hn.nd.rises hr
  have lp : 0 < ents.length := List.length_pos_iff.2 hn.some_
  have e0 : ents.headD ([], []) = ents[0] := headD_at lp
  have h2' : fk = [] ∨ fk = ents[0].1 := by
    rcases h2 with h2 | h2
    · exact .inl h2
    · refine .inr ?_
      rw [h2, ← hn.nd.first, e0]
  have h3' : u = [] ∨ ltB (ents[ents.length - 1]'(by omega)).1 u = true := by
    rcases h3 with h3 | h3
    · exact .inl h3
    · obtain ⟨x, hx, ex⟩ := hn.nd.key _ (List.getElem_mem (show ents.length - 1 < ents.length by omega))
      exact .inr (by rw [ex]; exact h3 x hx)
  obtain ⟨hh, hf⟩ := hn.there
  have few := few_ents eok
  have ft := hn.fit
  obtain ⟨i, rfl⟩ : ∃ i, b = i + 1 := ⟨b - 1, by have := hn.pos; omega⟩
  rw [Nat.add_sub_cancel] at hf
  have RD := Lib.hid (fun W (k : Below w.heap.size w W) => read_yes B W p n f (hm.under k) i _ hf)
  have UP := Lib.hid (fun W g c (hb : Bts W (some ⟨g, 0, none⟩) 512 (pad (encN (d + 1) ents))) (hc : 512 ≤ c) => unpack_any W d hd g c ents hb hc eok ers ft hn.some_ hn.two)
  have SU := Lib.hid (fun W A c (h : EAt W A ents) => suits_any W (i + 1) lv fk u (d + 1) [] A c ents h (fun e he => (eok e he).kb) (by omega) lp h1 h2' h3' hu)
  have PL : Hid ((pad (encN (d + 1) ents)).length = 512) := pad_length (by rw [encN_length]; omega)
  have HT := Lib.hid ht
  have lt := ht.lt
  have cb : (((i + 1 : Nat)) : Int) = (i : Int) + 1 := by omega
  unfold spV noV at *
  rw [cb] at *
  obtain ⟨D, hD⟩ : ∃ D : Int, D = ((d + 1 : Nat) : Int) := ⟨_, rfl⟩
  rw [← hD] at UP SU ⊢
  have ni : ¬ (i : Int) + 1 = 0 := by omega
  clear ht hm hn ho hr h1 h2 h3 h2' h3' hu eok ers e0 hf cb few ft hD
  go_enter Tryd.func45, Tryd.ntmps45
  go_upto_region 3 with fail
  obtain ⟨q, hq⟩ : ∃ q, q = w.heap.size := ⟨_, rfl⟩
  obtain ⟨W, hW⟩ : ∃ W, W = (w.alloc (.cells #[.int .i64 ((i : Int) + 1), .int .i64 (lv : Int), .string (strB fk), .string (strB u)] 89)).alloc (.cells #[.int .i64 0, .slice none 0 0, .string ⟨#[]⟩] 79) := ⟨_, rfl⟩
  have HS : Hid (Held W q 89 #[.int .i64 ((i : Int) + 1), .int .i64 (lv : Int), .string (strB fk), .string (strB u)]) := by rw [hW]; exact (Held.new w _ _ hq).alloc _
  have HN : Hid (Held W (q + 1) 79 #[.int .i64 0, .slice none 0 0, .string ⟨#[]⟩]) := by rw [hW]; exact Held.new _ _ _ (by rw [hq]; simp)
  have BW : Hid (Below w.heap.size w W) := by rw [hW]; exact ((Below.refl _ _).alloc (Nat.le_refl _) _).alloc (by simp) _
  have T1 := Lib.hid (HT.out.below BW.out)
  have t0 := T1.out.cell 0
  have s0 := HS.out.cell 0
  rw [← hW, ← hq]
  have HQ := Lib.hid hq
  clear hW hq
  unfold stoB at t0
  refine wp_region_noPanic ?_
  refine wp_region_held_drew (S := fun w' => w'.cell? ⟨t, 0, none⟩ = some (.iface 24 (.pointer (some ⟨p, 0, none⟩))) ∧ w'.cell? ⟨q, 0, none⟩ = some (.int .i64 ((i : Int) + 1))) (by kernel_rfl) ⟨t0, s0⟩ (fun hHeld => ?_)
  refine take_ (i := 0) (v := ?_) 14 rfl rfl (by kernel_rfl) (by kernel_rfl) (by kernel_rfl) (fun _ _ _ h => h) (Or.inl ⟨by rfl, ?_⟩) (by assumption) ?_
  rotate_left
  · (intro wS hSw; (try dsimp only at hSw); go_simp; try with_reducible rfl)
  simp only [Act.put, List.setIfInBounds_toArray, List.set_cons_zero, List.set_cons_succ]
  refine take_ (i := 1) (v := ?_) 15 rfl rfl (by kernel_rfl) (by kernel_rfl) (by kernel_rfl) (fun _ _ _ h => h) (Or.inl ⟨by rfl, ?_⟩) (by assumption) ?_
  rotate_left
  · (intro wS hSw; (try dsimp only at hSw); go_simp; try with_reducible rfl)
  simp only [Act.put, List.setIfInBounds_toArray, List.set_cons_zero, List.set_cons_succ]
  refine take_ (i := 2) (v := ?_) 16 rfl rfl (by kernel_rfl) (by kernel_rfl) (by kernel_rfl) (fun _ _ _ h => h) (Or.inl ⟨by rfl, ?_⟩) (by assumption) ?_
  rotate_left
  · (intro wS hSw; (try dsimp only at hSw); go_simp; try with_reducible rfl)
  simp only [Act.put, List.setIfInBounds_toArray, List.set_cons_zero, List.set_cons_succ]
  refine take_ (i := 3) (v := ?_) 17 rfl rfl (by kernel_rfl) (by kernel_rfl) (by kernel_rfl) (fun _ _ _ h => h) (Or.inl ⟨by rfl, ?_⟩) (by assumption) ?_
  rotate_left
  · (intro wS hSw; (try dsimp only at hSw); go_simp; try with_reducible rfl)
  simp only [Act.put, List.setIfInBounds_toArray, List.set_cons_zero, List.set_cons_succ]
  refine take_ (i := 4) (v := ?_) 18 rfl rfl (by kernel_rfl) (by kernel_rfl) (by kernel_rfl) (fun _ _ _ h => h) (Or.inl ⟨by rfl, ?_⟩) (by assumption) ?_
  rotate_left
  · (intro wS hSw; (try dsimp only at hSw); go_simp; try with_reducible rfl)
  simp only [Act.put, List.setIfInBounds_toArray, List.set_cons_zero, List.set_cons_succ]
  refine take_ (i := 5) (v := ?_) 19 rfl rfl (by kernel_rfl) (by kernel_rfl) (by kernel_rfl) (fun _ _ _ h => h) (Or.inl ⟨by rfl, ?_⟩) (by assumption) ?_
  rotate_left
  · (intro wS hSw; (try dsimp only at hSw); go_simp; try with_reducible rfl)
  simp only [Act.put, List.setIfInBounds_toArray, List.set_cons_zero, List.set_cons_succ]
  refine one_ (i := 6) _ (by kernel_rfl) rfl (fun K hK => ?_)
  go_simp
  rw [meetsB_read]
  case hn => kernel_rfl
  go_simp
  refine (RD.out _ (BW.out.drew)).mono ?_
  rintro x w5 ⟨v, rfl, ho5, hb5⟩
  obtain ⟨g, c, rfl, x1, x2, x3, x4, x5⟩ := ho5.form' PL.out (by omega)
  have O := Lib.hid x3
  have GC : Hid (512 ≤ c) := by
    rcases x5.1.2 with ⟨h0, _⟩ | ⟨g', cap, cur, hv, _, _, hn, _⟩
    · cases h0
    · injection hv with _ _ hv3
      show _ ≤ _
      rw [hv3, ← PL.out]
      exact hn
  have B5 : Hid (Below W.heap.size W w5) := (Below.refl _ _).drew.trans hb5
  have T5 := Lib.hid (T1.out.below B5.out)
  have S5 := Lib.hid (Held.below HS.out B5.out HS.out.lt)
  have N5 := Lib.hid (Held.below HN.out B5.out HN.out.lt)
  clear ho5 hb5 x1 x2 x3 x4 x5 t0 s0 RD
  dsimp only
  refine hK.out _ _ ⟨T5.out.cell 0, S5.out.cell 0⟩ (fun hHeld => ?_)
  clear hK K
  refine take_ (i := 7) (v := ?_) 13 rfl rfl (by kernel_rfl) (by kernel_rfl) (by kernel_rfl) (fun _ _ _ h => h) (Or.inl ⟨by rfl, ?_⟩) (by assumption) ?_
  rotate_left
  · (intro wS hSw; (try dsimp only at hSw); go_simp; try with_reducible rfl)
  simp only [Act.put, List.setIfInBounds_toArray]
  refine take_ (i := 8) (v := ?_) 21 rfl rfl (by kernel_rfl) (by kernel_rfl) (by kernel_rfl) (fun _ _ _ h => h) (Or.inl ⟨by rfl, ?_⟩) (by assumption) ?_
  rotate_left
  · (intro wS hSw; (try dsimp only at hSw); go_simp; try with_reducible rfl)
  simp only [Act.put, List.setIfInBounds_toArray]
  refine take_ (i := 9) (v := ?_) 22 rfl rfl (by kernel_rfl) (by kernel_rfl) (by kernel_rfl) (fun _ _ _ h => h) (Or.inl ⟨by rfl, ?_⟩) (by assumption) ?_
  rotate_left
  · (intro wS hSw; (try dsimp only at hSw); go_simp; try with_reducible rfl)
  simp only [Act.put, List.setIfInBounds_toArray]
  refine take_ (i := 10) (v := ?_) 5 rfl rfl (by kernel_rfl) (by kernel_rfl) (by kernel_rfl) (fun _ _ _ h => h) (Or.inl ⟨by rfl, ?_⟩) (by assumption) ?_
  rotate_left
  · (intro wS hSw; (try dsimp only at hSw); go_simp; try with_reducible rfl)
  simp only [Act.put, List.setIfInBounds_toArray]
  refine take_ (i := 11) (v := ?_) 6 rfl rfl (by kernel_rfl) (by kernel_rfl) (by kernel_rfl) (fun _ _ _ h => h) (Or.inl ⟨by rfl, ?_⟩) (by assumption) ?_
  rotate_left
  · (intro wS hSw; (try dsimp only at hSw); go_simp; try with_reducible rfl)
  simp only [Act.put, List.setIfInBounds_toArray]
  refine wpAnyH_done (by kernel_rfl) ?_ _
  refine NoPanic.normal ?_
  go_wp2_with (go_at_call 54; refine (heedT_ok _).mono ?_; rintro e w2 ⟨rfl, rfl⟩)
  refine (UP.out _ g c O.out GC.out).mono ?_
  rintro x w6 ⟨v6, rfl, ho6, hb6⟩
  obtain ⟨A6, c6, rfl, _, hEA⟩ := ho6.any
  have O6 := Lib.hid ho6
  have B6 : Hid (Below W.heap.size W w6) := B5.out.trans (hb6.mono B5.out.size)
  have S6 := Lib.hid (Held.below S5.out hb6 S5.out.lt)
  have N6 := Lib.hid (Held.below N5.out hb6 N5.out.lt)
  have U6 : Hid (∀ o, Below w6.heap.size w6 (w6.alloc o)) := fun o => (Below.refl _ _).alloc (Nat.le_refl _) o
  have SU6 := Lib.hid (fun o => SU.out (w6.alloc o) A6 c6 (hEA.below (U6.out o)))
  have s0 := S6.out.cell 0
  have s1 := S6.out.cell 1
  have s2 := S6.out.cell 2
  have s3 := S6.out.cell 3
  have lq := S6.out.lt
  rw [strB_nil] at SU6
  clear ho6 hEA hb6 UP SU
  go_wp2_with fail
  refine (SU6.out _).mono ?_
  rintro x w8 ⟨rfl, hb8⟩
  obtain ⟨r, hr7⟩ : ∃ r, r = w6.heap.size := ⟨_, rfl⟩
  have R7 : Hid (Held (w6.alloc (.cells #[.int .i64 D, .slice A6 ents.length c6, .string ⟨#[]⟩] 79)) r 79 #[.int .i64 D, .slice A6 ents.length c6, .string ⟨#[]⟩]) := Held.new _ _ _ hr7
  have O7 := Lib.hid (O6.out.alloc (.cells #[.int .i64 D, .slice A6 ents.length c6, .string ⟨#[]⟩] 79))
  have N7 := Lib.hid (N6.out.alloc (.cells #[.int .i64 D, .slice A6 ents.length c6, .string ⟨#[]⟩] 79))
  have B7 : Hid (Below w.heap.size w (w6.alloc (.cells #[.int .i64 D, .slice A6 ents.length c6, .string ⟨#[]⟩] 79))) := (BW.out.trans (B6.out.mono BW.out.size)).alloc (Nat.le_trans BW.out.size B6.out.size) _
  have R8 := Lib.hid (Held.below R7.out hb8 R7.out.lt)
  have O8 := Lib.hid (O7.out.below_ hb8)
  have N8 := Lib.hid (Held.below N7.out hb8 N7.out.lt)
  have B8 : Hid (Below w.heap.size w w8) := B7.out.trans (hb8.mono B7.out.size)
  have QR : Hid (q + 1 < r) := by show _ < _; have := N6.out.lt; omega
  have S8 := Lib.hid (Held.below (S6.out.alloc (.cells #[.int .i64 D, .slice A6 ents.length c6, .string ⟨#[]⟩] 79)) hb8 (S6.out.alloc _).lt)
  rw [← hr7]
  have s0 := S8.out.cell 0
  have s1 := S8.out.cell 1
  have s2 := S8.out.cell 2
  have s3 := S8.out.cell 3
  have r0 := R8.out.cell 0
  have r1 := R8.out.cell 1
  have r2 := R8.out.cell 2
  have y0 := R8.out.frozen 0
  have y1 := R8.out.frozen 1
  have y2 := R8.out.frozen 2
  have m0 := N8.out.cell 0
  have m1 := N8.out.cell 1
  have m2 := N8.out.cell 2
  have k0 := N8.out.frozen 0
  have k1 := N8.out.frozen 1
  have k2 := N8.out.frozen 2
  have nqr : ¬ q + 1 = r := by have := QR.out; omega
  have nrq : ¬ r = q + 1 := by have := QR.out; omega
  have HR7 := Lib.hid hr7
  clear hb8 hr7 SU6
  have FH : Hid (Held ((((w8.setCell ⟨r, 2, none⟩ (.string (strB u))).setCell ⟨q + 1, 0, none⟩ (.int .i64 D)).setCell ⟨q + 1, 1, none⟩ (.slice A6 ents.length c6)).setCell ⟨q + 1, 2, none⟩ (.string (strB u))) (q + 1) 79 #[.int .i64 D, .slice A6 ents.length c6, .string (strB u)]) := (((N8.out.far (p := ⟨r, 2, none⟩) nqr _).set_ 0 _).set_ 1 _).set_ 2 _
  have ON : Hid (Only [r, q + 1] w8 ((((w8.setCell ⟨r, 2, none⟩ (.string (strB u))).setCell ⟨q + 1, 0, none⟩ (.int .i64 D)).setCell ⟨q + 1, 1, none⟩ (.slice A6 ents.length c6)).setCell ⟨q + 1, 2, none⟩ (.string (strB u)))) := ((((Only.refl [r, q + 1] w8).setCell (p := ⟨r, 2, none⟩) (.inl (by simp)) _).setCell (p := ⟨q + 1, 0, none⟩) (.inl (by simp)) _).setCell (p := ⟨q + 1, 1, none⟩) (.inl (by simp)) _).setCell (p := ⟨q + 1, 2, none⟩) (.inl (by simp)) _
  have FO := Lib.hid (ON.out.row O8.out (fun b hb hm => by
    rcases List.mem_cons.1 hm with h | h
    · exact Held.ne_row R8.out O8.out (by decide) b hb h
    · exact Held.ne_row N8.out O8.out (by decide) b hb (by simpa using h)))
  have FB : Hid (Below w.heap.size w ((((w8.setCell ⟨r, 2, none⟩ (.string (strB u))).setCell ⟨q + 1, 0, none⟩ (.int .i64 D)).setCell ⟨q + 1, 1, none⟩ (.slice A6 ents.length c6)).setCell ⟨q + 1, 2, none⟩ (.string (strB u)))) := by
    have hq' := HQ.out
    have hr' := QR.out
    exact B8.out.trans (ON.out.below (B := w.heap.size) B8.out.size (fun x hx => by
      rcases List.mem_cons.1 hx with h | h
      · omega
      · have : x = q + 1 := by simpa using h
        omega))
  have W6 : Hid (w.heap.size ≤ w6.heap.size) := Nat.le_trans BW.out.size B6.out.size
  have OB : Hid (∀ x y z, OwnEn x y z ents → w.heap.size ≤ y → OwnEn x w.heap.size z ents) := fun x y z h hy => ⟨h.1, h.2.imp id fun ⟨g, cap, cur, a1, a2, a3⟩ => ⟨g, cap, cur, a1, Nat.le_trans hy a2, a3⟩⟩
  go_wp2_with fail
  exact bodyPost_ret (resC _ _ 4 79 _ _ Tryd.results45 rfl (load_node FH.out rfl)) rfl ⟨_, rfl, OB.out _ _ _ FO.out (Nat.le_trans BW.out.size B5.out.size), FB.out⟩
end Go.Proofs.YtnogmgnbhcmajaaDoor

namespace Go.Proofs.YtnogmgnbhcmajaaDoor
open Go.RowKit Wal

/-- Of what was there only blocks of the types S from B on have turned. -/
structure KpS (S : List TypeId) (B : Nat) (w w' : World) : Prop where
  os : w'.os = w.os
  tape : w'.tape = w.tape
  output : w'.output = w.output
  size : w.heap.size ≤ w'.heap.size
  block : ∀ k, k < w.heap.size → (k < B ∨ ∀ cs t m, w.heap[k]? = some (.cells cs t m) → t ∉ S) → w'.heap[k]? = w.heap[k]?
section
variable {S S' : List TypeId} {B B' : Nat} {w w' w'' : World}
theorem KpS.refl (S : List TypeId) (B : Nat) (w : World) : KpS S B w w := ⟨rfl, rfl, rfl, Nat.le_refl _, fun _ _ _ => rfl⟩
theorem KpS.trans (h : KpS S B w w') (k : KpS S B w' w'') : KpS S B w w'' := ⟨k.os.trans h.os, k.tape.trans h.tape, k.output.trans h.output, Nat.le_trans h.size k.size, fun i hi hf => by
  have e := h.block i hi hf
  exact (k.block i (Nat.lt_of_lt_of_le hi h.size) (hf.imp id (fun hh cs t m hx => hh cs t m (by rw [← e]; exact hx)))).trans e⟩
theorem KpS.mono (h : KpS S B w w') (hS : ∀ t ∈ S, t ∈ S') (hB : B' ≤ B) : KpS S' B' w w' := ⟨h.os, h.tape, h.output, h.size, fun i hi hf => h.block i hi (hf.imp (fun h => by omega) (fun hh cs t m hx ht => hh cs t m hx (hS t ht)))⟩
theorem KpS.under (h : Below w.heap.size w w') : KpS S B w w' := ⟨h.os, h.tape, h.output, h.size, fun i hi _ => h.block i hi⟩
theorem KpS.below (h : KpS S B w w') (hB : B ≤ w.heap.size) : Below B w w' := ⟨h.os, h.tape, h.output, h.size, fun i hi => h.block i (by omega) (.inl hi)⟩
theorem KpS.held {q : Nat} {t : TypeId} {cs : Array Value} (h : KpS S B w w') (k : Held w q t cs) (h1 : t ∉ S) : Held w' q t cs :=
  (h.block q k.lt (.inr fun cs' t' m' hh => by
    have e := k.symm.trans hh
    injection e with e
    injection e with _ e2 _
    subst e2
    exact h1)).trans k
theorem KpS.row {base : Nat} {e : TypeId} {size : Nat} {v : Value} {m : Nat} {xs : List Value} (h : KpS S B w w') (ho : w.ownsRow base e size v m xs) (h1 : e ∉ S) : w'.ownsRow base e size v m xs :=
  ⟨ho.1, ho.2.imp id fun ⟨g, cap, cur, a1, a2, a3, r⟩ => ⟨g, cap, cur, a1, a2, h.held (t := e) a3 h1, r⟩⟩
theorem KpS.of_kp (h : Kp B w w') : KpS [56, 59] B w w' := ⟨h.os, h.tape, h.output, h.size, fun i hi hf => h.block i hi (hf.imp id fun hh cs t m hx => by
  have := hh cs t m hx
  simp only [List.mem_cons, List.not_mem_nil, or_false, not_or] at this
  exact this)⟩
theorem KpS.mem {p n : Nat} {f : Nat → Option KB} {C : Nat} (h : KpS S B w w') (m : MemAt C w p n f) (h1 : 54 ∉ S) (h2 : 56 ∉ S) (h3 : 59 ∉ S) : MemAt C w' p n f := by
  obtain ⟨g, ad, hm⟩ := m
  exact ⟨g, ad, h.held hm.blk h1, h.held hm.row h2, fun i x hx => by
    obtain ⟨a1, a2, a3⟩ := hm.each i x hx
    exact ⟨a1, h.held a2 h3, a3⟩, hm.inj, hm.base, hm.small⟩
/-- A store into a block of such a type. -/
theorem KpS.set_ {q : Nat} {t : TypeId} {cs : Array Value} (h : KpS S B w w') (k : Held w' q t cs) (ht : t ∈ S) (hq : B ≤ q) (i : Nat) (v : Value) : KpS S B w (w'.setCell ⟨q, i, none⟩ v) :=
  h.trans ⟨rfl, rfl, rfl, by simp [World.setCell], fun j _ hf => Below.heap_setCell _ _ _ _ (fun e => by
    have e : j = q := e
    subst e
    rcases hf with hf | hf
    · omega
    · exact hf _ _ _ k ht)⟩
/-- An append to a row of such a type. -/
theorem KpS.grown {base : Nat} {e : TypeId} {size : Nat} {v : Value} {m : Nat} {xs : List Value} (h : KpS S B w w') (ho : w'.ownsRow base e size v m xs) (hg : w'.grownBy w'' v.ownBlock) (he : e ∈ S) (hb : B ≤ base) : KpS S B w w'' :=
  h.trans ⟨hg.os, hg.tape, hg.output, hg.size, fun j hj hf => hg.block j hj (fun ej => by
    rcases ho.2 with ⟨rfl, _⟩ | ⟨g, cap, cur, rfl, hgb, hh, _⟩
    · cases ej
    · have : g = j := by simpa [Value.ownBlock] using ej.symm
      subst this
      rcases hf with hf | hf
      · omega
      · exact hf _ _ _ hh he)⟩
end
/-- A key's value. -/
def getE (es : List En) (k : List Nat) : Option (List Nat) := (es.find? fun e => decide (e.1 = k)).map (·.2)
theorem getE_mid {A B C : List En} {k : List Nat} (ha : ∀ e ∈ A, ltB e.1 k = true) (hc : ∀ e ∈ C, ltB k e.1 = true) : getE (A ++ B ++ C) k = getE B k := by
  have h1 : A.find? (fun e => decide (e.1 = k)) = none := List.find?_eq_none.2 fun e he => by
    have := ha e he
    intro h
    rw [(not_lt_self (of_decide_eq_true h)).1] at this
    cases this
  have h2 : C.find? (fun e => decide (e.1 = k)) = none := List.find?_eq_none.2 fun e he => by
    have := hc e he
    intro h
    rw [(not_lt_self (of_decide_eq_true h)).2] at this
    cases this
  unfold getE
  rw [List.find?_append, List.find?_append, h1, h2]
  simp
theorem getE_spot {es : List En} {k : List Nat} {i : Nat} (s : Spot es k i) (hr : Rises es) : (isAt es k i = true → ∃ h : i < es.length, getE es k = some es[i].2) ∧ (isAt es k i = false → getE es k = none) := by
  constructor
  · intro h
    have hi : i < es.length := by
      rcases Nat.lt_or_ge i es.length with h' | h'
      · exact h'
      · unfold isAt at h; rw [List.getElem?_eq_none h'] at h; cases h
    refine ⟨hi, ?_⟩
    have hk : es[i].1 = k := by
      unfold isAt at h
      rw [List.getElem?_eq_getElem hi] at h
      simpa using h
    have e : es = es.take i ++ (es[i] :: es.drop (i + 1)) := by rw [← List.drop_eq_getElem_cons hi, List.take_append_drop]
    have h1 : (es.take i).find? (fun e => decide (e.1 = k)) = none := List.find?_eq_none.2 fun x hx => by
      have := s.low x hx
      intro h
      rw [(not_lt_self (of_decide_eq_true h)).1] at this
      cases this
    have e' : getE es k = getE (es.take i ++ (es[i] :: es.drop (i + 1))) k := congrArg (fun z => getE z k) e
    rw [e']
    unfold getE
    rw [List.find?_append, h1, List.find?_cons, decide_eq_true hk]
    rfl
  · intro h
    unfold getE
    have : es.find? (fun e => decide (e.1 = k)) = none := List.find?_eq_none.2 fun x hx hd => by
      have hd := of_decide_eq_true hd
      rw [← List.take_append_drop i es] at hx
      rcases List.mem_append.1 hx with hx | hx
      · have := s.low x hx
        rw [(not_lt_self hd).1] at this
        cases this
      · have hi : i < es.length := by
          rcases Nat.lt_or_ge i es.length with h' | h'
          · exact h'
          · rw [List.drop_eq_nil_of_le h'] at hx; cases hx
        have hni : es[i].1 ≠ k := fun e => by
          unfold isAt at h
          rw [List.getElem?_eq_getElem hi] at h
          simp [e] at h
        rw [List.drop_eq_getElem_cons hi] at hx
        rcases List.mem_cons.1 hx with rfl | hx
        · exact hni hd
        · have hp : Rises (es.drop i) := List.Pairwise.drop hr
          rw [List.drop_eq_getElem_cons hi] at hp
          have h1 := (List.pairwise_cons.1 hp).1 x hx
          rw [hd] at h1
          have h2 := s.high es[i] (by rw [List.drop_eq_getElem_cons hi]; exact List.mem_cons_self)
          rw [h2] at h1
          cases h1
    rw [this]
    rfl
/-- The kid that leads to a key, among the others. -/
structure Down (f : Nat → Option KB) (d : Nat) (ents es : List En) (bs : List Nat) (k u : List Nat) (j : Nat) (A : List Kid) (x : Kid) (C : List Kid) : Prop where
  e1 : ents = leads (A ++ [x] ++ C)
  e2 : es = pairs A ++ x.es ++ pairs C
  e3 : bs = blocksK (A ++ [x] ++ C)
  at_ : A.length = j
  trees : ∀ y ∈ A ++ [x] ++ C, TreeIs f d y.b y.es y.bs
  low : ∀ e ∈ pairs A, ltB e.1 k = true
  high : ∀ e ∈ pairs C, ltB k e.1 = true
  rises : Rises x.es
  ok : OkAll x.es
  lead : ∀ h : j < ents.length, ents[j] = x.lead
  upto : nextU ents j u = [] ∨ ∀ e ∈ x.es, ltB e.1 (nextU ents j u) = true
  bytes : ∀ y ∈ nextU ents j u, y < 256
theorem leads_at {A C : List Kid} {x : Kid} (h : A.length < (leads (A ++ [x] ++ C)).length) : (leads (A ++ [x] ++ C))[A.length] = x.lead := by
  have e0 : leads (A ++ [x] ++ C) = leads A ++ x.lead :: leads C := by simp [leads]
  simp only [e0]
  rw [List.getElem_append_right (by simp [leads])]
  simp [leads]
theorem Nd.down {f : Nat → Option KB} {d : Nat} {ents es : List En} {bs : List Nat} (h : Nd f (d + 1) ents es bs) (hr : Rises es) (ho : OkAll es) {k u : List Nat} {j : Nat} (hl : Lead ents k j) (hu : u = [] ∨ ∀ e ∈ es, ltB e.1 u = true) (hu8 : ∀ y ∈ u, y < 256) : ∃ A x C, Down f d ents es bs k u j A x C := by
  obtain ⟨ks, rfl, ht, rfl, rfl⟩ := h
  have hj := hl.lt
  have hj' : j < ks.length := by simpa [leads] using hj
  have ek : ks = ks.take j ++ [ks[j]] ++ ks.drop (j + 1) := by
    rw [List.append_assoc, List.singleton_append, ← List.drop_eq_getElem_cons hj', List.take_append_drop]
  have la : (ks.take j).length = j := by rw [List.length_take]; omega
  generalize ks.take j = A at *
  generalize ks[j] = x at *
  generalize ks.drop (j + 1) = C at *
  subst ek
  subst la
  obtain ⟨b1, b2⟩ := kid_bounds ht hr hl
  have ep : pairs (A ++ [x] ++ C) = pairs A ++ x.es ++ pairs C := by rw [pairs_append, pairs_append]; simp [pairs]
  have hr0 := hr
  rw [ep] at hr
  obtain ⟨r1, r2, r3⟩ := rises_append.1 hr
  obtain ⟨r4, r5, r6⟩ := rises_append.1 r1
  have nu : (C = [] ∧ nextU (leads (A ++ [x] ++ C)) A.length u = u) ∨ (∃ y r, C = y :: r ∧ nextU (leads (A ++ [x] ++ C)) A.length u = (y.es.headD ([], [])).1) := by
    have e0 : leads (A ++ [x] ++ C) = (leads A ++ [x.lead]) ++ leads C := by simp [leads]
    have l0 : (leads A ++ [x.lead]).length = A.length + 1 := by simp [leads]
    unfold nextU
    rw [e0, List.getElem?_append_right (by omega), l0, Nat.sub_self]
    rcases C with _ | ⟨y, r⟩
    · exact .inl ⟨rfl, rfl⟩
    · exact .inr ⟨y, r, rfl, rfl⟩
  refine ⟨A, x, C, rfl, ep, rfl, rfl, ht, b1, b2, r5, fun e he => ho e (by rw [ep]; simp [he]), fun h => leads_at h, ?_, ?_⟩
  · rcases nu with ⟨rfl, e⟩ | ⟨y, r, rfl, e⟩
    · rw [e]
      exact hu.imp id fun h e he => h e (by rw [ep]; simp [he])
    · rw [e]
      exact .inr fun z hz => r3 z (by simp [hz]) _ (kid_in (by simp) (head_mem (ht y (by simp)).top.2.2.1))
  · rcases nu with ⟨rfl, e⟩ | ⟨y, r, rfl, e⟩
    · rw [e]; exact hu8
    · rw [e]
      exact (ho _ (kid_in (by simp) (head_mem (ht y (by simp)).top.2.2.1))).kb
end Go.Proofs.YtnogmgnbhcmajaaDoor
