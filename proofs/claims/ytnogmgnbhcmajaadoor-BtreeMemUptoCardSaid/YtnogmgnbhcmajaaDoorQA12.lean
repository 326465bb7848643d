/-
  btree: bytes and texts laid one behind the other in a block of 512 bytes. · btree: a node's block is made.
-/
import Derived.Test.YtnogmgnbhcmajaaDoorQA7
import Derived.Lib.AppendStr
namespace Go.Proofs.YtnogmgnbhcmajaaDoor
open Go.RowKit Wal

/-- Block g is the bytes l, and zeros up to 512. -/
structure Tld (w : World) (g : Nat) (l : List Nat) : Prop where
  held : Held w g 5 ((pad l).map u8v).toArray
  bytes : ∀ x ∈ l, x < 256
  fits : l.length ≤ 512
section
variable {w w' : World} {g : Nat} {l : List Nat}
theorem pad_set {l : List Nat} (h : l.length < 512) (x : Nat) : (pad l).set l.length x = pad (l ++ [x]) := by
  unfold pad
  rw [List.set_append_right _ _ (Nat.le_refl _), Nat.sub_self]
  obtain ⟨m, hm⟩ : ∃ m, 512 - l.length = m + 1 := ⟨511 - l.length, by omega⟩
  rw [hm, List.replicate_succ, List.set_cons_zero, List.length_append, List.length_singleton, show 512 - (l.length + 1) = m by omega, List.append_assoc]
  rfl
theorem Tld.set_ (h : Tld w g l) (hl : l.length < 512) (x : Nat) (hx : x < 256) : Tld (w.setCell ⟨g, l.length, none⟩ (u8v x)) g (l ++ [x]) := by
  refine ⟨?_, fun y hy => ?_, by simp; omega⟩
  · have := h.held.set_ l.length (u8v x)
    rw [← pad_set hl, List.map_set]
    simpa using this
  · rcases List.mem_append.1 hy with hy | hy
    · exact h.bytes y hy
    · have : y = x := by simpa using hy
      omega
theorem Tld.only {F : List Nat} (h : Tld w g l) (k : Only F w w') (hg : g ∉ F) : Tld w' g l := ⟨h.held.only k hg, h.bytes, h.fits⟩
theorem Tld.below (h : Tld w g l) (k : Below w.heap.size w w') : Tld w' g l := ⟨h.held.below k h.held.lt, h.bytes, h.fits⟩
theorem Tld.bts (h : Tld w g l) {n : Nat} (hn : n ≤ 512) : Bts w (some ⟨g, 0, none⟩) n ((pad l).take n) := by
  have hp := pad_length h.fits
  refine ⟨by rw [List.length_take, hp]; omega, fun x hx => pad_bytes h.bytes x (List.mem_of_mem_take hx), fun _ => ⟨g, 0, rfl, h.held.lt, fun i hi => ?_⟩⟩
  have hl : i < (pad l).length := by rw [hp]; omega
  rw [Nat.zero_add, h.held.cell i, List.getElem?_toArray, List.getElem?_map, List.getElem?_eq_getElem hl, List.getD_eq_getElem?_getD, List.getElem?_take, if_pos hi, List.getElem?_eq_getElem hl]
  rfl
theorem run_append_tld (h : Tld w g l) (hl : l.length < 512) (ty : TypeId) (a c : Nat) (x : Nat) (hc : w.cell? ⟨a, 0, none⟩ = some (.int .u8 (x : Int))) :
    (Builtin.append_ #[34, 34] ty #[.slice (some ⟨g, 0, none⟩) l.length 512, .slice (some ⟨a, 0, none⟩) 1 c]).run Tryd.prog w = .ok (.slice (some ⟨g, 0, none⟩) (l.length + 1) 512) (w.setCell ⟨g, l.length, none⟩ (u8v x)) := by
  obtain ⟨i, hi, _, hi1, _⟩ := info_parts info5
  have hp := pad_length h.fits
  have := run_append_room_cells (P := Tryd.prog) w 34 ty 5 i Tryd.underlying34 hi g 0 l.length 512 ⟨a, 0, none⟩ 1 c [u8v x] (by rw [hi1]; rfl)
    (fun j u hu => by
      obtain rfl : j = 0 := by
        rcases j with _ | j
        · rfl
        · simp at hu
      have e : u8v x = u := by simpa using hu
      rw [← e]
      exact hc) (fun u hu => by
        have : u = u8v x := by simpa using hu
        rw [this]; rfl) (by omega)
    (fun j hj => by
      have : j = 0 := by simpa using hj
      subst this
      rw [h.held.cell, hi1, List.getElem?_toArray, List.getElem?_map, List.getElem?_eq_getElem (by rw [hp]; omega)]
      rfl) (fun j hj => h.held.frozen _)
  rw [hi1] at this
  simp only [Nat.mul_one, Nat.zero_add] at this
  exact this
theorem wpList_append_tld {ops : Array Oper} {rest : List Oper} {o : Oper} {a : Act} {Q : Exit → Act → World → Prop} (hgd : o.guard = none) (s x : Operand)
    (ho : o.op = .call { callee := .builtin .append, args := #[s, x], argTypes := #[34, 34] }) (h : Tld w g l) (hl : l.length < 512) (hs : a.eval s = .slice (some ⟨g, 0, none⟩) l.length 512) (b c : Nat) (y : Nat) (hx : a.eval x = .slice (some ⟨b, 0, none⟩) 1 c)
    (hc : w.cell? ⟨b, 0, none⟩ = some (.int .u8 (y : Int)))
    (k : wpList Tryd.prog ops Q rest (a.put o.dst (.slice (some ⟨g, 0, none⟩) (l.length + 1) 512)) (w.setCell ⟨g, l.length, none⟩ (u8v y))) : wpList Tryd.prog ops Q (o :: rest) a w := by
  have h1 := run_append_tld h hl o.type b c y hc
  refine wpList_plain hgd fun _ hK => ?_
  unfold Oper.wp execOp
  simp only [ho, resolve, invoke, builtin, Sem.run_bind, Sem.run_pure, Result.andThen_ok, List.map_toArray, List.map_cons, List.map_nil, hs, hx, h1]
  exact hK _ _ k
end


theorem strCells_of {l : List Nat} (h : ∀ x ∈ l, x < 256) : Lib.strCells (strB l) = l.map u8v := byteCells_strB h
theorem pad_laid {l t : List Nat} (h : l.length + t.length ≤ 512) : (((pad l).map u8v).toArray.toList.take l.length ++ t.map u8v ++ ((pad l).map u8v).toArray.toList.drop (l.length + t.length)) = (pad (l ++ t)).map u8v := by
  unfold pad
  simp only [List.map_append, List.map_replicate, List.length_append]
  rw [List.take_left' (by simp), List.drop_append, List.drop_eq_nil_of_le (by simp), List.nil_append, List.drop_replicate, List.length_map, List.append_assoc]
  rw [show 512 - l.length - (l.length + t.length - l.length) = 512 - (l.length + t.length) by omega, List.append_assoc]
theorem run_append_tldS {w : World} {g : Nat} {l : List Nat} (h : Tld w g l) (t : List Nat) (ht : ∀ x ∈ t, x < 256) (hl : l.length + t.length ≤ 512) (ty : TypeId) :
    (Builtin.append_ #[34, 9] ty #[.slice (some ⟨g, 0, none⟩) l.length 512, .string (strB t)]).run Tryd.prog w = .ok (.slice (some ⟨g, 0, none⟩) (l.length + t.length) 512) (w.setRow g ((pad (l ++ t)).map u8v).toArray) := by
  obtain ⟨i, hi, _, hi1, _⟩ := info_parts info5
  have sz := strB_size t
  have hp := pad_length h.fits
  have := Lib.run_append_room_string (P := Tryd.prog) (w := w) 34 9 ty 5 i Tryd.underlying34 Tryd.underlying9 hi hi1 g l.length 512 _ h.held (strB t) (by rw [sz]; exact hl) (by rw [sz]; simp [hp]; omega)
  rw [sz, strCells_of ht, pad_laid hl] at this
  exact this
theorem Tld.row_ {w : World} {g : Nat} {l : List Nat} (h : Tld w g l) (t : List Nat) (ht : ∀ x ∈ t, x < 256) (hl : l.length + t.length ≤ 512) : Tld (w.setRow g ((pad (l ++ t)).map u8v).toArray) g (l ++ t) :=
  ⟨setRow_heap w g _ _ _ _ h.held, fun x hx => (List.mem_append.1 hx).elim (h.bytes x) (ht x), by rw [List.length_append]; exact hl⟩
theorem only_row (w : World) (g : Nat) (cs : Array Value) : Only [g] w (w.setRow g cs) :=
  ⟨rfl, rfl, rfl, by simp, fun k _ hk => setRow_other w g k _ (fun e => hk (by simp [e]))⟩
set_option maxRecDepth 100000 in
theorem wpList_append_tldS {w : World} {g : Nat} {l : List Nat} {ops : Array Oper} {rest : List Oper} {o : Oper} {a : Act} {Q : Exit → Act → World → Prop} (hgd : o.guard = none) (s x : Operand)
    (ho : o.op = .call { callee := .builtin .append, args := #[s, x], argTypes := #[34, 9] }) (h : Tld w g l) (t : List Nat) (ht : ∀ x ∈ t, x < 256) (hl : l.length + t.length ≤ 512) (hs : a.eval s = .slice (some ⟨g, 0, none⟩) l.length 512) (hx : a.eval x = .string (strB t))
    (k : wpList Tryd.prog ops Q rest (a.put o.dst (.slice (some ⟨g, 0, none⟩) (l.length + t.length) 512)) (w.setRow g ((pad (l ++ t)).map u8v).toArray)) : wpList Tryd.prog ops Q (o :: rest) a w := by
  have h1 := run_append_tldS h t ht hl o.type
  refine wpList_plain hgd fun _ hK => ?_
  unfold Oper.wp execOp
  simp only [ho, resolve, invoke, builtin, Sem.run_bind, Sem.run_pure, Result.andThen_ok, List.map_toArray, List.map_cons, List.map_nil, hs, hx, h1]
  exact hK _ _ k
set_option maxRecDepth 100000 in
set_option maxHeartbeats 400000 in
/-- appendText, in a block with room. -/
theorem appendText_any (w : World) (g : Nat) (l t : List Nat) (h : Tld w g l) (ht : ∀ x ∈ t, x < 256) (h1 : t.length < 256) (hl : l.length + (encT t).length ≤ 512) :
    Calls Tryd.prog 86 #[.slice (some ⟨g, 0, none⟩) l.length 512, .string (strB t)] w fun e w' => e = .returned (.slice (some ⟨g, 0, none⟩) (l ++ encT t).length 512) ∧ Tld w' g (l ++ encT t) ∧ Only [g] w w' := by
  have H := Lib.hid h
  have HT := Lib.hid ht
  have sz := strB_size t
  have le : (encT t).length = t.length + 1 := rfl
  rw [le] at hl
  have hm : IntKind.u8.wrap (t.length : Int) = (t.length : Int) := by rw [IntKind.wrap_u8']; omega
  have LN : Hid ((l ++ encT t).length = l.length + 1 + t.length) := by show _ = _; rw [List.length_append, le]; omega
  have EQ : Hid (l ++ encT t = (l ++ [t.length]) ++ t) := by show _ = _; simp [encT]
  obtain ⟨n, hn⟩ : ∃ n, n = t.length := ⟨_, rfl⟩
  have HN := Lib.hid hn
  rw [← hn] at sz hm h1 hl LN EQ
  clear h ht le hn
  have hx0 : w.heap.size = w.heap.size := rfl
  clear hx0
  obtain ⟨w1, hw1⟩ : ∃ w1, w1 = (w.alloc (.cells #[.int .u8 (n : Int)] 5)) := ⟨_, rfl⟩
  have T1 : Hid (Tld w1 g l) := by rw [hw1]; exact H.out.below ((Below.refl _ _).alloc (Nat.le_refl _) _)
  have C1 : Hid (w1.cell? ⟨w.heap.size, 0, none⟩ = some (.int .u8 (n : Int))) := by rw [hw1]; show _ = _; rw [World.cell?_alloc_new]; rfl
  have O1 : Hid (Only [g] w w1) := by rw [hw1]; exact (Only.refl _ _).alloc _
  have T2 : Hid (Tld (w1.setCell ⟨g, l.length, none⟩ (u8v n)) g (l ++ [n])) := T1.out.set_ (by omega) n h1
  have O2 : Hid (Only [g] w (w1.setCell ⟨g, l.length, none⟩ (u8v n))) := O1.out.setCell (p := ⟨g, l.length, none⟩) (.inl (by simp)) _
  have L1 : Hid ((l ++ [n]).length = l.length + 1) := by show _ = _; simp
  have T3 := Lib.hid (T2.out.row_ t HT.out (by rw [L1.out, ← HN.out]; omega))
  have O3 := Lib.hid (O2.out.trans (only_row (w1.setCell ⟨g, l.length, none⟩ (u8v n)) g ((pad ((l ++ [n]) ++ t)).map u8v).toArray))
  have HW := Lib.hid hw1
  clear hw1
  go_enter Tryd.func86, Tryd.ntmps86
  go_upto_region 2 with (at_builtin; rw [← HW.out]; refine wpList_append_tld (g := g) (l := l) rfl (o := ⟨some 10, _, _, _, _, _⟩) (.tmp 5) (.tmp 9) rfl T1.out (by omega) rfl w.heap.size 1 n rfl C1.out ?_)
  go_wp2_with (at_builtin; refine wpList_append_tldS (g := g) (l := l ++ [n]) rfl (.tmp 11) (.tmp 12) rfl T2.out t HT.out (by rw [L1.out, ← HN.out]; omega) (by rw [L1.out]; rfl) rfl ?_)
  go_ret
  have e3 : l ++ [n] ++ t = l ++ n :: t := by simp
  have e4 : (l ++ n :: t).length = l.length + 1 + t.length := by simp; omega
  have t3 := T3.out
  have o3 := O3.out
  rw [e3] at t3 o3
  rw [EQ.out, e3]
  exact ⟨by rw [e4]; rfl, t3, o3 (fun x hx => .inl hx)⟩
end Go.Proofs.YtnogmgnbhcmajaaDoor

namespace Go.Proofs.YtnogmgnbhcmajaaDoor
open Go.RowKit Wal
theorem make_room (u : World) : (Instr.makeSlice 34 (.int .i64 0) (.int .i64 512)).run Tryd.prog u = .ok (.slice (some ⟨u.heap.size, 0, none⟩) 0 512) (u.alloc (.cells ((pad []).map u8v).toArray 5)) := by
  obtain ⟨i0, hi, hz0, hz1, hz2⟩ := info_parts info5
  have h := run_make (P := Tryd.prog) u 34 5 i0 (.int .u8 0) Tryd.underlying34 hi hz0 .i64 .i64 0 512 (by omega) (by omega) (by rw [hz2]; decide) (by decide)
  have e2 : madeCells #[.int .u8 0] 512 = ((pad []).map u8v).toArray := by
    apply Array.toList_inj.1
    rw [toList_madeCells_one]
    unfold pad
    rw [List.nil_append, List.map_replicate, List.toList_toArray]
    rfl
  rw [← e2]
  simpa [hz1, Value.cells] using h
theorem encN_succ (level : Nat) (es : List En) (k : Nat) (h : k < es.length) : encN level (es.take (k + 1)) = encN level (es.take k) ++ encT es[k].1 ++ encT es[k].2 := by
  unfold encN
  rw [List.take_succ_eq_append_getElem h, List.flatMap_append]
  simp [encE]
theorem below_only {B g : Nat} {w w' w'' : World} (h : Below B w w') (o : Only [g] w' w'') (hg : B ≤ g) (hB : B ≤ w'.heap.size) : Below B w w'' :=
  ⟨o.os.trans h.os, o.tape.trans h.tape, o.output.trans h.output, Nat.le_trans h.size o.size, fun i hi => (o.block i (by omega) (by simp; omega)).trans (h.block i hi)⟩
theorem totalE_take_le (es : List En) (k : Nat) : totalE (es.take k) ≤ totalE es := by
  have : totalE (es.take k) + totalE (es.drop k) = totalE es := by rw [← totalE_append, List.take_append_drop]
  omega
set_option maxRecDepth 100000 in
set_option maxHeartbeats 1600000 in
theorem pack_any (w : World) (level : Nat) (hl8 : level < 256) (A : Option Addr) (c : Nat) (es : List En) (h : EAt w A es) (hs : ∀ e ∈ es, Small e) (hf : totalE es ≤ 511) (hn : es.length ≤ 100000) :
    Calls Tryd.prog 73 #[.int .i64 (level : Int), .slice A es.length c] w fun x w' => ∃ g, x = .returned (.slice (some ⟨g, 0, none⟩) 512 512) ∧ w.heap.size ≤ g ∧ Tld w' g (encN level es) ∧ Below w.heap.size w w' := by
  have H := Lib.hid h
  have HS := Lib.hid hs
  have mk := make_room
  obtain ⟨g, hg⟩ : ∃ g, g = w.heap.size := ⟨_, rfl⟩
  obtain ⟨w1, hw1⟩ : ∃ w1, w1 = w.alloc (.cells ((pad []).map u8v).toArray 5) := ⟨_, rfl⟩
  have T1 : Hid (Tld w1 g []) := by rw [hw1]; exact ⟨Held.new _ _ _ hg, by simp, by simp⟩
  have B1 : Hid (Below w.heap.size w w1) := by rw [hw1]; exact (Below.refl _ _).alloc (Nat.le_refl _) _
  have HW := Lib.hid hw1
  have HG := Lib.hid hg
  have G0 : Hid (w.heap.size ≤ g) := by rw [hg]; exact Nat.le_refl _
  clear hw1 hg h hs
  have hm : IntKind.u8.wrap (level : Int) = (level : Int) := by rw [IntKind.wrap_u8']; omega
  go_enter Tryd.func73, Tryd.ntmps73
  go_upto_region 2 with fail
  rw [← HW.out, ← HG.out]
  clear HW mk
  obtain ⟨w2, hw2⟩ : ∃ w2, w2 = w1.alloc (.cells #[.int .u8 (level : Int)] 5) := ⟨_, rfl⟩
  have T2 : Hid (Tld w2 g []) := by rw [hw2]; exact T1.out.below ((Below.refl _ _).alloc (Nat.le_refl _) _)
  have C2 : Hid (w2.cell? ⟨w1.heap.size, 0, none⟩ = some (.int .u8 (level : Int))) := by rw [hw2]; show _ = _; rw [World.cell?_alloc_new]; rfl
  have B2 : Hid (Below w.heap.size w w2) := by rw [hw2]; exact B1.out.alloc B1.out.size _
  have T3 : Hid (Tld (w2.setCell ⟨g, ([] : List Nat).length, none⟩ (u8v level)) g ([] ++ [level])) := T2.out.set_ (by simp) level hl8
  have B3 : Hid (Below w.heap.size w (w2.setCell ⟨g, ([] : List Nat).length, none⟩ (u8v level))) := below_only B2.out ((Only.refl [g] w2).setCell (p := ⟨g, 0, none⟩) (.inl (by simp)) _) G0.out B2.out.size
  have HW2 := Lib.hid hw2
  clear hw2
  go_wp2_with (at_builtin; rw [← HW2.out]; refine wpList_append_tld (g := g) (l := []) rfl (o := ⟨some 13, _, _, _, _, _⟩) (.tmp 9) (.tmp 12) rfl T2.out (by simp) rfl w1.heap.size 1 level rfl C2.out ?_)
  go_loopw [5, 16] (fun v i wr => ∃ k : Nat, k ≤ es.length ∧ i = .int .i64 k ∧ v = .slice (some ⟨g, 0, none⟩) (encN level (es.take k)).length 512 ∧ Hid (Tld wr g (encN level (es.take k)) ∧ Below w.heap.size w wr)) (fun _ i _ => es.length - (intOf i).toNat)
  case atStart => exact ⟨0, by omega, rfl, rfl, T3.out, B3.out⟩
  case round =>
    obtain ⟨k, hk, rfl, rfl, R⟩ := hrel
    by_cases hlt : k < es.length
    · have lk : (k : Int) < (es.length : Int) := by omega
      obtain ⟨g2, off, rfl, x0, x1⟩ := (H.out.below R.out.2).at_ hlt
      have SM := Lib.hid (HS.out es[k] (List.getElem_mem hlt))
      have EN := Lib.hid (encN_succ level es k hlt)
      have LE := Lib.hid (encN_length level (es.take (k + 1)))
      have TL := Lib.hid (totalE_take_le es (k + 1))
      have R1 : Hid (Tld wr g (encN level (es.take k))) := R.out.1
      have R2 : Hid (Below w.heap.size w wr) := R.out.2
      have fit : Hid ((encN level (es.take k)).length + (encT es[k].1).length + (encT es[k].2).length ≤ 512) := by
        have h1 := LE.out
        have h2 := TL.out
        rw [EN.out, List.length_append, List.length_append] at h1
        show _ ≤ _
        omega
      clear R LE TL
      generalize encN level (es.take k) = l at *
      generalize es[k] = e at *
      obtain ⟨ek, ev⟩ := e
      go_upto_region 6 with fail
      obtain ⟨b, hb⟩ : ∃ b, b = wr.heap.size := ⟨_, rfl⟩
      obtain ⟨wq, hwq⟩ : ∃ wq, wq = wr.alloc (.cells #[.string (strB ek), .string (strB ev)] 77) := ⟨_, rfl⟩
      have HQ : Hid (Held wq b 77 #[.string (strB ek), .string (strB ev)]) := by rw [hwq]; exact Held.new _ _ _ hb
      have BQ : Hid (Below w.heap.size w wq) := by rw [hwq]; exact R2.out.alloc R2.out.size _
      have TQ : Hid (Tld wq g l) := by rw [hwq]; exact R1.out.below ((Below.refl _ _).alloc (Nat.le_refl _) _)
      have NB : Hid (b ∉ [g]) := by
        have := R1.out.held.lt
        rw [hb]
        show ¬ _
        simp
        omega
      have A1 := Lib.hid (appendText_any wq g l ek TQ.out SM.out.kb SM.out.k (by have := fit.out; dsimp only at this; omega))
      obtain ⟨l2, hl2⟩ : ∃ l2, l2 = l ++ encT ek := ⟨_, rfl⟩
      obtain ⟨l3, hl3⟩ : ∃ l3, l3 = l2 ++ encT ev := ⟨_, rfl⟩
      have E3 : Hid (encN level (es.take (k + 1)) = l3) := by show _ = _; rw [EN.out, hl3, hl2]
      have le2 : Hid (l2.length + (encT ev).length ≤ 512) := by have := fit.out; show _ ≤ _; rw [hl2, List.length_append]; exact this
      rw [← hl2] at A1
      have HL3 := Lib.hid hl3
      clear hl2 hl3
      rw [← hwq, ← hb]
      have z0 := HQ.out.cell 0
      clear hb hwq x0 x1
      go_wp2_with fail
      refine A1.out.mono ?_
      rintro e w5 ⟨rfl, t5, o5⟩
      have T5 := Lib.hid t5
      have B5 : Hid (Below w.heap.size w w5) := below_only BQ.out o5 G0.out BQ.out.size
      have H5 := Lib.hid (HQ.out.only o5 NB.out)
      have A2 := Lib.hid (appendText_any w5 g l2 ev t5 SM.out.vb SM.out.v le2.out)
      rw [← HL3.out] at A2
      clear t5 o5 A1 z0
      have z1 := H5.out.cell 1
      go_wp2_with fail
      refine A2.out.mono ?_
      rintro e w6 ⟨rfl, t6, o6⟩
      have F : Hid (Tld w6 g (encN level (es.take (k + 1))) ∧ Below w.heap.size w w6) := ⟨by rw [E3.out]; exact t6, below_only B5.out o6 G0.out B5.out.size⟩
      clear t6 o6 A2 z1
      go_wp2_with fail
      go_roundw
      case rel => exact ⟨k + 1, by omega, by go_num, by rw [E3.out], F⟩
      case measure => simp [intOf]; omega
    · obtain rfl : k = es.length := by omega
      rw [List.take_length] at R ⊢
      have l1 := encN_length level es
      have F : Hid (Tld wr g (encN level es) ∧ Below w.heap.size w wr) := R
      clear R
      go_wp2_with fail
      go_ret
      exact ⟨g, rfl, G0.out, F.out.1, F.out.2⟩
end Go.Proofs.YtnogmgnbhcmajaaDoor
