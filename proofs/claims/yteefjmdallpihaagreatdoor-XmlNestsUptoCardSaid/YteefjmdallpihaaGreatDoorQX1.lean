/-
  xml: areDistinct: a map of names. · xml: a namespace more is declared. · xml: declare. · xml: reference, over what numbered answers. · xml: plain, over what strings.IndexAny answers.
-/
import Derived.Test.YteefjmdallpihaaGreatDoorXr9
import Derived.Maps.OwnSet
namespace Go.Proofs.YteefjmdallpihaaGreatDoor
open Go.RowKit Reply Go.Shelf Go.Maps

theorem lawT : Keyed Tryz.prog 9 := string_keyed Tryz.underlying9
/-- Block b is a map of the names l. -/
def NamesAt (w : World) (b : Nat) (l : List Reply.B) : Prop := ∃ D : DataW Unit, w.ownsMap Tryz.prog 9 unitElem b l.length D ∧ (∀ x : Reply.B, has D (.string x) = decide (x ∈ l)) ∧ (size D = l.length ↔ l.Nodup)
theorem NamesAt.lt {w : World} {b : Nat} {l : List Reply.B} (h : NamesAt w b l) : b < w.heap.size := by
  obtain ⟨D, h, _⟩ := h
  exact h.lt
theorem NamesAt.below {w w' : World} {b : Nat} {l : List Reply.B} (h : NamesAt w b l) (k : Below w.heap.size w w') : NamesAt w' b l := by
  have hb := h.lt
  obtain ⟨D, ⟨e, c, hh, r⟩, t⟩ := h
  exact ⟨D, ⟨e, c, (k.block b hb).trans hh, r⟩, t⟩
theorem NamesAt.made (w : World) {b : Nat} (hb : b = w.heap.size) : NamesAt (w.alloc (.map #[] 0)) b [] := by
  subst hb
  refine ⟨.map [], World.ownsMap_made w _ _ _, fun x => ?_, by simp [size]⟩
  simp [has]
theorem nodup_snoc {l : List Reply.B} {x : Reply.B} : (l ++ [x]).Nodup ↔ l.Nodup ∧ x ∉ l := by
  rw [List.nodup_append]
  constructor
  · rintro ⟨h1, _, h3⟩
    exact ⟨h1, fun hm => h3 x hm x (by simp) rfl⟩
  · rintro ⟨h1, h2⟩
    refine ⟨h1, by simp, fun a ha b hb e => ?_⟩
    have : b = x := by simpa using hb
    subst this
    subst e
    exact h2 ha
theorem NamesAt.store {w : World} {b : Nat} {l : List Reply.B} (h : NamesAt w b l) (hl : l.length ≤ 1048576) (x : Reply.B) (hx : x.length ≤ 65536) :
    ∃ w', (Instr.mapUpdate 118 (.map (some b)) (.string (S x)) (.agg #[])).run Tryz.prog w = .ok () w' ∧ NamesAt w' b (l ++ [x]) ∧ Only [b] w w' := by
  obtain ⟨D, ho, hh, hs⟩ := h
  have hk : keyOf Tryz.prog 9 (.string (S x)) = some (.string x) := by
    simp [keyOf, Tryz.underlying9, mapKey]
    exact ⟨by rw [S_size]; unfold maxLen; omega, rfl⟩
  obtain ⟨w', hr, ho', hm⟩ := ho.store lawT Tryz.underlying118 (by unfold maxLen; omega) hk unitElem_mk
  have TD := ho.tidy lawT
  have hz := ho.size_le
  refine ⟨w', hr, ⟨D.put (.string x) (.agg []), by rw [List.length_append]; exact ho', fun y => ?_, ?_⟩, (Only.refl _ _).grown hm.grown (fun k hk => .inl (by injection hk with hk; simp [hk]))⟩
  · by_cases e : y = x
    · subst e
      rw [has_put_same TD.isMap (by trivial)]
      simp
    · rw [has_put_other (fun e2 => e (by injection e2)), hh y]
      simp [e]
  · rw [size_put TD, hh x, List.length_append, List.length_singleton, nodup_snoc]
    by_cases hx : x ∈ l
    · rw [if_pos (by simpa using hx)]
      constructor
      · intro e; omega
      · intro e; exact absurd hx e.2
    · rw [if_neg (by simpa using hx)]
      constructor
      · intro e; exact ⟨hs.1 (by omega), hx⟩
      · intro e; rw [hs.2 e.1]
set_option maxRecDepth 100000 in
set_option maxHeartbeats 8000000 in
theorem distX_any (w : World) (A : Option Addr) (c : Nat) (l : List (Reply.B × Reply.B)) (hA : HAtA w A l) (hn : l.length ≤ 1048576) (hz : ∀ x ∈ l, x.1.length ≤ 65536) :
    Calls Tryz.prog 61 #[.slice A l.length c] w fun e w' => e = .returned (.bool (Xml.distinct l)) ∧ Below w.heap.size w w' := by
  have HA := Lib.hid hA
  have HZ := Lib.hid hz
  obtain ⟨n, hnn⟩ : ∃ n, n = l.length := ⟨_, rfl⟩
  have HN := Lib.hid hnn
  obtain ⟨R, hR⟩ : ∃ x, x = Xml.distinct l := ⟨_, rfl⟩
  have HR := Lib.hid hR
  have hmm := @run_makeMap Tryz.prog
  have M0 : Hid (NamesAt (w.alloc (.map #[] 0)) w.heap.size []) := NamesAt.made w rfl
  have B0 : Hid (Below w.heap.size w (w.alloc (.map #[] 0))) := (Below.refl _ _).alloc (Nat.le_refl _) _
  rw [← hnn] at hn
  rw [← hnn, ← hR]
  clear hA hz hnn hR
  go_enter Tryz.func61, Tryz.ntmps61
  go_wp2_with fail
  clear hmm
  obtain ⟨b, hb⟩ : ∃ b, b = w.heap.size := ⟨_, rfl⟩
  rw [← hb] at M0
  rw [← hb]
  have HB := Lib.hid hb
  clear hb
  go_loopw [9] (fun v wr => ∃ k : Nat, k ≤ n ∧ v = .int .i64 k ∧ Hid (NamesAt wr b ((l.map (·.1)).take k)) ∧ Hid (Below w.heap.size w wr)) (fun v _ => n - (intOf v).toNat)
  case atStart => exact ⟨0, Nat.zero_le _, rfl, M0, B0⟩
  case round =>
    obtain ⟨k, hk, rfl, M, BW⟩ := hrel
    clear M0 B0
    by_cases hlt : k < n
    · have hkl : k < l.length := by rw [← HN.out]; exact hlt
      have kz : (k : Int) < (n : Int) := by omega
      obtain ⟨g, off, rfl, x0, x1⟩ := (HA.out.below BW.out).at_ hkl
      obtain ⟨nm, hnm⟩ : ∃ x, x = l[k].1 := ⟨_, rfl⟩
      rw [← hnm] at x0
      have NX : Hid ((l.map (·.1)).take (k + 1) = (l.map (·.1)).take k ++ [nm]) := by
        show _ = _
        rw [List.take_succ_eq_append_getElem (by simpa using hkl), List.getElem_map, hnm]
      have nz : nm.length ≤ 65536 := by rw [hnm]; exact HZ.out _ (List.getElem_mem _)
      generalize S l[k].2 = sv at *
      obtain ⟨wa, hwa⟩ : ∃ x, x = wr.alloc (.cells #[.string (S nm), .string sv] 36) := ⟨_, rfl⟩
      have HWA := Lib.hid hwa
      have A1 : Below wr.heap.size wr wa := by rw [hwa]; exact (Below.refl _ _).alloc (Nat.le_refl _) _
      have K1 : Held wa wr.heap.size 36 #[.string (S nm), .string sv] := by rw [hwa]; exact Held.new _ _ _ rfl
      obtain ⟨wu, UP, MU, OU⟩ := (M.out.below A1).store (by rw [List.length_take]; omega) nm nz
      have B2 : Hid (Below w.heap.size w wu) := by
        have h := BW.out.trans (A1.mono BW.out.size)
        exact OU.from_ h (fun x hx => by have := HB.out; rw [List.mem_singleton.1 hx]; omega)
      have M2 : Hid (NamesAt wu b ((l.map (·.1)).take (k + 1))) := by show NamesAt _ _ _; rw [NX.out]; exact MU
      have y0 := K1.cell 0
      rw [hwa] at UP y0
      clear hwa A1 K1 MU OU hnm
      go_wp2_with fail
      go_roundw
      case rel => exact ⟨k + 1, by omega, by go_num, M2, B2⟩
      case measure => simp [intOf]; omega
    · obtain rfl : k = n := by omega
      obtain ⟨D, ho, _, hs⟩ := M.out
      have LE := ho.len Tryz.underlying118
      have el : ((l.map (·.1)).take k) = l.map (·.1) := List.take_of_length_le (by rw [List.length_map, ← HN.out]; exact Nat.le_refl _)
      rw [el] at hs
      have F : Hid (R = (((size D : Nat) : Int) == (k : Int))) := by
        show _ = _
        rw [HR.out]
        unfold Xml.distinct
        have e1 : (l.map (·.1)).length = k := by rw [List.length_map, HN.out]
        by_cases hd : (l.map (·.1)).Nodup
        · rw [decide_eq_true hd, hs.2 hd, e1]
          simp
        · rw [decide_eq_false hd]
          have : size D ≠ k := fun e => hd (hs.1 (by rw [e, e1]))
          symm
          rw [beq_eq_false_iff_ne]
          omega
      generalize size D = sd at *
      clear hs ho el
      go_wp2_with fail
      go_ret
      exact ⟨by rw [F.out]; rfl, BW.out⟩
end Go.Proofs.YteefjmdallpihaaGreatDoor

namespace Go.Proofs.YteefjmdallpihaaGreatDoor
open Go.RowKit Reply Go.Shelf

theorem ite_ofX {c p q : Prop} [Decidable c] (h : c) (hp : p) : if c then p else q := by rw [if_pos h]; exact hp
set_option maxRecDepth 100000 in
/-- append(r.spaces, x...), as one operation of a region. -/
theorem oper_append_S {w : World} {o : Oper} {a : Act} {Q : Exit → Act → World → Prop} {K : Act → World → Prop} (s x : Operand)
    (ho : o.op = .call { callee := .builtin .append, args := #[s, x], argTypes := #[54, 54] })
    (base : Nat) (v : Value) (k : List (Reply.B × Reply.B)) (hs : a.eval s = v) (hown : OwnHS w base v k)
    (ad : Addr) (m c : Nat) (l : List (Reply.B × Reply.B)) (hx : a.eval x = .slice (some ad) m c) (hl : l.length = m) (hA : HAtS w (some ad) l) (hr : k.length + m ≤ 100000) (hbase : base ≤ w.heap.size)
    (h : ∀ v' w', OwnHS w' base v' (k ++ l) → w.grownBy w' v.ownBlock → K (a.put o.dst v') w') : Oper.wp Tryz.prog o a w K Q := by
  obtain ⟨v', w', hrun, h2, h3⟩ := run_append_hS base o.type v k hown ad m c l hl hA hr hbase
  unfold Oper.wp execOp
  simp only [ho, resolve, invoke, builtin, Sem.run_bind, Sem.run_pure, Result.andThen_ok, List.map_toArray, List.map_cons, List.map_nil, hs, hx, hrun]
  exact h v' w' h2 h3
section
variable {w0 w w' : World} {C p : Nat} {s : Xml.St} {A : Option Addr} {c : Nat}
theorem RdX.grown (h : RdX w0 C w p s A c) (hg : w.grownBy w' (Value.slice A s.spaces.length c).ownBlock) : Held w' p 56 #[.string (S s.rest), .slice A s.spaces.length c] ∧ Below w0.heap.size w0 w' ∧ C ≤ w'.heap.size ∧ FrX C p w w' := by
  refine ⟨?_, ?_, Nat.le_trans h.sz hg.size, (FrX.refl C p w).grown h.row hg⟩
  · exact (hg.block p h.blk.lt (fun e => h.far p e.symm (by simp))).trans h.blk
  · exact h.bel.trans ⟨hg.os, hg.tape, hg.output, hg.size, fun k hk => hg.block k (by have := h.bel.size; omega) (fun e => by have := (h.row.lt k e.symm).1; have := h.lC; omega)⟩
theorem RdX.push (h : RdX w0 C w p s A c) {A' : Option Addr} {c' : Nat} {l : List (Reply.B × Reply.B)} (ho : OwnHS w' C (.slice A' l.length c') l) (hg : w.grownBy w' (Value.slice A s.spaces.length c).ownBlock) :
    RdX w0 C (w'.setCell ⟨p, 1, none⟩ (.slice A' l.length c')) p { s with spaces := l } A' c' ∧ FrX C p w (w'.setCell ⟨p, 1, none⟩ (.slice A' l.length c')) := by
  obtain ⟨b, k, sz, f⟩ := h.grown hg
  have b1 := b.set_ 1 (.slice A' l.length c')
  have r := (setX_only p 1 w' (.slice A' l.length c')).row ho (fun g hg hm => Held.ne_row b ho (by decide) g hg (by simpa using hm))
  exact ⟨⟨h.env, h.l0, h.lC, k.setCell (p := ⟨p, 1, none⟩) h.l0 _, Nat.le_trans sz (by simp [World.setCell]), b1, r⟩, f.set_ 1 _⟩
end
end Go.Proofs.YteefjmdallpihaaGreatDoor

namespace Go.Proofs.YteefjmdallpihaaGreatDoor
open Go.RowKit Reply Go.Shelf

theorem eqdX (a b : Reply.B) : (a == b) = decide (a = b) := by rw [Bool.eq_iff_iff]; simp
theorem emptyX (a : Reply.B) : (S a).toList.isEmpty = decide (a = []) := by rw [S_toList]; cases a <;> simp
/-- What a call ends with that tells attributes. -/
def EndsA (w0 : World) (C p B0 : Nat) (r : Xml.Res (List (Reply.B × Reply.B))) (e : Ending) (w' : World) : Prop := match r with
  | .bad n => e = .panicked [{ v := troubleX n, recovered := false }]
  | .ok l s' => ∃ v, e = .returned v ∧ OwnHA w' B0 v l ∧ ∃ A c, RdX w0 C w' p s' A c
theorem EndsA.bad {w0 : World} {C p B0 n : Nat} {r : Xml.Res (List (Reply.B × Reply.B))} (h : r = .bad n) (w' : World) : EndsA w0 C p B0 r (.panicked [{ v := troubleX n, recovered := false }]) w' := by rw [h]; rfl
theorem EndsA.ok {w0 w' : World} {C p B0 : Nat} {s : Xml.St} {A : Option Addr} {c : Nat} {v : Value} {l : List (Reply.B × Reply.B)} {r : Xml.Res (List (Reply.B × Reply.B))} (h : r = .ok l s) (k : OwnHA w' B0 v l) (q : RdX w0 C w' p s A c) : EndsA w0 C p B0 r (.returned v) w' := by rw [h]; exact ⟨v, rfl, k, A, c, q⟩
theorem decl_mark {s : Xml.St} {n v : Reply.B} {r l : List (Reply.B × Reply.B)} (h1 : (Xml.split n).1 = Xml.wXmlns) (h2 : v ≠ [] ∧ (Xml.split n).2 ≠ Xml.wXml ∧ (Xml.split n).2 ≠ Xml.wXmlns) : Xml.declare s ((n, v) :: r) l = Xml.declare { s with spaces := s.spaces ++ [((Xml.split n).2, v)] } r l := by
  show (if _ then (if _ then _ else _) else _) = _
  rw [if_pos h1, if_pos h2]
theorem decl_mark_bad {s : Xml.St} {n v : Reply.B} {r l : List (Reply.B × Reply.B)} (h1 : (Xml.split n).1 = Xml.wXmlns) (h2 : ¬ (v ≠ [] ∧ (Xml.split n).2 ≠ Xml.wXml ∧ (Xml.split n).2 ≠ Xml.wXmlns)) : Xml.declare s ((n, v) :: r) l = .bad 30 := by
  show (if _ then (if _ then _ else _) else _) = _
  rw [if_pos h1, if_neg h2]
theorem decl_plain {s : Xml.St} {n v : Reply.B} {r l : List (Reply.B × Reply.B)} (h1 : (Xml.split n).1 ≠ Xml.wXmlns) (h2 : n = Xml.wXmlns) : Xml.declare s ((n, v) :: r) l = Xml.declare { s with spaces := s.spaces ++ [([], v)] } r l := by
  show (if _ then _ else (if _ then _ else _)) = _
  rw [if_neg h1, if_pos h2]
theorem decl_other {s : Xml.St} {n v : Reply.B} {r l : List (Reply.B × Reply.B)} (h1 : (Xml.split n).1 ≠ Xml.wXmlns) (h2 : n ≠ Xml.wXmlns) (h3 : (Xml.split n).1 = []) : Xml.declare s ((n, v) :: r) l = Xml.declare s r (l ++ [(n, v)]) := by
  show (if _ then _ else (if _ then _ else (if _ then _ else _))) = _
  rw [if_neg h1, if_neg h2, if_pos h3]
theorem decl_other_bad {s : Xml.St} {n v : Reply.B} {r l : List (Reply.B × Reply.B)} (h1 : (Xml.split n).1 ≠ Xml.wXmlns) (h2 : n ≠ Xml.wXmlns) (h3 : (Xml.split n).1 ≠ []) : Xml.declare s ((n, v) :: r) l = .bad 30 := by
  show (if _ then _ else (if _ then _ else (if _ then _ else _))) = _
  rw [if_neg h1, if_neg h2, if_neg h3]
section
variable {w0 w : World} {C p : Nat} {s : Xml.St} {A : Option Addr} {c : Nat}
/-- A row of attributes that the call made has grown. -/
theorem RdX.beside {wu w' : World} (h : RdX w0 C wu p s A c) {v : Value} {l : List (Reply.B × Reply.B)} {B0 : Nat} (ho : OwnHA wu B0 v l) (hg : wu.grownBy w' v.ownBlock) (hB : w0.heap.size ≤ wu.heap.size) (f : FrX C p w wu) (hB0 : B0 = w.heap.size) (hw : w0.heap.size ≤ w.heap.size) : RdX w0 C w' p s A c ∧ FrX C p w w' := by
  have hr : ∀ k, v.ownBlock = some k → B0 ≤ k := fun k e => (ho.lt k e).1
  have _ := hB
  refine ⟨⟨h.env, h.l0, h.lC, ?_, Nat.le_trans h.sz hg.size, ?_, ?_⟩, ⟨hg.os.trans f.os, hg.tape.trans f.tape, hg.output.trans f.output, Nat.le_trans f.size hg.size, fun k hk hn hf => ?_⟩⟩
  · exact h.bel.trans ⟨hg.os, hg.tape, hg.output, hg.size, fun k hk => hg.block k (by have := h.bel.size; omega) (fun e => by have := hr k e.symm; omega)⟩
  · exact (hg.block p h.blk.lt (fun e => Held.ne_row h.blk ho (by decide) p e.symm rfl)).trans h.blk
  · refine World.ownsRow.kept h.row hg ?_
    rcases hq : (Value.slice A s.spaces.length c).ownBlock with _ | g
    · exact .inl rfl
    · exact .inr (fun e => rows_ne h.row ho (by decide) g hq e.symm)
  · exact (hg.block k (Nat.lt_of_lt_of_le hk f.size) (fun e => by have := hr k e.symm; omega)).trans (f.block k hk hn hf)
/-- Between two rounds of declare. -/
structure DecR (w0 : World) (C : Nat) (w : World) (p n : Nat) (l : List (Reply.B × Reply.B)) (R : Xml.Res (List (Reply.B × Reply.B))) (wr : World) (k : Nat) (v5 : Value) (s1 : Xml.St) (oth : List (Reply.B × Reply.B)) (A1 : Option Addr) (c1 : Nat) : Prop where
  rd : RdX w0 C wr p s1 A1 c1
  own : OwnHA wr w.heap.size v5 oth
  fr : FrX C p w wr
  res : R = Xml.declare s1 (l.drop k) oth
  few : s1.spaces.length + (n - k) ≤ 90000
  few2 : oth.length ≤ k
set_option maxRecDepth 100000 in
set_option maxHeartbeats 32000000 in
theorem declareX_any (h : RdX w0 C w p s A c) {Ba ca : Nat} {Aa : Option Addr} {l : List (Reply.B × Reply.B)} (hA : OwnHA w Ba (.slice Aa l.length ca) l) (hz : ∀ x ∈ l, x.1.length ≤ 65536) (hn : s.spaces.length + l.length ≤ 90000) :
    Calls Tryz.prog 43 #[.pointer (some ⟨p, 0, none⟩), .slice Aa l.length ca] w fun e w' => FrX C p w w' ∧ EndsA w0 C p w.heap.size (Xml.declare s l []) e w' := by
  obtain ⟨R, hR⟩ : ∃ x, x = Xml.declare s l [] := ⟨_, rfl⟩
  have HA := Lib.hid hA
  have HZ := Lib.hid hz
  have FAR : Hid (∀ g, (Value.slice Aa l.length ca).ownBlock = some g → g ≠ p) := fun g hg => Held.ne_row h.blk hA (by decide) g hg
  obtain ⟨n, hnn⟩ : ∃ n, n = l.length := ⟨_, rfl⟩
  have HN := Lib.hid hnn
  have D0 : Hid (DecR w0 C w p n l R w 0 (.slice none 0 0) s [] A c) := ⟨h, ⟨rfl, .inl ⟨rfl, rfl⟩⟩, FrX.refl _ _ _, by rw [hR, List.drop_zero], by omega, Nat.le_refl _⟩
  have nb : n ≤ 90000 := by omega
  have W00 : Hid (w0.heap.size ≤ w.heap.size) := h.bel.size
  rw [← hR, ← hnn]
  clear h hA hz hR hnn hn
  go_enter Tryz.func43, Tryz.ntmps43
  go_wp2_with fail
  go_loopw [5, 12] (fun v5 v12 wr => ∃ (k : Nat) (A5 : Option Addr) (c5 on : Nat) (s1 : Xml.St) (oth : List (Reply.B × Reply.B)) (A1 : Option Addr) (c1 : Nat), k ≤ n ∧ v12 = .int .i64 k ∧ v5 = .slice A5 on c5 ∧ Hid (DecR w0 C w p n l R wr k (.slice A5 on c5) s1 oth A1 c1)) (fun _ v12 _ => n - (intOf v12).toNat)
  case atStart => exact ⟨0, none, 0, 0, s, [], A, c, Nat.zero_le _, rfl, rfl, D0⟩
  case round =>
    obtain ⟨k, A5, c5, on, s1, oth, A1, c1, hk, rfl, rfl, G⟩ := hrel
    clear D0
    by_cases hlt : k < n
    · have kz : (k : Int) < (n : Int) := by omega
      have hkl : k < l.length := by rw [← HN.out]; exact hlt
      have HRow : OwnHA wr Ba (.slice Aa l.length ca) l := G.out.fr.row HA.out FAR.out (by decide)
      obtain ⟨A', c', e, _, hAt⟩ := HRow.any
      injection e with e1 e2 e3
      rw [← e1] at hAt
      obtain ⟨g, off, e9, x0, x1⟩ := hAt.at_ hkl
      obtain ⟨nm, hnm⟩ : ∃ x, x = l[k].1 := ⟨_, rfl⟩
      obtain ⟨sv, hsv⟩ : ∃ x, x = l[k].2 := ⟨_, rfl⟩
      rw [← hnm] at x0
      rw [← hsv] at x1
      have nz : nm.length ≤ 65536 := by rw [hnm]; exact HZ.out _ (List.getElem_mem _)
      have DR : Hid (l.drop k = (nm, sv) :: l.drop (k + 1)) := by show _ = _; rw [List.drop_eq_getElem_cons hkl, hnm, hsv]
      have E1 : Hid (R = Xml.declare s1 ((nm, sv) :: l.drop (k + 1)) oth) := by show _ = _; rw [G.out.res, DR.out]
      obtain ⟨wa, hwa⟩ : ∃ x, x = wr.alloc (.cells #[.string (S nm), .string (S sv)] 36) := ⟨_, rfl⟩
      have HWA := Lib.hid hwa
      have A1b : Below wr.heap.size wr wa := by rw [hwa]; exact (Below.refl _ _).alloc (Nat.le_refl _) _
      have K1 : Held wa wr.heap.size 36 #[.string (S nm), .string (S sv)] := by rw [hwa]; exact Held.new _ _ _ rfl
      have SPL := Lib.hid (splitX_any wa ((G.out.rd.under A1b).envw) nm nz)
      have RA := Lib.hid (G.out.rd.under A1b)
      have OA : Hid (OwnHA wa w.heap.size (.slice A5 on c5) oth) := G.out.own.below A1b
      have FA : Hid (FrX C p w wa) := G.out.fr.trans (FrX.under A1b)
      have KA := Lib.hid K1
      subst e9
      clear hAt HRow e1 e2 e3 hnm hsv A1b K1 hwa
      obtain ⟨pr, hpr⟩ : ∃ x, x = (Xml.split nm).1 := ⟨_, rfl⟩
      obtain ⟨ln, hln⟩ : ∃ x, x = (Xml.split nm).2 := ⟨_, rfl⟩
      rw [← hpr, ← hln] at SPL
      have HPR := Lib.hid hpr
      have HLN := Lib.hid hln
      clear hpr hln
      obtain ⟨ba, hba⟩ : ∃ x, x = wr.heap.size := ⟨_, rfl⟩
      rw [← hba] at KA
      have HBA := Lib.hid hba
      have fe1 : ((S pr).toList == [120, 109, 108, 110, 115]) = decide (pr = Xml.wXmlns) := by rw [S_toList]; exact eqdX pr Xml.wXmlns
      have fe2 : ((S nm).toList == [120, 109, 108, 110, 115]) = decide (nm = Xml.wXmlns) := by rw [S_toList]; exact eqdX nm Xml.wXmlns
      have fe3 : ((S pr).toList == []) = decide (pr = []) := by rw [S_toList]; exact eqdX pr []
      have fe4 : ((S sv).toList == []) = decide (sv = []) := by rw [S_toList]; exact eqdX sv []
      have fi3 : (S pr).toList.isEmpty = decide (pr = []) := emptyX pr
      have fi4 : (S sv).toList.isEmpty = decide (sv = []) := emptyX sv
      have fe5 : ((S ln).toList == [120, 109, 108]) = decide (ln = Xml.wXml) := by rw [S_toList]; exact eqdX ln Xml.wXml
      have fe6 : ((S ln).toList == [120, 109, 108, 110, 115]) = decide (ln = Xml.wXmlns) := by rw [S_toList]; exact eqdX ln Xml.wXmlns
      clear hba
      go_upto_region 5 with fail
      rw [← HWA.out, ← HBA.out]
      have k0 := KA.out.cell 0
      go_wp2_with fail
      refine SPL.out.mono ?_
      rintro e w2 ⟨rfl, hb2⟩
      have R2 := Lib.hid (RA.out.under hb2)
      have O2 : Hid (OwnHA w2 w.heap.size (.slice A5 on c5) oth) := OA.out.below hb2
      have F2 := Lib.hid (FA.out.trans (FrX.under hb2))
      have K2 := Lib.hid (KA.out.below hb2 KA.out.lt)
      have y0 := K2.out.cell 0
      have y1 := K2.out.cell 1
      clear hb2 SPL RA OA FA KA x0 x1 k0
      by_cases p1 : pr = Xml.wXmlns
      · rw [decide_eq_true p1] at fe1
        by_cases p2 : sv ≠ [] ∧ ln ≠ Xml.wXml ∧ ln ≠ Xml.wXmlns
        · rw [decide_eq_false p2.1] at fe4 fi4
          rw [decide_eq_false p2.2.1] at fe5
          rw [decide_eq_false p2.2.2] at fe6
          have fn4 : ((S sv).toList != []) = true := by rw [bne, fe4]; rfl
          have fn5 : ((S ln).toList != [120, 109, 108]) = true := by rw [bne, fe5]; rfl
          have fn6 : ((S ln).toList != [120, 109, 108, 110, 115]) = true := by rw [bne, fe6]; rfl
          have E3 : Hid (R = Xml.declare { s1 with spaces := s1.spaces ++ [(ln, sv)] } (l.drop (k + 1)) oth) := by show R = _; rw [E1.out, decl_mark (by rw [← HPR.out]; exact p1) (by rw [← HLN.out]; exact p2), ← HLN.out]
          clear p1 p2
          go_wp2_with fail
          refine (demand_ok _ _).mono ?_
          rintro e w3 ⟨rfl, rfl⟩
          have x9 : w2.cell? ⟨p, 1, none⟩ = some (.slice A1 s1.spaces.length c1) := R2.out.blk.cell 1
          obtain ⟨W5, hW5⟩ : ∃ x, x = (w2.alloc (.cells #[.string (S ln), .string (S sv)] 53)).drew := ⟨_, rfl⟩
          have HW5 := Lib.hid hW5
          have A5b : Below w2.heap.size w2 W5 := by rw [hW5]; exact ((Below.refl _ _).alloc (Nat.le_refl _) _).drew
          have R5 := Lib.hid (R2.out.under A5b)
          have O5 : Hid (OwnHA W5 w.heap.size (.slice A5 on c5) oth) := O2.out.below A5b
          have F5 := Lib.hid (F2.out.trans (FrX.under A5b))
          have K5 := Lib.hid (K2.out.below A5b K2.out.lt)
          have x5 : W5.cell? ⟨p, 1, none⟩ = some (.slice A1 s1.spaces.length c1) := R5.out.blk.cell 1
          have y5 : W5.cell? ⟨ba, 1, none⟩ = some (.string (S sv)) := K5.out.cell 1
          have HO : HAtS W5 (some ⟨w2.heap.size, 0, none⟩) [(ln, sv)] := by
            rw [hW5]
            exact head_oneS w2 (S ln) (S sv) 53 (0, 0) _ rfl
          have BP : Hid (ba ≠ p) := Held.ne_ K2.out R2.out.blk (by decide)
          clear A5b hW5
          go_upto_region 10 with fail
          refine wp_region_noPanic ?_
          refine wp_region_held_drew (S := fun w' => w'.cell? ⟨ba, 1, none⟩ = some (.string (S sv))) (by kernel_rfl) y1 (fun hHeld => ?_)
          refine take_ (i := 0) (v := ?_) 44 rfl rfl (by kernel_rfl) (by kernel_rfl) (by kernel_rfl) (fun _ _ _ h => h) (Or.inl ⟨by rfl, ?_⟩) (by assumption) ?_
          rotate_left
          · (intro wS hSw; (try dsimp only at hSw); go_simp; try with_reducible rfl)
          simp only [Act.put, List.setIfInBounds_toArray, List.set_cons_zero, List.set_cons_succ]
          refine take_ (i := 1) (v := ?_) 45 rfl rfl (by kernel_rfl) (by kernel_rfl) (by kernel_rfl) (fun _ _ _ h => h) (Or.inl ⟨by rfl, ?_⟩) (by assumption) ?_
          rotate_left
          · (intro wS hSw; (try dsimp only at hSw); go_simp; try with_reducible rfl)
          simp only [Act.put, List.setIfInBounds_toArray, List.set_cons_zero, List.set_cons_succ]
          refine take_ (i := 2) (v := ?_) 46 rfl rfl (by kernel_rfl) (by kernel_rfl) (by kernel_rfl) (fun _ _ _ h => h) (Or.inl ⟨by rfl, ?_⟩) (by assumption) ?_
          rotate_left
          · (intro wS hSw; (try dsimp only at hSw); go_simp; try with_reducible rfl)
          simp only [Act.put, List.setIfInBounds_toArray, List.set_cons_zero, List.set_cons_succ]
          refine take_ (i := 3) (v := ?_) 47 rfl rfl (by kernel_rfl) (by kernel_rfl) (by kernel_rfl) (fun _ _ _ h => h) (Or.inl ⟨by rfl, ?_⟩) (by assumption) ?_
          rotate_left
          · (intro wS hSw; (try dsimp only at hSw); go_simp; try with_reducible rfl)
          simp only [Act.put, List.setIfInBounds_toArray, List.set_cons_zero, List.set_cons_succ]
          refine take_ (i := 5) (v := ?_) 49 rfl rfl (by kernel_rfl) (by kernel_rfl) (by kernel_rfl) (fun _ _ _ h => h) (Or.inl ⟨by rfl, ?_⟩) (by assumption) ?_
          rotate_left
          · (intro wS hSw; (try dsimp only at hSw); go_simp; try with_reducible rfl)
          simp only [Act.put, List.setIfInBounds_toArray, List.set_cons_zero, List.set_cons_succ]
          refine take_ (i := 6) (v := ?_) 50 rfl rfl (by kernel_rfl) (by kernel_rfl) (by kernel_rfl) (fun _ _ _ h => h) (Or.inl ⟨by rfl, ?_⟩) (by assumption) ?_
          rotate_left
          · (intro wS hSw; (try dsimp only at hSw); go_simp; try with_reducible rfl)
          simp only [Act.put, List.setIfInBounds_toArray, List.set_cons_zero, List.set_cons_succ]
          refine take_ (i := 7) (v := ?_) 51 rfl rfl (by kernel_rfl) (by kernel_rfl) (by kernel_rfl) (fun _ _ _ h => h) (Or.inl ⟨by rfl, ?_⟩) (by assumption) ?_
          rotate_left
          · (intro wS hSw; (try dsimp only at hSw); go_simp; try with_reducible rfl)
          simp only [Act.put, List.setIfInBounds_toArray, List.set_cons_zero, List.set_cons_succ]
          refine take_ (i := 8) (v := ?_) 52 rfl rfl (by kernel_rfl) (by kernel_rfl) (by kernel_rfl) (fun _ _ _ h => h) (Or.inl ⟨by rfl, ?_⟩) (by assumption) ?_
          rotate_left
          · (intro wS hSw; (try dsimp only at hSw); go_simp; try with_reducible rfl)
          simp only [Act.put, List.setIfInBounds_toArray, List.set_cons_zero, List.set_cons_succ]
          refine two_ (i := 4) (j := 9) _ _ (by kernel_rfl) rfl rfl (fun K hK => ?_) (fun K hK => ?_)
          · go_simp
            refine hK.out _ _ y1 (fun hHeld => ?_)
            clear hK K
            refine one_ (i := 9) _ (by kernel_rfl) rfl (fun K hK => ?_)
            go_simp
            rw [← HW5.out]
            refine hK.out _ _ y5 (fun hHeld => ?_)
            clear hK K
            refine one_ (i := 10) _ (by kernel_rfl) rfl (fun K hK => ?_)
            refine ite_ofX (by kernel_rfl) ?_
            refine oper_append_S (.tmp 48) (.tmp 53) rfl C (.slice A1 s1.spaces.length c1) s1.spaces rfl R5.out.row ⟨w2.heap.size, 0, none⟩ 1 1 [(ln, sv)] rfl rfl HO (by have := G.out.few; omega) R5.out.sz ?_
            intro v8 w8 hown8 hg8
            obtain ⟨A8, c8, rfl, _⟩ := hown8.any
            have PU := R5.out.push hown8 hg8
            have GR := R5.out.grown hg8
            have O8 : OwnHA w8 w.heap.size (.slice A5 on c5) oth := FrX.row GR.2.2.2 O5.out (fun g hg => Held.ne_row R5.out.blk O5.out (by decide) g hg) (by decide)
            have K8 : Held w8 ba 36 #[.string (S nm), .string (S sv)] := GR.2.2.2.held K5.out BP.out (by decide)
            have x8 : w8.cell? ⟨p, 1, none⟩ = some (.slice A1 s1.spaces.length c1) := GR.1.cell 1
            have z8 : w8.frozen? ⟨p, 1, none⟩ = false := GR.1.frozen 1
            have y8 : w8.cell? ⟨ba, 1, none⟩ = some (.string (S sv)) := K8.cell 1
            obtain ⟨tn, htn⟩ : ∃ x, x = (s1.spaces ++ [(ln, sv)]).length := ⟨_, rfl⟩
            rw [← htn] at PU
            rw [← htn]
            have y9 : (w8.setCell ⟨p, 1, none⟩ (.slice A8 tn c8)).cell? ⟨ba, 1, none⟩ = some (.string (S sv)) := (K8.far (p := ⟨p, 1, none⟩) BP.out _).cell 1
            have O9 : OwnHA (w8.setCell ⟨p, 1, none⟩ (.slice A8 tn c8)) w.heap.size (.slice A5 on c5) oth := (setX_only p 1 w8 (.slice A8 tn c8)).row O8 (fun g hg hm => Held.ne_row GR.1 O8 (by decide) g hg (by simpa using hm))
            have ND : Hid (DecR w0 C w p n l R (w8.setCell ⟨p, 1, none⟩ (.slice A8 tn c8)) (k + 1) (.slice A5 on c5) { s1 with spaces := s1.spaces ++ [(ln, sv)] } oth A8 c8) := by
              refine ⟨?_, O9, F5.out.trans PU.2, E3.out, ?_, ?_⟩
              · have q := PU.1
                rw [htn] at q ⊢
                exact q
              · show (s1.spaces ++ [(ln, sv)]).length + _ ≤ _
                have := G.out.few
                rw [List.length_append, List.length_singleton]
                omega
              · have := G.out.few2
                omega
            clear PU GR O8 K8 O9 hown8 hg8 HO htn
            refine hK.out _ _ y8 (fun hHeld => ?_)
            clear hK K
            refine take_ (i := 11) (v := ?_) 55 rfl rfl (by kernel_rfl) (by kernel_rfl) (by kernel_rfl) (fun _ _ _ h => h) (Or.inl ⟨by rfl, ?_⟩) (by assumption) ?_
            rotate_left
            · (intro wS hSw; (try dsimp only at hSw); go_simp; try with_reducible rfl)
            simp only [Act.put, List.setIfInBounds_toArray]
            refine take_ (i := 12) (v := ?_) 56 rfl rfl (by kernel_rfl) (by kernel_rfl) (by kernel_rfl) (fun _ _ _ h => h) (Or.inl ⟨by rfl, ?_⟩) (by assumption) ?_
            rotate_left
            · (intro wS hSw; (try dsimp only at hSw); go_simp; try with_reducible rfl)
            simp only [Act.put]
            refine one_ (i := 13) _ (by kernel_rfl) rfl (fun K hK => ?_)
            go_simp
            refine hK.out _ _ y9 (fun hHeld => ?_)
            clear hK K
            refine wpAnyH_done (by kernel_rfl) ?_ _
            refine NoPanic.normal ?_
            go_wp2_with fail
            go_roundw
            case rel => exact ⟨k + 1, A5, c5, on, _, oth, A8, c8, by omega, by go_num, rfl, ND.out⟩
            case measure => simp [intOf]; omega
          · go_simp
            rw [← HW5.out]
            refine hK.out _ _ y5 (fun hHeld => ?_)
            clear hK K
            refine one_ (i := 4) _ (by kernel_rfl) rfl (fun K hK => ?_)
            go_simp
            refine hK.out _ _ y5 (fun hHeld => ?_)
            clear hK K
            refine one_ (i := 10) _ (by kernel_rfl) rfl (fun K hK => ?_)
            refine ite_ofX (by kernel_rfl) ?_
            refine oper_append_S (.tmp 48) (.tmp 53) rfl C (.slice A1 s1.spaces.length c1) s1.spaces rfl R5.out.row ⟨w2.heap.size, 0, none⟩ 1 1 [(ln, sv)] rfl rfl HO (by have := G.out.few; omega) R5.out.sz ?_
            intro v8 w8 hown8 hg8
            obtain ⟨A8, c8, rfl, _⟩ := hown8.any
            have PU := R5.out.push hown8 hg8
            have GR := R5.out.grown hg8
            have O8 : OwnHA w8 w.heap.size (.slice A5 on c5) oth := FrX.row GR.2.2.2 O5.out (fun g hg => Held.ne_row R5.out.blk O5.out (by decide) g hg) (by decide)
            have K8 : Held w8 ba 36 #[.string (S nm), .string (S sv)] := GR.2.2.2.held K5.out BP.out (by decide)
            have x8 : w8.cell? ⟨p, 1, none⟩ = some (.slice A1 s1.spaces.length c1) := GR.1.cell 1
            have z8 : w8.frozen? ⟨p, 1, none⟩ = false := GR.1.frozen 1
            have y8 : w8.cell? ⟨ba, 1, none⟩ = some (.string (S sv)) := K8.cell 1
            obtain ⟨tn, htn⟩ : ∃ x, x = (s1.spaces ++ [(ln, sv)]).length := ⟨_, rfl⟩
            rw [← htn] at PU
            rw [← htn]
            have y9 : (w8.setCell ⟨p, 1, none⟩ (.slice A8 tn c8)).cell? ⟨ba, 1, none⟩ = some (.string (S sv)) := (K8.far (p := ⟨p, 1, none⟩) BP.out _).cell 1
            have O9 : OwnHA (w8.setCell ⟨p, 1, none⟩ (.slice A8 tn c8)) w.heap.size (.slice A5 on c5) oth := (setX_only p 1 w8 (.slice A8 tn c8)).row O8 (fun g hg hm => Held.ne_row GR.1 O8 (by decide) g hg (by simpa using hm))
            have ND : Hid (DecR w0 C w p n l R (w8.setCell ⟨p, 1, none⟩ (.slice A8 tn c8)) (k + 1) (.slice A5 on c5) { s1 with spaces := s1.spaces ++ [(ln, sv)] } oth A8 c8) := by
              refine ⟨?_, O9, F5.out.trans PU.2, E3.out, ?_, ?_⟩
              · have q := PU.1
                rw [htn] at q ⊢
                exact q
              · show (s1.spaces ++ [(ln, sv)]).length + _ ≤ _
                have := G.out.few
                rw [List.length_append, List.length_singleton]
                omega
              · have := G.out.few2
                omega
            clear PU GR O8 K8 O9 hown8 hg8 HO htn
            refine hK.out _ _ y8 (fun hHeld => ?_)
            clear hK K
            refine take_ (i := 11) (v := ?_) 55 rfl rfl (by kernel_rfl) (by kernel_rfl) (by kernel_rfl) (fun _ _ _ h => h) (Or.inl ⟨by rfl, ?_⟩) (by assumption) ?_
            rotate_left
            · (intro wS hSw; (try dsimp only at hSw); go_simp; try with_reducible rfl)
            simp only [Act.put, List.setIfInBounds_toArray]
            refine take_ (i := 12) (v := ?_) 56 rfl rfl (by kernel_rfl) (by kernel_rfl) (by kernel_rfl) (fun _ _ _ h => h) (Or.inl ⟨by rfl, ?_⟩) (by assumption) ?_
            rotate_left
            · (intro wS hSw; (try dsimp only at hSw); go_simp; try with_reducible rfl)
            simp only [Act.put]
            refine one_ (i := 13) _ (by kernel_rfl) rfl (fun K hK => ?_)
            go_simp
            refine hK.out _ _ y9 (fun hHeld => ?_)
            clear hK K
            refine wpAnyH_done (by kernel_rfl) ?_ _
            refine NoPanic.normal ?_
            go_wp2_with fail
            go_roundw
            case rel => exact ⟨k + 1, A5, c5, on, _, oth, A8, c8, by omega, by go_num, rfl, ND.out⟩
            case measure => simp [intOf]; omega
        · have E3 : Hid (R = .bad 30) := E1.out.trans (decl_mark_bad (by rw [← HPR.out]; exact p1) (by rw [← HLN.out]; exact p2))
          clear p1
          by_cases q1 : sv = []
          · rw [decide_eq_true q1] at fe4 fi4
            have fn4 : ((S sv).toList != []) = false := by rw [bne, fe4]; rfl
            clear q1 p2
            go_wp2_with fail
            refine (demand_bad _ _).mono ?_
            rintro e w3 ⟨rfl, rfl⟩
            exact ⟨rfl, F2.out, EndsA.bad E3.out _⟩
          · rw [decide_eq_false q1] at fe4 fi4
            have fn4 : ((S sv).toList != []) = true := by rw [bne, fe4]; rfl
            by_cases q2 : ln = Xml.wXml
            · rw [decide_eq_true q2] at fe5
              have fn5 : ((S ln).toList != [120, 109, 108]) = false := by rw [bne, fe5]; rfl
              clear q1 q2 p2
              go_wp2_with fail
              refine (demand_bad _ _).mono ?_
              rintro e w3 ⟨rfl, rfl⟩
              exact ⟨rfl, F2.out, EndsA.bad E3.out _⟩
            · have q3 : ln = Xml.wXmlns := Classical.byContradiction (fun h => p2 ⟨q1, q2, h⟩)
              rw [decide_eq_false q2] at fe5
              rw [decide_eq_true q3] at fe6
              have fn5 : ((S ln).toList != [120, 109, 108]) = true := by rw [bne, fe5]; rfl
              have fn6 : ((S ln).toList != [120, 109, 108, 110, 115]) = false := by rw [bne, fe6]; rfl
              clear q1 q2 q3 p2
              go_wp2_with fail
              refine (demand_bad _ _).mono ?_
              rintro e w3 ⟨rfl, rfl⟩
              exact ⟨rfl, F2.out, EndsA.bad E3.out _⟩
      · rw [decide_eq_false p1] at fe1
        by_cases p2 : nm = Xml.wXmlns
        · rw [decide_eq_true p2] at fe2
          have E3 : Hid (R = Xml.declare { s1 with spaces := s1.spaces ++ [([], sv)] } (l.drop (k + 1)) oth) := by show R = _; rw [E1.out, decl_plain (by rw [← HPR.out]; exact p1) p2]
          clear p1 p2
          have x9 : w2.cell? ⟨p, 1, none⟩ = some (.slice A1 s1.spaces.length c1) := R2.out.blk.cell 1
          obtain ⟨W5, hW5⟩ : ∃ x, x = (w2.alloc (.cells #[.string ⟨#[]⟩, .string (S sv)] 53)).drew := ⟨_, rfl⟩
          have HW5 := Lib.hid hW5
          have A5b : Below w2.heap.size w2 W5 := by rw [hW5]; exact ((Below.refl _ _).alloc (Nat.le_refl _) _).drew
          have R5 := Lib.hid (R2.out.under A5b)
          have O5 : Hid (OwnHA W5 w.heap.size (.slice A5 on c5) oth) := O2.out.below A5b
          have F5 := Lib.hid (F2.out.trans (FrX.under A5b))
          have K5 := Lib.hid (K2.out.below A5b K2.out.lt)
          have x5 : W5.cell? ⟨p, 1, none⟩ = some (.slice A1 s1.spaces.length c1) := R5.out.blk.cell 1
          have y5 : W5.cell? ⟨ba, 1, none⟩ = some (.string (S sv)) := K5.out.cell 1
          have HO : HAtS W5 (some ⟨w2.heap.size, 0, none⟩) [([], sv)] := by
            rw [hW5]
            exact head_oneS w2 ⟨#[]⟩ (S sv) 53 (0, 0) _ rfl
          have BP : Hid (ba ≠ p) := Held.ne_ K2.out R2.out.blk (by decide)
          clear A5b hW5
          go_upto_region 12 with fail
          refine wp_region_noPanic ?_
          refine wp_region_held_drew (S := fun w' => w'.cell? ⟨ba, 1, none⟩ = some (.string (S sv))) (by kernel_rfl) y1 (fun hHeld => ?_)
          refine take_ (i := 0) (v := ?_) 61 rfl rfl (by kernel_rfl) (by kernel_rfl) (by kernel_rfl) (fun _ _ _ h => h) (Or.inl ⟨by rfl, ?_⟩) (by assumption) ?_
          rotate_left
          · (intro wS hSw; (try dsimp only at hSw); go_simp; try with_reducible rfl)
          simp only [Act.put, List.setIfInBounds_toArray, List.set_cons_zero, List.set_cons_succ]
          refine take_ (i := 1) (v := ?_) 62 rfl rfl (by kernel_rfl) (by kernel_rfl) (by kernel_rfl) (fun _ _ _ h => h) (Or.inl ⟨by rfl, ?_⟩) (by assumption) ?_
          rotate_left
          · (intro wS hSw; (try dsimp only at hSw); go_simp; try with_reducible rfl)
          simp only [Act.put, List.setIfInBounds_toArray, List.set_cons_zero, List.set_cons_succ]
          refine take_ (i := 2) (v := ?_) 63 rfl rfl (by kernel_rfl) (by kernel_rfl) (by kernel_rfl) (fun _ _ _ h => h) (Or.inl ⟨by rfl, ?_⟩) (by assumption) ?_
          rotate_left
          · (intro wS hSw; (try dsimp only at hSw); go_simp; try with_reducible rfl)
          simp only [Act.put, List.setIfInBounds_toArray, List.set_cons_zero, List.set_cons_succ]
          refine take_ (i := 3) (v := ?_) 64 rfl rfl (by kernel_rfl) (by kernel_rfl) (by kernel_rfl) (fun _ _ _ h => h) (Or.inl ⟨by rfl, ?_⟩) (by assumption) ?_
          rotate_left
          · (intro wS hSw; (try dsimp only at hSw); go_simp; try with_reducible rfl)
          simp only [Act.put, List.setIfInBounds_toArray, List.set_cons_zero, List.set_cons_succ]
          refine take_ (i := 5) (v := ?_) 66 rfl rfl (by kernel_rfl) (by kernel_rfl) (by kernel_rfl) (fun _ _ _ h => h) (Or.inl ⟨by rfl, ?_⟩) (by assumption) ?_
          rotate_left
          · (intro wS hSw; (try dsimp only at hSw); go_simp; try with_reducible rfl)
          simp only [Act.put, List.setIfInBounds_toArray, List.set_cons_zero, List.set_cons_succ]
          refine take_ (i := 6) (v := ?_) 67 rfl rfl (by kernel_rfl) (by kernel_rfl) (by kernel_rfl) (fun _ _ _ h => h) (Or.inl ⟨by rfl, ?_⟩) (by assumption) ?_
          rotate_left
          · (intro wS hSw; (try dsimp only at hSw); go_simp; try with_reducible rfl)
          simp only [Act.put, List.setIfInBounds_toArray, List.set_cons_zero, List.set_cons_succ]
          refine take_ (i := 7) (v := ?_) 68 rfl rfl (by kernel_rfl) (by kernel_rfl) (by kernel_rfl) (fun _ _ _ h => h) (Or.inl ⟨by rfl, ?_⟩) (by assumption) ?_
          rotate_left
          · (intro wS hSw; (try dsimp only at hSw); go_simp; try with_reducible rfl)
          simp only [Act.put, List.setIfInBounds_toArray, List.set_cons_zero, List.set_cons_succ]
          refine two_ (i := 4) (j := 8) _ _ (by kernel_rfl) rfl rfl (fun K hK => ?_) (fun K hK => ?_)
          · go_simp
            refine hK.out _ _ y1 (fun hHeld => ?_)
            clear hK K
            refine one_ (i := 8) _ (by kernel_rfl) rfl (fun K hK => ?_)
            go_simp
            rw [← HW5.out]
            refine hK.out _ _ y5 (fun hHeld => ?_)
            clear hK K
            refine one_ (i := 9) _ (by kernel_rfl) rfl (fun K hK => ?_)
            refine ite_ofX (by kernel_rfl) ?_
            refine oper_append_S (.tmp 65) (.tmp 69) rfl C (.slice A1 s1.spaces.length c1) s1.spaces rfl R5.out.row ⟨w2.heap.size, 0, none⟩ 1 1 [([], sv)] rfl rfl HO (by have := G.out.few; omega) R5.out.sz ?_
            intro v8 w8 hown8 hg8
            obtain ⟨A8, c8, rfl, _⟩ := hown8.any
            have PU := R5.out.push hown8 hg8
            have GR := R5.out.grown hg8
            have O8 : OwnHA w8 w.heap.size (.slice A5 on c5) oth := FrX.row GR.2.2.2 O5.out (fun g hg => Held.ne_row R5.out.blk O5.out (by decide) g hg) (by decide)
            have K8 : Held w8 ba 36 #[.string (S nm), .string (S sv)] := GR.2.2.2.held K5.out BP.out (by decide)
            have x8 : w8.cell? ⟨p, 1, none⟩ = some (.slice A1 s1.spaces.length c1) := GR.1.cell 1
            have z8 : w8.frozen? ⟨p, 1, none⟩ = false := GR.1.frozen 1
            have y8 : w8.cell? ⟨ba, 1, none⟩ = some (.string (S sv)) := K8.cell 1
            obtain ⟨tn, htn⟩ : ∃ x, x = (s1.spaces ++ [([], sv)]).length := ⟨_, rfl⟩
            rw [← htn] at PU
            rw [← htn]
            have y9 : (w8.setCell ⟨p, 1, none⟩ (.slice A8 tn c8)).cell? ⟨ba, 1, none⟩ = some (.string (S sv)) := (K8.far (p := ⟨p, 1, none⟩) BP.out _).cell 1
            have O9 : OwnHA (w8.setCell ⟨p, 1, none⟩ (.slice A8 tn c8)) w.heap.size (.slice A5 on c5) oth := (setX_only p 1 w8 (.slice A8 tn c8)).row O8 (fun g hg hm => Held.ne_row GR.1 O8 (by decide) g hg (by simpa using hm))
            have ND : Hid (DecR w0 C w p n l R (w8.setCell ⟨p, 1, none⟩ (.slice A8 tn c8)) (k + 1) (.slice A5 on c5) { s1 with spaces := s1.spaces ++ [([], sv)] } oth A8 c8) := by
              refine ⟨?_, O9, F5.out.trans PU.2, E3.out, ?_, ?_⟩
              · have q := PU.1
                rw [htn] at q ⊢
                exact q
              · show (s1.spaces ++ [([], sv)]).length + _ ≤ _
                have := G.out.few
                rw [List.length_append, List.length_singleton]
                omega
              · have := G.out.few2
                omega
            clear PU GR O8 K8 O9 hown8 hg8 HO htn
            refine hK.out _ _ y8 (fun hHeld => ?_)
            clear hK K
            refine take_ (i := 10) (v := ?_) 71 rfl rfl (by kernel_rfl) (by kernel_rfl) (by kernel_rfl) (fun _ _ _ h => h) (Or.inl ⟨by rfl, ?_⟩) (by assumption) ?_
            rotate_left
            · (intro wS hSw; (try dsimp only at hSw); go_simp; try with_reducible rfl)
            simp only [Act.put, List.setIfInBounds_toArray]
            refine take_ (i := 11) (v := ?_) 72 rfl rfl (by kernel_rfl) (by kernel_rfl) (by kernel_rfl) (fun _ _ _ h => h) (Or.inl ⟨by rfl, ?_⟩) (by assumption) ?_
            rotate_left
            · (intro wS hSw; (try dsimp only at hSw); go_simp; try with_reducible rfl)
            simp only [Act.put]
            refine one_ (i := 12) _ (by kernel_rfl) rfl (fun K hK => ?_)
            go_simp
            refine hK.out _ _ y9 (fun hHeld => ?_)
            clear hK K
            refine wpAnyH_done (by kernel_rfl) ?_ _
            refine NoPanic.normal ?_
            go_wp2_with fail
            go_roundw
            case rel => exact ⟨k + 1, A5, c5, on, _, oth, A8, c8, by omega, by go_num, rfl, ND.out⟩
            case measure => simp [intOf]; omega
          · go_simp
            rw [← HW5.out]
            refine hK.out _ _ y5 (fun hHeld => ?_)
            clear hK K
            refine one_ (i := 4) _ (by kernel_rfl) rfl (fun K hK => ?_)
            go_simp
            refine hK.out _ _ y5 (fun hHeld => ?_)
            clear hK K
            refine one_ (i := 9) _ (by kernel_rfl) rfl (fun K hK => ?_)
            refine ite_ofX (by kernel_rfl) ?_
            refine oper_append_S (.tmp 65) (.tmp 69) rfl C (.slice A1 s1.spaces.length c1) s1.spaces rfl R5.out.row ⟨w2.heap.size, 0, none⟩ 1 1 [([], sv)] rfl rfl HO (by have := G.out.few; omega) R5.out.sz ?_
            intro v8 w8 hown8 hg8
            obtain ⟨A8, c8, rfl, _⟩ := hown8.any
            have PU := R5.out.push hown8 hg8
            have GR := R5.out.grown hg8
            have O8 : OwnHA w8 w.heap.size (.slice A5 on c5) oth := FrX.row GR.2.2.2 O5.out (fun g hg => Held.ne_row R5.out.blk O5.out (by decide) g hg) (by decide)
            have K8 : Held w8 ba 36 #[.string (S nm), .string (S sv)] := GR.2.2.2.held K5.out BP.out (by decide)
            have x8 : w8.cell? ⟨p, 1, none⟩ = some (.slice A1 s1.spaces.length c1) := GR.1.cell 1
            have z8 : w8.frozen? ⟨p, 1, none⟩ = false := GR.1.frozen 1
            have y8 : w8.cell? ⟨ba, 1, none⟩ = some (.string (S sv)) := K8.cell 1
            obtain ⟨tn, htn⟩ : ∃ x, x = (s1.spaces ++ [([], sv)]).length := ⟨_, rfl⟩
            rw [← htn] at PU
            rw [← htn]
            have y9 : (w8.setCell ⟨p, 1, none⟩ (.slice A8 tn c8)).cell? ⟨ba, 1, none⟩ = some (.string (S sv)) := (K8.far (p := ⟨p, 1, none⟩) BP.out _).cell 1
            have O9 : OwnHA (w8.setCell ⟨p, 1, none⟩ (.slice A8 tn c8)) w.heap.size (.slice A5 on c5) oth := (setX_only p 1 w8 (.slice A8 tn c8)).row O8 (fun g hg hm => Held.ne_row GR.1 O8 (by decide) g hg (by simpa using hm))
            have ND : Hid (DecR w0 C w p n l R (w8.setCell ⟨p, 1, none⟩ (.slice A8 tn c8)) (k + 1) (.slice A5 on c5) { s1 with spaces := s1.spaces ++ [([], sv)] } oth A8 c8) := by
              refine ⟨?_, O9, F5.out.trans PU.2, E3.out, ?_, ?_⟩
              · have q := PU.1
                rw [htn] at q ⊢
                exact q
              · show (s1.spaces ++ [([], sv)]).length + _ ≤ _
                have := G.out.few
                rw [List.length_append, List.length_singleton]
                omega
              · have := G.out.few2
                omega
            clear PU GR O8 K8 O9 hown8 hg8 HO htn
            refine hK.out _ _ y8 (fun hHeld => ?_)
            clear hK K
            refine take_ (i := 10) (v := ?_) 71 rfl rfl (by kernel_rfl) (by kernel_rfl) (by kernel_rfl) (fun _ _ _ h => h) (Or.inl ⟨by rfl, ?_⟩) (by assumption) ?_
            rotate_left
            · (intro wS hSw; (try dsimp only at hSw); go_simp; try with_reducible rfl)
            simp only [Act.put, List.setIfInBounds_toArray]
            refine take_ (i := 11) (v := ?_) 72 rfl rfl (by kernel_rfl) (by kernel_rfl) (by kernel_rfl) (fun _ _ _ h => h) (Or.inl ⟨by rfl, ?_⟩) (by assumption) ?_
            rotate_left
            · (intro wS hSw; (try dsimp only at hSw); go_simp; try with_reducible rfl)
            simp only [Act.put]
            refine one_ (i := 12) _ (by kernel_rfl) rfl (fun K hK => ?_)
            go_simp
            refine hK.out _ _ y9 (fun hHeld => ?_)
            clear hK K
            refine wpAnyH_done (by kernel_rfl) ?_ _
            refine NoPanic.normal ?_
            go_wp2_with fail
            go_roundw
            case rel => exact ⟨k + 1, A5, c5, on, _, oth, A8, c8, by omega, by go_num, rfl, ND.out⟩
            case measure => simp [intOf]; omega
        · rw [decide_eq_false p2] at fe2
          by_cases p3 : pr = []
          · rw [decide_eq_true p3] at fe3 fi3
            have E3 : Hid (R = Xml.declare s1 (l.drop (k + 1)) (oth ++ [(nm, sv)])) := by show R = _; rw [E1.out, decl_other (by rw [← HPR.out]; exact p1) p2 (by rw [← HPR.out]; exact p3)]
            clear p1 p2 p3
            go_wp2_with fail
            refine (demand_ok _ _).mono ?_
            rintro e w3 ⟨rfl, rfl⟩
            have AU : Hid (Below w2.heap.size w2 (w2.alloc (.cells #[.string (S nm), .string (S sv)] 36))) := (Below.refl _ _).alloc (Nat.le_refl _) _
            have RU := Lib.hid (R2.out.under AU.out)
            have OU : Hid (OwnHA (w2.alloc (.cells #[.string (S nm), .string (S sv)] 36)) w.heap.size (.slice A5 on c5) oth) := O2.out.below AU.out
            have FU := Lib.hid (F2.out.trans (FrX.under AU.out))
            go_wp2_with (at_builtin; refine wpList_append_hA rfl _ _ rfl w.heap.size _ oth rfl OU.out ⟨w2.heap.size, 0, none⟩ 1 1 [(nm, sv)] rfl rfl ?qa ?qb ?qc ?_)
            case qa => exact head_oneA w2 (S nm) (S sv) 36 (0, 0) _ rfl
            case qb => have := G.out.few2; omega
            case qc => exact Nat.le_trans F2.out.size AU.out.size
            intro v' w5 hown hg
            have B5 := Lib.hid (RdX.beside RU.out OU.out hg RU.out.bel.size FU.out rfl W00.out)
            obtain ⟨A6, c6, rfl, _⟩ := hown.any
            obtain ⟨tn, htn⟩ : ∃ x, x = (oth ++ [(nm, sv)]).length := ⟨_, rfl⟩
            rw [← htn] at hown ⊢
            have ND : Hid (DecR w0 C w p n l R w5 (k + 1) (.slice A6 tn c6) s1 (oth ++ [(nm, sv)]) A1 c1) := ⟨B5.out.1, hown, B5.out.2, E3.out, by have := G.out.few; omega, by have := G.out.few2; rw [List.length_append, List.length_singleton]; omega⟩
            clear hown hg OU RU FU AU
            go_wp2_with fail
            go_roundw
            case rel => exact ⟨k + 1, A6, c6, tn, s1, _, A1, c1, by omega, by go_num, rfl, ND.out⟩
            case measure => simp [intOf]; omega
          · rw [decide_eq_false p3] at fe3 fi3
            have E3 : Hid (R = .bad 30) := E1.out.trans (decl_other_bad (by rw [← HPR.out]; exact p1) p2 (by rw [← HPR.out]; exact p3))
            clear p1 p2 p3
            go_wp2_with fail
            refine (demand_bad _ _).mono ?_
            rintro e w3 ⟨rfl, rfl⟩
            exact ⟨rfl, F2.out, EndsA.bad E3.out _⟩
    · obtain rfl : k = n := by omega
      have E2 : Hid (R = .ok oth s1) := by
        show _ = _
        rw [G.out.res, List.drop_eq_nil_of_le (by rw [← HN.out]; exact Nat.le_refl _)]
        rfl
      go_wp2_with fail
      go_ret
      exact ⟨G.out.fr, EndsA.ok E2.out G.out.own G.out.rd⟩
end
end Go.Proofs.YteefjmdallpihaaGreatDoor

namespace Go.Proofs.YteefjmdallpihaaGreatDoor
namespace Xml
/-- The letter of a number, if there is one. -/
def numVal (base : Nat) (ds : B) : Option Nat := if ds = [] ∨ 9 < ds.length then none else match numOf base 0 ds with
  | some n => if n ≤ 1114111 ∧ letter n = true then some n else none
  | none => none
theorem numbered_eq (s : St) (base : Nat) (ds : B) : numbered s base ds = match numVal base ds with
    | some n => .ok n s
    | none => .bad 30 := by
  unfold numbered numVal
  split
  · rfl
  · cases numOf base 0 ds with
    | none => rfl
    | some n =>
      simp only
      split <;> rfl
end Xml
open Go.RowKit Reply Go.Shelf

/-- What a call ends with that tells a letter, or gives up. -/
def EndsN (r : Option Nat) (e : Ending) : Prop := match r with
  | none => e = .panicked [{ v := troubleX 30, recovered := false }]
  | some n => e = .returned (.int .i32 (n : Int))
/-- numbered answers as the model says. -/
def NumX : Prop := ∀ (u : World) (base : Nat) (ds : Reply.B), EnvX u → (base = 10 ∨ base = 16) → ds.length ≤ 65536 → Calls Tryz.prog 101 #[.string (S ds), .int .i64 (base : Int)] u fun e w' => EndsN (Xml.numVal base ds) e ∧ Below u.heap.size u w'
theorem cutpreX_lit (w : World) (l : Reply.B) (p : Reply.B) (t : ByteArray) (ht : t = S p) :
    Calls Tryz.prog 54 #[.string (S l), .string t] w fun e w' => e = .returned (.tuple #[.string (S (Lib.trimPrefix l p)), .bool (Lib.hasPrefix l p)]) ∧ w = w' := by
  rw [ht]
  exact cutpreX_any w l p
section
variable {w0 w : World} {C p : Nat} {s : Xml.St} {A : Option Addr} {c : Nat}
set_option maxRecDepth 100000 in
set_option maxHeartbeats 16000000 in
theorem refX_any (NU : NumX) (h : RdX w0 C w p s A c) (hl : s.rest.length ≤ 65536) :
    Calls Tryz.prog 86 #[.pointer (some ⟨p, 0, none⟩)] w fun e w' => FrX C p w w' ∧ match Xml.reference s with
      | .bad n => e = .panicked [{ v := troubleX n, recovered := false }]
      | .ok a s' => e = .returned (.int .i32 (a : Int)) ∧ RdX w0 C w' p s' A c := by
  have UP := uptoX_any h hl [59]
  rw [show S [59] = ⟨#[59]⟩ from rfl] at UP
  cases hu : Xml.upto s [59] with
  | bad n =>
    have E : Xml.reference s = .bad n := by unfold Xml.reference; rw [hu]; rfl
    rw [E]
    rw [hu] at UP
    have UP := Lib.hid UP
    clear h E hu
    go_enter Tryz.func86, Tryz.ntmps86
    go_wp2_with fail
    refine UP.out.mono ?_
    rintro e w1 ⟨f1, rfl⟩
    exact ⟨rfl, f1, rfl⟩
  | ok a s1 =>
    rw [hu] at UP
    have k1 := Xml.upto_ok hu
    have al : a.length ≤ 65536 := by omega
    have UP := Lib.hid UP
    have E0 : Xml.reference s = (if a = [108, 116] then .ok 60 s1 else if a = [103, 116] then .ok 62 s1 else if a = [97, 109, 112] then .ok 38 s1 else if a = [113, 117, 111, 116] then .ok 34 s1 else if a = [97, 112, 111, 115] then .ok 39 s1
      else if Lib.hasPrefix a [35, 120] then Xml.numbered s1 16 (Lib.trimPrefix a [35, 120]) else if Lib.hasPrefix a [35] then Xml.numbered s1 10 (Lib.trimPrefix a [35]) else .bad 30) := by unfold Xml.reference; rw [hu]; rfl
    have N1 := Lib.hid NU
    clear h hu k1 NU
    have g0 : ((S a).toList == [108, 116]) = decide (a = [108, 116]) := by rw [S_toList]; exact eqdX _ _
    have g1 : ((S a).toList == [103, 116]) = decide (a = [103, 116]) := by rw [S_toList]; exact eqdX _ _
    have g2 : ((S a).toList == [97, 109, 112]) = decide (a = [97, 109, 112]) := by rw [S_toList]; exact eqdX _ _
    have g3 : ((S a).toList == [113, 117, 111, 116]) = decide (a = [113, 117, 111, 116]) := by rw [S_toList]; exact eqdX _ _
    have g4 : ((S a).toList == [97, 112, 111, 115]) = decide (a = [97, 112, 111, 115]) := by rw [S_toList]; exact eqdX _ _
    by_cases h0 : a = [108, 116]
    · rw [if_pos h0] at E0
      rw [decide_eq_true h0] at g0
      rw [E0]
      clear E0 N1 h0
      go_enter Tryz.func86, Tryz.ntmps86
      go_wp2_with fail
      refine UP.out.mono ?_
      rintro e w1 ⟨f1, rfl, r1⟩
      have F1 := Lib.hid f1
      have R1 := Lib.hid r1
      clear f1 r1 UP
      go_wp2_with fail
      go_ret
      exact ⟨F1.out, rfl, R1.out⟩
    rw [if_neg h0] at E0
    rw [decide_eq_false h0] at g0
    clear h0
    by_cases h1 : a = [103, 116]
    · rw [if_pos h1] at E0
      rw [decide_eq_true h1] at g1
      rw [E0]
      clear E0 N1 h1
      go_enter Tryz.func86, Tryz.ntmps86
      go_wp2_with fail
      refine UP.out.mono ?_
      rintro e w1 ⟨f1, rfl, r1⟩
      have F1 := Lib.hid f1
      have R1 := Lib.hid r1
      clear f1 r1 UP
      go_wp2_with fail
      go_ret
      exact ⟨F1.out, rfl, R1.out⟩
    rw [if_neg h1] at E0
    rw [decide_eq_false h1] at g1
    clear h1
    by_cases h2 : a = [97, 109, 112]
    · rw [if_pos h2] at E0
      rw [decide_eq_true h2] at g2
      rw [E0]
      clear E0 N1 h2
      go_enter Tryz.func86, Tryz.ntmps86
      go_wp2_with fail
      refine UP.out.mono ?_
      rintro e w1 ⟨f1, rfl, r1⟩
      have F1 := Lib.hid f1
      have R1 := Lib.hid r1
      clear f1 r1 UP
      go_wp2_with fail
      go_ret
      exact ⟨F1.out, rfl, R1.out⟩
    rw [if_neg h2] at E0
    rw [decide_eq_false h2] at g2
    clear h2
    by_cases h3 : a = [113, 117, 111, 116]
    · rw [if_pos h3] at E0
      rw [decide_eq_true h3] at g3
      rw [E0]
      clear E0 N1 h3
      go_enter Tryz.func86, Tryz.ntmps86
      go_wp2_with fail
      refine UP.out.mono ?_
      rintro e w1 ⟨f1, rfl, r1⟩
      have F1 := Lib.hid f1
      have R1 := Lib.hid r1
      clear f1 r1 UP
      go_wp2_with fail
      go_ret
      exact ⟨F1.out, rfl, R1.out⟩
    rw [if_neg h3] at E0
    rw [decide_eq_false h3] at g3
    clear h3
    by_cases h4 : a = [97, 112, 111, 115]
    · rw [if_pos h4] at E0
      rw [decide_eq_true h4] at g4
      rw [E0]
      clear E0 N1 h4
      go_enter Tryz.func86, Tryz.ntmps86
      go_wp2_with fail
      refine UP.out.mono ?_
      rintro e w1 ⟨f1, rfl, r1⟩
      have F1 := Lib.hid f1
      have R1 := Lib.hid r1
      clear f1 r1 UP
      go_wp2_with fail
      go_ret
      exact ⟨F1.out, rfl, R1.out⟩
    rw [if_neg h4] at E0
    rw [decide_eq_false h4] at g4
    clear h4
    have C1 := Lib.hid (fun u => cutpreX_lit u a [35, 120] ⟨#[35, 120]⟩ rfl)
    cases hp : Lib.hasPrefix a [35, 120] with
    | true =>
      rw [if_pos hp] at E0
      rw [hp] at C1
      clear hp
      rw [Xml.numbered_eq] at E0
      have NV := Lib.hid (fun u (K : EnvX u) => N1.out u 16 (Lib.trimPrefix a [35, 120]) K (by omega) (Nat.le_trans (Lib.trimPrefix_le _ _) al))
      cases hv : Xml.numVal 16 (Lib.trimPrefix a [35, 120]) with
      | none =>
        rw [hv] at E0 NV
        rw [E0]
        clear E0 hv N1
        go_enter Tryz.func86, Tryz.ntmps86
        go_wp2_with fail
        refine UP.out.mono ?_
        rintro e w1 ⟨f1, rfl, r1⟩
        have F1 := Lib.hid f1
        have R1 := Lib.hid r1
        clear f1 r1 UP
        go_wp2_with fail
        refine (C1.out _).mono ?_
        rintro e w2 ⟨rfl, rfl⟩
        clear C1
        go_wp2_with fail
        refine (NV.out _ R1.out.envw).mono ?_
        rintro e w3 ⟨rfl, b3⟩
        exact ⟨rfl, F1.out.trans (FrX.under b3), rfl⟩
      | some v =>
        rw [hv] at E0 NV
        rw [E0]
        clear E0 hv N1
        go_enter Tryz.func86, Tryz.ntmps86
        go_wp2_with fail
        refine UP.out.mono ?_
        rintro e w1 ⟨f1, rfl, r1⟩
        have F1 := Lib.hid f1
        have R1 := Lib.hid r1
        clear f1 r1 UP
        go_wp2_with fail
        refine (C1.out _).mono ?_
        rintro e w2 ⟨rfl, rfl⟩
        clear C1
        go_wp2_with fail
        refine (NV.out _ R1.out.envw).mono ?_
        rintro e w3 ⟨rfl, b3⟩
        have F3 := Lib.hid (F1.out.trans (FrX.under b3))
        have R3 := Lib.hid (R1.out.under b3)
        clear b3 NV
        go_wp2_with fail
        go_ret
        exact ⟨F3.out, rfl, R3.out⟩
    | false =>
      rw [if_neg (by rw [hp]; simp)] at E0
      rw [hp] at C1
      clear hp
      have C2 := Lib.hid (fun u => cutpreX_lit u a [35] ⟨#[35]⟩ rfl)
      cases hq : Lib.hasPrefix a [35] with
      | true =>
        rw [if_pos hq] at E0
        rw [hq] at C2
        clear hq
        rw [Xml.numbered_eq] at E0
        have NV := Lib.hid (fun u (K : EnvX u) => N1.out u 10 (Lib.trimPrefix a [35]) K (by omega) (Nat.le_trans (Lib.trimPrefix_le _ _) al))
        cases hv : Xml.numVal 10 (Lib.trimPrefix a [35]) with
        | none =>
          rw [hv] at E0 NV
          rw [E0]
          clear E0 hv N1
          go_enter Tryz.func86, Tryz.ntmps86
          go_wp2_with fail
          refine UP.out.mono ?_
          rintro e w1 ⟨f1, rfl, r1⟩
          have F1 := Lib.hid f1
          have R1 := Lib.hid r1
          clear f1 r1 UP
          go_wp2_with fail
          refine (C1.out _).mono ?_
          rintro e w2 ⟨rfl, rfl⟩
          clear C1
          go_wp2_with fail
          refine (C2.out _).mono ?_
          rintro e w2 ⟨rfl, rfl⟩
          clear C2
          go_wp2_with fail
          refine (demand_ok _ _).mono ?_
          rintro e w2 ⟨rfl, rfl⟩
          go_wp2_with fail
          refine (NV.out _ R1.out.envw).mono ?_
          rintro e w3 ⟨rfl, b3⟩
          exact ⟨rfl, F1.out.trans (FrX.under b3), rfl⟩
        | some v =>
          rw [hv] at E0 NV
          rw [E0]
          clear E0 hv N1
          go_enter Tryz.func86, Tryz.ntmps86
          go_wp2_with fail
          refine UP.out.mono ?_
          rintro e w1 ⟨f1, rfl, r1⟩
          have F1 := Lib.hid f1
          have R1 := Lib.hid r1
          clear f1 r1 UP
          go_wp2_with fail
          refine (C1.out _).mono ?_
          rintro e w2 ⟨rfl, rfl⟩
          clear C1
          go_wp2_with fail
          refine (C2.out _).mono ?_
          rintro e w2 ⟨rfl, rfl⟩
          clear C2
          go_wp2_with fail
          refine (demand_ok _ _).mono ?_
          rintro e w2 ⟨rfl, rfl⟩
          go_wp2_with fail
          refine (NV.out _ R1.out.envw).mono ?_
          rintro e w3 ⟨rfl, b3⟩
          have F3 := Lib.hid (F1.out.trans (FrX.under b3))
          have R3 := Lib.hid (R1.out.under b3)
          clear b3 NV
          go_wp2_with fail
          go_ret
          exact ⟨F3.out, rfl, R3.out⟩
      | false =>
        rw [if_neg (by rw [hq]; simp)] at E0
        rw [hq] at C2
        rw [E0]
        clear hq E0 N1
        go_enter Tryz.func86, Tryz.ntmps86
        go_wp2_with fail
        refine UP.out.mono ?_
        rintro e w1 ⟨f1, rfl, r1⟩
        have F1 := Lib.hid f1
        have R1 := Lib.hid r1
        clear f1 r1 UP
        go_wp2_with fail
        refine (C1.out _).mono ?_
        rintro e w2 ⟨rfl, rfl⟩
        clear C1
        go_wp2_with fail
        refine (C2.out _).mono ?_
        rintro e w2 ⟨rfl, rfl⟩
        clear C2
        go_wp2_with fail
        refine (demand_bad _ _).mono ?_
        rintro e w2 ⟨rfl, rfl⟩
        exact ⟨rfl, F1.out, rfl⟩
end
end Go.Proofs.YteefjmdallpihaaGreatDoor

namespace Go.Proofs.YteefjmdallpihaaGreatDoor
open Go.RowKit Reply Go.Shelf

/-- strings.IndexAny of one or two ASCII bytes answers as the model says, of whatever text. -/
def IdxX : Prop := ∀ (u : World) (l o : Reply.B), EnvX u → (o = [60, 38] ∨ o = [38]) → l.length ≤ 65536 → Calls Tryz.prog 103 #[.string (S l), .string (S o)] u fun e w' => e = .returned (.int .i64 (Lib.indexAny l o)) ∧ Below u.heap.size u w'
theorem indexAny_le : ∀ (l o : Reply.B), -1 ≤ Lib.indexAny l o ∧ Lib.indexAny l o ≤ l.length
  | [], o => by
    unfold Lib.indexAny
    simp
  | c :: l, o => by
    have ih := indexAny_le l o
    unfold Lib.indexAny
    simp only [List.length_cons]
    split
    · omega
    · split <;> (try simp) <;> omega
section
variable {w0 w : World} {C p : Nat} {s : Xml.St} {A : Option Addr} {c : Nat}
set_option maxRecDepth 100000 in
set_option maxHeartbeats 8000000 in
theorem plainX_any (IX : IdxX) (h : RdX w0 C w p s A c) (hl : s.rest.length ≤ 65536) (o : Reply.B) (ho : o = [60, 38] ∨ o = [38]) :
    Calls Tryz.prog 89 #[.pointer (some ⟨p, 0, none⟩), .string (S o)] w fun e w' => FrX C p w w' ∧ e = .returned (.string (S (Xml.plain s o).1)) ∧ RdX w0 C w' p (Xml.plain s o).2 A c := by
  have c0 : w.cell? ⟨p, 0, none⟩ = some (.string (S s.rest)) := h.blk.cell 0
  have ID := Lib.hid (IX w s.rest o h.envw ho hl)
  have RG := indexAny_le s.rest o
  have H := Lib.hid h
  obtain ⟨i, hi⟩ : ∃ i, i = Lib.indexAny s.rest o := ⟨_, rfl⟩
  have E : Xml.plain s o = if i < 0 then Xml.take s s.rest.length else Xml.take s i.toNat := by rw [hi]; rfl
  rw [← hi] at ID RG
  clear h ho hi
  by_cases h0 : i < 0
  · rw [E, if_pos h0]
    obtain rfl : i = -1 := by omega
    have TK := Lib.hid (fun u (q : RdX w0 C u p s A c) => takeX_any q s.rest.length (Nat.le_refl _))
    have ssz : (S s.rest).size = s.rest.length := S_size _
    obtain ⟨t, ht⟩ : ∃ x, x = S s.rest := ⟨_, rfl⟩
    rw [← ht] at c0 ID ssz
    have HT := Lib.hid ht
    have SZ := Lib.hid ssz
    clear E h0 RG ht ssz
    go_enter Tryz.func89, Tryz.ntmps89
    go_wp2_with fail
    refine ID.out.mono ?_
    rintro e w1 ⟨rfl, hb⟩
    have R1 := Lib.hid (H.out.under hb)
    have F1 : Hid (FrX C p w w1) := FrX.under hb
    have c1 : w1.cell? ⟨p, 0, none⟩ = some (.string t) := by rw [HT.out]; exact R1.out.blk.cell 0
    clear hb ID c0
    go_wp2_with fail
    rw [SZ.out]
    refine (TK.out _ R1.out).mono ?_
    rintro e w2 ⟨rfl, r2, f2⟩
    have R2 := Lib.hid r2
    have F2 := Lib.hid (F1.out.trans f2)
    clear r2 f2 TK
    go_wp2_with fail
    go_ret
    exact ⟨F2.out, rfl, R2.out⟩
  · rw [E, if_neg h0]
    obtain ⟨k, rfl⟩ : ∃ k : Nat, i = (k : Int) := ⟨i.toNat, by omega⟩
    have TK := Lib.hid (fun u (q : RdX w0 C u p s A c) => takeX_any q k (by omega))
    have ek : ((k : Int)).toNat = k := Int.toNat_natCast k
    rw [ek]
    clear E ek h0 RG
    go_enter Tryz.func89, Tryz.ntmps89
    go_wp2_with fail
    refine ID.out.mono ?_
    rintro e w1 ⟨rfl, hb⟩
    have R1 := Lib.hid (H.out.under hb)
    have F1 : Hid (FrX C p w w1) := FrX.under hb
    clear hb ID c0
    go_wp2_with fail
    refine (TK.out _ R1.out).mono ?_
    rintro e w2 ⟨rfl, r2, f2⟩
    have R2 := Lib.hid r2
    have F2 := Lib.hid (F1.out.trans f2)
    clear r2 f2 TK
    go_wp2_with fail
    go_ret
    exact ⟨F2.out, rfl, R2.out⟩
end
end Go.Proofs.YteefjmdallpihaaGreatDoor
