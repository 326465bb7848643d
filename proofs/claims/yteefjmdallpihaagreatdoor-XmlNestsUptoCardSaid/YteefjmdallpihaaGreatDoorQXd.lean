/-
  xml: strings.EqualFold of whatever text and 'xml'. · xml: Parse, with nothing left to be taken for granted.
-/
import Derived.Test.YteefjmdallpihaaGreatDoorQXc
import Derived.Shelf.Unicode.Decode
import Derived.Laws.BitsAllLaws
import Derived.ScopeJumps
import Derived.Lib.OthersKept
import Derived.Deep.LoopGhost
namespace Go.Proofs.YteefjmdallpihaaGreatDoor
open Go.RowKit Reply Go.Shelf

theorem decXml (t : ByteArray) (x : UInt8) (w : World) (h0 : t.data.toList[0]? = some x) (hx : x.toNat < 128) :
    Calls Tryz.prog 79 #[.string t] w fun e w' => e = .returned (.tuple #[.int .i32 x.toNat, .int .i64 1]) ∧ w' = w :=
  Any.utf8_DecodeRuneInString_ascii (ρ := Tryz.laysEqualFold_ren) { Tryz.laysEqualFold with } t x w h0 hx
set_option maxRecDepth 100000 in
set_option maxHeartbeats 1600000 in
theorem simpleX (w : World) (E : EnvX w) (x y : Nat) (h : (x, y) ∈ [(120, 88), (88, 120), (109, 77), (77, 109), (108, 76), (76, 108)]) :
    Calls Tryz.prog 80 #[.int .i32 (x : Int)] w fun e w' => e = .returned (.int .i32 (y : Int)) ∧ w' = w := by
  have c0 := E.fold x y h
  have hx : x < 128 ∧ y < 128 := by
    simp only [List.mem_cons, Prod.mk.injEq, List.not_mem_nil, or_false] at h
    omega
  obtain ⟨hx, hy⟩ := hx
  have z0 : decide ((x : Int) < 0) = false := decide_eq_false (by omega)
  have z1 : decide ((1114111 : Int) < (x : Int)) = false := decide_eq_false (by omega)
  have z2 : (x : Int) < 128 := by omega
  clear h E
  go_enter Tryz.func80, Tryz.ntmps80
  go_wp2_with fail
  go_ret
  exact ⟨rfl, rfl⟩
namespace Xml
def lowB (c : UInt8) : UInt8 := if 65 ≤ c.toNat ∧ c.toNat ≤ 90 then c + 32 else c
theorem isXml_eq (n : B) : isXml n = (n.map lowB == wXml) := rfl
theorem lowB_toNat (c : UInt8) : (lowB c).toNat = if 65 ≤ c.toNat ∧ c.toNat ≤ 90 then c.toNat + 32 else c.toNat := by
  have := c.toNat_lt
  unfold lowB
  split
  · rw [UInt8.toNat_add]
    show (c.toNat + 32) % 256 = _
    omega
  · rfl
theorem isXml_no {n : B} {k : Nat} (hk : k < n.length) (h : lowB (n.getD k 0) ≠ wXml.getD k 0) : isXml n = false := by
  rw [isXml_eq]
  cases hq : n.map lowB == wXml with
  | false => rfl
  | true =>
    have e := eq_of_beq hq
    have := congrArg (fun l => l.getD k 0) e
    simp only [List.getD_eq_getElem?_getD, List.getElem?_map, List.getElem?_eq_getElem hk, Option.map_some, Option.getD_some] at this h
    exact absurd this h
theorem isXml_end {n : B} (h : ∀ j, j < n.length → j < 3 → lowB (n.getD j 0) = wXml.getD j 0) : isXml n = decide (n.length = 3) := by
  rw [isXml_eq]
  by_cases hl : n.length = 3
  · rw [decide_eq_true hl, beq_iff_eq]
    match n, hl with
    | [a, b, c], _ =>
      have h0 := h 0 (by simp) (by omega)
      have h1 := h 1 (by simp) (by omega)
      have h2 := h 2 (by simp) (by omega)
      simp only [List.getD_cons_zero, List.getD_cons_succ] at h0 h1 h2
      simp only [List.map_cons, List.map_nil, h0, h1, h2]
      rfl
  · rw [decide_eq_false hl]
    cases hq : n.map lowB == wXml with
    | false => rfl
    | true =>
      have e := congrArg List.length (eq_of_beq hq)
      rw [List.length_map] at e
      exact absurd e hl
end Xml
/-- Where the walk jumps to, once a byte is beyond ASCII. -/
def JFold (w : World) (s t : ByteArray) (l : Reply.B) (R : Bool) (a' : Act) (w' : World) : Prop := w' = w ∧ ∃ i : Nat, a'.defers = [] ∧ a'.tmps.size = 123 ∧ a'.tmps.getD 0 undef = .string s ∧ a'.tmps.getD 1 undef = .string t ∧ a'.tmps.getD 5 undef = .int .i64 (i : Int) ∧ i < 3 ∧ i < l.length ∧ Hid (128 ≤ (l.getD i 0).toNat) ∧ Hid (R = false)
theorem range_getD (l : List Value) : (List.range l.length).map (fun k => l.getD k undef) = l := by
  apply List.ext_getElem
  · simp
  · intro i h1 h2
    simp [List.getD_eq_getElem?_getD, List.getElem?_eq_getElem h2]
theorem lit123 (tm : Array Value) (h : tm.size = 123) : ∃ f : Nat → Value, f = (fun k => tm.getD k undef) ∧ tm = #[f 0, f 1, f 2, f 3, f 4, f 5, f 6, f 7, f 8, f 9, f 10, f 11, f 12, f 13, f 14, f 15, f 16, f 17, f 18, f 19, f 20, f 21, f 22, f 23, f 24, f 25, f 26, f 27, f 28, f 29, f 30, f 31, f 32, f 33, f 34, f 35, f 36, f 37, f 38, f 39, f 40, f 41, f 42, f 43, f 44, f 45, f 46, f 47, f 48, f 49, f 50, f 51, f 52, f 53, f 54, f 55, f 56, f 57, f 58, f 59, f 60, f 61, f 62, f 63, f 64, f 65, f 66, f 67, f 68, f 69, f 70, f 71, f 72, f 73, f 74, f 75, f 76, f 77, f 78, f 79, f 80, f 81, f 82, f 83, f 84, f 85, f 86, f 87, f 88, f 89, f 90, f 91, f 92, f 93, f 94, f 95, f 96, f 97, f 98, f 99, f 100, f 101, f 102, f 103, f 104, f 105, f 106, f 107, f 108, f 109, f 110, f 111, f 112, f 113, f 114, f 115, f 116, f 117, f 118, f 119, f 120, f 121, f 122] := by
  refine ⟨_, rfl, ?_⟩
  have e := range_getD tm.toList
  rw [Array.length_toList, h] at e
  have e2 : tm = ((List.range 123).map (fun k => tm.toList.getD k undef)).toArray := by rw [e]
  have e3 : ∀ k, tm.toList.getD k undef = tm.getD k undef := fun k => by
    rw [List.getD_eq_getElem?_getD, Array.getD_eq_getD_getElem?, Array.getElem?_toList]
  simp only [e3] at e2
  exact e2
set_option maxRecDepth 100000 in
set_option maxHeartbeats 16000000 in
theorem foldX_env (w : World) (E : EnvX w) (l : Reply.B) (hl : l.length ≤ 65536) (t : ByteArray) (ht : t = ⟨#[120, 109, 108]⟩) :
    Calls Tryz.prog 57 #[.string (S l), .string t] w fun e w' => e = .returned (.bool (Xml.isXml l)) ∧ Below w.heap.size w w' := by
  have LS := S_size l
  have ts : t.size = 3 := by rw [ht]; rfl
  have HT := Lib.hid ht
  have HA : Hid (∀ k (hk : k < (S l).size), ((S l)[k]'hk) = l.getD k 0) := fun k hk => S_at l k hk
  have TA : Hid (∀ k (hk : k < t.size), (t[k]'hk) = Xml.wXml.getD k 0) := fun k hk => by
    subst ht
    match k, hk with
    | 0, _ => rfl
    | 1, _ => rfl
    | 2, _ => rfl
  have HE := Lib.hid E
  obtain ⟨R, hR⟩ : ∃ x, x = Xml.isXml l := ⟨_, rfl⟩
  rw [← hR]
  have HR := Lib.hid hR
  obtain ⟨s, hs⟩ : ∃ x, x = S l := ⟨_, rfl⟩
  have HS := Lib.hid hs
  rw [← hs] at LS HA ⊢
  have LN : Hid (s.size = l.length) := LS
  have sz : s.size ≤ 65536 := by omega
  obtain ⟨M, hM⟩ : ∃ M : Nat, min (s.size : Int) 3 = (M : Int) := ⟨min s.size 3, by omega⟩
  have hMs : M ≤ s.size := by omega
  have hMt : M ≤ 3 := by omega
  have hMe : M = s.size ∨ M = 3 := by omega
  clear ht E hR hs LS hl
  go_enter Tryz.func57, Tryz.ntmps57
  go_wp2
  refine wp_scope_jumps 0 (JFold w s t l R) (fun _ _ => 0) rfl ?first ?pass
  case pass =>
    intro a' w' hJ
    unfold JFold at hJ
    obtain ⟨tm, df⟩ := a'
    obtain ⟨hw, i, e0, e1, e2, e3, e4, h3, hil, H128, F⟩ := hJ
    rw [hw]
    clear hw
    simp only at e0 e1 e2 e3 e4
    obtain ⟨f, hf, rfl⟩ := lit123 tm e1
    have g0 : f 0 = .string s := by rw [hf]; exact e2
    have g1 : f 1 = .string t := by rw [hf]; exact e3
    have g5 : f 5 = .int .i64 (i : Int) := by rw [hf]; exact e4
    subst e0
    rw [g0, g1, g5]
    clear e1 e2 e3 e4 hf g0 g1 g5
    have hi0 : (i : Int) ≤ (s.size : Int) := by rw [LN.out]; omega
    have hi1 : (i : Int) ≤ 3 := by omega
    have S2 : s.extract i s.size = S (l.drop i) := by
      rw [HS.out, S_extract, S_size]
      congr 1
      rw [List.take_of_length_le (by rw [List.length_drop]; omega)]
    obtain ⟨d, hd, hyU⟩ : ∃ d : UInt8, Xml.wXml.getD i 0 = d ∧ (d.toNat, d.toNat - 32) ∈ [(120, 88), (88, 120), (109, 77), (77, 109), (108, 76), (76, 108)] ∧ (d.toNat - 32, d.toNat) ∈ [(120, 88), (88, 120), (109, 77), (77, 109), (108, 76), (76, 108)] := by
      match i, h3 with
      | 0, _ => exact ⟨120, rfl, by decide, by decide⟩
      | 1, _ => exact ⟨109, rfl, by decide, by decide⟩
      | 2, _ => exact ⟨108, rfl, by decide, by decide⟩
    have d3 : d.toNat = 120 ∨ d.toNat = 109 ∨ d.toNat = 108 := by
      rw [← hd]
      match i, h3 with
      | 0, _ => exact .inl rfl
      | 1, _ => exact .inr (.inl rfl)
      | 2, _ => exact .inr (.inr rfl)
    have T2 : (t.extract i 3).size = 3 - i ∧ (t.extract i 3).data.toList[0]? = some d := by
      rw [HT.out, ← hd]
      match i, h3 with
      | 0, _ => exact ⟨rfl, rfl⟩
      | 1, _ => exact ⟨rfl, rfl⟩
      | 2, _ => exact ⟨rfl, rfl⟩
    have S2h := Lib.hid S2
    have T2h := Lib.hid T2
    clear S2 T2
    go_upto_region 16 with fail
    have S2 := S2h.out
    have T2 := T2h.out
    clear S2h T2h
    obtain ⟨s2, hs2⟩ : ∃ x, x = s.extract i s.size := ⟨_, rfl⟩
    obtain ⟨t2, ht2⟩ : ∃ x, x = t.extract i 3 := ⟨_, rfl⟩
    rw [← hs2, ← ht2]
    rw [← hs2] at S2
    rw [← ht2] at T2
    have s2s : s2.size = l.length - i := by rw [S2, S_size, List.length_drop]
    have hp : 0 < s2.size := by omega
    have hd2 : Utf8.decode s2 0 = Xml.stepD (l.drop i) := by
      rw [S2]
      have := Xml.decode_step (l.drop i) 0
      rw [List.drop_zero] at this
      exact this
    have dg : (l.drop i).getD 0 0 = l.getD i 0 := by rw [List.getD_eq_getElem?_getD, List.getElem?_drop, List.getD_eq_getElem?_getD]; rfl
    obtain ⟨r128, _, _⟩ := Xml.stepD_high (l := l.drop i) (by rw [dg]; exact H128.out)
    obtain ⟨r, n, hD⟩ : ∃ r n, Xml.stepD (l.drop i) = (r, n) := ⟨_, _, rfl⟩
    rw [hD] at hd2 r128
    have r128 : 128 ≤ r := r128
    obtain ⟨y, hy⟩ : ∃ y, y = d.toNat := ⟨_, rfl⟩
    rw [← hy] at d3 hyU
    have DC := Lib.hid (fun u => decXml t2 d u T2.2 (by rw [← hy]; omega))
    rw [← hy] at DC
    have HEW := Lib.hid HE.out
    have tz := T2.1
    have F1 := Lib.hid (fun (u : World) (E : EnvX u) => simpleX u E y (y - 32) hyU.1)
    have F2 := Lib.hid (fun (u : World) (E : EnvX u) => simpleX u E (y - 32) y hyU.2)
    obtain ⟨U, hU⟩ : ∃ U, U = y - 32 := ⟨_, rfl⟩
    rw [← hU] at F1 F2
    have hUy : U + 32 = y := by omega
    clear hs2 ht2 S2 T2 hd dg hD hy hyU hU HA TA HT HS hi0 hi1
    go_wp2_with fail
    go_loopg [1] 1 (fun g v1 wx => g = 1 ∧ v1 = .string t2 ∧ Hid (Below w.heap.size w wx) ∧ Hid (wx.heap[w.heap.size]? = some (.stringIter s2 0)))
    case atStart => exact ⟨rfl, rfl, (Below.refl _ _).alloc (Nat.le_refl _) _, World.iter_heap w s2 0⟩
    case round =>
      obtain ⟨hg, rfl, HB, HIt⟩ := hrel
      cases gk with
      | zero => omega
      | succ g =>
        have hnx := fun ty => Lib.run_next_any_at (P := Tryz.prog) wr w.heap.size s2 0 ty HIt.out hp
        rw [hd2] at hnx
        obtain ⟨W2, hW2⟩ : ∃ W2, W2 = wr.iterAt w.heap.size s2 (0 + n) := ⟨_, rfl⟩
        have B2 : Hid (Below w.heap.size w W2) := by rw [hW2]; exact Lib.below_iterAt HB.out (Nat.le_refl _) s2 _
        simp only at hnx
        rw [← hW2] at hnx
        have E2 := Lib.hid (HEW.out.below B2.out)
        clear hW2 HB HIt
        have tz0 : ((t2.size : Int) == 0) = false := by rw [beq_eq_false_iff_ne]; omega
        have q1 : ((y : Int) == (r : Int)) = false := by rw [beq_eq_false_iff_ne]; omega
        have q2 : decide ((y : Int) < (r : Int)) = true := decide_eq_true (by omega)
        have q3 : decide ((r : Int) < 128) = false := decide_eq_false (by omega)
        have q4 : ((U : Int) != (y : Int)) = true := by rw [bne_iff_ne]; omega
        have q5 : decide ((U : Int) < (r : Int)) = true := decide_eq_true (by omega)
        have q6 : ((y : Int) != (y : Int)) = false := by simp
        have t1 : (1 : Int) ≤ (t2.size : Int) := by omega
        go_wp2_with fail
        refine (DC.out _).mono ?_
        rintro e w3 ⟨rfl, hw3⟩
        rw [hw3]
        clear hw3 DC
        go_wp2_with fail
        refine (F1.out _ E2.out).mono ?_
        rintro e w4 ⟨rfl, hw4⟩
        rw [hw4]
        clear hw4 F1
        go_wp2_with fail
        go_loopg [13] 2 (fun g v wx => W2 = wx ∧ ((g = 2 ∧ v = .int .i32 (U : Int)) ∨ (g = 1 ∧ v = .int .i32 (y : Int))))
        case atStart => exact ⟨rfl, .inl ⟨rfl, rfl⟩⟩
        case round =>
          obtain ⟨rfl, ⟨hg2, rfl⟩ | ⟨hg2, rfl⟩⟩ := hrel
          · cases gk with
            | zero => omega
            | succ g2 =>
              go_wp2_with fail
              refine (F2.out _ E2.out).mono ?_
              rintro e w5 ⟨rfl, hw5⟩
              rw [hw5]
              clear hw5
              go_wp2_with fail
              go_roundg 1
              case measure => omega
              case rel => exact ⟨rfl, .inr ⟨rfl, rfl⟩⟩
          · go_wp2_with fail
            simp only [Exit.jump]
            go_ret
            exact ⟨by rw [F.out]; rfl, B2.out⟩
  go_wp2
  go_loopg [5] M (fun g s5 wx => w = wx ∧ ∃ i : Nat, i + g = M ∧ s5 = .int .i64 i ∧ Hid (∀ j, j < i → Xml.lowB (l.getD j 0) = Xml.wXml.getD j 0))
  case atStart => exact ⟨rfl, 0, by omega, rfl, fun j hj => by omega⟩
  case round =>
    obtain ⟨rfl, i, hig, rfl, HI⟩ := hrel
    clear hM
    cases gk with
    | zero =>
      have hiM : ¬ ((i : Int) < (M : Int)) := by omega
      obtain rfl : i = M := by omega
      by_cases hst : s.size = 3
      · have hb : ((s.size : Int) == 3) = true := beq_iff_eq.2 (by omega)
        have F : Hid (R = true) := HR.out.trans ((Xml.isXml_end (fun j h1 h2 => HI.out j (by rw [← LN.out] at h1; omega))).trans (decide_eq_true (by rw [← LN.out]; exact hst)))
        clear hst
        go_wp2
        simp only [Exit.jump]
        go_ret
        exact ⟨by rw [F.out]; rfl, Below.refl _ _⟩
      · have hb : ((s.size : Int) == 3) = false := beq_eq_false_iff_ne.2 (by omega)
        have F : Hid (R = false) := HR.out.trans ((Xml.isXml_end (fun j h1 h2 => HI.out j (by rw [← LN.out] at h1; omega))).trans (decide_eq_false (by rw [← LN.out]; exact hst)))
        clear hst
        go_wp2
        simp only [Exit.jump]
        go_ret
        exact ⟨by rw [F.out]; rfl, Below.refl _ _⟩
    | succ g =>
      have hiM : (i : Int) < (M : Int) := by omega
      have hisz : (i : Int) < (s.size : Int) := by omega
      have hitz : (i : Int) < (t.size : Int) := by omega
      have h3 : i < 3 := by omega
      have hil : i < l.length := by rw [← LN.out]; omega
      obtain ⟨c, hc⟩ : ∃ c : UInt8, s[i]'(by omega) = c := ⟨_, rfl⟩
      obtain ⟨d, hd⟩ : ∃ d : UInt8, t[i]'(by omega) = d := ⟨_, rfl⟩
      have ec : l.getD i 0 = c := by rw [← HA.out i (by omega), hc]
      have ed : Xml.wXml.getD i 0 = d := by rw [← TA.out i (by omega), hd]
      have d3 : d.toNat = 120 ∨ d.toNat = 109 ∨ d.toNat = 108 := by
        rw [← ed]
        match i, h3 with
        | 0, _ => exact .inl rfl
        | 1, _ => exact .inr (.inl rfl)
        | 2, _ => exact .inr (.inr rfl)
      have NX : Hid (Xml.lowB c = d → ∀ j, j < i + 1 → Xml.lowB (l.getD j 0) = Xml.wXml.getD j 0) := fun h j hj => by
        by_cases hji : j < i
        · exact HI.out j hji
        · have : j = i := by omega
          subst this
          rw [ec, ed]
          exact h
      have NO : Hid (Xml.lowB c ≠ d → R = false) := fun h => HR.out.trans (Xml.isXml_no hil (by rw [ec, ed]; exact h))
      have c8 := c.toNat_lt
      have LB := Xml.lowB_toNat c
      obtain ⟨x, hx⟩ : ∃ x, x = c.toNat := ⟨_, rfl⟩
      obtain ⟨y, hy⟩ : ∃ y, y = d.toNat := ⟨_, rfl⟩
      have exz : ((s[i]'(by omega)).toNat : Int) = (x : Int) := by rw [hc, hx]
      have eyz : ((t[i]'(by omega)).toNat : Int) = (y : Int) := by rw [hd, hy]
      rw [← hx] at c8 LB
      rw [← hy] at d3
      have hor : bits .or .u8 (x : Int) (y : Int) = ((x ||| y : Nat) : Int) := u8_or_nat _ _ (by omega) (by omega)
      by_cases hx128 : x < 128
      · have hor128 : ¬ ((128 : Int) ≤ ((x ||| y : Nat) : Int)) := by have := Nat.or_lt_two_pow (n := 7) hx128 (show y < 2 ^ 7 by omega); omega
        have YES : Hid ((x = y ∨ (65 ≤ x ∧ x ≤ 90 ∧ y = x + 32)) → Xml.lowB c = d) := fun h => by
          apply UInt8.toNat_inj.1
          rw [LB, ← hy]
          split <;> omega
        have NOT : Hid (¬ (x = y ∨ (65 ≤ x ∧ x ≤ 90 ∧ y = x + 32)) → R = false) := fun h => NO.out (fun e => h (by
          have e := congrArg UInt8.toNat e
          rw [LB, ← hy] at e
          split at e <;> omega))
        clear hc hd ec ed hx hy LB c8 NO
        go_wp2
        all_goals (try simp only [beq_iff_eq, beq_eq_false_iff_ne, ne_eq] at *)
        all_goals first
          | (go_roundg g
             case measure => omega
             case rel => exact ⟨rfl, i + 1, by omega, by first | rfl | simp | go_num, NX.out (YES.out (by omega))⟩)
          | (simp only [Exit.jump]
             go_ret
             exact ⟨by rw [NOT.out (by omega)]; rfl, Below.refl _ _⟩)
      · have hor128 : (128 : Int) ≤ ((x ||| y : Nat) : Int) := by have := Nat.left_le_or (n := x) (m := y); omega
        have F : Hid (R = false) := NO.out (fun e => by
          have e := congrArg UInt8.toNat e
          rw [LB, ← hy] at e
          split at e <;> omega)
        have H128 : Hid (128 ≤ (l.getD i 0).toNat) := by show _ ≤ _; rw [ec, ← hx]; omega
        clear LB NX NO ec ed hc hd hx hy
        go_wp2_with fail
        go_step3
        simp +zetaDelta only [Exit.inBlock, Exit.then, Exit.jump]
        exact ⟨trivial, rfl, i, rfl, rfl, rfl, rfl, rfl, h3, hil, H128, F⟩
end Go.Proofs.YteefjmdallpihaaGreatDoor

namespace Go.Proofs.YteefjmdallpihaaGreatDoor
open Go.RowKit Reply Go.Shelf

theorem foldX : FoldX := fun u n E hl => foldX_env u E n hl _ rfl
theorem parse_any (w : World) (E : EnvX w) (l : Reply.B) (hl : l.length ≤ 4194304) :
    Calls Tryz.prog 8 #[.string (S l)] w fun e w' => Below w.heap.size w w' ∧ EndsP w.heap.size (Xml.parse l) e w' :=
  parseX_any foldX numX idxX runeX w E l hl
end Go.Proofs.YteefjmdallpihaaGreatDoor
