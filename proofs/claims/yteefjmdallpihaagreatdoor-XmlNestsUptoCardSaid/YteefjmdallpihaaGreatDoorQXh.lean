/-
  docketlaw10.XmlNests: its walk.
-/
import Derived.Test.YteefjmdallpihaaGreatDoorQXf
import Derived.Test.YteefjmdallpihaaGreatDoorQXg
import Derived.Lib.AppendStr
namespace Go.Proofs.YteefjmdallpihaaGreatDoor
open Go.RowKit Reply Go.Shelf

theorem byteTX : ByteT Tryz.prog 24 5 := ⟨Tryz.underlying24, Tryz.underlying5, by kernel_rfl, info5⟩
/-- A row of bytes of the call's own. -/
def OwnU (w : World) (base : Nat) (v : Value) (l : Reply.B) : Prop := OwnB w base 5 v (l.map fun c : UInt8 => c.toNat)
section
variable {w w' : World} {base : Nat} {v u : Value} {l m : Reply.B}
theorem OwnU.nil (w : World) (base : Nat) : OwnU w base (.slice none 0 0) [] := ⟨⟨rfl, .inl ⟨rfl, rfl⟩⟩, by simp⟩
theorem OwnU.any (h : OwnU w base v l) : ∃ A cap, v = .slice A l.length cap ∧ Bts w A l.length (l.map fun c : UInt8 => c.toNat) := by
  obtain ⟨A, cap, e, hb⟩ := OwnB.any h
  rw [List.length_map] at e hb
  exact ⟨A, cap, e, hb⟩
theorem OwnU.below (h : OwnU w base v l) (k : Below w.heap.size w w') : OwnU w' base v l := by
  refine ⟨⟨h.1.1, ?_⟩, h.2⟩
  rcases h.1.2 with h0 | ⟨g, cap, cur, rfl, hg, hh, r⟩
  · exact .inl h0
  · exact .inr ⟨g, cap, cur, rfl, hg, (k.block g (Array.getElem?_eq_some_iff.1 hh).1).trans hh, r⟩
theorem OwnU.kept (h : OwnU w base v l) {r : Option Nat} (hg : w.grownBy w' r) (hne : ∀ g, v.ownBlock = some g → some g ≠ r) : OwnU w' base v l := by
  refine ⟨⟨h.1.1, ?_⟩, h.2⟩
  rcases h.1.2 with h0 | ⟨g, cap, cur, rfl, hb, hh, r⟩
  · exact .inl h0
  · exact .inr ⟨g, cap, cur, rfl, hb, (hg.block g (Array.getElem?_eq_some_iff.1 hh).1 (hne g rfl)).trans hh, r⟩
theorem OwnU.grown {a : World} (ho : OwnU w base v l) (hb : Below base a w) (hg : w.grownBy w' v.ownBlock) (hs : base ≤ w.heap.size) : Below base a w' := OwnB.grown ho hb hg hs
theorem OwnU.cells (h : OwnU w base v l) {g : Nat} (hg : v.ownBlock = some g) {j : Nat} {c : UInt8} (hc : l[j]? = some c) : w.cell? ⟨g, j, none⟩ = some (.int .u8 (c.toNat : Int)) := by
  rcases h.1.2 with ⟨rfl, _⟩ | ⟨g', cap, cur, rfl, _, hh, hn, _, _, htake⟩
  · cases hg
  · have : g' = g := by simpa [Value.ownBlock] using hg
    subst this
    have hj := (List.getElem?_eq_some_iff.1 hc).1
    rw [List.length_map] at htake
    rw [cell_of_row w g' j cur _ _ hh, ← Array.getElem?_toList]
    have e1 : cur.toList[j]? = (cur.toList.take (l.length * 1))[j]? := by rw [List.getElem?_take, if_pos (by omega)]
    rw [e1, htake, List.getElem?_map, List.getElem?_map, hc]
    rfl
/-- Two rows that say different things are two. -/
theorem OwnU.apart (h : OwnU w base v l) (k : OwnU w base u m) {j : Nat} {c d : UInt8} (hc : l[j]? = some c) (hd : m[j]? = some d) (hcd : c ≠ d) : ∀ g, v.ownBlock = some g → some g ≠ u.ownBlock := fun g hg e => by
  have e1 := h.cells hg hc
  have e2 := k.cells e.symm hd
  rw [e1] at e2
  injection e2 with e2
  injection e2 with _ e2
  exact hcd (UInt8.toNat_inj.1 (by omega))
end
set_option maxRecDepth 100000 in
theorem wpList_append_lit {w : World} {ops : Array Oper} {rest : List Oper} {o : Oper} {a : Act} {Q : Exit → Act → World → Prop} (hgd : o.guard = none) (sl x : Operand)
    (ho : o.op = .call { callee := .builtin .append, args := #[sl, x], argTypes := #[24, 9] }) (base : Nat) (v : Value) (k : Reply.B) (hs : a.eval sl = v) (hown : OwnU w base v k) (l : Reply.B) (hx : a.eval x = .string (S l))
    (hb : k.length + l.length ≤ 100000) (hbase : base ≤ w.heap.size)
    (h : ∀ v' w', OwnU w' base v' (k ++ l) → w.grownBy w' v.ownBlock → wpList Tryz.prog ops Q rest (a.put o.dst v') w') : wpList Tryz.prog ops Q (o :: rest) a w := by
  obtain ⟨i, hi, hz, hsize, hby⟩ := info_parts info5
  have sz : (S l).size = l.length := S_size l
  have kl : (k.map fun c : UInt8 => c.toNat).length = k.length := List.length_map _
  have hw := hown.1
  rw [kl] at hw
  refine Lib.wpList_append_own_string w hgd sl x 24 9 ho base 5 i Tryz.underlying24 Tryz.underlying9 hi hz hsize hby v k.length _ hs hw (S l) hx (by rw [sz]; unfold maxLen; omega) (by rw [sz]; omega) hbase (fun v' w' h1 h2 _ => h v' w' ⟨?_, fun y hy => ?_⟩ h2)
  · rw [sz, strCells_nums, nums_S, ← List.map_append, ← List.map_append, ← List.length_append] at h1
    rw [List.length_map]
    exact h1
  · obtain ⟨c, _, rfl⟩ := List.mem_map.1 hy
    exact c.toNat_lt
/-- What Parse ends with, where its error alone is asked. -/
theorem EndsP.err {B : Nat} {R : Xml.Res Xml.Nd} {e : Ending} {w' : World} (h : EndsP B R e w') : ∃ c0 c1 c2 A1 k1 d1 A2 k2 d2, e = .returned (.tuple #[.agg #[.string c0, .string c1, .string c2, .slice A1 k1 d1, .slice A2 k2 d2], .int .i64 (Xml.errOf R : Int)]) := by
  cases R with
  | bad n => exact ⟨_, _, _, _, _, _, _, _, _, h⟩
  | ok d s =>
    obtain ⟨m, h1, h2⟩ := h
    obtain ⟨⟨A1, k1, c1, e1⟩, A2, k2, c2, e2⟩ := h2.slices
    refine ⟨S m.text, S m.space, S m.name, A1, k1, c1, A2, k2, c2, ?_⟩
    rw [h1]
    unfold NC.val
    rw [e1, e2]
    rfl
theorem nth1 (k : Nat) (hk : 0 < k) : (Xml.rep Xml.tX k)[1]? = some 120 ∧ (Xml.rep Xml.tXe k)[1]? = some 47 := by
  obtain ⟨j, rfl⟩ : ∃ j, k = j + 1 := ⟨k - 1, by omega⟩
  rw [Xml.rep_succ, Xml.rep_succ]
  exact ⟨rfl, rfl⟩
set_option maxRecDepth 100000 in
set_option maxHeartbeats 32000000 in
theorem nests_walk (w : World) (E : EnvX w) (n kids : Nat) (hn : n < 256) (hkid : kids < 65536) :
    Calls Tryz.prog 3 #[.int .u8 (n : Int), .int .u16 (kids : Int)] w fun e w' => e = .returned (.bool true) ∧ Below w.heap.size w w' := by
  have FX := Lib.hid (fixedX_any w E)
  have HE := Lib.hid E
  clear E
  go_enter Tryz.func3, Tryz.ntmps3
  go_wp2_with fail
  refine FX.out.mono ?_
  rintro e w1 ⟨rfl, b1⟩
  have B1 := Lib.hid b1
  clear b1 FX
  go_upto_region 4 with fail
  obtain ⟨k, hk⟩ : ∃ k : Nat, k = n % 40 + 1 := ⟨_, rfl⟩
  have ek : (n : Int) % 40 + 1 = (k : Int) := by omega
  rw [ek]
  have k1 : 1 ≤ k := by omega
  have k40 : k ≤ 40 := by omega
  clear hk ek
  go_wp2_with fail
  go_loopw [6, 7, 8] (fun va vb vi wr => ∃ (j : Nat) (A : Option Addr) (la ca : Nat) (B : Option Addr) (lb cb : Nat), j ≤ k ∧ vi = .int .i64 j ∧ va = .slice A la ca ∧ vb = .slice B lb cb ∧ Hid (OwnU wr w1.heap.size (.slice A la ca) (Xml.rep Xml.tX j) ∧ OwnU wr w1.heap.size (.slice B lb cb) (Xml.rep Xml.tXe j) ∧ Below w1.heap.size w1 wr ∧ (j = 0 → A = none ∧ B = none))) (fun _ _ vi _ => k - (intOf vi).toNat)
  case atStart => exact ⟨0, none, 0, 0, none, 0, 0, by omega, rfl, rfl, rfl, ⟨OwnU.nil _ _, OwnU.nil _ _, Below.refl _ _, fun _ => ⟨rfl, rfl⟩⟩⟩
  case round =>
    obtain ⟨j, A, la, ca, Bb, lb, cb, hj, rfl, rfl, rfl, H⟩ := hrel
    by_cases hlt : j < k
    · have jz : (j : Int) < (k : Int) := by omega
      have lenA : (Xml.rep Xml.tX j).length + 3 ≤ 100000 := by rw [Xml.rep_length]; show j * 3 + 3 ≤ _; omega
      have lenB : (Xml.rep Xml.tXe j).length + 4 ≤ 100000 := by rw [Xml.rep_length]; show j * 4 + 4 ≤ _; omega
      go_wp2_with (at_builtin; refine wpList_append_lit rfl _ _ rfl w1.heap.size _ (Xml.rep Xml.tX j) rfl H.out.1 Xml.tX rfl ?q1 ?q2 ?_)
      case q1 => exact lenA
      case q2 => exact H.out.2.2.1.size
      intro va' w2 oa ga
      have ob : OwnU w2 w1.heap.size (.slice Bb lb cb) (Xml.rep Xml.tXe j) := by
        rcases Nat.eq_zero_or_pos j with h0 | h0
        · obtain ⟨rfl, rfl⟩ := H.out.2.2.2 h0
          exact H.out.2.1.kept ga (fun g e => by cases e)
        · exact H.out.2.1.kept ga (H.out.2.1.apart H.out.1 (nth1 j h0).2 (nth1 j h0).1 (by decide))
      have b2 : Below w1.heap.size w1 w2 := H.out.1.grown H.out.2.2.1 ga H.out.2.2.1.size
      have OA : OwnU w2 w1.heap.size va' (Xml.rep Xml.tX (j + 1)) := oa
      obtain ⟨A2, ca2, rfl, _⟩ := OA.any
      obtain ⟨la2, hla2⟩ : ∃ x, x = (Xml.rep Xml.tX (j + 1)).length := ⟨_, rfl⟩
      rw [← hla2] at OA ⊢
      have HO := Lib.hid OA
      have HB := Lib.hid ob
      have H2 := Lib.hid b2
      have HA1 : Hid (j = 0 → Bb = none) := fun h => (H.out.2.2.2 h).2
      clear oa ga ob b2 OA hla2 H
      go_wp2_with (at_builtin; refine wpList_append_lit rfl _ _ rfl w1.heap.size _ (Xml.rep Xml.tXe j) rfl HB.out Xml.tXe rfl ?q1 ?q2 ?_)
      case q1 => exact lenB
      case q2 => exact H2.out.size
      intro vb' w3 ob gb
      have oa : OwnU w3 w1.heap.size (.slice A2 la2 ca2) (Xml.rep Xml.tX (j + 1)) := by
        rcases Nat.eq_zero_or_pos j with h0 | h0
        · obtain rfl := HA1.out h0
          exact HO.out.kept gb (fun g e e2 => by cases e2)
        · exact HO.out.kept gb (HO.out.apart HB.out (nth1 (j + 1) (by omega)).1 (nth1 j h0).2 (by decide))
      have b3 : Below w1.heap.size w1 w3 := HB.out.grown H2.out gb H2.out.size
      have OB : OwnU w3 w1.heap.size vb' (Xml.rep Xml.tXe (j + 1)) := ob
      obtain ⟨B2, cb2, rfl, _⟩ := OB.any
      obtain ⟨lb2, hlb2⟩ : ∃ x, x = (Xml.rep Xml.tXe (j + 1)).length := ⟨_, rfl⟩
      rw [← hlb2] at OB ⊢
      have N : Hid (OwnU w3 w1.heap.size (.slice A2 la2 ca2) (Xml.rep Xml.tX (j + 1)) ∧ OwnU w3 w1.heap.size (.slice B2 lb2 cb2) (Xml.rep Xml.tXe (j + 1)) ∧ Below w1.heap.size w1 w3 ∧ (j + 1 = 0 → A2 = none ∧ B2 = none)) := ⟨oa, OB, b3, fun h => by omega⟩
      clear ob gb oa b3 OB hlb2 HO HB H2 HA1 lenA lenB
      go_wp2_with fail
      go_roundw
      case rel => exact ⟨j + 1, A2, la2, ca2, B2, lb2, cb2, by omega, by go_num, rfl, rfl, N⟩
      case measure => simp [intOf]; omega
    · obtain rfl : j = k := by omega
      obtain ⟨A', ca', ea, ba⟩ := H.out.1.any
      obtain ⟨B', cb', eb, bb⟩ := H.out.2.1.any
      injection ea with ea1 ea2 ea3
      injection eb with eb1 eb2 eb3
      have cva := ba.toStr byteTX Tryz.underlying9 ca
      have cvb := bb.toStr byteTX Tryz.underlying9 cb
      rw [strB_map, ← ea1, ← ea2] at cva
      rw [strB_map, ← eb1, ← eb2] at cvb
      have BW := Lib.hid (B1.out.trans (H.out.2.2.1.mono B1.out.size))
      have sza : (S (Xml.rep Xml.tX j)).size = j * 3 := by rw [S_size, Xml.rep_length]; rfl
      have szb : (S (Xml.rep Xml.tXe j)).size = j * 4 := by rw [S_size, Xml.rep_length]; rfl
      have z1 : ¬ 9223372036854775807 < (S (Xml.rep Xml.tX j)).size + (S (Xml.rep Xml.tXe j)).size := by rw [sza, szb]; omega
      have P1 := parse_any wr (HE.out.below BW.out) (Xml.rep Xml.tX j ++ Xml.rep Xml.tXe j) (by rw [List.length_append, Xml.rep_length, Xml.rep_length]; show j * 3 + j * 4 ≤ _; omega)
      rw [← S_append] at P1
      have NE : Hid (Xml.errOf (Xml.parse (Xml.rep Xml.tX j ++ Xml.rep Xml.tXe j)) = if j ≤ 16 then 0 else 31) := by
        have := Xml.nests ⟨j - 1, by omega⟩
        simp only [Nat.sub_add_cancel k1] at this
        exact this
      have P1 := Lib.hid P1
      generalize S (Xml.rep Xml.tX j) = sa at *
      generalize S (Xml.rep Xml.tXe j) = sb at *
      clear H ba bb ea1 ea2 ea3 eb1 eb2 eb3 sza szb
      go_wp2_with fail
      refine P1.out.mono ?_
      rintro e w2 ⟨b2, X2⟩
      obtain ⟨c0, c1, c2, A1, ka1, da1, A2, ka2, da2, rfl⟩ := X2.err
      rw [NE.out]
      have BX := Lib.hid (BW.out.trans (b2.mono BW.out.size))
      clear b2 X2 P1 cva cvb BW NE z1
      by_cases h16 : j ≤ 16
      · rw [if_pos h16]
        have q16 : decide ((j : Int) ≤ 16) = true := decide_eq_true (by omega)
        have q17 : decide ((16 : Int) < (j : Int)) = false := decide_eq_false (by omega)
        go_upto_region 14 with fail
        obtain ⟨m, hm⟩ : ∃ m : Nat, m = 4080 + kids % 32 := ⟨_, rfl⟩
        have em : 4080 + (kids : Int) % 32 = (m : Int) := by omega
        rw [em]
        have m1 : m ≤ 4111 := by omega
        clear hm em
        obtain ⟨w3, hw3⟩ : ∃ x, x = w2.alloc (.cells #[.string c0, .string c1, .string c2, .slice A1 ka1 da1, .slice A2 ka2 da2] 28) := ⟨_, rfl⟩
        rw [← hw3]
        have B3 : Hid (Below w.heap.size w w3) := by rw [hw3]; exact BX.out.alloc BX.out.size _
        clear hw3 BX
        go_wp2_with fail
        go_loopw [12, 13] (fun va vi wr => ∃ (i : Nat) (A : Option Addr) (la ca : Nat), i ≤ m ∧ vi = .int .i64 i ∧ va = .slice A la ca ∧ Hid (OwnU wr w3.heap.size (.slice A la ca) (Xml.rep Xml.tY i) ∧ Below w3.heap.size w3 wr)) (fun _ vi _ => m - (intOf vi).toNat)
        case atStart => exact ⟨0, none, 0, 0, by omega, rfl, rfl, ⟨OwnU.nil _ _, Below.refl _ _⟩⟩
        case round =>
          obtain ⟨i, A5, la5, ca5, hi, rfl, rfl, H5⟩ := hrel
          by_cases hlt5 : i < m
          · have iz : (i : Int) < (m : Int) := by omega
            have lenA : (Xml.rep Xml.tY i).length + 4 ≤ 100000 := by rw [Xml.rep_length]; show i * 4 + 4 ≤ _; omega
            go_wp2_with (at_builtin; refine wpList_append_lit rfl _ _ rfl w3.heap.size _ (Xml.rep Xml.tY i) rfl H5.out.1 Xml.tY rfl ?q1 ?q2 ?_)
            case q1 => exact lenA
            case q2 => exact H5.out.2.size
            intro va' w5 oa ga
            have b5 : Below w3.heap.size w3 w5 := H5.out.1.grown H5.out.2 ga H5.out.2.size
            have OA : OwnU w5 w3.heap.size va' (Xml.rep Xml.tY (i + 1)) := oa
            obtain ⟨A6, ca6, rfl, _⟩ := OA.any
            obtain ⟨la6, hla6⟩ : ∃ x, x = (Xml.rep Xml.tY (i + 1)).length := ⟨_, rfl⟩
            rw [← hla6] at OA ⊢
            have N5 : Hid (OwnU w5 w3.heap.size (.slice A6 la6 ca6) (Xml.rep Xml.tY (i + 1)) ∧ Below w3.heap.size w3 w5) := ⟨OA, b5⟩
            clear oa ga b5 OA hla6 H5 lenA
            go_wp2_with fail
            go_roundw
            case rel => exact ⟨i + 1, A6, la6, ca6, by omega, by go_num, rfl, N5⟩
            case measure => simp [intOf]; omega
          · obtain rfl : i = m := by omega
            obtain ⟨A', ca', ea, ba⟩ := H5.out.1.any
            injection ea with ea1 ea2 ea3
            have cva := ba.toStr byteTX Tryz.underlying9 ca5
            rw [strB_map, ← ea1, ← ea2] at cva
            have BW := Lib.hid (B3.out.trans (H5.out.2.mono B3.out.size))
            have sza : (S (Xml.rep Xml.tY i)).size = i * 4 := by rw [S_size, Xml.rep_length]; rfl
            have z1 : ¬ 9223372036854775807 < 3 + (S (Xml.rep Xml.tY i)).size := by rw [sza]; omega
            have z2 : ¬ 9223372036854775807 < 3 + (S (Xml.rep Xml.tY i)).size + 4 := by rw [sza]; omega
            have P2 := parse_any wr (HE.out.below BW.out) (Xml.tX ++ Xml.rep Xml.tY i ++ Xml.tXe) (by rw [List.length_append, List.length_append, Xml.rep_length]; show 3 + i * 4 + 4 ≤ _; omega)
            rw [Xml.wide i (by omega), ← S_append, ← S_append] at P2
            have P2 : Hid (Calls Tryz.prog 8 #[.string (⟨#[60, 120, 62]⟩ ++ S (Xml.rep Xml.tY i) ++ ⟨#[60, 47, 120, 62]⟩)] wr fun e w' => Below wr.heap.size wr w' ∧ EndsP wr.heap.size (if i + 1 ≤ 4096 then .ok (.mk [] [] [120] [] (List.replicate i Xml.nodeY)) ⟨[], [([], [])]⟩ else .bad 31) e w') := P2
            generalize S (Xml.rep Xml.tY i) = sa at *
            clear H5 ba ea1 ea2 ea3 sza
            by_cases h96 : i + 1 ≤ 4096
            · rw [if_pos h96] at P2
              have q1 : decide ((4096 : Int) < (i : Int) + 1) = false := decide_eq_false (by omega)
              go_wp2_with fail
              refine P2.out.mono ?_
              rintro e w6 ⟨b6, nc, X6, nv⟩
              obtain ⟨Aa, cc, Ak, ck, l6, rfl, _, _, _, _, NS⟩ := nv.parts
              have l6l : l6.length = i := by rw [NdsV.length NS, List.length_replicate]
              have X6 : e = .returned (.tuple #[.agg #[.string ⟨#[]⟩, .string ⟨#[]⟩, .string ⟨#[120]⟩, .slice Aa 0 cc, .slice Ak l6.length ck], .int .i64 0]) := X6
              subst X6
              rw [l6l]
              have B6 := Lib.hid (BW.out.trans (b6.mono BW.out.size))
              obtain ⟨w7, hw7⟩ : ∃ x, x = w6.alloc (.cells #[.string ⟨#[]⟩, .string ⟨#[]⟩, .string ⟨#[120]⟩, .slice Aa 0 cc, .slice Ak i ck] 28) := ⟨_, rfl⟩
              have d4 : w7.cell? ⟨w6.heap.size, 4, none⟩ = some (.slice Ak i ck) := by rw [hw7]; exact (Held.new w6 28 #[.string ⟨#[]⟩, .string ⟨#[]⟩, .string ⟨#[120]⟩, .slice Aa 0 cc, .slice Ak i ck] rfl).cell 4
              have B7 : Hid (Below w.heap.size w w7) := by rw [hw7]; exact B6.out.alloc B6.out.size _
              have HW7 := Lib.hid hw7
              clear b6 nv NS l6l P2 cva BW hw7 B6
              go_upto_region 20 with fail
              rw [← HW7.out]
              go_wp2_with fail
              go_ret
              exact ⟨rfl, B7.out⟩
            · rw [if_neg h96] at P2
              have q1 : decide ((4096 : Int) < (i : Int) + 1) = true := decide_eq_true (by omega)
              go_wp2_with fail
              refine P2.out.mono ?_
              rintro e w6 ⟨b6, X6⟩
              have X6 : e = .returned (.tuple #[.agg #[.string ⟨#[]⟩, .string ⟨#[]⟩, .string ⟨#[]⟩, .slice none 0 0, .slice none 0 0], .int .i64 31]) := X6
              subst X6
              have B6 := Lib.hid (BW.out.trans (b6.mono BW.out.size))
              clear b6 P2 cva BW
              go_wp2_with fail
              go_ret
              exact ⟨rfl, B6.out.alloc B6.out.size _⟩
      · rw [if_neg h16]
        have q16 : decide ((j : Int) ≤ 16) = false := decide_eq_false (by omega)
        have q17 : decide ((16 : Int) < (j : Int)) = true := decide_eq_true (by omega)
        go_upto_region 14 with fail
        obtain ⟨m, hm⟩ : ∃ m : Nat, m = 4080 + kids % 32 := ⟨_, rfl⟩
        have em : 4080 + (kids : Int) % 32 = (m : Int) := by omega
        rw [em]
        have m1 : m ≤ 4111 := by omega
        clear hm em
        obtain ⟨w3, hw3⟩ : ∃ x, x = w2.alloc (.cells #[.string c0, .string c1, .string c2, .slice A1 ka1 da1, .slice A2 ka2 da2] 28) := ⟨_, rfl⟩
        rw [← hw3]
        have B3 : Hid (Below w.heap.size w w3) := by rw [hw3]; exact BX.out.alloc BX.out.size _
        clear hw3 BX
        go_wp2_with fail
        go_loopw [12, 13] (fun va vi wr => ∃ (i : Nat) (A : Option Addr) (la ca : Nat), i ≤ m ∧ vi = .int .i64 i ∧ va = .slice A la ca ∧ Hid (OwnU wr w3.heap.size (.slice A la ca) (Xml.rep Xml.tY i) ∧ Below w3.heap.size w3 wr)) (fun _ vi _ => m - (intOf vi).toNat)
        case atStart => exact ⟨0, none, 0, 0, by omega, rfl, rfl, ⟨OwnU.nil _ _, Below.refl _ _⟩⟩
        case round =>
          obtain ⟨i, A5, la5, ca5, hi, rfl, rfl, H5⟩ := hrel
          by_cases hlt5 : i < m
          · have iz : (i : Int) < (m : Int) := by omega
            have lenA : (Xml.rep Xml.tY i).length + 4 ≤ 100000 := by rw [Xml.rep_length]; show i * 4 + 4 ≤ _; omega
            go_wp2_with (at_builtin; refine wpList_append_lit rfl _ _ rfl w3.heap.size _ (Xml.rep Xml.tY i) rfl H5.out.1 Xml.tY rfl ?q1 ?q2 ?_)
            case q1 => exact lenA
            case q2 => exact H5.out.2.size
            intro va' w5 oa ga
            have b5 : Below w3.heap.size w3 w5 := H5.out.1.grown H5.out.2 ga H5.out.2.size
            have OA : OwnU w5 w3.heap.size va' (Xml.rep Xml.tY (i + 1)) := oa
            obtain ⟨A6, ca6, rfl, _⟩ := OA.any
            obtain ⟨la6, hla6⟩ : ∃ x, x = (Xml.rep Xml.tY (i + 1)).length := ⟨_, rfl⟩
            rw [← hla6] at OA ⊢
            have N5 : Hid (OwnU w5 w3.heap.size (.slice A6 la6 ca6) (Xml.rep Xml.tY (i + 1)) ∧ Below w3.heap.size w3 w5) := ⟨OA, b5⟩
            clear oa ga b5 OA hla6 H5 lenA
            go_wp2_with fail
            go_roundw
            case rel => exact ⟨i + 1, A6, la6, ca6, by omega, by go_num, rfl, N5⟩
            case measure => simp [intOf]; omega
          · obtain rfl : i = m := by omega
            obtain ⟨A', ca', ea, ba⟩ := H5.out.1.any
            injection ea with ea1 ea2 ea3
            have cva := ba.toStr byteTX Tryz.underlying9 ca5
            rw [strB_map, ← ea1, ← ea2] at cva
            have BW := Lib.hid (B3.out.trans (H5.out.2.mono B3.out.size))
            have sza : (S (Xml.rep Xml.tY i)).size = i * 4 := by rw [S_size, Xml.rep_length]; rfl
            have z1 : ¬ 9223372036854775807 < 3 + (S (Xml.rep Xml.tY i)).size := by rw [sza]; omega
            have z2 : ¬ 9223372036854775807 < 3 + (S (Xml.rep Xml.tY i)).size + 4 := by rw [sza]; omega
            have P2 := parse_any wr (HE.out.below BW.out) (Xml.tX ++ Xml.rep Xml.tY i ++ Xml.tXe) (by rw [List.length_append, List.length_append, Xml.rep_length]; show 3 + i * 4 + 4 ≤ _; omega)
            rw [Xml.wide i (by omega), ← S_append, ← S_append] at P2
            have P2 : Hid (Calls Tryz.prog 8 #[.string (⟨#[60, 120, 62]⟩ ++ S (Xml.rep Xml.tY i) ++ ⟨#[60, 47, 120, 62]⟩)] wr fun e w' => Below wr.heap.size wr w' ∧ EndsP wr.heap.size (if i + 1 ≤ 4096 then .ok (.mk [] [] [120] [] (List.replicate i Xml.nodeY)) ⟨[], [([], [])]⟩ else .bad 31) e w') := P2
            generalize S (Xml.rep Xml.tY i) = sa at *
            clear H5 ba ea1 ea2 ea3 sza
            by_cases h96 : i + 1 ≤ 4096
            · rw [if_pos h96] at P2
              have q1 : decide ((4096 : Int) < (i : Int) + 1) = false := decide_eq_false (by omega)
              go_wp2_with fail
              refine P2.out.mono ?_
              rintro e w6 ⟨b6, nc, X6, nv⟩
              obtain ⟨Aa, cc, Ak, ck, l6, rfl, _, _, _, _, NS⟩ := nv.parts
              have l6l : l6.length = i := by rw [NdsV.length NS, List.length_replicate]
              have X6 : e = .returned (.tuple #[.agg #[.string ⟨#[]⟩, .string ⟨#[]⟩, .string ⟨#[120]⟩, .slice Aa 0 cc, .slice Ak l6.length ck], .int .i64 0]) := X6
              subst X6
              rw [l6l]
              have B6 := Lib.hid (BW.out.trans (b6.mono BW.out.size))
              obtain ⟨w7, hw7⟩ : ∃ x, x = w6.alloc (.cells #[.string ⟨#[]⟩, .string ⟨#[]⟩, .string ⟨#[120]⟩, .slice Aa 0 cc, .slice Ak i ck] 28) := ⟨_, rfl⟩
              have d4 : w7.cell? ⟨w6.heap.size, 4, none⟩ = some (.slice Ak i ck) := by rw [hw7]; exact (Held.new w6 28 #[.string ⟨#[]⟩, .string ⟨#[]⟩, .string ⟨#[120]⟩, .slice Aa 0 cc, .slice Ak i ck] rfl).cell 4
              have B7 : Hid (Below w.heap.size w w7) := by rw [hw7]; exact B6.out.alloc B6.out.size _
              have HW7 := Lib.hid hw7
              clear b6 nv NS l6l P2 cva BW hw7 B6
              go_upto_region 20 with fail
              rw [← HW7.out]
              go_wp2_with fail
              go_ret
              exact ⟨rfl, B7.out⟩
            · rw [if_neg h96] at P2
              have q1 : decide ((4096 : Int) < (i : Int) + 1) = true := decide_eq_true (by omega)
              go_wp2_with fail
              refine P2.out.mono ?_
              rintro e w6 ⟨b6, X6⟩
              have X6 : e = .returned (.tuple #[.agg #[.string ⟨#[]⟩, .string ⟨#[]⟩, .string ⟨#[]⟩, .slice none 0 0, .slice none 0 0], .int .i64 31]) := X6
              subst X6
              have B6 := Lib.hid (BW.out.trans (b6.mono BW.out.size))
              clear b6 P2 cva BW
              go_wp2_with fail
              go_ret
              exact ⟨rfl, B6.out.alloc B6.out.size _⟩
end Go.Proofs.YteefjmdallpihaaGreatDoor
