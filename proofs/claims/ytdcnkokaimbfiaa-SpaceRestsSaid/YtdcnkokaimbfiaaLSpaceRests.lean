/-
  P5.2: a block is never given out twice at one time; what was taken when the map was loaded is given out by none of it, given back or not; all others can be had, each: the law answers true for every input, and its arguments read behind the call as before. No condition beside the row's own.
-/
import Derived.Test.YtdcnkokaimbfiaaSp7
import Derived.Test.YtdcnkokaimbfiaaOps
namespace Go.Proofs.Ytdcnkokaimbfiaa.spaceRests
open Go.ChangeShapes Go.WideShapes Go.ChangeAt Go.RowKit

theorem own : ownKnob Try.prog.godebug = none := by kernel_rfl
theorem laidOut : laidOutB Try.prog = true := by kernel_rfl

/-- The numbers below c. -/
def upN (c : Nat) (b : Nat) : Bool := decide (b < c)
theorem up_t {c b : Nat} (h : b < c) : upN c b = true := decide_eq_true h
theorem up_f {c b : Nat} (h : c ≤ b) : upN c b = false := decide_eq_false (by omega)
theorem two_up : two = upN 2 := rfl
theorem put_up (c : Nat) : putB (upN c) c true = upN (c + 1) := by
  funext b
  unfold putB
  split
  · subst_vars; exact (up_t (by omega)).symm
  · unfold upN; exact decide_eq_decide.2 (by omega)
/-- Where t and o make up the numbers below c, c is given out. -/
theorem free_up {t o : Nat → Bool} {c b : Nat} (h : FreeOf t o b) (hc : c < 4096) (hu : ∀ b, (t b || o b) = upN c b) : b = c :=
  h.is hc (fun k hk => by rw [hu]; exact up_t hk) (by rw [hu]; exact up_f (Nat.le_refl _))
theorem infoB : (Try.prog.info? 4).map (fun i => (i.zero, i.size, i.bytes)) = some (some (.bool false), 1, 1) := by kernel_rfl
theorem make_bools (n : Nat) (hn : n ≤ 4096) (u : World) : (Instr.makeSlice 44 (.int .i64 (n : Int)) (.int .i64 (n : Int))).run Try.prog u =
    .ok (.slice (some ⟨u.heap.size, 0, none⟩) n n) (u.alloc (.cells (madeCells #[.bool false] n) 4)) := by
  obtain ⟨i0, hi, hz0, hz1, hz2⟩ := info_parts infoB
  have h := run_make (P := Try.prog) u 44 4 i0 (.bool false) Try.underlying44 hi hz0 .i64 .i64 (n : Int) (n : Int) (by omega) (Int.le_refl _) (by rw [hz2]; omega) (by omega)
  have e : (n : Int).toNat = n := by omega
  rw [e] at h
  simpa [hz1, Value.cells] using h
theorem made_at (n b : Nat) (hb : b < n) : (madeCells #[Value.bool false] n)[b]? = some (.bool false) := by
  have h := toList_madeCells_one (.bool false) n
  rw [← Array.getElem?_toList, h, List.getElem?_replicate, if_pos hb]
set_option maxRecDepth 100000 in
set_option maxHeartbeats 1600000 in
theorem walk (x : Nat) (hx : x < 256) (y : Nat) (hy : y < 256) (A : Option Addr) (N c : Nat) (l : List Nat) (w : World) (hl : Bts w A N l) (hN : N ≤ 9223372036854775807) :
    Calls Try.prog 5 #[.int .u8 (x : Int), .int .u8 (y : Int), .slice A N c] w fun e w' => e = .returned (.bool true) ∧ Below w.heap.size w w' := by
  have HL := Lib.hid hl
  obtain ⟨n, hn⟩ : ∃ n, n = 2 + x := ⟨_, rfl⟩
  have en : (2 : Int) + (x : Int) = (n : Int) := by omega
  have hn2 : 2 ≤ n := by omega
  have hn9 : n ≤ 257 := by omega
  have hni : (n : Int) ≤ 257 := by omega
  have hni2 : (2 : Int) ≤ (n : Int) := by omega
  have EN := Lib.hid en
  have hN9 : (N : Int) ≤ 9223372036854775807 := by omega
  clear hl hn en
  go_enter Try.func5, Try.ntmps5
  go_wp2_with fail
  refine (fixed_any _).mono ?_
  rintro e w0 ⟨rfl, hb0⟩
  have B0 := Lib.hid hb0
  have PG := Lib.hid (pages_any w0 n (by omega) (by omega))
  clear hb0
  go_wp2_with fail
  rw [EN.out]
  refine PG.out.mono ?_
  rintro e w1 ⟨P, t, tm, rfl, hp, _, _, hb, hnew⟩
  have W1 : Hid (Own w w1 P t tm (fun _ => none)) := ⟨hp, B0.out.trans (hb.mono B0.out.size), fun z hz => Nat.le_trans B0.out.size (hnew z hz)⟩
  have MK := Lib.hid (smake_any w1 P t tm _ n hp (by omega))
  clear hp hb hnew PG B0
  go_wp2_with fail
  refine MK.out.mono ?_
  rintro e w2 ⟨rfl, l1, hl1, hp2, ho2⟩
  have W2 := Lib.hid (W1.out.wrote hp2 ho2)
  have LD := Lib.hid (sload_ok w2 P t tm _ n l1 two hp2 hl1 (got_upd _ _ _) (by omega) (made_ok n hn2))
  clear MK W1 hp2 ho2 hl1
  go_wp2_with fail
  refine LD.out.mono ?_
  rintro e w3 ⟨m, rfl, hp3, ho3, hm3, hM3⟩
  have W3 := Lib.hid (W2.out.read hp3 ho3)
  have MM : Hid (w.heap.size ≤ m ∧ m ∉ pfoot P t tm) := ⟨Nat.le_trans W2.out.below.size hm3, W2.out.far hm3⟩
  have M3 := Lib.hid hM3
  clear LD W2 hp3 ho3 hm3 hM3
  go_wp2_with fail
  go_loopw [12] (fun kv wr => ∃ k : Nat, k ≤ n - 2 ∧ k ≤ y ∧ kv = .int .i64 (k : Nat) ∧ Own w wr P t tm (upd (fun _ => none) 0 l1) ∧ MapOf wr m n (upN (2 + k)) two) (fun kv _ => n - (intOf kv).toNat)
  case atStart => exact ⟨0, by omega, by omega, rfl, W3.out, M3.out⟩
  case round =>
    obtain ⟨k, hk, hky, rfl, hW, hMap⟩ := hrel
    have WW := Lib.hid hW
    have TK := Lib.hid (take_any wr m n _ two hMap (by omega))
    have MP := Lib.hid hMap
    clear hW hMap W3 M3
    by_cases h12 : k < y ∧ k < n - 2
    · have h1' : (k : Int) < (y : Int) := by omega
      have h2' : (k : Int) < (n : Int) - 2 := by omega
      go_wp2_with fail
      refine TK.out.mono ?_
      rintro e w4 ⟨ho4, b, hF, hres⟩
      have hb : b = 2 + k := free_up hF (by omega) (fun b => by
        rw [two_up]
        unfold upN
        rw [← Bool.decide_or]
        exact decide_eq_decide.2 (by omega))
      subst hb
      obtain ⟨h, _⟩ | ⟨_, rfl, hM4⟩ := hres
      · omega
      rw [put_up] at hM4
      have W4 := Lib.hid (WW.out.beside ho4 MM.out.1 MM.out.2)
      have M4 := Lib.hid hM4
      clear TK WW MP ho4 hF hM4
      go_wp2_with fail
      go_roundw
      case rel => exact ⟨k + 1, by omega, by omega, by go_num, W4.out, M4.out⟩
      case measure => simp [intOf]; omega
    · clear TK
      go_upto_region 10 with fail
      go_cut [55] (fun cv wc => cv = .bool false ∧ wr = wc)
      case first =>
        by_cases h1 : k < y
        · have h2' : ¬ (k : Int) < (n : Int) - 2 := by omega
          go_wp2_with fail
          go_meet
          case rel => exact ⟨rfl, rfl⟩
        · have h1' : ¬ (k : Int) < (y : Int) := by omega
          go_wp2_with fail
          go_meet
          case rel => exact ⟨rfl, rfl⟩
      case rest =>
        obtain ⟨rfl, rfl⟩ := hcut
        obtain ⟨cc, hcc⟩ : ∃ cc, cc = 2 + k := ⟨_, rfl⟩
        rw [← hcc] at MP
        have hc2 : 2 ≤ cc := by omega
        have hcn : cc ≤ n := by omega
        have ST := Lib.hid (mstore_any wr m n _ two P t tm _ MP.out WW.out.pages)
        go_wp2_with fail
        refine ST.out.mono ?_
        rintro e w4 ⟨rfl, ho4, l2, hl2, hp4⟩
        have W4 := Lib.hid (WW.out.wrote hp4 ho4)
        have LD := Lib.hid (sload_ok w4 P t tm _ n l2 (upN cc) hp4 hl2 (got_upd _ _ _) (by omega) ⟨fun b _ h => up_f (by omega), up_t (by omega), up_t (by omega)⟩)
        clear ST WW MP hp4 ho4 hl2
        go_wp2_with fail
        refine LD.out.mono ?_
        rintro e w5 ⟨m2, rfl, hp5, ho5, hm5, hM5⟩
        have W5 := Lib.hid (W4.out.read hp5 ho5)
        have M2 : Hid (w.heap.size ≤ m2 ∧ m2 ∉ pfoot P t tm) := ⟨Nat.le_trans W4.out.below.size hm5, W4.out.far hm5⟩
        have M5 := Lib.hid hM5
        clear LD W4 hp5 ho5 hm5 hM5 MM
        go_wp2_with fail
        go_loopw [15] (fun iv wr => ∃ i : Nat, ∃ t', i ≤ N ∧ iv = .int .i64 (i : Nat) ∧ Own w wr P t tm (upd (upd (fun _ => none) 0 l1) 0 l2) ∧ MapOf wr m2 n t' (upN cc) ∧ ∀ b, t' b = true → b < cc) (fun iv _ => N - (intOf iv).toNat)
        case atStart => exact ⟨0, _, by omega, rfl, W5.out, M5.out, fun b h => by simpa [upN] using h⟩
        case round =>
          obtain ⟨i, t', hi, rfl, hW, hMap, hsub⟩ := hrel
          have WW := Lib.hid hW
          have MP := Lib.hid hMap
          have SB := Lib.hid hsub
          clear hW hMap hsub W5 M5
          by_cases hlt : i < N
          · have hlt' : (i : Int) < (N : Int) := by omega
            obtain ⟨g, off, rfl, hg, hcell⟩ := HL.out.2.2 (by omega)
            have c0 : wr.cell? ⟨g, off + i, none⟩ = some (.int .u8 ((l.getD i 0 : Nat) : Int)) := (WW.out.below.cell (p := ⟨g, off + i, none⟩) hg).trans (hcell i hlt)
            obtain ⟨v, hv⟩ : ∃ v, v = l.getD i 0 := ⟨_, rfl⟩
            rw [← hv] at c0
            have hv8 : v < 256 := by
              rw [hv, List.getD_eq_getElem?_getD, List.getElem?_eq_getElem (by rw [HL.out.1]; exact hlt)]
              exact HL.out.2.1 _ (List.getElem_mem _)
            have hv9 : (v : Int) < 256 := by omega
            clear hv hcell
            have FR := Lib.hid (free_any wr m2 n t' (upN cc) (v : Int) MP.out (by omega))
            go_wp2_with fail
            refine FR.out.mono ?_
            rintro e w6 ⟨ho6, hy1, hy2⟩
            have W6 := Lib.hid (WW.out.beside ho6 M2.out.1 M2.out.2)
            by_cases hfr : 2 ≤ (v : Int) ∧ (v : Int) < (n : Int) ∧ t' (v : Int).toNat = true
            · obtain ⟨rfl, hM6⟩ := hy1 hfr
              have M6 := Lib.hid hM6
              have S6 : Hid (∀ b, putB t' (v : Int).toNat false b = true → b < cc) := fun b hb => by
                unfold putB at hb
                split at hb
                · cases hb
                · exact SB.out b hb
              clear FR hy1 hy2 ho6 hM6 hfr
              go_wp2_with fail
              go_roundw
              case rel => exact ⟨i + 1, _, by omega, by go_num, W6.out, M6.out, S6.out⟩
              case measure => simp [intOf]; omega
            · obtain ⟨rfl, hM6⟩ := hy2 hfr
              have M6 := Lib.hid hM6
              clear FR hy1 hy2 ho6 hM6 hfr
              go_wp2_with fail
              go_roundw
              case rel => exact ⟨i + 1, _, by omega, by go_num, W6.out, M6.out, SB.out⟩
              case measure => simp [intOf]; omega
          · obtain rfl : i = N := by omega
            have mkb := make_bools n (by omega)
            go_upto_region 25 with fail
            obtain ⟨w6, hw6⟩ : ∃ w6, w6 = wr.alloc (.cells (madeCells #[Value.bool false] n) 4) := ⟨_, rfl⟩
            obtain ⟨q, hq⟩ : ∃ q, q = wr.heap.size := ⟨_, rfl⟩
            have BW : Hid (Below wr.heap.size wr w6) := by rw [hw6]; exact (Below.refl _ _).alloc (Nat.le_refl _) _
            have W6 := Lib.hid (WW.out.under BW.out)
            have M6 := Lib.hid (MP.out.under BW.out)
            have Q6 : Hid (Held w6 q 4 (madeCells #[Value.bool false] n)) := by rw [hw6]; exact Held.new _ _ _ hq
            have QN : Hid (w.heap.size ≤ q ∧ q ∉ pfoot P t tm ∧ q ≠ m2 ∧ w.heap.size ≤ m2) := ⟨by have := WW.out.below.size; omega, WW.out.far (by omega), by have := MP.out.lt; omega, M2.out.1⟩
            rw [← hw6, ← hq]
            clear hw6 hq mkb WW MP BW
            go_wp2_with fail
            go_loopw [17, 18] (fun gv iv wr => ∃ j : Nat, ∃ t', ∃ C : Array Value, j ≤ n - cc ∧ gv = .int .i64 (j : Nat) ∧ iv = .int .i64 (j : Nat) ∧ Own w wr P t tm (upd (upd (fun _ => none) 0 l1) 0 l2) ∧ MapOf wr m2 n t' (upN cc) ∧ (∀ b, (t' b || upN cc b) = upN (cc + j) b) ∧ Held wr q 4 C ∧ ∀ b, b < n → C[b]? = some (.bool (decide (cc ≤ b ∧ b < cc + j)))) (fun _ iv _ => n - (intOf iv).toNat)
            case atStart => exact ⟨0, t', _, by omega, rfl, rfl, W6.out, M6.out, fun b => by
              rw [Nat.add_zero]
              cases htb : t' b with
              | true => rw [up_t (SB.out b htb)]; rfl
              | false => rfl, Q6.out, fun b hb => by rw [made_at n b hb, decide_eq_false (by omega)]⟩
            case round =>
              obtain ⟨j, t3, C, hj, rfl, rfl, hW, hMap, hu, hQ, hC⟩ := hrel
              have WW := Lib.hid hW
              have MP := Lib.hid hMap
              have HU := Lib.hid hu
              have HQ := Lib.hid hQ
              have HC := Lib.hid hC
              clear hW hMap hu hQ hC W6 M6 Q6
              have hjn : (j : Int) < (n : Int) := by omega
              have TK := Lib.hid (take_any wr m2 n _ _ MP.out (by omega))
              go_wp2_with fail
              refine TK.out.mono ?_
              rintro e w7 ⟨ho7, b, hF, hres⟩
              have hb : b = cc + j := free_up hF (by omega) HU.out
              have HB := Lib.hid hb
              have W7 := Lib.hid (WW.out.beside ho7 M2.out.1 M2.out.2)
              have Q7 : Hid (Held w7 q 4 C) := HQ.out.only ho7 (by simpa using QN.out.2.2.1)
              obtain ⟨hge, rfl, hM7⟩ | ⟨hlt, rfl, hM7⟩ := hres
              · have hjj : j = n - cc := by omega
                have TK2 := Lib.hid (take_any w7 m2 n _ _ hM7 (by omega))
                clear TK ho7 hF hM7 WW MP
                go_wp2_with fail
                refine TK2.out.mono ?_
                rintro e w8 ⟨ho8, b, hF, hres⟩
                have hb : b = cc + j := free_up hF (by omega) HU.out
                subst hb
                have W8 := Lib.hid (W7.out.beside ho8 M2.out.1 M2.out.2)
                obtain ⟨_, rfl, _⟩ | ⟨h, _⟩ := hres
                · have hfin : (j : Int) = (n : Int) - 2 - (k : Int) := by omega
                  clear TK2 ho8 hF
                  go_wp2_with fail
                  go_ret
                  exact ⟨rfl, W8.out.below⟩
                · omega
              · have hb2 : ¬ ((b : Int) < 2 + (k : Int)) := by omega
                have hb3 : ¬ ((b : Int) ≥ (n : Int)) := by omega
                have hb4 : (b : Int) < (n : Int) := by omega
                have c1 : w7.cell? ⟨q, b, none⟩ = some (.bool false) := by rw [Q7.out.cell, HC.out b hlt, decide_eq_false (by omega)]
                have z1 := Q7.out.frozen b
                have ho : Only [q] w7 (w7.setCell ⟨q, b, none⟩ (.bool true)) := (Only.refl _ w7).setCell (.inl (by simp)) _
                have W8 := Lib.hid (W7.out.beside ho QN.out.1 QN.out.2.1)
                have M8 : Hid (MapOf (w7.setCell ⟨q, b, none⟩ (.bool true)) m2 n (putB t3 b true) (upN cc)) := hM7.only ho (by simpa using QN.out.2.2.1.symm)
                have Q8 : Hid (Held (w7.setCell ⟨q, b, none⟩ (.bool true)) q 4 (C.setIfInBounds b (.bool true))) := Q7.out.set_ b _
                have U8 : Hid (∀ z, (putB t3 b true z || upN cc z) = upN (cc + (j + 1)) z) := fun z => by
                  have h1 := HU.out z
                  unfold putB
                  by_cases e : z = b
                  · rw [if_pos e, Bool.true_or]; exact (up_t (by omega)).symm
                  · rw [if_neg e, h1]
                    unfold upN
                    exact decide_eq_decide.2 (by omega)
                have C8 : Hid (∀ z, z < n → (C.setIfInBounds b (.bool true))[z]? = some (.bool (decide (cc ≤ z ∧ z < cc + (j + 1))))) := fun z hz => by
                  by_cases e : z = b
                  · subst e
                    rw [Array.getElem?_setIfInBounds_self_of_lt (by
                      have h1 := HC.out z hz
                      exact (Array.getElem?_eq_some_iff.1 h1).1)]
                    congr 2
                    exact (decide_eq_true (by omega)).symm
                  · rw [Array.getElem?_setIfInBounds_ne (fun h => e h.symm), HC.out z hz]
                    congr 2
                    exact decide_eq_decide.2 (by omega)
                clear TK ho7 hF hM7 WW MP W7 Q7 HQ HC HU hb ho
                go_wp2_with fail
                go_roundw
                case rel => exact ⟨j + 1, _, _, by have := HB.out; omega, by go_num, by go_num, W8.out, M8.out, U8.out, Q8.out, C8.out⟩
                case measure => simp [intOf]; omega
set_option maxRecDepth 100000 in
theorem opens {H : Type} {enc : TypeId × Value → H} {W : World} {base : Nat} {args : Array Value} {ds : List (DataW H)} {p : List MemPlace}
    (hval : ∀ (j : Nat) t v, Try.f5.params[j]? = some t → args[j]? = some v → Value.okWide Try.prog W .any base t v)
    (hA : DataW.TrodAll enc Try.prog W 0 (fun _ => true) true Try.f5.params.toList args.toList ds p) (hlt : ∀ x ∈ p, x.block < W.heap.size) (hsz : (DataW.weightsEach Try.prog Try.f5.params.toList ds).all (· ≤ reachBytes) = true) :
    Calls Try.prog 5 args W fun e W' => e = .returned (.bool true) ∧ Below W.heap.size W W' := by
  rw [Try.params5] at hA hval hsz
  obtain ⟨v0, vs0, d0, ds0, p0, q0, hargs, rfl, rfl, h0, r0⟩ := trodAll_cons hA
  obtain ⟨v1, vs1, d1, ds1, p1, q1, rfl, rfl, rfl, h1, r1⟩ := trodAll_cons r0
  obtain ⟨v2, vs2, d2, ds2, p2, q2, rfl, rfl, rfl, h2, r2⟩ := trodAll_cons r1
  obtain ⟨rfl, rfl, rfl⟩ := trodAll_nil r2
  obtain rfl : args = #[v0, v1, v2] := by cases args; simp_all
  obtain ⟨x, rfl, hx⟩ := open_u8 (hval 0 5 v0 rfl rfl) h0
  obtain ⟨y, rfl, hy⟩ := open_u8 (hval 1 5 v1 rfl rfl) h1
  obtain ⟨A, N, c, l, rfl, hb, hN, hN2, _⟩ := open_bts Try.underlying48 Try.underlying5 cells5 (hval 2 48 v2 rfl rfl) h2
  exact walk x hx y hy A N c l W hb (by have h7 : maxLen = 9223372036854775807 := rfl; omega)

set_option maxRecDepth 100000 in
theorem lifted (os : Os) (started : os.Started) (H : Type) (enc : TypeId × Value → H) :
    ReturnsInHanded {} Try.checked os 5 .any (Rows.spaceRestsSpec.pre6 enc Try.prog Try.f5 Rows.spaceRestsRow.domain false) (Rows.spaceRestsSpec.post enc Try.prog Try.f5 false true false false) := by
  refine returnsInHanded_of_change_sized (C := Try.checked) own started (by kernel_rfl) Try.func5
    (ChangeSpec.witness6 (enc := enc) (C := Try.checked) false ⟨#[], #[.int .u8 0, .int .u8 0, .slice none 0 0], []⟩ 8 (by kernel_rfl) (by kernel_rfl) (by kernel_rfl) (by kernel_rfl)) ?_
  intro W base args ds gs before hval hW _ hsz0 _
  refine law_calls laidOut Try.underlying4 rfl (by rw [Try.params5]; exact of_decide_eq_true (by kernel_rfl)) rfl (fun ds h => by match ds, h with | [_, _, _], _ => rfl) hW ?_
  obtain ⟨rfl, p, hA, hlt⟩ := law_args rfl hW
  have hsz : (DataW.weightsEach Try.prog (Try.f5.params.toList ++ []) (ds ++ [])).all (· ≤ reachBytes) = true := hsz0
  rw [List.append_nil, List.append_nil] at hsz
  exact opens hval hA hlt hsz

theorem over : Rows.spaceRestsRow.holds Try.pinned (OpenSpec.ofChange Rows.spaceRestsSpec) :=
  OpenClaim.holds_of_wide 5 Try.f5 rfl rfl rfl rfl rfl rfl rfl ⟨rfl, rfl, rfl, rfl, rfl⟩ rfl rfl rfl rfl rfl (by kernel_rfl) Try.func5 (by kernel_rfl)
    (of_decide_eq_true (by kernel_rfl)) (by unfold Func.isWrapper; first | (rw [if_pos (by decide +kernel)]; kernel_rfl) | (rw [if_neg (by decide +kernel)]; exact ⟨rfl, rfl⟩))
    (fun os started H enc _ => lifted os started H enc)

theorem proved : Rows.SpaceRestsSaid := over

end Go.Proofs.Ytdcnkokaimbfiaa.spaceRests
