/-
  wal: the calls of a nil log; of a log that is given by its numbers alone. · The document's own log (package docketref03): the contracts of Need and Same. · The document's examples of chapter 3: 'fixed' answers true, and writes nothing that was there. · The document's examples of chapter 3: 'fixed' answers true, and writes nothing that was there: the walk. · The laws' arguments of layer 3, opened: slices of strings, an Op by value, slices of Ops; how much the reach allows.
-/
import Derived.Test.YtgbilhfpogdfeaaMApp
import Derived.Test.YtgbilhfpogdfeaaMSync
import Derived.Test.YtgbilhfpogdfeaaMRows
import Derived.Test.YtgbilhfpogdfeaaMInv
import Derived.Test.YtgbilhfpogdfeaaMDisk
import Derived.Deep.Strs
import Derived.Lib.SmallJoins
import Derived.Deep.Slices
import Derived.Deep.Grids
namespace Go.Proofs.Ytgbilhfpogdfeaa
open Go.RowKit Go.Shelf Wal

attribute [local go_sem] Oper.semAt_some

set_option maxRecDepth 100000 in
set_option maxHeartbeats 800000 in
theorem append_nil (w : World) (A : Option Addr) (n c : Nat) :
    Calls Try.prog 17 #[.pointer none, .slice A n c] w fun e w' => e = .returned (.tuple #[.int .i64 0, .int .i64 2]) ∧ Below w.heap.size w w' := by
  refine (callsIn_wide (n := 6)).1 ?_
  refine callsIn_of_wp_marks Try.func17 rfl trivial ?_ rfl
  refine wpIn_wide.2 ?_
  simp only [Try.ntmps17, List.size_toArray, List.length_cons, List.length_nil, Nat.reduceAdd, Nat.reduceSub, Array.replicate_succ, Array.replicate_zero, List.push_toArray, List.append_toArray, List.nil_append, List.cons_append]
  go_wp2_with fail
  obtain ⟨w1, hw1⟩ : ∃ w1, w1 = ((w.alloc (.cells #[.pointer none] 27)).alloc (.cells #[.int .i64 0] 2)).alloc (.cells #[.int .i64 0] 28) := ⟨_, rfl⟩
  rw [← hw1]
  have B1 : Hid (Below w.heap.size w w1) := by rw [hw1]; exact (((Below.refl _ _).alloc (Nat.le_refl _) _).alloc (by simp) _).alloc (by simp; omega) _
  have K1 : Hid (Held w1 (w.heap.size + 1) 2 #[.int .i64 0]) := by rw [hw1]; exact (Held.new _ _ _ (by simp)).alloc _
  have K2 : Hid (Held w1 (w.heap.size + 1 + 1) 28 #[.int .i64 0]) := by rw [hw1]; exact Held.new _ _ _ (by simp)
  obtain ⟨q1, hq1⟩ : ∃ q1, q1 = w.heap.size + 1 := ⟨_, rfl⟩
  obtain ⟨q2, hq2⟩ : ∃ q2, q2 = w.heap.size + 1 + 1 := ⟨_, rfl⟩
  have QN : Hid (w.heap.size ≤ q1 ∧ w.heap.size ≤ q2 ∧ q1 ≠ q2) := ⟨by omega, by omega, by omega⟩
  rw [← hq1] at K1
  rw [← hq2] at K2
  rw [← hq2, ← hq1]
  clear hw1 hq1 hq2
  refine (alive_nil w1).mono ?_
  rintro e w2 ⟨rfl, rfl⟩
  have c1 := K1.out.cell 0
  have c2 := K2.out.cell 0
  have f1 := K1.out.frozen 0
  have f2 := K2.out.frozen 0
  have n1 : q1 ≠ q2 := QN.out.2.2
  have n2 : q2 ≠ q1 := n1.symm
  go_wp2_with fail
  obtain ⟨r1, r2⟩ := two_cells (u1 := .int .i64 0) (u2 := .int .i64 2) K1.out K2.out n1
  have hc4 := r1.cell 0
  have hc5 := r2.cell 0
  refine ⟨.tuple #[.int .i64 0, .int .i64 2], ?_, ?_⟩
  · simp [results, Try.f17, go_sem, hc4, hc5]
  · exact ⟨rfl, (B1.out.setCell QN.out.1 _).setCell QN.out.2.1 _⟩
theorem sync_nil (w : World) : Calls Try.prog 18 #[.pointer none] w fun e w' => e = .returned (.int .i64 2) ∧ w = w' := by
  go_enter Try.func18, Try.ntmps18
  go_wp2_with fail
  refine (alive_nil w).mono ?_
  rintro e w2 ⟨rfl, rfl⟩
  go_wp2_with fail
  go_ret
  exact ⟨rfl, rfl⟩
theorem trim_nil (w : World) (u : Int) : Calls Try.prog 19 #[.pointer none, .int .i64 u] w fun e w' => e = .returned (.int .i64 2) ∧ w = w' := by
  go_enter Try.func19, Try.ntmps19
  go_wp2_with fail
  refine (alive_nil w).mono ?_
  rintro e w2 ⟨rfl, rfl⟩
  go_wp2_with fail
  go_ret
  exact ⟨rfl, rfl⟩
theorem room_nil (w : World) : Calls Try.prog 15 #[.pointer none] w fun e w' => e = .returned (.int .i64 0) ∧ w = w' := by
  go_enter Try.func15, Try.ntmps15
  go_wp2_with fail
  go_ret
  exact ⟨rfl, rfl⟩
theorem first_nil (w : World) : Calls Try.prog 11 #[.pointer none] w fun e w' => e = .returned (.int .i64 0) ∧ w = w' := by
  go_enter Try.func11, Try.ntmps11
  go_wp2_with fail
  go_ret
  exact ⟨rfl, rfl⟩
theorem last_nil (w : World) : Calls Try.prog 12 #[.pointer none] w fun e w' => e = .returned (.int .i64 0) ∧ w = w' := by
  go_enter Try.func12, Try.ntmps12
  go_wp2_with fail
  go_ret
  exact ⟨rfl, rfl⟩
theorem synced_nil (w : World) : Calls Try.prog 13 #[.pointer none] w fun e w' => e = .returned (.int .i64 0) ∧ w = w' := by
  go_enter Try.func13, Try.ntmps13
  go_wp2_with fail
  go_ret
  exact ⟨rfl, rfl⟩
end Go.Proofs.Ytgbilhfpogdfeaa

namespace Go.Proofs.Ytgbilhfpogdfeaa
open Go.RowKit Wal

/-- Strings that are the same. -/
theorem txts_inj {a b : List ByteArray} (h : txts a = txts b) : a = b := by
  have h1 := congrArg (List.map strB) h
  unfold txts at h1
  rw [List.map_map, List.map_map] at h1
  have e : ∀ l : List ByteArray, l.map (strB ∘ nums) = l := fun l => by
    conv => rhs; rw [← List.map_id l]
    exact List.map_congr_left fun s _ => strB_nums s
  rwa [e, e] at h1

set_option maxHeartbeats 400000 in
theorem same_any (w : World) (A B : Option Addr) (n c n' c' : Nat) (a b : List ByteArray) (hn : n ≤ 4611686018427387904) (hn' : n' ≤ 4611686018427387904) (ha : Strs w A n a) (hb : Strs w B n' b) :
    Calls Try.prog 21 #[.slice A n c, .slice B n' c'] w fun e w' => e = .returned (.bool (decide (a = b))) ∧ ∃ k, w' = w.drewN k := by
  have HA := Lib.hid ha
  have HB := Lib.hid hb
  have hla := Lib.hid ha.1
  have hlb := Lib.hid hb.1
  clear ha hb
  go_enter Try.func21, Try.ntmps21
  by_cases hne : n = n'
  · subst hne
    go_wp2
    go_loopw [5] (fun i wr => ∃ k : Nat, k ≤ n ∧ i = .int .i64 k ∧ Hid (∀ j, j < k → a[j]? = b[j]?) ∧ ∃ q, wr = w.drewN q) (fun i _ => n - (intOf i).toNat)
    case atStart => exact ⟨0, by omega, rfl, fun j hj => by omega, 0, rfl⟩
    case round =>
      obtain ⟨k, hk, rfl, hs, q, rfl⟩ := hrel
      by_cases hlt : k < n
      · obtain ⟨b1, o1, s1, rfl, _, e1, z1, x1, _, _⟩ := HA.out.at_ hlt
        obtain ⟨b2, o2, s2, rfl, _, e2, z2, x2, _, _⟩ := HB.out.at_ hlt
        have E1 := Lib.hid e1
        have E2 := Lib.hid e2
        clear e1 e2
        by_cases heq : s1 = s2
        · subst heq
          go_wp2
          go_quiet (fail)
          go_wp2
          go_roundw
          case rel => exact ⟨k + 1, by omega, by go_num, fun j hj => by
            rcases Nat.lt_or_ge j k with h' | h'
            · exact hs.out j h'
            · obtain rfl : j = k := by omega
              rw [E1.out, E2.out], _, rfl⟩
          case measure => simp [intOf]; omega
        · have hbq : (s1.toList == s2.toList) = false := by
            rw [beq_eq_false_iff_ne]
            intro e
            exact heq (WideShapes.bytes_inj (by rwa [ByteArray.toList_eq, ByteArray.toList_eq] at e))
          have HX : Hid (decide (a = b) = false) := decide_eq_false (fun e => heq (by
            have h1 := E1.out
            rw [e, E2.out] at h1
            injection h1 with h1
            exact h1.symm))
          clear heq
          go_wp2
          go_quiet (fail)
          go_wp2
          go_ret
          rw [HX.out]
          exact ⟨rfl, _, World.drewN_drewN _ _ _⟩
      · obtain rfl : k = n := by omega
        have HX : Hid (decide (a = b) = true) := decide_eq_true (List.ext_getElem? fun j => by
          rcases Nat.lt_or_ge j k with h' | h'
          · exact hs.out j h'
          · rw [List.getElem?_eq_none (by rw [hla.out]; exact h'), List.getElem?_eq_none (by rw [hlb.out]; exact h')])
        go_wp2
        go_ret
        rw [HX.out]
        exact ⟨rfl, q, rfl⟩
  · have HX : Hid (decide (a = b) = false) := decide_eq_false (fun e => hne (by rw [← hla.out, ← hlb.out, e]))
    have h1 : ((n : Int) == (n' : Int)) = false := by rw [beq_eq_false_iff_ne]; omega
    have h2 : ((n : Int) != (n' : Int)) = true := by rw [bne_iff_ne]; omega
    go_wp2
    go_ret
    rw [HX.out]
    exact ⟨rfl, 0, rfl⟩
end Go.Proofs.Ytgbilhfpogdfeaa

namespace Go.Proofs.Ytgbilhfpogdfeaa
open Go.RowKit Wal

/-- A log and its disk that are all of the call's own: all their blocks are new since w0. -/
structure LLives (w0 w : World) (b : Nat) (G : List Nat) (s : LS) (d : Nat) (F : List Nat) (m : Dsk.DM) : Prop where
  ld : LD w b G s d F m
  below : Below w0.heap.size w0 w
  new : ∀ x ∈ G ++ F, w0.heap.size ≤ x
section
variable {w0 w w' : World} {b d : Nat} {s s' : LS} {G F H : List Nat} {m m' : Dsk.DM}
theorem LLives.turned (h : LLives w0 w b G s d F m) (t : LTurned w b G d F w' s' m') : ∃ G' F', LLives w0 w' b G' s' d F' m' ∧ Only (G ++ F) w w' ∧ Grown w (G ++ F) (G' ++ F') := by
  obtain ⟨G', F', h1, h2, h3, h4⟩ := t
  refine ⟨G', F', ⟨h1, h.below.trans (h2.below h.below.size h.new), fun x hx => ?_⟩, h2, h3.append h4⟩
  rcases h3.append h4 x hx with hx | hx
  · exact h.new x hx
  · exact Nat.le_trans h.below.size hx
theorem LLives.under (h : LLives w0 w b G s d F m) (k : Below w.heap.size w w') : LLives w0 w' b G s d F m := ⟨h.ld.under k, h.below.trans (k.mono h.below.size), h.new⟩
theorem LLives.alloc (h : LLives w0 w b G s d F m) (o : Obj) : LLives w0 (w.alloc o) b G s d F m := h.under ((Below.refl _ _).alloc (Nat.le_refl _) o)
theorem below_drewN (w : World) (n : Nat) : Below w.heap.size w (w.drewN n) := ⟨rfl, rfl, rfl, Nat.le_refl _, fun _ _ => rfl⟩
theorem LLives.drewN (h : LLives w0 w b G s d F m) (n : Nat) : LLives w0 (w.drewN n) b G s d F m := h.under (below_drewN w n)
theorem LLives.far (h : LLives w0 w b G s d F m) {x : Nat} (hx : w.heap.size ≤ x) : x ∉ G ++ F := h.ld.far_new hx
theorem LLives.lives (h : LLives w0 w b G s d F m) : Lives w0 w d F m := ⟨h.ld.disk, h.below, fun x hx => h.new x (List.mem_append.2 (.inr hx))⟩
end

/-- One string, two strings, that have just been laid. -/
theorem strs_one (w : World) (s : ByteArray) (hs : s.size ≤ 4611686018427387904) (e : TypeId) (b : Nat) (hb : b = w.heap.size) : Strs (w.alloc (.cells #[.string s] e)) (some ⟨b, 0, none⟩) 1 [s] := by
  subst hb
  refine ⟨rfl, fun y hy => by
    obtain rfl : y = s := by simpa using hy
    exact hs, fun _ => ⟨_, 0, rfl, by simp, fun i y hi => ?_⟩⟩
  have h0 : i = 0 := by
    rcases i with _ | i
    · rfl
    · simp at hi
  subst h0
  obtain rfl : s = y := by simpa using hi
  rw [Nat.zero_add, World.cell?_alloc_new]
  rfl
theorem strs_two (w : World) (s t : ByteArray) (hs : s.size ≤ 4611686018427387904) (ht : t.size ≤ 4611686018427387904) (e : TypeId) (b : Nat) (hb : b = w.heap.size) : Strs (w.alloc (.cells #[.string s, .string t] e)) (some ⟨b, 0, none⟩) 2 [s, t] := by
  subst hb
  refine ⟨rfl, fun y hy => by
    have h1 : y = s ∨ y = t := by simpa using hy
    rcases h1 with rfl | rfl
    · exact hs
    · exact ht, fun _ => ⟨_, 0, rfl, by simp, fun i y hi => ?_⟩⟩
  rw [Nat.zero_add, World.cell?_alloc_new]
  rcases i with _ | _ | i
  · obtain rfl : s = y := by simpa using hi
    rfl
  · obtain rfl : t = y := by simpa using hi
    rfl
  · simp at hi

namespace Fix3
def B1 : List (List Nat) := [[97]]
def B2 : List (List Nat) := [[98], [99]]
def B3 : List (List Nat) := [[108, 111, 115, 116]]
def A1 : LS := openS 2 3 0 1 0 []
def A2 : LS := { A1 with needs := [1] }
def A3 : LS := { A1 with needs := [1, 1] }
def A4 : LS := { A3 with synced := 2 }
def A5 : LS := { A4 with start := 1, first := 2, needs := [1] }
/-- What the document's examples do. -/
theorem run : ∃ m1 m2 m3 m4 m5 m6 : Dsk.DM, ∃ s6 : LS, makeO (Dsk.fresh 8) 2 4 = (0, A1, m1) ∧ appendO A1 m1 B1 = (1, 0, A2, m2) ∧ appendO A2 m2 B2 = (2, 0, A3, m3) ∧ syncO A3 m3 = (0, A4, m4) ∧ trimO A4 m4 1 = (0, A5, m5) ∧
    appendO A5 m5 B3 = (3, 0, s6, m6) ∧ Wal.Found 2 3 (holds (m6.crash []).seen) 1 2 2 [B2] ∧ (m6.crash []).dead = false ∧ (m6.crash []).dur.length = 8 ∧ A1.Ok ∧ A2.Ok ∧ A3.Ok ∧ A4.Ok ∧ A5.Ok ∧
    m1.wait.length ≤ 10 ∧ m2.wait.length ≤ 10 ∧ m3.wait.length ≤ 10 ∧ m4.wait.length ≤ 10 ∧ m5.wait.length ≤ 10 ∧ m6.wait.length ≤ 10 := by
  have n1 : need B1 = 1 := by decide
  have n2 : need B2 = 1 := by decide
  have n3 : need B3 = 1 := by decide
  have g1 : Wal.good B1 = true := by decide
  have g2 : Wal.good B2 = true := by decide
  have g3 : Wal.good B3 = true := by decide
  obtain ⟨m1, e1, i1, w1, d1, f1, _⟩ := inv_make (m := Dsk.fresh 8) (frm := 2) (n := 4) (by simp [Dsk.fresh]) rfl (by omega) (by simp [Dsk.fresh]) rfl
  have i1 : Wal.Inv A1 m1 [] := i1
  rcases i1.append g1 (by decide) (by rw [n1]; decide) (by omega) with ⟨m2, e2, i2, d2, f2, w2, _⟩ | ⟨_, _, _, hf, _⟩
  rotate_left
  · exact absurd f1 hf
  rw [n1] at e2 i2 f2 w2
  have i2 : Wal.Inv A2 m2 [B1] := i2
  have f2 : m2.fuel = -1 := by rw [f2, f1]; rfl
  rcases i2.append g2 (by decide) (by rw [n2]; decide) (by omega) with ⟨m3, e3, i3, d3, f3, w3, _⟩ | ⟨_, _, _, hf, _⟩
  rotate_left
  · exact absurd f2 hf
  rw [n2] at e3 i3 f3 w3
  have i3 : Wal.Inv A3 m3 [B1, B2] := i3
  have f3 : m3.fuel = -1 := by rw [f3, f2]; rfl
  rcases i3.sync with ⟨m4, e4, i4, w4, d4, f4, _⟩ | ⟨_, _, _, hf, _⟩
  rotate_left
  · exact absurd f3 hf
  have i4 : Wal.Inv A4 m4 [B1, B2] := i4
  have f4 : m4.fuel = -1 := by
    rw [f4, f3]
    split <;> rfl
  rcases i4.trim (k := 1) (by omega) (by decide) (by decide) with ⟨m5, s5, e5, es5, i5, w5, d5, f5⟩ | ⟨_, _, _, hf, _⟩
  rotate_left
  · exact absurd f4 hf
  have hs5 : s5 = A5 := by
    rw [es5]
    have e : ((A4.start + (([B1, B2].take 1).map need).sum) % A4.ring) = 1 := by decide
    rw [e]
    rfl
  rw [hs5] at e5 i5
  have i5 : Wal.Inv A5 m5 [B2] := i5
  have f5 : m5.fuel = -1 := by rw [f5, f4]; rfl
  rcases i5.append g3 (by decide) (by rw [n3]; decide) (by omega) with ⟨m6, e6, i6, d6, f6, w6, _⟩ | ⟨_, _, _, hf, _⟩
  rotate_left
  · exact absurd f5 hf
  rw [n3] at w6
  have sf := i6.safe []
  have dl : m6.dur.length = 8 := by
    rw [d6, d5, d4, d3, d2, d1]
    simp [Dsk.fresh]
  have l1 : m1.wait.length = 0 := by rw [w1]; rfl
  have l5 : m5.wait.length = 0 := by rw [w5]; rfl
  exact ⟨m1, m2, m3, m4, m5, m6, _, e1, e2, e3, e4, e5, e6, sf, rfl, by show (Dsk.crashD _ _ _).length = 8; rw [Dsk.crashD_length]; exact dl, i1.ok, i2.ok, i3.ok, i4.ok, i5.ok, by omega, by omega, by omega, by omega, by omega, by omega⟩
end Fix3
end Go.Proofs.Ytgbilhfpogdfeaa

namespace Go.Proofs.Ytgbilhfpogdfeaa
open Go.RowKit Wal

/-- What Make answers where it makes a log of the call's own. -/
theorem MadeLog.ok {w0 w w' : World} {d : Nat} {F : List Nat} {o : Out} {m0 : Dsk.DM} {e : Ending} (h : MadeLog w d F o e w') (h0 : o.1 = 0) (hl : Lives w0 w d F m0) : ∃ b G F', e = .returned (.tuple #[.pointer (some ⟨b, 0, none⟩), .int .i64 0]) ∧ LLives w0 w' b G o.2.1 d F' o.2.2 ∧ Only F w w' ∧ ∀ x ∈ G ++ F', x ∈ F ∨ w.heap.size ≤ x := by
  obtain ⟨b, G, F', h1, h2, h3, h4, h5⟩ := h.1 h0
  refine ⟨b, G, F', h1, ⟨h2, hl.below.trans (h3.below hl.below.size hl.new), fun x hx => ?_⟩, h3, fun x hx => ?_⟩
  · rcases List.mem_append.1 hx with hx | hx
    · exact Nat.le_trans hl.below.size (h4 x hx)
    · rcases h5 x hx with hx | hx
      · exact hl.new x hx
      · exact Nat.le_trans hl.below.size hx
  · rcases List.mem_append.1 hx with hx | hx
    · exact .inr (h4 x hx)
    · exact h5 x hx

/-- A batch of a row of batches, in memory. -/
theorem RowsAt.slot {w : World} {base : Nat} {v : Value} {vs : List Value} {Bs : List (List (List Nat))} {B : List (List Nat)} {k : Nat} (h : RowsAt w base v vs Bs) (hk : Bs[k]? = some B) :
    ∃ g c A c', v = .slice (some ⟨g, 0, none⟩) Bs.length c ∧ w.cell? ⟨g, k, none⟩ = some (.slice A B.length c') ∧ w.ownsRow base 9 1 (.slice A B.length c') B.length (B.map strV) := by
  have hkl := (List.getElem?_eq_some_iff.1 hk).1
  obtain ⟨g, cap, hv⟩ : ∃ g cap, v = .slice (some ⟨g, 0, none⟩) Bs.length cap := by
    rcases h.row.2 with ⟨_, h0⟩ | ⟨g, cap, cur, hv, _⟩
    · omega
    · exact ⟨g, cap, hv⟩
  have hkv : k < vs.length := by rw [h.len]; exact hkl
  have hu : vs[k]? = some vs[k] := List.getElem?_eq_getElem hkv
  have h1 := h.each k _ B hu hk
  obtain ⟨A, c', e⟩ := own_slice h1
  have h2 := h.row
  rw [hv] at h2
  refine ⟨g, cap, A, c', hv, ?_, by rw [← e]; exact h1⟩
  rw [h2.cellAt k (by omega), hu, e]

set_option maxRecDepth 100000 in
set_option maxHeartbeats 3200000 in
theorem fixed_any (w : World) :
    Calls Try.prog 4 #[] w fun e w' => e = .returned (.bool true) ∧ Below w.heap.size w w' := by
  obtain ⟨m1, m2, m3, m4, m5, m6, s6, e1, e2, e3, e4, e5, e6, fo, fd, fl, k1, k2, k3, k4, k5, b1, b2, b3, b4, b5, b6⟩ := Fix3.run
  have E1 := Lib.hid e1
  have E2 := Lib.hid e2
  have E3 := Lib.hid e3
  have E4 := Lib.hid e4
  have E5 := Lib.hid e5
  have E6 := Lib.hid e6
  have FO := Lib.hid fo
  have FD := Lib.hid fd
  have FL := Lib.hid fl
  have KK := Lib.hid (And.intro k1 (And.intro k2 (And.intro k3 (And.intro k4 k5))))
  have WW : Hid (m1.wait.length ≤ 10 ∧ m2.wait.length ≤ 10 ∧ m3.wait.length ≤ 10 ∧ m4.wait.length ≤ 10 ∧ m5.wait.length ≤ 10 ∧ m6.wait.length ≤ 10) := ⟨b1, b2, b3, b4, b5, b6⟩
  clear e1 e2 e3 e4 e5 e6 fo fd fl k1 k2 k3 k4 k5 b1 b2 b3 b4 b5 b6
  go_enter Try.func4, Try.ntmps4
  go_wp2_with fail
  refine (new_any _ 8).mono ?_
  intro e w1 hn
  have e0 : Dsk.fresh (clampN 8) = Dsk.fresh 8 := rfl
  rw [e0] at hn
  obtain ⟨d, F, rfl, hL⟩ := hn.lives
  have L1 := Lib.hid hL
  clear hL hn e0
  have MK := Lib.hid (make_any w1 d F (Dsk.fresh 8) 2 4 L1.out.disk (by decide) (by simp [Dsk.fresh]))
  rw [E1.out] at MK
  go_wp2_with fail
  refine MK.out.mono ?_
  intro e w2 hm
  obtain ⟨b, G2, F2, rfl, hL, _, _⟩ := hm.ok rfl L1.out
  have L2 : Hid (LLives w w2 b G2 Fix3.A1 d F2 m1) := hL
  clear hL hm MK L1
  obtain ⟨vn, hlog, _⟩ := L2.out.ld.log
  have C := Lib.hid (room_any w2 b d vn Fix3.A1 hlog (by decide) (by decide) (by decide))
  have er : Fix3.A1.room = 3 := by decide
  rw [er] at C
  clear hlog er
  go_wp2_with fail
  refine C.out.mono ?_
  rintro e w3 ⟨rfl, k, hw⟩
  have L3 : Hid (LLives w w3 b G2 Fix3.A1 d F2 m1) := by rw [hw]; exact L2.out.drewN k
  clear hw C L2
  have NC := Lib.hid (need_any (w3.alloc (.cells #[.string ⟨#[97]⟩] 9)) (some ⟨w3.heap.size, 0, none⟩) 1 1 [⟨#[97]⟩] (by omega) (strs_one w3 _ (by decide) _ _ rfl) (by decide))
  have en : Wal.need (txts [⟨#[97]⟩]) = 1 := by decide
  rw [en] at NC
  clear en
  go_wp2_with fail
  refine NC.out.mono ?_
  rintro e w' ⟨rfl, rfl⟩
  clear NC
  have L4 := Lib.hid (L3.out.alloc (.cells #[.string ⟨#[97]⟩] 9))
  generalize w3.alloc (.cells #[.string ⟨#[97]⟩] 9) = w4 at *
  clear L3
  have AP := Lib.hid (append_any (w4.alloc (.cells #[.string ⟨#[97]⟩] 9)) b d Fix3.A1 G2 F2 m1 (some ⟨w4.heap.size, 0, none⟩) 1 1 [⟨#[97]⟩] (L4.out.alloc _).ld KK.out.1 (strs_one w4 _ (by decide) _ _ rfl) (by omega) (fun _ x hx => by
    injection hx with hx
    subst hx
    exact L4.out.far (Nat.le_refl _)) (by have := WW.out; omega))
  rw [show txts [(⟨#[97]⟩ : ByteArray)] = Fix3.B1 from by decide, E2.out] at AP
  go_wp2_with fail
  refine AP.out.mono ?_
  rintro e w5 ⟨rfl, ht⟩
  obtain ⟨G5, F5, hL, _, _⟩ := (L4.out.alloc _).turned ht
  have L5 : Hid (LLives w w5 b G5 Fix3.A2 d F5 m2) := hL
  clear hL ht AP L4
  have AP := Lib.hid (append_any (w5.alloc (.cells #[.string ⟨#[98]⟩, .string ⟨#[99]⟩] 9)) b d Fix3.A2 G5 F5 m2 (some ⟨w5.heap.size, 0, none⟩) 2 2 [⟨#[98]⟩, ⟨#[99]⟩] (L5.out.alloc _).ld KK.out.2.1 (strs_two w5 _ _ (by decide) (by decide) _ _ rfl) (by omega) (fun _ x hx => by
    injection hx with hx
    subst hx
    exact L5.out.far (Nat.le_refl _)) (by have := WW.out; omega))
  rw [show txts [(⟨#[98]⟩ : ByteArray), ⟨#[99]⟩] = Fix3.B2 from by decide, E3.out] at AP
  go_wp2_with fail
  refine AP.out.mono ?_
  rintro e w6 ⟨rfl, ht⟩
  obtain ⟨G6, F6, hL, _, _⟩ := (L5.out.alloc _).turned ht
  have L6 : Hid (LLives w w6 b G6 Fix3.A3 d F6 m3) := hL
  clear hL ht AP L5
  have SY := Lib.hid (sync_any w6 b d Fix3.A3 G6 F6 m3 L6.out.ld KK.out.2.2.1 (by have := WW.out; omega))
  rw [E4.out] at SY
  go_wp2_with fail
  refine SY.out.mono ?_
  rintro e w7 ⟨rfl, ht⟩
  obtain ⟨G7, F7, hL, _, _⟩ := L6.out.turned ht
  have L7 : Hid (LLives w w7 b G7 Fix3.A4 d F7 m4) := hL
  clear hL ht SY L6
  have TR := Lib.hid (trim_any w7 b d Fix3.A4 G7 F7 m4 1 L7.out.ld KK.out.2.2.2.1 (by decide) (by have := WW.out; omega))
  rw [E5.out] at TR
  go_wp2_with fail
  refine TR.out.mono ?_
  rintro e w8 ⟨rfl, ht⟩
  obtain ⟨G8, F8, hL, _, _⟩ := L7.out.turned ht
  have L8 : Hid (LLives w w8 b G8 Fix3.A5 d F8 m5) := hL
  clear hL ht TR L7
  have AP := Lib.hid (append_any (w8.alloc (.cells #[.string ⟨#[108, 111, 115, 116]⟩] 9)) b d Fix3.A5 G8 F8 m5 (some ⟨w8.heap.size, 0, none⟩) 1 1 [⟨#[108, 111, 115, 116]⟩] (L8.out.alloc _).ld KK.out.2.2.2.2 (strs_one w8 _ (by decide) _ _ rfl) (by omega) (fun _ x hx => by
    injection hx with hx
    subst hx
    exact L8.out.far (Nat.le_refl _)) (by have := WW.out; omega))
  rw [show txts [(⟨#[108, 111, 115, 116]⟩ : ByteArray)] = Fix3.B3 from by decide, E6.out] at AP
  go_wp2_with fail
  refine AP.out.mono ?_
  rintro e w9 ⟨rfl, ht⟩
  obtain ⟨G9, F9, hL, _, _⟩ := (L8.out.alloc _).turned ht
  have L9 : Hid (Lives w w9 d F9 m6) := hL.lives
  clear hL ht AP L8
  have CR := Lib.hid (crash_any w9 d F9 m6 none 0 0 [] L9.out.disk ⟨rfl, fun h => by omega⟩ (by omega) (fun h => by omega) (by have := WW.out; omega))
  go_wp2_with fail
  refine CR.out.mono ?_
  rintro e w10 ⟨rfl, ht⟩
  obtain ⟨F10, hL, _, _⟩ := L9.out.turned ht
  have L10 := Lib.hid hL
  clear hL ht CR L9
  have OP := Lib.hid (open_any w10 d F10 (m6.crash []) 2 4 1 2 2 [Fix3.B2] L10.out.disk (by rw [FL.out]; decide) FD.out FO.out (by omega))
  go_wp2_with fail
  refine OP.out.mono ?_
  rintro e w11 ⟨b2, v, vs, G11, F11, rfl, hld, honly, hG, hF, hrows, hfar⟩
  obtain ⟨g, c, A, c', hv, hcell, hown⟩ := hrows.slot (k := 0) rfl
  have hv' : v = .slice (some ⟨g, 0, none⟩) 1 c := hv
  clear hv
  subst hv'
  obtain ⟨hlen, hst, htx⟩ := strs_own hown (by decide) (by decide)
  have B11 : Hid (Below w.heap.size w w11) := L10.out.below.trans (honly.below L10.out.below.size L10.out.new)
  have LD11 := Lib.hid hld
  have GL : g < w11.heap.size := (hrows.row.lt g rfl).2
  have e98 : Fix3.B2.map strB = [⟨#[98]⟩, ⟨#[99]⟩] := by decide
  rw [e98] at hst
  have SM := Lib.hid (same_any (w11.alloc (.cells #[.string ⟨#[98]⟩, .string ⟨#[99]⟩] 9)) A (some ⟨w11.heap.size, 0, none⟩) 2 c' 2 2 _ _ (by omega) (by omega) (hst.below ((Below.refl _ _).alloc (Nat.le_refl _) _)) (strs_two w11 _ _ (by decide) (by decide) _ _ rfl))
  rw [show decide ([(⟨#[98]⟩ : ByteArray), ⟨#[99]⟩] = [⟨#[98]⟩, ⟨#[99]⟩]) = true from by decide] at SM
  clear hrows hown hst htx hld honly hG hF hfar OP L10 e98
  have hcell' : w11.cell? ⟨g, 0, none⟩ = some (.slice A 2 c') := hcell
  clear hcell hlen
  go_wp2_with fail
  refine SM.out.mono ?_
  rintro e w12 ⟨rfl, k, hw⟩
  have L12 : Hid (LD w12 b2 G11 (openS 2 (4 - 1) 1 2 2 [Fix3.B2]) d F11 (m6.crash [])) := by rw [hw]; exact (LD11.out.alloc _).drewN k
  have B12 : Hid (Below w.heap.size w w12) := by rw [hw]; exact (B11.out.alloc B11.out.size _).trans ((below_drewN _ k).mono (by simp; have := B11.out.size; omega))
  clear hw SM LD11 B11
  obtain ⟨vn, hlog, _⟩ := L12.out.log
  have FI := Lib.hid (first_any w12 b2 d vn _ hlog)
  have LA := Lib.hid (last_any w12 b2 d vn _ hlog (by decide) (by decide))
  have ef : (openS 2 (4 - 1) 1 2 2 [Fix3.B2]).first = 2 := rfl
  have el : (openS 2 (4 - 1) 1 2 2 [Fix3.B2]).last = 2 := by decide
  rw [ef] at FI
  rw [el] at LA
  clear hlog ef el
  go_wp2_with fail
  refine FI.out.mono ?_
  rintro e w' ⟨rfl, rfl⟩
  go_wp2_with fail
  refine LA.out.mono ?_
  rintro e w13 ⟨rfl, k, hw⟩
  have B13 : Hid (Below w.heap.size w w13) := by rw [hw]; exact B12.out.trans ((below_drewN _ k).mono B12.out.size)
  clear hw
  go_wp2_with fail
  go_ret
  exact ⟨rfl, B13.out⟩
end Go.Proofs.Ytgbilhfpogdfeaa

namespace Go.Proofs.Ytgbilhfpogdfeaa
open Go.ChangeShapes Go.WideShapes Go.ChangeAt Go.RowKit Go.Joins Go.Deep Wal

/-- What is read lies within reach. -/
def Small {H : Type} (P : Program) (t : TypeId) (d : DataW H) : Prop := ∀ x ∈ DataW.weights P t d, x ≤ reachBytes
theorem small_each {H : Type} {P : Program} : ∀ {ts : List TypeId} {ds : List (DataW H)}, (∀ x ∈ DataW.weightsEach P ts ds, x ≤ reachBytes) → ∀ (j : Nat) t d, ts[j]? = some t → ds[j]? = some d → Small P t d
  | [], _, _, j, t, d, ht, _ => by simp at ht
  | _ :: _, [], _, j, t, d, _, hd => by simp at hd
  | t0 :: ts, d0 :: ds, h, j, t, d, ht, hd => by
    rcases j with _ | j
    · have e1 : t0 = t := by simpa using ht
      have e2 : d0 = d := by simpa using hd
      subst e1 e2
      exact fun x hx => h x (by simp only [DataW.weightsEach, List.mem_append]; exact .inl hx)
    · exact small_each (ts := ts) (ds := ds) (fun x hx => h x (by simp only [DataW.weightsEach, List.mem_append]; exact .inr hx)) j t d (by simpa using ht) (by simpa using hd)
theorem small_all {H : Type} {P : Program} {e : TypeId} : ∀ {ds : List (DataW H)}, (∀ x ∈ DataW.weightsAll P e ds, x ≤ reachBytes) → ∀ d ∈ ds, Small P e d
  | [], _, d, hd => by cases hd
  | d0 :: ds, h, d, hd => by
    rcases List.mem_cons.1 hd with rfl | hd
    · exact fun x hx => h x (by simp only [DataW.weightsAll, List.mem_append]; exact .inl hx)
    · exact small_all (ds := ds) (fun x hx => h x (by simp only [DataW.weightsAll, List.mem_append]; exact .inr hx)) d hd
theorem small_args {H : Type} {P : Program} {ts : List TypeId} {ds : List (DataW H)} (h : (DataW.weightsEach P ts ds).all (· ≤ reachBytes) = true) {j : Nat} {t : TypeId} {d : DataW H} (ht : ts[j]? = some t) (hd : ds[j]? = some d) : Small P t d := by
  refine small_each (fun x hx => ?_) j t d ht hd
  have := List.all_eq_true.1 h x hx
  exact of_decide_eq_true this
theorem small_slice {H : Type} {P : Program} {t e : TypeId} {el sp : List (DataW H)} (ht : P.underlying t = some (.slice e)) (h : Small P t (.slice el sp)) : (el.length + sp.length) * P.bytesOf e ≤ reachBytes ∧ ∀ d ∈ el, Small P e d := by
  unfold Small at h
  simp only [DataW.weights, ht] at h
  exact ⟨h _ (by simp), fun d hd => small_all (fun x hx => h x (by simp [hx])) d hd⟩
theorem small_string {H : Type} {P : Program} {t : TypeId} {bytes : List UInt8} (h : Small (H := H) P t (.lit (.string bytes))) : bytes.length ≤ reachBytes := h _ (by simp [DataW.weights])
theorem small_struct {H : Type} {P : Program} {t : TypeId} {fs : Array Field} {parts : List (DataW H)} (ht : P.underlying t = some (.struct fs)) (h : Small P t (.agg parts)) : ∀ (j : Nat) u d, (fs.toList.map (·.type))[j]? = some u → parts[j]? = some d → Small P u d := by
  unfold Small at h
  simp only [DataW.weights, ht] at h
  exact small_each h

theorem cellsS : Try.prog.cellsOf 9 = 1 := by kernel_rfl
theorem bytesS : Try.prog.bytesOf 9 = 16 := by kernel_rfl

section
variable {H : Type} {enc : TypeId × Value → H} {W : World}
set_option maxRecDepth 100000 in
/-- A slice of strings that came in. -/
theorem open_txts {fuel : Nat} {v : Value} {x : DataW H × List MemPlace} (h : DataW.trod enc Try.prog W 0 (fun _ => true) true fuel 57 [v] = some x) (hs : Small Try.prog 57 x.1) :
    ∃ A n c l, v = .slice A n c ∧ Strs W A n l ∧ n ≤ 8796093022208 ∧ (0 < n → ∀ a, A = some a → a.block < W.heap.size) ∧ (∀ s ∈ l, s.size ≤ 140737488355328) ∧ ((x.1 = .nil ∧ n = 0) ∨ ∃ spare, x.1 = .slice (l.map fun s => .lit (.string s.data.toList)) spare) := by
  rcases open_strs Try.underlying57 Try.underlying9 cellsS h with ⟨hcs, hx⟩ | ⟨a, len, cap, m, S, hcs, _, hl, hm, hmm, hx, hc⟩
  · injection hcs with hcs
    exact ⟨none, 0, 0, [], hcs, ⟨rfl, by simp, fun h => by omega⟩, by omega, fun h => by omega, by simp, .inl ⟨by rw [hx], rfl⟩⟩
  · injection hcs with hcs
    simp only [if_true] at hmm
    subst hmm
    rw [hx] at hs
    obtain ⟨h1, h2⟩ := small_slice Try.underlying57 hs
    rw [bytesS] at h1
    simp only [List.length_map, List.length_range, reachBytes] at h1
    have hsz : ∀ s ∈ (List.range len).map S, s.size ≤ 140737488355328 := fun s hs' => by
      obtain ⟨i, hi, rfl⟩ := List.mem_map.1 hs'
      have h3 := small_string (h2 _ (List.mem_map.2 ⟨i, hi, rfl⟩))
      rw [Array.length_toList] at h3
      simp only [reachBytes] at h3
      show (S i).data.size ≤ _
      omega
    refine ⟨some a, len, m, (List.range len).map S, hcs, ⟨by simp, fun s hs' => by have := hsz s hs'; omega, fun hp => ?_⟩, by omega, fun hp b hb => ?_, hsz, .inr ⟨_, by rw [hx, List.map_map]; rfl⟩⟩
    · obtain ⟨b, off, spot⟩ := a
      have h0 := (hc 0 (by omega)).1
      have hspot : spot = none := by simpa [Addr.add] using World.cell?_spot h0
      subst hspot
      refine ⟨b, off, rfl, by simpa [Addr.add] using block_lt h0, fun i s hi => ?_⟩
      rw [List.getElem?_map] at hi
      obtain ⟨i', hi', rfl⟩ := Option.map_eq_some_iff.1 hi
      have hil : i < len := by
        rcases Nat.lt_or_ge i len with h' | h'
        · exact h'
        · rw [List.getElem?_eq_none (by simpa using h')] at hi'; cases hi'
      rw [List.getElem?_range hil] at hi'
      injection hi' with hi'
      subst hi'
      have h1 := (hc i (by omega)).1
      have e : (⟨b, off, none⟩ : Addr).add i = ⟨b, off + i, none⟩ := by cases i <;> simp [Addr.add]
      rw [← e, h1]
    · injection hb with hb
      subst hb
      have h0 := (hc 0 (by omega)).1
      simpa [Addr.add] using block_lt h0
set_option maxRecDepth 100000 in
/-- An argument of type []string. -/
theorem open_batch {r : Reach} {b0 : Nat} {v : Value} {d : DataW H} {p : List MemPlace} (hv : Value.okWide Try.prog W r b0 57 v) (h : DataW.Trod enc Try.prog W 0 (fun _ => true) true 57 v d p) (hs : Small Try.prog 57 d) :
    ∃ A n c l, v = .slice A n c ∧ Strs W A n l ∧ n ≤ 8796093022208 ∧ (0 < n → ∀ a, A = some a → a.block < W.heap.size) ∧ (∀ s ∈ l, s.size ≤ 140737488355328) ∧ ((d = .nil ∧ n = 0) ∨ ∃ spare, d = .slice (l.map fun s => .lit (.string s.data.toList)) spare) := by
  obtain ⟨A, n, c, rfl⟩ := okWide_slice Try.underlying57 hv
  obtain ⟨fuel, hf⟩ := h
  exact open_txts (x := (d, p)) hf hs

/-- An Op of layer 3, read. -/
structure WOp where
  kind : Nat
  A : Option Addr
  n : Nat
  c : Nat
  batch : List ByteArray
  num : Int
instance : Inhabited WOp := ⟨⟨0, none, 0, 0, [], 0⟩⟩
structure WOpGood (W : World) (o : WOp) : Prop where
  k : o.kind < 256
  i0 : -9223372036854775808 ≤ o.num
  i1 : o.num ≤ 9223372036854775807
  batch : Strs W o.A o.n o.batch
  n : o.n ≤ 8796093022208
  lt : 0 < o.n → ∀ a, o.A = some a → a.block < W.heap.size
  each : ∀ s ∈ o.batch, s.size ≤ 140737488355328
def WOp.cells (o : WOp) : Array Value := #[.int .u8 (o.kind : Int), .slice o.A o.n o.c, .int .i64 o.num]
theorem cellsWOp : Try.prog.cellsOf 87 = 3 := by kernel_rfl

set_option maxRecDepth 100000 in
theorem open_wfields {n : Nat} {v0 v1 v2 : Value} {y0 y1 y2 : DataW H × List MemPlace} (h0 : DataW.trod enc Try.prog W 0 (fun _ => true) true n 5 [v0] = some y0) (h1 : DataW.trod enc Try.prog W 0 (fun _ => true) true n 57 [v1] = some y1)
    (h2 : DataW.trod enc Try.prog W 0 (fun _ => true) true n 2 [v2] = some y2) (hs : Small Try.prog 87 (.agg [y0.1, y1.1, y2.1])) :
    ∃ o : WOp, WOpGood W o ∧ v0 = .int .u8 (o.kind : Int) ∧ v1 = .slice o.A o.n o.c ∧ v2 = .int .i64 o.num := by
  obtain ⟨z0, e0, _, w0⟩ := DataW.trod_int Try.underlying5 h0
  obtain ⟨A, m, c, l, e1, hb, hm, hlt, he, _⟩ := open_txts h1 (small_struct Try.underlying87 hs 1 _ _ rfl rfl)
  obtain ⟨z2, e2, _, w2⟩ := DataW.trod_int Try.underlying2 h2
  injection e0 with e0
  injection e2 with e2
  have u := u8_nat w0
  have i := i64_wf w2
  refine ⟨⟨z0.toNat, A, m, c, l, z2⟩, ⟨u.2, i.1, i.2, hb, hm, hlt, he⟩, ?_, e1, e2⟩
  rw [e0]
  show Value.int .u8 z0 = .int .u8 ((z0.toNat : Nat) : Int)
  rw [u.1]
set_option maxRecDepth 100000 in
/-- An Op that came in by value. -/
theorem open_wop {r : Reach} {b0 : Nat} {v : Value} {d : DataW H} {p : List MemPlace} (hv : Value.okWide Try.prog W r b0 87 v) (h : DataW.Trod enc Try.prog W 0 (fun _ => true) true 87 v d p) (hs : Small Try.prog 87 d) :
    ∃ o : WOp, WOpGood W o ∧ v = .agg o.cells := by
  obtain ⟨v0, v1, v2, y0, y1, y2, n, rfl, rfl, _, h0, h1, h2⟩ := open_agg3 Try.underlying87 (by kernel_rfl) cellsWOp hv h
  obtain ⟨o, ho, rfl, rfl, rfl⟩ := open_wfields h0 h1 h2 hs
  exact ⟨o, ho, rfl⟩
end
end Go.Proofs.Ytgbilhfpogdfeaa
