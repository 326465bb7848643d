/-
  wal: the contract of packTold.
-/
import Derived.Test.YtaoldopkehbhkaaWal7
namespace Go.Proofs.Ytaoldopkehbhkaa
open Go.RowKit Wal

namespace Wal
def sig : List Nat := [100, 111, 99, 107, 101, 116, 39, 115, 32, 108, 111, 103]
def nums8 (l : List Nat) : List Nat := l.flatMap (num 8)
theorem nums8_snoc (l : List Nat) (x : Nat) : nums8 (l ++ [x]) = nums8 l ++ num 8 x := by simp [nums8]
theorem nums8_length (l : List Nat) : (nums8 l).length = 8 * l.length := by
  induction l with
  | nil => rfl
  | cons x r ih => simp only [nums8, List.flatMap_cons, List.length_append, num_length, List.length_cons] at ih ⊢; omega
theorem nums8_bytes (l : List Nat) : ∀ x ∈ nums8 l, x < 256 := by
  intro x hx
  obtain ⟨y, _, hx⟩ := List.mem_flatMap.1 hx
  exact num_bytes _ _ x hx
/-- What the log's own sector holds, without its sum; with it. -/
def told52 (frm ring start first synced : Nat) : List Nat := sig ++ nums8 [frm, ring, start, first, synced]
def told (frm ring start first synced : Nat) : List Nat := told52 frm ring start first synced ++ num 4 (Crc.sum (told52 frm ring start first synced))
theorem told52_length (a b c e f : Nat) : (told52 a b c e f).length = 52 := by simp [told52, sig, nums8_length]
theorem told_length (a b c e f : Nat) : (told a b c e f).length = 56 := by simp [told, told52_length, num_length]
theorem told52_bytes (a b c e f : Nat) : ∀ x ∈ told52 a b c e f, x < 256 := by
  intro x hx
  rcases List.mem_append.1 hx with hx | hx
  · have : ∀ y ∈ sig, y < 256 := by decide
    exact this x hx
  · exact nums8_bytes _ x hx
theorem told_bytes (a b c e f : Nat) : ∀ x ∈ told a b c e f, x < 256 := by
  intro x hx
  rcases List.mem_append.1 hx with hx | hx
  · exact told52_bytes _ _ _ _ _ x hx
  · exact num_bytes _ _ x hx
end Wal

theorem index5 (a0 a1 a2 a3 a4 : Int) (u : World) :
    (Instr.index 121 (.agg #[.int .i64 a0, .int .i64 a1, .int .i64 a2, .int .i64 a3, .int .i64 a4]) (.int .i64 0)).run Try.prog u = .ok (.int .i64 a0) u ∧
    (Instr.index 121 (.agg #[.int .i64 a0, .int .i64 a1, .int .i64 a2, .int .i64 a3, .int .i64 a4]) (.int .i64 1)).run Try.prog u = .ok (.int .i64 a1) u ∧
    (Instr.index 121 (.agg #[.int .i64 a0, .int .i64 a1, .int .i64 a2, .int .i64 a3, .int .i64 a4]) (.int .i64 2)).run Try.prog u = .ok (.int .i64 a2) u ∧
    (Instr.index 121 (.agg #[.int .i64 a0, .int .i64 a1, .int .i64 a2, .int .i64 a3, .int .i64 a4]) (.int .i64 3)).run Try.prog u = .ok (.int .i64 a3) u ∧
    (Instr.index 121 (.agg #[.int .i64 a0, .int .i64 a1, .int .i64 a2, .int .i64 a3, .int .i64 a4]) (.int .i64 4)).run Try.prog u = .ok (.int .i64 a4) u := by
  refine ⟨?_, ?_, ?_, ?_, ?_⟩ <;> kernel_rfl

/-- The signature, as it is laid. -/
theorem sig_row (w : World) (b : Nat) (C : Array Value) (hb : b = w.heap.size) (hC : C = (sig.map u8v).toArray) : BRow (w.alloc (.cells C 5 (C.size, C.size + 1))) (.slice (some ⟨b, 0, none⟩) 12 12) sig := by
  subst hb hC
  refine ⟨⟨rfl, .inr ⟨w.heap.size, 0, 12, _, _, rfl, heap_alloc_new w _, .inr (Nat.le_refl _), Nat.le_refl _, by simp [maxLen], by decide, rfl⟩⟩, by decide⟩

set_option maxRecDepth 100000 in
set_option maxHeartbeats 800000 in
theorem packTold_gen (w : World) (b d : Nat) (s : LS) (G F : List Nat) (m : Dsk.DM) (zs zf zy : Int) (st fi sy : Nat) (h : LD w b G s d F m) (hf : s.frm ≤ 4096) (hr : s.ring ≤ 4096) (h1 : st < 18446744073709551616) (h2 : fi < 18446744073709551616) (h3 : sy < 18446744073709551616)
    (w2 : IntKind.u64.wrap zs = (st : Int)) (w3 : IntKind.u64.wrap zf = (fi : Int)) (w4 : IntKind.u64.wrap zy = (sy : Int)) :
    Calls Try.prog 57 #[.pointer (some ⟨b, 0, none⟩), .agg #[.int .i64 zs, .int .i64 zf, .int .i64 zy]] w (Packed w b G s d F m (Wal.told s.frm s.ring st fi sy)) := by
  have H := Lib.hid h
  have kc := conv_new
  have w0 : IntKind.u64.wrap (s.frm : Int) = (s.frm : Int) := by rw [IntKind.wrap_u64]; omega
  have w1 : IntKind.u64.wrap (s.ring : Int) = (s.ring : Int) := by rw [IntKind.wrap_u64]; omega
  have B0 : Hid (s.frm < 18446744073709551616) := by show _ < _; omega
  have B1 : Hid (s.ring < 18446744073709551616) := by show _ < _; omega
  have B2 := Lib.hid h1
  have B3 := Lib.hid h2
  have B4 := Lib.hid h3
  obtain ⟨vn, hl, hG⟩ := h.log
  have blt := hl.lt
  have c1 := hl.c1
  have c2 := hl.c2
  clear h hl hf hr h1 h2 h3
  go_enter Try.func57, Try.ntmps57
  go_wp2_with fail
  have RS : Hid (∀ n, NewRow w (.slice (some ⟨w.heap.size + 1, 0, none⟩) 12 12) sig (((w.alloc (.cells #[.int .i64 zs, .int .i64 zf, .int .i64 zy] 94)).alloc (.cells #[.int .u8 100, .int .u8 111, .int .u8 99, .int .u8 107, .int .u8 101, .int .u8 116, .int .u8 39, .int .u8 115, .int .u8 32, .int .u8 108, .int .u8 111, .int .u8 103] 5 (12, 13))).drewN n)) := by
    intro n
    refine ⟨(sig_row (w.alloc (.cells #[.int .i64 zs, .int .i64 zf, .int .i64 zy] 94)) (w.heap.size + 1) _ (by simp) rfl).only ((Only.refl [] _).drewN n) (fun _ _ hx => by cases hx), fun y hy => ?_⟩
    have : w.heap.size + 1 = y := by simpa [Value.ownBlock] using hy
    omega
  have BS : Hid (∀ n, Below w.heap.size w (((w.alloc (.cells #[.int .i64 zs, .int .i64 zf, .int .i64 zy] 94)).alloc (.cells #[.int .u8 100, .int .u8 111, .int .u8 99, .int .u8 107, .int .u8 101, .int .u8 116, .int .u8 39, .int .u8 115, .int .u8 32, .int .u8 108, .int .u8 111, .int .u8 103] 5 (12, 13))).drewN n)) := by
    intro n
    have h1 : Below w.heap.size w ((w.alloc (.cells #[.int .i64 zs, .int .i64 zf, .int .i64 zy] 94)).alloc (.cells #[.int .u8 100, .int .u8 111, .int .u8 99, .int .u8 107, .int .u8 101, .int .u8 116, .int .u8 39, .int .u8 115, .int .u8 32, .int .u8 108, .int .u8 111, .int .u8 103] 5 (12, 13))) := ((Below.refl _ _).alloc (Nat.le_refl _) _).alloc (by simp) _
    exact h1.trans ⟨rfl, rfl, rfl, Nat.le_refl _, fun _ _ => rfl⟩
  go_quiet (fail)
  have R1 := Lib.hid (RS.out nq)
  have L1 := Lib.hid (BS.out nq)
  clear RS BS kc c1 c2
  generalize ((w.alloc (.cells #[.int .i64 zs, .int .i64 zf, .int .i64 zy] 94)).alloc (.cells #[.int .u8 100, .int .u8 111, .int .u8 99, .int .u8 107, .int .u8 101, .int .u8 116, .int .u8 39, .int .u8 115, .int .u8 32, .int .u8 108, .int .u8 111, .int .u8 103] 5 (12, 13))).drewN nq = wa at *
  obtain ⟨fs, hfs⟩ : ∃ fs : List Nat, fs = [s.frm, s.ring, st, fi, sy] := ⟨_, rfl⟩
  have FS := Lib.hid hfs
  clear hfs
  go_wp2_with fail
  go_loopw [5, 25] (fun p i wr => ∃ k : Nat, k ≤ 5 ∧ i = .int .i64 k ∧ NewRow w p (sig ++ nums8 (fs.take k)) wr ∧ Below w.heap.size w wr) (fun _ i _ => 5 - (intOf i).toNat)
  case atStart => exact ⟨0, by omega, rfl, by simpa [nums8] using R1.out, L1.out⟩
  case round =>
    obtain ⟨k, hk, rfl, hr, hB⟩ := hrel
    obtain ⟨A, c, rfl, _⟩ := hr.1.form
    have R := Lib.hid hr
    have B := Lib.hid hB
    clear hr hB
    by_cases hlt : k < 5
    · have HL : Hid ((sig ++ nums8 (fs.take k)).length ≤ 3000000000) := by
        show _ ≤ _
        rw [List.length_append, nums8_length, List.length_take]
        show 12 + _ ≤ _
        omega
      have HS : Hid (∀ x, fs[k]? = some x → sig ++ nums8 (fs.take (k + 1)) = sig ++ nums8 (fs.take k) ++ num 8 x) := by
        intro x hx
        rw [List.take_add_one, hx]
        show sig ++ nums8 (fs.take k ++ [x]) = _
        rw [nums8_snoc, List.append_assoc]
      generalize sig ++ nums8 (fs.take k) = L at *
      obtain rfl | rfl | rfl | rfl | rfl : k = 0 ∨ k = 1 ∨ k = 2 ∨ k = 3 ∨ k = 4 := by omega
      · have ix := (index5 (s.frm : Int) (s.ring : Int) zs zf zy wr).1
        go_wp2_with fail
        refine (appendNumber_any _ _ _ s.frm 8 R.out.1 B0.out (by omega) HL.out).mono ?_
        intro e wb hA
        obtain ⟨vb, rfl, rb, bb⟩ := hA.new R.out B.out
        have BB := Lib.hid bb
        obtain ⟨A2, c2, rfl, _⟩ := rb.1.form
        have RB := Lib.hid rb
        clear hA rb bb ix
        rw [List.length_append] at RB
        go_wp2_with fail
        go_roundw
        case rel => exact ⟨1, by omega, rfl, by rw [HS.out s.frm (by rw [FS.out]; rfl)]; exact RB.out, BB.out⟩
        case measure => simp [intOf]
      · have ix := (index5 (s.frm : Int) (s.ring : Int) zs zf zy wr).2.1
        go_wp2_with fail
        refine (appendNumber_any _ _ _ s.ring 8 R.out.1 B1.out (by omega) HL.out).mono ?_
        intro e wb hA
        obtain ⟨vb, rfl, rb, bb⟩ := hA.new R.out B.out
        have BB := Lib.hid bb
        obtain ⟨A2, c2, rfl, _⟩ := rb.1.form
        have RB := Lib.hid rb
        clear hA rb bb ix
        rw [List.length_append] at RB
        go_wp2_with fail
        go_roundw
        case rel => exact ⟨2, by omega, rfl, by rw [HS.out s.ring (by rw [FS.out]; rfl)]; exact RB.out, BB.out⟩
        case measure => simp [intOf]
      · have ix := (index5 (s.frm : Int) (s.ring : Int) zs zf zy wr).2.2.1
        go_wp2_with fail
        refine (appendNumber_any _ _ _ st 8 R.out.1 B2.out (by omega) HL.out).mono ?_
        intro e wb hA
        obtain ⟨vb, rfl, rb, bb⟩ := hA.new R.out B.out
        have BB := Lib.hid bb
        obtain ⟨A2, c2, rfl, _⟩ := rb.1.form
        have RB := Lib.hid rb
        clear hA rb bb ix
        rw [List.length_append] at RB
        go_wp2_with fail
        go_roundw
        case rel => exact ⟨3, by omega, rfl, by rw [HS.out st (by rw [FS.out]; rfl)]; exact RB.out, BB.out⟩
        case measure => simp [intOf]
      · have ix := (index5 (s.frm : Int) (s.ring : Int) zs zf zy wr).2.2.2.1
        go_wp2_with fail
        refine (appendNumber_any _ _ _ fi 8 R.out.1 B3.out (by omega) HL.out).mono ?_
        intro e wb hA
        obtain ⟨vb, rfl, rb, bb⟩ := hA.new R.out B.out
        have BB := Lib.hid bb
        obtain ⟨A2, c2, rfl, _⟩ := rb.1.form
        have RB := Lib.hid rb
        clear hA rb bb ix
        rw [List.length_append] at RB
        go_wp2_with fail
        go_roundw
        case rel => exact ⟨4, by omega, rfl, by rw [HS.out fi (by rw [FS.out]; rfl)]; exact RB.out, BB.out⟩
        case measure => simp [intOf]
      · have ix := (index5 (s.frm : Int) (s.ring : Int) zs zf zy wr).2.2.2.2
        go_wp2_with fail
        refine (appendNumber_any _ _ _ sy 8 R.out.1 B4.out (by omega) HL.out).mono ?_
        intro e wb hA
        obtain ⟨vb, rfl, rb, bb⟩ := hA.new R.out B.out
        have BB := Lib.hid bb
        obtain ⟨A2, c2, rfl, _⟩ := rb.1.form
        have RB := Lib.hid rb
        clear hA rb bb ix
        rw [List.length_append] at RB
        go_wp2_with fail
        go_roundw
        case rel => exact ⟨5, by omega, rfl, by rw [HS.out sy (by rw [FS.out]; rfl)]; exact RB.out, BB.out⟩
        case measure => simp [intOf]
    · obtain rfl : k = 5 := by omega
      have e52 : sig ++ nums8 (fs.take 5) = told52 s.frm s.ring st fi sy := by rw [FS.out]; rfl
      have hl52 : (sig ++ nums8 (fs.take 5)).length = 52 := by rw [e52, told52_length]
      rw [hl52, e52] at R
      rw [hl52]
      obtain ⟨A', c', hv', tc⟩ := R.out.1.form
      obtain ⟨rfl, rfl⟩ : A = A' ∧ c = c' := by
        injection hv' with h1 h2 h3
        exact ⟨h1, h3⟩
      rw [told52_length] at tc
      have TC := Lib.hid tc
      clear tc hv' e52 hl52 w0 w1 w2 w3 w4
      have LC := Lib.hid (H.out.under B.out)
      go_wp2_with fail
      refine (tab_sum b _ 52 _ (told52 s.frm s.ring st fi sy) _ (by omega) TC.out (fun _ x hx => by
        subst hx
        have h1 := R.out.2 x.block rfl
        have h2 := H.out.blt
        omega) LC.out.fit).mono ?_
      rintro e wd ⟨rfl, hf, ho⟩
      have KD := Lib.hid ((LKept.under (LKept.refl H.out) B.out).trans (LC.out.summed ho hf))
      have RD : Hid (BRow wd (.slice A 52 c) (told52 s.frm s.ring st fi sy)) := R.out.1.only ho.only (fun g hg e => by
        have h1 := R.out.2 g hg
        have h2 := H.out.blt
        obtain rfl : g = b := by simpa using e
        omega)
      have HQ := Lib.hid (Crc.sum_lt (told52_bytes s.frm s.ring st fi sy))
      have OD := Lib.hid ho.only.size
      clear hf ho
      generalize hq : Crc.sum (told52 s.frm s.ring st fi sy) = q at *
      have EQ := Lib.hid hq
      have w3 : IntKind.u64.wrap (q : Int) = (q : Int) := by have := HQ.out; rw [IntKind.wrap_u64]; omega
      clear hq
      go_wp2_with fail
      refine (appendNumber_any _ _ _ q 4 RD.out (by have := HQ.out; omega) (by omega) (by rw [told52_length]; omega)).mono ?_
      rintro e we ⟨ve, rfl, re, oe, ae⟩
      have KE : Hid (LKept w b G s d F m we) := by
        refine ⟨KD.out.1.only oe (fun x hx e => ?_) (fun x hx e => ?_), KD.out.2.trans oe (fun x hx => .inr (R.out.2 x (by simpa using hx)))⟩
        · have h1 := R.out.2 x (by simpa using e)
          have h2 := H.out.glt x hx
          omega
        · have h1 := R.out.2 x (by simpa using e)
          have h2 := H.out.flt x hx
          omega
      have RE := Lib.hid re
      have AE : Hid (∀ y, ve.ownBlock = some y → w.heap.size ≤ y) := fun y hy => by
        rcases ae y hy with h | h
        · exact R.out.2 y h
        · have h1 := B.out.size
          have h2 := OD.out
          omega
      obtain ⟨A4, c4, rfl, _⟩ := re.form
      clear re oe ae
      go_wp2_with fail
      go_ret
      refine ⟨_, rfl, ⟨?_, AE.out⟩, KE.out⟩
      unfold Wal.told
      rw [EQ.out]
      exact RE.out
theorem packTold_any (w : World) (b d : Nat) (s : LS) (G F : List Nat) (m : Dsk.DM) (st fi sy : Nat) (h : LD w b G s d F m) (hf : s.frm ≤ 4096) (hr : s.ring ≤ 4096) (h1 : st ≤ 4611686018427387904) (h2 : fi ≤ 4611686018427387904) (h3 : sy ≤ 4611686018427387904) :
    Calls Try.prog 57 #[.pointer (some ⟨b, 0, none⟩), .agg #[.int .i64 (st : Int), .int .i64 (fi : Int), .int .i64 (sy : Int)]] w (Packed w b G s d F m (Wal.told s.frm s.ring st fi sy)) :=
  packTold_gen w b d s G F m st fi sy st fi sy h hf hr (by omega) (by omega) (by omega) (by rw [IntKind.wrap_u64]; omega) (by rw [IntKind.wrap_u64]; omega) (by rw [IntKind.wrap_u64]; omega)
end Go.Proofs.Ytaoldopkehbhkaa
