/-
  wal: bytes appended in place, where there is room; the plain words of a packed batch. · wal: the contract of pack. · wal: what Append wants: the log's blocks are cells; a number appended to its needs; the model of its writes. · wal: what the contract of Append wants: the log within a call with blocks of its own.
-/
import Derived.Test.YtkajneeihhobhaaGreatMChunk
import Derived.Deep.AppendSrc
namespace Go.Proofs.YtkajneeihhobhaaGreat
open Go.RowKit Wal

theorem patch_snoc {L a b : List Nat} {n : Nat} (h : n + a.length + b.length ≤ L.length) : patch (patch L n a) (n + a.length) b = patch L n (a ++ b) := by
  have h1 : (L.take n ++ a).length = n + a.length := by simp; omega
  unfold patch
  have e1 : (L.take n ++ a ++ L.drop (n + a.length)).take (n + a.length) = L.take n ++ a := List.take_left' h1
  have e2 : (L.take n ++ a ++ L.drop (n + a.length)).drop (n + a.length + b.length) = L.drop (n + (a ++ b).length) := by
    rw [List.drop_append, List.drop_of_length_le (by omega), List.nil_append, h1, List.drop_drop]
    congr 1
    simp
    omega
  rw [e1, e2, List.append_assoc (L.take n) a b]

section
variable {w : World} {g n : Nat} {L : List Nat}
theorem run_append_buf (h : Buf w g L) (tx ty : TypeId) (x : Value) (m : Nat) (l : List Nat) (hs : Src Tryz.prog 1 tx x m (l.map u8v) w) (hl : l.length = m) (hn : n + m ≤ L.length) :
    (Builtin.append_ #[56, tx] ty #[.slice (some ⟨g, 0, none⟩) n L.length, x]).run Tryz.prog w = .ok (.slice (some ⟨g, 0, none⟩) (n + m) L.length) (w.setCells g n (l.map u8v)) := by
  obtain ⟨i, hi, _, hi1, _⟩ := info_parts info5
  have hc : ∀ j, j < (l.map u8v).length → (w.cell? ⟨g, 0 + n * i.size + j, none⟩).isSome = true := fun j hj => by
    rw [hi1, Nat.mul_one, Nat.zero_add, h.cell _ (by simp at hj; omega)]
    rfl
  have := run_append_room_src (P := Tryz.prog) w 56 tx ty 5 i Tryz.underlying56 hi g 0 n L.length x m (l.map u8v) (by rw [hi1]; exact hs) hn hc (fun j _ => h.held.frozen _)
  rw [hi1, Nat.mul_one, Nat.zero_add] at this
  exact this
theorem wpList_append_buf {ops : Array Oper} {rest : List Oper} {o : Oper} {a : Act} {Q : Exit → Act → World → Prop} (hgd : o.guard = none) (s x : Operand) (tx : TypeId)
    (ho : o.op = .call { callee := .builtin .append, args := #[s, x], argTypes := #[56, tx] }) (h : Buf w g L) (xv : Value) (m c : Nat) (l : List Nat) (hc : L.length = c) (hs : a.eval s = .slice (some ⟨g, 0, none⟩) n c) (hx : a.eval x = xv) (hsrc : Src Tryz.prog 1 tx xv m (l.map u8v) w) (hl : l.length = m) (h8 : ∀ y ∈ l, y < 256) (hn : n + m ≤ c)
    (hk : ∀ w', Buf w' g (patch L n l) → Only [g] w w' → wpList Tryz.prog ops Q rest (a.put o.dst (.slice (some ⟨g, 0, none⟩) (n + m) c)) w') : wpList Tryz.prog ops Q (o :: rest) a w := by
  subst hc
  have hr := run_append_buf (n := n) h tx o.type xv m l hsrc hl hn
  refine wpList_plain hgd fun _ hK => ?_
  unfold Oper.wp execOp
  simp only [ho, resolve, invoke, builtin, Sem.run_bind, Sem.run_pure, Result.andThen_ok, List.map_toArray, List.map_cons, List.map_nil, hs, hx, hr]
  exact hK _ _ (hk _ (h.patched l n (by rw [hl]; exact hn) h8) (setCells_only w g n _))
end
theorem src_bytes (w : World) (q c x : Nat) (hc : w.cell? ⟨q, 0, none⟩ = some (.int .u8 (x : Int))) : Src Tryz.prog 1 56 (.slice (some ⟨q, 0, none⟩) 1 c) 1 ([x].map u8v) w :=
  Src.ofSlice w Tryz.underlying56 ⟨q, 0, none⟩ 1 c [u8v x] rfl (fun j u hu => by
    obtain rfl : j = 0 := by
      rcases j with _ | j
      · rfl
      · simp at hu
    have e : u8v x = u := by simpa using hu
    rw [← e]
    exact hc) (fun u hu => by
      have : u = u8v x := by simpa using hu
      rw [this]; rfl)
theorem src_string (w : World) (s : ByteArray) : Src Tryz.prog 1 9 (.string s) s.size ((nums s).map u8v) w := by
  have h := Src.ofString (P := Tryz.prog) w Tryz.underlying9 s
  have e : byteCells s = (nums s).map u8v := by
    simp only [byteCells, nums, List.map_map]
    rfl
  rw [← e]
  exact h

set_option maxRecDepth 100000 in
set_option maxHeartbeats 400000 in
/-- appendNumber, where there is room. -/
theorem appendNumber_fit (w : World) (g n c : Nat) (L : List Nat) (x k : Nat) (h : Buf w g L) (hc : L.length = c) (hx : x < 18446744073709551616) (hk : k ≤ 8) (hn : n + k ≤ c) (hc2 : c ≤ 4000000000) :
    Calls Tryz.prog 93 #[.slice (some ⟨g, 0, none⟩) n c, .int .u64 (x : Int), .int .i64 (k : Int)] w fun e w' => e = .returned (.slice (some ⟨g, 0, none⟩) (n + k) c) ∧ Buf w' g (patch L n (num k x)) ∧ Only [g] w w' := by
  have H := Lib.hid h
  have HX := Lib.hid hx
  have HC := Lib.hid hc
  clear h hx hc
  go_enter Tryz.func93, Tryz.ntmps93
  go_wp2
  go_loopw [0, 1, 8] (fun b y i wr => ∃ j : Nat, j ≤ k ∧ i = .int .i64 j ∧ y = .int .u64 (x / 256 ^ j : Nat) ∧ b = .slice (some ⟨g, 0, none⟩) (n + j) c ∧ Buf wr g (patch L n (num j x)) ∧ Only [g] w wr) (fun _ _ i _ => k - (intOf i).toNat)
  case atStart => exact ⟨0, by omega, rfl, by simp, rfl, by simpa [num, patch] using H.out, Only.refl _ _⟩
  case round =>
    obtain ⟨j, hj, rfl, rfl, rfl, hr, ho⟩ := hrel
    have R := Lib.hid hr
    have O := Lib.hid ho
    clear hr ho
    by_cases hlt : j < k
    · have N := Lib.hid (num_snoc j x)
      have hd : x / 256 ^ (j + 1) = x / 256 ^ j / 256 := by rw [Nat.div_div_eq_div_mul, Nat.pow_succ]
      have HD := Lib.hid hd
      have LP : Hid ((patch L n (num j x)).length = c) := by show _ = _; rw [patch_length (by rw [num_length, HC.out]; omega)]; exact HC.out
      clear hd
      generalize hyy : x / 256 ^ j = y at *
      clear hyy
      have hm : IntKind.u8.wrap (y : Int) = ((y % 256 : Nat) : Int) := by rw [IntKind.wrap_u8']; omega
      have hb : y % 256 < 256 := by omega
      generalize hzz : y % 256 = z at *
      clear hzz
      have HZ8 : Hid (∀ y ∈ [z], y < 256) := fun y hy => by
        have : y = z := by simpa using hy
        omega
      have Q2 := (Only.refl [g] wr).alloc (.cells #[.int .u8 (z : Int)] 5)
      go_wp2_with (refine wpList_append_buf rfl (o := ⟨some 14, _, _, _, _, _⟩) (.tmp 10) (.tmp 13) 56 rfl (R.out.alloc _) _ 1 c [z] LP.out rfl rfl (src_bytes _ wr.heap.size 1 z (by rw [World.cell?_alloc_new]; rfl)) rfl HZ8.out (by omega) ?_; intro w' q1 q2)
      go_roundw
      case rel =>
        refine ⟨j + 1, by omega, by go_num, by rw [HD.out]; rfl, by rw [Nat.add_assoc], ?_, (O.out.trans Q2 (fun _ h => .inl h)).trans q2 (fun _ h => .inl h)⟩
        rw [N.out]
        have e := patch_snoc (L := L) (a := num j x) (b := [z]) (n := n) (by rw [num_length, HC.out]; simp; omega)
        rw [num_length] at e
        rw [← e]
        exact q1
      case measure => simp [intOf]; omega
    · obtain rfl : j = k := by omega
      go_wp2
      go_ret
      exact ⟨rfl, R.out, O.out⟩

namespace Wal
/-- A batch's records, each behind its frame. -/
def body (b : List (List Nat)) : List Nat := b.flatMap fun r => num 4 (frame r) ++ r
theorem body_snoc (b : List (List Nat)) (r : List Nat) : body (b ++ [r]) = body b ++ (num 4 (frame r) ++ r) := by simp [body]
theorem body_length (b : List (List Nat)) : (body b).length = bodyLen b := by
  induction b with
  | nil => rfl
  | cons r q ih =>
    simp only [body, bodyLen, List.flatMap_cons, List.map_cons, List.sum_cons, List.length_append, num_length] at ih ⊢
    omega
theorem body_bytes {b : List (List Nat)} (h : ∀ r ∈ b, ∀ x ∈ r, x < 256) : ∀ x ∈ body b, x < 256 := by
  intro x hx
  obtain ⟨r, hr, hx⟩ := List.mem_flatMap.1 hx
  rcases List.mem_append.1 hx with hx | hx
  · exact num_bytes _ _ x hx
  · exact h r hr x hx
/-- The bytes of a batch before its top is laid and its later sectors are turned. -/
def raw (b : List (List Nat)) : List Nat := patch (List.replicate (512 * need b) 0) 16 (body b)
/-- Later sector i is turned. -/
def turnS (mask : Nat) (L : List Nat) (i : Nat) : List Nat := patch L (512 + 512 * i) (num 2 (unnum ((L.drop (512 + 512 * i)).take 2) ^^^ mask))
def turnAll (mask : Nat) (L : List Nat) (l : List Nat) : List Nat := l.foldl (turnS mask) L
/-- A batch as it lies on its sectors, one behind the other. -/
def packed (number : Nat) (b : List (List Nat)) : List Nat :=
  patch (turnAll (maskOf (raw b) 512 (need b - 1)) (raw b) (List.range (need b - 1))) 0 (top b.length (maskOf (raw b) 512 (need b - 1)) number)
theorem need_fits (b : List (List Nat)) : 16 + bodyLen b ≤ 512 * need b ∧ 512 * need b < 16 + bodyLen b + 512 ∧ 1 ≤ need b := by unfold need; omega
theorem raw_length (b : List (List Nat)) : (raw b).length = 512 * need b := by
  unfold raw
  rw [patch_length (by rw [body_length, List.length_replicate]; exact (need_fits b).1), List.length_replicate]
theorem turnS_length {mask : Nat} {L : List Nat} {i : Nat} (h : 512 + 512 * i + 2 ≤ L.length) : (turnS mask L i).length = L.length := patch_length (by rw [num_length]; exact h)
theorem turnAll_length {mask k : Nat} : ∀ (l : List Nat) (L : List Nat), (∀ i ∈ l, i < k) → 512 + 512 * k ≤ L.length → (turnAll mask L l).length = L.length
  | [], _, _, _ => rfl
  | i :: r, L, hl, hL => by
    have h1 := hl i (by simp)
    have h2 : (turnS mask L i).length = L.length := turnS_length (by omega)
    show (turnAll mask (turnS mask L i) r).length = _
    rw [turnAll_length r (turnS mask L i) (fun j hj => hl j (by simp [hj])) (by omega), h2]
theorem turnAll_snoc (mask : Nat) (L l : List Nat) (i : Nat) : turnAll mask L (l ++ [i]) = turnS mask (turnAll mask L l) i := by simp [turnAll]
end Wal
theorem map_ix (k : Nat) : (List.range k).map (ix k) = List.range k := by
  conv => rhs; rw [← List.map_id (List.range k)]
  apply List.map_congr_left
  intro x hx
  exact ix_of (List.mem_range.1 hx)
end Go.Proofs.YtkajneeihhobhaaGreat

namespace Go.Proofs.YtkajneeihhobhaaGreat
open Go.RowKit Go.Shelf Wal

attribute [local go_sem] Oper.semAt_some

/-- make([]byte, 16, n). -/
theorem make_room (n : Nat) (h1 : 16 ≤ n) (h2 : n ≤ 4000000000) (u : World) : (Instr.makeSlice 56 (.int .i64 16) (.int .i64 (n : Int))).run Tryz.prog u = .ok (.slice (some ⟨u.heap.size, 0, none⟩) 16 n) (u.alloc (.cells (madeCells #[.int .u8 0] n) 5)) := by
  obtain ⟨i0, hi, hz0, hz1, hz2⟩ := info_parts info5
  have h := run_make (P := Tryz.prog) u 56 5 i0 (.int .u8 0) Tryz.underlying56 hi hz0 .i64 .i64 16 (n : Int) (by omega) (by omega) (by rw [hz2]; omega) (by omega)
  have e : (n : Int).toNat = n := by omega
  rw [e] at h
  simpa [hz1, Value.cells] using h
theorem zeros_buf (u : World) (n : Nat) (b : Nat) (hb : b = u.heap.size) : Buf (u.alloc (.cells (madeCells #[.int .u8 0] n) 5)) b (List.replicate n 0) := by
  subst hb
  refine ⟨?_, fun x hx => by rw [(List.mem_replicate.1 hx).2]; omega⟩
  have e : madeCells #[.int .u8 0] n = ((List.replicate n 0).map u8v).toArray := by
    apply Array.toList_inj.1
    rw [toList_madeCells_one]
    simp [u8v]
  rw [e]
  exact heap_alloc_new u _

theorem LKept.newblk {w w1 w2 : World} {b d g : Nat} {s : LS} {G F : List Nat} {m : Dsk.DM} (h : LKept w b G s d F m w1) (h0 : LD w b G s d F m) (k : Only [g] w1 w2) (hg : w.heap.size ≤ g) : LKept w b G s d F m w2 := by
  have hf := h0.far_new hg
  refine ⟨h.1.only k (fun x hx e => ?_) (fun x hx e => ?_), h.2.trans k (fun x hx => .inr (by
    obtain rfl : x = g := by simpa using hx
    exact hg))⟩
  · obtain rfl : x = g := by simpa using e
    exact hf (List.mem_append.2 (.inl hx))
  · obtain rfl : x = g := by simpa using e
    exact hf (List.mem_append.2 (.inr hx))

/-- What pack answers: the batch's bytes in a new block; the log and its disk are as they were. -/
def PackedAt (w : World) (b : Nat) (G : List Nat) (s : LS) (d : Nat) (F : List Nat) (m : Dsk.DM) (n : Nat) (L : List Nat) (e : Ending) (w' : World) : Prop :=
  ∃ g, e = .returned (.slice (some ⟨g, 0, none⟩) n n) ∧ Buf w' g L ∧ w.heap.size ≤ g ∧ LKept w b G s d F m w'

set_option maxRecDepth 100000 in
set_option maxHeartbeats 3200000 in
theorem pack_any (w : World) (b d : Nat) (s : LS) (G F : List Nat) (m : Dsk.DM) (number : Nat) (A : Option Addr) (n c : Nat) (l : List ByteArray) (h : LD w b G s d F m) (hl : Strs w A n l) (hn : n ≤ 1024) (hr : ∀ r ∈ l, r.size ≤ 600) (hnum : number ≤ 4611686018427387904) (hA : 0 < n → ∀ x, A = some x → x.block ≠ b) (hneed : need (txts l) ≤ 4096) :
    Calls Tryz.prog 86 #[.pointer (some ⟨b, 0, none⟩), .int .i64 (number : Int), .slice A n c] w (PackedAt w b G s d F m (512 * need (txts l)) (packed number (txts l))) := by
  have hbl : bodyLen (txts l) ≤ 4611686018427387904 := by have := (need_fits (txts l)).1; omega
  have ND := Lib.hid (need_any w A n c l (by omega) hl hbl)
  have NF := Lib.hid (need_fits (txts l))
  have H := Lib.hid h
  have HL := Lib.hid hl
  have HR := Lib.hid hr
  have HA := Lib.hid hA
  have NL : Hid ((txts l).length = n) := by show _ = _; rw [txts_length, hl.1]
  have NM := Lib.hid hnum
  obtain ⟨K, hK⟩ : ∃ K, K = need (txts l) := ⟨_, rfl⟩
  have EK := Lib.hid hK
  rw [← hK] at ND NF hneed ⊢
  clear h hl hr hA hbl hK hnum
  refine (callsIn_wide (n := 6)).1 ?_
  refine callsIn_of_wp_marks Tryz.func86 rfl trivial ?_ rfl
  refine wpIn_wide.2 ?_
  simp only [Tryz.ntmps86, List.size_toArray, List.length_cons, List.length_nil, Nat.reduceAdd, Nat.reduceSub, Array.replicate_succ, Array.replicate_zero, List.push_toArray, List.append_toArray, List.nil_append, List.cons_append]
  go_wp2_with fail
  refine ND.out.mono ?_
  rintro e w' ⟨rfl, rfl⟩
  have hK1 : (1 : Int) ≤ (K : Int) := by have := NF.out.2.2; omega
  have hK2 : (K : Int) ≤ 4096 := by omega
  obtain ⟨N, hN⟩ : ∃ N, N = 512 * K := ⟨_, rfl⟩
  have em : (K : Int) * 512 = (N : Int) := by omega
  have EN := Lib.hid hN
  rw [← hN] at NF ⊢
  have hmk := make_room N (by have := NF.out.1; omega) (by omega)
  have Z0 := Lib.hid (zeros_buf w N w.heap.size rfl)
  have B0 := Lib.hid ((Below.refl w.heap.size w).alloc (Nat.le_refl _) (.cells (madeCells #[.int .u8 0] N) 5))
  clear hN ND
  go_wp2_with fail
  clear hmk
  obtain ⟨g, hg⟩ : ∃ g, g = w.heap.size := ⟨_, rfl⟩
  have EG := Lib.hid hg
  rw [← hg] at Z0 ⊢
  clear hg
  go_loopw [8, 21] (fun p i wr => ∃ k : Nat, k ≤ n ∧ i = .int .i64 k ∧ p = .slice (some ⟨g, 0, none⟩) (16 + bodyLen ((txts l).take k)) N ∧ Buf wr g (patch (List.replicate N 0) 16 (body ((txts l).take k))) ∧ LKept w b G s d F m wr) (fun _ i _ => n - (intOf i).toNat)
  case atStart => exact ⟨0, by omega, rfl, rfl, by rw [show patch (List.replicate N 0) 16 (body (List.take 0 (txts l))) = List.replicate N 0 by simp [body, patch]; have := NF.out.1; omega]; exact Z0.out, (LKept.refl H.out).under B0.out⟩
  case round =>
    obtain ⟨k, hk, rfl, rfl, hu, hkp⟩ := hrel
    have U := Lib.hid hu
    have KP := Lib.hid hkp
    clear hu hkp
    by_cases hlt : k < n
    · have SB : Hid (Strs wr A n l) := Strs.only KP.out.2 HL.out (fun h0 x hx e => HA.out h0 x hx (by simpa using e))
      obtain ⟨ba, oa, r, rfl, _, hlk, hsz, hc, _, ht⟩ := SB.out.at_ hlt
      have HT := Lib.hid ht
      have h600 := HR.out r (List.mem_of_getElem? hlk)
      have HN := Lib.hid (nums_length r)
      have FR := Lib.hid (frame_any wr b d s G F m r KP.out.1 h600)
      have FL := Lib.hid (frame_lt (r := nums r) (by rw [nums_length]; exact h600) (nums_lt r))
      have b1 := bodyLen_take (txts l) (k + 1)
      have b2 : bodyLen ((txts l).take (k + 1)) = bodyLen ((txts l).take k) + (4 + r.size) := by rw [ht, bodyLen_snoc, nums_length]
      have B2 := Lib.hid b2
      have BN := Lib.hid (body_length ((txts l).take k))
      have hfit : 16 + bodyLen ((txts l).take k) + (4 + r.size) ≤ N := by have := NF.out.1; omega
      clear ht hlk b1 b2 SB
      generalize (txts l).take k = pre at *
      have GB : Hid (g ≠ b) := by have h1 := EG.out; have h2 := H.out.blt; show g ≠ b; omega
      have wq : IntKind.u64.wrap ((frame (nums r) : Nat) : Int) = ((frame (nums r) : Nat) : Int) := by have := FL.out; rw [IntKind.wrap_u64]; omega
      have PL : Hid ((patch (List.replicate N 0) 16 (body pre)).length = N) := by show _ = _; rw [patch_length (by rw [BN.out, List.length_replicate]; omega), List.length_replicate]
      have PS1 : Hid (patch (patch (List.replicate N 0) 16 (body pre)) (16 + bodyLen pre) (num 4 (frame (nums r))) = patch (List.replicate N 0) 16 (body pre ++ num 4 (frame (nums r)))) := by
        have := patch_snoc (L := List.replicate N 0) (a := body pre) (b := num 4 (frame (nums r))) (n := 16) (by rw [BN.out, num_length, List.length_replicate]; omega)
        rw [BN.out] at this
        exact this
      have PS2 : Hid (patch (patch (List.replicate N 0) 16 (body pre ++ num 4 (frame (nums r)))) (16 + bodyLen pre + 4) (nums r) = patch (List.replicate N 0) 16 (body (pre ++ [nums r]))) := by
        have := patch_snoc (L := List.replicate N 0) (a := body pre ++ num 4 (frame (nums r))) (b := nums r) (n := 16) (by rw [List.length_append, BN.out, num_length, HN.out, List.length_replicate]; omega)
        rw [List.length_append, BN.out, num_length] at this
        rw [body_snoc, ← List.append_assoc, ← this, ← Nat.add_assoc]
        rfl
      go_wp2_with fail
      refine FR.out.mono ?_
      rintro e w1 ⟨rfl, hk1⟩
      have K1 := Lib.hid (KP.out.trans hk1)
      have U1 : Hid (Buf w1 g (patch (List.replicate N 0) 16 (body pre))) := U.out.only hk1.2 (by simpa using GB.out)
      clear hk1 FR U
      go_wp2_with fail
      refine (appendNumber_fit w1 g _ N _ (frame (nums r)) 4 U1.out PL.out (by have := FL.out; omega) (by omega) (by omega) (by omega)).mono ?_
      rintro e w2 ⟨rfl, hu2, ho2⟩
      rw [PS1.out] at hu2
      have U2 := Lib.hid hu2
      have K2 := Lib.hid (K1.out.newblk H.out ho2 (by have := EG.out; omega))
      have PL2 : Hid ((patch (List.replicate N 0) 16 (body pre ++ num 4 (frame (nums r)))).length = N) := by show _ = _; rw [patch_length (by rw [List.length_append, BN.out, num_length, List.length_replicate]; omega), List.length_replicate]
      have hfit2 : 16 + bodyLen pre + 4 + r.size ≤ N := by omega
      clear hu2 ho2 U1 K1
      go_wp2_with (refine wpList_append_buf rfl (o := ⟨some 33, _, _, _, _, _⟩) (.tmp 31) (.tmp 32) 9 rfl U2.out (.string r) r.size N (nums r) PL2.out rfl rfl (src_string _ r) HN.out (nums_lt r) hfit2 ?_; intro w3 q1 q2)
      have U3 : Hid (Buf w3 g (patch (List.replicate N 0) 16 (body (pre ++ [nums r])))) := by rw [← PS2.out]; exact q1
      have K3 := Lib.hid (K2.out.newblk H.out q2 (by have := EG.out; omega))
      clear q1 q2
      go_roundw
      case rel => exact ⟨k + 1, by omega, by go_num, by rw [B2.out]; congr 1; omega, by rw [HT.out]; exact U3.out, K3.out⟩
      case measure => simp [intOf]; omega
    · obtain rfl : k = n := by omega
      have et : (txts l).take k = txts l := List.take_of_length_le (by rw [NL.out]; exact Nat.le_refl _)
      rw [et] at U ⊢
      have e16 : 16 + bodyLen (txts l) ≤ N := NF.out.1
      have RW : Hid (patch (List.replicate N 0) 16 (body (txts l)) = raw (txts l)) := by show _ = _; unfold raw; rw [← EK.out, ← EN.out]
      have RL : Hid ((raw (txts l)).length = N) := by show _ = _; rw [raw_length, ← EK.out]; exact EN.out.symm
      rw [RW.out] at U
      go_upto_region 10 with fail
      go_cut [11] from 38 to 39 (fun v wc => ∃ A', v = .slice A' (512 * (K - 1)) (512 * (K - 1)) ∧ Sects A' g 512 (K - 1) ∧ wc = wr)
      case first =>
        have h5 : 512 * (K - 1) = N - 512 := by have := EN.out; omega
        have H5 := Lib.hid h5
        clear h5
        have h512 : 512 ≤ N := by have := EN.out; have := NF.out.2.2; omega
        have hmax : N ≤ 4000000 := by have := EN.out; omega
        by_cases hone : N = 512
        · have h9 : Sects (some ⟨g, 0, none⟩) g 512 (K - 1) := fun h => by have := EN.out; omega
          have H9 := Lib.hid h9
          clear h9 h512 hmax
          go_wp2_with fail
          go_meet
          case rel => exact ⟨some ⟨g, 0, none⟩, by rw [H5.out, hone], H9.out, rfl⟩
        · have h9 : Sects (some ⟨g, 512, none⟩) g 512 (K - 1) := fun _ => rfl
          have H9 := Lib.hid h9
          clear h9
          go_wp2_with fail
          go_meet
          case rel => exact ⟨some ⟨g, 512, none⟩, by rw [H5.out], H9.out, rfl⟩
      case rest =>
        obtain ⟨A', rfl, hSA, rfl⟩ := hcut
        have GB : Hid (g ≠ b) := by have h1 := EG.out; have h2 := H.out.blt; show g ≠ b; omega
        have CM := Lib.hid (chooseMask_any wc g 512 (K - 1) (512 * (K - 1)) A' (raw (txts l)) U.out (by omega) hSA (fun _ => rfl) (by rw [RL.out]; have := EN.out; omega))
        have ML := Lib.hid (maskOf_le (raw (txts l)) 512 (K - 1))
        obtain ⟨M, hM⟩ : ∃ M, M = maskOf (raw (txts l)) 512 (K - 1) := ⟨_, rfl⟩
        have EM := Lib.hid hM
        rw [← hM] at CM ML
        clear RW hM hK1 hK2 em
        go_wp2_with fail
        refine CM.out.mono ?_
        rintro e w1 ⟨rfl, hb1⟩
        have U1 := Lib.hid (U.out.below hb1 U.out.lt)
        have K1 := Lib.hid (KP.out.under hb1)
        clear hb1 CM
        go_wp2_with fail
        obtain ⟨qm, hqm⟩ : ∃ qm, qm = w1.heap.size := ⟨_, rfl⟩
        have EQ := Lib.hid hqm
        obtain ⟨w2, hw2⟩ : ∃ w2, w2 = w1.alloc (.cells #[.int .u64 (M : Int)] 157) := ⟨_, rfl⟩
        have H2 : Hid (Held w2 qm 157 #[.int .u64 (M : Int)]) := by rw [hw2, hqm]; exact Held.new _ _ _ rfl
        have U2 : Hid (Buf w2 g (raw (txts l))) := by rw [hw2]; exact U1.out.alloc _
        have K2 : Hid (LKept w b G s d F m w2) := by rw [hw2]; exact K1.out.under ((Below.refl _ _).alloc (Nat.le_refl _) _)
        rw [← hw2, ← hqm]
        clear hw2 hqm U1 K1
        refine ((callsIn_wide (n := 1)).1 (chunk_in Fence.wide 1 trivial rfl A' (512 * (K - 1)) (512 * (K - 1)) w2)).mono ?_
        rintro e w3 ⟨rfl, hw3⟩
        have HM : Hid (Held w3 qm 157 #[.int .u64 (M : Int)]) := by rw [hw3]; exact (H2.out.alloc _).alloc _
        have H5 : Hid (Held w3 w2.heap.size 56 #[.slice A' (512 * (K - 1)) (512 * (K - 1))]) := by rw [hw3]; exact (Held.new _ _ _ rfl).alloc _
        have H6 : Hid (Held w3 (w2.heap.size + 1) 3 #[.int .i64 512]) := by rw [hw3]; exact Held.new _ _ _ (by simp)
        have U3 : Hid (Buf w3 g (raw (txts l))) := by rw [hw3]; exact (U2.out.alloc _).alloc _
        have K3 : Hid (LKept w b G s d F m w3) := by rw [hw3]; exact K2.out.under (((Below.refl _ _).alloc (Nat.le_refl _) _).alloc (by simp) _)
        have GQ : Hid (g ≠ qm) := fun e => by
          have h1 := U2.out.held
          rw [e] at h1
          exact Held.ne_ h1 H2.out (by decide) rfl
        generalize w2.heap.size = b1 at *
        have Z1 : Hid (b1 ≠ g ∧ b1 + 1 ≠ g) := ⟨(Held.ne_ U3.out.held H5.out (by decide)).symm, (Held.ne_ U3.out.held H6.out (by decide)).symm⟩
        clear hw3 H2 U2 K2
        go_wp2_with fail
        refine range_chunk 13 44 b1 (b1 + 1) g 512 (K - 1) (512 * (K - 1)) A' rfl (by omega) hSA (fun _ => rfl) H5.out.lt H6.out.lt (cell_row H5.out rfl) (cell_row H6.out rfl)
          (fun pre W => (Buf W g (turnAll M (raw (txts l)) (pre.map (ix (K - 1)))) ∧ Held W qm 157 #[.int .u64 (M : Int)]) ∧ Only [g] w3 W)
          (fun _ _ _ => False)
          (OwnFrom.and (Own.from (fun s A B row hs hg hr => ⟨hs.1.kept hg hr, hs.2.kept hg hr⟩) _) ownFrom_only)
          (fun _ _ _ _ _ hs _ _ => hs) ⟨⟨U3.out, HM.out⟩, Only.refl _ _⟩ ?assign ?body ?done ?stop
        case assign =>
          intro l x W K hK
          simp only [List.setIfInBounds_toArray, List.set_cons_succ, List.set_cons_zero] at hK ⊢
          gi_wp2
          exact hK
        case body =>
          rintro l1 pre x W ⟨⟨hu, hq⟩, ho⟩ hpk
          simp only [List.setIfInBounds_toArray, List.set_cons_succ, List.set_cons_zero, sectV]
          have hi := ix_lt x (show 0 < K - 1 by omega)
          have TL : (turnAll M (raw (txts l)) (pre.map (ix (K - 1)))).length = N := by
            rw [turnAll_length (k := K - 1) _ _ (fun i hi => by
              obtain ⟨y, _, rfl⟩ := List.mem_map.1 hi
              exact ix_lt y (by omega)) (by rw [RL.out]; have := EN.out; omega), RL.out]
          have TB := Lib.hid (turnBeginning_any W g (512 + 512 * ix (K - 1) x) 512 512 _ M hu (by omega) (by omega) (by rw [TL]; have := EN.out; omega) (by have := ML.out; omega))
          have km : W.cell? ⟨qm, 0, none⟩ = some (.int .u64 (M : Int)) := hq.cell 0
          have HU := Lib.hid hu
          have HQ := Lib.hid hq
          have HO := Lib.hid ho
          clear hu hq ho TL
          gi_wp2
          refine ⟨trivial, ?_⟩
          refine (CallsIn.inRound l1 (callsIn_wide.2 TB.out)).mono ?_
          rintro e W' ⟨rfl, hu', ho'⟩
          gi_wp2
          refine ⟨KeepsFrom.of_only ho' (fun y hy => .inr ?_), KpBox.only ho' (Nat.lt_of_lt_of_le H5.out.lt HO.out.size) (Nat.lt_of_lt_of_le H6.out.lt HO.out.size) (by simpa using Z1.out.1) (by simpa using Z1.out.2), ⟨?_, HQ.out.only ho' (by simpa using GQ.out.symm)⟩, HO.out.trans ho' (fun _ h => .inl h)⟩
          · obtain rfl : y = g := by simpa using hy
            exact ⟨_, _, _, HU.out.held⟩
          · rw [List.map_append]
            show Buf W' g (turnAll M (raw (txts l)) (pre.map (ix (K - 1)) ++ [ix (K - 1) x]))
            rw [turnAll_snoc]
            exact hu'
        case done =>
          rintro D W hD ⟨⟨hu, hq⟩, ho⟩ hK
          have km : W.cell? ⟨qm, 0, none⟩ = some (.int .u64 (M : Int)) := hq.cell 0
          clear hq
          rw [map_ix] at hu
          have U4 := Lib.hid hu
          have L4 := Lib.hid (K3.out.newblk H.out ho (by have := EG.out; omega))
          have O4 := Lib.hid ho
          have HK := Lib.hid hK
          have HD := Lib.hid hD
          have TT := Lib.hid (top_any W b d s G F m k M number L4.out.1 hn (by have := ML.out; omega) NM.out)
          clear hu ho hK hD
          go_wp2_with fail
          refine TT.out.mono ?_
          rintro e W2 ⟨v2, rfl, hn2, hk2⟩
          obtain ⟨A2, c2, rfl, tb2⟩ := hn2.1.form
          have TB2 := Lib.hid tb2
          have K5 := Lib.hid (L4.out.trans hk2)
          have U5 : Hid (Buf W2 g (turnAll M (raw (txts l)) (List.range (K - 1)))) := U4.out.only hk2.2 (by simpa using GB.out)
          have DN : Hid (D ≠ b ∧ D ≠ g) := by
            have h1 := K3.out.1.blt
            have h2 := U3.out.lt
            have h3 := HD.out
            exact ⟨by omega, by omega⟩
          have HK2 : Hid (W2.heap[D]? = some (.deferred (some []))) := hk2.2.heap HK.out (by simpa using DN.out.1)
          have TL : Hid ((turnAll M (raw (txts l)) (List.range (K - 1))).length = N) := by
            show _ = _
            rw [turnAll_length (k := K - 1) _ _ (fun i hi => List.mem_range.1 hi) (by rw [RL.out]; have := EN.out; omega), RL.out]
          have h16 : 16 ≤ N := by omega
          have TZ : Hid (0 + N ≤ (turnAll M (raw (txts l)) (List.range (K - 1))).length) := by show _ ≤ _; rw [TL.out]; omega
          clear hn2 hk2 tb2 TT km
          rw [top_length] at TB2 ⊢
          go_wp2_with (refine wpList_copy_buf rfl (o := ⟨some 55, _, _, _, _, _⟩) (.tmp 48) (.tmp 54) rfl U5.out _ 16 _ _ rfl rfl TB2.out h16 TZ.out ?_; intro W3 q1 q2)
          have HK3 : W3.heap[D]? = some (.deferred (some [])) := q2.heap HK2.out (by simpa using DN.out.2)
          refine ⟨by simp, .inl ⟨_, _, rfl, run_takeDeferred HK3, ?_⟩⟩
          have K6 := K5.out.newblk H.out q2 (by have := EG.out; omega)
          have OD : Only [D] W3 (W3.putObj D (.deferred none)) := (Only.refl [D] W3).grown (grownBy_putObj' W3 D _) (fun k hk => .inl (by injection hk with hk; simp [hk]))
          have K7 := K6.newblk H.out OD (by have h1 := HD.out; have h2 := K3.out.2.size; omega)
          refine ⟨_, results_tmp rfl _ _ _, g, by rw [← EN.out]; rfl, ?_, by have := EG.out; omega, K7⟩
          have e : packed number (txts l) = patch (turnAll M (raw (txts l)) (List.range (K - 1))) 0 (top k M number) := by
            unfold packed
            rw [← EK.out, ← EM.out, NL.out]
          rw [e]
          exact q1.only OD (by simpa using DN.out.2.symm)
        case stop =>
          rintro D c j W hD hj h _
          exact h.elim
end Go.Proofs.YtkajneeihhobhaaGreat

namespace Go.Proofs.YtkajneeihhobhaaGreat
open Go.RowKit Go.Shelf Wal

theorem cells_of_cell? {w : World} {a : Addr} {v : Value} (h : w.cell? a = some v) : ∃ cs t mk, w.heap[a.block]? = some (.cells cs t mk) := by
  unfold World.cell? at h
  split at h
  · rename_i cs t mk hh
    exact ⟨_, _, _, hh⟩
  · simp at h
theorem own_cells {w : World} {base : Nat} {e : TypeId} {size n : Nat} {v : Value} {xs : List Value} (h : w.ownsRow base e size v n xs) : ∀ g, v.ownBlock = some g → ∃ cs t mk, w.heap[g]? = some (.cells cs t mk) := by
  intro g hg
  rcases h.2 with ⟨rfl, _⟩ | ⟨g', cap, cur, rfl, _, hh, _⟩
  · cases hg
  · have e1 : g' = g := by simpa [Value.ownBlock] using hg
    subst e1
    exact ⟨_, _, _, hh⟩
section
variable {w w' : World} {b d : Nat} {s : LS} {G F : List Nat} {m : Dsk.DM}
theorem DiskAt.blocks (h : DiskAt w d F m) : ∀ x ∈ F, ∃ cs t mk, w.heap[x]? = some (.cells cs t mk) := by
  obtain ⟨gd, cd, gs, cs, vw, h, rfl⟩ := h
  intro x hx
  rcases mem_foot.1 hx with rfl | rfl | rfl | hx
  · exact ⟨_, _, _, h.blk⟩
  · exact own_cells h.dur _ rfl
  · exact own_cells h.seen _ rfl
  · exact own_cells h.wait _ hx
theorem LD.blocks (h : LD w b G s d F m) : ∀ x ∈ G ++ F, ∃ cs t mk, w.heap[x]? = some (.cells cs t mk) := by
  intro x hx
  rcases List.mem_append.1 hx with hx | hx
  · obtain ⟨vn, hl, rfl⟩ := h.log
    rcases mem_logFoot.1 hx with rfl | hx
    · exact cells_of_cell? hl.c0
    · obtain ⟨cur, mk, hh⟩ := hl.row.ty x hx
      exact ⟨_, _, _, hh⟩
  · exact h.disk.blocks x hx
/-- A turn of a block that is no cells leaves a log and its disk. -/
theorem LD.kept {row : Option Nat} (h : LD w b G s d F m) (hg : w.grownBy w' row) (hr : ∀ r, row = some r → ∃ o : Obj, w.heap[r]? = some o ∧ o.isCells = false) : LD w' b G s d F m := by
  have ho : Only row.toList w w' := (Only.refl _ w).grown hg (fun k hk => .inl (by simp [hk]))
  have hn : ∀ x ∈ G ++ F, x ∉ row.toList := fun x hx hm => by
    obtain ⟨cs, t, mk, h1⟩ := h.blocks x hx
    obtain ⟨o, h2, h3⟩ := hr x (by simpa using hm)
    rw [h1] at h2
    injection h2 with h2
    rw [← h2] at h3
    cases h3
  exact h.only ho (fun x hx => hn x (List.mem_append.2 (.inl hx))) (fun x hx => hn x (List.mem_append.2 (.inr hx)))
theorem infoI : (Tryz.prog.info? 3).map (fun i => (i.zero, i.size, i.bytes)) = some (some (.int .i64 0), 1, 8) := by kernel_rfl

/-- append(l.needs, n). -/
theorem run_append_need (w : World) (ty : TypeId) (v : Value) (l : List Nat) (h : SRow w 3 1 v l.length (needsV l)) (x : Nat) (q c : Nat) (hc : w.cell? ⟨q, 0, none⟩ = some (.int .i64 (x : Int))) (hl : l.length ≤ 4000000000) :
    ∃ v' w', (Builtin.append_ #[114, 114] ty #[v, .slice (some ⟨q, 0, none⟩) 1 c]).run Tryz.prog w = .ok v' w' ∧ SRow w' 3 1 v' (l ++ [x]).length (needsV (l ++ [x])) ∧ w.grownBy w' v.ownBlock ∧ (∀ y, v'.ownBlock = some y → v.ownBlock = some y ∨ w.heap.size ≤ y) := by
  obtain ⟨i, hi, hz, hsize, hby⟩ := info_parts infoI
  obtain ⟨v', w', h1, h2, h3, h4⟩ := run_append_srow (P := Tryz.prog) w 114 ty 3 i (.int .i64 0) 1 8 Tryz.underlying114 hi hz hsize hby rfl (by omega) v l.length (needsV l) h ⟨q, 0, none⟩ 1 c [.int .i64 (x : Int)] rfl
    (fun j u hu => by
      obtain rfl : j = 0 := by
        rcases j with _ | j
        · rfl
        · simp at hu
      have e : Value.int .i64 (x : Int) = u := by simpa using hu
      rw [← e]
      exact hc) (fun u hu => by
        have : u = .int .i64 (x : Int) := by simpa using hu
        rw [this]; rfl) (by simp only [maxLen]; omega) (by omega)
  refine ⟨v', w', h1, ?_, h3, h4⟩
  rw [List.length_append]
  have e : needsV (l ++ [x]) = needsV l ++ [.int .i64 (x : Int)] := by simp [needsV]
  rw [e]
  exact h2
theorem step_append_need {ops : Array Oper} {o : Oper} {a : Act} {K : Act → World → Prop} {Q : Exit → Act → World → Prop} {E : Prop} {w : World} (hgd : o.guard = none) (s x : Operand)
    (ho : o.op = .call { callee := .builtin .append, args := #[s, x], argTypes := #[114, 114] }) (v : Value) (l : List Nat) (hs : a.eval s = v) (hr : SRow w 3 1 v l.length (needsV l)) (q c n : Nat) (hx : a.eval x = .slice (some ⟨q, 0, none⟩) 1 c)
    (hc : w.cell? ⟨q, 0, none⟩ = some (.int .i64 (n : Int))) (hl : l.length ≤ 4000000000)
    (h : ∀ v' w', SRow w' 3 1 v' (l ++ [n]).length (needsV (l ++ [n])) → w.grownBy w' v.ownBlock → (∀ y, v'.ownBlock = some y → v.ownBlock = some y ∨ w.heap.size ≤ y) → K (a.put o.dst v') w') :
    if Region.wanted o (yielded ops a.tmps) = true then Oper.wp Tryz.prog o a w K Q else E := by
  have hw : Region.wanted o (yielded ops a.tmps) = true := by simp [Region.wanted, hgd]
  rw [if_pos hw]
  obtain ⟨v', w', h1, h2, h3, h4⟩ := run_append_need w o.type v l hr n q c hc hl
  unfold Oper.wp execOp
  simp only [ho, resolve, invoke, builtin, Sem.run_bind, Sem.run_pure, Result.andThen_ok, List.map_toArray, List.map_cons, List.map_nil, hs, hx, h1]
  exact h v' w' h2 h3 h4
/-- The needs that were appended to are stored. -/
theorem LD.pushed {w1 : World} {v v' : Value} {n : Nat} (h : LD w b G s d F m) (hv : w.cell? ⟨b, 6, none⟩ = some v) (hr : SRow w1 3 1 v' (s.needs ++ [n]).length (needsV (s.needs ++ [n]))) (hg : w.grownBy w1 v.ownBlock) (hb : ∀ y, v'.ownBlock = some y → v.ownBlock = some y ∨ w.heap.size ≤ y) :
    LTurned w b G d F (w1.setCell ⟨b, 6, none⟩ v') { s with needs := s.needs ++ [n] } m := by
  obtain ⟨vn, hl, rfl⟩ := h.log
  have ev : vn = v := by have := hl.c6; rw [hv] at this; injection this with this; exact this.symm
  subst ev
  have hapart := h.apart
  have o1 : Only vn.ownBlock.toList w w1 := (Only.refl _ w).grown hg (fun k hk => .inl (by simp [hk]))
  have nb : b ∉ vn.ownBlock.toList := fun hm => hl.far b (by simpa using hm) rfl
  have o2 : Only [b] w1 (w1.setCell ⟨b, 6, none⟩ v') := (Only.refl _ w1).setCell (.inl (by simp)) _
  have ne : ∀ i, i ≠ 6 → (⟨b, 6, none⟩ : Addr) ≠ ⟨b, i, none⟩ := fun i hi e => hi (congrArg Addr.off e).symm
  have hc : ∀ i, i ≠ 6 → (w1.setCell ⟨b, 6, none⟩ v').cell? ⟨b, i, none⟩ = w.cell? ⟨b, i, none⟩ := fun i hi => (World.cell?_setCell_other _ _ _ _ (ne i hi)).trans (o1.cell (p := ⟨b, i, none⟩) hl.lt nb)
  have hf : ∀ i, (w1.setCell ⟨b, 6, none⟩ v').frozen? ⟨b, i, none⟩ = w.frozen? ⟨b, i, none⟩ := fun i => (World.frozen?_setCell _ _ _ _).trans (o1.frozen (p := ⟨b, i, none⟩) hl.lt nb)
  have far : ∀ y, v'.ownBlock = some y → y ≠ b := fun y hy => by
    rcases hb y hy with h1 | h1
    · exact hl.far y h1
    · have := hl.lt; omega
  have all : Only (logFoot b vn) w (w1.setCell ⟨b, 6, none⟩ v') := (o1.mono (fun x hx => .inl (List.mem_cons_of_mem _ hx))).trans o2 (fun x hx => .inl (by
    obtain rfl : x = b := by simpa using hx
    exact List.mem_cons_self))
  refine ⟨logFoot b v', F, ⟨⟨v', ?_, rfl⟩, h.disk.only all (fun x hx hm => hapart x hm hx), fun x hx hf2 => ?_⟩, all.mono (fun x hx => .inl (List.mem_append.2 (.inl hx))), fun x hx => ?_, Grown.refl _ _⟩
  · exact ⟨(hc 0 (by omega)).trans hl.c0, (hc 1 (by omega)).trans hl.c1, (hc 2 (by omega)).trans hl.c2, (hc 3 (by omega)).trans hl.c3, (hc 4 (by omega)).trans hl.c4, (hc 5 (by omega)).trans hl.c5,
      World.cell?_setCell_same _ _ _ ((o1.cell (p := ⟨b, 6, none⟩) hl.lt nb).trans hl.c6), (hc 7 (by omega)).trans hl.c7, hl.tab.far (Nat.le_trans o1.size o2.size) (fun i hi => hc i (by omega)) hf, hr.only o2 (fun g hg => by simpa using far g hg), far⟩
  · rcases mem_logFoot.1 hx with rfl | hx
    · exact hapart _ (by simp [logFoot]) hf2
    · rcases hb x hx with h1 | h1
      · exact hapart x (mem_logFoot.2 (.inr h1)) hf2
      · have := h.disk.lt x hf2; omega
  · rcases mem_logFoot.1 hx with rfl | hx
    · exact .inl (by simp [logFoot])
    · rcases hb x hx with h1 | h1
      · exact .inl (mem_logFoot.2 (.inr h1))
      · exact .inr h1
end

namespace Wal
/-- Sectors written one behind the other, from a place of the ring on; it stops at the first error. -/
def writesO (p : Nat) : List (List Nat) → LS → Dsk.DM → Out
  | [], s, m => (0, s, m)
  | l :: r, s, m => if (wrO s m (sector s p) l).1 ≠ 0 then wrO s m (sector s p) l else writesO (p + 1) r (wrO s m (sector s p) l).2.1 (wrO s m (sector s p) l).2.2
theorem wrO_parts (s : LS) (m : Dsk.DM) (i : Nat) (l : List Nat) : (wrO s m i l).2.1.frm = s.frm ∧ (wrO s m i l).2.1.ring = s.ring ∧ (wrO s m i l).2.1.start = s.start ∧ (wrO s m i l).2.1.first = s.first ∧ (wrO s m i l).2.1.synced = s.synced ∧ (wrO s m i l).2.1.needs = s.needs := ⟨rfl, rfl, rfl, rfl, rfl, rfl⟩
theorem writesO_next (l : List Nat) : ∀ (r : List (List Nat)) (p : Nat) (s : LS) (m : Dsk.DM), (writesO p r s m).1 = 0 → writesO p (r ++ [l]) s m = wrO (writesO p r s m).2.1 (writesO p r s m).2.2 (sector (writesO p r s m).2.1 (p + r.length)) l
  | [], p, s, m, _ => by
    simp only [List.nil_append, writesO, List.length_nil, Nat.add_zero]
    by_cases h : (wrO s m (sector s p) l).1 ≠ 0
    · rw [if_pos h]
    · rw [if_neg h]
      have h' : (wrO s m (sector s p) l).1 = 0 := Classical.not_not.1 h
      rw [← h']
  | a :: r, p, s, m, h0 => by
    simp only [List.cons_append, writesO, List.length_cons] at h0 ⊢
    by_cases h : (wrO s m (sector s p) a).1 ≠ 0
    · rw [if_pos h] at h0; exact absurd h0 h
    · rw [if_neg h] at h0 ⊢
      rw [if_neg h]
      have := writesO_next l r (p + 1) _ _ h0
      rw [show p + 1 + r.length = p + (r.length + 1) by omega] at this
      exact this
theorem writesO_stays : ∀ (r : List (List Nat)) (p : Nat) (s : LS) (m : Dsk.DM), (writesO p r s m).2.1.frm = s.frm ∧ (writesO p r s m).2.1.ring = s.ring ∧ (writesO p r s m).2.1.start = s.start ∧ (writesO p r s m).2.1.first = s.first ∧ (writesO p r s m).2.1.synced = s.synced ∧ (writesO p r s m).2.1.needs = s.needs
  | [], _, _, _ => ⟨rfl, rfl, rfl, rfl, rfl, rfl⟩
  | l :: r, p, s, m => by
    unfold writesO
    split
    · exact ⟨rfl, rfl, rfl, rfl, rfl, rfl⟩
    · exact writesO_stays r (p + 1) _ _
theorem writesO_wait : ∀ (r : List (List Nat)) (p : Nat) (s : LS) (m : Dsk.DM), (writesO p r s m).2.2.wait.length ≤ m.wait.length + r.length
  | [], _, _, _ => Nat.le_refl _
  | l :: r, p, s, m => by
    have h1 := write_wait m (sector s p : Nat) l
    unfold writesO
    split
    · show (m.write _ l).wait.length ≤ _
      simp only [List.length_cons]
      omega
    · have := writesO_wait r (p + 1) (wrO s m (sector s p) l).2.1 (wrO s m (sector s p) l).2.2
      have e : (wrO s m (sector s p) l).2.2 = m.write (sector s p : Nat) l := rfl
      rw [e] at this ⊢
      simp only [List.length_cons]
      omega
/-- An error stays. -/
theorem writesO_err (l : List Nat) : ∀ (r : List (List Nat)) (p : Nat) (s : LS) (m : Dsk.DM), (writesO p r s m).1 ≠ 0 → writesO p (r ++ [l]) s m = writesO p r s m
  | [], _, _, _, h => absurd rfl h
  | a :: r, p, s, m, h0 => by
    simp only [List.cons_append, writesO] at h0 ⊢
    by_cases h : (wrO s m (sector s p) a).1 ≠ 0
    · rw [if_pos h, if_pos h]
    · rw [if_neg h] at h0 ⊢
      rw [if_neg h]
      exact writesO_err l r (p + 1) _ _ h0
/-- The sectors of a batch. -/
def chunk (P : List Nat) (i : Nat) : List Nat := (P.drop (512 * i)).take 512
/-- Append, as its model. -/
def appendO (s : LS) (m : Dsk.DM) (b : List (List Nat)) : Int × Out :=
  let s1 : LS := { s with dead := s.dead || m.dead }
  if (s.dead || m.dead) = true then (0, 10, s1, m) else
  if good b = false then (0, 1, s1, m) else
  if s.room < (need b : Int) then (0, 12, s1, m) else
  let r := writesO s.needs.sum ((List.range (need b)).map (chunk (packed (s.last + 1).toNat b))) s1 m
  if r.1 ≠ 0 then (0, r) else (s.last + 1, 0, { r.2.1 with needs := s.needs ++ [need b] }, r.2.2)
end Wal
end Go.Proofs.YtkajneeihhobhaaGreat

namespace Go.Proofs.YtkajneeihhobhaaGreat
open Go.RowKit Go.Shelf Wal

attribute [local go_sem] Oper.semAt_some

/-- Bounds of a log's numbers. -/
structure Wal.LS.Ok (s : LS) : Prop where
  frm : s.frm ≤ 4096
  ring : s.ring ≤ 4096
  ring0 : 0 < s.ring
  start : s.start < s.ring
  first : s.first ≤ 1152921504606846976
  first1 : 1 ≤ s.first
  needs : s.needs.sum ≤ s.ring
  count : s.needs.length ≤ 4096

/-- A log beside its disk, within a call that holds four blocks of its own. -/
structure Env (w0 : World) (G F : List Nat) (w : World) (b d : Nat) (s : LS) (m : Dsk.DM) (Q : List Nat) (G' F' : List Nat) : Prop where
  ld : LD w b G' s d F' m
  only : Only (G ++ F) w0 w
  gg : Grown w0 G G'
  gf : Grown w0 F F'
  lt : ∀ q ∈ Q, q < w.heap.size
  far : ∀ q ∈ Q, q ∉ G' ++ F'

section
variable {w0 w w' : World} {G F G' F' Q : List Nat} {b d : Nat} {s s' : LS} {m m' : Dsk.DM}
theorem Env.turned (h : Env w0 G F w b d s m Q G' F') (t : LTurned w b G' d F' w' s' m') : ∃ G2 F2, Env w0 G F w' b d s' m' Q G2 F2 ∧ ∀ q ∈ Q, ∀ T cs, Held w q T cs → Held w' q T cs := by
  obtain ⟨G2, F2, h1, h2, h3, h4⟩ := t
  refine ⟨G2, F2, ⟨h1, h.only.trans h2 (h.gg.append h.gf), h.gg.trans h.only.size h3, h.gf.trans h.only.size h4, fun q hq => Nat.lt_of_lt_of_le (h.lt q hq) h2.size, fun q hq hm => ?_⟩, fun q hq T cs hh => hh.only h2 (h.far q hq)⟩
  rcases h3.append h4 q hm with h5 | h5
  · exact h.far q hq h5
  · have := h.lt q hq; omega
theorem Env.kept (h : Env w0 G F w b d s m Q G' F') (k : LKept w b G' s d F' m w') : Env w0 G F w' b d s m Q G' F' ∧ ∀ q ∈ Q, ∀ T cs, Held w q T cs → Held w' q T cs := by
  obtain ⟨G2, F2, h1, h2, h3, h4⟩ := k.turned h.ld.mem
  have hb : ∀ q ∈ Q, q ∉ [b] := fun q hq e => h.far q hq (by
    obtain rfl : q = b := by simpa using e
    exact List.mem_append.2 (.inl h.ld.mem))
  exact ⟨⟨k.1, h.only.trans k.2 (fun x hx => (by
    obtain rfl : x = b := by simpa using hx
    rcases h.gg x h.ld.mem with h5 | h5
    · exact .inl (List.mem_append.2 (.inl h5))
    · exact .inr h5)), h.gg, h.gf, fun q hq => Nat.lt_of_lt_of_le (h.lt q hq) k.2.size, h.far⟩, fun q hq T cs hh => hh.only k.2 (hb q hq)⟩
theorem Env.under (h : Env w0 G F w b d s m Q G' F') (k : Below w.heap.size w w') : Env w0 G F w' b d s m Q G' F' :=
  ⟨h.ld.under k, h.only.under k, h.gg, h.gf, fun q hq => Nat.lt_of_lt_of_le (h.lt q hq) k.size, h.far⟩
/-- Only the call's own blocks, new since it began, turned. -/
theorem Env.own (h : Env w0 G F w b d s m Q G' F') {H : List Nat} (k : Only H w w') (hH : ∀ x ∈ H, x ∈ Q ∧ w0.heap.size ≤ x) : Env w0 G F w' b d s m Q G' F' :=
  ⟨h.ld.only k (fun x hx hm => h.far x (hH x hm).1 (List.mem_append.2 (.inl hx))) (fun x hx hm => h.far x (hH x hm).1 (List.mem_append.2 (.inr hx))), h.only.trans k (fun x hx => .inr (hH x hx).2), h.gg, h.gf,
    fun q hq => Nat.lt_of_lt_of_le (h.lt q hq) k.size, h.far⟩
theorem Env.more (h : Env w0 G F w b d s m Q G' F') {q : Nat} (h1 : q < w.heap.size) (h2 : q ∉ G' ++ F') : Env w0 G F w b d s m (q :: Q) G' F' :=
  ⟨h.ld, h.only, h.gg, h.gf, fun x hx => by
    rcases List.mem_cons.1 hx with rfl | hx
    · exact h1
    · exact h.lt x hx, fun x hx => by
    rcases List.mem_cons.1 hx with rfl | hx
    · exact h2
    · exact h.far x hx⟩
theorem Env.done (h : Env w0 G F w b d s m Q G' F') : LTurned w0 b G d F w s m := ⟨G', F', h.ld, h.only, h.gg, h.gf⟩
theorem Env.new_far (h : Env w0 G F w b d s m Q G' F') {q : Nat} (hq : w.heap.size ≤ q) : q ∉ G' ++ F' := h.ld.far_new hq
end

/-- What Append answers and leaves. -/
def AppRes (w : World) (b : Nat) (G : List Nat) (d : Nat) (F : List Nat) (o : Int × Out) (e : Ending) (w' : World) : Prop :=
  e = .returned (.tuple #[.int .i64 o.1, .int .i64 o.2.1]) ∧ LTurned w b G d F w' o.2.2.1 o.2.2.2

/-- The two results, as they are stored. -/
theorem two_cells {W : World} {q1 q2 : Nat} {T1 T2 : TypeId} {v1 v2 u1 u2 : Value} (h1 : Held W q1 T1 #[v1]) (h2 : Held W q2 T2 #[v2]) (hne : q1 ≠ q2) :
    Held ((W.setCell ⟨q1, 0, none⟩ u1).setCell ⟨q2, 0, none⟩ u2) q1 T1 #[u1] ∧ Held ((W.setCell ⟨q1, 0, none⟩ u1).setCell ⟨q2, 0, none⟩ u2) q2 T2 #[u2] :=
  ⟨(h1.set_ 0 u1).far hne u2, (h2.far (fun e => hne e.symm) u1).set_ 0 u2⟩

/-- The world grew by a row that is no cells. -/
theorem Env.kept_row {w0 W W' : World} {G F G' F' Q : List Nat} {b d : Nat} {s : LS} {m : Dsk.DM} {row : Option Nat} (h : Env w0 G F W b d s m Q G' F') (hg : W.grownBy W' row) (hr : ∀ r, row = some r → w0.heap.size ≤ r ∧ ∃ o : Obj, W.heap[r]? = some o ∧ o.isCells = false) : Env w0 G F W' b d s m Q G' F' :=
  ⟨h.ld.kept hg (fun r e => (hr r e).2), h.only.grown hg (fun k hk => .inr (hr k hk).1), h.gg, h.gf, fun q hq => Nat.lt_of_lt_of_le (h.lt q hq) ((Only.refl row.toList W).grown hg (fun k hk => .inl (by simp [hk]))).size, h.far⟩
/-- A turn of nothing but the source's draws. -/
theorem Env.drewN {w0 W : World} {G F G' F' Q : List Nat} {b d : Nat} {s : LS} {m : Dsk.DM} (h : Env w0 G F W b d s m Q G' F') (n : Nat) : Env w0 G F (W.drewN n) b d s m Q G' F' :=
  ⟨h.ld.drewN n, h.only.drewN n, h.gg, h.gf, h.lt, h.far⟩
theorem Env.blocks {w0 W : World} {G F G' F' Q : List Nat} {b d : Nat} {s : LS} {m : Dsk.DM} (h : Env w0 G F W b d s m Q G' F') : ∀ x ∈ G' ++ F', ∃ cs t mk, W.heap[x]? = some (.cells cs t mk) := h.ld.blocks

namespace Wal
theorem writesO_stop (p : Nat) (s : LS) (m : Dsk.DM) : ∀ (t r : List (List Nat)), (writesO p r s m).1 ≠ 0 → writesO p (r ++ t) s m = writesO p r s m
  | [], r, _ => by rw [List.append_nil]
  | l :: t, r, h => by
    have e1 := writesO_err l r p s m h
    have e2 := writesO_stop p s m t (r ++ [l]) (by rw [e1]; exact h)
    rw [← e1, ← e2, List.append_assoc]
    rfl
theorem bodyLen_le {b : List (List Nat)} {k : Nat} (h : ∀ r ∈ b, r.length ≤ k) : bodyLen b ≤ b.length * (4 + k) := by
  unfold bodyLen
  induction b with
  | nil => simp
  | cons r b ih =>
    have h1 := h r List.mem_cons_self
    have h2 := ih (fun x hx => h x (List.mem_cons_of_mem _ hx))
    simp only [List.map_cons, List.sum_cons, List.length_cons, Nat.succ_mul]
    omega
end Wal
/-- What a good batch keeps. -/
theorem good_small {l : List ByteArray} (h : Wal.good (txts l) = true) : 1 ≤ l.length ∧ l.length ≤ 1024 ∧ (∀ r ∈ l, r.size ≤ 600) ∧ bodyLen (txts l) ≤ 618496 ∧ need (txts l) ≤ 1209 := by
  unfold Wal.good at h
  simp only [Bool.and_eq_true, decide_eq_true_eq, List.all_eq_true] at h
  obtain ⟨⟨h1, h2⟩, h3⟩ := h
  rw [txts_length] at h2 h3
  have h4 : ∀ r ∈ l, r.size ≤ 600 := fun r hr => by
    have := h1 (nums r) (List.mem_map.2 ⟨r, hr, rfl⟩)
    rwa [nums_length] at this
  have h5 := bodyLen_le (b := txts l) (k := 600) (fun r hr => h1 r hr)
  rw [txts_length] at h5
  have h6 : bodyLen (txts l) ≤ 618496 := by omega
  exact ⟨h2, h3, h4, h6, by unfold need; omega⟩

theorem packed_length (number : Nat) (l : List ByteArray) : (packed number (txts l)).length = 512 * need (txts l) := by
  have h := need_fits (txts l)
  have h1 : (turnAll (maskOf (raw (txts l)) 512 (need (txts l) - 1)) (raw (txts l)) (List.range (need (txts l) - 1))).length = 512 * need (txts l) := by
    rw [turnAll_length (k := need (txts l) - 1) _ _ (fun i hi => List.mem_range.1 hi) (by rw [raw_length]; omega), raw_length]
  unfold packed
  rw [patch_length (by rw [top_length, h1]; omega), h1]

/-- What has been written before the sector that stands next. -/
def wroteO (p K : Nat) (P : List Nat) (s : LS) (m : Dsk.DM) (pre : List Nat) : Out := writesO p (pre.map fun x => chunk P (ix K x)) s m
theorem wroteO_next {p K : Nat} {P : List Nat} {s : LS} {m : Dsk.DM} {pre : List Nat} (x : Nat) (h : (wroteO p K P s m pre).1 = 0) :
    wroteO p K P s m (pre ++ [x]) = wrO (wroteO p K P s m pre).2.1 (wroteO p K P s m pre).2.2 (sector (wroteO p K P s m pre).2.1 (p + pre.length)) (chunk P (ix K x)) := by
  unfold wroteO
  rw [List.map_append]
  have := writesO_next (chunk P (ix K x)) (pre.map fun x => chunk P (ix K x)) p s m h
  rw [List.length_map] at this
  exact this
theorem wroteO_all {p K : Nat} {P : List Nat} {s : LS} {m : Dsk.DM} : wroteO p K P s m (List.range K) = writesO p ((List.range K).map (chunk P)) s m := by
  unfold wroteO
  congr 1
  exact List.map_congr_left fun x hx => by rw [ix_of (List.mem_range.1 hx)]
theorem wroteO_stop {p K j : Nat} {P : List Nat} {s : LS} {m : Dsk.DM} (hj : j ≤ K) (h : (wroteO p K P s m (List.range j)).1 ≠ 0) : wroteO p K P s m (List.range K) = wroteO p K P s m (List.range j) := by
  have e : List.range K = List.range j ++ (List.range (K - j)).map (j + ·) := by rw [← List.range_add]; congr 1; omega
  unfold wroteO at h ⊢
  rw [e, List.map_append, writesO_stop _ _ _ _ _ h]
/-- The loop over the sectors, before its next round. -/
def Looped (w : World) (G F : List Nat) (b d q0 q1 q2 q3 g : Nat) (Q : List Nat) (p K : Nat) (P : List Nat) (s : LS) (m : Dsk.DM) (pre : List Nat) (W : World) : Prop :=
  ∃ G' F', Env w G F W b d (wroteO p K P s m pre).2.1 (wroteO p K P s m pre).2.2 Q G' F' ∧ (wroteO p K P s m pre).1 = 0 ∧ Held W q0 83 #[.pointer (some ⟨b, 0, none⟩)] ∧ Held W q1 2 #[.int .i64 0] ∧
    Held W q2 29 #[.int .i64 0] ∧ Held W q3 3 #[.int .i64 ((p + pre.length : Nat) : Int)] ∧ Buf W g P
/-- The loop, left at an error. -/
def LeftBy (w : World) (G F : List Nat) (b d q1 q2 : Nat) (Q : List Nat) (p K : Nat) (P : List Nat) (s : LS) (m : Dsk.DM) (c : Code) (pre : List Nat) (W : World) : Prop :=
  c = .ret ∧ ∃ G' F', Env w G F W b d (wroteO p K P s m pre).2.1 (wroteO p K P s m pre).2.2 Q G' F' ∧ (wroteO p K P s m pre).1 ≠ 0 ∧ Held W q1 2 #[.int .i64 0] ∧ Held W q2 29 #[.int .i64 (wroteO p K P s m pre).1]
theorem own_looped {w : World} {G F : List Nat} {b d q0 q1 q2 q3 g : Nat} {Q : List Nat} {p K : Nat} {P : List Nat} {s : LS} {m : Dsk.DM} {B : Nat} (hB : w.heap.size ≤ B) : OwnFrom B (Looped w G F b d q0 q1 q2 q3 g Q p K P s m) := by
  rintro pre W W' row ⟨G', F', h1, h2, h3, h4, h5, h6, h7⟩ hg hr
  have hr' := fun r e => (hr r e).2
  exact ⟨G', F', h1.kept_row hg (fun r e => ⟨Nat.le_trans hB (hr r e).1, (hr r e).2⟩), h2, h3.kept hg hr', h4.kept hg hr', h5.kept hg hr', h6.kept hg hr', h7.kept hg hr'⟩
theorem own_left {w : World} {G F : List Nat} {b d q1 q2 : Nat} {Q : List Nat} {p K : Nat} {P : List Nat} {s : LS} {m : Dsk.DM} {B : Nat} (hB : w.heap.size ≤ B) (c : Code) : OwnFrom B (LeftBy w G F b d q1 q2 Q p K P s m c) := by
  rintro pre W W' row ⟨h0, G', F', h1, h2, h4, h5⟩ hg hr
  have hr' := fun r e => (hr r e).2
  exact ⟨h0, G', F', h1.kept_row hg (fun r e => ⟨Nat.le_trans hB (hr r e).1, (hr r e).2⟩), h2, h4.kept hg hr', h5.kept hg hr'⟩
end Go.Proofs.YtkajneeihhobhaaGreat
