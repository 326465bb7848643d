/-
  blob: find.
-/
import Derived.Test.YtlofpbmceipkkaaM13
import Derived.Deep.MidRow
namespace Go.Proofs.Ytlofpbmceipkkaa
open Go.RowKit Wal Blob

theorem zeroBlob : (Try.prog.info? 61).map (fun i => (i.zero, i.size)) = some (some (.agg #[.nilIface, .int .i64 0, .int .i64 0, .slice none 0 0]), 4) := by kernel_rfl
/-- A blob, as a value. -/
def blobV (s : Value) (h sz : Nat) (A : Option Addr) (n c : Nat) : Value := .agg (blobCs s h sz A n c)
/-- A result that is a cell of many. -/
theorem res_cells {P : Program} {f : Func} (tm : Array Value) (w : World) (j T : Nat) (v : Value) (p : Addr) (hf : f.results = #[.cell j T]) (h : tm.getD j undef = .pointer (some p)) (lv : (loadVar T p).run P w = .ok v w) : (results f tm).run P w = .ok v w := by
  unfold results
  rw [hf]
  rw [Array.getD_eq_getD_getElem?] at h
  simp [h, asAddr, lv]
/-- A blob's text lies on its blocks. -/
structure BlobAt (n : Nat) (f : Nat → Option KB) (h : Nat) (parts : List Nat) (l : List Nat) : Prop where
  fine : Fine h parts
  one : 1 ≤ l.length
  most : l.length ≤ 49152
  count : parts.length = (l.length + 511) / 512
  head : f (h - 1) = some (packB l.length h parts, false)
  part : ∀ i x, parts[i]? = some x → f (x - 1) = some (pad ((l.drop (512 * i)).take 512), false)
  bytes : ∀ x ∈ l, x < 256
/-- A blob that there is: the empty one, or one that lies on blocks. -/
def There (n : Nat) (f : Nat → Option KB) (h : Nat) (parts l : List Nat) : Prop := (h = 0 ∧ parts = [] ∧ l = []) ∨ BlobAt n f h parts l
theorem There.at_ {n : Nat} {f : Nat → Option KB} {h : Nat} {parts l : List Nat} (t : There n f h parts l) (hl : 0 < l.length) : BlobAt n f h parts l := by
  rcases t with ⟨_, _, rfl⟩ | t
  · simp at hl
  · exact t
theorem There.most {n : Nat} {f : Nat → Option KB} {h : Nat} {parts l : List Nat} (t : There n f h parts l) : l.length ≤ 49152 := by
  rcases t with ⟨_, _, rfl⟩ | t
  · simp
  · exact t.most
theorem There.bytes {n : Nat} {f : Nat → Option KB} {h : Nat} {parts l : List Nat} (t : There n f h parts l) : ∀ x ∈ l, x < 256 := by
  rcases t with ⟨_, _, rfl⟩ | t
  · simp
  · exact t.bytes
theorem There.high {n : Nat} {f : Nat → Option KB} {h : Nat} {parts l : List Nat} (t : There n f h parts l) : h ≤ 4096 := by
  rcases t with ⟨rfl, _, _⟩ | t
  · simp
  · exact t.fine.most h (by simp)
theorem IntsAt.set_ {w : World} {A : Option Addr} {bs : List Nat} (h : IntsAt w A bs) {r T : Nat} {cs : Array Value} (hr : Held w r T cs) (hT : T ≠ 3) (i : Nat) (v : Value) : IntsAt (w.setCell ⟨r, i, none⟩ v) A bs := fun hp => by
  obtain ⟨g, off, cs', e, hh, hc⟩ := h hp
  exact ⟨g, off, cs', e, hh.far (p := ⟨r, i, none⟩) (Held.ne_ hh hr (Ne.symm hT)) v, hc⟩
theorem load_blob {w : World} {b : Nat} {cs : Array Value} (h : Held w b 61 cs) (hs : cs.size = 4) : (loadVar 61 ⟨b, 0, none⟩).run Try.prog w = .ok (.agg cs) w := by
  have lv := run_loadVar_mid (P := Try.prog) w b 0 61 cs.toList _ (fun j v hv => by rw [Nat.zero_add, h.cell]; simpa using hv) Try.underlying61 rfl (by rw [(zero_of_info zeroBlob).2, Array.length_toList, hs])
  simpa using lv
theorem Held.blob {w : World} {b : Nat} {s : Value} {h sz : Nat} {A : Option Addr} {n c : Nat} (hh : Held w b 61 (blobCs s h sz A n c)) : w.cell? ⟨b, 0, none⟩ = some s ∧ w.cell? ⟨b, 1, none⟩ = some (.int .i64 (h : Int)) ∧ w.cell? ⟨b, 2, none⟩ = some (.int .i64 (sz : Int)) ∧ w.cell? ⟨b, 3, none⟩ = some (.slice A n c) ∧ ∀ i, w.frozen? ⟨b, i, none⟩ = false :=
  ⟨hh.cell 0, hh.cell 1, hh.cell 2, hh.cell 3, fun i => hh.frozen i⟩
set_option maxRecDepth 100000 in
theorem find_zero (w : World) (p : Nat) :
    Calls Try.prog 33 #[sto p, .int .i64 0] w fun e w' => e = .returned (blobV (sto p) 0 0 none 0 0) ∧ Below w.heap.size w w' := by
  unfold sto blobV blobCs
  obtain ⟨hz, hsz⟩ := zero_of_info zeroBlob
  go_enter Try.func33, Try.ntmps33
  go_wp2_with fail
  have N1 : Hid (Below w.heap.size w ((w.alloc (.cells #[.iface 24 (.pointer (some ⟨p, 0, none⟩)), .int .i64 0, .int .i64 0, .slice none 0 0] 61)).alloc (.cells #[.iface 24 (.pointer (some ⟨p, 0, none⟩)), .int .i64 0, .int .i64 0, .slice none 0 0] 61))) := ((Below.refl _ _).alloc (Nat.le_refl _) _).alloc (by simp) _
  have N2 : Held ((w.alloc (.cells #[.iface 24 (.pointer (some ⟨p, 0, none⟩)), .int .i64 0, .int .i64 0, .slice none 0 0] 61)).alloc (.cells #[.iface 24 (.pointer (some ⟨p, 0, none⟩)), .int .i64 0, .int .i64 0, .slice none 0 0] 61)) w.heap.size 61 #[.iface 24 (.pointer (some ⟨p, 0, none⟩)), .int .i64 0, .int .i64 0, .slice none 0 0] := (Held.new w _ _ rfl).alloc _
  exact bodyPost_ret (res_cells _ _ 4 61 _ _ Try.results33 rfl (load_blob N2 rfl)) rfl ⟨rfl, N1.out⟩
set_option maxRecDepth 100000 in
set_option maxHeartbeats 1600000 in
theorem find_any (B : Nat) (w : World) (p n : Nat) (f : Nat → Option KB) (hm : MemAt B w p n f) (h : Nat) (parts l : List Nat) (hb : BlobAt n f h parts l) :
    Calls Try.prog 33 #[sto p, .int .i64 (h : Int)] w fun e w' => ∃ A m c, m = parts.length ∧ e = .returned (blobV (sto p) h l.length A m c) ∧ IntsAt w' A parts ∧ Below w.heap.size w w' := by
  obtain ⟨hz, hsz⟩ := zero_of_info zeroBlob
  have hpos := hb.fine.pos
  have z0 : ¬ (h : Int) = 0 := by omega
  have z1 : ((h : Int) != 0) = true := by simp; omega
  have HM := Lib.hid hm
  have HB := Lib.hid hb
  clear hm hb hpos
  obtain ⟨sv, hsv⟩ : ∃ sv, sv = sto p := ⟨_, rfl⟩
  have HS := Lib.hid hsv
  unfold sto at hsv
  rw [← HS.out]
  subst hsv
  go_enter Try.func33, Try.ntmps33
  go_wp2_with fail
  obtain ⟨w1, hw1⟩ : ∃ w1, w1 = w.alloc (.cells #[.nilIface, .int .i64 0, .int .i64 0, .slice none 0 0] 61) := ⟨_, rfl⟩
  obtain ⟨w2, hw2⟩ : ∃ w2, w2 = w1.alloc (.cells #[.iface 24 (.pointer (some ⟨p, 0, none⟩)), .int .i64 (h : Int), .int .i64 0, .slice none 0 0] 61) := ⟨_, rfl⟩
  rw [← hw1, ← hw2]
  obtain ⟨r, hr⟩ : ∃ r, r = w.heap.size := ⟨_, rfl⟩
  obtain ⟨b, hbb⟩ : ∃ b, b = r + 1 := ⟨_, rfl⟩
  rw [← hr, ← hbb]
  have s1 : w1.heap.size = w.heap.size + 1 := by rw [hw1]; exact World.size_alloc _ _
  have B1 : Below w.heap.size w w1 := by rw [hw1]; exact (Below.refl _ _).alloc (Nat.le_refl _) _
  have B2 : Hid (Below w.heap.size w w2) := by rw [hw2]; exact B1.alloc B1.size _
  have R2 : Hid (Held w2 r 61 #[.nilIface, .int .i64 0, .int .i64 0, .slice none 0 0]) := by
    rw [hw2, hw1]
    exact (Held.new _ _ _ hr).alloc _
  have H2 : Hid (Held w2 b 61 (blobCs (sto p) h 0 none 0 0)) := by
    rw [hw2, ← HS.out]
    exact Held.new _ _ _ (by omega)
  have RB : Hid (r ≠ b ∧ r = w.heap.size ∧ b = w.heap.size + 1) := ⟨by omega, hr, by omega⟩
  have RD := Lib.hid (bread_any B w2 p n f (HM.out.under B2.out) (h - 1) _ HB.out.head)
  rw [show (((h - 1 : Nat) : Int) + 1) = (h : Int) by have := HB.out.fine.pos; omega, ← HS.out] at RD
  clear hw1 hw2 hr hbb s1 B1 hz
  refine RD.out.mono ?_
  rintro e w3 ⟨g, c, rfl, hc, hg, hbt, hb3⟩
  have B3 := Lib.hid hb3
  have hgb : g ≠ b := by
    have := H2.out.lt
    omega
  have UN := Lib.hid (unpack_any w3 b g c (sto p) l.length h parts (H2.out.below hb3 H2.out.lt) hbt hc HB.out.fine HB.out.one HB.out.most HB.out.count hgb)
  clear hbt hb3 hc hg hgb RD
  go_wp2_with fail
  refine UN.out.mono ?_
  rintro e w4 ⟨rfl, A, m, c', rfl, hh, hi, ho⟩
  have HH := Lib.hid hh
  have I4 := Lib.hid hi
  have O4 := Lib.hid ho
  obtain ⟨d0, d1, d2, d3, _⟩ := hh.blob
  have R4 : Hid (Held w4 r 61 #[.nilIface, .int .i64 0, .int .i64 0, .slice none 0 0]) := (R2.out.below B3.out R2.out.lt).only ho (by simpa using RB.out.1)
  have r0 : w4.cell? ⟨r, 0, none⟩ = some .nilIface := R4.out.cell 0
  have r1 : w4.cell? ⟨r, 1, none⟩ = some (.int .i64 0) := R4.out.cell 1
  have r2 : w4.cell? ⟨r, 2, none⟩ = some (.int .i64 0) := R4.out.cell 2
  have r3 : w4.cell? ⟨r, 3, none⟩ = some (.slice none 0 0) := R4.out.cell 3
  have y0 := R4.out.frozen 0
  have y1 := R4.out.frozen 1
  have y2 := R4.out.frozen 2
  have y3 := R4.out.frozen 3
  clear hh hi ho UN
  rw [← HS.out] at d0
  go_wp2_with fail
  have R5 := R4.out.set_ 0 (.iface 24 (.pointer (some ⟨p, 0, none⟩)))
  have J5 := I4.out.set_ R4.out (by decide) 0 (.iface 24 (.pointer (some ⟨p, 0, none⟩)))
  have R6 := R5.set_ 1 (.int .i64 (h : Int))
  have J6 := J5.set_ R5 (by decide) 1 (.int .i64 (h : Int))
  have R7 := R6.set_ 2 (.int .i64 (l.length : Int))
  have J7 := J6.set_ R6 (by decide) 2 (.int .i64 (l.length : Int))
  have R8 := R7.set_ 3 (.slice A parts.length c')
  have J8 := J7.set_ R7 (by decide) 3 (.slice A parts.length c')
  have O8 := ((((O4.out.mono (G := [r, b]) (fun x hx => .inl (by simp only [List.mem_cons, List.not_mem_nil, or_false] at hx ⊢; exact .inr hx))).setCell (p := ⟨r, 0, none⟩) (.inl (by simp)) (.iface 24 (.pointer (some ⟨p, 0, none⟩)))).setCell (p := ⟨r, 1, none⟩) (.inl (by simp)) (.int .i64 (h : Int))).setCell (p := ⟨r, 2, none⟩) (.inl (by simp)) (.int .i64 (l.length : Int))).setCell (p := ⟨r, 3, none⟩) (.inl (by simp)) (.slice A parts.length c')
  have W8 := (B2.out.trans (B3.out.mono B2.out.size)).trans (O8.below (B := w.heap.size) (Nat.le_trans B2.out.size B3.out.size) (fun x hx => by
    have h1 := RB.out.2.1
    have h2 := RB.out.2.2
    simp only [List.mem_cons, List.not_mem_nil, or_false] at hx
    omega))
  refine bodyPost_ret (res_cells _ _ 4 61 _ _ Try.results33 rfl (load_blob R8 rfl)) rfl ⟨A, parts.length, c', rfl, rfl, J8, W8⟩
theorem find_is (B : Nat) (w : World) (p n : Nat) (f : Nat → Option KB) (hm : MemAt B w p n f) (h : Nat) (parts l : List Nat) (t : There n f h parts l) :
    Calls Try.prog 33 #[sto p, .int .i64 (h : Int)] w fun e w' => ∃ A m c, m = parts.length ∧ e = .returned (blobV (sto p) h l.length A m c) ∧ IntsAt w' A parts ∧ Below w.heap.size w w' := by
  rcases t with ⟨rfl, rfl, rfl⟩ | t
  · refine (find_zero w p).mono ?_
    rintro e w' ⟨rfl, hb⟩
    exact ⟨none, 0, 0, rfl, rfl, fun h => by simp at h, hb⟩
  · exact find_any B w p n f hm h parts l t
end Go.Proofs.Ytlofpbmceipkkaa
