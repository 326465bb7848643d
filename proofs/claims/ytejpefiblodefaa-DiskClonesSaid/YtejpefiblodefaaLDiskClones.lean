/-
  P2.4: a clone goes its own way; bytes that were handed in or answered may be written over: the law answers true for every input, and its arguments read behind the call as before. No condition beside the row's own.
-/
import Derived.Test.YtejpefiblodefaaCopy
namespace Go.Proofs.Ytejpefiblodefaa.diskClones
open Go.ChangeShapes Go.WideShapes Go.ChangeAt Go.RowKit

theorem own : ownKnob Try.prog.godebug = none := by kernel_rfl
theorem laidOut : laidOutB Try.prog = true := by kernel_rfl
theorem bytesOp : Try.prog.bytesOf 35 = 56 := by kernel_rfl

theorem bytes_free (w : World) (e : TypeId) (s : ByteArray) (j : Nat) (hj : j < s.size) : (Lib.bytesWorld w e s).frozen? ⟨w.heap.size, j, none⟩ = false := by
  have hs : s.size ≤ (Lib.bytesCells w e s).size := by
    have h1 : s.data.size = s.size := rfl
    unfold Lib.bytesCells
    rw [Array.size_append, Array.size_map]
    omega
  have h := Lib.bytesWorld_at_new w e s
  simp only [World.frozen?, h]
  simp
  omega

/-- Both disks, all of the call's own, after k steps. -/
def Rel (w wr : World) (d rd k : Nat) : Prop := ∃ F m G r, Both wr d F m rd G r k ∧ Below w.heap.size w wr ∧ ∀ x ∈ F ++ G, w.heap.size ≤ x

/-- Bytes in a block b that is nobody else's are written over. -/
structure Scr (X Y : World) (b n : Nat) : Prop where
  only : Only [b] X Y
  lt : b < Y.heap.size
  cell : ∀ j, j < n → ∃ z, Y.cell? ⟨b, j, none⟩ = some (.int .u8 z)
  free : ∀ j, j < n → Y.frozen? ⟨b, j, none⟩ = false

theorem Scr.next {X Y : World} {b n j : Nat} (h : Scr X Y b n) (z : Int) : Scr X (Y.setCell ⟨b, j, none⟩ (.int .u8 z)) b n where
  only := h.only.setCell (.inl (by simp)) _
  lt := by rw [World.size_setCell]; exact h.lt
  cell := fun i hi => by
    obtain ⟨z0, hz⟩ := h.cell i hi
    by_cases e : j = i
    · subst e
      exact ⟨z, World.cell?_setCell_same _ _ _ hz⟩
    · exact ⟨z0, by rw [World.cell?_setCell_other _ _ _ _ (fun he => e (by injection he))]; exact hz⟩
  free := fun i hi => by rw [World.frozen?_setCell]; exact h.free i hi

theorem Scr.start {X w5 w6 : World} {d rd b n : Nat} {l : List Nat} {F G : List Nat} {m' : Dsk.DM} {r' : Dsk.RM} (hb : Bts X (some ⟨b, 0, none⟩) n l) (hf : ∀ j, j < n → X.frozen? ⟨b, j, none⟩ = false) (hlt : b < X.heap.size) (t : Turned X d F w5 m') (u : RTurned w5 rd G w6 r') (hF : ∀ x ∈ F ++ G, x ≠ b) : Scr w6 w6 b n := by
  have h5 := turned_lt t hlt
  refine ⟨Only.refl _ _, ?_, fun j hj => ⟨((l.getD j 0 : Nat) : Int), ?_⟩, fun j hj => ?_⟩
  · obtain ⟨_, _, h2, _⟩ := u
    exact Nat.lt_of_lt_of_le h5 h2.size
  · rw [rturned_far u h5 hF, turned_far t hlt hF]
    exact hb.cell0 hj
  · obtain ⟨_, _, h2, _⟩ := u
    obtain ⟨_, _, h1, _⟩ := t
    rw [h2.frozen (p := ⟨b, j, none⟩) h5 (fun hm => hF b (List.mem_append.2 (.inr hm)) rfl), h1.frozen (p := ⟨b, j, none⟩) hlt (fun hm => hF b (List.mem_append.2 (.inl hm)) rfl)]
    exact hf j hj

theorem step_base {w wr w6 : World} {d rd k : Nat} {F G : List Nat} (hb : Below w.heap.size w wr) (hn : ∀ x ∈ F ++ G, w.heap.size ≤ x) (h : BTurned wr d F rd G w6 (k + 1)) :
    ∃ F' m' G' r', Both w6 d F' m' rd G' r' (k + 1) ∧ Below w.heap.size w w6 ∧ ∀ x ∈ F' ++ G', w.heap.size ≤ x := by
  obtain ⟨F', m', G', r', h1, h2, h3⟩ := h
  refine ⟨F', m', G', r', h1, h2.from_ hb hn, fun x hx => ?_⟩
  rcases h3 x hx with h4 | h4
  · exact hn x h4
  · have := hb.size
    omega
/-- What was answered: a slice of bytes of its own. -/
def Got (w w' : World) (e : Ending) : Prop := ∃ A n c x, e = .returned (.tuple #[.slice A n c, .int .i64 x]) ∧ n ≤ 512 ∧ Below w.heap.size w w' ∧ (0 < n → A = some ⟨w.heap.size, 0, none⟩ ∧ Scr w' w' w.heap.size n)
theorem Got.of {w w' : World} {x : Int} {l : List Nat} {e : Ending} (h : Tells w x l e w') : Got w w' e := by
  rcases h with ⟨_, he, hb⟩ | ⟨_, v, he, rfl, ho, hb⟩
  · exact ⟨none, 0, 0, x, he, by omega, hb, fun h0 => by omega⟩
  · refine ⟨_, 512, 512, 0, he, Nat.le_refl _, hb, fun _ => ⟨rfl, ?_⟩⟩
    have hl : (sec l).length = 512 := sec_length l
    obtain ⟨g, cap, hv, _, hlt, hbt, hfr⟩ := ho.form (by omega)
    have hg : w.heap.size = g := by
      injection hv with hv _ _
      injection hv with hv
      injection hv
    subst hg
    exact ⟨Only.refl _ _, hlt, fun j hj => ⟨_, hbt.cell0 (by omega)⟩, fun j _ => hfr j⟩
/-- Two pairs of disks, all of the call's own, all apart. -/
def Quad (w0 w : World) (d rd c rc L M : Nat) : Prop := ∃ F m G r F' m' G' r', Both w d F m rd G r L ∧ Both w c F' m' rc G' r' M ∧ Below w0.heap.size w0 w ∧ (∀ x ∈ (F ++ G) ++ (F' ++ G'), w0.heap.size ≤ x) ∧ ∀ x ∈ F ++ G, x ∉ F' ++ G'
theorem Quad.swap {w0 w : World} {d rd c rc L M : Nat} (h : Quad w0 w d rd c rc L M) : Quad w0 w c rc d rd M L := by
  obtain ⟨F, m, G, r, F', m', G', r', h1, h2, h3, h4, h5⟩ := h
  exact ⟨F', m', G', r', F, m, G, r, h2, h1, h3, fun x hx => h4 x (List.mem_append.2 ((List.mem_append.1 hx).symm)), fun x hx hy => h5 x hy hx⟩
theorem Both.keep {w w2 : World} {d rd L : Nat} {F G H : List Nat} {m : Dsk.DM} {r : Dsk.RM} (h : Both w d F m rd G r L) (hs : Only H w w2) (hn : ∀ x ∈ F ++ G, x ∉ H) : Both w2 d F m rd G r L :=
  ⟨h.disk.only hs (fun x hx => hn x (List.mem_append.2 (.inl hx))), h.ref.only hs (fun x hx => hn x (List.mem_append.2 (.inr hx))), h.apart, h.sim, h.len⟩
theorem Quad.turn {w0 w w2 : World} {d rd c rc L' M : Nat} {F G F' G' : List Nat} {m' : Dsk.DM} {r' : Dsk.RM} (h2 : Both w c F' m' rc G' r' M) (h3 : Below w0.heap.size w0 w) (h4 : ∀ x ∈ (F ++ G) ++ (F' ++ G'), w0.heap.size ≤ x) (h5 : ∀ x ∈ F ++ G, x ∉ F' ++ G') (t : BTurned w d F rd G w2 L') : Quad w0 w2 d rd c rc L' M := by
  obtain ⟨F2, m2, G2, r2, k1, k2, k3⟩ := t
  have hF : ∀ x ∈ F ++ G, w0.heap.size ≤ x := fun x hx => h4 x (List.mem_append.2 (.inl hx))
  have ap : ∀ x ∈ F' ++ G', x ∉ F ++ G := fun x hx hy => h5 x hy hx
  refine ⟨F2, m2, G2, r2, F', m', G', r', k1, Both.keep h2 k2 ap, k2.from_ h3 hF, fun x hx => ?_, fun x hx hy => ?_⟩
  · rcases List.mem_append.1 hx with hx | hx
    · rcases k3 x hx with h6 | h6
      · exact hF x h6
      · exact Nat.le_trans h3.size h6
    · exact h4 x (List.mem_append.2 (.inr hx))
  · rcases k3 x hx with h6 | h6
    · exact h5 x h6 hy
    · have := h2.lt x hy
      omega
/-- One step on the first pair. -/
theorem Quad.step {w0 w : World} {d rd c rc L M : Nat} {o : OpD} (h : Quad w0 w d rd c rc L M) (hL : L ≤ 5800000000000) (ho : OpGood w o) (hA : 0 < o.n → ∀ a, o.A = some a → a.block < w0.heap.size) :
    Calls Try.prog 14 #[.pointer (some ⟨d, 0, none⟩), .pointer (some ⟨rd, 0, none⟩), .agg #[.int .u8 (o.kind : Int), .int .i64 o.i, .string o.data, .slice o.A o.n o.c]] w
      fun e w' => e = .returned (.bool true) ∧ Quad w0 w' d rd c rc (L + 1) M := by
  obtain ⟨F, m, G, r, F', m', G', r', h1, h2, h3, h4, h5⟩ := h
  refine (step_any w d rd L F G m r o h1 hL ho (fun h0 a ha hm => ?_)).mono fun _ _ t => ⟨t.1, Quad.turn h2 h3 h4 h5 t.2⟩
  have := hA h0 a ha
  have := h4 _ (List.mem_append.2 (.inl hm))
  omega
theorem Quad.below {w0 w : World} {d rd c rc L M : Nat} (h : Quad w0 w d rd c rc L M) : Below w0.heap.size w0 w := by
  obtain ⟨_, _, _, _, _, _, _, _, _, _, h3, _⟩ := h
  exact h3
/-- An Op that only looks. -/
def lookOp (k : Nat) (i : Int) : OpD := ⟨k, i, ⟨#[]⟩, none, 0, 0, []⟩
theorem look_good {w : World} {k : Nat} {i : Int} (hk : k < 256) (h0 : -9223372036854775808 ≤ i) (h1 : i ≤ 9223372036854775807) : OpGood w (lookOp k i) :=
  ⟨hk, h0, h1, by show 0 ≤ _; omega, ⟨rfl, fun h => absurd h (by show ¬ 0 < 0; omega)⟩, by show 0 ≤ _; omega, fun h => absurd h (by show ¬ 0 < 0; omega)⟩
theorem Quad.look1 {w0 w : World} {d rd c rc L M : Nat} {i : Int} (h : Quad w0 w d rd c rc L M) (hL : L ≤ 5800000000000) (h0 : -9223372036854775808 ≤ i) (h1 : i ≤ 9223372036854775807) :
    Calls Try.prog 14 #[.pointer (some ⟨d, 0, none⟩), .pointer (some ⟨rd, 0, none⟩), .agg #[.int .u8 1, .int .i64 i, .string ⟨#[]⟩, .slice none 0 0]] w
      fun e w' => e = .returned (.bool true) ∧ Quad w0 w' d rd c rc L M := by
  obtain ⟨F, m, G, r, F', m', G', r', k1, h2, h3, h4, h5⟩ := h
  exact (step_read w d rd L F G m r (lookOp 1 i) k1 hL (look_good (by omega) h0 h1) rfl).mono fun _ _ t => ⟨t.1, Quad.turn h2 h3 h4 h5 t.2⟩
theorem Quad.look5 {w0 w : World} {d rd c rc L M : Nat} {i : Int} (h : Quad w0 w d rd c rc L M) (hL : L ≤ 5800000000000) (h0 : -9223372036854775808 ≤ i) (h1 : i ≤ 9223372036854775807) :
    Calls Try.prog 14 #[.pointer (some ⟨d, 0, none⟩), .pointer (some ⟨rd, 0, none⟩), .agg #[.int .u8 5, .int .i64 i, .string ⟨#[]⟩, .slice none 0 0]] w
      fun e w' => e = .returned (.bool true) ∧ Quad w0 w' d rd c rc L M := by
  obtain ⟨F, m, G, r, F', m', G', r', k1, h2, h3, h4, h5⟩ := h
  exact (step_dur w d rd L F G m r (lookOp 5 i) k1 hL (look_good (by omega) h0 h1) rfl).mono fun _ _ t => ⟨t.1, Quad.turn h2 h3 h4 h5 t.2⟩
theorem Quad.cells {w0 w : World} {d rd c rc L M : Nat} (h : Quad w0 w d rd c rc L M) : ∃ F m A cc, DiskAt w d F m ∧ w.cell? ⟨rd, 2, none⟩ = some (.slice A m.wait.length cc) := by
  obtain ⟨F, m, G, r, _, _, _, _, h1, _⟩ := h
  obtain ⟨vd, vw, hI, _⟩ := h1.ref
  obtain ⟨_, A, cc, rfl⟩ := hI.form
  have e : r.waits.length = m.wait.length := by rw [h1.sim.waits, List.length_map]
  exact ⟨F, m, A, cc, h1.disk, by rw [hI.cells.2.2.1, e]⟩
theorem Quad.start {w0 w w5 w6 : World} {d rd c rc L : Nat} {F G F' G' : List Nat} {m : Dsk.DM} {r : Dsk.RM} (h : Both w d F m rd G r L) (hb : Below w0.heap.size w0 w) (hn : ∀ x ∈ F ++ G, w0.heap.size ≤ x) (hc : DiskAt w5 c F' m) (b5 : Below w.heap.size w w5) (n5 : ∀ x ∈ F', w.heap.size ≤ x)
    (hr : RefAt w6 rc G' r) (b6 : Below w5.heap.size w5 w6) (n6 : ∀ x ∈ G', w5.heap.size ≤ x) : Quad w0 w6 d rd c rc L L := by
  have s1 := hb.size
  have s5 := b5.size
  refine ⟨F, m, G, r, F', m, G', r, h.under (b5.trans (b6.mono s5)), ⟨hc.below b6, hr, fun x hx hg => ?_, h.sim, h.len⟩, hb.trans ((b5.trans (b6.mono s5)).mono s1), fun x hx => ?_, fun x hx hy => ?_⟩
  · have := hc.lt x hx; have := n6 x hg; omega
  · rcases List.mem_append.1 hx with hx | hx
    · exact hn x hx
    · rcases List.mem_append.1 hx with hx | hx
      · have := n5 x hx; omega
      · have := n6 x hx; omega
  · have := h.lt x hx
    rcases List.mem_append.1 hy with hy | hy
    · have := n5 x hy; omega
    · have := n6 x hy; omega

/-- Bytes that were answered, maybe none, are written over. -/
structure ScrG (X Y : World) (b n : Nat) : Prop where
  only : Only [b] X Y
  scr : 0 < n → Scr X Y b n
theorem ScrG.next {X Y : World} {b n j : Nat} (h : ScrG X Y b n) (z : Int) : ScrG X (Y.setCell ⟨b, j, none⟩ (.int .u8 z)) b n :=
  ⟨h.only.setCell (.inl (by simp)) _, fun h0 => (h.scr h0).next z⟩
/-- Both disks, when bytes that were answered have been written over. -/
theorem scribbled {w5 w6 wq : World} {d rd L : Nat} {F G : List Nat} {m : Dsk.DM} {r : Dsk.RM} (h : Both w5 d F m rd G r L) (hb : Below w5.heap.size w5 w6) (hs : Only [w5.heap.size] w6 wq) : Both wq d F m rd G r L := by
  have h6 := h.under hb
  have ne : ∀ x ∈ F ++ G, x ∉ [w5.heap.size] := fun x hx hm => by
    have e : x = w5.heap.size := by simpa using hm
    have := h.lt x hx
    omega
  exact ⟨h6.disk.only hs (fun x hx => ne x (List.mem_append.2 (.inl hx))), h6.ref.only hs (fun x hx => ne x (List.mem_append.2 (.inr hx))), h6.apart, h6.sim, h6.len⟩
theorem scribbled_below {w w5 w6 wq : World} (h : Below w.heap.size w w5) (hb : Below w5.heap.size w5 w6) (hs : Only [w5.heap.size] w6 wq) : Below w.heap.size w wq :=
  hs.from_ (h.trans (hb.mono h.size)) (fun x hx => by have e : x = w5.heap.size := by simpa using hx
                                                      have := h.size
                                                      omega)

/-- What a script's step left, when bytes of its own have been written over. -/
theorem Rel.scr {w wr X w6 wq : World} {d rd k b : Nat} {F G : List Nat} (hb : Below w.heap.size w wr) (hX : Below wr.heap.size wr X) (hn : ∀ x ∈ F ++ G, w.heap.size ≤ x) (h : BTurned X d F rd G w6 (k + 1)) (hs : Only [b] w6 wq)
    (hb1 : wr.heap.size ≤ b) (hb2 : b < X.heap.size) (hb3 : ∀ x ∈ F ++ G, x ≠ b) : Rel w wq d rd (k + 1) := by
  obtain ⟨F', m', G', r', h1, h2, h3⟩ := h
  have hne : ∀ x ∈ F' ++ G', x ∉ [b] := fun x hx hm => by
    have e : x = b := by simpa using hm
    rcases h3 x hx with h4 | h4
    · exact hb3 x h4 e
    · omega
  have hbX := hb.trans (hX.mono hb.size)
  have hb6 := h2.from_ hbX hn
  refine ⟨F', m', G', r', ⟨h1.disk.only hs (fun x hx => hne x (List.mem_append.2 (.inl hx))), h1.ref.only hs (fun x hx => hne x (List.mem_append.2 (.inr hx))), h1.apart, h1.sim, h1.len⟩, hs.from_ hb6 (fun x hx => ?_), fun x hx => ?_⟩
  · have e : x = b := by simpa using hx
    have := hb.size
    omega
  · rcases h3 x hx with h4 | h4
    · exact hn x h4
    · have := hbX.size
      omega

set_option maxRecDepth 100000 in
set_option maxHeartbeats 3200000 in
theorem walk (x : Int) (A : Option Addr) (n c : Nat) (l : List OpD) (A2 : Option Addr) (n2 c2 : Nat) (l2 : List OpD) (w : World) (hl : Ops w A n l) (hn : n ≤ 2600000000000) (hl2 : Ops w A2 n2 l2) (hn2 : n2 ≤ 2600000000000) (hs : n + n2 ≤ 5800000000000) :
    Calls Try.prog 4 #[.int .i64 x, .slice A n c, .slice A2 n2 c2] w fun e w' => e = .returned (.bool true) ∧ Below w.heap.size w w' := by
  have kc := fun W s => Lib.run_convert_string_bytes (P := Try.prog) W 9 37 5 s Try.underlying9 Try.underlying37 Try.underlying5
  have HL := Lib.hid hl
  have HL2 := Lib.hid hl2
  clear hl hl2
  go_enter Try.func4, Try.ntmps4
  go_wp2_with fail
  refine (fixed_any _).mono ?_
  rintro e w1 ⟨rfl, hbel⟩
  have B1 := Lib.hid hbel
  have L1 := Lib.hid (HL.out.kept hbel)
  have L2 := Lib.hid (HL2.out.kept hbel)
  clear hbel HL HL2
  go_wp2_with fail
  refine (new_any _ x).mono ?_
  rintro e w2 ⟨d, F, rfl, hD, hb2, hF⟩
  have D2 := Lib.hid hD
  have B2 := Lib.hid hb2
  have F2 := Lib.hid hF
  clear hD hb2 hF
  go_wp2_with fail
  refine (rnew_any _ x).mono ?_
  rintro e w3 ⟨rd, G, rfl, hR, hb3, hG⟩
  have R3 : Hid (Rel w1 w3 d rd 0) := ⟨F, _, G, _, ⟨D2.out.below hb3, hR, fun y hy hg => by have := D2.out.lt y hy; have := hG y hg; omega, Dsk.Sim.fresh _, Nat.le_refl _⟩, B2.out.trans (hb3.mono B2.out.size), fun y hy => (List.mem_append.1 hy).elim (F2.out y) (fun hg => Nat.le_trans B2.out.size (hG y hg))⟩
  clear hR hb3 hG D2 B2 F2
  go_wp2_with fail
  go_loopw [9, 10, 11, 12, 13, 14, 15] (fun i _ _ _ _ _ _ wr => ∃ k : Nat, k ≤ n ∧ i = .int .i64 k ∧ Rel w1 wr d rd k) (fun i _ _ _ _ _ _ _ => n - (intOf i).toNat)
  case atStart => exact ⟨0, by omega, rfl, R3.out⟩
  case round =>
    obtain ⟨k, hk, rfl, F4, m, G4, r, hB, hb4, hN⟩ := hrel
    have BO := Lib.hid hB
    have B4 := Lib.hid hb4
    have N4 := Lib.hid hN
    clear hB hb4 hN R3
    by_cases hlt : k < n
    · have i0 : (0 : Int) ≤ (k : Int) := by omega
      have i1 : (k : Int) < (n : Int) := by omega
      obtain ⟨b, off, o, rfl, hb1lt, hlk, hog, htk, h1x0, h1x1, h1x2, h1x3⟩ := L1.out.at_ hlt
      have hblt : b < wr.heap.size := Nat.lt_of_lt_of_le hb1lt B4.out.size
      have HB1LT := Lib.hid hb1lt
      have HX1 := Lib.hid h1x1
      have OG := Lib.hid (hog.kept B4.out)
      have hx0 := (B4.out.cell (p := ⟨b, off + k * 4, none⟩) hb1lt).trans h1x0
      have hx1 := (B4.out.cell (p := ⟨b, off + k * 4 + 1, none⟩) hb1lt).trans h1x1
      have hx2 := (B4.out.cell (p := ⟨b, off + k * 4 + 2, none⟩) hb1lt).trans h1x2
      have hx3 := (B4.out.cell (p := ⟨b, off + k * 4 + 3, none⟩) hb1lt).trans h1x3
      clear hb1lt h1x0 h1x1 h1x2 h1x3
      have OL : Hid (0 < o.n → ∀ a, o.A = some a → a.block ∉ F4 ++ G4) := by
        intro h0 a ha hm
        have h1 : OpGood w1 o := L1.out.2.1 o (List.mem_of_getElem? hlk)
        have := h1.lt h0 a ha
        have := N4.out _ hm
        omega
      have bF : Hid (b ∉ F4 ++ G4) := by
        intro hm
        have := N4.out _ hm
        obtain ⟨b', off', e', hb', _⟩ := L1.out.2.2 (by omega)
        have eb : b = b' := by injection e' with e'; injection e'
        omega
      have BX := Lib.hid (below_bytesWorld (B := wr.heap.size) wr 5 o.data (Nat.le_refl _))
      have TB := Lib.hid (bts_bytesWorld wr 5 o.data (b := wr.heap.size) rfl)
      have x0 := (BX.out.cell (p := ⟨b, off + k * 4, none⟩) hblt).trans hx0
      have x1 := (BX.out.cell (p := ⟨b, off + k * 4 + 1, none⟩) hblt).trans hx1
      have x2 := (BX.out.cell (p := ⟨b, off + k * 4 + 2, none⟩) hblt).trans hx2
      have x3 := (BX.out.cell (p := ⟨b, off + k * 4 + 3, none⟩) hblt).trans hx3
      have XL : Hid (wr.heap.size < (Lib.bytesWorld wr 5 o.data).heap.size) := by show _ < _; rw [Lib.bytesWorld_size]; omega
      have XF : Hid (∀ j, j < o.data.size → (Lib.bytesWorld wr 5 o.data).frozen? ⟨wr.heap.size, j, none⟩ = false) := fun j hj => bytes_free wr 5 o.data j hj
      clear hlk hog htk
      by_cases hk0 : o.kind % 6 = 0
      · have k0 : ((o.kind : Int) % 6 == 0) = true := by simp; omega
        clear hk0 x3 hx3
        have BXD := Lib.hid (BX.out.trans (Below.refl _ _).drew)
        have HBX := Lib.hid (BO.out.under BXD.out)
        have bltx : b < (Lib.bytesWorld wr 5 o.data).drew.heap.size := Nat.lt_of_lt_of_le hblt BX.out.size
        have FB : Hid (∀ y ∈ F4 ++ G4, y ≠ b) := fun y hy e => bF.out (e ▸ hy)
        have FO : Hid (∀ y ∈ F4 ++ G4, y ≠ wr.heap.size) := fun y hy e => by have := BO.out.lt y hy; omega
        have HW := Lib.hid (BO.out.wl (by omega))
        have CW := Lib.hid (write_any (Lib.bytesWorld wr 5 o.data).drew d F4 m o.i (some ⟨wr.heap.size, 0, none⟩) o.data.size (grownCap wr o.data.size 0 5) (nums o.data) HBX.out.disk TB.out.drew OG.out.s (fun _ y hy => by injection hy with hy; subst hy; exact fun hm => FO.out _ (List.mem_append.2 (.inl hm)) rfl) HW.out.1)
        go_wp2_with fail
        refine wp_region_noPanic ?_
        refine wp_region_held_drew (S := fun w' => w'.cell? ⟨b, off + k * 4 + 1, none⟩ = some (.int .i64 o.i) ∧ w'.cell? ⟨b, off + k * 4 + 2, none⟩ = some (.string o.data)) (by kernel_rfl) ⟨x1, x2⟩ (fun hHeld => ?_)
        refine take_ (i := 0) (v := ?_) 45 rfl rfl (by kernel_rfl) (by kernel_rfl) (by kernel_rfl) (fun _ _ _ h => h) (Or.inl ⟨by rfl, ?_⟩) (by assumption) ?_
        rotate_left
        · (intro wS hSw; (try dsimp only at hSw); go_simp; try with_reducible rfl)
        simp only [Act.put, List.setIfInBounds_toArray, List.set_cons_zero, List.set_cons_succ]
        refine take_ (i := 1) (v := ?_) 46 rfl rfl (by kernel_rfl) (by kernel_rfl) (by kernel_rfl) (fun _ _ _ h => h) (Or.inl ⟨by rfl, ?_⟩) (by assumption) ?_
        rotate_left
        · (intro wS hSw; (try dsimp only at hSw); go_simp; try with_reducible rfl)
        simp only [Act.put, List.setIfInBounds_toArray, List.set_cons_zero, List.set_cons_succ]
        refine take_ (i := 2) (v := ?_) 47 rfl rfl (by kernel_rfl) (by kernel_rfl) (by kernel_rfl) (fun _ _ _ h => h) (Or.inl ⟨by rfl, ?_⟩) (by assumption) ?_
        rotate_left
        · (intro wS hSw; (try dsimp only at hSw); go_simp; try with_reducible rfl)
        simp only [Act.put, List.setIfInBounds_toArray, List.set_cons_zero, List.set_cons_succ]
        refine take_ (i := 3) (v := ?_) 48 rfl rfl (by kernel_rfl) (by kernel_rfl) (by kernel_rfl) (fun _ _ _ h => h) (Or.inl ⟨by rfl, ?_⟩) (by assumption) ?_
        rotate_left
        · (intro wS hSw; (try dsimp only at hSw); go_simp; try with_reducible rfl)
        simp only [Act.put, List.setIfInBounds_toArray, List.set_cons_zero, List.set_cons_succ]
        refine take_ (i := 4) (v := ?_) 49 rfl rfl (by kernel_rfl) (by kernel_rfl) (by kernel_rfl) (fun _ _ _ h => h) (Or.inl ⟨by rfl, ?_⟩) (by assumption) ?_
        rotate_left
        · (intro wS hSw; (try dsimp only at hSw); go_simp; try with_reducible rfl)
        simp only [Act.put, List.setIfInBounds_toArray, List.set_cons_zero, List.set_cons_succ]
        refine take_ (i := 5) (v := ?_) 50 rfl rfl (by kernel_rfl) (by kernel_rfl) (by kernel_rfl) (fun _ _ _ h => h) (Or.inl ⟨by rfl, ?_⟩) (by assumption) ?_
        rotate_left
        · (intro wS hSw; (try dsimp only at hSw); go_simp; try with_reducible rfl)
        simp only [Act.put, List.setIfInBounds_toArray, List.set_cons_zero, List.set_cons_succ]
        refine take_ (i := 6) (v := ?_) 51 rfl rfl (by kernel_rfl) (by kernel_rfl) (by kernel_rfl) (fun _ _ _ h => h) (Or.inl ⟨by rfl, ?_⟩) (by assumption) ?_
        rotate_left
        · (intro wS hSw; (try dsimp only at hSw); go_simp; try with_reducible rfl)
        simp only [Act.put, List.setIfInBounds_toArray, List.set_cons_zero, List.set_cons_succ]
        refine take_ (i := 8) (v := ?_) 53 rfl rfl (by kernel_rfl) (by kernel_rfl) (by kernel_rfl) (fun _ _ _ h => h) (Or.inl ⟨by rfl, ?_⟩) (by assumption) ?_
        rotate_left
        · (intro wS hSw; (try dsimp only at hSw); go_simp; try with_reducible rfl)
        simp only [Act.put, List.setIfInBounds_toArray, List.set_cons_zero, List.set_cons_succ]
        refine take_ (i := 9) (v := ?_) 54 rfl rfl (by kernel_rfl) (by kernel_rfl) (by kernel_rfl) (fun _ _ _ h => h) (Or.inl ⟨by rfl, ?_⟩) (by assumption) ?_
        rotate_left
        · (intro wS hSw; (try dsimp only at hSw); go_simp; try with_reducible rfl)
        simp only [Act.put, List.setIfInBounds_toArray, List.set_cons_zero, List.set_cons_succ]
        refine take_ (i := 10) (v := ?_) 55 rfl rfl (by kernel_rfl) (by kernel_rfl) (by kernel_rfl) (fun _ _ _ h => h) (Or.inl ⟨by rfl, ?_⟩) (by assumption) ?_
        rotate_left
        · (intro wS hSw; (try dsimp only at hSw); go_simp; try with_reducible rfl)
        simp only [Act.put, List.setIfInBounds_toArray, List.set_cons_zero, List.set_cons_succ]
        refine take_ (i := 11) (v := ?_) 56 rfl rfl (by kernel_rfl) (by kernel_rfl) (by kernel_rfl) (fun _ _ _ h => h) (Or.inl ⟨by rfl, ?_⟩) (by assumption) ?_
        rotate_left
        · (intro wS hSw; (try dsimp only at hSw); go_simp; try with_reducible rfl)
        simp only [Act.put, List.setIfInBounds_toArray, List.set_cons_zero, List.set_cons_succ]
        refine take_ (i := 12) (v := ?_) 57 rfl rfl (by kernel_rfl) (by kernel_rfl) (by kernel_rfl) (fun _ _ _ h => h) (Or.inl ⟨by rfl, ?_⟩) (by assumption) ?_
        rotate_left
        · (intro wS hSw; (try dsimp only at hSw); go_simp; try with_reducible rfl)
        simp only [Act.put, List.setIfInBounds_toArray, List.set_cons_zero, List.set_cons_succ]
        refine take_ (i := 13) (v := ?_) 58 rfl rfl (by kernel_rfl) (by kernel_rfl) (by kernel_rfl) (fun _ _ _ h => h) (Or.inl ⟨by rfl, ?_⟩) (by assumption) ?_
        rotate_left
        · (intro wS hSw; (try dsimp only at hSw); go_simp; try with_reducible rfl)
        simp only [Act.put, List.setIfInBounds_toArray, List.set_cons_zero, List.set_cons_succ]
        refine take_ (i := 14) (v := ?_) 59 rfl rfl (by kernel_rfl) (by kernel_rfl) (by kernel_rfl) (fun _ _ _ h => h) (Or.inl ⟨by rfl, ?_⟩) (by assumption) ?_
        rotate_left
        · (intro wS hSw; (try dsimp only at hSw); go_simp; try with_reducible rfl)
        simp only [Act.put, List.setIfInBounds_toArray, List.set_cons_zero, List.set_cons_succ]
        refine take_ (i := 15) (v := ?_) 60 rfl rfl (by kernel_rfl) (by kernel_rfl) (by kernel_rfl) (fun _ _ _ h => h) (Or.inl ⟨by rfl, ?_⟩) (by assumption) ?_
        rotate_left
        · (intro wS hSw; (try dsimp only at hSw); go_simp; try with_reducible rfl)
        simp only [Act.put, List.setIfInBounds_toArray, List.set_cons_zero, List.set_cons_succ]
        refine take_ (i := 16) (v := ?_) 61 rfl rfl (by kernel_rfl) (by kernel_rfl) (by kernel_rfl) (fun _ _ _ h => h) (Or.inl ⟨by rfl, ?_⟩) (by assumption) ?_
        rotate_left
        · (intro wS hSw; (try dsimp only at hSw); go_simp; try with_reducible rfl)
        simp only [Act.put, List.setIfInBounds_toArray, List.set_cons_zero, List.set_cons_succ]
        refine take_ (i := 17) (v := ?_) 62 rfl rfl (by kernel_rfl) (by kernel_rfl) (by kernel_rfl) (fun _ _ _ h => h) (Or.inl ⟨by rfl, ?_⟩) (by assumption) ?_
        rotate_left
        · (intro wS hSw; (try dsimp only at hSw); go_simp; try with_reducible rfl)
        simp only [Act.put, List.setIfInBounds_toArray, List.set_cons_zero, List.set_cons_succ]
        refine take_ (i := 18) (v := ?_) 63 rfl rfl (by kernel_rfl) (by kernel_rfl) (by kernel_rfl) (fun _ _ _ h => h) (Or.inl ⟨by rfl, ?_⟩) (by assumption) ?_
        rotate_left
        · (intro wS hSw; (try dsimp only at hSw); go_simp; try with_reducible rfl)
        simp only [Act.put, List.setIfInBounds_toArray, List.set_cons_zero, List.set_cons_succ]
        refine one_ (i := 7) _ (by kernel_rfl) rfl (fun K hK => ?_)
        go_simp
        refine CW.out.mono ?_
        rintro e w5 ⟨rfl, ht5⟩
        have T5 := Lib.hid ht5
        have y1 := (turned_far ht5 bltx FB.out).trans x1
        have y2 := (turned_far ht5 bltx FB.out).trans x2
        have blt5 := turned_lt ht5 bltx
        clear ht5
        go_wp2_with fail
        refine hK.out _ _ ⟨y1, y2⟩ (fun hHeld => ?_)
        clear hK K
        refine one_ (i := 19) _ (by kernel_rfl) rfl (fun K hK => ?_)
        go_simp
        refine (rwrite_str _ rd G4 r m o.i o.data (HBX.out.ref_after T5.out) HBX.out.sim OG.out.s HW.out.2.2).mono ?_
        rintro e w6 ⟨rfl, ht6⟩
        have T6 := Lib.hid ht6
        have z1 := (rturned_far ht6 blt5 FB.out).trans y1
        have z2 := (rturned_far ht6 blt5 FB.out).trans y2
        clear ht6
        go_wp2_with fail
        refine hK.out _ _ ⟨z1, z2⟩ (fun hHeld => ?_)
        clear hK K
        refine take_ (i := 20) (v := ?_) 65 rfl rfl (by kernel_rfl) (by kernel_rfl) (by kernel_rfl) (fun _ _ _ h => h) (Or.inl ⟨by rfl, ?_⟩) (by assumption) ?_
        rotate_left
        · (intro wS hSw; (try dsimp only at hSw); go_simp; try with_reducible rfl)
        simp only [Act.put, List.setIfInBounds_toArray, List.set_cons_zero, List.set_cons_succ]
        refine wpAnyH_done (by kernel_rfl) ?_ _
        refine NoPanic.normal ?_
        have BT : Hid (BTurned (Lib.bytesWorld wr 5 o.data).drew d F4 rd G4 w6 (k + 1)) := HBX.out.turn T5.out T6.out (HBX.out.sim.write HBX.out.disk.good.f0 o.i (nums o.data)) (Nat.le_trans (Dsk.load_write _ _) (Nat.succ_le_succ HBX.out.len))
        have SC : Hid (Scr w6 w6 wr.heap.size o.data.size) := Scr.start TB.out.drew XF.out XL.out T5.out T6.out FO.out
        clear y1 y2 z1 z2 x0 x1 x2 hx0 hx1 hx2 blt5 bltx CW kc
        go_wp2_with fail
        have sz : o.data.size ≤ 9223372036854775807 := OG.out.s
        obtain ⟨bw, hbw⟩ : ∃ y, y = wr.heap.size := ⟨_, rfl⟩
        have HBW := Lib.hid hbw
        rw [← hbw] at SC ⊢
        obtain ⟨wo, hwo⟩ : ∃ y : World, y = wr := ⟨_, rfl⟩
        rw [← hwo] at *
        clear hbw hwo
        go_loopw [11] (fun i wr => ∃ q : Nat, q ≤ o.data.size ∧ i = .int .i64 q ∧ Scr w6 wr bw o.data.size) (fun i _ => o.data.size - (intOf i).toNat)
        case atStart => exact ⟨0, by omega, rfl, SC.out⟩
        case round =>
          obtain ⟨q, hq, rfl, hSc⟩ := hrel
          have SC2 := Lib.hid hSc
          by_cases hq2 : q < o.data.size
          · obtain ⟨z, hz⟩ := hSc.cell q hq2
            have hfz := hSc.free q hq2
            have q0 : (0 : Int) ≤ (q : Int) := by omega
            have q1 : (q : Int) < (o.data.size : Int) := by omega
            clear hSc
            go_wp2_with fail
            go_roundw
            case rel => exact ⟨q + 1, by omega, by go_num, SC2.out.next _⟩
            case measure => simp [intOf]; omega
          · obtain rfl : q = o.data.size := by omega
            have REL : Hid (Rel w1 wr d rd (k + 1)) := Rel.scr B4.out BXD.out N4.out BT.out hSc.only (by rw [HBW.out]; exact Nat.le_refl _) (by rw [HBW.out]; exact XL.out) (by rw [HBW.out]; exact FO.out)
            clear hSc
            go_wp2_with fail
            go_roundw
            case rel => exact ⟨k + 1, by omega, by go_num, REL.out⟩
            case measure => simp [intOf]; omega
      · have k0 : ((o.kind : Int) % 6 == 0) = false := by simp; omega
        have HBX := Lib.hid (BO.out.under BX.out)
        have ST := Lib.hid (step_any (Lib.bytesWorld wr 5 o.data) d rd k F4 G4 m r o HBX.out (by omega) (OG.out.kept BX.out) OL.out)
        clear hk0
        go_wp2_with fail
        refine ST.out.mono ?_
        rintro e w5 ⟨rfl, ht⟩
        obtain ⟨F5, m5, G5, r5, hB5, B5', hN5⟩ := step_base (B4.out.trans (BX.out.mono B4.out.size)) N4.out ht
        have PB := Lib.hid hB5
        have B5 := Lib.hid B5'
        have N5 := Lib.hid hN5
        have y1 := (B5.out.cell (p := ⟨b, off + k * 4 + 1, none⟩) HB1LT.out).trans HX1.out
        clear hB5 B5' hN5 ht ST hx0 hx1 hx2 hx3 x0 x1 x2 x3 kc k0 hblt
        go_wp2_with fail
        refine (read_any _ d F5 m5 o.i PB.out.disk).mono ?_
        intro e w6 ht6
        obtain ⟨Ag, ng, cg, eg, rfl, hng, hb6, hsc⟩ := Got.of ht6
        have B6 := Lib.hid hb6
        have SC := Lib.hid hsc
        clear ht6 hb6 hsc y1
        go_wp2_with fail
        obtain ⟨bg, hbg⟩ : ∃ y, y = w5.heap.size := ⟨_, rfl⟩
        have HBG := Lib.hid hbg
        rw [← hbg] at SC
        clear hbg
        try (obtain ⟨wo, rfl⟩ : ∃ wo : World, wo = wr := ⟨_, rfl⟩)
        go_loopw [14] (fun i wr => ∃ q : Nat, q ≤ ng ∧ i = .int .i64 q ∧ ScrG w6 wr bg ng) (fun i _ => ng - (intOf i).toNat)
        case atStart => exact ⟨0, by omega, rfl, Only.refl _ _, fun h0 => (SC.out h0).2⟩
        case round =>
          obtain ⟨q, hq, rfl, hSc⟩ := hrel
          have SC2 := Lib.hid hSc
          by_cases hq2 : q < ng
          · obtain ⟨rfl, _⟩ := SC.out (by omega)
            obtain ⟨z, hz⟩ := (hSc.scr (by omega)).cell q hq2
            have hfz := (hSc.scr (by omega)).free q hq2
            have q0 : (0 : Int) ≤ (q : Int) := by omega
            have q1 : (q : Int) < (ng : Int) := by omega
            clear hSc
            go_wp2_with fail
            go_roundw
            case rel => exact ⟨q + 1, by omega, by go_num, SC2.out.next _⟩
            case measure => simp [intOf]; omega
          · obtain rfl : q = ng := by omega
            have hon : Only [w5.heap.size] w6 wr := by have := hSc.only; rw [HBG.out] at this; exact this
            obtain ⟨wz, rfl⟩ : ∃ wz : World, wz = wr := ⟨_, rfl⟩
            have P6 := Lib.hid (scribbled PB.out B6.out hon)
            have B7 := Lib.hid (scribbled_below B5.out B6.out hon)
            have y2 := (B7.out.cell (p := ⟨b, off + k * 4 + 1, none⟩) HB1LT.out).trans HX1.out
            clear hSc hon SC SC2 HBG
            go_wp2_with fail
            refine (durable_any _ d F5 m5 o.i P6.out.disk).mono ?_
            intro e w8 ht8
            obtain ⟨Ag2, ng2, cg2, eg2, rfl, hng2, hb8, hsc2⟩ := Got.of ht8
            have B8 := Lib.hid hb8
            have SC := Lib.hid hsc2
            clear ht8 hb8 hsc2 y2
            go_wp2_with fail
            obtain ⟨bg, hbg⟩ : ∃ y, y = wz.heap.size := ⟨_, rfl⟩
            have HBG := Lib.hid hbg
            rw [← hbg] at SC
            clear hbg
            go_loopw [15] (fun i wr => ∃ q : Nat, q ≤ ng2 ∧ i = .int .i64 q ∧ ScrG w8 wr bg ng2) (fun i _ => ng2 - (intOf i).toNat)
            case atStart => exact ⟨0, by omega, rfl, Only.refl _ _, fun h0 => (SC.out h0).2⟩
            case round =>
              obtain ⟨q, hq, rfl, hSc⟩ := hrel
              have SC2 := Lib.hid hSc
              by_cases hq2 : q < ng2
              · obtain ⟨rfl, _⟩ := SC.out (by omega)
                obtain ⟨z, hz⟩ := (hSc.scr (by omega)).cell q hq2
                have hfz := (hSc.scr (by omega)).free q hq2
                have q0 : (0 : Int) ≤ (q : Int) := by omega
                have q1 : (q : Int) < (ng2 : Int) := by omega
                clear hSc
                go_wp2_with fail
                go_roundw
                case rel => exact ⟨q + 1, by omega, by go_num, SC2.out.next _⟩
                case measure => simp [intOf]; omega
              · obtain rfl : q = ng2 := by omega
                have hon : Only [wz.heap.size] w8 wr := by have := hSc.only; rw [HBG.out] at this; exact this
                have REL : Hid (Rel w1 wr d rd (k + 1)) := ⟨F5, m5, G5, r5, scribbled P6.out B8.out hon, scribbled_below B7.out B8.out hon, N5.out⟩
                clear hSc hon
                go_wp2_with fail
                go_roundw
                case rel => exact ⟨k + 1, by omega, by go_num, REL.out⟩
                case measure => simp [intOf]; omega
    · obtain rfl : k = n := by omega
      have HW := Lib.hid (BO.out.wl (by omega))
      clear kc
      go_wp2_with fail
      refine (clone_any _ d F4 m BO.out.disk HW.out.1).mono ?_
      rintro e w5 ⟨cd, FC, rfl, hC, b5, n5⟩
      have B5 := Lib.hid b5
      have C5 := Lib.hid hC
      have N5 := Lib.hid n5
      clear hC b5 n5
      go_wp2_with fail
      refine (copy_any _ rd G4 r (BO.out.ref.below B5.out) HW.out.2.1).mono ?_
      rintro e w6 ⟨rc, GC, rfl, hR, b6, n6⟩
      have Q6 : Hid (Quad w1 w6 d rd cd rc (k + 0) (k + 0)) := Quad.start BO.out B4.out N4.out C5.out B5.out N5.out hR b6 n6
      clear hR b6 n6 BO C5 N5 B5 HW
      obtain ⟨wo, rfl⟩ : ∃ wo : World, wo = wr := ⟨_, rfl⟩
      go_wp2_with fail
      go_loopw [18] (fun i wr => ∃ j : Nat, j ≤ n2 ∧ i = .int .i64 j ∧ Quad w1 wr d rd cd rc k (k + j)) (fun i _ => n2 - (intOf i).toNat)
      case atStart => exact ⟨0, by omega, rfl, Q6.out⟩
      case round =>
        obtain ⟨j, hj, rfl, hQ⟩ := hrel
        have HQ := Lib.hid hQ
        clear hQ Q6
        by_cases hlt2 : j < n2
        · have i0 : (0 : Int) ≤ (j : Int) := by omega
          have i1 : (j : Int) < (n2 : Int) := by omega
          obtain ⟨b, off, o, rfl, hb1lt, hlk, hog, htk, h1x0, h1x1, h1x2, h1x3⟩ := L2.out.at_ hlt2
          have hx0 := (HQ.out.below.cell (p := ⟨b, off + j * 4, none⟩) hb1lt).trans h1x0
          have hx1 := (HQ.out.below.cell (p := ⟨b, off + j * 4 + 1, none⟩) hb1lt).trans h1x1
          have hx2 := (HQ.out.below.cell (p := ⟨b, off + j * 4 + 2, none⟩) hb1lt).trans h1x2
          have hx3 := (HQ.out.below.cell (p := ⟨b, off + j * 4 + 3, none⟩) hb1lt).trans h1x3
          have ST := Lib.hid (HQ.out.swap.step (o := o) (by omega) (hog.kept HQ.out.below) hog.lt)
          clear h1x0 h1x1 h1x2 h1x3 hlk htk hog
          go_wp2_with fail
          refine ST.out.mono ?_
          rintro e w7 ⟨rfl, hq⟩
          have Q7 := Lib.hid hq.swap
          clear hq hx0 hx1 hx2 hx3
          go_wp2_with fail
          go_roundw
          case rel => exact ⟨j + 1, by omega, by go_num, Q7.out⟩
          case measure => simp [intOf]; omega
        · obtain rfl : j = n2 := by omega
          obtain ⟨wz, rfl⟩ : ∃ wz : World, wz = wr := ⟨_, rfl⟩
          go_wp2_with fail
          go_loopw [19] (fun i wr => ∃ q : Nat, q ≤ k ∧ i = .int .i64 q ∧ Quad w1 wr d rd cd rc k (k + j)) (fun i _ => k - (intOf i).toNat)
          case atStart => exact ⟨0, by omega, rfl, HQ.out⟩
          case round =>
            obtain ⟨q, hq, rfl, hQ⟩ := hrel
            have HP := Lib.hid hQ
            clear hQ
            by_cases hlt3 : q < k
            · have i0 : (0 : Int) ≤ (q : Int) := by omega
              have i1 : (q : Int) < (k : Int) := by omega
              obtain ⟨b, off, o, rfl, hb1lt, hlk, hog, htk, h1x0, h1x1, h1x2, h1x3⟩ := L1.out.at_ hlt3
              have hx1 := (HP.out.below.cell (p := ⟨b, off + q * 4 + 1, none⟩) hb1lt).trans h1x1
              have HX := Lib.hid h1x1
              have HB := Lib.hid hb1lt
              have o0 := hog.i0
              have o1 := hog.i1
              clear hlk htk hog h1x0 h1x1 h1x2 h1x3 hb1lt
              go_wp2_with fail
              refine (HP.out.look1 (i := o.i) (by omega) o0 o1).mono ?_
              rintro e w7 ⟨rfl, hq7⟩
              have Q7 := Lib.hid hq7
              have hx2 := (hq7.below.cell (p := ⟨b, off + q * 4 + 1, none⟩) HB.out).trans HX.out
              clear hq7 hx1
              go_wp2_with fail
              refine (Q7.out.look5 (i := o.i) (by omega) o0 o1).mono ?_
              rintro e w8 ⟨rfl, hq8⟩
              have Q8 := Lib.hid hq8
              have hx3 := (hq8.below.cell (p := ⟨b, off + q * 4 + 1, none⟩) HB.out).trans HX.out
              clear hq8 hx2
              go_wp2_with fail
              refine (Q8.out.swap.look5 (i := o.i) (by omega) o0 o1).mono ?_
              rintro e w9 ⟨rfl, hq9⟩
              have Q9 : Hid (Quad w1 w9 d rd cd rc k (k + j)) := hq9.swap
              clear hq9 hx3
              go_wp2_with fail
              go_roundw
              case rel => exact ⟨q + 1, by omega, by go_num, Q9.out⟩
              case measure => simp [intOf]; omega
            · obtain rfl : q = k := by omega
              obtain ⟨FZ, mz, Az, cz, dz, qz⟩ := HP.out.cells
              have P15 : Hid (∀ kk, Calls Try.prog 15 #[.pointer (some ⟨d, 0, none⟩)] (wr.drewN kk) fun e w' => e = .returned (.int .i64 (mz.wait.length : Int)) ∧ wr.drewN kk = w') := fun kk => pending_any _ d FZ mz (dz.drewN kk)
              have FB := Lib.hid (B1.out.trans (HP.out.below.mono B1.out.size))
              clear dz
              generalize mz.wait.length = nz at *
              go_wp2_with fail
              go_quiet ((go_at_call 15; exact Calls.quiet_of_same ((P15.out _).mono fun _ _ h => ⟨h.1, h.2.symm⟩)))
              go_wp2_with fail
              go_ret
              refine ⟨by simp, FB.out.trans ⟨rfl, rfl, rfl, Nat.le_refl _, fun _ _ => rfl⟩⟩
theorem opens {H : Type} {enc : TypeId × Value → H} {W : World} {base : Nat} {args : Array Value} {ds : List (DataW H)} {p : List MemPlace}
    (hval : ∀ (j : Nat) t v, Try.f4.params[j]? = some t → args[j]? = some v → Value.okWide Try.prog W .any base t v)
    (hA : DataW.TrodAll enc Try.prog W 0 (fun _ => true) true Try.f4.params.toList args.toList ds p) (hlt : ∀ x ∈ p, x.block < W.heap.size) (hsz : (DataW.weightsEach Try.prog Try.f4.params.toList ds).all (· ≤ reachBytes) = true) :
    Calls Try.prog 4 args W fun e W' => e = .returned (.bool true) ∧ Below W.heap.size W W' := by
  rw [Try.params4] at hA hval hsz
  obtain ⟨v0, vs0, d0, ds0, p0, q0, hargs, rfl, rfl, h0, r0⟩ := trodAll_cons hA
  obtain ⟨v1, vs1, d1, ds1, p1, q1, rfl, rfl, rfl, h1, r1⟩ := trodAll_cons r0
  obtain ⟨v2, vs2, d2, ds2, p2, q2, rfl, rfl, rfl, h2, r2⟩ := trodAll_cons r1
  obtain ⟨rfl, rfl, rfl⟩ := trodAll_nil r2
  obtain rfl : args = #[v0, v1, v2] := by cases args; simp_all
  obtain ⟨x, rfl, _, _⟩ := open_i64 (hval 0 3 v0 rfl rfl) h0
  obtain ⟨A, n, c, l, rfl, hl, _, hd⟩ := open_ops (hval 1 22 v1 rfl rfl) h1
  obtain ⟨A2, n2, c2, l2, rfl, hl2, _, hd2⟩ := open_ops (hval 2 22 v2 rfl rfl) h2
  have hn : n ≤ 2513169434844 := by
    rcases hd with ⟨_, rfl⟩ | ⟨el, sp, rfl, h2⟩
    · omega
    · have := sized_slice hsz (j := 1) (t := 22) (e := 35) rfl rfl Try.underlying22
      rw [bytesOp] at this
      simp only [reachBytes] at this
      omega
  have hn2 : n2 ≤ 2513169434844 := by
    rcases hd2 with ⟨_, rfl⟩ | ⟨el, sp, rfl, h2⟩
    · omega
    · have := sized_slice hsz (j := 2) (t := 22) (e := 35) rfl rfl Try.underlying22
      rw [bytesOp] at this
      simp only [reachBytes] at this
      omega
  exact walk x A n c l A2 n2 c2 l2 W hl (by omega) hl2 (by omega) (by omega)

set_option maxRecDepth 100000 in
theorem lifted (os : Os) (started : os.Started) (H : Type) (enc : TypeId × Value → H) :
    ReturnsInHanded {} Try.checked os 4 .any (Rows.diskClonesSpec.pre6 enc Try.prog Try.f4 Rows.diskClonesRow.domain false) (Rows.diskClonesSpec.post enc Try.prog Try.f4 false true false false) := by
  refine returnsInHanded_of_change_sized (C := Try.checked) own started (by kernel_rfl) Try.func4
    (ChangeSpec.witness6 (enc := enc) (C := Try.checked) false ⟨#[], #[.int .i64 0, .slice none 0 0, .slice none 0 0], []⟩ 8 (by kernel_rfl) (by kernel_rfl) (by kernel_rfl) (by kernel_rfl)) ?_
  intro W base args ds gs before hval hW _ hsz0 _
  refine law_calls laidOut Try.underlying4 rfl (by rw [Try.params4]; exact of_decide_eq_true (by kernel_rfl)) rfl (fun ds h => by match ds, h with | [_, _, _], _ => rfl) hW ?_
  obtain ⟨rfl, p, hA, hlt⟩ := law_args rfl hW
  have hsz : (DataW.weightsEach Try.prog (Try.f4.params.toList ++ []) (ds ++ [])).all (· ≤ reachBytes) = true := hsz0
  rw [List.append_nil, List.append_nil] at hsz
  exact opens hval hA hlt hsz

theorem over : Rows.diskClonesRow.holds Try.pinned (OpenSpec.ofChange Rows.diskClonesSpec) :=
  OpenClaim.holds_of_wide 4 Try.f4 rfl rfl rfl rfl rfl rfl rfl ⟨rfl, rfl, rfl, rfl, rfl⟩ rfl rfl rfl rfl rfl (by kernel_rfl) Try.func4 (by kernel_rfl)
    (of_decide_eq_true (by kernel_rfl)) (by unfold Func.isWrapper; first | (rw [if_pos (by decide +kernel)]; kernel_rfl) | (rw [if_neg (by decide +kernel)]; exact ⟨rfl, rfl⟩))
    (fun os started H enc _ => lifted os started H enc)

theorem proved : Rows.DiskClonesSaid := over

end Go.Proofs.Ytejpefiblodefaa.diskClones
