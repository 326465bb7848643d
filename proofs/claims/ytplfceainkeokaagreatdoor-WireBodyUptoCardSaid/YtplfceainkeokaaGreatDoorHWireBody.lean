/-
  WireBody: a body of any bytes comes as it is, with a length or in chunks, and ends just there (where all that comes in is of bulk at most 1048576).
-/
import Derived.Test.YtplfceainkeokaaGreatDoorQF2
import Derived.Test.YtplfceainkeokaaGreatDoorQWi
import Derived.Test.YtplfceainkeokaaGreatDoorBulk
namespace Go.Proofs.YtplfceainkeokaaGreatDoor.wireBody
open Go.ChangeShapes Go.WideShapes Go.ChangeAt Go.RowKit Go.Deep Reply

def hd : Reply.B := [80, 85, 84, 32, 47, 120, 32, 72, 84, 84, 80, 47, 49, 46, 49, 13, 10, 104, 111, 115, 116, 58, 32, 104, 13, 10]
theorem text1 (b z : Reply.B) : S hd ++ ⟨#[67, 111, 110, 116, 101, 110, 116, 45, 76, 101, 110, 103, 116, 104, 58, 32]⟩ ++ S (Wire.digs 10 b.length) ++ ⟨#[13, 10, 13, 10]⟩ ++ S b ++ S z = S (Wire.headL ((Wire.nLen ++ 58 :: (32 :: Wire.digs 10 b.length)) ++ Wire.eol ++ ([] ++ Wire.eol ++ (b ++ z)))) := by
  rw [show (⟨#[67, 111, 110, 116, 101, 110, 116, 45, 76, 101, 110, 103, 116, 104, 58, 32]⟩ : ByteArray) = S [67, 111, 110, 116, 101, 110, 116, 45, 76, 101, 110, 103, 116, 104, 58, 32] from rfl, show (⟨#[13, 10, 13, 10]⟩ : ByteArray) = S [13, 10, 13, 10] from rfl]
  simp only [S_append]
  refine congrArg S ?_
  generalize Wire.digs 10 b.length = D
  unfold Wire.headL Wire.firstL
  simp [Wire.put, Wire.slashX, Wire.http11, Wire.eol, Wire.hostH, Wire.nHost, Wire.nLen, hd]
/-- The text in chunks, but for what stands behind. -/
def whole (l : List Reply.B) : Reply.B := Wire.headL (Wire.chunkH ++ (Wire.chunks Wire.extL l ++ Wire.tailL))
theorem text2 (l : List Reply.B) : S hd ++ ⟨#[84, 114, 97, 110, 115, 102, 101, 114, 45, 69, 110, 99, 111, 100, 105, 110, 103, 58, 32, 67, 104, 117, 110, 107, 101, 100, 13, 10, 13, 10]⟩ ++ S (Wire.chunks Wire.extL l) ++ ⟨#[48, 48, 13, 10, 110, 111, 116, 101, 58, 32, 120, 13, 10, 13, 10]⟩ = S (whole l) := by
  rw [show (⟨#[84, 114, 97, 110, 115, 102, 101, 114, 45, 69, 110, 99, 111, 100, 105, 110, 103, 58, 32, 67, 104, 117, 110, 107, 101, 100, 13, 10, 13, 10]⟩ : ByteArray) = S [84, 114, 97, 110, 115, 102, 101, 114, 45, 69, 110, 99, 111, 100, 105, 110, 103, 58, 32, 67, 104, 117, 110, 107, 101, 100, 13, 10, 13, 10] from rfl, show (⟨#[48, 48, 13, 10, 110, 111, 116, 101, 58, 32, 120, 13, 10, 13, 10]⟩ : ByteArray) = S [48, 48, 13, 10, 110, 111, 116, 101, 58, 32, 120, 13, 10, 13, 10] from rfl]
  simp only [S_append]
  refine congrArg S ?_
  unfold whole
  generalize Wire.chunks Wire.extL l = D
  unfold Wire.headL Wire.firstL Wire.chunkH Wire.tailL
  simp [Wire.put, Wire.slashX, Wire.http11, Wire.eol, Wire.hostH, Wire.nHost, Wire.nTra, Wire.vChu, Wire.zeros, Wire.noteX, hd]
theorem chunks_snoc (l : List Reply.B) (p : Reply.B) : Wire.chunks Wire.extL (l ++ [p]) = Wire.chunks Wire.extL l ++ ((Wire.digs 16 p.length ++ Wire.extL) ++ Wire.eol ++ (p ++ Wire.eol)) := by
  unfold Wire.chunks
  rw [List.flatMap_append]
  simp
theorem text3 (l : List Reply.B) (p : Reply.B) : S (Wire.chunks Wire.extL l) ++ (S (Wire.digs 16 p.length) ++ ⟨#[59, 120, 61, 34, 121, 34, 13, 10]⟩ ++ S p ++ ⟨#[13, 10]⟩) = S (Wire.chunks Wire.extL (l ++ [p])) := by
  rw [show (⟨#[59, 120, 61, 34, 121, 34, 13, 10]⟩ : ByteArray) = S [59, 120, 61, 34, 121, 34, 13, 10] from rfl, show (⟨#[13, 10]⟩ : ByteArray) = S [13, 10] from rfl, chunks_snoc]
  simp only [S_append]
  refine congrArg S ?_
  generalize Wire.digs 16 p.length = D
  simp [Wire.extL, Wire.eol]
theorem chunks_len : ∀ (l : List Reply.B), (∀ b ∈ l, 0 < b.length) → l.flatten.length ≤ 8192 → (Wire.chunks Wire.extL l).length ≤ 16 * l.flatten.length
  | [], _, _ => Nat.zero_le _
  | p :: l, h, hf => by
    rw [List.flatten_cons, List.length_append] at hf
    have i := chunks_len l (fun b hb => h b (List.mem_cons_of_mem _ hb)) (by omega)
    have h0 := h p (by simp)
    have d := Wire.digs_len (base := 16) (by omega) 3 p.length (by omega)
    rw [Wire.chunks_cons, List.flatten_cons]
    simp only [List.length_append, show Wire.extL.length = 6 from rfl, show Wire.eol.length = 2 from rfl]
    omega
/-- What the loop holds: pieces taken off, none empty, and the rest. -/
structure Cut (body : Reply.B) (done : List Reply.B) (rest : Reply.B) : Prop where
  eq : done.flatten ++ rest = body
  pos : ∀ b ∈ done, 0 < b.length
theorem Cut.next {body rest : Reply.B} {done : List Reply.B} (h : Cut body done rest) {k : Nat} (h0 : 0 < k) (hk : k ≤ rest.length) : Cut body (done ++ [rest.take k]) (rest.drop k) :=
  ⟨by rw [List.flatten_append, List.append_assoc]; simp; exact h.eq, fun b hb => by
    rcases List.mem_append.1 hb with hb | hb
    · exact h.pos b hb
    · rw [List.mem_singleton.1 hb, List.length_take]; omega⟩
set_option maxRecDepth 100000 in
theorem open_strB {H : Type} {enc : TypeId × Value → H} {W : World} {r : Reach} {b0 : Nat} {v : Value} {d : DataW H} {p : List MemPlace} (hv : Value.okWide Tryz.prog W r b0 9 v) (h : DataW.Trod enc Tryz.prog W 0 (fun _ => true) true 9 v d p) :
    ∃ l : Reply.B, v = .string (S l) ∧ l.length ≤ Rows.uptoBulk d := by
  obtain ⟨s, rfl⟩ := okWide_string Tryz.underlying9 hv
  obtain ⟨fuel, hf⟩ := h
  obtain ⟨z, e, x, _⟩ := DataW.trod_string Tryz.underlying9 hf
  simp only [Prod.mk.injEq] at x
  rw [x.1]
  simp only [Rows.uptoBulk]
  have e1 : s = z := by simpa [Value.cells] using e
  subst e1
  exact ⟨s.data.toList, by rw [S_of], by omega⟩
theorem flat_len : ∀ (l : List Reply.B), (∀ b ∈ l, 0 < b.length) → l.length ≤ l.flatten.length
  | [], _ => Nat.le_refl _
  | p :: l, h => by
    have i := flat_len l (fun b hb => h b (List.mem_cons_of_mem _ hb))
    have h0 := h p (by simp)
    rw [List.flatten_cons, List.length_append, List.length_cons]
    omega
def strSz : Value → Nat
  | .string s => s.size
  | _ => 0
set_option maxRecDepth 100000 in
set_option maxHeartbeats 64000000 in
theorem walk (w : World) (E : Env w) (l z : Reply.B) (A : Option Addr) (n c : Nat) (us : List Nat) (hB : Bts w A n us) (hl : l.length + z.length ≤ 1048576) (hn : n ≤ 1048576) :
    Calls Tryz.prog 4 #[.string (S l), .slice A n c, .string (S z)] w fun e w' => e = .returned (.bool true) ∧ Below w.heap.size w w' := by
  have HE := Lib.hid E
  have FX := Lib.hid (fun u K => fixed_any closes_all u K)
  obtain ⟨ls, hls⟩ : ∃ x, x = S l := ⟨_, rfl⟩
  obtain ⟨zs, hzs⟩ : ∃ x, x = S z := ⟨_, rfl⟩
  have lsz : ls.size = l.length := by rw [hls, S_size]
  have zsz : zs.size = z.length := by rw [hzs, S_size]
  have HBT := Lib.hid hB
  have LS := Lib.hid hls
  have LZ := Lib.hid lsz
  have ZZ := Lib.hid zsz
  have ZS := Lib.hid hzs
  have HL := Lib.hid hl
  rw [← hls, ← hzs]
  clear hB
  by_cases hbig : 8192 < l.length
  · have f1 : decide ((8192 : Int) < (ls.size : Int)) = true := decide_eq_true (by omega)
    have f1' : (8192 : Int) < (ls.size : Int) := by omega
    clear E hls hzs lsz zsz hl hbig
    go_enter Tryz.func4, Tryz.ntmps4
    go_wp2_with fail
    refine (FX.out _ HE.out).mono ?_
    rintro e w1 ⟨rfl, hb⟩
    have B1 := Lib.hid hb
    clear hb
    go_wp2_with fail
    refine (FX.out _ (HE.out.below B1.out)).mono ?_
    rintro e w2 ⟨rfl, hb⟩
    have B2 := Lib.hid (B1.out.trans (hb.mono B1.out.size))
    clear hb
    go_wp2_with fail
    go_ret
    exact ⟨rfl, B2.out⟩
  · have f1 : decide ((8192 : Int) < (ls.size : Int)) = false := decide_eq_false (by omega)
    have f1' : ¬ (8192 : Int) < (ls.size : Int) := by omega
    have l8 : l.length ≤ 8192 := by omega
    obtain ⟨t, s1, hr1, hbody, hput⟩ := Wire.runs_sized l8 z
    have tpos := Wire.runs_pos hr1
    obtain ⟨ds, hds⟩ : ∃ x, x = S (Wire.digs 10 l.length) := ⟨_, rfl⟩
    have dsz : ds.size ≤ 10 := by rw [hds, S_size]; have := Wire.digs_len (base := 10) (by omega) 3 l.length (by omega); omega
    have NU1 : Hid (∀ u, Calls Tryz.prog 11 #[.int .i64 (ls.size : Int), .int .i64 10] u fun e w' => e = .returned (.string ds) ∧ u = w') := fun u => by
      have := lnumber_any 10 (.inl rfl) l.length (by omega) u
      rw [← hds, ← lsz] at this
      exact this
    have T1 := text1 l z
    rw [← hls, ← hzs, ← hds, show S hd = ⟨#[80, 85, 84, 32, 47, 120, 32, 72, 84, 84, 80, 47, 49, 46, 49, 13, 10, 104, 111, 115, 116, 58, 32, 104, 13, 10]⟩ from rfl] at T1
    have RD1 : Wire.Reads (Wire.headL ((Wire.nLen ++ 58 :: (32 :: Wire.digs 10 l.length)) ++ Wire.eol ++ ([] ++ Wire.eol ++ (l ++ z)))) s1.q t 0 := ⟨t, s1, hr1, .inl ⟨rfl, rfl, rfl⟩⟩
    have L1 : (Wire.headL ((Wire.nLen ++ 58 :: (32 :: Wire.digs 10 l.length)) ++ Wire.eol ++ ([] ++ Wire.eol ++ (l ++ z)))).length ≤ 4194304 := by
      rw [← S_size, ← T1]
      simp only [ByteArray.size_append]
      show 26 + 16 + ds.size + 4 + ls.size + zs.size ≤ _
      omega
    obtain ⟨qt, hqt⟩ : ∃ x, x = S s1.q.target := ⟨_, rfl⟩
    obtain ⟨qn, hqn⟩ : ∃ x, x = s1.q.headers.length := ⟨_, rfl⟩
    obtain ⟨qc, hqc⟩ : ∃ x, x = s1.q.close := ⟨_, rfl⟩
    have R1 := Lib.hid (fun u (K : Env u) => readN u K _ L1 RD1 T1 (show (⟨#[80, 85, 84]⟩ : ByteArray) = S s1.q.method by rw [hput]; rfl) hqt (show ls = S s1.q.body by rw [hbody, hls]) hqn hqc)
    have tz : (0 : Int) < (t : Int) := by omega
    have tzd : decide ((0 : Int) < (t : Int)) = true := decide_eq_true tz
    have tzn : 0 < t := tpos
    have q1 : ¬ 9223372036854775807 < 42 + ds.size := by omega
    have lim1 : ls.size ≤ 8192 := by omega
    have lim2 : zs.size ≤ 1048576 := by omega
    clear E hls hzs lsz zsz hl hbig hr1 hbody hput tpos hds T1 RD1 L1 hqt hqn hqc
    go_enter Tryz.func4, Tryz.ntmps4
    go_wp2_with fail
    refine (FX.out _ HE.out).mono ?_
    rintro e w1 ⟨rfl, hb⟩
    have B1 := Lib.hid hb
    clear hb FX
    go_wp2_with fail
    refine (NU1.out _).mono ?_
    rintro e w' ⟨rfl, rfl⟩
    clear NU1
    go_wp2_with fail
    refine (R1.out _ (HE.out.below B1.out)).mono ?_
    rintro e w2 ⟨⟨A1, d1, rfl, _⟩, hb⟩
    have B2 : Hid (Below w.heap.size w (w2.alloc (.cells #[.string ⟨#[80, 85, 84]⟩, .string qt, .slice A1 qn d1, .string ls, .bool qc] 26))) := by
      have h := B1.out.trans (hb.mono B1.out.size)
      exact h.alloc h.size _
    clear hb R1
    go_wp2_with fail
    go_loopw [11, 12, 13] (fun v11 v12 v13 wr => ∃ (done : List Reply.B) (rest : Reply.B), v11 = .string (S (Wire.chunks Wire.extL done)) ∧ v12 = .string (S rest) ∧ v13 = .int .i64 (done.length : Int) ∧ Hid (Cut l done rest) ∧ Hid (Below w.heap.size w wr)) (fun _ v12 _ _ => strSz v12)
    case atStart => exact ⟨[], l, rfl, by rw [LS.out], rfl, ⟨rfl, fun b hb => by cases hb⟩, B2⟩
    case round =>
      obtain ⟨done, rest, rfl, rfl, rfl, HC, HB⟩ := hrel
      have FL : Hid (done.flatten.length + rest.length = l.length) := by show _ = _; rw [← List.length_append, HC.out.eq]
      have DN : Hid (done.length ≤ done.flatten.length) := flat_len done HC.out.pos
      have CS : Hid ((S (Wire.chunks Wire.extL done)).size ≤ 131072) := by show _ ≤ _; rw [S_size]; have := chunks_len done HC.out.pos (by have := FL.out; omega); have := FL.out; omega
      obtain ⟨i, hi⟩ : ∃ i, i = done.length := ⟨_, rfl⟩
      have i8 : i ≤ 8192 := by rw [hi]; have := FL.out; have := DN.out; omega
      obtain ⟨rs, hrs⟩ : ∃ x, x = S rest := ⟨_, rfl⟩
      have rsz : rs.size = rest.length := by rw [hrs, S_size]
      have RS := Lib.hid hrs
      have RZ := Lib.hid rsz
      have r8 : rs.size ≤ 8192 := by rw [rsz]; have := FL.out; omega
      obtain ⟨cs, hcs⟩ : ∃ x, x = S (Wire.chunks Wire.extL done) := ⟨_, rfl⟩
      rw [← hcs] at CS ⊢
      rw [← hrs, ← hi]
      have HI := Lib.hid hi
      have HCS := Lib.hid hcs
      have cz : cs.size ≤ 131072 := CS.out
      clear hrs hi hcs rsz
      by_cases hlt : 0 < rs.size
      · have f0 : decide ((0 : Int) < (rs.size : Int)) = true := decide_eq_true (by omega)
        have f0n : decide (0 < rs.size) = true := decide_eq_true hlt
        have ONE_ : Hid (∀ k, 0 < k → k ≤ rs.size → ∃ (ps hs : ByteArray), rs.extract 0 k = ps ∧ ps.size = k ∧ hs.size ≤ 10 ∧ (∀ u, Calls Tryz.prog 11 #[.int .i64 (k : Int), .int .i64 16] u fun e w' => e = .returned (.string hs) ∧ u = w') ∧ ∃ ns ns2, ns = S (rest.drop k) ∧ rs.extract k rs.size = ns ∧ ns.size < rs.size ∧ ns2 = S (Wire.chunks Wire.extL (done ++ [rest.take k])) ∧ cs ++ (hs ++ ⟨#[59, 120, 61, 34, 121, 34, 13, 10]⟩ ++ ps ++ ⟨#[13, 10]⟩) = ns2 ∧ Cut l (done ++ [rest.take k]) (rest.drop k)) := fun k h0 hk => by
          have hk' : k ≤ rest.length := by rw [← RZ.out]; exact hk
          have pl : (rest.take k).length = k := by rw [List.length_take]; omega
          refine ⟨S (rest.take k), S (Wire.digs 16 k), by rw [RS.out, S_extract]; simp, by rw [S_size, pl], by rw [S_size]; have := Wire.digs_len (base := 16) (by omega) 3 k (by have := RZ.out; omega); omega, fun u => lnumber_any 16 (.inr rfl) k (by omega) u, _, _, rfl, by rw [RZ.out, RS.out, S_extract, List.take_of_length_le (by rw [List.length_drop]; exact Nat.le_refl _)], by rw [S_size, List.length_drop, RZ.out]; omega, rfl, ?_, HC.out.next h0 hk'⟩
          have := text3 done (rest.take k)
          rw [pl] at this
          rw [HCS.out]
          exact this
        by_cases hcut : i < n ∧ i < 100
        · obtain ⟨hc1, hc2⟩ := hcut
          have g1 : decide ((i : Int) < (n : Int)) = true := decide_eq_true (by omega)
          have g1n : decide (i < n) = true := decide_eq_true hc1
          have g2 : decide ((i : Int) < 100) = true := decide_eq_true (by omega)
          have g1z : (i : Int) < (n : Int) := by omega
          obtain ⟨hul, hu8, hcell⟩ := HBT.out
          obtain ⟨g, off, rfl, glt, hci⟩ := hcell (by omega)
          obtain ⟨u, hu⟩ : ∃ u, u = us.getD i 0 := ⟨_, rfl⟩
          have cu : wr.cell? ⟨g, off + i, none⟩ = some (.int .u8 (u : Int)) := by
            rw [hu, World.cell?_of_block (HB.out.block g glt)]
            exact hci i hc1
          have u8 : u < 256 := by
            rw [hu, List.getD_eq_getElem?_getD, List.getElem?_eq_getElem (by rw [hul]; exact hc1)]
            exact hu8 _ (List.getElem_mem _)
          obtain ⟨k, hk⟩ : ∃ k, k = min rs.size (u + 1) := ⟨_, rfl⟩
          have hmi : (if (u : Int) + 1 < (rs.size : Int) then (u : Int) + 1 else (rs.size : Int)) = (k : Int) := by split <;> omega
          have hmj : min (rs.size : Int) ((u : Int) + 1) = (k : Int) := by omega
          have k0 : 0 < k := by omega
          have kr : k ≤ rs.size := by omega
          have hmn : min rs.size (u + 1) = k := hk.symm
          clear hu hci hcell hul hu8 hk
          obtain ⟨ps, hs, X1, pz, hz, NU, ns, ns2, hns, X2, nlt, hns2, CT, NC⟩ := ONE_.out k k0 kr
          have q3 : ¬ 9223372036854775807 < hs.size + 8 := by omega
          have q4 : ¬ 9223372036854775807 < hs.size + 8 + ps.size := by omega
          have q5 : ¬ 9223372036854775807 < hs.size + 8 + ps.size + 2 := by omega
          have q6 : ¬ 9223372036854775807 < cs.size + (hs.size + 8 + ps.size + 2) := by omega
          have krz : (k : Int) ≤ (rs.size : Int) := by omega
          have NU2 := Lib.hid NU
          have NC2 := Lib.hid NC
          have HNS := Lib.hid hns
          have HNS2 := Lib.hid hns2
          have NLT := Lib.hid nlt
          have B9 : Hid (∀ j, Below w.heap.size w (wr.drewN j)) := fun j => below_drewN HB.out j
          clear NU NC hns hns2 ONE_ nlt pz
          go_upto_region 14 with fail
          refine wp_region_noPanic ?_
          refine wp_region_held_drew (S := fun _ => True) (by kernel_rfl) trivial (fun hHeld => ?_)
          refine take_ (i := 0) (v := ?_) 80 rfl rfl (by kernel_rfl) (by kernel_rfl) (by kernel_rfl) (fun _ _ _ h => h) (Or.inl ⟨by rfl, ?_⟩) (by assumption) ?_
          rotate_left
          · (intro wS hSw; (try dsimp only at hSw); go_simp; try with_reducible rfl)
          simp only [Act.put, List.setIfInBounds_toArray, List.set_cons_zero, List.set_cons_succ]
          refine take_ (i := 1) (v := ?_) 81 rfl rfl (by kernel_rfl) (by kernel_rfl) (by kernel_rfl) (fun _ _ _ h => h) (Or.inl ⟨by rfl, ?_⟩) (by assumption) ?_
          rotate_left
          · (intro wS hSw; (try dsimp only at hSw); go_simp; try with_reducible rfl)
          simp only [Act.put, List.setIfInBounds_toArray, List.set_cons_zero, List.set_cons_succ]
          refine take_ (i := 4) (v := ?_) 84 rfl rfl (by kernel_rfl) (by kernel_rfl) (by kernel_rfl) (fun _ _ _ h => h) (Or.inl ⟨by rfl, ?_⟩) (by assumption) ?_
          rotate_left
          · (intro wS hSw; (try dsimp only at hSw); go_simp; try with_reducible rfl)
          simp only [Act.put, List.setIfInBounds_toArray, List.set_cons_zero, List.set_cons_succ]
          refine take_ (i := 5) (v := ?_) 85 rfl rfl (by kernel_rfl) (by kernel_rfl) (by kernel_rfl) (fun _ _ _ h => h) (Or.inl ⟨by rfl, ?_⟩) (by assumption) ?_
          rotate_left
          · (intro wS hSw; (try dsimp only at hSw); go_simp; try with_reducible rfl)
          simp only [Act.put, List.setIfInBounds_toArray, List.set_cons_zero, List.set_cons_succ]
          refine take_ (i := 6) (v := ?_) 86 rfl rfl (by kernel_rfl) (by kernel_rfl) (by kernel_rfl) (fun _ _ _ h => h) (Or.inl ⟨by rfl, ?_⟩) (by assumption) ?_
          rotate_left
          · (intro wS hSw; (try dsimp only at hSw); go_simp; try with_reducible rfl)
          simp only [Act.put, List.setIfInBounds_toArray, List.set_cons_zero, List.set_cons_succ]
          refine one_ (i := 2) _ (by kernel_rfl) rfl (fun K hK => ?_)
          go_simp
          refine (NU2.out _).mono ?_
          rintro e w5 ⟨rfl, rfl⟩
          dsimp only
          refine hK.out _ _ trivial (fun hHeld => ?_)
          clear hK K
          refine take_ (i := 3) (v := ?_) 83 rfl rfl (by kernel_rfl) (by kernel_rfl) (by kernel_rfl) (fun _ _ _ h => h) (Or.inl ⟨by rfl, ?_⟩) (by assumption) ?_
          rotate_left
          · (intro wS hSw; (try dsimp only at hSw); go_simp; try with_reducible rfl)
          simp only [Act.put, List.setIfInBounds_toArray]
          refine take_ (i := 7) (v := ?_) 87 rfl rfl (by kernel_rfl) (by kernel_rfl) (by kernel_rfl) (fun _ _ _ h => h) (Or.inl ⟨by rfl, ?_⟩) (by assumption) ?_
          rotate_left
          · (intro wS hSw; (try dsimp only at hSw); go_simp; try with_reducible rfl)
          simp only [Act.put, List.setIfInBounds_toArray]
          refine take_ (i := 8) (v := ?_) 88 rfl rfl (by kernel_rfl) (by kernel_rfl) (by kernel_rfl) (fun _ _ _ h => h) (Or.inl ⟨by rfl, ?_⟩) (by assumption) ?_
          rotate_left
          · (intro wS hSw; (try dsimp only at hSw); go_simp; try with_reducible rfl)
          simp only [Act.put, List.setIfInBounds_toArray]
          refine take_ (i := 9) (v := ?_) 89 rfl rfl (by kernel_rfl) (by kernel_rfl) (by kernel_rfl) (fun _ _ _ h => h) (Or.inl ⟨by rfl, ?_⟩) (by assumption) ?_
          rotate_left
          · (intro wS hSw; (try dsimp only at hSw); go_simp; try with_reducible rfl)
          simp only [Act.put, List.setIfInBounds_toArray]
          refine take_ (i := 10) (v := ?_) 11 rfl rfl (by kernel_rfl) (by kernel_rfl) (by kernel_rfl) (fun _ _ _ h => h) (Or.inl ⟨by rfl, ?_⟩) (by assumption) ?_
          rotate_left
          · (intro wS hSw; (try dsimp only at hSw); go_simp; try with_reducible rfl)
          simp only [Act.put, List.setIfInBounds_toArray]
          refine wpAnyH_done (by kernel_rfl) ?_ _
          refine NoPanic.normal ?_
          go_wp2_with fail
          go_roundw
          case rel => exact ⟨done ++ [rest.take k], rest.drop k, by rw [HNS2.out], by rw [HNS.out], by rw [HI.out, List.length_append]; rfl, NC2, HB.out.drew⟩
          case measure => exact NLT.out
        · obtain ⟨k, hkk⟩ : ∃ k, k = rs.size := ⟨_, rfl⟩
          have k0 : 0 < k := by omega
          have kr : k ≤ rs.size := by omega
          by_cases hc1 : i < n
          · have g1 : decide ((i : Int) < (n : Int)) = true := decide_eq_true (by omega)
            have g1n : decide (i < n) = true := decide_eq_true hc1
            have g2 : decide ((i : Int) < 100) = false := decide_eq_false (by omega)
            have g2' : ¬ (i : Int) < 100 := by omega
            clear hcut
            obtain ⟨ps, hs, X1, pz, hz, NU, ns, ns2, hns, X2, nlt, hns2, CT, NC⟩ := ONE_.out k k0 kr
            have q3 : ¬ 9223372036854775807 < hs.size + 8 := by omega
            have q4 : ¬ 9223372036854775807 < hs.size + 8 + ps.size := by omega
            have q5 : ¬ 9223372036854775807 < hs.size + 8 + ps.size + 2 := by omega
            have q6 : ¬ 9223372036854775807 < cs.size + (hs.size + 8 + ps.size + 2) := by omega
            have krz : (k : Int) ≤ (rs.size : Int) := by omega
            have NU2 := Lib.hid NU
            have NC2 := Lib.hid NC
            have HNS := Lib.hid hns
            have HNS2 := Lib.hid hns2
            have NLT := Lib.hid nlt
            have B9 : Hid (∀ j, Below w.heap.size w (wr.drewN j)) := fun j => below_drewN HB.out j
            clear NU NC hns hns2 ONE_ nlt pz
            have hsz : rs.size = k := hkk.symm
            rw [hsz] at X2
            clear hkk
            go_upto_region 14 with fail
            refine wp_region_noPanic ?_
            refine wp_region_held_drew (S := fun _ => True) (by kernel_rfl) trivial (fun hHeld => ?_)
            refine take_ (i := 0) (v := ?_) 80 rfl rfl (by kernel_rfl) (by kernel_rfl) (by kernel_rfl) (fun _ _ _ h => h) (Or.inl ⟨by rfl, ?_⟩) (by assumption) ?_
            rotate_left
            · (intro wS hSw; (try dsimp only at hSw); go_simp; try with_reducible rfl)
            simp only [Act.put, List.setIfInBounds_toArray, List.set_cons_zero, List.set_cons_succ]
            refine take_ (i := 1) (v := ?_) 81 rfl rfl (by kernel_rfl) (by kernel_rfl) (by kernel_rfl) (fun _ _ _ h => h) (Or.inl ⟨by rfl, ?_⟩) (by assumption) ?_
            rotate_left
            · (intro wS hSw; (try dsimp only at hSw); go_simp; try with_reducible rfl)
            simp only [Act.put, List.setIfInBounds_toArray, List.set_cons_zero, List.set_cons_succ]
            refine take_ (i := 4) (v := ?_) 84 rfl rfl (by kernel_rfl) (by kernel_rfl) (by kernel_rfl) (fun _ _ _ h => h) (Or.inl ⟨by rfl, ?_⟩) (by assumption) ?_
            rotate_left
            · (intro wS hSw; (try dsimp only at hSw); go_simp; try with_reducible rfl)
            simp only [Act.put, List.setIfInBounds_toArray, List.set_cons_zero, List.set_cons_succ]
            refine take_ (i := 5) (v := ?_) 85 rfl rfl (by kernel_rfl) (by kernel_rfl) (by kernel_rfl) (fun _ _ _ h => h) (Or.inl ⟨by rfl, ?_⟩) (by assumption) ?_
            rotate_left
            · (intro wS hSw; (try dsimp only at hSw); go_simp; try with_reducible rfl)
            simp only [Act.put, List.setIfInBounds_toArray, List.set_cons_zero, List.set_cons_succ]
            refine take_ (i := 6) (v := ?_) 86 rfl rfl (by kernel_rfl) (by kernel_rfl) (by kernel_rfl) (fun _ _ _ h => h) (Or.inl ⟨by rfl, ?_⟩) (by assumption) ?_
            rotate_left
            · (intro wS hSw; (try dsimp only at hSw); go_simp; try with_reducible rfl)
            simp only [Act.put, List.setIfInBounds_toArray, List.set_cons_zero, List.set_cons_succ]
            refine one_ (i := 2) _ (by kernel_rfl) rfl (fun K hK => ?_)
            go_simp
            refine (NU2.out _).mono ?_
            rintro e w5 ⟨rfl, rfl⟩
            dsimp only
            refine hK.out _ _ trivial (fun hHeld => ?_)
            clear hK K
            refine take_ (i := 3) (v := ?_) 83 rfl rfl (by kernel_rfl) (by kernel_rfl) (by kernel_rfl) (fun _ _ _ h => h) (Or.inl ⟨by rfl, ?_⟩) (by assumption) ?_
            rotate_left
            · (intro wS hSw; (try dsimp only at hSw); go_simp; try with_reducible rfl)
            simp only [Act.put, List.setIfInBounds_toArray]
            refine take_ (i := 7) (v := ?_) 87 rfl rfl (by kernel_rfl) (by kernel_rfl) (by kernel_rfl) (fun _ _ _ h => h) (Or.inl ⟨by rfl, ?_⟩) (by assumption) ?_
            rotate_left
            · (intro wS hSw; (try dsimp only at hSw); go_simp; try with_reducible rfl)
            simp only [Act.put, List.setIfInBounds_toArray]
            refine take_ (i := 8) (v := ?_) 88 rfl rfl (by kernel_rfl) (by kernel_rfl) (by kernel_rfl) (fun _ _ _ h => h) (Or.inl ⟨by rfl, ?_⟩) (by assumption) ?_
            rotate_left
            · (intro wS hSw; (try dsimp only at hSw); go_simp; try with_reducible rfl)
            simp only [Act.put, List.setIfInBounds_toArray]
            refine take_ (i := 9) (v := ?_) 89 rfl rfl (by kernel_rfl) (by kernel_rfl) (by kernel_rfl) (fun _ _ _ h => h) (Or.inl ⟨by rfl, ?_⟩) (by assumption) ?_
            rotate_left
            · (intro wS hSw; (try dsimp only at hSw); go_simp; try with_reducible rfl)
            simp only [Act.put, List.setIfInBounds_toArray]
            refine take_ (i := 10) (v := ?_) 11 rfl rfl (by kernel_rfl) (by kernel_rfl) (by kernel_rfl) (fun _ _ _ h => h) (Or.inl ⟨by rfl, ?_⟩) (by assumption) ?_
            rotate_left
            · (intro wS hSw; (try dsimp only at hSw); go_simp; try with_reducible rfl)
            simp only [Act.put, List.setIfInBounds_toArray]
            refine wpAnyH_done (by kernel_rfl) ?_ _
            refine NoPanic.normal ?_
            go_wp2_with fail
            go_roundw
            case rel => exact ⟨done ++ [rest.take k], rest.drop k, by rw [HNS2.out], by rw [List.drop_eq_nil_of_le (by have := RZ.out; omega)]; rfl, by rw [HI.out, List.length_append]; rfl, NC2, HB.out.drew⟩
            case measure => show 0 < rs.size; omega
          · have g1 : decide ((i : Int) < (n : Int)) = false := decide_eq_false (by omega)
            have g1n : decide (i < n) = false := decide_eq_false hc1
            have g1z : ¬ (i : Int) < (n : Int) := by omega
            clear hcut
            obtain ⟨ps, hs, X1, pz, hz, NU, ns, ns2, hns, X2, nlt, hns2, CT, NC⟩ := ONE_.out k k0 kr
            have q3 : ¬ 9223372036854775807 < hs.size + 8 := by omega
            have q4 : ¬ 9223372036854775807 < hs.size + 8 + ps.size := by omega
            have q5 : ¬ 9223372036854775807 < hs.size + 8 + ps.size + 2 := by omega
            have q6 : ¬ 9223372036854775807 < cs.size + (hs.size + 8 + ps.size + 2) := by omega
            have krz : (k : Int) ≤ (rs.size : Int) := by omega
            have NU2 := Lib.hid NU
            have NC2 := Lib.hid NC
            have HNS := Lib.hid hns
            have HNS2 := Lib.hid hns2
            have NLT := Lib.hid nlt
            have B9 : Hid (∀ j, Below w.heap.size w (wr.drewN j)) := fun j => below_drewN HB.out j
            clear NU NC hns hns2 ONE_ nlt pz
            have hsz : rs.size = k := hkk.symm
            rw [hsz] at X2
            clear hkk
            go_upto_region 14 with fail
            refine wp_region_noPanic ?_
            refine wp_region_held_drew (S := fun _ => True) (by kernel_rfl) trivial (fun hHeld => ?_)
            refine take_ (i := 0) (v := ?_) 80 rfl rfl (by kernel_rfl) (by kernel_rfl) (by kernel_rfl) (fun _ _ _ h => h) (Or.inl ⟨by rfl, ?_⟩) (by assumption) ?_
            rotate_left
            · (intro wS hSw; (try dsimp only at hSw); go_simp; try with_reducible rfl)
            simp only [Act.put, List.setIfInBounds_toArray, List.set_cons_zero, List.set_cons_succ]
            refine take_ (i := 1) (v := ?_) 81 rfl rfl (by kernel_rfl) (by kernel_rfl) (by kernel_rfl) (fun _ _ _ h => h) (Or.inl ⟨by rfl, ?_⟩) (by assumption) ?_
            rotate_left
            · (intro wS hSw; (try dsimp only at hSw); go_simp; try with_reducible rfl)
            simp only [Act.put, List.setIfInBounds_toArray, List.set_cons_zero, List.set_cons_succ]
            refine take_ (i := 4) (v := ?_) 84 rfl rfl (by kernel_rfl) (by kernel_rfl) (by kernel_rfl) (fun _ _ _ h => h) (Or.inl ⟨by rfl, ?_⟩) (by assumption) ?_
            rotate_left
            · (intro wS hSw; (try dsimp only at hSw); go_simp; try with_reducible rfl)
            simp only [Act.put, List.setIfInBounds_toArray, List.set_cons_zero, List.set_cons_succ]
            refine take_ (i := 5) (v := ?_) 85 rfl rfl (by kernel_rfl) (by kernel_rfl) (by kernel_rfl) (fun _ _ _ h => h) (Or.inl ⟨by rfl, ?_⟩) (by assumption) ?_
            rotate_left
            · (intro wS hSw; (try dsimp only at hSw); go_simp; try with_reducible rfl)
            simp only [Act.put, List.setIfInBounds_toArray, List.set_cons_zero, List.set_cons_succ]
            refine take_ (i := 6) (v := ?_) 86 rfl rfl (by kernel_rfl) (by kernel_rfl) (by kernel_rfl) (fun _ _ _ h => h) (Or.inl ⟨by rfl, ?_⟩) (by assumption) ?_
            rotate_left
            · (intro wS hSw; (try dsimp only at hSw); go_simp; try with_reducible rfl)
            simp only [Act.put, List.setIfInBounds_toArray, List.set_cons_zero, List.set_cons_succ]
            refine one_ (i := 2) _ (by kernel_rfl) rfl (fun K hK => ?_)
            go_simp
            refine (NU2.out _).mono ?_
            rintro e w5 ⟨rfl, rfl⟩
            dsimp only
            refine hK.out _ _ trivial (fun hHeld => ?_)
            clear hK K
            refine take_ (i := 3) (v := ?_) 83 rfl rfl (by kernel_rfl) (by kernel_rfl) (by kernel_rfl) (fun _ _ _ h => h) (Or.inl ⟨by rfl, ?_⟩) (by assumption) ?_
            rotate_left
            · (intro wS hSw; (try dsimp only at hSw); go_simp; try with_reducible rfl)
            simp only [Act.put, List.setIfInBounds_toArray]
            refine take_ (i := 7) (v := ?_) 87 rfl rfl (by kernel_rfl) (by kernel_rfl) (by kernel_rfl) (fun _ _ _ h => h) (Or.inl ⟨by rfl, ?_⟩) (by assumption) ?_
            rotate_left
            · (intro wS hSw; (try dsimp only at hSw); go_simp; try with_reducible rfl)
            simp only [Act.put, List.setIfInBounds_toArray]
            refine take_ (i := 8) (v := ?_) 88 rfl rfl (by kernel_rfl) (by kernel_rfl) (by kernel_rfl) (fun _ _ _ h => h) (Or.inl ⟨by rfl, ?_⟩) (by assumption) ?_
            rotate_left
            · (intro wS hSw; (try dsimp only at hSw); go_simp; try with_reducible rfl)
            simp only [Act.put, List.setIfInBounds_toArray]
            refine take_ (i := 9) (v := ?_) 89 rfl rfl (by kernel_rfl) (by kernel_rfl) (by kernel_rfl) (fun _ _ _ h => h) (Or.inl ⟨by rfl, ?_⟩) (by assumption) ?_
            rotate_left
            · (intro wS hSw; (try dsimp only at hSw); go_simp; try with_reducible rfl)
            simp only [Act.put, List.setIfInBounds_toArray]
            refine take_ (i := 10) (v := ?_) 11 rfl rfl (by kernel_rfl) (by kernel_rfl) (by kernel_rfl) (fun _ _ _ h => h) (Or.inl ⟨by rfl, ?_⟩) (by assumption) ?_
            rotate_left
            · (intro wS hSw; (try dsimp only at hSw); go_simp; try with_reducible rfl)
            simp only [Act.put, List.setIfInBounds_toArray]
            refine wpAnyH_done (by kernel_rfl) ?_ _
            refine NoPanic.normal ?_
            go_wp2_with fail
            go_roundw
            case rel => exact ⟨done ++ [rest.take k], rest.drop k, by rw [HNS2.out], by rw [List.drop_eq_nil_of_le (by have := RZ.out; omega)]; rfl, by rw [HI.out, List.length_append]; rfl, NC2, HB.out.drew⟩
            case measure => show 0 < rs.size; omega
      · have r0 : rs.size = 0 := by omega
        have f0 : decide ((0 : Int) < (rs.size : Int)) = false := decide_eq_false (by omega)
        have f0n : decide (0 < rs.size) = false := decide_eq_false hlt
        have hend : done.flatten = l := by
          have h := HC.out.eq
          rw [List.length_eq_zero_iff.1 (show rest.length = 0 by rw [← RZ.out]; exact r0), List.append_nil] at h
          exact h
        obtain ⟨s2, hr2, hbody2, hlen2⟩ := Wire.runs_chunked HC.out.pos (by rw [hend]; omega) z
        have RD2 : Wire.Reads (whole done ++ z) s2.q (whole done).length 0 := ⟨_, s2, hr2, .inl ⟨rfl, rfl, rfl⟩⟩
        have T2 := text2 done
        rw [← HCS.out, show S hd = ⟨#[80, 85, 84, 32, 47, 120, 32, 72, 84, 84, 80, 47, 49, 46, 49, 13, 10, 104, 111, 115, 116, 58, 32, 104, 13, 10]⟩ from rfl] at T2
        obtain ⟨wh, hwh⟩ : ∃ x, x = S (whole done) := ⟨_, rfl⟩
        rw [← hwh] at T2
        have wsz : wh.size = (whole done).length := by rw [hwh, S_size]
        have wz : wh.size ≤ 140000 := by
          rw [← T2]
          simp only [ByteArray.size_append]
          show 26 + 30 + cs.size + 15 ≤ _
          omega
        have hcat : wh ++ zs = S (whole done ++ z) := by rw [hwh, ZS.out, S_append]
        obtain ⟨m2, hm2⟩ : ∃ x, x = (whole done).length := ⟨_, rfl⟩
        rw [← hm2] at RD2 wsz
        obtain ⟨rm, hrm⟩ : ∃ x, x = S s2.q.method := ⟨_, rfl⟩
        obtain ⟨rt, hrt⟩ : ∃ x, x = S s2.q.target := ⟨_, rfl⟩
        obtain ⟨rc, hrc⟩ : ∃ x, x = s2.q.close := ⟨_, rfl⟩
        have R2 := Lib.hid (fun u (K : Env u) => readN u K _ (by rw [← S_size, ← hcat, ByteArray.size_append]; omega) RD2 hcat hrm hrt (show ls = S s2.q.body by rw [hbody2, hend, LS.out]) hlen2.symm hrc)
        have eqm : ((m2 : Int) == (wh.size : Int)) = true := by rw [wsz]; simp
        have q7 : ¬ 9223372036854775807 < 56 + cs.size := by omega
        have q8 : ¬ 9223372036854775807 < 56 + cs.size + 15 := by omega
        have q9 : ¬ 9223372036854775807 < wh.size + zs.size := by omega
        have B9 := Lib.hid HB.out
        clear hend hr2 hbody2 hlen2 RD2 hwh wsz hcat hm2 hrm hrt hrc
        go_wp2_with fail
        refine (R2.out _ (HE.out.below B9.out)).mono ?_
        rintro e w5 ⟨⟨A5, d5, rfl, _⟩, hb⟩
        have B5 : Hid (∀ o : Obj, Below w.heap.size w (w5.alloc o)) := fun o => by
          have h := B9.out.trans (hb.mono B9.out.size)
          exact h.alloc h.size _
        clear hb R2
        go_wp2_with fail
        go_ret
        exact ⟨rfl, B5.out _⟩
set_option maxRecDepth 100000 in
theorem opens {H : Type} {enc : TypeId × Value → H} {W : World} {base : Nat} {args : Array Value} {ds : List (DataW H)} {p : List MemPlace}
    (hval : ∀ (j : Nat) t v, Tryz.f4.params[j]? = some t → args[j]? = some v → Value.okWide Tryz.prog W .any base t v)
    (hA : DataW.TrodAll enc Tryz.prog W 0 (fun _ => true) true Tryz.f4.params.toList args.toList ds p) (hlt : ∀ x ∈ p, x.block < W.heap.size) (hk : Rows.uptoBulkAll ds ≤ 1048576) (hE : Env W) :
    Calls Tryz.prog 4 args W fun e W' => e = .returned (.bool true) ∧ Below W.heap.size W W' := by
  rw [Tryz.params4] at hA hval
  obtain ⟨v0, vs0, d0, ds0, p0, q0, hargs, rfl, rfl, h0, r0⟩ := trodAll_cons hA
  obtain ⟨v1, vs1, d1, ds1, p1, q1, rfl, rfl, rfl, h1, r1⟩ := trodAll_cons r0
  obtain ⟨v2, vs2, d2, ds2, p2, q2, rfl, rfl, rfl, h2, r2⟩ := trodAll_cons r1
  obtain ⟨rfl, rfl, rfl⟩ := trodAll_nil r2
  obtain rfl : args = #[v0, v1, v2] := Array.toList_inj.1 hargs
  simp only [Rows.uptoBulkAll] at hk
  obtain ⟨l, rfl, hl⟩ := open_strB (hval 0 9 v0 rfl rfl) h0
  obtain ⟨A, n, c, us, rfl, hB, hnc, hc, hd⟩ := open_bts Tryz.underlying31 Tryz.underlying5 cells5 (hval 1 31 v1 rfl rfl) h1
  obtain ⟨z, rfl, hz⟩ := open_strB (hval 2 9 v2 rfl rfl) h2
  have hbn := bulk_of_bytes hd
  have hn : n ≤ 1048576 := by omega
  exact walk W hE l z A n c us hB (by omega) hn
theorem witness_row (os : Os) {H : Type} (enc : TypeId × Value → H) :
    (Rows.OpenSpec.upto Rows.wireBodySpec).preRow enc Tryz.prog Tryz.f4 Rows.wireBodyUptoRow.domain false Rows.wireBodyUptoRow.laid ((startW os).forCall (fun _ _ => 0) ⟨#[], #[.string ⟨#[]⟩, .slice none 0 0, .string ⟨#[]⟩], []⟩).memory #[.string ⟨#[]⟩, .slice none 0 0, .string ⟨#[]⟩] := by
  have hw : (DataW.whole enc Tryz.prog ((startW os).forCall (fun _ _ => 0) ⟨#[], #[.string ⟨#[]⟩, .slice none 0 0, .string ⟨#[]⟩], []⟩).memory Tryz.f4.params.toList Rows.wireBodySpec.vars false (#[.string ⟨#[]⟩, .slice none 0 0, .string ⟨#[]⟩] : Array Value).toList 8).map (fun x => (x.1, x.2.1)) =
      some ([.lit (.string []), .nil, .lit (.string [])], []) := by kernel_rfl
  obtain ⟨⟨x1, x2, x3⟩, hx, hx1⟩ := Option.map_eq_some_iff.1 hw
  simp only [Prod.mk.injEq] at hx1
  obtain ⟨rfl, rfl⟩ := hx1
  exact OpenSpec.preRow_of_cond 8 hx (by kernel_rfl) (fun k hk => by cases hk; kernel_rfl) (by kernel_rfl) (door_met os _)
set_option maxRecDepth 100000 in
theorem lifted (os : Os) (started : os.Started) (H : Type) (enc : TypeId × Value → H) (F : Stop.Interp) :
    ReturnsInHanded {} Tryz.checked os 4 .any ((Rows.OpenSpec.upto Rows.wireBodySpec).preRow enc Tryz.prog Tryz.f4 Rows.wireBodyUptoRow.domain false Rows.wireBodyUptoRow.laid) (((Rows.OpenSpec.upto Rows.wireBodySpec).at F).post enc Tryz.prog Tryz.f4 false true false false) := by
  refine returnsInHanded_of_row (C := Tryz.checked) (s := Rows.OpenSpec.upto Rows.wireBodySpec) own started (by kernel_rfl) Tryz.func4
    (witness_row_atRef (enc := enc) (C := Tryz.checked) false (startW os) #[.string ⟨#[]⟩, .slice none 0 0, .string ⟨#[]⟩] rfl (by kernel_rfl) (by kernel_rfl) (by kernel_rfl) (witness_row os enc)) ?_
  intro W base args ds gs before hval hW _ hcond _ hL hsh _
  have hk := hcond _ rfl
  refine law_calls (s := Rows.wireBodySpec) laidOut Tryz.underlying4 rfl (by rw [Tryz.params4]; exact of_decide_eq_true (by kernel_rfl)) rfl (fun ds h => by match ds, h with | [_, _, _], _ => rfl) hW ?_
  obtain ⟨rfl, p, hA, hlt⟩ := law_args rfl hW
  have hb : Rows.uptoBulkAll (ds ++ []) ≤ 1048576 := of_decide_eq_true hk
  rw [List.append_nil] at hb
  exact opens hval hA hlt hb (env_of hL hsh)

theorem saidUpto : Rows.WireBodyUptoSaid :=
  OpenClaim.holds_of_cond 4 Tryz.f4 rfl rfl rfl rfl rfl rfl rfl ⟨rfl, rfl, rfl, rfl, rfl⟩ rfl rfl rfl rfl rfl (by kernel_rfl) Tryz.func4 (by kernel_rfl)
    (of_decide_eq_true (by kernel_rfl)) (by unfold Func.isWrapper; first | (rw [if_pos (by decide +kernel)]; kernel_rfl) | (rw [if_neg (by decide +kernel)]; exact ⟨rfl, rfl⟩))
    (fun os started H enc _ F => by rw [OpenClaim.pre_eq_preRow]; exact lifted os started H enc F)
theorem plain (f : FuncId) (fn : Func) (hf : Tryz.pinned.checked.prog.funcNamed "docket/docketlaw11.WireBody" = some f) (hfn : Tryz.pinned.checked.prog.funcs[f]? = some fn) :
    true = Tryz.pinned.checked.prog.looks [] ∧ ∀ (j : Nat) t, fn.params[j]? = some t → Tryz.pinned.checked.prog.wantsStandIn t = false := by
  obtain rfl : f = 4 := Option.some.inj ((show Tryz.prog.funcNamed "docket/docketlaw11.WireBody" = some 4 by kernel_rfl).symm.trans hf) |>.symm
  obtain rfl : fn = Tryz.f4 := (Option.some.inj (Tryz.func4.symm.trans hfn)).symm
  exact ⟨by kernel_rfl, fun j t ht => (of_decide_eq_true (p := ∀ t ∈ Tryz.f4.params.toList, Tryz.prog.wantsStandIn t = false) (by kernel_rfl)) t (Array.mem_toList_iff.2 (Array.mem_of_getElem? ht))⟩
theorem proved : Rows.WireBodyUptoCardSaid :=
  Claim7.holds_tied_plain_at .later [] _ _ _ _ saidUpto (fun _ h => by cases h) (by kernel_rfl) (fun _ h => by cases h) wireBodyUpto_row_tie rfl ⟨rfl, rfl⟩ (by kernel_rfl) rfl plain (by kernel_rfl)

end Go.Proofs.YtplfceainkeokaaGreatDoor.wireBody
