/-
  docketlaw11: a text of as many x, digits of a base, what the document fixes. · docketlaw11: number. · docketlaw11: what the document fixes.
-/
import Derived.Test.YtnodhbgkoedalaaGreatDoorQW14
import Derived.Test.YtnodhbgkoedalaaGreatDoorQWi
namespace Go.Proofs.YtnodhbgkoedalaaGreatDoor
open Go.RowKit Reply

/-- closes answers of whatever headers a reader may hold. -/
def ClosesAll : Prop := ∀ s : Wire.St, Wire.Ok s → Wire.Fit s → ClosesC s.q.headers
theorem readE (CA : ClosesAll) (w : World) (E : Env w) (l : Reply.B) (hl : l.length ≤ 4194304) {q : Wire.Rq} {n : Nat} {c' : Int} (hr : Wire.Reads l q n c') :
    Calls Tryz.prog 9 #[.string (S l)] w fun e w' => (∃ A c2, e = .returned (.tuple #[qV q A c2, .int .i64 (n : Int), .int .i64 c']) ∧ HAt w' A q.headers) ∧ Below w.heap.size w w' :=
  read_any w E l hl hr (fun _ _ _ s1 ok ft _ => CA s1 ok ft)
/-- Every run from the start is what Read answers. -/
theorem reads_of {l : Reply.B} {t : Nat} {c : Int} {s' : Wire.St} (h : Wire.Runs Wire.reader Wire.s0 l t c s') : ∃ q n, Wire.Reads l q n c := by
  by_cases hc : c = 0
  · exact ⟨s'.q, t, t, s', h, .inl ⟨hc, rfl, rfl⟩⟩
  · exact ⟨Wire.zeroRq, 0, t, s', h, .inr ⟨hc, rfl, rfl⟩⟩
def padL (k n : Nat) : List Value := List.replicate k (Value.int .u8 120) ++ List.replicate (n - k) (Value.int .u8 0)
def padC (k n : Nat) : Array Value := (padL k n).toArray
theorem padC_zero (n : Nat) : madeCells #[.int .u8 0] n = padC 0 n := by
  apply Array.toList_inj.1
  rw [toList_madeCells_one]
  rfl
theorem padC_set {k n : Nat} (h : k < n) : (padC k n).setIfInBounds k (.int .u8 120) = padC (k + 1) n := by
  obtain ⟨m, rfl⟩ : ∃ m, n = k + (m + 1) := ⟨n - k - 1, by omega⟩
  unfold padC padL
  rw [List.setIfInBounds_toArray, show k + (m + 1) - k = m + 1 by omega, show k + (m + 1) - (k + 1) = m by omega, List.set_append_right _ _ (by simp), List.length_replicate, Nat.sub_self, List.replicate_succ, List.set_cons_zero, List.replicate_succ', List.append_assoc]
  rfl
theorem padC_lt {k n : Nat} (h : k < n) : (padC k n)[k]? = some (.int .u8 0) := by
  unfold padC padL
  rw [List.getElem?_toArray, List.getElem?_append_right (by simp), List.length_replicate, Nat.sub_self, List.getElem?_replicate, if_pos (by omega)]
theorem padC_all {n j : Nat} (h : j < n) : (padC n n)[j]? = some (.int .u8 120) := by
  unfold padC padL
  rw [List.getElem?_toArray, List.getElem?_append_left (by simpa using h), List.getElem?_replicate, if_pos h]
theorem pad_bts {w : World} {g n : Nat} (h : Held w g 5 (padC n n)) : Bts w (some ⟨g, 0, none⟩) n ((Wire.pad n).map (·.toNat)) := by
  refine ⟨by unfold Wire.pad; simp, fun x hx => ?_, fun _ => ⟨g, 0, rfl, h.lt, fun i hi => ?_⟩⟩
  · obtain ⟨c, _, rfl⟩ := List.mem_map.1 hx
    exact c.toNat_lt
  · rw [Nat.zero_add, h.cell i, padC_all hi]
    unfold Wire.pad
    rw [List.map_replicate, List.getD_eq_getElem?_getD, List.getElem?_replicate, if_pos hi]
    rfl
set_option maxRecDepth 100000 in
set_option maxHeartbeats 8000000 in
theorem pad_any (w : World) (n : Nat) (hn : n ≤ 1048576) :
    Calls Tryz.prog 12 #[.int .i64 (n : Int)] w fun e w' => e = .returned (.string (S (Wire.pad n))) ∧ Below w.heap.size w w' := by
  have MK := run_make_bts (P := Tryz.prog) byteT n (by omega) .i64 .i64 w
  rw [padC_zero] at MK
  obtain ⟨W1, hW1⟩ : ∃ x, x = w.alloc (.cells (padC 0 n) 5) := ⟨_, rfl⟩
  have H1 : Hid (Held W1 w.heap.size 5 (padC 0 n)) := by show Held _ _ _ _; rw [hW1]; exact Held.new _ _ _ rfl
  have B1 : Hid (Below w.heap.size w W1) := by show Below _ _ _; rw [hW1]; exact (Below.refl _ _).alloc (Nat.le_refl _) _
  rw [← hW1] at MK
  obtain ⟨g, hg⟩ : ∃ g, g = w.heap.size := ⟨_, rfl⟩
  rw [← hg] at MK H1
  have HG := Lib.hid hg
  clear hW1 hg
  go_enter Tryz.func12, Tryz.ntmps12
  go_wp2_with fail
  go_loopw [4] (fun v wr => ∃ k : Nat, k ≤ n ∧ v = .int .i64 k ∧ Hid (Held wr g 5 (padC k n)) ∧ Hid (Below w.heap.size w wr)) (fun v _ => n - (intOf v).toNat)
  case atStart => exact ⟨0, by omega, rfl, H1, B1⟩
  case round =>
    obtain ⟨k, hk, rfl, HH, HB⟩ := hrel
    by_cases hlt : k < n
    · have hlz : (k : Int) < (n : Int) := by omega
      have c0 : wr.cell? ⟨g, k, none⟩ = some (.int .u8 0) := by rw [HH.out.cell k, padC_lt hlt]
      have y0 := HH.out.frozen k
      have NH : Hid (Held (wr.setCell ⟨g, k, none⟩ (.int .u8 120)) g 5 (padC (k + 1) n)) := by show Held _ _ _ _; rw [← padC_set hlt]; exact HH.out.set_ k _
      have NB : Hid (Below w.heap.size w (wr.setCell ⟨g, k, none⟩ (.int .u8 120))) := HB.out.setCell (p := ⟨g, k, none⟩) (by rw [← HG.out]; exact Nat.le_refl _) _
      go_wp2
      go_roundw
      case rel => exact ⟨k + 1, by omega, by go_num, NH, NB⟩
      case measure => simp [intOf]; omega
    · obtain rfl : k = n := by omega
      have TS := (pad_bts HH.out).toStr byteT (ts := 9) Tryz.underlying9 k
      rw [strB_map] at TS
      go_wp2
      go_ret
      exact ⟨rfl, HB.out⟩
theorem digit_S : ∀ d : Nat, d < 16 → (⟨#[48, 49, 50, 51, 52, 53, 54, 55, 56, 57, 97, 98, 99, 100, 101, 102]⟩ : ByteArray).data.toList.getD d 0 = Wire.hexD d := by decide
end Go.Proofs.YtnodhbgkoedalaaGreatDoor

namespace Go.Proofs.YtnodhbgkoedalaaGreatDoor
open Go.RowKit Reply

theorem digU : ∀ d : Fin 16, Utf8.encode (((([48, 49, 50, 51, 52, 53, 54, 55, 56, 57, 97, 98, 99, 100, 101, 102] : List UInt8).getD d.1 0).toNat : Nat) : Int) = S [Wire.hexD d.1] := by decide
set_option maxRecDepth 100000 in
set_option maxHeartbeats 8000000 in
theorem lnumber_any (b : Nat) (hb : b = 10 ∨ b = 16) : ∀ (n : Nat), n ≤ 1048576 → ∀ w : World,
    Calls Tryz.prog 11 #[.int .i64 (n : Int), .int .i64 (b : Int)] w fun e w' => e = .returned (.string (S (Wire.digs b n))) ∧ w = w' := by
  intro n
  induction n using Nat.strongRecOn with
  | _ n ih =>
    intro hn w
    have h2 : 2 ≤ b := by omega
    have h16 : b ≤ 16 := by omega
    obtain ⟨d, hd⟩ : ∃ d, d = n % b := ⟨_, rfl⟩
    have d16 : d < 16 := by have := Nat.mod_lt n (show 0 < b by omega); omega
    have hrem : (n : Int).tmod (b : Int) = (d : Int) := by rw [Int.tmod_eq_emod_of_nonneg (by omega), hd]; rfl
    obtain ⟨e, he⟩ : ∃ e, e = n / b := ⟨_, rfl⟩
    have hdiv : (n : Int).tdiv (b : Int) = (e : Int) := by rw [Int.tdiv_eq_ediv_of_nonneg (by omega), he]; rfl
    have ez : (e : Int) ≤ 1048576 := by have : e ≤ n := by rw [he]; exact Nat.div_le_self n b
                                        omega
    have UT := digU ⟨d, d16⟩
    obtain ⟨cs, hcs⟩ : ∃ cs : ByteArray, cs = S [Wire.hexD d] := ⟨_, rfl⟩
    obtain ⟨x, hx⟩ : ∃ x : Nat, x = (Wire.hexD d).toNat := ⟨_, rfl⟩
    have hix : ((⟨#[48, 49, 50, 51, 52, 53, 54, 55, 56, 57, 97, 98, 99, 100, 101, 102]⟩ : ByteArray)[d]'(by exact d16)).toNat = x := by
      have e := S_at [48, 49, 50, 51, 52, 53, 54, 55, 56, 57, 97, 98, 99, 100, 101, 102] d (by exact d16)
      have e2 : ((⟨#[48, 49, 50, 51, 52, 53, 54, 55, 56, 57, 97, 98, 99, 100, 101, 102]⟩ : ByteArray)[d]'(by exact d16)) = ([48, 49, 50, 51, 52, 53, 54, 55, 56, 57, 97, 98, 99, 100, 101, 102] : List UInt8).getD d 0 := e
      rw [e2, hx]
      rfl
    have huc : Utf8.encode (x : Int) = cs := by rw [hx, hcs]; exact UT
    clear hx
    have bz : (b : Int) ≠ 0 := by omega
    have D1 := Lib.hid hd
    have C1 := Lib.hid hcs
    clear hd UT hcs
    by_cases hlt : n < b
    · have hlz : decide (n < b) = true := decide_eq_true hlt
      have hlz2 : (n : Int) < (b : Int) := by omega
      have F : Hid (S (Wire.digs b n) = cs) := by show _ = _; rw [Wire.digs_one hlt, C1.out, D1.out, Nat.mod_eq_of_lt hlt]
      clear ih he
      go_enter Tryz.func11, Tryz.ntmps11
      go_wp2_with fail
      go_ret
      exact ⟨ret_str F.out.symm, rfl⟩
    · have hlz : decide (n < b) = false := decide_eq_false hlt
      have hlz2 : ¬ (n : Int) < (b : Int) := by omega
      have hq : e < n := by rw [he]; exact Nat.div_lt_self (by omega) (by omega)
      have IH := Lib.hid (ih e hq (by omega) w)
      obtain ⟨ps, hps⟩ : ∃ ps, ps = S (Wire.digs b e) := ⟨_, rfl⟩
      rw [← hps] at IH
      have F : Hid (S (Wire.digs b n) = ps ++ cs) := by show _ = _; rw [Wire.digs_more h2 (by omega), ← he, hps, C1.out, S_append, D1.out]
      have pz : ps.size ≤ 1048576 := by
        rw [hps, S_size]
        have h7 : (10 : Nat) ^ 7 ≤ b ^ 7 := Nat.pow_le_pow_left (by omega) 7
        have := Wire.digs_len h2 6 e (show e < b ^ 7 by omega)
        omega
      have cz : cs.size = 1 := by rw [C1.out, S_size]; rfl
      have qz : ¬ 9223372036854775807 < ps.size + 1 := by omega
      have qz2 : ¬ 9223372036854775807 < ps.size + cs.size := by omega
      clear ih hps he
      go_enter Tryz.func11, Tryz.ntmps11
      go_wp2_with fail
      refine IH.out.mono ?_
      rintro e w' ⟨rfl, rfl⟩
      clear IH
      go_wp2_with fail
      go_ret
      exact ⟨ret_str F.out.symm, rfl⟩
end Go.Proofs.YtnodhbgkoedalaaGreatDoor

namespace Go.Proofs.YtnodhbgkoedalaaGreatDoor
namespace Wire
theorem Runs.eqt {S : Type} {M : Mach S} {s s' : S} {l : B} {t t' : Nat} {c : Int} (h : Runs M s l t c s') (e : t = t') : Runs M s l t' c s' := e ▸ h
def fixL : B := [71, 69, 84, 32, 47, 97, 32, 72, 84, 84, 80, 47, 49, 46, 49, 13, 10, 72, 111, 115, 116, 58, 32, 104, 13, 10, 13, 10, 120]
def fixM : B := [71, 69, 84, 32, 47, 97, 32, 72, 84, 84, 80, 47, 49, 46, 48, 13, 10]
def fixQ : Rq := ⟨[71, 69, 84], [47, 97], [(nHost, [104])], [], false⟩
def fx1 : St := ⟨1, 0, 0, 0, ⟨[71, 69, 84], [47, 97], [], [], false⟩⟩
def fx2 : St := ⟨1, 0, 9, 0, fixQ⟩
def fx3 : St := ⟨8, 0, 9, 0, fixQ⟩
theorem fix_runs : Runs reader s0 fixL 28 0 fx3 := by
  refine Runs.eqt (.step (s1 := fx1) rfl (by decide) (by decide) (.step (s1 := fx2) rfl (by decide) (by decide) (.step (s1 := fx3) rfl (by decide) (by decide) (.whole rfl)))) (by decide)
theorem fix_runs2 : Runs reader s0 fixM 17 505 s0 := by
  refine Runs.eqt (.stop rfl (by decide) (by decide) (by decide)) (by decide)
theorem fix_reads : Reads fixL fixQ 28 0 := ⟨28, fx3, fix_runs, .inl ⟨rfl, rfl, rfl⟩⟩
theorem fix_reads2 : Reads fixM zeroRq 0 505 := ⟨17, s0, fix_runs2, .inr ⟨by decide, rfl, rfl⟩⟩
end Wire
end Go.Proofs.YtnodhbgkoedalaaGreatDoor
