/-
  wire: a connection whose reader is new: Closed, Feed, drop, Next.
-/
import Derived.Test.YtnodhbgkoedalaaGreatDoorQP3
namespace Go.Proofs.YtnodhbgkoedalaaGreatDoor
open Go.RowKit Reply

/-- The cells of a connection whose reader is new. -/
def connL (v : Value) (x : Bool) : List Value := rdL Wire.s0 none 0 ++ [v, .bool x]
def CnAt (w : World) (p : Nat) (v : Value) (x : Bool) : Prop := Held w p 46 (connL v x).toArray
/-- What is left of a row. -/
def restV (g off n cp : Nat) : Value := if n = 0 then .slice none 0 0 else .slice (some ⟨g, off, none⟩) n cp
section
variable {w0 w w' : World} {Bn p : Nat} {z z' : List Value} {s : Wire.St} {A : Option Addr} {c : Nat}
theorem RdS.z_ (h : RdS w0 Bn w p 46 z s A c) (i : Nat) (u : Value) (hl : (rdL s A c ++ z).set i u = rdL s A c ++ z') : RdS w0 Bn (w.setCell ⟨p, i, none⟩ u) p 46 z' s A c := by
  have b := h.blk.set_ i u
  rw [List.setIfInBounds_toArray, hl] at b
  exact ⟨h.env, h.l0, h.lB, h.bel.setCell (p := ⟨p, i, none⟩) h.l0 _, Nat.le_trans h.sz (by simp [World.setCell]), h.tyn, b, (set_only p i w u).row h.row h.far⟩
theorem RdS.conn (E : Env w0) (hp : w0.heap.size ≤ p) (bel : Below w0.heap.size w0 w) {v : Value} {x : Bool} (h : CnAt w p v x) : RdS w0 w.heap.size w p 46 [v, .bool x] Wire.s0 none 0 :=
  ⟨E, hp, bel.size, bel, Nat.le_refl _, by decide, h, OwnH.nil _ _⟩
end
set_option maxRecDepth 100000 in
set_option maxHeartbeats 4000000 in
theorem closed_any (w : World) (p : Nat) (v : Value) (x : Bool) (h : CnAt w p v x) :
    Calls Tryz.prog 15 #[.pointer (some ⟨p, 0, none⟩)] w fun e w' => e = .returned (.bool x) ∧ w = w' := by
  have c0 : w.cell? ⟨p, 10, none⟩ = some (.bool x) := h.cell 10
  clear h
  go_enter Tryz.func15, Tryz.ntmps15
  go_wp2
  go_ret
  exact ⟨rfl, rfl⟩
set_option maxRecDepth 100000 in
set_option maxHeartbeats 4000000 in
theorem drop_any {w0 w : World} {Bn p g off n cp : Nat} {x : Value} {s : Wire.St} {A : Option Addr} {c : Nat} (h : RdS w0 Bn w p 46 [.slice (some ⟨g, off, none⟩) n cp, x] s A c) (t : Nat) (ht : t ≤ n) (hc : n ≤ cp) :
    Calls Tryz.prog 18 #[.pointer (some ⟨p, 0, none⟩), .int .i64 (t : Int)] w fun e w' => e = .returned (.tuple #[]) ∧ RdS w0 Bn w' p 46 [restV g (off + t) (n - t) (cp - t), x] s A c ∧ Fr Bn p w w' := by
  have c0 : w.cell? ⟨p, 9, none⟩ = some (.slice (some ⟨g, off, none⟩) n cp) := h.cell 9
  have y0 := h.frozen 9
  have H := Lib.hid h
  have HS := Lib.hid h.sz
  clear h
  have t1 : (t : Int) ≤ (n : Int) := by omega
  have t2 : (n : Int) ≤ (cp : Int) := by omega
  have t3 : (t : Int) ≤ (cp : Int) := by omega
  by_cases hn : n - t = 0
  · have f0 : (((n - t : Nat) : Int) == 0) = true := by rw [hn]; rfl
    have R2 : Hid (∀ u, RdS w0 Bn ((w.setCell ⟨p, 9, none⟩ u).setCell ⟨p, 9, none⟩ (.slice none 0 0)) p 46 [.slice none 0 0, x] s A c) := fun u => (H.out.z_ (z' := [u, x]) 9 u rfl).z_ 9 _ rfl
    have HN0 := Lib.hid hn
    have F2 : Hid (∀ u, Fr Bn p w ((w.setCell ⟨p, 9, none⟩ u).setCell ⟨p, 9, none⟩ (.slice none 0 0))) := fun u => ((Fr.refl _ _ _).set_ 9 u).set_ 9 _
    clear hn
    go_enter Tryz.func18, Tryz.ntmps18
    go_wp2
    all_goals
      go_end0
      exact ⟨rfl, by unfold restV; rw [if_pos HN0.out]; exact R2.out _, F2.out _⟩
  · have f0 : (((n - t : Nat) : Int) == 0) = false := by rw [beq_eq_false_iff_ne]; omega
    have hct : ¬ cp = t := by omega
    have R1 : Hid (RdS w0 Bn (w.setCell ⟨p, 9, none⟩ (.slice (some ⟨g, off + t, none⟩) (n - t) (cp - t))) p 46 [restV g (off + t) (n - t) (cp - t), x] s A c) := H.out.z_ 9 _ (by rw [show restV g (off + t) (n - t) (cp - t) = .slice (some ⟨g, off + t, none⟩) (n - t) (cp - t) from if_neg hn]; rfl)
    have F1 : Hid (Fr Bn p w (w.setCell ⟨p, 9, none⟩ (.slice (some ⟨g, off + t, none⟩) (n - t) (cp - t)))) := (Fr.refl _ _ _).set_ 9 _
    go_enter Tryz.func18, Tryz.ntmps18
    go_wp2
    go_end0
    exact ⟨rfl, R1.out, F1.out⟩
theorem connL_zero (v : Value) (x : Bool) : connL v x = [.int .i64 0, .int .i64 0, .int .i64 0, .int .i64 0, .string ⟨#[]⟩, .string ⟨#[]⟩, .slice none 0 0, .string ⟨#[]⟩, .bool false, v, .bool x] := rfl
/-- What lies in a row of the call's own that a text was appended to. -/
theorem row_bk {w : World} {base g cap : Nat} {l : Reply.B} (h : w.ownsRow base 5 1 (.slice (some ⟨g, 0, none⟩) l.length cap) l.length (Lib.strCells (S l))) : Bk w g 0 l := by
  have e : Lib.strCells (S l) = (l.map (·.toNat)).map u8v := by
    exact strCells_nums (S l)
  rw [e] at h
  refine ⟨(h.lt g rfl).2, fun k hk => ?_⟩
  rw [Nat.zero_add, h.cellAt k (by omega), List.getElem?_map, List.getElem?_map, List.getD_eq_getElem?_getD, List.getElem?_eq_getElem hk]
  rfl
set_option maxRecDepth 100000 in
set_option maxHeartbeats 4000000 in
theorem feed_any (w : World) (p : Nat) (l : Reply.B) (h : CnAt w p (.slice none 0 0) false) (hl : l.length ≤ 134217728) :
    Calls Tryz.prog 13 #[.pointer (some ⟨p, 0, none⟩), .string (S l)] w fun e w' => e = .returned (.tuple #[]) ∧ Fr w.heap.size p w w' ∧ ∃ v, CnAt w' p v false ∧ ((l = [] ∧ v = .slice none 0 0) ∨ (l ≠ [] ∧ ∃ g cp, v = .slice (some ⟨g, 0, none⟩) l.length cp ∧ l.length ≤ cp ∧ w.heap.size ≤ g ∧ Bk w' g 0 l)) := by
  obtain ⟨i0, hi, hz0, hz1, hz2⟩ := info_parts info5
  have CL := Lib.hid (closed_any w p _ _ h)
  have c0 : w.cell? ⟨p, 9, none⟩ = some (.slice none 0 0) := h.cell 9
  have y0 : w.frozen? ⟨p, 9, none⟩ = false := h.frozen 9
  have H := Lib.hid h
  obtain ⟨s, hs⟩ : ∃ x, x = S l := ⟨_, rfl⟩
  have hsz : s.size = l.length := by rw [hs, S_size]
  have HS := Lib.hid hs
  rw [← hs]
  clear h hs
  go_enter Tryz.func13, Tryz.ntmps13
  go_wp2_with fail
  refine CL.out.mono ?_
  rintro e w' ⟨rfl, rfl⟩
  clear CL
  go_wp2_with (at_builtin; refine Lib.wpList_append_own_string _ rfl _ _ 31 9 rfl w.heap.size 5 i0 Tryz.underlying31 Tryz.underlying9 hi hz0 hz1 hz2 _ 0 [] rfl ⟨rfl, .inl ⟨rfl, rfl⟩⟩ s rfl ?q3 ?q4 ?q5 ?_)
  case q3 => unfold maxLen; omega
  case q4 => omega
  case q5 => exact Nat.le_refl _
  intro v' w2 hown hgrow hnil
  have H2 : Hid (Held w2 p 46 (connL (.slice none 0 0) false).toArray) := (hgrow.block p H.out.lt (by rintro ⟨⟩)).trans H.out
  have c2 := H2.out.cell 9
  have y2 := H2.out.frozen 9
  have F2 : Hid (Fr w.heap.size p w w2) := (Fr.refl _ _ _).grown hgrow (Nat.le_refl _) (by rintro k ⟨⟩)
  have FIN : Hid (Fr w.heap.size p w (w2.setCell ⟨p, 9, none⟩ v') ∧ ∃ v, CnAt (w2.setCell ⟨p, 9, none⟩ v') p v false ∧ ((l = [] ∧ v = .slice none 0 0) ∨ (l ≠ [] ∧ ∃ g cp, v = .slice (some ⟨g, 0, none⟩) l.length cp ∧ l.length ≤ cp ∧ w.heap.size ≤ g ∧ Bk (w2.setCell ⟨p, 9, none⟩ v') g 0 l))) := by
    refine ⟨F2.out.set_ 9 _, v', H2.out.set_ 9 v', ?_⟩
    by_cases hn : l = []
    · exact .inl ⟨hn, hnil.2 hn⟩
    · refine .inr ⟨hn, ?_⟩
      rcases hown.2 with ⟨rfl, _⟩ | ⟨g, cap, cur, rfl, hg, hh, hc, hcap, hsz2, htake⟩
      · exact absurd (hnil.1 rfl) hn
      · rw [HS.out] at hown
        have bk := row_bk hown
        exact ⟨g, cap, rfl, hc, hg, bk.far (by have := H.out.lt; omega) _⟩
  obtain ⟨ao, n', cap, rfl⟩ : ∃ ao n' cap, v' = .slice ao n' cap := by
    rcases hown.2 with ⟨hv, _⟩ | ⟨g, cap, cur, hv, _⟩
    · exact ⟨_, _, _, hv⟩
    · exact ⟨_, _, _, hv⟩
  clear hown hnil
  go_wp2
  go_end0
  exact ⟨rfl, FIN.out⟩
end Go.Proofs.YtnodhbgkoedalaaGreatDoor
