/-
  wire: the number that a text's first digits are. · wire: bytes of the body, a CR, a LF, a line ahead of a chunk, a trailer. · wire: a line ahead of a chunk; a request's first line.
-/
import Derived.Test.YtnodhbgkoedalaaGreatDoorQW1
import Derived.Test.YtnodhbgkoedalaaGreatDoorQW4
namespace Go.Proofs.YtnodhbgkoedalaaGreatDoor
open Go.RowKit Reply

/-- What number answers. -/
def numV : Option (Nat × Reply.B) → Value
  | none => .tuple #[.int .u64 0, .string ⟨#[]⟩, .bool false]
  | some (n, r) => .tuple #[.int .u64 (n : Int), .string (S r), .bool true]
theorem trimleft_any (w : World) (l cs : Reply.B) (hcs : cs.length < 4294967281) (ha : cs.all (fun b => decide (b.toNat < 128)) = true) :
    Calls Tryz.prog 58 #[.string (S l), .string (S cs)] w fun e w' => e = .returned (.string (S (Lib.trimLeftS l cs))) ∧ Below w.heap.size w w' := by
  refine (Any.strings_TrimLeft_laid Tryz.laysTrimLeft (by kernel_rfl) (S l) (S cs) w (by rw [S_size]; exact hcs) (ascii_of_all ha)).mono ?_
  rintro e w' ⟨rfl, hb⟩
  exact ⟨rfl, hb⟩
theorem trimLeft_parts (l cs : Reply.B) : ∃ d, l = d ++ Lib.trimLeftS l cs ∧ ∀ c ∈ d, cs.contains c = true := by
  refine ⟨l.takeWhile (cs.contains ·), ?_, fun c hc => ?_⟩
  · unfold Lib.trimLeftS
    exact List.takeWhile_append_dropWhile.symm
  · exact List.all_eq_true.1 List.all_takeWhile c hc
theorem dg10 : ∀ c : UInt8, Wire.decs.contains c = true → Dg10 c := fun c h => by
  have : c ∈ Wire.decs := by simpa using h
  unfold Wire.decs at this
  unfold Dg10
  simp only [List.mem_cons, List.not_mem_nil, or_false] at this
  rcases this with rfl | rfl | rfl | rfl | rfl | rfl | rfl | rfl | rfl | rfl <;> decide
theorem dg16 : ∀ c : UInt8, Wire.hexs.contains c = true → Dg16 c := fun c h => by
  have : c ∈ Wire.hexs := by simpa using h
  unfold Wire.hexs Wire.decs at this
  unfold Dg16
  simp only [List.mem_cons, List.not_mem_nil, or_false, List.cons_append, List.nil_append] at this
  rcases this with rfl | rfl | rfl | rfl | rfl | rfl | rfl | rfl | rfl | rfl | rfl | rfl | rfl | rfl | rfl | rfl | rfl | rfl | rfl | rfl | rfl | rfl <;> decide
set_option maxRecDepth 100000 in
set_option maxHeartbeats 8000000 in
theorem number10_any (w : World) (l : Reply.B) (hl : l.length ≤ 1073741824) :
    Calls Tryz.prog 43 #[.string (S l), .int .i64 10, .int .i64 18] w fun e w' => e = .returned (numV (Wire.number l Wire.decs 10 18)) ∧ Below w.heap.size w w' := by
  have TL : Hid (∀ u, Calls Tryz.prog 58 #[.string (S l), .string ⟨#[48, 49, 50, 51, 52, 53, 54, 55, 56, 57]⟩] u fun e w' => e = .returned (.string (S (Lib.trimLeftS l Wire.decs))) ∧ Below u.heap.size u w') := fun u => trimleft_any u l Wire.decs (by decide) (by decide)
  obtain ⟨d, hd, hda⟩ := trimLeft_parts l Wire.decs
  have E : Hid (Wire.number l Wire.decs 10 18 = if l.length - (Lib.trimLeftS l Wire.decs).length = 0 ∨ 18 < l.length - (Lib.trimLeftS l Wire.decs).length then none else some (Wire.numOf 10 (l.take (l.length - (Lib.trimLeftS l Wire.decs).length)), Lib.trimLeftS l Wire.decs)) := rfl
  obtain ⟨r, hr⟩ : ∃ r, r = Lib.trimLeftS l Wire.decs := ⟨_, rfl⟩
  rw [← hr] at TL E hd
  obtain ⟨R, hR⟩ : ∃ R, R = Wire.number l Wire.decs 10 18 := ⟨_, rfl⟩
  rw [← hR] at E ⊢
  have hlen : l.length = d.length + r.length := by rw [hd, List.length_append]
  have hk : l.length - r.length = d.length := by omega
  have htk : l.take d.length = d := by rw [hd]; simp
  rw [hk, htk] at E
  obtain ⟨s, hs⟩ : ∃ x, x = S l := ⟨_, rfl⟩
  have hsz : s.size = l.length := by rw [hs, S_size]
  have X1 : s.extract 0 d.length = S d := by rw [hs, S_extract]; simp [htk]
  obtain ⟨rs, hrs⟩ : ∃ x, x = S r := ⟨_, rfl⟩
  have hrz : rs.size = r.length := by rw [hrs, S_size]
  obtain ⟨n, hn⟩ : ∃ n, n = d.length := ⟨_, rfl⟩
  have PA : Hid (d ≠ [] → d.length ≤ 18 → ∀ u, Calls Tryz.prog 59 #[.string (S d), .int .i64 10, .int .i64 64] u fun e w' => e = .returned (.tuple #[.int .u64 (Wire.numOf 10 d : Int), .nilIface]) ∧ Below u.heap.size u w') := fun h1 h2 u => parse10_any u d h1 h2 (fun c hc => dg10 c (hda c hc))
  rw [← hs, ← hrs] at TL
  rw [← hn] at E X1
  rw [← hs]
  have HRS := Lib.hid hrs
  have HNN := Lib.hid hn
  have gsub : (s.size : Int) - (rs.size : Int) = (n : Int) := by omega
  have gle : n ≤ s.size := by omega
  have gz : s.size ≤ 1073741824 := by omega
  clear hr hR hd hda hk htk hs hrs hn hsz hrz hlen hl
  by_cases h0 : n = 0
  · have F : Hid (R = none) := by show _ = _; rw [E.out, if_pos (.inl h0)]
    have f0 : ((n : Int) == 0) = true := by rw [h0]; rfl
    have y0 : ((s.size : Int) - (rs.size : Int) == 0) = true := by rw [gsub]; exact f0
    clear E PA X1 h0
    go_enter Tryz.func43, Tryz.ntmps43
    go_wp2_with fail
    refine (TL.out _).mono ?_
    rintro e w1 ⟨rfl, hb⟩
    have B1 := Lib.hid hb
    clear hb TL
    go_wp2_with fail
    go_ret3
    exact ⟨by rw [F.out]; rfl, B1.out⟩
  · have f0 : ((n : Int) == 0) = false := by rw [beq_eq_false_iff_ne]; omega
    have y0 : ((s.size : Int) - (rs.size : Int) == 0) = false := by rw [gsub]; exact f0
    by_cases h1 : 18 < n
    · have F : Hid (R = none) := by show _ = _; rw [E.out, if_pos (.inr h1)]
      have f1 : decide ((18 : Int) < (n : Int)) = true := decide_eq_true (by omega)
      have y1 : decide ((18 : Int) < (s.size : Int) - (rs.size : Int)) = true := by rw [gsub]; exact f1
      clear E PA X1 h0
      go_enter Tryz.func43, Tryz.ntmps43
      go_wp2_with fail
      refine (TL.out _).mono ?_
      rintro e w1 ⟨rfl, hb⟩
      have B1 := Lib.hid hb
      clear hb TL
      go_wp2_with fail
      go_ret3
      exact ⟨by rw [F.out]; rfl, B1.out⟩
    · have F : Hid (R = some (Wire.numOf 10 d, r)) := by show _ = _; rw [E.out, if_neg (by omega)]
      have f1 : decide ((18 : Int) < (n : Int)) = false := decide_eq_false (by omega)
      have y1 : decide ((18 : Int) < (s.size : Int) - (rs.size : Int)) = false := by rw [gsub]; exact f1
      have PA2 := Lib.hid (PA.out (fun h => h0 (by rw [HNN.out, h]; rfl)) (by rw [← HNN.out]; omega))
      obtain ⟨v, hv⟩ : ∃ v, v = Wire.numOf 10 d := ⟨_, rfl⟩
      rw [← hv] at PA2 F
      clear E PA h0 hv
      go_enter Tryz.func43, Tryz.ntmps43
      go_wp2_with fail
      refine (TL.out _).mono ?_
      rintro e w1 ⟨rfl, hb⟩
      have B1 := Lib.hid hb
      clear hb TL
      go_wp2_with fail
      refine (PA2.out _).mono ?_
      rintro e w2 ⟨rfl, hb⟩
      have B2 := Lib.hid (B1.out.trans (hb.mono B1.out.size))
      clear hb PA2
      go_wp2_with fail
      go_quiet (fail)
      go_wp2_with fail
      go_ret3
      exact ⟨by rw [F.out, HRS.out]; rfl, below_drewN B2.out _⟩
set_option maxRecDepth 100000 in
set_option maxHeartbeats 8000000 in
theorem number16_any (w : World) (l : Reply.B) (hl : l.length ≤ 1073741824) :
    Calls Tryz.prog 43 #[.string (S l), .int .i64 16, .int .i64 8] w fun e w' => e = .returned (numV (Wire.number l Wire.hexs 16 8)) ∧ Below w.heap.size w w' := by
  have TL : Hid (∀ u, Calls Tryz.prog 58 #[.string (S l), .string ⟨#[48, 49, 50, 51, 52, 53, 54, 55, 56, 57, 97, 98, 99, 100, 101, 102, 65, 66, 67, 68, 69, 70]⟩] u fun e w' => e = .returned (.string (S (Lib.trimLeftS l Wire.hexs))) ∧ Below u.heap.size u w') := fun u => trimleft_any u l Wire.hexs (by decide) (by decide)
  obtain ⟨d, hd, hda⟩ := trimLeft_parts l Wire.hexs
  have E : Hid (Wire.number l Wire.hexs 16 8 = if l.length - (Lib.trimLeftS l Wire.hexs).length = 0 ∨ 8 < l.length - (Lib.trimLeftS l Wire.hexs).length then none else some (Wire.numOf 16 (l.take (l.length - (Lib.trimLeftS l Wire.hexs).length)), Lib.trimLeftS l Wire.hexs)) := rfl
  obtain ⟨r, hr⟩ : ∃ r, r = Lib.trimLeftS l Wire.hexs := ⟨_, rfl⟩
  rw [← hr] at TL E hd
  obtain ⟨R, hR⟩ : ∃ R, R = Wire.number l Wire.hexs 16 8 := ⟨_, rfl⟩
  rw [← hR] at E ⊢
  have hlen : l.length = d.length + r.length := by rw [hd, List.length_append]
  have hk : l.length - r.length = d.length := by omega
  have htk : l.take d.length = d := by rw [hd]; simp
  rw [hk, htk] at E
  obtain ⟨s, hs⟩ : ∃ x, x = S l := ⟨_, rfl⟩
  have hsz : s.size = l.length := by rw [hs, S_size]
  have X1 : s.extract 0 d.length = S d := by rw [hs, S_extract]; simp [htk]
  obtain ⟨rs, hrs⟩ : ∃ x, x = S r := ⟨_, rfl⟩
  have hrz : rs.size = r.length := by rw [hrs, S_size]
  obtain ⟨n, hn⟩ : ∃ n, n = d.length := ⟨_, rfl⟩
  have PA : Hid (d ≠ [] → d.length ≤ 8 → ∀ u, Calls Tryz.prog 59 #[.string (S d), .int .i64 16, .int .i64 64] u fun e w' => e = .returned (.tuple #[.int .u64 (Wire.numOf 16 d : Int), .nilIface]) ∧ Below u.heap.size u w') := fun h1 h2 u => parse16_any u d h1 h2 (fun c hc => dg16 c (hda c hc))
  rw [← hs, ← hrs] at TL
  rw [← hn] at E X1
  rw [← hs]
  have HRS := Lib.hid hrs
  have HNN := Lib.hid hn
  have gsub : (s.size : Int) - (rs.size : Int) = (n : Int) := by omega
  have gle : n ≤ s.size := by omega
  have gz : s.size ≤ 1073741824 := by omega
  clear hr hR hd hda hk htk hs hrs hn hsz hrz hlen hl
  by_cases h0 : n = 0
  · have F : Hid (R = none) := by show _ = _; rw [E.out, if_pos (.inl h0)]
    have f0 : ((n : Int) == 0) = true := by rw [h0]; rfl
    have y0 : ((s.size : Int) - (rs.size : Int) == 0) = true := by rw [gsub]; exact f0
    clear E PA X1 h0
    go_enter Tryz.func43, Tryz.ntmps43
    go_wp2_with fail
    refine (TL.out _).mono ?_
    rintro e w1 ⟨rfl, hb⟩
    have B1 := Lib.hid hb
    clear hb TL
    go_wp2_with fail
    go_ret3
    exact ⟨by rw [F.out]; rfl, B1.out⟩
  · have f0 : ((n : Int) == 0) = false := by rw [beq_eq_false_iff_ne]; omega
    have y0 : ((s.size : Int) - (rs.size : Int) == 0) = false := by rw [gsub]; exact f0
    by_cases h1 : 8 < n
    · have F : Hid (R = none) := by show _ = _; rw [E.out, if_pos (.inr h1)]
      have f1 : decide ((8 : Int) < (n : Int)) = true := decide_eq_true (by omega)
      have y1 : decide ((8 : Int) < (s.size : Int) - (rs.size : Int)) = true := by rw [gsub]; exact f1
      clear E PA X1 h0
      go_enter Tryz.func43, Tryz.ntmps43
      go_wp2_with fail
      refine (TL.out _).mono ?_
      rintro e w1 ⟨rfl, hb⟩
      have B1 := Lib.hid hb
      clear hb TL
      go_wp2_with fail
      go_ret3
      exact ⟨by rw [F.out]; rfl, B1.out⟩
    · have F : Hid (R = some (Wire.numOf 16 d, r)) := by show _ = _; rw [E.out, if_neg (by omega)]
      have f1 : decide ((8 : Int) < (n : Int)) = false := decide_eq_false (by omega)
      have y1 : decide ((8 : Int) < (s.size : Int) - (rs.size : Int)) = false := by rw [gsub]; exact f1
      have PA2 := Lib.hid (PA.out (fun h => h0 (by rw [HNN.out, h]; rfl)) (by rw [← HNN.out]; omega))
      obtain ⟨v, hv⟩ : ∃ v, v = Wire.numOf 16 d := ⟨_, rfl⟩
      rw [← hv] at PA2 F
      clear E PA h0 hv
      go_enter Tryz.func43, Tryz.ntmps43
      go_wp2_with fail
      refine (TL.out _).mono ?_
      rintro e w1 ⟨rfl, hb⟩
      have B1 := Lib.hid hb
      clear hb TL
      go_wp2_with fail
      refine (PA2.out _).mono ?_
      rintro e w2 ⟨rfl, hb⟩
      have B2 := Lib.hid (B1.out.trans (hb.mono B1.out.size))
      clear hb PA2
      go_wp2_with fail
      go_quiet (fail)
      go_wp2_with fail
      go_ret3
      exact ⟨by rw [F.out, HRS.out]; rfl, below_drewN B2.out _⟩
end Go.Proofs.YtnodhbgkoedalaaGreatDoor

namespace Go.Proofs.YtnodhbgkoedalaaGreatDoor
open Go.RowKit Reply

section
variable {w0 w : World} {Bn p : Nat} {ty : TypeId} {z : List Value} {s : Wire.St} {A : Option Addr} {c : Nat}
set_option maxRecDepth 100000 in
set_option maxHeartbeats 4000000 in
theorem takeBody_any (h : RdS w0 Bn w p ty z s A c) (l : Reply.B) (k : Nat) (hb : s.q.body.length ≤ 1073741824) (hl : l.length ≤ 1073741824) :
    Calls Tryz.prog 27 #[.pointer (some ⟨p, 0, none⟩), .string (S l), .int .i64 (k : Int)] w fun e w' => Took w0 Bn w p ty z (Wire.takeBody s l k) e w' := by
  have c7 : w.cell? ⟨p, 7, none⟩ = some (.string (S s.q.body)) := h.cell 7
  have y7 := h.frozen 7
  obtain ⟨bs, hbs⟩ : ∃ x, x = S s.q.body := ⟨_, rfl⟩
  obtain ⟨ls, hls⟩ : ∃ x, x = S l := ⟨_, rfl⟩
  have hbz : bs.size ≤ 1073741824 := by rw [hbs, S_size]; exact hb
  have hlz : ls.size ≤ 1073741824 := by rw [hls, S_size]; exact hl
  have q1 : ¬ 9223372036854775807 < bs.size + ls.size := by omega
  have N : Hid (RdS w0 Bn (w.setCell ⟨p, 7, none⟩ (.string (bs ++ ls))) p ty z { s with q := { s.q with body := s.q.body ++ l } } A c) := by
    show RdS _ _ _ _ _ _ _ _ _
    rw [hbs, hls, S_append]
    exact h.body_ _
  have TH := Lib.hid (then_any N.out k)
  have FIN : Hid (Took w0 Bn w p ty z (Wire.takeBody s l k) (.returned (.int .i64 0)) ((w.setCell ⟨p, 7, none⟩ (.string (bs ++ ls))).setCell ⟨p, 0, none⟩ (.int .i64 (k : Int)))) :=
    ⟨rfl, ⟨A, c, N.out.step_ k⟩, ((Fr.refl Bn p w).set_ 7 _).set_ 0 _⟩
  rw [← hbs] at c7
  rw [← hls]
  clear h hbs hls hb hl N
  go_enter Tryz.func27, Tryz.ntmps27
  go_wp2_with fail
  refine TH.out.mono ?_
  rintro e w' ⟨rfl, rfl⟩
  clear TH
  go_wp2_with fail
  go_ret
  exact FIN.out
set_option maxRecDepth 100000 in
set_option maxHeartbeats 4000000 in
theorem expect_any (h : RdS w0 Bn w p ty z s A c) (l v : Reply.B) (k : Nat) :
    Calls Tryz.prog 29 #[.pointer (some ⟨p, 0, none⟩), .string (S l), .string (S v), .int .i64 (k : Int)] w fun e w' => Took w0 Bn w p ty z (Wire.expect s l v k) e w' := by
  have TH := Lib.hid (then_any h k)
  have f0 : ((S l).toList == (S v).toList) = decide (l = v) := S_eq l v
  by_cases hv : l = v
  · have FIN : Hid (Took w0 Bn w p ty z (Wire.expect s l v k) (.returned (.int .i64 0)) (w.setCell ⟨p, 0, none⟩ (.int .i64 (k : Int)))) :=
      ⟨by unfold Wire.expect; rw [if_neg (by simpa using hv)], ⟨A, c, by unfold Wire.expect; rw [if_neg (by simpa using hv)]; exact h.step_ k⟩, (Fr.refl Bn p w).set_ 0 _⟩
    rw [decide_eq_true hv] at f0
    obtain ⟨ls, hls⟩ : ∃ x, x = S l := ⟨_, rfl⟩
    obtain ⟨vs, hvs⟩ : ∃ x, x = S v := ⟨_, rfl⟩
    rw [← hls, ← hvs] at f0 ⊢
    clear h hv hls hvs
    go_enter Tryz.func29, Tryz.ntmps29
    go_wp2_with fail
    refine TH.out.mono ?_
    rintro e w' ⟨rfl, rfl⟩
    clear TH
    go_wp2_with fail
    go_ret
    exact FIN.out
  · have FIN : Hid (Took w0 Bn w p ty z (Wire.expect s l v k) (.returned (.int .i64 400)) w) :=
      ⟨by unfold Wire.expect; rw [if_pos hv], ⟨A, c, by unfold Wire.expect; rw [if_pos hv]; exact h⟩, Fr.refl Bn p w⟩
    rw [decide_eq_false hv] at f0
    obtain ⟨ls, hls⟩ : ∃ x, x = S l := ⟨_, rfl⟩
    obtain ⟨vs, hvs⟩ : ∃ x, x = S v := ⟨_, rfl⟩
    rw [← hls, ← hvs] at f0 ⊢
    clear h hv hls hvs TH
    go_enter Tryz.func29, Tryz.ntmps29
    go_wp2_with fail
    go_ret
    exact FIN.out
set_option maxRecDepth 100000 in
set_option maxHeartbeats 4000000 in
theorem takeTrailer_any (h : RdS w0 Bn w p ty z s A c) (l : Reply.B) (hl : l.length ≤ 1073741824) (ht : s.trailers ≤ 32) :
    Calls Tryz.prog 30 #[.pointer (some ⟨p, 0, none⟩), .string (S l)] w fun e w' => Took w0 Bn w p ty z (Wire.takeTrailer s l) e w' := by
  have BA := Lib.hid (bare_any w l 431 hl)
  have TH := Lib.hid (then_any h 8)
  have c3 : w.cell? ⟨p, 3, none⟩ = some (.int .i64 (s.trailers : Int)) := h.cell 3
  have y3 := h.frozen 3
  obtain ⟨a, ha⟩ : ∃ x, x = (Wire.bare l 431).1 := ⟨_, rfl⟩
  obtain ⟨t, hT⟩ : ∃ x, x = (Wire.bare l 431).2 := ⟨_, rfl⟩
  obtain ⟨m, hm⟩ : ∃ x, x = s.trailers := ⟨_, rfl⟩
  have E : Hid (Wire.takeTrailer s l = if t = 0 ∧ a = [] then (0, { s with step := 8 }) else if m = 32 then (431, s) else (t, { s with trailers := m + 1 })) := by show _ = _; unfold Wire.takeTrailer; rw [← ha, ← hT, ← hm]
  obtain ⟨R, hR⟩ : ∃ x, x = Wire.takeTrailer s l := ⟨_, rfl⟩
  rw [← hR] at E ⊢
  rw [← ha, ← hT] at BA
  rw [← hm] at c3 ht
  have f1 : (S a).toList.isEmpty = decide (a = []) := S_empty a
  obtain ⟨sa, has⟩ : ∃ x, x = S a := ⟨_, rfl⟩
  rw [← has] at f1 BA
  have F1 : Hid (R = (431, s) → Took w0 Bn w p ty z R (.returned (.int .i64 431)) w) := fun e => by rw [e]; exact ⟨rfl, ⟨A, c, h⟩, Fr.refl _ _ _⟩
  have F2 : Hid (R = (t, { s with trailers := m + 1 }) → Took w0 Bn w p ty z R (.returned (.int .i64 t)) (w.setCell ⟨p, 3, none⟩ (.int .i64 ((m : Int) + 1)))) := fun e => by rw [e]; exact ⟨rfl, ⟨A, c, h.tr_ (m + 1)⟩, (Fr.refl _ _ _).set_ 3 _⟩
  have F0 : Hid (R = (0, { s with step := 8 }) → Took w0 Bn w p ty z R (.returned (.int .i64 0)) (w.setCell ⟨p, 0, none⟩ (.int .i64 (8 : Nat)))) := fun e => by rw [e]; exact ⟨rfl, ⟨A, c, h.step_ 8⟩, (Fr.refl _ _ _).set_ 0 _⟩
  clear h ha hT hm hR has hl
  by_cases ha0 : a = []
  · rw [decide_eq_true ha0] at f1
    by_cases ht0 : t = 0
    · have G := Lib.hid (F0.out (by rw [E.out, if_pos ⟨ht0, ha0⟩]))
      subst ht0
      clear E F1 F2 F0 ha0
      go_enter Tryz.func30, Tryz.ntmps30
      go_wp2_with fail
      refine BA.out.mono ?_
      rintro e w' ⟨rfl, rfl⟩
      clear BA
      go_wp2_with fail
      refine TH.out.mono ?_
      rintro e w' ⟨rfl, rfl⟩
      clear TH
      go_wp2_with fail
      go_ret
      exact G.out
    · have f0 : (t == 0) = false := by rw [beq_eq_false_iff_ne]; exact ht0
      by_cases hm : m = 32
      · have G := Lib.hid (F1.out (by rw [E.out, if_neg (fun x => ht0 x.1), if_pos hm]))
        subst hm
        clear E F1 F2 F0 ha0 TH
        go_enter Tryz.func30, Tryz.ntmps30
        go_wp2_with fail
        refine BA.out.mono ?_
        rintro e w' ⟨rfl, rfl⟩
        clear BA
        go_wp2_with fail
        go_ret
        exact G.out
      · have G := Lib.hid (F2.out (by rw [E.out, if_neg (fun x => ht0 x.1), if_neg hm]))
        have f2 : ((m : Int) == 32) = false := by rw [beq_eq_false_iff_ne]; omega
        clear E F1 F2 F0 ha0 TH hm
        go_enter Tryz.func30, Tryz.ntmps30
        go_wp2_with fail
        refine BA.out.mono ?_
        rintro e w' ⟨rfl, rfl⟩
        clear BA
        go_wp2_with fail
        go_ret
        exact G.out
  · rw [decide_eq_false ha0] at f1
    by_cases hm : m = 32
    · have G := Lib.hid (F1.out (by rw [E.out, if_neg (fun x => ha0 x.2), if_pos hm]))
      subst hm
      obtain ⟨b, hb⟩ : ∃ b, b = (t == 0) := ⟨_, rfl⟩
      have f0 := hb.symm
      clear E F1 F2 F0 ha0 TH hb
      cases b
      · go_enter Tryz.func30, Tryz.ntmps30
        go_wp2_with fail
        refine BA.out.mono ?_
        rintro e w' ⟨rfl, rfl⟩
        clear BA
        go_wp2_with fail
        go_ret
        exact G.out
      · go_enter Tryz.func30, Tryz.ntmps30
        go_wp2_with fail
        refine BA.out.mono ?_
        rintro e w' ⟨rfl, rfl⟩
        clear BA
        go_wp2_with fail
        go_ret
        exact G.out
    · have G := Lib.hid (F2.out (by rw [E.out, if_neg (fun x => ha0 x.2), if_neg hm]))
      have f2 : ((m : Int) == 32) = false := by rw [beq_eq_false_iff_ne]; omega
      obtain ⟨b, hb⟩ : ∃ b, b = (t == 0) := ⟨_, rfl⟩
      have f0 := hb.symm
      clear E F1 F2 F0 ha0 TH hm hb
      cases b
      · go_enter Tryz.func30, Tryz.ntmps30
        go_wp2_with fail
        refine BA.out.mono ?_
        rintro e w' ⟨rfl, rfl⟩
        clear BA
        go_wp2_with fail
        go_ret
        exact G.out
      · go_enter Tryz.func30, Tryz.ntmps30
        go_wp2_with fail
        refine BA.out.mono ?_
        rintro e w' ⟨rfl, rfl⟩
        clear BA
        go_wp2_with fail
        go_ret
        exact G.out
end
end Go.Proofs.YtnodhbgkoedalaaGreatDoor

namespace Go.Proofs.YtnodhbgkoedalaaGreatDoor
open Go.RowKit Reply

theorem bare_len (l : Reply.B) (t : Int) : (Wire.bare l t).1.length ≤ l.length := by
  unfold Wire.bare
  split
  · split
    · have a := cutsuf_len l [10]
      have b := cutsuf_len (Lib.trimSuffix l [10]) [13]
      simp only
      omega
    · simp
  · simp
theorem cut1_len (l s : Reply.B) : (Lib.cut l s).1.length ≤ l.length := by
  unfold Lib.cut
  split
  · simp only [List.length_take]; omega
  · exact Nat.le_refl _
theorem cut2_len (l s : Reply.B) : (Lib.cut l s).2.1.length ≤ l.length := by
  unfold Lib.cut
  split
  · simp only [List.length_drop]; omega
  · simp
theorem ib_chunk (w : World) (c : UInt8) (x : Nat) (hx : x = c.toNat) :
    Calls Tryz.prog 44 #[.string ⟨#[32, 9, 59]⟩, .int .u8 (x : Int)] w fun e w' => e = .returned (.int .i64 (Lib.indexByte [32, 9, 59] c)) ∧ w = w' := by
  refine (Tryz.strings_IndexByte _ (x : Int) w).mono ?_
  rintro e w' ⟨rfl, rfl⟩
  have e1 : ((x : Int)).toNat.toUInt8 = c := by
    have c8 := c.toNat_lt
    apply UInt8.toNat_inj.1
    rw [hx]
    simp
  rw [e1]
  exact ⟨rfl, rfl⟩
/-- What becomes of the number ahead of a chunk. -/
def ckOf (s : Wire.St) (m : Nat) : Option (Nat × Reply.B) → Int × Wire.St
  | none => (400, s)
  | some (n, rest) => if rest ≠ [] ∧ ¬ ([32, 9, 59] : Reply.B).contains (rest.headD 0) then (400, s) else if n = 0 then (0, { s with step := 7 }) else if 8192 - m < n then (413, s) else (0, { s with size := n, step := 4 })
theorem chunkLine_of (s : Wire.St) (l : Reply.B) : Wire.takeChunkLine s l = if (Wire.bare l 400).2 ≠ 0 then ((Wire.bare l 400).2, s) else ckOf s s.q.body.length (Wire.number (Wire.bare l 400).1 Wire.hexs 16 8) := by
  unfold Wire.takeChunkLine
  split
  · rfl
  · cases Wire.number (Wire.bare l 400).1 Wire.hexs 16 8 <;> rfl
section
variable {w0 w : World} {Bn p : Nat} {ty : TypeId} {z : List Value} {s : Wire.St} {A : Option Addr} {c : Nat}
set_option maxRecDepth 100000 in
set_option maxHeartbeats 8000000 in
theorem takeChunkLine_any (h : RdS w0 Bn w p ty z s A c) (l : Reply.B) (hl : l.length ≤ 1073741824) (hb : s.q.body.length ≤ 8192) :
    Calls Tryz.prog 28 #[.pointer (some ⟨p, 0, none⟩), .string (S l)] w fun e w' => Took w0 Bn w p ty z (Wire.takeChunkLine s l) e w' := by
  have BA := Lib.hid (bare_any w l 400 hl)
  have bl := bare_len l 400
  obtain ⟨a, ha⟩ : ∃ x, x = (Wire.bare l 400).1 := ⟨_, rfl⟩
  obtain ⟨t, hT⟩ : ∃ x, x = (Wire.bare l 400).2 := ⟨_, rfl⟩
  rw [← ha] at bl
  have NU := Lib.hid (number16_any w a (by omega))
  obtain ⟨nr, hnr⟩ : ∃ x, x = Wire.number a Wire.hexs 16 8 := ⟨_, rfl⟩
  have E : Hid (Wire.takeChunkLine s l = if t ≠ 0 then (t, s) else ckOf s s.q.body.length nr) := by show _ = _; rw [chunkLine_of, ← ha, ← hT, ← hnr]
  obtain ⟨R, hR⟩ : ∃ x, x = Wire.takeChunkLine s l := ⟨_, rfl⟩
  rw [← hR] at E ⊢
  rw [← ha, ← hT] at BA
  rw [← hnr] at NU
  obtain ⟨bs, hbs⟩ : ∃ x, x = S s.q.body := ⟨_, rfl⟩
  obtain ⟨m, hm⟩ : ∃ m, m = s.q.body.length := ⟨_, rfl⟩
  have bz : bs.size = m := by rw [hbs, S_size, hm]
  have mz : m ≤ 8192 := by omega
  rw [← hm] at E
  have HRD := Lib.hid h
  have HBS := Lib.hid hbs
  have C7 : Hid (∀ u, RdS w0 Bn u p ty z s A c → u.cell? ⟨p, 7, none⟩ = some (.string bs)) := fun u k => by rw [HBS.out]; exact k.cell 7
  have Y1 : Hid (∀ u, RdS w0 Bn u p ty z s A c → u.frozen? ⟨p, 1, none⟩ = false) := fun u k => k.frozen 1
  have X1 : Hid (∀ u, RdS w0 Bn u p ty z s A c → u.cell? ⟨p, 1, none⟩ = some (.int .i64 (s.size : Int))) := fun u k => k.cell 1
  have TH := Lib.hid (fun u (k : RdS w0 Bn u p ty z s A c) => then_any k 7)
  have TH4 := Lib.hid (fun u (n : Nat) (k : RdS w0 Bn u p ty z s A c) => then_any (k.size_ n) 4)
  have FR : Hid (∀ (u : World) (r : Int), Below w.heap.size w u → R = (r, s) → Took w0 Bn w p ty z R (.returned (.int .i64 r)) u) := fun u r k e => by rw [e]; exact ⟨rfl, ⟨A, c, h.under k⟩, Fr.of_below h.sz k⟩
  have F7 : Hid (∀ (u : World), Below w.heap.size w u → R = (0, { s with step := 7 }) → Took w0 Bn w p ty z R (.returned (.int .i64 0)) (u.setCell ⟨p, 0, none⟩ (.int .i64 (7 : Nat)))) := fun u k e => by rw [e]; exact ⟨rfl, ⟨A, c, (h.under k).step_ 7⟩, (Fr.of_below h.sz k).set_ 0 _⟩
  have F4 : Hid (∀ (u : World) (n : Nat), Below w.heap.size w u → R = (0, { s with size := n, step := 4 }) → Took w0 Bn w p ty z R (.returned (.int .i64 0)) ((u.setCell ⟨p, 1, none⟩ (.int .i64 (n : Int))).setCell ⟨p, 0, none⟩ (.int .i64 (4 : Nat)))) := fun u n k e => by rw [e]; exact ⟨rfl, ⟨A, c, ((h.under k).size_ n).step_ 4⟩, ((Fr.of_below h.sz k).set_ 1 _).set_ 0 _⟩
  clear h ha hT hnr hR hbs hl hb hm bl
  by_cases ht : t = 0
  · subst ht
    have E2 := Lib.hid (E.out.trans (if_neg (by simp)))
    clear E
    rcases nr with _ | ⟨n, r⟩
    · have G := Lib.hid (fun u k => FR.out u 400 k E2.out)
      clear E2 FR F7 F4 TH TH4
      rw [show numV none = .tuple #[.int .u64 0, .string ⟨#[]⟩, .bool false] from rfl] at NU
      go_enter Tryz.func28, Tryz.ntmps28
      go_wp2_with fail
      refine BA.out.mono ?_
      rintro e w' ⟨rfl, rfl⟩
      clear BA
      go_wp2_with fail
      refine NU.out.mono ?_
      rintro e w1 ⟨rfl, hb1⟩
      have B1 := Lib.hid hb1
      have c7 := C7.out _ (HRD.out.under hb1)
      clear hb1 NU
      go_wp2_with fail
      go_ret
      exact G.out _ B1.out
    · have g1 : (S r).toList.isEmpty = decide (r = []) := S_empty r
      obtain ⟨rs, hrs⟩ : ∃ x, x = S r := ⟨_, rfl⟩
      have hrz : rs.size = r.length := by rw [hrs, S_size]
      have E3 : Hid (R = if r ≠ [] ∧ ¬ ([32, 9, 59] : Reply.B).contains (r.headD 0) then (400, s) else if n = 0 then (0, { s with step := 7 }) else if 8192 - m < n then (413, s) else (0, { s with size := n, step := 4 })) := E2.out
      clear E2
      rw [show numV (some (n, r)) = .tuple #[.int .u64 (n : Int), .string (S r), .bool true] from rfl] at NU
      rw [← hrs] at g1 NU
      by_cases hr : r = []
      · rw [decide_eq_true hr] at g1
        clear hrs hrz
        have E4 := Lib.hid (E3.out.trans (if_neg (fun x => x.1 hr)))
        clear E3
        by_cases hn0 : n = 0
        · have f0 : ((n : Int) == 0) = true := by rw [hn0]; rfl
          have G := Lib.hid (fun u k => F7.out u k (by rw [E4.out, if_pos hn0]))
          clear E4 FR F7 F4 TH4 hn0
          go_enter Tryz.func28, Tryz.ntmps28
          go_wp2_with fail
          refine BA.out.mono ?_
          rintro e w' ⟨rfl, rfl⟩
          clear BA
          go_wp2_with fail
          refine NU.out.mono ?_
          rintro e w1 ⟨rfl, hb1⟩
          have B1 := Lib.hid hb1
          have R1 := Lib.hid (HRD.out.under hb1)
          have c7 := C7.out _ R1.out
          have y1 := Y1.out _ R1.out
          have x1 := X1.out _ R1.out
          clear hb1 NU
          go_wp2_with fail
          refine (TH.out _ R1.out).mono ?_
          rintro e w' ⟨rfl, rfl⟩
          clear TH
          go_wp2_with fail
          go_ret
          exact G.out _ B1.out
        · have f0 : ((n : Int) == 0) = false := by rw [beq_eq_false_iff_ne]; omega
          by_cases hgt : 8192 - m < n
          · have f1 : decide ((8192 : Int) - (bs.size : Int) < (n : Int)) = true := decide_eq_true (by omega)
            have f2 : (8192 : Int) - (bs.size : Int) < (n : Int) := by omega
            have G := Lib.hid (fun u k => FR.out u 413 k (by rw [E4.out, if_neg hn0, if_pos hgt]))
            clear E4 FR F7 F4 TH4 TH hn0 hgt
            go_enter Tryz.func28, Tryz.ntmps28
            go_wp2_with fail
            refine BA.out.mono ?_
            rintro e w' ⟨rfl, rfl⟩
            clear BA
            go_wp2_with fail
            refine NU.out.mono ?_
            rintro e w1 ⟨rfl, hb1⟩
            have B1 := Lib.hid hb1
            have R1 := Lib.hid (HRD.out.under hb1)
            have c7 := C7.out _ R1.out
            have y1 := Y1.out _ R1.out
            have x1 := X1.out _ R1.out
            clear hb1 NU
            go_wp2_with fail
            go_ret
            exact G.out _ B1.out
          · have f1 : decide ((8192 : Int) - (bs.size : Int) < (n : Int)) = false := decide_eq_false (by omega)
            have f2 : ¬ (8192 : Int) - (bs.size : Int) < (n : Int) := by omega
            have f3 : (n : Int) ≤ 8192 := by omega
            have G := Lib.hid (fun u k => F4.out u n k (by rw [E4.out, if_neg hn0, if_neg hgt]))
            clear E4 FR F7 F4 TH hn0 hgt
            go_enter Tryz.func28, Tryz.ntmps28
            go_wp2_with fail
            refine BA.out.mono ?_
            rintro e w' ⟨rfl, rfl⟩
            clear BA
            go_wp2_with fail
            refine NU.out.mono ?_
            rintro e w1 ⟨rfl, hb1⟩
            have B1 := Lib.hid hb1
            have R1 := Lib.hid (HRD.out.under hb1)
            have c7 := C7.out _ R1.out
            have y1 := Y1.out _ R1.out
            have x1 := X1.out _ R1.out
            clear hb1 NU
            go_wp2_with fail
            refine (TH4.out _ n R1.out).mono ?_
            rintro e w' ⟨rfl, rfl⟩
            clear TH4
            go_wp2_with fail
            go_ret
            exact G.out _ B1.out
      · rw [decide_eq_false hr] at g1
        have rp : 0 < r.length := List.length_pos_iff.2 hr
        have rl : 0 < rs.size := by omega
        obtain ⟨x, hx⟩ : ∃ x, x = (r.headD 0).toNat := ⟨_, rfl⟩
        have a0 : ((rs[0]'rl).toNat : Int) = (x : Int) := by
          subst hrs
          rw [S_at, hx]
          cases r with
          | nil => exact absurd rfl hr
          | cons y ys => rfl
        have IB := Lib.hid (fun u => ib_chunk u (r.headD 0) x hx)
        have IX := Lib.contains_iff_indexByte [32, 9, 59] (r.headD 0)
        obtain ⟨q, hq⟩ : ∃ q, q = Lib.indexByte [32, 9, 59] (r.headD 0) := ⟨_, rfl⟩
        rw [← hq] at IB IX
        cases hcn : ([32, 9, 59] : Reply.B).contains (r.headD 0)
        · have G := Lib.hid (fun u k => FR.out u 400 k (by rw [E3.out, if_pos ⟨hr, by rw [hcn]; exact Bool.false_ne_true⟩]))
          have q0 : q < 0 := by rw [hcn] at IX; have := of_decide_eq_false IX.symm; omega
          have f5 : decide (q < 0) = true := decide_eq_true q0
          clear E3 FR F7 F4 TH TH4 hr hrs hrz rp hx hq hcn IX
          go_enter Tryz.func28, Tryz.ntmps28
          go_wp2_with fail
          refine BA.out.mono ?_
          rintro e w' ⟨rfl, rfl⟩
          clear BA
          go_wp2_with fail
          refine NU.out.mono ?_
          rintro e w1 ⟨rfl, hb1⟩
          have B1 := Lib.hid hb1
          have c7 := C7.out _ (HRD.out.under hb1)
          clear hb1 NU
          go_wp2_with fail
          refine (IB.out _).mono ?_
          rintro e w' ⟨rfl, rfl⟩
          clear IB
          go_wp2_with fail
          go_ret
          exact G.out _ B1.out
        · have q0 : ¬ q < 0 := by rw [hcn] at IX; have := of_decide_eq_true IX.symm; omega
          have f5 : decide (q < 0) = false := decide_eq_false q0
          have E4 := Lib.hid (E3.out.trans (if_neg (fun x => x.2 hcn)))
          clear E3 hr hrs hrz rp hx hq hcn IX
          by_cases hn0 : n = 0
          · have f0 : ((n : Int) == 0) = true := by rw [hn0]; rfl
            have G := Lib.hid (fun u k => F7.out u k (by rw [E4.out, if_pos hn0]))
            clear E4 FR F7 F4 TH4 hn0
            go_enter Tryz.func28, Tryz.ntmps28
            go_wp2_with fail
            refine BA.out.mono ?_
            rintro e w' ⟨rfl, rfl⟩
            clear BA
            go_wp2_with fail
            refine NU.out.mono ?_
            rintro e w1 ⟨rfl, hb1⟩
            have B1 := Lib.hid hb1
            have R1 := Lib.hid (HRD.out.under hb1)
            have c7 := C7.out _ R1.out
            have y1 := Y1.out _ R1.out
            have x1 := X1.out _ R1.out
            clear hb1 NU
            go_wp2_with fail
            refine (IB.out _).mono ?_
            rintro e w' ⟨rfl, rfl⟩
            clear IB
            go_wp2_with fail
            refine (TH.out _ R1.out).mono ?_
            rintro e w' ⟨rfl, rfl⟩
            clear TH
            go_wp2_with fail
            go_ret
            exact G.out _ B1.out
          · have f0 : ((n : Int) == 0) = false := by rw [beq_eq_false_iff_ne]; omega
            by_cases hgt : 8192 - m < n
            · have f1 : decide ((8192 : Int) - (bs.size : Int) < (n : Int)) = true := decide_eq_true (by omega)
              have f2 : (8192 : Int) - (bs.size : Int) < (n : Int) := by omega
              have G := Lib.hid (fun u k => FR.out u 413 k (by rw [E4.out, if_neg hn0, if_pos hgt]))
              clear E4 FR F7 F4 TH4 TH hn0 hgt
              go_enter Tryz.func28, Tryz.ntmps28
              go_wp2_with fail
              refine BA.out.mono ?_
              rintro e w' ⟨rfl, rfl⟩
              clear BA
              go_wp2_with fail
              refine NU.out.mono ?_
              rintro e w1 ⟨rfl, hb1⟩
              have B1 := Lib.hid hb1
              have R1 := Lib.hid (HRD.out.under hb1)
              have c7 := C7.out _ R1.out
              have y1 := Y1.out _ R1.out
              have x1 := X1.out _ R1.out
              clear hb1 NU
              go_wp2_with fail
              refine (IB.out _).mono ?_
              rintro e w' ⟨rfl, rfl⟩
              clear IB
              go_wp2_with fail
              go_ret
              exact G.out _ B1.out
            · have f1 : decide ((8192 : Int) - (bs.size : Int) < (n : Int)) = false := decide_eq_false (by omega)
              have f2 : ¬ (8192 : Int) - (bs.size : Int) < (n : Int) := by omega
              have f3 : (n : Int) ≤ 8192 := by omega
              have G := Lib.hid (fun u k => F4.out u n k (by rw [E4.out, if_neg hn0, if_neg hgt]))
              clear E4 FR F7 F4 TH hn0 hgt
              go_enter Tryz.func28, Tryz.ntmps28
              go_wp2_with fail
              refine BA.out.mono ?_
              rintro e w' ⟨rfl, rfl⟩
              clear BA
              go_wp2_with fail
              refine NU.out.mono ?_
              rintro e w1 ⟨rfl, hb1⟩
              have B1 := Lib.hid hb1
              have R1 := Lib.hid (HRD.out.under hb1)
              have c7 := C7.out _ R1.out
              have y1 := Y1.out _ R1.out
              have x1 := X1.out _ R1.out
              clear hb1 NU
              go_wp2_with fail
              refine (IB.out _).mono ?_
              rintro e w' ⟨rfl, rfl⟩
              clear IB
              go_wp2_with fail
              refine (TH4.out _ n R1.out).mono ?_
              rintro e w' ⟨rfl, rfl⟩
              clear TH4
              go_wp2_with fail
              go_ret
              exact G.out _ B1.out
  · have G := Lib.hid (FR.out w t (Below.refl _ _) (by rw [E.out, if_pos ht]))
    have f0 : (t == 0) = false := by rw [beq_eq_false_iff_ne]; exact ht
    clear E FR F7 F4 TH TH4 NU
    go_enter Tryz.func28, Tryz.ntmps28
    go_wp2_with fail
    refine BA.out.mono ?_
    rintro e w' ⟨rfl, rfl⟩
    clear BA
    go_wp2_with fail
    go_ret
    exact G.out
set_option maxRecDepth 100000 in
set_option maxHeartbeats 8000000 in
theorem takeFirst_any (h : RdS w0 Bn w p ty z s A c) (l : Reply.B) (hl : l.length ≤ 1073741824) :
    Calls Tryz.prog 25 #[.pointer (some ⟨p, 0, none⟩), .string (S l)] w fun e w' => Took w0 Bn w p ty z (Wire.takeFirst s l) e w' := by
  have BA := Lib.hid (bare_any w l 414 hl)
  have bl := bare_len l 414
  obtain ⟨a, ha⟩ : ∃ x, x = (Wire.bare l 414).1 := ⟨_, rfl⟩
  obtain ⟨t, hT⟩ : ∃ x, x = (Wire.bare l 414).2 := ⟨_, rfl⟩
  rw [← ha] at bl
  have b1 := cut1_len a [32]
  have b2 := cut2_len a [32]
  have C1 : Hid (Calls Tryz.prog 35 #[.string (S a), .string ⟨#[32]⟩] w fun e w' => e = .returned (.tuple #[.string (S (Lib.cut a [32]).1), .string (S (Lib.cut a [32]).2.1), .bool (Lib.cut a [32]).2.2]) ∧ Below w.heap.size w w') := cut_any w h.envw a [32] (by omega)
  obtain ⟨m, hm⟩ : ∃ x, x = (Lib.cut a [32]).1 := ⟨_, rfl⟩
  obtain ⟨v, hv⟩ : ∃ x, x = (Lib.cut a [32]).2.1 := ⟨_, rfl⟩
  obtain ⟨k1, hk1⟩ : ∃ x, x = (Lib.cut a [32]).2.2 := ⟨_, rfl⟩
  rw [← hm] at b1
  rw [← hv] at b2
  have b3 := cut1_len v [32]
  have b4 := cut2_len v [32]
  have C2 : Hid (∀ u, RdS w0 Bn u p ty z s A c → Calls Tryz.prog 35 #[.string (S v), .string ⟨#[32]⟩] u fun e w' => e = .returned (.tuple #[.string (S (Lib.cut v [32]).1), .string (S (Lib.cut v [32]).2.1), .bool (Lib.cut v [32]).2.2]) ∧ Below u.heap.size u w') := fun u k => cut_any u k.envw v [32] (by omega)
  obtain ⟨g, hg⟩ : ∃ x, x = (Lib.cut v [32]).1 := ⟨_, rfl⟩
  obtain ⟨y, hy⟩ : ∃ x, x = (Lib.cut v [32]).2.1 := ⟨_, rfl⟩
  obtain ⟨k2, hk2⟩ : ∃ x, x = (Lib.cut v [32]).2.2 := ⟨_, rfl⟩
  rw [← hg] at b3
  rw [← hy] at b4
  have E : Hid (Wire.takeFirst s l = if t ≠ 0 then (t, s) else if a = [] then (0, { s with step := 0 }) else if !tokn m || !Wire.isTarget g || !Wire.isVersion y then (400, s) else if y ≠ Wire.http11 then (505, s) else (0, { s with step := 1, q := { s.q with method := m, target := g } })) := by show _ = _; unfold Wire.takeFirst; dsimp only; rw [← ha, ← hT, ← hm, ← hv, ← hg, ← hy]
  rw [← hm, ← hv, ← hk1] at C1
  rw [← hg, ← hy, ← hk2] at C2
  rw [← ha, ← hT] at BA
  obtain ⟨R, hR⟩ : ∃ x, x = Wire.takeFirst s l := ⟨_, rfl⟩
  rw [← hR] at E ⊢
  have f1 : (S a).toList.isEmpty = decide (a = []) := S_empty a
  have f5 : ((S y).toList == [72, 84, 84, 80, 47, 49, 46, 49]) = decide (y = Wire.http11) := by rw [S_toList]; exact eqd y Wire.http11
  have TK := Lib.hid (fun u => istoken_any u (S m) (by rw [S_size]; omega))
  have TG := Lib.hid (fun u => target_any u (S g) (by rw [S_size]; omega))
  have VE := Lib.hid (fun u => version_any u y)
  rw [S_list] at TK TG
  obtain ⟨d1, hd1⟩ : ∃ x, x = tokn m := ⟨_, rfl⟩
  obtain ⟨d2, hd2⟩ : ∃ x, x = Wire.isTarget g := ⟨_, rfl⟩
  obtain ⟨d3, hd3⟩ : ∃ x, x = Wire.isVersion y := ⟨_, rfl⟩
  rw [← hd1] at TK E
  rw [← hd2] at TG E
  rw [← hd3] at VE E
  obtain ⟨as_, has⟩ : ∃ x, x = S a := ⟨_, rfl⟩
  obtain ⟨ms, hms⟩ : ∃ x, x = S m := ⟨_, rfl⟩
  obtain ⟨vs, hvs⟩ : ∃ x, x = S v := ⟨_, rfl⟩
  obtain ⟨gs, hgs⟩ : ∃ x, x = S g := ⟨_, rfl⟩
  obtain ⟨ys, hys⟩ : ∃ x, x = S y := ⟨_, rfl⟩
  have H := Lib.hid h
  have MS := Lib.hid hms
  have GS := Lib.hid hgs
  have TH0 := Lib.hid (then_any h 0)
  have Y4 : Hid (∀ u, RdS w0 Bn u p ty z s A c → u.frozen? ⟨p, 4, none⟩ = false ∧ u.frozen? ⟨p, 5, none⟩ = false) := fun u k => ⟨k.frozen 4, k.frozen 5⟩
  have X4 : Hid (∀ u, RdS w0 Bn u p ty z s A c → u.cell? ⟨p, 4, none⟩ = some (.string (S s.q.method)) ∧ u.cell? ⟨p, 5, none⟩ = some (.string (S s.q.target))) := fun u k => ⟨k.cell 4, k.cell 5⟩
  have TH1 : Hid (∀ u, RdS w0 Bn u p ty z s A c → Calls Tryz.prog 34 #[.pointer (some ⟨p, 0, none⟩), .int .i64 1] ((u.setCell ⟨p, 4, none⟩ (.string ms)).setCell ⟨p, 5, none⟩ (.string gs)) fun e w' => e = .returned (.int .i64 0) ∧ w' = ((u.setCell ⟨p, 4, none⟩ (.string ms)).setCell ⟨p, 5, none⟩ (.string gs)).setCell ⟨p, 0, none⟩ (.int .i64 1)) := fun u k => by
    have k2 := (k.meth_ m).targ_ g
    rw [← hms, ← hgs] at k2
    exact then_any k2 1
  have FR : Hid (∀ (u : World) (r : Int), Below w.heap.size w u → R = (r, s) → Took w0 Bn w p ty z R (.returned (.int .i64 r)) u) := fun u r k e => by rw [e]; exact ⟨rfl, ⟨A, c, h.under k⟩, Fr.of_below h.sz k⟩
  have F0 : Hid (R = (0, { s with step := 0 }) → Took w0 Bn w p ty z R (.returned (.int .i64 0)) (w.setCell ⟨p, 0, none⟩ (.int .i64 (0 : Nat)))) := fun e => by rw [e]; exact ⟨rfl, ⟨A, c, h.step_ 0⟩, (Fr.refl _ _ _).set_ 0 _⟩
  have F1 : Hid (∀ (u : World), Below w.heap.size w u → R = (0, { s with step := 1, q := { s.q with method := m, target := g } }) → Took w0 Bn w p ty z R (.returned (.int .i64 0)) (((u.setCell ⟨p, 4, none⟩ (.string ms)).setCell ⟨p, 5, none⟩ (.string gs)).setCell ⟨p, 0, none⟩ (.int .i64 1))) := fun u k e => by
    rw [e]
    have k2 := ((((h.under k).meth_ m).targ_ g)).step_ 1
    rw [← hms, ← hgs] at k2
    exact ⟨rfl, ⟨A, c, k2⟩, (((Fr.of_below h.sz k).set_ 4 _).set_ 5 _).set_ 0 _⟩
  rw [← has] at f1 BA C1
  rw [← hms] at C1 TK
  rw [← hvs] at C1 C2
  rw [← hgs] at C2 TG
  rw [← hys] at C2 VE f5
  clear h ha hT hm hv hk1 hg hy hk2 hR hd1 hd2 hd3 has hms hvs hgs hys b1 b2 b3 b4 bl hl
  by_cases ht : t = 0
  · subst ht
    have E2 := Lib.hid (E.out.trans (if_neg (by simp)))
    clear E
    by_cases ha0 : a = []
    · rw [decide_eq_true ha0] at f1
      have G := Lib.hid (F0.out (by rw [E2.out, if_pos ha0]))
      clear E2 FR F0 F1 TH1 C1 C2 TK TG VE f5 ha0 X4 Y4
      go_enter Tryz.func25, Tryz.ntmps25
      go_wp2_with fail
      refine BA.out.mono ?_
      rintro e w' ⟨rfl, rfl⟩
      clear BA
      go_wp2_with fail
      refine TH0.out.mono ?_
      rintro e w' ⟨rfl, rfl⟩
      clear TH0
      go_wp2_with fail
      go_ret
      exact G.out
    · rw [decide_eq_false ha0] at f1
      have E3 := Lib.hid (E2.out.trans (if_neg ha0))
      clear E2
      cases d1
      · skip
        have G := Lib.hid (fun u k => FR.out u 400 k E3.out)
        clear E3 FR F0 F1 TH0 TH1 TG VE f5 ha0 X4 Y4
        go_enter Tryz.func25, Tryz.ntmps25
        go_wp2_with fail
        refine BA.out.mono ?_
        rintro e w' ⟨rfl, rfl⟩
        clear BA
        go_wp2_with fail
        refine C1.out.mono ?_
        rintro e w1 ⟨rfl, hb1⟩
        have B1 := Lib.hid hb1
        have R1 := Lib.hid (H.out.under hb1)
        clear hb1 C1
        go_wp2_with fail
        refine (C2.out _ R1.out).mono ?_
        rintro e w2 ⟨rfl, hb2⟩
        have B2 := Lib.hid (B1.out.trans (hb2.mono B1.out.size))
        have R2 := Lib.hid (R1.out.under hb2)
        clear hb2 C2
        go_wp2_with fail
        refine (TK.out _).mono ?_
        rintro e w' ⟨rfl, rfl⟩
        clear TK
        go_wp2_with fail
        go_ret
        exact G.out _ B2.out
      · cases d2
        · skip
          have G := Lib.hid (fun u k => FR.out u 400 k E3.out)
          clear E3 FR F0 F1 TH0 TH1 VE f5 ha0 X4 Y4
          go_enter Tryz.func25, Tryz.ntmps25
          go_wp2_with fail
          refine BA.out.mono ?_
          rintro e w' ⟨rfl, rfl⟩
          clear BA
          go_wp2_with fail
          refine C1.out.mono ?_
          rintro e w1 ⟨rfl, hb1⟩
          have B1 := Lib.hid hb1
          have R1 := Lib.hid (H.out.under hb1)
          clear hb1 C1
          go_wp2_with fail
          refine (C2.out _ R1.out).mono ?_
          rintro e w2 ⟨rfl, hb2⟩
          have B2 := Lib.hid (B1.out.trans (hb2.mono B1.out.size))
          have R2 := Lib.hid (R1.out.under hb2)
          clear hb2 C2
          go_wp2_with fail
          refine (TK.out _).mono ?_
          rintro e w' ⟨rfl, rfl⟩
          clear TK
          go_wp2_with fail
          refine (TG.out _).mono ?_
          rintro e w' ⟨rfl, rfl⟩
          clear TG
          go_wp2_with fail
          go_ret
          exact G.out _ B2.out
        · cases d3
          · skip
            have G := Lib.hid (fun u k => FR.out u 400 k E3.out)
            clear E3 FR F0 F1 TH0 TH1 f5 ha0 X4 Y4
            go_enter Tryz.func25, Tryz.ntmps25
            go_wp2_with fail
            refine BA.out.mono ?_
            rintro e w' ⟨rfl, rfl⟩
            clear BA
            go_wp2_with fail
            refine C1.out.mono ?_
            rintro e w1 ⟨rfl, hb1⟩
            have B1 := Lib.hid hb1
            have R1 := Lib.hid (H.out.under hb1)
            clear hb1 C1
            go_wp2_with fail
            refine (C2.out _ R1.out).mono ?_
            rintro e w2 ⟨rfl, hb2⟩
            have B2 := Lib.hid (B1.out.trans (hb2.mono B1.out.size))
            have R2 := Lib.hid (R1.out.under hb2)
            clear hb2 C2
            go_wp2_with fail
            refine (TK.out _).mono ?_
            rintro e w' ⟨rfl, rfl⟩
            clear TK
            go_wp2_with fail
            refine (TG.out _).mono ?_
            rintro e w' ⟨rfl, rfl⟩
            clear TG
            go_wp2_with fail
            refine (VE.out _).mono ?_
            rintro e w' ⟨rfl, rfl⟩
            clear VE
            go_wp2_with fail
            go_ret
            exact G.out _ B2.out
          · have E4 : Hid (R = if y ≠ Wire.http11 then (505, s) else (0, { s with step := 1, q := { s.q with method := m, target := g } })) := E3.out
            clear E3
            by_cases hy1 : y = Wire.http11
            · rw [decide_eq_true hy1] at f5
              have G := Lib.hid (fun u k => F1.out u k (by rw [E4.out, if_neg (by simpa using hy1)]))
              clear E4 FR F0 F1 TH0 ha0 hy1
              go_enter Tryz.func25, Tryz.ntmps25
              go_wp2_with fail
              refine BA.out.mono ?_
              rintro e w' ⟨rfl, rfl⟩
              clear BA
              go_wp2_with fail
              refine C1.out.mono ?_
              rintro e w1 ⟨rfl, hb1⟩
              have B1 := Lib.hid hb1
              have R1 := Lib.hid (H.out.under hb1)
              clear hb1 C1
              go_wp2_with fail
              refine (C2.out _ R1.out).mono ?_
              rintro e w2 ⟨rfl, hb2⟩
              have B2 := Lib.hid (B1.out.trans (hb2.mono B1.out.size))
              have R2 := Lib.hid (R1.out.under hb2)
              clear hb2 C2
              go_wp2_with fail
              refine (TK.out _).mono ?_
              rintro e w' ⟨rfl, rfl⟩
              clear TK
              go_wp2_with fail
              refine (TG.out _).mono ?_
              rintro e w' ⟨rfl, rfl⟩
              clear TG
              go_wp2_with fail
              refine (VE.out _).mono ?_
              rintro e w' ⟨rfl, rfl⟩
              clear VE
              have y4 := (Y4.out _ R2.out).1
              have y5 := (Y4.out _ R2.out).2
              have x4 := (X4.out _ R2.out).1
              have x5 := (X4.out _ R2.out).2
              go_wp2_with fail
              refine (TH1.out _ R2.out).mono ?_
              rintro e w' ⟨rfl, rfl⟩
              clear TH1
              go_wp2_with fail
              go_ret
              exact G.out _ B2.out
            · rw [decide_eq_false hy1] at f5
              have G := Lib.hid (fun u k => FR.out u 505 k (by rw [E4.out, if_pos hy1]))
              clear E4 FR F0 F1 TH0 TH1 ha0 hy1 X4 Y4
              go_enter Tryz.func25, Tryz.ntmps25
              go_wp2_with fail
              refine BA.out.mono ?_
              rintro e w' ⟨rfl, rfl⟩
              clear BA
              go_wp2_with fail
              refine C1.out.mono ?_
              rintro e w1 ⟨rfl, hb1⟩
              have B1 := Lib.hid hb1
              have R1 := Lib.hid (H.out.under hb1)
              clear hb1 C1
              go_wp2_with fail
              refine (C2.out _ R1.out).mono ?_
              rintro e w2 ⟨rfl, hb2⟩
              have B2 := Lib.hid (B1.out.trans (hb2.mono B1.out.size))
              have R2 := Lib.hid (R1.out.under hb2)
              clear hb2 C2
              go_wp2_with fail
              refine (TK.out _).mono ?_
              rintro e w' ⟨rfl, rfl⟩
              clear TK
              go_wp2_with fail
              refine (TG.out _).mono ?_
              rintro e w' ⟨rfl, rfl⟩
              clear TG
              go_wp2_with fail
              refine (VE.out _).mono ?_
              rintro e w' ⟨rfl, rfl⟩
              clear VE
              go_wp2_with fail
              go_ret
              exact G.out _ B2.out
  · have f0 : (t == 0) = false := by rw [beq_eq_false_iff_ne]; exact ht
    have G := Lib.hid (FR.out w t (Below.refl _ _) (by rw [E.out, if_pos ht]))
    clear E FR F0 F1 TH0 TH1 C1 C2 TK TG VE f5 X4 Y4
    go_enter Tryz.func25, Tryz.ntmps25
    go_wp2_with fail
    refine BA.out.mono ?_
    rintro e w' ⟨rfl, rfl⟩
    clear BA
    go_wp2_with fail
    go_ret
    exact G.out
end
end Go.Proofs.YtnodhbgkoedalaaGreatDoor
