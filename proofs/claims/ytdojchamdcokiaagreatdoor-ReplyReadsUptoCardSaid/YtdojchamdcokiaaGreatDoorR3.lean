/-
  reply: what the document's Trim, Lower and Digits answer.
-/
import Derived.Test.YtdojchamdcokiaaGreatDoorR2
import Derived.Lib.ConvBytes
namespace Go.Proofs.YtdojchamdcokiaaGreatDoor
open Go.RowKit Reply

/-! ### Trim -/
def wB (c : UInt8) : Bool := ([32, 9] : List UInt8).contains c
theorem wB_is (c : UInt8) {x : Nat} (hx : x = c.toNat) : wB c = (decide (x = 32) || decide (x = 9)) := by
  subst hx
  unfold wB
  rw [Bool.eq_iff_iff]
  simp only [List.contains_cons, List.contains_nil, Bool.or_false, Bool.or_eq_true, beq_iff_eq, decide_eq_true_eq]
  constructor
  · rintro (rfl | rfl)
    · exact .inl rfl
    · exact .inr rfl
  · rintro (h | h)
    · exact .inl (UInt8.toNat_inj.1 h)
    · exact .inr (UInt8.toNat_inj.1 h)
/-- White taken off at the left, then at the right. -/
def rtrim (l : B) : B := Lib.trimRightS (Lib.trimLeftS l [32, 9]) [32, 9]
theorem dropWhile_len (p : UInt8 → Bool) : ∀ l : B, (l.dropWhile p).length ≤ l.length
  | [] => Nat.le_refl _
  | x :: l => by
    rw [List.dropWhile_cons]
    split
    · have := dropWhile_len p l; simp; omega
    · exact Nat.le_refl _
theorem dropWhile_same (p : UInt8 → Bool) (l : B) (h : l.length ≤ (l.dropWhile p).length) : l.dropWhile p = l := by
  cases l with
  | nil => rfl
  | cons x l =>
    rw [List.dropWhile_cons] at h ⊢
    split
    · rename_i hp
      rw [if_pos hp] at h
      have := dropWhile_len p l
      simp at h
      omega
    · rfl
theorem left_len (l : B) : (Lib.trimLeftS l [32, 9]).length ≤ l.length := dropWhile_len _ l
theorem right_len (l : B) : (Lib.trimRightS l [32, 9]).length ≤ l.length := by
  unfold Lib.trimRightS
  rw [List.length_reverse]
  have := dropWhile_len (([32, 9] : List UInt8).contains ·) l.reverse
  rwa [List.length_reverse] at this
theorem left_same {l : B} (h : l.length ≤ (Lib.trimLeftS l [32, 9]).length) : Lib.trimLeftS l [32, 9] = l := dropWhile_same _ l h
theorem right_same {l : B} (h : l.length ≤ (Lib.trimRightS l [32, 9]).length) : Lib.trimRightS l [32, 9] = l := by
  unfold Lib.trimRightS at h ⊢
  rw [List.length_reverse] at h
  rw [dropWhile_same _ l.reverse (by rw [List.length_reverse]; exact h), List.reverse_reverse]
/-- Either way nothing is taken off. -/
theorem trim_iff (l : B) : decide (rtrim l = l) = decide (trim l = l) := by
  refine decide_eq_decide.2 ⟨fun h => ?_, fun h => ?_⟩
  · unfold rtrim at h
    have a := right_len (Lib.trimLeftS l [32, 9])
    have b := left_len l
    rw [h] at a
    have c := left_same a
    rw [c] at h
    unfold trim Lib.trimS
    rw [h, c]
  · unfold trim Lib.trimS at h
    have a := left_len (Lib.trimRightS l [32, 9])
    have b := right_len l
    rw [h] at a
    have c := right_same a
    rw [c] at h
    unfold rtrim
    rw [h, c]
theorem left_white {c : UInt8} {l : B} (h : wB c = true) : Lib.trimLeftS (c :: l) [32, 9] = Lib.trimLeftS l [32, 9] := by
  unfold Lib.trimLeftS
  rw [List.dropWhile_cons]
  unfold wB at h
  rw [if_pos h]
theorem left_else {c : UInt8} {l : B} (h : wB c = false) : Lib.trimLeftS (c :: l) [32, 9] = c :: l := by
  unfold Lib.trimLeftS
  rw [List.dropWhile_cons]
  unfold wB at h
  rw [h]
  rfl
theorem right_white {c : UInt8} {l : B} (h : wB c = true) : Lib.trimRightS (l ++ [c]) [32, 9] = Lib.trimRightS l [32, 9] := by
  unfold Lib.trimRightS
  rw [List.reverse_append, List.reverse_singleton, List.singleton_append, List.dropWhile_cons]
  unfold wB at h
  rw [if_pos h]
theorem right_else {c : UInt8} {l : B} (h : wB c = false) : Lib.trimRightS (l ++ [c]) [32, 9] = l ++ [c] := by
  unfold Lib.trimRightS
  rw [List.reverse_append, List.reverse_singleton, List.singleton_append, List.dropWhile_cons]
  unfold wB at h
  rw [h]
  simp
theorem S_cons (l : B) (h : l ≠ []) : ∃ c r, l = c :: r := by
  cases l with
  | nil => exact absurd rfl h
  | cons c r => exact ⟨c, r, rfl⟩
theorem S_head (c : UInt8) (r : B) (h : 0 < (S (c :: r)).size) : ((S (c :: r))[0]'h) = c := rfl
theorem S_last (l : B) (c : UInt8) (h : l.length < (S (l ++ [c])).size) : ((S (l ++ [c]))[l.length]'h) = c := by
  rw [S_at]
  simp
theorem S_tail (c : UInt8) (r : B) : (S (c :: r)).extract 1 (r.length + 1) = S r := by rw [S_extract]; simp
theorem S_init (l : B) (c : UInt8) : (S (l ++ [c])).extract 0 l.length = S l := by rw [S_extract]; simp
set_option maxRecDepth 100000 in
set_option maxHeartbeats 4000000 in
theorem rtrim_any (w : World) (l : B) (hs : l.length ≤ 4294967296) :
    Calls Tryz.prog 24 #[.string (S l)] w fun e w' => e = .returned (.string (S (rtrim l))) ∧ w = w' := by
  go_enter Tryz.func24, Tryz.ntmps24
  go_wp2
  go_loop [0] (fun v => ∃ r : B, v = .string (S r) ∧ r.length ≤ 4294967296 ∧ Hid (rtrim r = rtrim l)) (fun v => match v with | .string s => s.size | _ => 0)
  case atStart => exact ⟨l, rfl, hs, by show _ = _; rfl⟩
  case round =>
    obtain ⟨r, rfl, hr, HR⟩ := hrel
    cases r with
    | nil =>
      have hz : ¬ (0 : Int) < ((S ([] : B)).size : Int) := by rw [S_size]; simp
      have hz2 : ¬ 0 < (S ([] : B)).size := by rw [S_size]; simp
      have T : Hid (Lib.trimRightS [] [32, 9] = rtrim l) := HR.out
      go_wp2
      go_loop [0] (fun v => ∃ q : B, v = .string (S q) ∧ q.length ≤ 4294967296 ∧ Hid (Lib.trimRightS q [32, 9] = rtrim l)) (fun v => match v with | .string s => s.size | _ => 0)
      case atStart => exact ⟨_, rfl, hr, T.out⟩
      case round =>
        obtain ⟨q, rfl, hq, HQ⟩ := hrel
        rcases List.eq_nil_or_concat q with rfl | ⟨q, d, rfl⟩
        · have hy : ¬ (0 : Int) < ((S ([] : B)).size : Int) := by rw [S_size]; simp
          have hy2 : ¬ 0 < (S ([] : B)).size := by rw [S_size]; simp
          have E : Hid (rtrim l = []) := HQ.out.symm
          go_wp2
          go_ret
          exact ⟨ret_str (by rw [E.out]), rfl⟩
        · rw [List.concat_eq_append] at hq HQ ⊢
          have hq1 : q.length + 1 ≤ 4294967296 := by simpa using hq
          have d8 := d.toNat_lt
          obtain ⟨y, hy⟩ : ∃ y, y = d.toNat := ⟨_, rfl⟩
          have W := wB_is d hy
          obtain ⟨u, hu⟩ : ∃ u, u = S (q ++ [d]) := ⟨_, rfl⟩
          obtain ⟨n, hn⟩ : ∃ n, n = q.length := ⟨_, rfl⟩
          have hun : u.size = n + 1 := by rw [hu, S_size, hn]; simp
          have hat : ∀ h : n < u.size, ((u[n]'h).toNat : Int) = (y : Int) := fun h => by subst hu hn; rw [S_last, ← hy]
          have hat2 := hat (by omega)
          have hex : u.extract 0 n = S q := by rw [hu, hn]; exact S_init q d
          rw [← hu]
          have HU := Lib.hid hu
          have HN := Lib.hid hn
          have hsz : ((u.size : Nat) : Int) - 1 = (n : Int) := by omega
          have hsz2 : ((u.size : Nat) : Int) = (n : Int) + 1 := by omega
          have hnb : (n : Int) ≤ 4294967296 := by omega
          clear hat hu hn hq
          by_cases w1 : y = 32
          · have f1 : ((y : Int) == 32) = true := by rw [w1]; rfl
            have WW : Hid (wB d = true) := by show _ = _; rw [W, w1]; rfl
            have R : Hid (Lib.trimRightS q [32, 9] = rtrim l) := by show _ = _; rw [← right_white WW.out]; exact HQ.out
            clear w1 W hy
            go_wp2
            go_round
            case rel => exact ⟨q, rfl, by omega, R⟩
            case measure => show (S q).size < u.size; rw [S_size]; have := HN.out; omega
          · have f1 : ((y : Int) == 32) = false := by rw [beq_eq_false_iff_ne]; omega
            by_cases w2 : y = 9
            · have f2 : ((y : Int) == 9) = true := by rw [w2]; rfl
              have WW : Hid (wB d = true) := by show _ = _; rw [W, w2]; rfl
              have R : Hid (Lib.trimRightS q [32, 9] = rtrim l) := by show _ = _; rw [← right_white WW.out]; exact HQ.out
              clear w1 w2 W hy
              go_wp2
              go_round
              case rel => exact ⟨q, rfl, by omega, R⟩
              case measure => show (S q).size < u.size; rw [S_size]; have := HN.out; omega
            · have f2 : ((y : Int) == 9) = false := by rw [beq_eq_false_iff_ne]; omega
              have WW : Hid (wB d = false) := by show _ = _; rw [W, decide_eq_false w1, decide_eq_false w2]; rfl
              have E : Hid (rtrim l = q ++ [d]) := by show _ = _; rw [← right_else WW.out]; exact HQ.out.symm
              clear w1 w2 W hy
              go_wp2
              go_ret
              exact ⟨ret_str (by rw [E.out, HU.out]), rfl⟩
    | cons c r =>
      have hr1 : r.length + 1 ≤ 4294967296 := by simpa using hr
      have c8 := c.toNat_lt
      obtain ⟨x, hx⟩ : ∃ x, x = c.toNat := ⟨_, rfl⟩
      have W := wB_is c hx
      obtain ⟨t, ht⟩ : ∃ t, t = S (c :: r) := ⟨_, rfl⟩
      obtain ⟨m, hm⟩ : ∃ m, m = r.length := ⟨_, rfl⟩
      have htn : t.size = m + 1 := by rw [ht, S_size, hm]; simp
      have hpos : 0 < t.size := by rw [htn]; exact Nat.succ_pos m
      have hat : ∀ h : 0 < t.size, ((t[0]'h).toNat : Int) = (x : Int) := fun h => by subst ht; rw [S_head, ← hx]
      have hat2 := hat hpos
      have hex : t.extract 1 t.size = S r := by rw [htn, ht, hm]; exact S_tail c r
      have hpoz : (0 : Int) < (t.size : Int) := by omega
      have hle : (t.size : Int) ≤ 4294967296 := by omega
      have hmb : (m : Int) ≤ 4294967296 := by omega
      rw [← ht]
      have HT := Lib.hid ht
      have HM := Lib.hid hm
      have HTN := Lib.hid htn
      clear hat ht hm htn hs
      by_cases w1 : x = 32
      · have f1 : ((x : Int) == 32) = true := by rw [w1]; rfl
        have WW : Hid (wB c = true) := by show _ = _; rw [W, w1]; rfl
        have R : Hid (rtrim r = rtrim l) := by show _ = _; rw [← HR.out]; unfold rtrim; rw [left_white WW.out]
        clear w1 W hx
        go_wp2
        go_round
        case rel => exact ⟨r, rfl, by omega, R⟩
        case measure => show (S r).size < t.size; rw [S_size]; have := HM.out; have := HTN.out; omega
      · have f1 : ((x : Int) == 32) = false := by rw [beq_eq_false_iff_ne]; omega
        by_cases w2 : x = 9
        · have f2 : ((x : Int) == 9) = true := by rw [w2]; rfl
          have WW : Hid (wB c = true) := by show _ = _; rw [W, w2]; rfl
          have R : Hid (rtrim r = rtrim l) := by show _ = _; rw [← HR.out]; unfold rtrim; rw [left_white WW.out]
          clear w1 w2 W hx
          go_wp2
          go_round
          case rel => exact ⟨r, rfl, by omega, R⟩
          case measure => show (S r).size < t.size; rw [S_size]; have := HM.out; have := HTN.out; omega
        · have f2 : ((x : Int) == 9) = false := by rw [beq_eq_false_iff_ne]; omega
          have WW : Hid (wB c = false) := by show _ = _; rw [W, decide_eq_false w1, decide_eq_false w2]; rfl
          have T : Hid (Lib.trimRightS (c :: r) [32, 9] = rtrim l) := by show _ = _; rw [← HR.out]; unfold rtrim; rw [left_else WW.out]
          clear w1 w2 W hx hex
          go_wp2
          rw [HT.out]
          clear hat2 hpos hpoz hle HTN HT c8 f1 f2
          go_loop [0] (fun v => ∃ q : B, v = .string (S q) ∧ q.length ≤ 4294967296 ∧ Hid (Lib.trimRightS q [32, 9] = rtrim l)) (fun v => match v with | .string s => s.size | _ => 0)
          case atStart => exact ⟨_, rfl, hr, T.out⟩
          case round =>
            obtain ⟨q, rfl, hq, HQ⟩ := hrel
            rcases List.eq_nil_or_concat q with rfl | ⟨q, d, rfl⟩
            · have hy : ¬ (0 : Int) < ((S ([] : B)).size : Int) := by rw [S_size]; simp
              have hy2 : ¬ 0 < (S ([] : B)).size := by rw [S_size]; simp
              have E : Hid (rtrim l = []) := HQ.out.symm
              go_wp2
              go_ret
              exact ⟨ret_str (by rw [E.out]), rfl⟩
            · rw [List.concat_eq_append] at hq HQ ⊢
              have hq1 : q.length + 1 ≤ 4294967296 := by simpa using hq
              have d8 := d.toNat_lt
              obtain ⟨y, hy⟩ : ∃ y, y = d.toNat := ⟨_, rfl⟩
              have W := wB_is d hy
              obtain ⟨u, hu⟩ : ∃ u, u = S (q ++ [d]) := ⟨_, rfl⟩
              obtain ⟨n, hn⟩ : ∃ n, n = q.length := ⟨_, rfl⟩
              have hun : u.size = n + 1 := by rw [hu, S_size, hn]; simp
              have hat : ∀ h : n < u.size, ((u[n]'h).toNat : Int) = (y : Int) := fun h => by subst hu hn; rw [S_last, ← hy]
              have hat2 := hat (by omega)
              have hex : u.extract 0 n = S q := by rw [hu, hn]; exact S_init q d
              rw [← hu]
              have HU := Lib.hid hu
              have HN := Lib.hid hn
              have hsz : ((u.size : Nat) : Int) - 1 = (n : Int) := by omega
              have hsz2 : ((u.size : Nat) : Int) = (n : Int) + 1 := by omega
              have hnb : (n : Int) ≤ 4294967296 := by omega
              clear hat hu hn hq
              by_cases w1 : y = 32
              · have f1 : ((y : Int) == 32) = true := by rw [w1]; rfl
                have WW : Hid (wB d = true) := by show _ = _; rw [W, w1]; rfl
                have R : Hid (Lib.trimRightS q [32, 9] = rtrim l) := by show _ = _; rw [← right_white WW.out]; exact HQ.out
                clear w1 W hy
                go_wp2
                go_round
                case rel => exact ⟨q, rfl, by omega, R⟩
                case measure => show (S q).size < u.size; rw [S_size]; have := HN.out; omega
              · have f1 : ((y : Int) == 32) = false := by rw [beq_eq_false_iff_ne]; omega
                by_cases w2 : y = 9
                · have f2 : ((y : Int) == 9) = true := by rw [w2]; rfl
                  have WW : Hid (wB d = true) := by show _ = _; rw [W, w2]; rfl
                  have R : Hid (Lib.trimRightS q [32, 9] = rtrim l) := by show _ = _; rw [← right_white WW.out]; exact HQ.out
                  clear w1 w2 W hy
                  go_wp2
                  go_round
                  case rel => exact ⟨q, rfl, by omega, R⟩
                  case measure => show (S q).size < u.size; rw [S_size]; have := HN.out; omega
                · have f2 : ((y : Int) == 9) = false := by rw [beq_eq_false_iff_ne]; omega
                  have WW : Hid (wB d = false) := by show _ = _; rw [W, decide_eq_false w1, decide_eq_false w2]; rfl
                  have E : Hid (rtrim l = q ++ [d]) := by show _ = _; rw [← right_else WW.out]; exact HQ.out.symm
                  clear w1 w2 W hy
                  go_wp2
                  go_ret
                  exact ⟨ret_str (by rw [E.out, HU.out]), rfl⟩
end Go.Proofs.YtdojchamdcokiaaGreatDoor
