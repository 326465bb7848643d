/-
  wire: Read answers of whatever bytes.
-/
import Derived.Test.YtnodhbgkoedalaaGreatDoorQF1
import Derived.Test.YtnodhbgkoedalaaGreatDoorQC1
import Derived.Test.YtnodhbgkoedalaaGreatDoorQW20
namespace Go.Proofs.YtnodhbgkoedalaaGreatDoor
namespace Wire
theorem runs_ex : ∀ (k : Nat) (s : St) (l : B), left s l ≤ k → Ok s → ∃ t c s', Runs reader s l t c s'
  | k, s, l, hk, ok => by
    by_cases h8 : s.step = 8
    · exact ⟨0, 0, s, .whole (by show decide _ = true; exact decide_eq_true h8)⟩
    · have hw : reader.whole s = false := by show decide _ = false; exact decide_eq_false h8
      by_cases hle : size l (wants s) ≤ l.length
      · by_cases hz : (take s (l.take (size l (wants s)))).1 = 0
        · have hr : take s (l.take (size l (wants s))) = (0, (take s (l.take (size l (wants s)))).2) := by rw [← hz]
          have lt := left_less ok h8 hle hr
          have ok2 := ok.take h8 (fun m hm => by rw [List.length_take, hm]; show min m l.length = m; rw [hm] at hle; have : m ≤ l.length := hle; omega) hr
          match k, hk with
          | 0, hk => omega
          | k + 1, hk =>
            obtain ⟨t, c, s', h⟩ := runs_ex k (take s (l.take (size l (wants s)))).2 (l.drop (size l (wants s))) (by omega) ok2
            exact ⟨_, _, _, .step hw hle hr h⟩
        · exact ⟨_, _, _, .stop hw hle (show reader.take s _ = ((take s (l.take (size l (wants s)))).1, (take s (l.take (size l (wants s)))).2) from rfl) hz⟩
      · exact ⟨_, _, _, .more hw (by show l.length < size l (wants s); omega)⟩
theorem reads_ex (l : B) : ∃ q n c, Reads l q n c := by
  obtain ⟨t, c, s', h⟩ := runs_ex _ s0 l (Nat.le_refl _) ok0
  obtain ⟨q, n, r⟩ := reads_of h
  exact ⟨q, n, c, r⟩
theorem runs_ok {s s' : St} {l : B} {t : Nat} {c : Int} (h : Runs reader s l t c s') (ok : Ok s) (hc : c = 0) : Ok s' := by
  induction h with
  | whole _ => exact ok
  | more _ _ => omega
  | stop _ _ _ h => exact absurd hc h
  | @step s s1 s' l t c hw hk hr _ ih =>
    refine ih (ok.take (of_decide_eq_false hw) (fun m hm => ?_) hr) hc
    have e : size l (reader.wants s) = m := by show size l (wants s) = m; rw [hm]; rfl
    rw [List.length_take, e]
    rw [e] at hk
    omega
theorem reads_cnt {l : B} {q : Rq} {n : Nat} {c : Int} (h : Reads l q n c) : q.headers.length ≤ 32 := by
  obtain ⟨t, s, r, ⟨a, rfl, _⟩ | ⟨_, rfl, _⟩⟩ := h
  · exact (runs_ok r ok0 a).cnt
  · exact Nat.zero_le _
end Wire
open Go.RowKit Reply
/-- Read, with the request's parts by name. -/
theorem readN (u : World) (E : Env u) (l : Reply.B) (hl : l.length ≤ 4194304) {q : Wire.Rq} {n : Nat} {c' : Int} (hr : Wire.Reads l q n c') {ls qm qt qb : ByteArray} {qn : Nat} {qc : Bool}
    (e0 : ls = S l) (e1 : qm = S q.method) (e2 : qt = S q.target) (e3 : qb = S q.body) (e4 : qn = q.headers.length) (e5 : qc = q.close) :
    Calls Tryz.prog 9 #[.string ls] u fun e w' => (∃ A c2, e = .returned (.tuple #[.agg #[.string qm, .string qt, .slice A qn c2, .string qb, .bool qc], .int .i64 (n : Int), .int .i64 c']) ∧ HAt w' A q.headers) ∧ Below u.heap.size u w' := by
  subst e0 e1 e2 e3 e4 e5
  exact readE closes_all u E l hl hr
theorem sameN (u : World) (a b : Wire.Rq) (A Z : Option Addr) (c d : Nat) (hA : HAt u A a.headers) (hZ : HAt u Z b.headers) (hl : a.headers.length ≤ 32) {am at_ ab bm bt bb : ByteArray} {an bn : Nat} {ac bc : Bool}
    (e1 : am = S a.method) (e2 : at_ = S a.target) (e3 : ab = S a.body) (e4 : an = a.headers.length) (e5 : ac = a.close) (f1 : bm = S b.method) (f2 : bt = S b.target) (f3 : bb = S b.body) (f4 : bn = b.headers.length) (f5 : bc = b.close) :
    Calls Tryz.prog 10 #[.agg #[.string am, .string at_, .slice A an c, .string ab, .bool ac], .agg #[.string bm, .string bt, .slice Z bn d, .string bb, .bool bc]] u fun e w' => e = .returned (.bool (sameQ a b)) ∧ Below u.heap.size u w' := by
  subst e1 e2 e3 e4 e5 f1 f2 f3 f4 f5
  exact same_any u a b A Z c d hA hZ (by omega)
end Go.Proofs.YtnodhbgkoedalaaGreatDoor
