/-
  reply: what the document's Write and Same answer.
-/
import Derived.Test.YtnodhbgkoedalaaGreatDoorR8
import Derived.Laws.StructEq
namespace Go.Proofs.YtnodhbgkoedalaaGreatDoor
open Go.RowKit Reply

theorem hdrLines_len : ∀ l : List (B × B), (∀ h ∈ l, h.1.length ≤ 1048576 ∧ h.2.length ≤ 1048576) → (hdrLines l).length ≤ l.length * 2097160
  | [], _ => Nat.zero_le _
  | h :: l, hh => by
    have ih := hdrLines_len l (fun x hx => hh x (List.mem_cons_of_mem _ hx))
    have h0 := hh h (by simp)
    have e1 : crlf.length = 2 := rfl
    have e2 : colon.length = 2 := rfl
    have e : hdrLines (h :: l) = hdrLine h ++ hdrLines l := by unfold hdrLines; rw [List.flatMap_cons]
    rw [e]
    unfold hdrLine
    simp only [List.length_append, List.length_cons]
    omega
theorem top_len (r : Rs) (k : Nat) (hf : RFit r) (hs : r.status ∈ table.map (·.1)) (hn : r.headers.length ≤ 32) (hk : k ≤ 1048576) : (top r k).length ≤ 134217728 := by
  obtain ⟨h0, h1, _, _⟩ := status_is hs
  have a := statusLine_len r.status h0 h1
  have b := hdrLines_len r.headers hf.each
  have e1 : crlf.length = 2 := rfl
  have e3 : closeLine.length = 17 := rfl
  have e4 : lengthName.length = 16 := rfl
  have d := dec_len k
  unfold top lenLine
  rw [itoa_nat]
  simp only [List.length_append]
  have x1 : (if r.status = 204 then ([] : B) else lengthName ++ Lib.decDigits k ++ crlf).length ≤ 16 + (k + 1) + 2 := by
    split
    · simp
    · simp only [List.length_append]; omega
  have x2 : (if r.close then closeLine ++ crlf else ([] : B)).length ≤ 19 := by
    split
    · simp only [List.length_append]; omega
    · simp
  omega
/-- What Write answers. -/
def wroteV (r : Rs) : Value := .tuple #[.string (if good r then S (form r) else S []), .int .i64 (if good r then 0 else 1)]
theorem ret_two {a b : ByteArray} {x y : Int} (h : a = b) (h2 : x = y) : Ending.returned (.tuple #[.string a, .int .i64 x]) = .returned (.tuple #[.string b, .int .i64 y]) := by rw [h, h2]
theorem pair_fields : (Tryz.prog.fieldsOf 38).toList.map (fun f => (f.name != "_", f.type, f.offset)) = [(true, 9, 0), (true, 9, 1)] := by kernel_rfl
theorem pair_ne (u : World) (a b c d : ByteArray) : (binOp .neq 38 (.agg #[.string a, .string b]) (.agg #[.string c, .string d])).run Tryz.prog u = .ok (.bool !(a.toList == c.toList && b.toList == d.toList)) u := by
  rw [run_neq_struct, show (10000 : Nat) = 9999 + 1 from rfl, run_equalIn_agg u 9999 _ _ _ (by kernel_rfl) (by kernel_rfl)]
  have h := pair_fields
  generalize (Tryz.prog.fieldsOf 38).toList = L at h ⊢
  rcases L with _ | ⟨f, _ | ⟨g, _ | ⟨x, r⟩⟩⟩
  · cases h
  · simp at h
  · simp only [List.map_cons, List.map_nil, List.cons.injEq, Prod.mk.injEq, and_true, bne_iff_ne] at h
    obtain ⟨⟨n1, t1, o1⟩, n2, t2, o2⟩ := h
    simp only [Op.eqFields, n1, n2, t1, t2, o1, o2, ne_eq, not_false_eq_true, if_true]
    simp [part, go_sem]
    by_cases h1 : a.toList = c.toList
    · by_cases h2 : b.toList = d.toList
      · simp [h1, h2]
      · simp [h1, h2]
    · simp [h1]
  · simp at h
theorem hdr_ne {a b : B × B} {x y z u : ByteArray} (hx : x = S a.1) (hy : y = S a.2) (hz : z = S b.1) (hu : u = S b.2) : (!x.toList == z.toList || !y.toList == u.toList) = !decide (a = b) := by
  rw [hx, hy, hz, hu, S_eq, S_eq]
  by_cases h : a = b
  · subst h; simp
  · rw [decide_eq_false h]
    by_cases c1 : a.1 = b.1
    · have c2 : ¬ a.2 = b.2 := fun c2 => h (Prod.ext c1 c2)
      simp [c1, c2]
    · simp [c1]
/-- Both are told alike. -/
def sameR (a b : Rs) : Bool := decide (a = b)
theorem same_no {a b : Rs} (h : a.status ≠ b.status ∨ a.body ≠ b.body ∨ a.head ≠ b.head ∨ a.close ≠ b.close ∨ a.headers ≠ b.headers) : sameR a b = false := decide_eq_false (fun e => by
  subst e
  rcases h with h | h | h | h | h <;> exact h rfl)
theorem same_yes {a b : Rs} (h1 : a.status = b.status) (h2 : a.body = b.body) (h3 : a.head = b.head) (h4 : a.close = b.close) (h5 : a.headers = b.headers) : sameR a b = true := decide_eq_true (by
  obtain ⟨_, _, _, _, _⟩ := a
  obtain ⟨_, _, _, _, _⟩ := b
  simp only at h1 h2 h3 h4 h5
  rw [h1, h2, h3, h4, h5])
end Go.Proofs.YtnodhbgkoedalaaGreatDoor
