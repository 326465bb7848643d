/-
  wire: the texts of WireAgain, and a text in capitals byte by byte.
-/
import Derived.Test.YtplfceainkeokaaGreatDoorQF2
import Derived.Test.YtplfceainkeokaaGreatDoorQWj
namespace Go.Proofs.YtplfceainkeokaaGreatDoor.wireAgain
open Go.RowKit Reply
open Wire (cap caps)

theorem cap_next {l : B} {k : Nat} (h : k < l.length) : ((l.take (k + 1)).map cap ++ l.drop (k + 1)).getD k 0 = cap (l.getD k 0) := by
  have h1 : ((l.take (k + 1)).map cap).length = k + 1 := by simp; omega
  rw [List.getD_eq_getElem?_getD, List.getElem?_append_left (by omega), List.getElem?_map, List.getElem?_take, if_pos (by omega), List.getD_eq_getElem?_getD, List.getElem?_eq_getElem h]
  rfl
theorem cap_here {l : B} {k : Nat} (h : k < l.length) : ((l.take k).map cap ++ l.drop k).getD k 0 = l.getD k 0 := by
  have h1 : ((l.take k).map cap).length = k := by simp; omega
  rw [List.getD_eq_getElem?_getD, List.getElem?_append_right (by omega), h1, Nat.sub_self, List.getElem?_drop, Nat.add_zero, List.getD_eq_getElem?_getD]
theorem cap_else {l : B} {k j : Nat} (h : k < l.length) (hj : j ≠ k) : ((l.take (k + 1)).map cap ++ l.drop (k + 1)).getD j 0 = ((l.take k).map cap ++ l.drop k).getD j 0 := by
  have h1 : ((l.take (k + 1)).map cap).length = k + 1 := by simp; omega
  have h2 : ((l.take k).map cap).length = k := by simp; omega
  rw [List.getD_eq_getElem?_getD, List.getD_eq_getElem?_getD]
  rcases Nat.lt_or_ge j k with h' | h'
  · rw [List.getElem?_append_left (by omega), List.getElem?_append_left (by omega), List.getElem?_map, List.getElem?_map, List.getElem?_take, List.getElem?_take, if_pos (by omega), if_pos (by omega)]
  · rw [List.getElem?_append_right (by omega), List.getElem?_append_right (by omega), h1, h2, List.getElem?_drop, List.getElem?_drop]
    congr 2
    omega
theorem cap_len {l : B} {k : Nat} (h : k ≤ l.length) : ((l.take k).map cap ++ l.drop k).length = l.length := by simp; omega
theorem cap_same {l : B} {k : Nat} (h : k < l.length) (hc : cap (l.getD k 0) = l.getD k 0) : (l.take (k + 1)).map cap ++ l.drop (k + 1) = (l.take k).map cap ++ l.drop k := by
  rw [take_nextU h, List.map_append, List.append_assoc]
  congr 1
  rw [List.map_singleton, hc, List.drop_eq_getElem_cons h, List.getD_eq_getElem?_getD, List.getElem?_eq_getElem h]
  rfl
theorem cap_nat {c : UInt8} {x : Nat} (hx : x = c.toNat) (h : 97 ≤ x ∧ x ≤ 122) : ((cap c).toNat : Int) = (x : Int) - 32 := by
  subst hx
  obtain ⟨e, n⟩ := Wire.cap_down h
  rw [e, n]
  omega
theorem cap_stays {c : UInt8} {x : Nat} (hx : x = c.toNat) (h : ¬ (97 ≤ x ∧ x ≤ 122)) : cap c = c := by
  subst hx
  unfold cap
  rw [if_neg h]
/-- What is written so far. -/
def acc (q : Wire.Rq) (i : Nat) : Reply.B := Wire.lineA q ++ Wire.eol ++ Wire.hdrsA (q.headers.take i)
def topA (q : Wire.Rq) : Reply.B := Wire.lineA q ++ Wire.eol ++ (Wire.hdrsA q.headers ++ Wire.eol)
theorem text0 (q : Wire.Rq) : S q.method ++ ⟨#[32]⟩ ++ S q.target ++ ⟨#[32, 72, 84, 84, 80, 47, 49, 46, 49, 13, 10]⟩ = S (acc q 0) := by
  rw [show (⟨#[32]⟩ : ByteArray) = S [32] from rfl, show (⟨#[32, 72, 84, 84, 80, 47, 49, 46, 49, 13, 10]⟩ : ByteArray) = S [32, 72, 84, 84, 80, 47, 49, 46, 49, 13, 10] from rfl]
  simp only [S_append]
  refine congrArg S ?_
  simp [acc, Wire.lineA, Wire.http11, Wire.eol, Wire.hdrsA]
theorem acc_next {q : Wire.Rq} {i : Nat} (hi : i < q.headers.length) : acc q (i + 1) = acc q i ++ (Wire.hdrA q.headers[i] ++ Wire.eol) := by
  unfold acc Wire.hdrsA
  rw [List.take_succ_eq_append_getElem hi, List.flatMap_append]
  simp
theorem text1 {q : Wire.Rq} {i : Nat} (hi : i < q.headers.length) : S (acc q i) ++ (S (caps q.headers[i].1) ++ ⟨#[58, 32, 32]⟩ ++ S q.headers[i].2 ++ ⟨#[13, 10]⟩) = S (acc q (i + 1)) := by
  rw [show (⟨#[58, 32, 32]⟩ : ByteArray) = S [58, 32, 32] from rfl, show (⟨#[13, 10]⟩ : ByteArray) = S [13, 10] from rfl, acc_next hi]
  simp only [S_append]
  refine congrArg S ?_
  simp [Wire.hdrA, Wire.eol]
theorem text2 (q : Wire.Rq) : S (acc q q.headers.length) ++ ⟨#[13, 10]⟩ = S (topA q) := by
  rw [show (⟨#[13, 10]⟩ : ByteArray) = S [13, 10] from rfl, S_append]
  refine congrArg S ?_
  unfold acc topA
  rw [List.take_length]
  simp [Wire.eol]
theorem all_of (q : Wire.Rq) (b : Reply.B) (hb : b = Wire.bodyA q) : S (topA q ++ b) = S (Wire.textA q) := by
  subst hb
  refine congrArg S ?_
  unfold topA Wire.textA
  simp
theorem text3 (q : Wire.Rq) (hc : Wire.isCh q.headers = true) (h0 : 0 < q.body.length) : S (topA q) ++ (S (Wire.digs 16 q.body.length) ++ ⟨#[13, 10]⟩ ++ S q.body ++ ⟨#[13, 10]⟩) ++ ⟨#[48, 13, 10, 13, 10]⟩ = S (Wire.textA q) := by
  rw [show (⟨#[48, 13, 10, 13, 10]⟩ : ByteArray) = S [48, 13, 10, 13, 10] from rfl, show (⟨#[13, 10]⟩ : ByteArray) = S [13, 10] from rfl]
  simp only [S_append]
  rw [← all_of q _ (by unfold Wire.bodyA Wire.chunkA; rw [if_pos hc, if_pos h0])]
  refine congrArg S ?_
  generalize Wire.digs 16 q.body.length = D
  simp [Wire.endA, Wire.eol]
theorem text4 (q : Wire.Rq) (hc : Wire.isCh q.headers = true) (h0 : ¬ 0 < q.body.length) : S (topA q) ++ ⟨#[48, 13, 10, 13, 10]⟩ = S (Wire.textA q) := by
  rw [show (⟨#[48, 13, 10, 13, 10]⟩ : ByteArray) = S [48, 13, 10, 13, 10] from rfl, S_append]
  rw [← all_of q _ (by unfold Wire.bodyA Wire.chunkA; rw [if_pos hc, if_neg h0])]
  refine congrArg S ?_
  simp [Wire.endA, Wire.eol]
theorem text5 (q : Wire.Rq) (hc : ¬ Wire.isCh q.headers = true) : S (topA q) ++ S q.body = S (Wire.textA q) := by
  rw [S_append]
  exact all_of q _ (by unfold Wire.bodyA; rw [if_neg hc])
theorem text6 (q : Wire.Rq) : S (Wire.textA q) ++ ⟨#[71, 69, 84]⟩ = S (Wire.textA q ++ [71, 69, 84]) := by
  rw [show (⟨#[71, 69, 84]⟩ : ByteArray) = S [71, 69, 84] from rfl, S_append]
theorem size_next {l : List (Reply.B × Reply.B)} {i : Nat} (hi : i < l.length) : Wire.sizeA (l.take (i + 1)) = Wire.sizeA (l.take i) + (l[i].1.length + l[i].2.length + 5) := by
  unfold Wire.sizeA
  rw [List.take_succ_eq_append_getElem hi, List.map_append, List.sum_append]
  simp
theorem ch_next {l : List (Reply.B × Reply.B)} {i : Nat} (hi : i < l.length) : Wire.isCh (l.take (i + 1)) = (Wire.isCh (l.take i) || decide (l[i].1 = Reply.nTE)) := by
  unfold Wire.isCh
  rw [List.take_succ_eq_append_getElem hi, List.any_append]
  simp
theorem hdrs_len : ∀ l : List (Reply.B × Reply.B), (Wire.hdrsA l).length = Wire.sizeA l
  | [] => rfl
  | h :: l => by
    have i := hdrs_len l
    rw [Wire.hdrsA_cons, List.length_append, List.length_append, Wire.hdrA_len, i]
    unfold Wire.sizeA
    rw [List.map_cons, List.sum_cons]
    have : Wire.eol.length = 2 := rfl
    omega
theorem acc_len {q : Wire.Rq} (hm : q.method.length ≤ 80) (ht : q.target.length ≤ 900) (i : Nat) : (acc q i).length ≤ 1000 + Wire.sizeA (q.headers.take i) := by
  unfold acc Wire.lineA
  simp only [List.length_append, List.length_cons, hdrs_len]
  have : Wire.eol.length = 2 := rfl
  have : Wire.http11.length = 8 := rfl
  omega
end Go.Proofs.YtplfceainkeokaaGreatDoor.wireAgain
