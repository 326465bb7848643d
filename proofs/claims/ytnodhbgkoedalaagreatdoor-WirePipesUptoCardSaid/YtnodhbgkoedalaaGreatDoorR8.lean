/-
  reply: what the document's Top and Write answer.
-/
import Derived.Test.YtnodhbgkoedalaaGreatDoorR7
import Derived.Test.YtnodhbgkoedalaaGreatDoorReg
namespace Go.Proofs.YtnodhbgkoedalaaGreatDoor
open Go.RowKit Reply

theorem dec_len (u : Nat) : (Lib.decDigits u).length ≤ u + 1 := by
  induction u using Nat.strongRecOn with
  | _ u ih =>
    by_cases h : u < 10
    · rw [Lib.decDigits, dif_pos h]; simp
    · rw [Lib.decDigits, dif_neg h]
      have := ih (u / 10) (by omega)
      simp
      omega
theorem reason_len (s : Int) : (reason s).length ≤ 40 := by
  by_cases h : reason s = []
  · rw [h]; simp
  · obtain ⟨p, hp, rfl⟩ := List.mem_map.1 (reason_mem h)
    have : ∀ p ∈ table, (reason p.1).length ≤ 40 := by decide
    exact this p hp
theorem line_sum {d z : ByteArray} {st : Int} (h0 : 0 ≤ st) (hd : d = S (Lib.decDigits st.toNat)) (hz : z = S (reason st)) : (⟨#[72, 84, 84, 80, 47, 49, 46, 49, 32]⟩ : ByteArray) ++ d ++ ⟨#[32]⟩ ++ z ++ ⟨#[13, 10]⟩ = S (statusLine st ++ crlf) := by
  rw [hd, hz, show (⟨#[72, 84, 84, 80, 47, 49, 46, 49, 32]⟩ : ByteArray) = S version from rfl, show (⟨#[32]⟩ : ByteArray) = S [32] from rfl, show (⟨#[13, 10]⟩ : ByteArray) = S crlf from rfl, S_append, S_append, S_append, S_append]
  unfold statusLine
  rw [itoa_pos h0]
theorem head_sum {t n v : ByteArray} {T : B} {h : B × B} (ht : t = S T) (hn : n = S h.1) (hv : v = S h.2) : t ++ n ++ ⟨#[58, 32]⟩ ++ v ++ ⟨#[13, 10]⟩ = S (T ++ hdrLine h) := by
  rw [ht, hn, hv, show (⟨#[58, 32]⟩ : ByteArray) = S colon from rfl, show (⟨#[13, 10]⟩ : ByteArray) = S crlf from rfl, S_append, S_append, S_append, S_append]
  unfold hdrLine
  simp only [List.append_assoc]
theorem lines_next {l : List (B × B)} {k : Nat} (hk : k < l.length) : hdrLines (l.take (k + 1)) = hdrLines (l.take k) ++ hdrLine (l[k]'hk) := by
  unfold hdrLines
  rw [List.take_add_one, List.getElem?_eq_getElem hk, List.flatMap_append]
  simp
theorem statusLine_len (s : Int) (h0 : 0 ≤ s) (h1 : s ≤ 1000) : (statusLine s).length ≤ 1100 := by
  unfold statusLine
  rw [itoa_pos h0]
  have a := dec_len s.toNat
  have b := reason_len s
  have c : version.length = 9 := rfl
  simp only [List.length_append, List.length_singleton]
  omega
theorem len_sum {t d : ByteArray} {T : B} {k : Nat} (ht : t = S T) (hd : d = S (Lib.decDigits k)) : t ++ (⟨#[67, 111, 110, 116, 101, 110, 116, 45, 76, 101, 110, 103, 116, 104, 58, 32]⟩ : ByteArray) ++ d ++ ⟨#[13, 10]⟩ = S (T ++ (lenLine k ++ crlf)) := by
  rw [ht, hd, show (⟨#[67, 111, 110, 116, 101, 110, 116, 45, 76, 101, 110, 103, 116, 104, 58, 32]⟩ : ByteArray) = S lengthName from rfl, show (⟨#[13, 10]⟩ : ByteArray) = S crlf from rfl, S_append, S_append, S_append]
  unfold lenLine
  rw [itoa_nat]
  simp only [List.append_assoc]
theorem close_sum {t : ByteArray} {T : B} (ht : t = S T) : t ++ (⟨#[67, 111, 110, 110, 101, 99, 116, 105, 111, 110, 58, 32, 99, 108, 111, 115, 101, 13, 10]⟩ : ByteArray) = S (T ++ (closeLine ++ crlf)) := by
  rw [ht, show (⟨#[67, 111, 110, 110, 101, 99, 116, 105, 111, 110, 58, 32, 99, 108, 111, 115, 101, 13, 10]⟩ : ByteArray) = S (closeLine ++ crlf) from rfl, S_append]
theorem end_sum {t : ByteArray} {T : B} (ht : t = S T) : t ++ (⟨#[13, 10]⟩ : ByteArray) = S (T ++ crlf) := by
  rw [ht, show (⟨#[13, 10]⟩ : ByteArray) = S crlf from rfl, S_append]
theorem top_nn {r : Rs} {k : Nat} {T : B} (hT : T = statusLine r.status ++ crlf ++ hdrLines r.headers) (h1 : r.status = 204) (h2 : r.close = false) : T ++ crlf = top r k := by
  unfold top
  rw [hT, if_pos h1, h2]
  simp
theorem top_ny {r : Rs} {k : Nat} {T : B} (hT : T = statusLine r.status ++ crlf ++ hdrLines r.headers) (h1 : r.status = 204) (h2 : r.close = true) : T ++ (closeLine ++ crlf) ++ crlf = top r k := by
  unfold top
  rw [hT, if_pos h1, h2]
  simp
theorem top_yn {r : Rs} {k : Nat} {T : B} (hT : T = statusLine r.status ++ crlf ++ hdrLines r.headers) (h1 : ¬ r.status = 204) (h2 : r.close = false) : T ++ (lenLine k ++ crlf) ++ crlf = top r k := by
  unfold top
  rw [hT, if_neg h1, h2]
  simp
theorem top_yy {r : Rs} {k : Nat} {T : B} (hT : T = statusLine r.status ++ crlf ++ hdrLines r.headers) (h1 : ¬ r.status = 204) (h2 : r.close = true) : T ++ (lenLine k ++ crlf) ++ (closeLine ++ crlf) ++ crlf = top r k := by
  unfold top
  rw [hT, if_neg h1, h2]
  simp
end Go.Proofs.YtnodhbgkoedalaaGreatDoor
