/-
  WireLimits: just as long as may be is taken, one more is refused: a line, the headers, how many they are, a body (where all that comes in is of bulk at most 1048576).
-/
import Derived.Test.YtplfceainkeokaaGreatDoorQW20
namespace Go.Proofs.YtplfceainkeokaaGreatDoor.wireLimits
open Go.ChangeShapes Go.WideShapes Go.ChangeAt Go.RowKit Go.Deep Reply

/-- What is told of a text whose status alone is asked. -/
theorem readS (CA : ClosesAll) (u : World) (E : Env u) (l : Reply.B) (hl : l.length ≤ 4194304) {t : Nat} {c' : Int} {s' : Wire.St} (hr : Wire.Runs Wire.reader Wire.s0 l t c' s') :
    Calls Tryz.prog 9 #[.string (S l)] u fun e w' => (∃ (a0 a1 : ByteArray) (A : Option Addr) (n c : Nat) (a3 : ByteArray) (a4 : Bool) (m : Int), e = .returned (.tuple #[.agg #[.string a0, .string a1, .slice A n c, .string a3, .bool a4], .int .i64 m, .int .i64 c'])) ∧ Below u.heap.size u w' := by
  obtain ⟨q, n, h⟩ := reads_of hr
  refine (readE CA u E l hl h).mono ?_
  rintro e w' ⟨⟨A, c, rfl, _⟩, hb⟩
  exact ⟨⟨_, _, _, _, _, _, _, _, rfl⟩, hb⟩
def pre : Reply.B := [71, 69, 84, 32, 47, 32, 72, 84, 84, 80, 47, 49, 46, 49, 13, 10, 104, 111, 115, 116, 58, 32, 104, 13, 10]
def heads : Nat → Reply.B
  | 0 => pre
  | i + 1 => heads i ++ ([97, 58] ++ Wire.pad 1020 ++ [13, 10])
def manyL : Nat → Reply.B
  | 0 => pre
  | i + 1 => manyL i ++ [97, 58, 13, 10]
theorem many_comm : ∀ (n : Nat) (z : Reply.B), Wire.many n ([97, 58, 13, 10] ++ z) = [97, 58, 13, 10] ++ Wire.many n z
  | 0, z => rfl
  | n + 1, z => by
    show ([97] ++ 58 :: []) ++ Wire.eol ++ Wire.many n ([97, 58, 13, 10] ++ z) = _
    rw [many_comm n z]
    rfl
theorem many_app : ∀ (n : Nat) (z : Reply.B), manyL n ++ z = pre ++ Wire.many n z
  | 0, z => rfl
  | n + 1, z => by
    show manyL n ++ [97, 58, 13, 10] ++ z = _
    rw [List.append_assoc, many_app n, many_comm]
    rfl
theorem pad_l (n : Nat) : (Wire.pad n).length = n := List.length_replicate
theorem heads_len : ∀ i, (heads i).length = 25 + 1024 * i
  | 0 => rfl
  | i + 1 => by
    show (heads i ++ ([97, 58] ++ Wire.pad 1020 ++ [13, 10])).length = _
    rw [List.length_append, heads_len i, List.length_append, List.length_append, pad_l]
    simp
    omega
theorem many_len : ∀ i, (manyL i).length = 25 + 4 * i
  | 0 => rfl
  | i + 1 => by
    show (manyL i ++ [97, 58, 13, 10]).length = _
    rw [List.length_append, many_len i]
    simp
    omega
theorem text1 (k : Nat) : (⟨#[71, 69, 84, 32, 47]⟩ : ByteArray) ++ S (Wire.pad (1010 + k)) ++ ⟨#[32, 72, 84, 84, 80, 47, 49, 46, 49, 13, 10, 104, 111, 115, 116, 58, 32, 104, 13, 10, 13, 10]⟩ = S (Wire.getS (1010 + k) ++ Wire.eol ++ (Wire.hostH ++ Wire.eol ++ ([] ++ Wire.eol ++ []))) := by
  rw [show (⟨#[71, 69, 84, 32, 47]⟩ : ByteArray) = S [71, 69, 84, 32, 47] from rfl, show (⟨#[32, 72, 84, 84, 80, 47, 49, 46, 49, 13, 10, 104, 111, 115, 116, 58, 32, 104, 13, 10, 13, 10]⟩ : ByteArray) = S [32, 72, 84, 84, 80, 47, 49, 46, 49, 13, 10, 104, 111, 115, 116, 58, 32, 104, 13, 10, 13, 10] from rfl, S_append, S_append]
  refine congrArg S ?_
  unfold Wire.getS Wire.get
  simp [Wire.http11, Wire.eol, Wire.hostH, Wire.nHost]
theorem text2 (k : Nat) : (⟨#[71, 69, 84, 32, 47, 32, 72, 84, 84, 80, 47, 49, 46, 49, 13, 10, 104, 111, 115, 116, 58, 32, 104, 13, 10, 97, 58]⟩ : ByteArray) ++ S (Wire.pad (1022 + k)) ++ ⟨#[13, 10, 13, 10]⟩ = S (Wire.getS 0 ++ Wire.eol ++ (Wire.hostH ++ Wire.eol ++ (([97] ++ 58 :: Wire.pad (1022 + k)) ++ Wire.eol ++ ([] ++ Wire.eol ++ [])))) := by
  rw [show (⟨#[71, 69, 84, 32, 47, 32, 72, 84, 84, 80, 47, 49, 46, 49, 13, 10, 104, 111, 115, 116, 58, 32, 104, 13, 10, 97, 58]⟩ : ByteArray) = S [71, 69, 84, 32, 47, 32, 72, 84, 84, 80, 47, 49, 46, 49, 13, 10, 104, 111, 115, 116, 58, 32, 104, 13, 10, 97, 58] from rfl, show (⟨#[13, 10, 13, 10]⟩ : ByteArray) = S [13, 10, 13, 10] from rfl, S_append, S_append]
  refine congrArg S ?_
  unfold Wire.getS Wire.get
  simp [Wire.http11, Wire.eol, Wire.hostH, Wire.nHost, Wire.pad]
theorem text3 (k : Nat) : S (heads 3) ++ ⟨#[98, 58]⟩ ++ S (Wire.pad (1011 + k)) ++ ⟨#[13, 10, 13, 10]⟩ = S (Wire.getS 0 ++ Wire.eol ++ (Wire.hostH ++ Wire.eol ++ (([97] ++ 58 :: Wire.pad 1020) ++ Wire.eol ++ (([97] ++ 58 :: Wire.pad 1020) ++ Wire.eol ++ (([97] ++ 58 :: Wire.pad 1020) ++ Wire.eol ++ (([98] ++ 58 :: Wire.pad (1011 + k)) ++ Wire.eol ++ ([] ++ Wire.eol ++ []))))))) := by
  rw [show (⟨#[98, 58]⟩ : ByteArray) = S [98, 58] from rfl, show (⟨#[13, 10, 13, 10]⟩ : ByteArray) = S [13, 10, 13, 10] from rfl, S_append, S_append, S_append]
  refine congrArg S ?_
  rw [show heads 3 = pre ++ ([97, 58] ++ Wire.pad 1020 ++ [13, 10]) ++ ([97, 58] ++ Wire.pad 1020 ++ [13, 10]) ++ ([97, 58] ++ Wire.pad 1020 ++ [13, 10]) from rfl]
  generalize Wire.pad 1020 = P
  generalize Wire.pad (1011 + k) = Q
  unfold pre Wire.getS Wire.get
  simp [Wire.http11, Wire.eol, Wire.hostH, Wire.nHost, Wire.pad]
theorem text4 (k : Nat) : S (manyL (31 + k)) ++ ⟨#[13, 10]⟩ = S (Wire.getS 0 ++ Wire.eol ++ (Wire.hostH ++ Wire.eol ++ Wire.many (31 + k) ([] ++ Wire.eol ++ []))) := by
  rw [show (⟨#[13, 10]⟩ : ByteArray) = S [13, 10] from rfl, S_append, many_app]
  refine congrArg S ?_
  show pre ++ Wire.many (31 + k) [13, 10] = Wire.getS 0 ++ Wire.eol ++ (Wire.hostH ++ Wire.eol ++ Wire.many (31 + k) [13, 10])
  generalize Wire.many (31 + k) [13, 10] = Z
  rfl
theorem text5 (k : Nat) : (⟨#[71, 69, 84, 32, 47, 32, 72, 84, 84, 80, 47, 49, 46, 49, 13, 10, 104, 111, 115, 116, 58, 32, 104, 13, 10, 99, 111, 110, 116, 101, 110, 116, 45, 108, 101, 110, 103, 116, 104, 58, 32]⟩ : ByteArray) ++ S (Wire.digs 10 (8192 + k)) ++ ⟨#[13, 10, 13, 10]⟩ ++ S (Wire.pad 8192) = S (Wire.getS 0 ++ Wire.eol ++ (Wire.hostH ++ Wire.eol ++ ((Reply.nCL ++ 58 :: (32 :: Wire.digs 10 (8192 + k))) ++ Wire.eol ++ ([] ++ Wire.eol ++ (Wire.pad 8192 ++ []))))) := by
  rw [show (⟨#[71, 69, 84, 32, 47, 32, 72, 84, 84, 80, 47, 49, 46, 49, 13, 10, 104, 111, 115, 116, 58, 32, 104, 13, 10, 99, 111, 110, 116, 101, 110, 116, 45, 108, 101, 110, 103, 116, 104, 58, 32]⟩ : ByteArray) = S [71, 69, 84, 32, 47, 32, 72, 84, 84, 80, 47, 49, 46, 49, 13, 10, 104, 111, 115, 116, 58, 32, 104, 13, 10, 99, 111, 110, 116, 101, 110, 116, 45, 108, 101, 110, 103, 116, 104, 58, 32] from rfl, show (⟨#[13, 10, 13, 10]⟩ : ByteArray) = S [13, 10, 13, 10] from rfl, S_append, S_append, S_append]
  refine congrArg S ?_
  unfold Wire.getS Wire.get
  generalize Wire.pad 8192 = P
  generalize Wire.digs 10 (8192 + k) = Q
  simp [Wire.http11, Wire.eol, Wire.hostH, Wire.nHost, Wire.pad, Reply.nCL]
end Go.Proofs.YtplfceainkeokaaGreatDoor.wireLimits
