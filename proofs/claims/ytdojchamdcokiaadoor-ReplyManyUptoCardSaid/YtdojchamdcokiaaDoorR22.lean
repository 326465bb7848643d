/-
  docketlaw12: the document's examples; what the rows list; a start that fits.
-/
import Derived.Test.YtdojchamdcokiaaDoorR21
import Derived.Test.YtdojchamdcokiaaDoorTie
import Derived.Test.YtdojchamdcokiaaDoorCards
import Derived.Lib.LaidU8T
import Derived.Stop.LaidErr
import Derived.LaidLaws
import Derived.LaidMore
import Derived.MakeChecks
import Derived.Deep.DeepHandedRow
import Derived.Deep.DeepWitnessRowRef
import Derived.Deep.Strs
import Derived.Deep.SlicePairs
import Derived.Lib.LaidTab
import Derived.Shelf.Vars
namespace Go.Proofs.YtdojchamdcokiaaDoor
open Go.ChangeShapes Go.WideShapes Go.ChangeAt Go.RowKit Go.Deep Reply

theorem itoa200 : Lib.itoa 200 = [50, 48, 48] := by
  rw [itoa_pos (by omega), show (200 : Int).toNat = 200 from rfl, Lib.decDigits, dif_neg (by omega), Lib.decDigits, dif_neg (by omega), Lib.decDigits, dif_pos (by omega)]
  rfl
theorem itoa2 : Lib.itoa 2 = [50] := by
  rw [itoa_pos (by omega), show (2 : Int).toNat = 2 from rfl, Lib.decDigits, dif_pos (by omega)]
  rfl
/-- The document's example. -/
def exR : Rs := ⟨200, [([65], [98])], [104, 105], false, false⟩
theorem ex_good : good exR = true := by decide
theorem ex_form : form exR = [72, 84, 84, 80, 47, 49, 46, 49, 32, 50, 48, 48, 32, 79, 75, 13, 10, 65, 58, 32, 98, 13, 10, 67, 111, 110, 116, 101, 110, 116, 45, 76, 101, 110, 103, 116, 104, 58, 32, 50, 13, 10, 13, 10, 104, 105] := by
  unfold form top statusLine lenLine exR
  simp only []
  rw [itoa200, show (([104, 105] : B).length : Nat) = 2 from rfl, show ((2 : Nat) : Int) = 2 from rfl, itoa2]
  rfl
theorem ex_fit : RFit exR := ⟨by decide, by decide, by decide, by decide, by decide⟩
set_option maxRecDepth 100000 in
set_option maxHeartbeats 4000000 in
theorem fixed_any (w : World) (E : Env w) :
    Calls Tryd.prog 5 #[] w fun e w' => e = .returned (.bool true) ∧ Below w.heap.size w w' := by
  have HE := Lib.hid E
  obtain ⟨W0, hW0⟩ : ∃ x, x = w.alloc (.cells #[.string ⟨#[65]⟩, .string ⟨#[98]⟩] 37) := ⟨_, rfl⟩
  have B0 : Hid (Below w.heap.size w W0) := by show Below _ _ _; rw [hW0]; exact (Below.refl _ _).alloc (Nat.le_refl _) _
  have H0 : HAt W0 (some ⟨w.heap.size, 0, none⟩) exR.headers := by rw [hW0]; exact head_one w ⟨#[65]⟩ ⟨#[98]⟩ _ _ _ rfl
  have WR : Hid (Calls Tryd.prog 6 #[.agg #[.int .i64 200, .slice (some ⟨w.heap.size, 0, none⟩) 1 1, .string ⟨#[104, 105]⟩, .bool false, .bool false]] W0 fun e w' => e = .returned (.tuple #[.string (S (form exR)), .int .i64 0]) ∧ Below W0.heap.size W0 w') := by
    refine (fwrite_any W0 (E.below B0.out) exR (some ⟨w.heap.size, 0, none⟩) 1 ex_fit H0).mono ?_
    rintro e w' ⟨rfl, hb⟩
    exact ⟨by unfold wroteV; rw [ex_good]; rfl, hb⟩
  have HW0 := Lib.hid hW0
  obtain ⟨s, hs⟩ : ∃ x, x = S (form exR) := ⟨_, rfl⟩
  rw [← hs] at WR
  have sz : s.size = 46 := by rw [hs, S_size, ex_form]; rfl
  have q1 : ¬ 9223372036854775807 < s.size + 1 := by omega
  have RD : Hid (∀ u, Env u → Calls Tryd.prog 7 #[.string (s ++ ⟨#[120]⟩), .bool false] u fun e w' => ReadE (form exR ++ [120]) false e w' ∧ Below u.heap.size u w') := fun u E => by
    rw [hs, show (⟨#[120]⟩ : ByteArray) = S [120] from rfl, S_append]
    exact fread_any u E (form exR ++ [120]) false (by rw [ex_form]; decide)
  have FR : Hid (Reply.read (form exR ++ [120]) false = some (exR, [120])) := read_form exR ex_good [120]
  have f1 : (s.toList == [72, 84, 84, 80, 47, 49, 46, 49, 32, 50, 48, 48, 32, 79, 75, 13, 10, 65, 58, 32, 98, 13, 10, 67, 111, 110, 116, 101, 110, 116, 45, 76, 101, 110, 103, 116, 104, 58, 32, 50, 13, 10, 13, 10, 104, 105]) = true := by rw [hs, S_toList, ex_form]; decide
  have RS5 := Lib.hid (fun u => freason_any u 507)
  rw [show S (reason 507) = ⟨#[73, 110, 115, 117, 102, 102, 105, 99, 105, 101, 110, 116, 32, 83, 116, 111, 114, 97, 103, 101]⟩ from rfl] at RS5
  have SZ := Lib.hid sz
  clear hs E hW0 H0 sz
  go_enter Tryd.func5, Tryd.ntmps5
  go_wp2_with fail
  rw [← HW0.out]
  refine WR.out.mono ?_
  rintro e w1 ⟨rfl, hb1⟩
  have B1 := Lib.hid (B0.out.trans (hb1.mono B0.out.size))
  clear hb1 WR
  go_wp2_with fail
  refine (RD.out _ (HE.out.below B1.out)).mono ?_
  rintro e w2 ⟨⟨r, A, c, n, ok, rfl, hA, hy, hn⟩, hb2⟩
  have B2 := Lib.hid (B1.out.trans (hb2.mono B1.out.size))
  cases ok
  · have := (hn rfl).1
    rw [FR.out] at this
    cases this
  · obtain ⟨z, hz, hl⟩ := hy rfl
    rw [FR.out] at hz
    simp only [Option.some.injEq, Prod.mk.injEq] at hz
    obtain ⟨rfl, rfl⟩ := hz
    have hn46 : n = 46 := by
      rw [List.length_append, ex_form] at hl
      simpa using hl
    have f4 : ((n : Int) == (s.size : Int)) = true := by rw [hn46, SZ.out]; rfl
    have e1 : rV exR A c = .agg #[.int .i64 200, .slice A 1 c, .string ⟨#[104, 105]⟩, .bool false, .bool false] := rfl
    rw [e1]
    clear hn hy hA hb2 RD hl hn46 e1
    go_wp2_with fail
    refine (RS5.out _).mono ?_
    rintro e w3 ⟨rfl, hb3⟩
    have B3 := Lib.hid (B2.out.trans ((Below.refl w2.heap.size w2).alloc (Nat.le_refl _) _ |>.trans (hb3.mono (by simp)) |>.mono B2.out.size))
    clear hb3 RS5
    go_wp2_with fail
    go_ret
    exact ⟨rfl, B3.out⟩
end Go.Proofs.YtdojchamdcokiaaDoor
