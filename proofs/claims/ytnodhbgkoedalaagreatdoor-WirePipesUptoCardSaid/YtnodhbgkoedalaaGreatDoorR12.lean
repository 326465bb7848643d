/-
  reply: package field: isTokenByte, IsToken, IsValue, Small.
-/
import Derived.Test.YtnodhbgkoedalaaGreatDoorR11
import Derived.Lib.IndexAny
namespace Go.Proofs.YtnodhbgkoedalaaGreatDoor
open Go.RowKit Reply

theorem small_take {l : B} {k : Nat} (h : k < l.length) : small (l.take (k + 1)) = small (l.take k) ++ [low (l.getD k 0)] := by
  unfold small
  rw [take_nextU h, List.map_append]
  rfl
theorem valB_of' {c : UInt8} {x : Nat} (hx : x = c.toNat) (h : (32 ≤ x ∨ x = 9) ∧ x ≠ 127) : valB c = true := valB_of hx h
set_option maxRecDepth 100000 in
set_option maxHeartbeats 4000000 in
theorem tokbyte_any (w : World) (c : UInt8) (x : Nat) (hx : x = c.toNat) :
    Calls Tryz.prog 48 #[.int .u8 (x : Int)] w fun e w' => e = .returned (.bool (tokB c)) ∧ w = w' := by
  have x8 : x < 256 := by rw [hx]; exact c.toNat_lt
  have X := Lib.hid hx
  have IB : Hid (∀ u, Calls Tryz.prog 44 #[.string ⟨#[33, 35, 36, 37, 38, 39, 42, 43, 45, 46, 94, 95, 96, 124, 126]⟩, .int .u8 (x : Int)] u fun e w' => e = .returned (.int .i64 (Lib.indexByte tchars c)) ∧ u = w') := fun u => by
    refine (Tryz.strings_IndexByte _ (x : Int) u).mono ?_
    rintro e w' ⟨rfl, rfl⟩
    have e1 : ((x : Int)).toNat.toUInt8 = c := by
      apply UInt8.toNat_inj.1
      rw [← X.out]
      simp
      omega
    rw [e1]
    exact ⟨rfl, rfl⟩
  have IX := Lib.hid (Lib.contains_iff_indexByte tchars c)
  clear hx
  obtain ⟨q, hq⟩ : ∃ q, q = Lib.indexByte tchars c := ⟨_, rfl⟩
  rw [← hq] at IB IX
  clear hq
  have parts : x < 48 ∨ (48 ≤ x ∧ x ≤ 57) ∨ (58 ≤ x ∧ x ≤ 64) ∨ (65 ≤ x ∧ x ≤ 90) ∨ (91 ≤ x ∧ x ≤ 96) ∨ (97 ≤ x ∧ x ≤ 122) ∨ 123 ≤ x := by omega
  rcases parts with hp | hp | hp | hp | hp | hp | hp
  · skip
    have g97 : decide ((97 : Int) ≤ (x : Int)) = false := decide_eq_false (by omega)
    have g65 : decide ((65 : Int) ≤ (x : Int)) = false := decide_eq_false (by omega)
    have g48 : decide ((48 : Int) ≤ (x : Int)) = false := decide_eq_false (by omega)
    have l122 : decide ((x : Int) ≤ 122) = true := decide_eq_true (by omega)
    have l90 : decide ((x : Int) ≤ 90) = true := decide_eq_true (by omega)
    have l57 : decide ((x : Int) ≤ 57) = true := decide_eq_true (by omega)
    have F := Lib.hid (tokB_else X.out (by omega))
    clear hp
    go_enter Tryz.func48, Tryz.ntmps48
    go_wp2_with fail
    refine (IB.out _).mono ?_
    rintro e w' ⟨rfl, rfl⟩
    clear IB
    go_wp2_with fail
    go_ret
    exact ⟨ret_bool (by rw [F.out, IX.out]), rfl⟩
  · skip
    have g97 : decide ((97 : Int) ≤ (x : Int)) = false := decide_eq_false (by omega)
    have g65 : decide ((65 : Int) ≤ (x : Int)) = false := decide_eq_false (by omega)
    have g48 : decide ((48 : Int) ≤ (x : Int)) = true := decide_eq_true (by omega)
    have l122 : decide ((x : Int) ≤ 122) = true := decide_eq_true (by omega)
    have l90 : decide ((x : Int) ≤ 90) = true := decide_eq_true (by omega)
    have l57 : decide ((x : Int) ≤ 57) = true := decide_eq_true (by omega)
    have F := Lib.hid (tokB_yes X.out (by omega))
    clear hp
    go_enter Tryz.func48, Tryz.ntmps48
    go_wp2
    go_ret
    exact ⟨ret_bool F.out.symm, rfl⟩
  · skip
    have g97 : decide ((97 : Int) ≤ (x : Int)) = false := decide_eq_false (by omega)
    have g65 : decide ((65 : Int) ≤ (x : Int)) = false := decide_eq_false (by omega)
    have g48 : decide ((48 : Int) ≤ (x : Int)) = true := decide_eq_true (by omega)
    have l122 : decide ((x : Int) ≤ 122) = true := decide_eq_true (by omega)
    have l90 : decide ((x : Int) ≤ 90) = true := decide_eq_true (by omega)
    have l57 : decide ((x : Int) ≤ 57) = false := decide_eq_false (by omega)
    have F := Lib.hid (tokB_else X.out (by omega))
    clear hp
    go_enter Tryz.func48, Tryz.ntmps48
    go_wp2_with fail
    refine (IB.out _).mono ?_
    rintro e w' ⟨rfl, rfl⟩
    clear IB
    go_wp2_with fail
    go_ret
    exact ⟨ret_bool (by rw [F.out, IX.out]), rfl⟩
  · skip
    have g97 : decide ((97 : Int) ≤ (x : Int)) = false := decide_eq_false (by omega)
    have g65 : decide ((65 : Int) ≤ (x : Int)) = true := decide_eq_true (by omega)
    have g48 : decide ((48 : Int) ≤ (x : Int)) = true := decide_eq_true (by omega)
    have l122 : decide ((x : Int) ≤ 122) = true := decide_eq_true (by omega)
    have l90 : decide ((x : Int) ≤ 90) = true := decide_eq_true (by omega)
    have l57 : decide ((x : Int) ≤ 57) = false := decide_eq_false (by omega)
    have F := Lib.hid (tokB_yes X.out (by omega))
    clear hp
    go_enter Tryz.func48, Tryz.ntmps48
    go_wp2
    go_ret
    exact ⟨ret_bool F.out.symm, rfl⟩
  · skip
    have g97 : decide ((97 : Int) ≤ (x : Int)) = false := decide_eq_false (by omega)
    have g65 : decide ((65 : Int) ≤ (x : Int)) = true := decide_eq_true (by omega)
    have g48 : decide ((48 : Int) ≤ (x : Int)) = true := decide_eq_true (by omega)
    have l122 : decide ((x : Int) ≤ 122) = true := decide_eq_true (by omega)
    have l90 : decide ((x : Int) ≤ 90) = false := decide_eq_false (by omega)
    have l57 : decide ((x : Int) ≤ 57) = false := decide_eq_false (by omega)
    have F := Lib.hid (tokB_else X.out (by omega))
    clear hp
    go_enter Tryz.func48, Tryz.ntmps48
    go_wp2_with fail
    refine (IB.out _).mono ?_
    rintro e w' ⟨rfl, rfl⟩
    clear IB
    go_wp2_with fail
    go_ret
    exact ⟨ret_bool (by rw [F.out, IX.out]), rfl⟩
  · skip
    have g97 : decide ((97 : Int) ≤ (x : Int)) = true := decide_eq_true (by omega)
    have g65 : decide ((65 : Int) ≤ (x : Int)) = true := decide_eq_true (by omega)
    have g48 : decide ((48 : Int) ≤ (x : Int)) = true := decide_eq_true (by omega)
    have l122 : decide ((x : Int) ≤ 122) = true := decide_eq_true (by omega)
    have l90 : decide ((x : Int) ≤ 90) = false := decide_eq_false (by omega)
    have l57 : decide ((x : Int) ≤ 57) = false := decide_eq_false (by omega)
    have F := Lib.hid (tokB_yes X.out (by omega))
    clear hp
    go_enter Tryz.func48, Tryz.ntmps48
    go_wp2
    go_ret
    exact ⟨ret_bool F.out.symm, rfl⟩
  · skip
    have g97 : decide ((97 : Int) ≤ (x : Int)) = true := decide_eq_true (by omega)
    have g65 : decide ((65 : Int) ≤ (x : Int)) = true := decide_eq_true (by omega)
    have g48 : decide ((48 : Int) ≤ (x : Int)) = true := decide_eq_true (by omega)
    have l122 : decide ((x : Int) ≤ 122) = false := decide_eq_false (by omega)
    have l90 : decide ((x : Int) ≤ 90) = false := decide_eq_false (by omega)
    have l57 : decide ((x : Int) ≤ 57) = false := decide_eq_false (by omega)
    have F := Lib.hid (tokB_else X.out (by omega))
    clear hp
    go_enter Tryz.func48, Tryz.ntmps48
    go_wp2_with fail
    refine (IB.out _).mono ?_
    rintro e w' ⟨rfl, rfl⟩
    clear IB
    go_wp2_with fail
    go_ret
    exact ⟨ret_bool (by rw [F.out, IX.out]), rfl⟩
set_option maxRecDepth 100000 in
set_option maxHeartbeats 4000000 in
theorem istoken_any (w : World) (s : ByteArray) (hs : s.size ≤ 4294967296) :
    Calls Tryz.prog 36 #[.string s] w fun e w' => e = .returned (.bool (tokn s.data.toList)) ∧ w = w' := by
  have HA : Hid (∀ k (hk : k < s.size), (s[k]'hk) = s.data.toList.getD k 0) := fun k hk => at_list s k hk
  have HL : Hid (s.data.toList.length = s.size) := size_list s
  have fe : s.toList.isEmpty = decide (s.data.toList = []) := by rw [← S_of s]; exact S_empty _
  go_enter Tryz.func36, Tryz.ntmps36
  go_wp2
  go_loop [3, 6] (fun _ i => ∃ k : Nat, k ≤ s.size ∧ i = .int .i64 k ∧ Hid (∀ c ∈ s.data.toList.take k, tokB c = true)) (fun _ i => s.size - (intOf i).toNat)
  case atStart => exact ⟨0, by omega, rfl, by show ∀ c ∈ _, _; simp⟩
  case round =>
    obtain ⟨k, hk, rfl, hn⟩ := hrel
    by_cases hlt : k < s.size
    · obtain ⟨c, hc⟩ : ∃ c, c = (s[k]'hlt) := ⟨_, rfl⟩
      obtain ⟨x, hx⟩ : ∃ x, x = c.toNat := ⟨_, rfl⟩
      have hxe : ((s[k]'hlt).toNat : Int) = (x : Int) := by rw [hx, hc]
      have C := Lib.hid (hc.trans (HA.out k hlt))
      have TB := Lib.hid (fun u => tokbyte_any u c x hx)
      have MEM : Hid (c ∈ s.data.toList) := by show c ∈ _; rw [C.out]; exact getD_memU (by rw [HL.out]; exact hlt)
      have NX : tokB c = true → Hid (∀ d ∈ s.data.toList.take (k + 1), tokB d = true) := fun ht => by
        show ∀ d ∈ _, _
        rw [take_nextU (by rw [HL.out]; exact hlt), ← C.out]
        intro d hd
        rcases List.mem_append.1 hd with hd | hd
        · exact hn.out d hd
        · have : d = c := by simpa using hd
          rw [this, ht]
      have hlz : (k : Int) < (s.size : Int) := by omega
      clear hc hx
      cases ht : tokB c
      · have F := Lib.hid (tok_bad MEM.out ht)
        rw [ht] at TB
        clear NX ht
        go_wp2_with fail
        refine (TB.out _).mono ?_
        rintro e w' ⟨rfl, rfl⟩
        clear TB
        go_wp2_with fail
        go_ret
        exact ⟨ret_bool F.out.symm, rfl⟩
      · have N := NX ht
        rw [ht] at TB
        clear NX ht
        go_wp2_with fail
        refine (TB.out _).mono ?_
        rintro e w' ⟨rfl, rfl⟩
        clear TB
        go_wp2_with fail
        go_round
        case rel => exact ⟨k + 1, by omega, by go_num, N⟩
        case measure => simp [intOf]; omega
    · obtain rfl : k = s.size := by omega
      have F : Hid (tokn s.data.toList = !decide (s.data.toList = [])) := tok_all (by have := hn.out; rwa [← HL.out, List.take_length] at this)
      obtain ⟨z, hz⟩ : ∃ z, z = decide (s.data.toList = []) := ⟨_, rfl⟩
      rw [← hz] at fe F
      clear hz
      go_wp2
      go_ret
      exact ⟨ret_bool F.out.symm, rfl⟩
set_option maxRecDepth 100000 in
set_option maxHeartbeats 4000000 in
theorem isvalue_any (w : World) (s : ByteArray) (hs : s.size ≤ 4294967296) :
    Calls Tryz.prog 40 #[.string s] w fun e w' => e = .returned (.bool (val s.data.toList)) ∧ w = w' := by
  have HA : Hid (∀ k (hk : k < s.size), (s[k]'hk) = s.data.toList.getD k 0) := fun k hk => at_list s k hk
  have HL : Hid (s.data.toList.length = s.size) := size_list s
  go_enter Tryz.func40, Tryz.ntmps40
  go_wp2
  go_loop [3, 4, 7] (fun _ _ i => ∃ k : Nat, k ≤ s.size ∧ i = .int .i64 k ∧ Hid (∀ c ∈ s.data.toList.take k, valB c = true)) (fun _ _ i => s.size - (intOf i).toNat)
  case atStart => exact ⟨0, by omega, rfl, by show ∀ c ∈ _, _; simp⟩
  case round =>
    obtain ⟨k, hk, rfl, hn⟩ := hrel
    by_cases hlt : k < s.size
    · obtain ⟨c, hc⟩ : ∃ c, c = (s[k]'hlt) := ⟨_, rfl⟩
      obtain ⟨x, hx⟩ : ∃ x, x = c.toNat := ⟨_, rfl⟩
      have hxe : ((s[k]'hlt).toNat : Int) = (x : Int) := by rw [hx, hc]
      have C := Lib.hid (hc.trans (HA.out k hlt))
      have X := Lib.hid hx
      have x8 : x < 256 := by rw [hx]; exact c.toNat_lt
      have MEM : Hid (c ∈ s.data.toList) := by show c ∈ _; rw [C.out]; exact getD_memU (by rw [HL.out]; exact hlt)
      have NX : valB c = true → Hid (∀ d ∈ s.data.toList.take (k + 1), valB d = true) := fun ht => by
        show ∀ d ∈ _, _
        rw [take_nextU (by rw [HL.out]; exact hlt), ← C.out]
        intro d hd
        rcases List.mem_append.1 hd with hd | hd
        · exact hn.out d hd
        · have : d = c := by simpa using hd
          rw [this, ht]
      have hlz : (k : Int) < (s.size : Int) := by omega
      clear hc hx
      have parts : (x = 9) ∨ (x < 32 ∧ x ≠ 9) ∨ (x = 127) ∨ (32 ≤ x ∧ x ≠ 127) := by omega
      rcases parts with hp | hp | hp | hp
      · have N := NX (valB_of X.out (by omega))
        have f0 : decide ((x : Int) < 32) = true := decide_eq_true (by omega)
        have f1 : ((x : Int) == 9) = true := by rw [hp]; rfl
        have f2 : ((x : Int) != 9) = false := by rw [hp]; rfl
        have f3 : ((x : Int) == 127) = false := by rw [hp]; rfl
        clear NX hp
        go_wp2
        go_round
        case rel => exact ⟨k + 1, by omega, by go_num, N⟩
        case measure => simp [intOf]; omega
      · have F := Lib.hid (val_bad MEM.out (valB_no X.out (by omega)))
        have f0 : decide ((x : Int) < 32) = true := decide_eq_true (by omega)
        have f1 : ((x : Int) == 9) = false := by rw [beq_eq_false_iff_ne]; omega
        have f2 : ((x : Int) != 9) = true := by rw [bne_iff_ne]; omega
        clear NX hp
        go_wp2
        go_ret
        exact ⟨ret_bool F.out.symm, rfl⟩
      · have F := Lib.hid (val_bad MEM.out (valB_no X.out (by omega)))
        have f0 : decide ((x : Int) < 32) = false := decide_eq_false (by omega)
        have f3 : ((x : Int) == 127) = true := by rw [hp]; rfl
        clear NX hp
        go_wp2
        go_ret
        exact ⟨ret_bool F.out.symm, rfl⟩
      · have N := NX (valB_of X.out (by omega))
        have f0 : decide ((x : Int) < 32) = false := decide_eq_false (by omega)
        have f3 : ((x : Int) == 127) = false := by rw [beq_eq_false_iff_ne]; omega
        clear NX hp
        go_wp2
        go_round
        case rel => exact ⟨k + 1, by omega, by go_num, N⟩
        case measure => simp [intOf]; omega
    · obtain rfl : k = s.size := by omega
      have F : Hid (val s.data.toList = true) := val_all (by have := hn.out; rwa [← HL.out, List.take_length] at this)
      go_wp2
      go_ret
      exact ⟨ret_bool F.out.symm, rfl⟩
set_option maxRecDepth 100000 in
set_option maxHeartbeats 8000000 in
theorem fsmall_any (w : World) (l : B) (hs : l.length ≤ 4294967296) :
    Calls Tryz.prog 41 #[.string (S l)] w fun e w' => e = .returned (.string (S (small l))) ∧ Below w.heap.size w w' := by
  obtain ⟨s, hsl⟩ : ∃ s, s = S l := ⟨_, rfl⟩
  have HA : Hid (∀ k (hk : k < s.size), (s[k]'hk) = l.getD k 0) := fun k hk => by subst hsl; exact S_at l k hk
  have HL : Hid (s.size = l.length) := by show _ = _; rw [hsl]; exact S_size l
  rw [← hsl]
  have hs' : s.size ≤ 4294967296 := by rw [HL.out]; exact hs
  obtain ⟨g, hg⟩ : ∃ g, g = w.heap.size := ⟨_, rfl⟩
  have HG := Lib.hid hg
  obtain ⟨W0, hW0⟩ : ∃ x, x = w.alloc (.cells #[.pointer none, .slice none 0 0] 81) := ⟨_, rfl⟩
  have HW0 := Lib.hid hW0
  have GR : Hid (Calls Tryz.prog 54 #[.pointer (some ⟨w.heap.size, 0, none⟩), .int .i64 (s.size : Int)] W0 fun e w' => e = .returned (.tuple #[]) ∧ BldU w' w.heap.size w.heap.size [] ∧ Below w.heap.size W0 w') :=
    growU w.heap.size w.heap.size s.size W0 (Nat.le_refl _) (by rw [hW0]; exact heap_alloc_new w _) (by rw [hW0]; simp) (by omega)
  have B0 : Hid (Below w.heap.size w W0) := by show Below _ _ _; rw [hW0]; exact (Below.refl _ _).alloc (Nat.le_refl _) _
  clear hsl hs hg hW0
  go_enter Tryz.func41, Tryz.ntmps41
  go_wp2_with fail
  rw [← HW0.out]
  refine GR.out.mono ?_
  rintro e w1 ⟨rfl, hb, hbl⟩
  have BB := Lib.hid hb
  have B1 := Lib.hid (B0.out.trans hbl)
  clear hb hbl GR
  go_wp2_with fail
  go_loopw [4, 5, 11] (fun _ _ i wr => ∃ k : Nat, k ≤ s.size ∧ i = .int .i64 k ∧ Hid (BldU wr w.heap.size w.heap.size (small (l.take k))) ∧ Hid (Below w.heap.size w wr)) (fun _ _ i _ => s.size - (intOf i).toNat)
  case atStart => exact ⟨0, by omega, rfl, BB, B1⟩
  case round =>
    obtain ⟨k, hk, rfl, HB, HW⟩ := hrel
    by_cases hlt : k < s.size
    · obtain ⟨c, hc⟩ : ∃ c, c = (s[k]'hlt) := ⟨_, rfl⟩
      obtain ⟨x, hx⟩ : ∃ x, x = c.toNat := ⟨_, rfl⟩
      have hxe : ((s[k]'hlt).toNat : Int) = (x : Int) := by rw [hx, hc]
      have C := Lib.hid (hc.trans (HA.out k hlt))
      have X := Lib.hid hx
      have x8 : x < 256 := by rw [hx]; exact c.toNat_lt
      have hlz : (k : Int) < (s.size : Int) := by omega
      have TK : Hid (small (l.take (k + 1)) = small (l.take k) ++ [low c]) := by show _ = _; rw [small_take (by rw [← HL.out]; exact hlt), ← C.out]
      have WB := Lib.hid (wbyteU w.heap.size w.heap.size (small (l.take k)) (low c) wr HB.out (by unfold small; rw [List.length_map, List.length_take]; omega) HW.out.size)
      clear hc hx
      by_cases h65 : 65 ≤ x
      · have f1 : decide ((65 : Int) ≤ (x : Int)) = true := decide_eq_true (by omega)
        by_cases h90 : x ≤ 90
        · have f2 : decide ((x : Int) ≤ 90) = true := decide_eq_true (by omega)
          rw [low_nat X.out ⟨h65, h90⟩, show ((x + 32 : Nat) : Int) = (x : Int) + 32 by omega] at WB
          go_wp2_with fail
          refine WB.out.mono ?_
          rintro e w2 ⟨rfl, h1, h2⟩
          have N1 : Hid (BldU w2 w.heap.size w.heap.size (small (l.take (k + 1)))) := by show BldU _ _ _ _; rw [TK.out]; exact h1
          have N2 := Lib.hid (HW.out.trans h2)
          clear h1 h2 WB
          go_wp2_with fail
          go_roundw
          case rel => exact ⟨k + 1, by omega, by go_num, N1, N2⟩
          case measure => simp [intOf]; omega
        · have f2 : decide ((x : Int) ≤ 90) = false := decide_eq_false (by omega)
          rw [low_else X.out (by omega), ← X.out] at WB
          have LC := low_else X.out (by omega)
          rw [LC] at TK
          clear LC
          go_wp2_with fail
          refine WB.out.mono ?_
          rintro e w2 ⟨rfl, h1, h2⟩
          have N1 : Hid (BldU w2 w.heap.size w.heap.size (small (l.take (k + 1)))) := by show BldU _ _ _ _; rw [TK.out]; exact h1
          have N2 := Lib.hid (HW.out.trans h2)
          clear h1 h2 WB
          go_wp2_with fail
          go_roundw
          case rel => exact ⟨k + 1, by omega, by go_num, N1, N2⟩
          case measure => simp [intOf]; omega
      · have f1 : decide ((65 : Int) ≤ (x : Int)) = false := decide_eq_false (by omega)
        rw [low_else X.out (by omega), ← X.out] at WB
        have LC := low_else X.out (by omega)
        rw [LC] at TK
        clear LC
        go_wp2_with fail
        refine WB.out.mono ?_
        rintro e w2 ⟨rfl, h1, h2⟩
        have N1 : Hid (BldU w2 w.heap.size w.heap.size (small (l.take (k + 1)))) := by show BldU _ _ _ _; rw [TK.out]; exact h1
        have N2 := Lib.hid (HW.out.trans h2)
        clear h1 h2 WB
        go_wp2_with fail
        go_roundw
        case rel => exact ⟨k + 1, by omega, by go_num, N1, N2⟩
        case measure => simp [intOf]; omega
    · obtain rfl : k = s.size := by omega
      have TX := Lib.hid (textU w.heap.size w.heap.size (small (l.take s.size)) wr HB.out HW.out.size)
      rw [HL.out, List.take_length] at TX
      obtain ⟨r, hr⟩ : ∃ r, r = S (small l) := ⟨_, rfl⟩
      rw [← hr] at TX
      have HR := Lib.hid hr
      clear hr
      go_wp2_with fail
      refine TX.out.mono ?_
      rintro e w2 ⟨rfl, h2⟩
      have N2 := Lib.hid (HW.out.trans h2)
      clear h2 TX
      go_wp2_with fail
      go_ret
      exact ⟨ret_str HR.out, N2.out⟩
end Go.Proofs.YtnodhbgkoedalaaGreatDoor
