/-
  uri: what the document's rune1 answers (written out by a program, three ways alike).
-/
import Derived.Test.YtpnmddealjoiiaaDoorU2
namespace Go.Proofs.YtpnmddealjoiiaaDoor
open Go.RowKit Uri

theorem w64 {x : Int} (h1 : -9223372036854775808 ≤ x) (h2 : x < 9223372036854775808) : wrap64 x = x := by unfold wrap64; omega
theorem rv_step {V y : Nat} (hV : V ≤ 16777216) (h1 : 128 ≤ y) (h2 : y ≤ 191) : wrap64 (wrap64 (wrap64 ((V : Int) * 64) + (y : Int)) - 128) = ((V * 64 + (y - 128) : Nat) : Int) := by
  rw [w64 (x := (V : Int) * 64) (by omega) (by omega), w64 (x := (V : Int) * 64 + (y : Int)) (by omega) (by omega), w64 (by omega) (by omega)]
  omega
/-- What rune1 answers of the bytes l. -/
def RuneE (l : List Nat) (e : Ending) : Prop := ∃ (n : Nat) (ok : Bool), e = .returned (.tuple #[.int .i64 n, .bool ok]) ∧ (ok = true → Uri.step l = some n) ∧ (ok = false → Uri.step l = none)
theorem RuneE.yes {l : List Nat} {n : Nat} (h : Uri.step l = some n) {m : Int} (hm : m = n) : RuneE l (.returned (.tuple #[.int .i64 m, .bool true])) := ⟨n, true, by rw [hm], fun _ => h, fun h => by cases h⟩
theorem RuneE.no {l : List Nat} (h : Uri.step l = none) {n : Nat} {m : Int} (hm : m = n) : RuneE l (.returned (.tuple #[.int .i64 m, .bool false])) := ⟨n, false, by rw [hm], fun h => (by cases h), fun _ => h⟩
theorem RuneE.dec {l : List Nat} {n : Nat} {p : Prop} [Decidable p] (h : Uri.step l = if p then some n else none) {m : Int} (hm : m = n) {b : Bool} (hb : b = true ↔ p) : RuneE l (.returned (.tuple #[.int .i64 m, .bool b])) := by
  cases b
  · exact RuneE.no (by rw [h, if_neg (fun hp => by cases hb.2 hp)]) hm
  · exact RuneE.yes (by rw [h, if_pos (hb.1 rfl)]) hm
def rval (v0 : Nat) (l : List Nat) : Nat → Nat
  | 0 => v0
  | k + 1 => rval v0 l k * 64 + (l.getD (k + 1) 0 - 128)
theorem rstep1 {l : List Nat} (h1 : l.getD 0 0 < 128) : Uri.step l = some 1 := by unfold Uri.step; rw [if_pos h1]
theorem rstep0 {l : List Nat} (h1 : 128 ≤ l.getD 0 0) (h2 : l.getD 0 0 < 192 ∨ 248 ≤ l.getD 0 0) : Uri.step l = none := by
  unfold Uri.step
  rw [if_neg (by omega), if_neg (by omega), if_neg (by omega), if_neg (by omega)]
theorem rstep2 {l : List Nat} (h1 : 192 ≤ l.getD 0 0) (h2 : l.getD 0 0 < 224) : Uri.step l = if 2 ≤ l.length ∧ co (l.getD 1 0) ∧ 128 ≤ rval (l.getD 0 0 - 192) l 1 then some 2 else none := by
  unfold Uri.step
  rw [if_neg (by omega), if_pos (by omega)]
  rfl
theorem rstep3 {l : List Nat} (h1 : 224 ≤ l.getD 0 0) (h2 : l.getD 0 0 < 240) : Uri.step l = if 3 ≤ l.length ∧ co (l.getD 1 0) ∧ co (l.getD 2 0) ∧ 2048 ≤ rval (l.getD 0 0 - 224) l 2 ∧ (rval (l.getD 0 0 - 224) l 2 < 55296 ∨ 57343 < rval (l.getD 0 0 - 224) l 2) then some 3 else none := by
  unfold Uri.step
  rw [if_neg (by omega), if_neg (by omega), if_pos (by omega)]
  rfl
theorem rstep4 {l : List Nat} (h1 : 240 ≤ l.getD 0 0) (h2 : l.getD 0 0 < 248) : Uri.step l = if 4 ≤ l.length ∧ co (l.getD 1 0) ∧ co (l.getD 2 0) ∧ co (l.getD 3 0) ∧ 65536 ≤ rval (l.getD 0 0 - 240) l 3 ∧ rval (l.getD 0 0 - 240) l 3 ≤ 1114111 then some 4 else none := by
  unfold Uri.step
  rw [if_neg (by omega), if_neg (by omega), if_neg (by omega), if_pos (by omega)]
  rfl
theorem rval_lt {v0 : Nat} {l : List Nat} (h0 : v0 < 32) : ∀ k, (∀ j, 1 ≤ j → j ≤ k → co (l.getD j 0)) → rval v0 l k + 1 ≤ 32 * 64 ^ k
  | 0, _ => by show v0 + 1 ≤ _; simp; omega
  | k + 1, h => by
    have ih := rval_lt (l := l) h0 k (fun j h1 h2 => h j h1 (by omega))
    have hc := h (k + 1) (by omega) (Nat.le_refl _)
    unfold co at hc
    show rval v0 l k * 64 + _ + 1 ≤ _
    rw [Nat.pow_succ]
    omega

set_option maxRecDepth 100000 in
set_option maxHeartbeats 1600000 in
theorem rune1_2 (w : World) (s : ByteArray) (hs : s.size ≤ 4294967296) (h0 : 0 < s.size) (h1 : 192 ≤ (nums s).getD 0 0) (h2 : (nums s).getD 0 0 < 224) :
    Calls Tryd.prog 42 #[.string s] w fun e w' => RuneE (nums s) e ∧ w = w' := by
  have HA : Hid (∀ k (hk : k < s.size), (s[k]'hk).toNat = (nums s).getD k 0) := fun k hk => nat_at s k hk
  have HL : Hid ((nums s).length = s.size) := nums_length s
  have ST := Lib.hid (rstep2 h1 h2)
  obtain ⟨x, hx⟩ : ∃ x, x = (nums s).getD 0 0 := ⟨_, rfl⟩
  rw [← hx] at h1 h2 ST
  have hw : wrap64 ((s[0]'h0).toNat : Int) = (x : Int) := by rw [HA.out 0 h0, ← hx]; unfold wrap64; omega
  have HX : Hid (192 ≤ x ∧ x < 224) := ⟨h1, h2⟩
  clear hx
  have g1 : ¬ (x : Int) < 128 := by omega
  have g2 : (192 : Int) ≤ (x : Int) := by omega
  have g3 : (x : Int) < 224 := by omega
  clear h1 h2
  by_cases hz : s.size < 2
  · have gz : (s.size : Int) < 2 := by omega
    go_enter Tryd.func42, Tryd.ntmps42
    go_wp2
    go_ret2
    refine ⟨RuneE.no (n := 0) ?_ rfl, rfl⟩
    rw [ST.out, if_neg (fun h => by have := h.1; rw [HL.out] at this; omega)]
  · have gz : ¬ (s.size : Int) < 2 := by omega
    have ew : wrap64 ((x : Int) - 192) = ((x - 192 : Nat) : Int) := by have := HX.out; unfold wrap64; omega
    go_enter Tryd.func42, Tryd.ntmps42
    go_wp2
    clear ew
    go_loop [7, 8] (fun v i => ∃ k : Nat, k < 2 ∧ i = .int .i64 ((k + 1 : Nat) : Int) ∧ v = .int .i64 ((rval (x - 192) (nums s) k : Nat) : Int) ∧ Hid (∀ j, 1 ≤ j → j ≤ k → co ((nums s).getD j 0))) (fun _ i => 2 - (intOf i).toNat)
    case atStart => exact ⟨0, by omega, rfl, congrArg (Value.int .i64) (by show (x : Int) - 192 = ((x - 192 : Nat) : Int); have := HX.out; omega), by show ∀ j, _ → _ → _; intro j h1 h2; omega⟩
    case round =>
      obtain ⟨k, hk, rfl, rfl, hco⟩ := hrel
      obtain ⟨V, hV⟩ : ∃ V, V = rval (x - 192) (nums s) k := ⟨_, rfl⟩
      have HV : Hid (V = rval (x - 192) (nums s) k) := hV
      have HVL : Hid (V + 1 ≤ 32 * 64 ^ k) := by show V + 1 ≤ _; rw [hV]; exact rval_lt (by have := HX.out; omega) k hco.out
      rw [← hV]
      clear hV
      by_cases hlt : k + 1 < 2
      · have hkz : k + 1 < s.size := by omega
        obtain ⟨y, hy⟩ : ∃ y, y = (nums s).getD (k + 1) 0 := ⟨_, rfl⟩
        have hY : y < 256 := by rw [hy]; exact getD_lt s _
        have hwy : wrap64 ((s[k + 1]'hkz).toNat : Int) = (y : Int) := by rw [HA.out _ hkz, ← hy]; unfold wrap64; omega
        have HY : Hid (y = (nums s).getD (k + 1) 0 ∧ y < 256) := ⟨hy, hY⟩
        clear hy hY
        by_cases hb : 128 ≤ y ∧ y ≤ 191
        · have k1 : ¬ (y : Int) < 128 := by omega
          have k2 : ¬ (191 : Int) < (y : Int) := by omega
          have NV : Hid (wrap64 (wrap64 (wrap64 ((V : Int) * 64) + (y : Int)) - 128) = ((rval (x - 192) (nums s) (k + 1) : Nat) : Int)) := by
            show _ = (((rval (x - 192) (nums s) k) * 64 + ((nums s).getD (k + 1) 0 - 128) : Nat) : Int)
            have hp : (64 : Nat) ^ k ≤ 64 ^ 3 := Nat.pow_le_pow_right (by omega) (by omega)
            have e3 := HVL.out
            have h64 : (64 : Nat) ^ 3 = 262144 := by decide
            rw [← HV.out, ← HY.out.1]
            exact rv_step (by omega) hb.1 hb.2
          have NC : Hid (∀ j, 1 ≤ j → j ≤ k + 1 → co ((nums s).getD j 0)) := fun j h1 h2 => by
            rcases Nat.lt_or_ge k j with h | h
            · obtain rfl : j = k + 1 := by omega
              rw [← HY.out.1]
              exact hb
            · exact hco.out j h1 h
          clear hb
          go_wp2
          go_round
          case rel => exact ⟨k + 1, by omega, by go_num, congrArg (Value.int .i64) NV.out, NC⟩
          case measure => simp [intOf]; omega
        · have NS : Hid (Uri.step (nums s) = none) := by
            show _ = _
            rw [ST.out, if_neg]
            intro h
            have hc : co y := by
              rw [HY.out.1]
              obtain rfl : k = 0 := by omega
              exact h.2.1
            exact hb hc
          by_cases hb1 : y < 128
          · have k1 : (y : Int) < 128 := by omega
            clear hb
            go_wp2
            go_ret2
            exact ⟨RuneE.no (n := 0) NS.out rfl, rfl⟩
          · have k1 : ¬ (y : Int) < 128 := by omega
            have k2 : (191 : Int) < (y : Int) := by omega
            clear hb
            go_wp2
            go_ret2
            exact ⟨RuneE.no (n := 0) NS.out rfl, rfl⟩
      · obtain rfl : k = 1 := by omega
        have CO : ∀ j, 1 ≤ j → j ≤ 1 → co ((nums s).getD j 0) := hco.out
        have NS : Hid (Uri.step (nums s) = if 128 ≤ V ∧ V ≤ 1114111 ∧ (V < 55296 ∨ 57343 < V) then some 2 else none) := by
          show _ = _
          rw [ST.out, ← HV.out]
          have hVl := HVL.out
          have hp : (64 : Nat) ^ 1 = 64 := by decide
          rw [hp] at hVl
          have hlen : 2 ≤ (nums s).length := by rw [HL.out]; omega
          have c1 := CO 1 (by omega) (by omega)
          clear HVL
          by_cases hc : 128 ≤ V ∧ V ≤ 1114111 ∧ (V < 55296 ∨ 57343 < V)
          · rw [if_pos hc, if_pos (by first | exact ⟨hlen, c1, hc.1⟩ | exact ⟨hlen, c1, c2, hc.1, hc.2.2⟩ | exact ⟨hlen, c1, c2, c3, hc.1, hc.2.1⟩)]
          · rw [if_neg hc, if_neg (fun h => hc (by have := h.2.2; omega))]
        clear CO hco
        go_wp2
        all_goals go_ret2
        all_goals exact ⟨RuneE.dec (n := 2) NS.out rfl (by first | (rw [Bool.or_eq_true, decide_eq_true_eq, decide_eq_true_eq]; omega) | exact ⟨fun h => (by cases h), fun h => by omega⟩ | exact ⟨fun _ => by omega, fun _ => rfl⟩), rfl⟩

set_option maxRecDepth 100000 in
set_option maxHeartbeats 1600000 in
theorem rune1_3 (w : World) (s : ByteArray) (hs : s.size ≤ 4294967296) (h0 : 0 < s.size) (h1 : 224 ≤ (nums s).getD 0 0) (h2 : (nums s).getD 0 0 < 240) :
    Calls Tryd.prog 42 #[.string s] w fun e w' => RuneE (nums s) e ∧ w = w' := by
  have HA : Hid (∀ k (hk : k < s.size), (s[k]'hk).toNat = (nums s).getD k 0) := fun k hk => nat_at s k hk
  have HL : Hid ((nums s).length = s.size) := nums_length s
  have ST := Lib.hid (rstep3 h1 h2)
  obtain ⟨x, hx⟩ : ∃ x, x = (nums s).getD 0 0 := ⟨_, rfl⟩
  rw [← hx] at h1 h2 ST
  have hw : wrap64 ((s[0]'h0).toNat : Int) = (x : Int) := by rw [HA.out 0 h0, ← hx]; unfold wrap64; omega
  have HX : Hid (224 ≤ x ∧ x < 240) := ⟨h1, h2⟩
  clear hx
  have g1 : ¬ (x : Int) < 128 := by omega
  have g2 : (192 : Int) ≤ (x : Int) := by omega
  have g3 : ¬ (x : Int) < 224 := by omega
  have g4 : (224 : Int) ≤ (x : Int) := by omega
  have g5 : (x : Int) < 240 := by omega
  clear h1 h2
  by_cases hz : s.size < 3
  · have gz : (s.size : Int) < 3 := by omega
    go_enter Tryd.func42, Tryd.ntmps42
    go_wp2
    go_ret2
    refine ⟨RuneE.no (n := 0) ?_ rfl, rfl⟩
    rw [ST.out, if_neg (fun h => by have := h.1; rw [HL.out] at this; omega)]
  · have gz : ¬ (s.size : Int) < 3 := by omega
    have ew : wrap64 ((x : Int) - 224) = ((x - 224 : Nat) : Int) := by have := HX.out; unfold wrap64; omega
    go_enter Tryd.func42, Tryd.ntmps42
    go_wp2
    clear ew
    go_loop [7, 8] (fun v i => ∃ k : Nat, k < 3 ∧ i = .int .i64 ((k + 1 : Nat) : Int) ∧ v = .int .i64 ((rval (x - 224) (nums s) k : Nat) : Int) ∧ Hid (∀ j, 1 ≤ j → j ≤ k → co ((nums s).getD j 0))) (fun _ i => 3 - (intOf i).toNat)
    case atStart => exact ⟨0, by omega, rfl, congrArg (Value.int .i64) (by show (x : Int) - 224 = ((x - 224 : Nat) : Int); have := HX.out; omega), by show ∀ j, _ → _ → _; intro j h1 h2; omega⟩
    case round =>
      obtain ⟨k, hk, rfl, rfl, hco⟩ := hrel
      obtain ⟨V, hV⟩ : ∃ V, V = rval (x - 224) (nums s) k := ⟨_, rfl⟩
      have HV : Hid (V = rval (x - 224) (nums s) k) := hV
      have HVL : Hid (V + 1 ≤ 32 * 64 ^ k) := by show V + 1 ≤ _; rw [hV]; exact rval_lt (by have := HX.out; omega) k hco.out
      rw [← hV]
      clear hV
      by_cases hlt : k + 1 < 3
      · have hkz : k + 1 < s.size := by omega
        obtain ⟨y, hy⟩ : ∃ y, y = (nums s).getD (k + 1) 0 := ⟨_, rfl⟩
        have hY : y < 256 := by rw [hy]; exact getD_lt s _
        have hwy : wrap64 ((s[k + 1]'hkz).toNat : Int) = (y : Int) := by rw [HA.out _ hkz, ← hy]; unfold wrap64; omega
        have HY : Hid (y = (nums s).getD (k + 1) 0 ∧ y < 256) := ⟨hy, hY⟩
        clear hy hY
        by_cases hb : 128 ≤ y ∧ y ≤ 191
        · have k1 : ¬ (y : Int) < 128 := by omega
          have k2 : ¬ (191 : Int) < (y : Int) := by omega
          have NV : Hid (wrap64 (wrap64 (wrap64 ((V : Int) * 64) + (y : Int)) - 128) = ((rval (x - 224) (nums s) (k + 1) : Nat) : Int)) := by
            show _ = (((rval (x - 224) (nums s) k) * 64 + ((nums s).getD (k + 1) 0 - 128) : Nat) : Int)
            have hp : (64 : Nat) ^ k ≤ 64 ^ 3 := Nat.pow_le_pow_right (by omega) (by omega)
            have e3 := HVL.out
            have h64 : (64 : Nat) ^ 3 = 262144 := by decide
            rw [← HV.out, ← HY.out.1]
            exact rv_step (by omega) hb.1 hb.2
          have NC : Hid (∀ j, 1 ≤ j → j ≤ k + 1 → co ((nums s).getD j 0)) := fun j h1 h2 => by
            rcases Nat.lt_or_ge k j with h | h
            · obtain rfl : j = k + 1 := by omega
              rw [← HY.out.1]
              exact hb
            · exact hco.out j h1 h
          clear hb
          go_wp2
          go_round
          case rel => exact ⟨k + 1, by omega, by go_num, congrArg (Value.int .i64) NV.out, NC⟩
          case measure => simp [intOf]; omega
        · have NS : Hid (Uri.step (nums s) = none) := by
            show _ = _
            rw [ST.out, if_neg]
            intro h
            have hc : co y := by
              rw [HY.out.1]
              have : k = 0 ∨ k = 1 := by omega
              rcases this with rfl | rfl
              · exact h.2.1
              · exact h.2.2.1
            exact hb hc
          by_cases hb1 : y < 128
          · have k1 : (y : Int) < 128 := by omega
            clear hb
            go_wp2
            go_ret2
            exact ⟨RuneE.no (n := 0) NS.out rfl, rfl⟩
          · have k1 : ¬ (y : Int) < 128 := by omega
            have k2 : (191 : Int) < (y : Int) := by omega
            clear hb
            go_wp2
            go_ret2
            exact ⟨RuneE.no (n := 0) NS.out rfl, rfl⟩
      · obtain rfl : k = 2 := by omega
        have CO : ∀ j, 1 ≤ j → j ≤ 2 → co ((nums s).getD j 0) := hco.out
        have NS : Hid (Uri.step (nums s) = if 2048 ≤ V ∧ V ≤ 1114111 ∧ (V < 55296 ∨ 57343 < V) then some 3 else none) := by
          show _ = _
          rw [ST.out, ← HV.out]
          have hVl := HVL.out
          have hp : (64 : Nat) ^ 2 = 4096 := by decide
          rw [hp] at hVl
          have hlen : 3 ≤ (nums s).length := by rw [HL.out]; omega
          have c1 := CO 1 (by omega) (by omega)
          have c2 := CO 2 (by omega) (by omega)
          by_cases hc : 2048 ≤ V ∧ V ≤ 1114111 ∧ (V < 55296 ∨ 57343 < V)
          · rw [if_pos hc, if_pos (by first | exact ⟨hlen, c1, hc.1⟩ | exact ⟨hlen, c1, c2, hc.1, hc.2.2⟩ | exact ⟨hlen, c1, c2, c3, hc.1, hc.2.1⟩)]
          · rw [if_neg hc, if_neg (fun h => hc (by have := h.2.2; omega))]
        clear CO hco
        go_wp2
        all_goals go_ret2
        all_goals exact ⟨RuneE.dec (n := 3) NS.out rfl (by first | (rw [Bool.or_eq_true, decide_eq_true_eq, decide_eq_true_eq]; omega) | exact ⟨fun h => (by cases h), fun h => by omega⟩ | exact ⟨fun _ => by omega, fun _ => rfl⟩), rfl⟩

set_option maxRecDepth 100000 in
set_option maxHeartbeats 1600000 in
theorem rune1_4 (w : World) (s : ByteArray) (hs : s.size ≤ 4294967296) (h0 : 0 < s.size) (h1 : 240 ≤ (nums s).getD 0 0) (h2 : (nums s).getD 0 0 < 248) :
    Calls Tryd.prog 42 #[.string s] w fun e w' => RuneE (nums s) e ∧ w = w' := by
  have HA : Hid (∀ k (hk : k < s.size), (s[k]'hk).toNat = (nums s).getD k 0) := fun k hk => nat_at s k hk
  have HL : Hid ((nums s).length = s.size) := nums_length s
  have ST := Lib.hid (rstep4 h1 h2)
  obtain ⟨x, hx⟩ : ∃ x, x = (nums s).getD 0 0 := ⟨_, rfl⟩
  rw [← hx] at h1 h2 ST
  have hw : wrap64 ((s[0]'h0).toNat : Int) = (x : Int) := by rw [HA.out 0 h0, ← hx]; unfold wrap64; omega
  have HX : Hid (240 ≤ x ∧ x < 248) := ⟨h1, h2⟩
  clear hx
  have g1 : ¬ (x : Int) < 128 := by omega
  have g2 : (192 : Int) ≤ (x : Int) := by omega
  have g3 : ¬ (x : Int) < 224 := by omega
  have g4 : (224 : Int) ≤ (x : Int) := by omega
  have g5 : ¬ (x : Int) < 240 := by omega
  have g6 : (240 : Int) ≤ (x : Int) := by omega
  have g7 : (x : Int) < 248 := by omega
  clear h1 h2
  by_cases hz : s.size < 4
  · have gz : (s.size : Int) < 4 := by omega
    go_enter Tryd.func42, Tryd.ntmps42
    go_wp2
    go_ret2
    refine ⟨RuneE.no (n := 0) ?_ rfl, rfl⟩
    rw [ST.out, if_neg (fun h => by have := h.1; rw [HL.out] at this; omega)]
  · have gz : ¬ (s.size : Int) < 4 := by omega
    have ew : wrap64 ((x : Int) - 240) = ((x - 240 : Nat) : Int) := by have := HX.out; unfold wrap64; omega
    go_enter Tryd.func42, Tryd.ntmps42
    go_wp2
    clear ew
    go_loop [7, 8] (fun v i => ∃ k : Nat, k < 4 ∧ i = .int .i64 ((k + 1 : Nat) : Int) ∧ v = .int .i64 ((rval (x - 240) (nums s) k : Nat) : Int) ∧ Hid (∀ j, 1 ≤ j → j ≤ k → co ((nums s).getD j 0))) (fun _ i => 4 - (intOf i).toNat)
    case atStart => exact ⟨0, by omega, rfl, congrArg (Value.int .i64) (by show (x : Int) - 240 = ((x - 240 : Nat) : Int); have := HX.out; omega), by show ∀ j, _ → _ → _; intro j h1 h2; omega⟩
    case round =>
      obtain ⟨k, hk, rfl, rfl, hco⟩ := hrel
      obtain ⟨V, hV⟩ : ∃ V, V = rval (x - 240) (nums s) k := ⟨_, rfl⟩
      have HV : Hid (V = rval (x - 240) (nums s) k) := hV
      have HVL : Hid (V + 1 ≤ 32 * 64 ^ k) := by show V + 1 ≤ _; rw [hV]; exact rval_lt (by have := HX.out; omega) k hco.out
      rw [← hV]
      clear hV
      by_cases hlt : k + 1 < 4
      · have hkz : k + 1 < s.size := by omega
        obtain ⟨y, hy⟩ : ∃ y, y = (nums s).getD (k + 1) 0 := ⟨_, rfl⟩
        have hY : y < 256 := by rw [hy]; exact getD_lt s _
        have hwy : wrap64 ((s[k + 1]'hkz).toNat : Int) = (y : Int) := by rw [HA.out _ hkz, ← hy]; unfold wrap64; omega
        have HY : Hid (y = (nums s).getD (k + 1) 0 ∧ y < 256) := ⟨hy, hY⟩
        clear hy hY
        by_cases hb : 128 ≤ y ∧ y ≤ 191
        · have k1 : ¬ (y : Int) < 128 := by omega
          have k2 : ¬ (191 : Int) < (y : Int) := by omega
          have NV : Hid (wrap64 (wrap64 (wrap64 ((V : Int) * 64) + (y : Int)) - 128) = ((rval (x - 240) (nums s) (k + 1) : Nat) : Int)) := by
            show _ = (((rval (x - 240) (nums s) k) * 64 + ((nums s).getD (k + 1) 0 - 128) : Nat) : Int)
            have hp : (64 : Nat) ^ k ≤ 64 ^ 3 := Nat.pow_le_pow_right (by omega) (by omega)
            have e3 := HVL.out
            have h64 : (64 : Nat) ^ 3 = 262144 := by decide
            rw [← HV.out, ← HY.out.1]
            exact rv_step (by omega) hb.1 hb.2
          have NC : Hid (∀ j, 1 ≤ j → j ≤ k + 1 → co ((nums s).getD j 0)) := fun j h1 h2 => by
            rcases Nat.lt_or_ge k j with h | h
            · obtain rfl : j = k + 1 := by omega
              rw [← HY.out.1]
              exact hb
            · exact hco.out j h1 h
          clear hb
          go_wp2
          go_round
          case rel => exact ⟨k + 1, by omega, by go_num, congrArg (Value.int .i64) NV.out, NC⟩
          case measure => simp [intOf]; omega
        · have NS : Hid (Uri.step (nums s) = none) := by
            show _ = _
            rw [ST.out, if_neg]
            intro h
            have hc : co y := by
              rw [HY.out.1]
              have : k = 0 ∨ k = 1 ∨ k = 2 := by omega
              rcases this with rfl | rfl | rfl
              · exact h.2.1
              · exact h.2.2.1
              · exact h.2.2.2.1
            exact hb hc
          by_cases hb1 : y < 128
          · have k1 : (y : Int) < 128 := by omega
            clear hb
            go_wp2
            go_ret2
            exact ⟨RuneE.no (n := 0) NS.out rfl, rfl⟩
          · have k1 : ¬ (y : Int) < 128 := by omega
            have k2 : (191 : Int) < (y : Int) := by omega
            clear hb
            go_wp2
            go_ret2
            exact ⟨RuneE.no (n := 0) NS.out rfl, rfl⟩
      · obtain rfl : k = 3 := by omega
        have CO : ∀ j, 1 ≤ j → j ≤ 3 → co ((nums s).getD j 0) := hco.out
        have NS : Hid (Uri.step (nums s) = if 65536 ≤ V ∧ V ≤ 1114111 ∧ (V < 55296 ∨ 57343 < V) then some 4 else none) := by
          show _ = _
          rw [ST.out, ← HV.out]
          have hVl := HVL.out
          have hp : (64 : Nat) ^ 3 = 262144 := by decide
          rw [hp] at hVl
          have hlen : 4 ≤ (nums s).length := by rw [HL.out]; omega
          have c1 := CO 1 (by omega) (by omega)
          have c2 := CO 2 (by omega) (by omega)
          have c3 := CO 3 (by omega) (by omega)
          by_cases hc : 65536 ≤ V ∧ V ≤ 1114111 ∧ (V < 55296 ∨ 57343 < V)
          · rw [if_pos hc, if_pos (by first | exact ⟨hlen, c1, hc.1⟩ | exact ⟨hlen, c1, c2, hc.1, hc.2.2⟩ | exact ⟨hlen, c1, c2, c3, hc.1, hc.2.1⟩)]
          · rw [if_neg hc, if_neg (fun h => hc (by have := h.2.2; omega))]
        clear CO hco
        go_wp2
        all_goals go_ret2
        all_goals exact ⟨RuneE.dec (n := 4) NS.out rfl (by first | (rw [Bool.or_eq_true, decide_eq_true_eq, decide_eq_true_eq]; omega) | exact ⟨fun h => (by cases h), fun h => by omega⟩ | exact ⟨fun _ => by omega, fun _ => rfl⟩), rfl⟩

set_option maxRecDepth 100000 in
set_option maxHeartbeats 1600000 in
theorem rune1_any (w : World) (s : ByteArray) (hs : s.size ≤ 4294967296) (h0 : 0 < s.size) :
    Calls Tryd.prog 42 #[.string s] w fun e w' => RuneE (nums s) e ∧ w = w' := by
  by_cases h2 : 192 ≤ (nums s).getD 0 0 ∧ (nums s).getD 0 0 < 224
  · exact rune1_2 w s hs h0 h2.1 h2.2
  by_cases h3 : 224 ≤ (nums s).getD 0 0 ∧ (nums s).getD 0 0 < 240
  · exact rune1_3 w s hs h0 h3.1 h3.2
  by_cases h4 : 240 ≤ (nums s).getD 0 0 ∧ (nums s).getD 0 0 < 248
  · exact rune1_4 w s hs h0 h4.1 h4.2
  have HA : Hid (∀ k (hk : k < s.size), (s[k]'hk).toNat = (nums s).getD k 0) := fun k hk => nat_at s k hk
  by_cases h1 : (nums s).getD 0 0 < 128
  · have ST := Lib.hid (rstep1 h1)
    obtain ⟨x, hx⟩ : ∃ x, x = (nums s).getD 0 0 := ⟨_, rfl⟩
    rw [← hx] at h1
    have hw : wrap64 ((s[0]'h0).toNat : Int) = (x : Int) := by rw [HA.out 0 h0, ← hx]; unfold wrap64; omega
    have g1 : (x : Int) < 128 := by omega
    clear hx h1 h2 h3 h4
    go_enter Tryd.func42, Tryd.ntmps42
    go_wp2
    go_ret2
    exact ⟨RuneE.yes (n := 1) ST.out rfl, rfl⟩
  · have ST := Lib.hid (rstep0 (l := nums s) (by omega) (by omega))
    obtain ⟨x, hx⟩ : ∃ x, x = (nums s).getD 0 0 := ⟨_, rfl⟩
    have hX := getD_lt s 0
    rw [← hx] at h1 h2 h3 h4 hX
    have hw : wrap64 ((s[0]'h0).toNat : Int) = (x : Int) := by rw [HA.out 0 h0, ← hx]; unfold wrap64; omega
    have g1 : ¬ (x : Int) < 128 := by omega
    by_cases h5 : x < 192
    · have g2 : ¬ (192 : Int) ≤ (x : Int) := by omega
      have g3 : ¬ (224 : Int) ≤ (x : Int) := by omega
      have g4 : ¬ (240 : Int) ≤ (x : Int) := by omega
      clear hx h1 h2 h3 h4 h5 hX
      go_enter Tryd.func42, Tryd.ntmps42
      go_wp2
      go_ret2
      exact ⟨RuneE.no (n := 0) ST.out rfl, rfl⟩
    · have g2 : (192 : Int) ≤ (x : Int) := by omega
      have g3 : ¬ (x : Int) < 224 := by omega
      have g4 : (224 : Int) ≤ (x : Int) := by omega
      have g5 : ¬ (x : Int) < 240 := by omega
      have g6 : (240 : Int) ≤ (x : Int) := by omega
      have g7 : ¬ (x : Int) < 248 := by omega
      clear hx h1 h2 h3 h4 h5 hX
      go_enter Tryd.func42, Tryd.ntmps42
      go_wp2
      go_ret2
      exact ⟨RuneE.no (n := 0) ST.out rfl, rfl⟩
end Go.Proofs.YtpnmddealjoiiaaDoor
