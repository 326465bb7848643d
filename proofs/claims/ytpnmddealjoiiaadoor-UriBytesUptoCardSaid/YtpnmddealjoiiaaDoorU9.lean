/-
  uri: what the document's Text answers.
-/
import Derived.Test.YtpnmddealjoiiaaDoorU8
namespace Go.Proofs.YtpnmddealjoiiaaDoor
open Go.RowKit Uri

/-- append at a step of a region that draws its order. -/
theorem step_append_bts {P : Program} {t e : TypeId} (B : ByteT P t e) (w : World) {ops : Array Oper} {o : Oper} {a : Act} {K : Act → World → Prop} {Q : Exit → Act → World → Prop} {E : Prop} (hgd : o.guard = none) (s x : Operand)
    (ho : o.op = .call { callee := .builtin .append, args := #[s, x], argTypes := #[t, t] })
    (base : Nat) (v : Value) (k : List Nat) (hs : a.eval s = v) (hown : OwnB w base e v k)
    (A : Option Addr) (m c : Nat) (l : List Nat) (hx : a.eval x = .slice A m c) (hb : Bts w A m l) (hr : k.length + m ≤ 140737488355328) (hbase : base ≤ w.heap.size)
    (h : ∀ v' w', OwnB w' base e v' (k ++ l) → w.grownBy w' v.ownBlock → (v'.ownBlock = v.ownBlock ∨ v'.ownBlock = some w.heap.size) → K (a.put o.dst v') w') :
    if Region.wanted o (yielded ops a.tmps) = true then Oper.wp P o a w K Q else E := by
  have hw : Region.wanted o (yielded ops a.tmps) = true := by simp [Region.wanted, hgd]
  rw [if_pos hw]
  exact wp_append_bts B s x ho base v k hs hown A m c l hx hb hr hbase h
theorem bts_three (w : World) (x y z : Nat) (h1 : x < 256) (h2 : y < 256) (h3 : z < 256) (e : TypeId) (m : Nat × Nat) (b : Nat) (hb : b = w.heap.size) : Bts (w.alloc (.cells #[.int .u8 (x : Int), .int .u8 (y : Int), .int .u8 (z : Int)] e m)) (some ⟨b, 0, none⟩) 3 [x, y, z] := by
  subst hb
  refine ⟨rfl, fun u hu => by
    simp only [List.mem_cons, List.not_mem_nil, or_false] at hu
    rcases hu with rfl | rfl | rfl <;> assumption, fun _ => ⟨_, 0, rfl, by simp, fun i hi => ?_⟩⟩
  rw [Nat.zero_add, World.cell?_alloc_mark]
  have : i = 0 ∨ i = 1 ∨ i = 2 := by omega
  rcases this with rfl | rfl | rfl <;> rfl
theorem plain_eq (x : Nat) : plain x = ((decide (97 ≤ x) && decide (x ≤ 122)) || ((decide (65 ≤ x) && decide (x ≤ 90)) || ((decide (48 ≤ x) && decide (x ≤ 57)) || (decide (x = 45) || (decide (x = 46) || (decide (x = 95) || decide (x = 126))))))) := by
  unfold plain
  rw [Bool.eq_iff_iff]
  simp only [Bool.or_eq_true, Bool.and_eq_true, decide_eq_true_eq]
theorem enc_snoc (l : List Nat) (x : Nat) : enc (l ++ [x]) = enc l ++ enc1 x := by simp [enc]
theorem form_snoc (l : List (List Nat)) (s : List Nat) : form (l ++ [s]) = form l ++ (47 :: enc s) := by simp [form]
theorem enc_len (l : List Nat) : (enc l).length ≤ 3 * l.length := by
  induction l with
  | nil => simp [enc]
  | cons x r ih =>
    have : enc (x :: r) = enc1 x ++ enc r := by simp [enc]
    rw [this, List.length_append, List.length_cons]
    have : (enc1 x).length ≤ 3 := by unfold enc1; split <;> simp
    omega
set_option maxRecDepth 100000 in
set_option maxHeartbeats 3200000 in
theorem rtext_any (w : World) (A : Option Addr) (n c : Nat) (a : List ByteArray) (hn : n ≤ 4611686018427387904) (ha : Strs w A n a) (hs : ∀ s ∈ a, s.size ≤ 4194304) :
    Calls Tryd.prog 16 #[.slice A n c] w fun e w' => e = .returned (.string (strB (text (txts a)))) ∧ Below w.heap.size w w' := by
  have HG := Lib.hid (rgood_any w A n c a hn ha hs)
  have HA := Lib.hid ha
  have HS := Lib.hid hs
  have hla := Lib.hid ha.1
  clear ha hs
  obtain ⟨g, hg⟩ : ∃ g, g = good (txts a) := ⟨_, rfl⟩
  have G := Lib.hid hg
  rw [← hg] at HG
  clear hg
  go_enter Tryd.func16, Tryd.ntmps16
  go_wp2_with fail
  refine HG.out.mono ?_
  rintro e w' ⟨rfl, rfl⟩
  clear HG
  cases g
  · have F : Hid (strB (text (txts a)) = ⟨#[]⟩) := by show _ = _; unfold text; rw [← G.out, if_neg (by simp)]; rfl
    go_wp2_with fail
    go_ret
    exact ⟨by rw [F.out]; rfl, Below.refl _ _⟩
  · have GP := Lib.hid (good_parts G.out.symm)
    have hn12 : n ≤ 12 := by have := GP.out.2; rwa [txts_length, hla.out] at this
    go_wp2_with fail
    go_loopw [3, 4] (fun v i wr => ∃ (k : Nat), k ≤ n ∧ i = .int .i64 k ∧ Hid (OwnB wr w.heap.size 5 v (form (txts (a.take k)))) ∧ Hid (Below w.heap.size w wr) ∧ Hid ((form (txts (a.take k))).length ≤ 200 * k)) (fun _ i _ => n - (intOf i).toNat)
    case atStart => exact ⟨0, by omega, rfl, own_nil _ _ _, Below.refl _ _, by show _ ≤ _; simp [txts, form]⟩
    case round =>
      obtain ⟨k, hk, rfl, HO, HB, HN⟩ := hrel
      by_cases hlt : k < n
      · obtain ⟨b, off, s, rfl, e1, x1, e2⟩ := HA.out.at_ hlt
        have hm : s ∈ a := List.mem_of_getElem? e1
        have hsz := (seg_parts (GP.out.1 (nums s) (List.mem_map.2 ⟨s, hm, rfl⟩))).2.1
        rw [nums_length] at hsz
        have E2 := Lib.hid e2
        have HLT : Hid (b < w.heap.size) := by
          obtain ⟨b', off', e, hb, _⟩ := HA.out.2 (by omega)
          injection e with e; injection e with e
          show b < _
          rw [e]; exact hb
        have HAt : Hid (∀ k (hk : k < s.size), (s[k]'hk).toNat = (nums s).getD k 0) := fun k hk => nat_at s k hk
        have HLN : Hid ((nums s).length = s.size) := nums_length s
        have X1 := Lib.hid x1
        have T := Lib.hid (bts_one wr 47 (by omega) 5 (0, 0) _ rfl)
        clear e1 e2 hm x1
        go_wp2_with (at_builtin; refine wpList_append_bts byteT rfl (.tmp 16) (.tmp 17) rfl w.heap.size _ _ rfl (HO.out.alloc _) _ 1 1 [47] rfl T.out (by have := HN.out; omega) (by have := HB.out.size; simp; omega) ?_; intro v2 w2 hown2 hg2 hv2; have O2 := Lib.hid hown2; have B2 := Lib.hid ((HO.out.alloc _).grown (HB.out.alloc HB.out.size _) hg2 (by have := HB.out.size; simp; omega)); clear hown2 hg2 hv2)
        go_loopw [3, 5] (fun v j wr => ∃ (m : Nat), m ≤ s.size ∧ j = .int .i64 m ∧ Hid (OwnB wr w.heap.size 5 v (form (txts (a.take k)) ++ [47] ++ enc ((nums s).take m))) ∧ Hid (Below w.heap.size w wr)) (fun _ j _ => s.size - (intOf j).toNat)
        case atStart => exact ⟨0, by omega, rfl, by show OwnB _ _ _ _ _; simpa [enc] using O2.out, B2⟩
        case round =>
          obtain ⟨m, hm, rfl, HO3, HB3⟩ := hrel
          have x3 : ∀ u, Below w.heap.size w u → u.cell? ⟨b, off + k, none⟩ = some (.string s) := fun u hu => (hu.cell (p := ⟨b, off + k, none⟩) HLT.out).trans X1.out
          by_cases hmlt : m < s.size
          · have x4 := x3 wr HB3.out
            obtain ⟨y, hy⟩ : ∃ y, y = (nums s).getD m 0 := ⟨_, rfl⟩
            have ey : ((s[m]'hmlt).toNat : Int) = (y : Int) := by rw [HAt.out, ← hy]
            have Y8 : Hid (y < 256) := by show y < 256; rw [hy]; exact getD_lt _ _
            have PE := Lib.hid (plain_eq y)
            have TK : Hid ((nums s).take (m + 1) = (nums s).take m ++ [y]) := by show _ = _; rw [hy]; exact take_next (by rw [HLN.out]; exact hmlt)
            have T1 := Lib.hid (bts_one wr y Y8.out 5 (0, 0) _ rfl)
            have LEN : Hid ((form (txts (a.take k)) ++ [47] ++ enc ((nums s).take m)).length ≤ 200 * k + 1 + 192) := by
              have := enc_len ((nums s).take m)
              have h2 := HN.out
              rw [List.length_take, HLN.out] at this
              show _ ≤ _
              rw [List.length_append, List.length_append, List.length_singleton]
              omega
            clear hy x3
            -- CASES
            by_cases c0 : 97 ≤ y ∧ y ≤ 122
            · have EP : Hid (enc1 y = [y]) := by show _ = _; unfold enc1; rw [if_pos (by rw [PE.out]; simp; omega)]
              have q0 : (97 : Int) ≤ (y : Int) := by omega
              have q1 : (y : Int) ≤ 122 := by omega
              clear c0
              go_wp2_with (at_builtin; refine wpList_append_bts byteT rfl (.tmp 72) (.tmp 74) rfl w.heap.size _ _ rfl (HO3.out.alloc _) _ 1 1 [y] rfl T1.out (by have := LEN.out; omega) (by have := HB3.out.size; simp; omega) ?_; intro v4 w4 hown4 hg4 hv4; have O4 := Lib.hid hown4; have B4 := Lib.hid ((HO3.out.alloc _).grown (HB3.out.alloc HB3.out.size _) hg4 (by have := HB3.out.size; simp; omega)); clear hown4 hg4 hv4)
              go_roundw
              case rel => exact ⟨m + 1, by omega, by go_num, by show OwnB _ _ _ _ _; rw [TK.out, enc_snoc, EP.out, ← List.append_assoc]; exact O4.out, B4⟩
              case measure => simp [intOf]; omega
            by_cases c1 : 65 ≤ y ∧ y ≤ 90
            · have EP : Hid (enc1 y = [y]) := by show _ = _; unfold enc1; rw [if_pos (by rw [PE.out]; simp; omega)]
              have q0 : ¬ (97 : Int) ≤ (y : Int) := by omega
              have q1 : (65 : Int) ≤ (y : Int) := by omega
              have q2 : (y : Int) ≤ 90 := by omega
              clear c0 c1
              go_wp2_with (at_builtin; refine wpList_append_bts byteT rfl (.tmp 72) (.tmp 74) rfl w.heap.size _ _ rfl (HO3.out.alloc _) _ 1 1 [y] rfl T1.out (by have := LEN.out; omega) (by have := HB3.out.size; simp; omega) ?_; intro v4 w4 hown4 hg4 hv4; have O4 := Lib.hid hown4; have B4 := Lib.hid ((HO3.out.alloc _).grown (HB3.out.alloc HB3.out.size _) hg4 (by have := HB3.out.size; simp; omega)); clear hown4 hg4 hv4)
              go_roundw
              case rel => exact ⟨m + 1, by omega, by go_num, by show OwnB _ _ _ _ _; rw [TK.out, enc_snoc, EP.out, ← List.append_assoc]; exact O4.out, B4⟩
              case measure => simp [intOf]; omega
            by_cases c2 : 48 ≤ y ∧ y ≤ 57
            · have EP : Hid (enc1 y = [y]) := by show _ = _; unfold enc1; rw [if_pos (by rw [PE.out]; simp; omega)]
              have q0 : ¬ (97 : Int) ≤ (y : Int) := by omega
              have q1 : ¬ (65 : Int) ≤ (y : Int) := by omega
              have q2 : (48 : Int) ≤ (y : Int) := by omega
              have q3 : (y : Int) ≤ 57 := by omega
              clear c0 c1 c2
              go_wp2_with (at_builtin; refine wpList_append_bts byteT rfl (.tmp 72) (.tmp 74) rfl w.heap.size _ _ rfl (HO3.out.alloc _) _ 1 1 [y] rfl T1.out (by have := LEN.out; omega) (by have := HB3.out.size; simp; omega) ?_; intro v4 w4 hown4 hg4 hv4; have O4 := Lib.hid hown4; have B4 := Lib.hid ((HO3.out.alloc _).grown (HB3.out.alloc HB3.out.size _) hg4 (by have := HB3.out.size; simp; omega)); clear hown4 hg4 hv4)
              go_roundw
              case rel => exact ⟨m + 1, by omega, by go_num, by show OwnB _ _ _ _ _; rw [TK.out, enc_snoc, EP.out, ← List.append_assoc]; exact O4.out, B4⟩
              case measure => simp [intOf]; omega
            by_cases c3 : y = 45
            · have EP : Hid (enc1 y = [y]) := by show _ = _; unfold enc1; rw [if_pos (by rw [PE.out]; simp; omega)]
              have q0 : ¬ (97 : Int) ≤ (y : Int) := by omega
              have q1 : ¬ (65 : Int) ≤ (y : Int) := by omega
              have q2 : ¬ (48 : Int) ≤ (y : Int) := by omega
              have q3 : ((y : Int) == 45) = true := by simp; omega
              clear c0 c1 c2 c3
              go_wp2_with (at_builtin; refine wpList_append_bts byteT rfl (.tmp 72) (.tmp 74) rfl w.heap.size _ _ rfl (HO3.out.alloc _) _ 1 1 [y] rfl T1.out (by have := LEN.out; omega) (by have := HB3.out.size; simp; omega) ?_; intro v4 w4 hown4 hg4 hv4; have O4 := Lib.hid hown4; have B4 := Lib.hid ((HO3.out.alloc _).grown (HB3.out.alloc HB3.out.size _) hg4 (by have := HB3.out.size; simp; omega)); clear hown4 hg4 hv4)
              go_roundw
              case rel => exact ⟨m + 1, by omega, by go_num, by show OwnB _ _ _ _ _; rw [TK.out, enc_snoc, EP.out, ← List.append_assoc]; exact O4.out, B4⟩
              case measure => simp [intOf]; omega
            by_cases c4 : y = 46
            · have EP : Hid (enc1 y = [y]) := by show _ = _; unfold enc1; rw [if_pos (by rw [PE.out]; simp; omega)]
              have q0 : ¬ (97 : Int) ≤ (y : Int) := by omega
              have q1 : ¬ (65 : Int) ≤ (y : Int) := by omega
              have q2 : ¬ (48 : Int) ≤ (y : Int) := by omega
              have q3 : ((y : Int) == 45) = false := by simp; omega
              have q4 : ((y : Int) == 46) = true := by simp; omega
              clear c0 c1 c2 c3 c4
              go_wp2_with (at_builtin; refine wpList_append_bts byteT rfl (.tmp 72) (.tmp 74) rfl w.heap.size _ _ rfl (HO3.out.alloc _) _ 1 1 [y] rfl T1.out (by have := LEN.out; omega) (by have := HB3.out.size; simp; omega) ?_; intro v4 w4 hown4 hg4 hv4; have O4 := Lib.hid hown4; have B4 := Lib.hid ((HO3.out.alloc _).grown (HB3.out.alloc HB3.out.size _) hg4 (by have := HB3.out.size; simp; omega)); clear hown4 hg4 hv4)
              go_roundw
              case rel => exact ⟨m + 1, by omega, by go_num, by show OwnB _ _ _ _ _; rw [TK.out, enc_snoc, EP.out, ← List.append_assoc]; exact O4.out, B4⟩
              case measure => simp [intOf]; omega
            by_cases c5 : y = 95
            · have EP : Hid (enc1 y = [y]) := by show _ = _; unfold enc1; rw [if_pos (by rw [PE.out]; simp; omega)]
              have q0 : ¬ (97 : Int) ≤ (y : Int) := by omega
              have q1 : (65 : Int) ≤ (y : Int) := by omega
              have q2 : ¬ (y : Int) ≤ 90 := by omega
              have q3 : (48 : Int) ≤ (y : Int) := by omega
              have q4 : ¬ (y : Int) ≤ 57 := by omega
              have q5 : ((y : Int) == 45) = false := by simp; omega
              have q6 : ((y : Int) == 46) = false := by simp; omega
              have q7 : ((y : Int) == 95) = true := by simp; omega
              clear c0 c1 c2 c3 c4 c5
              go_wp2_with (at_builtin; refine wpList_append_bts byteT rfl (.tmp 72) (.tmp 74) rfl w.heap.size _ _ rfl (HO3.out.alloc _) _ 1 1 [y] rfl T1.out (by have := LEN.out; omega) (by have := HB3.out.size; simp; omega) ?_; intro v4 w4 hown4 hg4 hv4; have O4 := Lib.hid hown4; have B4 := Lib.hid ((HO3.out.alloc _).grown (HB3.out.alloc HB3.out.size _) hg4 (by have := HB3.out.size; simp; omega)); clear hown4 hg4 hv4)
              go_roundw
              case rel => exact ⟨m + 1, by omega, by go_num, by show OwnB _ _ _ _ _; rw [TK.out, enc_snoc, EP.out, ← List.append_assoc]; exact O4.out, B4⟩
              case measure => simp [intOf]; omega
            by_cases c6 : y = 126
            · have EP : Hid (enc1 y = [y]) := by show _ = _; unfold enc1; rw [if_pos (by rw [PE.out]; simp; omega)]
              have q0 : (97 : Int) ≤ (y : Int) := by omega
              have q1 : ¬ (y : Int) ≤ 122 := by omega
              have q2 : (65 : Int) ≤ (y : Int) := by omega
              have q3 : ¬ (y : Int) ≤ 90 := by omega
              have q4 : (48 : Int) ≤ (y : Int) := by omega
              have q5 : ¬ (y : Int) ≤ 57 := by omega
              have q6 : ((y : Int) == 45) = false := by simp; omega
              have q7 : ((y : Int) == 46) = false := by simp; omega
              have q8 : ((y : Int) == 95) = false := by simp; omega
              have q9 : ((y : Int) == 126) = true := by simp; omega
              clear c0 c1 c2 c3 c4 c5 c6
              go_wp2_with (at_builtin; refine wpList_append_bts byteT rfl (.tmp 72) (.tmp 74) rfl w.heap.size _ _ rfl (HO3.out.alloc _) _ 1 1 [y] rfl T1.out (by have := LEN.out; omega) (by have := HB3.out.size; simp; omega) ?_; intro v4 w4 hown4 hg4 hv4; have O4 := Lib.hid hown4; have B4 := Lib.hid ((HO3.out.alloc _).grown (HB3.out.alloc HB3.out.size _) hg4 (by have := HB3.out.size; simp; omega)); clear hown4 hg4 hv4)
              go_roundw
              case rel => exact ⟨m + 1, by omega, by go_num, by show OwnB _ _ _ _ _; rw [TK.out, enc_snoc, EP.out, ← List.append_assoc]; exact O4.out, B4⟩
              case measure => simp [intOf]; omega
            have EN : Hid (enc1 y = [37, dig (y / 16), dig (y % 16)]) := by show _ = _; unfold enc1; rw [if_neg (by rw [PE.out]; simp; omega)]
            by_cases d0 : y < 48
            · have q0 : ¬ (97 : Int) ≤ (y : Int) := by omega
              have q1 : ¬ (65 : Int) ≤ (y : Int) := by omega
              have q2 : ¬ (48 : Int) ≤ (y : Int) := by omega
              have q3 : ((y : Int) == 45) = false := by simp; omega
              have q4 : ((y : Int) == 46) = false := by simp; omega
              have q5 : ((y : Int) == 95) = false := by simp; omega
              have q6 : ((y : Int) == 126) = false := by simp; omega
              clear c0 c1 c2 c3 c4 c5 c6 d0
              go_wp2_with fail
              obtain ⟨p1, hp1⟩ : ∃ p, p = y / 16 := ⟨_, rfl⟩
              obtain ⟨p2, hp2⟩ : ∃ p, p = y % 16 := ⟨_, rfl⟩
              have l1 : p1 < 16 := by have := Y8.out; omega
              have l2 : p2 < 16 := by omega
              have T3 := Lib.hid (bts_three wr 37 (dig p1) (dig p2) (by omega) (by unfold dig; split <;> omega) (by unfold dig; split <;> omega) 5 (0, 0) _ rfl)
              have u1 := up_at p1 l1
              have u2 := up_at p2 l2
              have z1 : IntKind.u8.wrap ((y : Int) / 16) = (p1 : Int) := by show (y : Int) / 16 % 256 = _; have := Y8.out; omega
              have z2 : (y : Int).tmod 16 = (p2 : Int) := by rw [Int.tmod_eq_emod_of_nonneg (by omega)]; omega
              have z3 : (p1 : Int) < 16 := by omega
              have z4 : (p2 : Int) < 16 := by omega
              rw [← hp1, ← hp2] at EN
              clear hp1 hp2
              go_region_law (refine step_append_bts byteT _ rfl (.tmp 76) (.tmp 83) rfl w.heap.size _ _ ?q1 (HO3.out.alloc _).drew _ 3 3 [37, dig p1, dig p2] ?q2 T3.out.drew (by have := LEN.out; omega) (by have := HB3.out.size; simp; omega) ?_; (case q1 => simp [Act.eval]); (case q2 => simp [Act.eval]); intro v4 w4 hown4 hg4 hv4; have O4 := Lib.hid hown4; have B4 := Lib.hid ((HO3.out.alloc (.cells #[.int .u8 ((37 : Nat) : Int), .int .u8 (dig p1 : Int), .int .u8 (dig p2 : Int)] 5)).drew.grown (HB3.out.alloc HB3.out.size _).drew hg4 (by have := HB3.out.size; simp; omega)); clear hown4 hg4 hv4)
              all_goals
                go_wp2_with fail
                go_roundw
                case rel => exact ⟨m + 1, by omega, by go_num, by show OwnB _ _ _ _ _; rw [TK.out, enc_snoc, EN.out, ← List.append_assoc]; exact O4.out, B4⟩
                case measure => simp [intOf]; omega
            by_cases d1 : 58 ≤ y ∧ y ≤ 64
            · have q0 : ¬ (97 : Int) ≤ (y : Int) := by omega
              have q1 : ¬ (65 : Int) ≤ (y : Int) := by omega
              have q2 : (48 : Int) ≤ (y : Int) := by omega
              have q3 : ¬ (y : Int) ≤ 57 := by omega
              have q4 : ((y : Int) == 45) = false := by simp; omega
              have q5 : ((y : Int) == 46) = false := by simp; omega
              have q6 : ((y : Int) == 95) = false := by simp; omega
              have q7 : ((y : Int) == 126) = false := by simp; omega
              clear c0 c1 c2 c3 c4 c5 c6 d0 d1
              go_wp2_with fail
              obtain ⟨p1, hp1⟩ : ∃ p, p = y / 16 := ⟨_, rfl⟩
              obtain ⟨p2, hp2⟩ : ∃ p, p = y % 16 := ⟨_, rfl⟩
              have l1 : p1 < 16 := by have := Y8.out; omega
              have l2 : p2 < 16 := by omega
              have T3 := Lib.hid (bts_three wr 37 (dig p1) (dig p2) (by omega) (by unfold dig; split <;> omega) (by unfold dig; split <;> omega) 5 (0, 0) _ rfl)
              have u1 := up_at p1 l1
              have u2 := up_at p2 l2
              have z1 : IntKind.u8.wrap ((y : Int) / 16) = (p1 : Int) := by show (y : Int) / 16 % 256 = _; have := Y8.out; omega
              have z2 : (y : Int).tmod 16 = (p2 : Int) := by rw [Int.tmod_eq_emod_of_nonneg (by omega)]; omega
              have z3 : (p1 : Int) < 16 := by omega
              have z4 : (p2 : Int) < 16 := by omega
              rw [← hp1, ← hp2] at EN
              clear hp1 hp2
              go_region_law (refine step_append_bts byteT _ rfl (.tmp 76) (.tmp 83) rfl w.heap.size _ _ ?q1 (HO3.out.alloc _).drew _ 3 3 [37, dig p1, dig p2] ?q2 T3.out.drew (by have := LEN.out; omega) (by have := HB3.out.size; simp; omega) ?_; (case q1 => simp [Act.eval]); (case q2 => simp [Act.eval]); intro v4 w4 hown4 hg4 hv4; have O4 := Lib.hid hown4; have B4 := Lib.hid ((HO3.out.alloc (.cells #[.int .u8 ((37 : Nat) : Int), .int .u8 (dig p1 : Int), .int .u8 (dig p2 : Int)] 5)).drew.grown (HB3.out.alloc HB3.out.size _).drew hg4 (by have := HB3.out.size; simp; omega)); clear hown4 hg4 hv4)
              all_goals
                go_wp2_with fail
                go_roundw
                case rel => exact ⟨m + 1, by omega, by go_num, by show OwnB _ _ _ _ _; rw [TK.out, enc_snoc, EN.out, ← List.append_assoc]; exact O4.out, B4⟩
                case measure => simp [intOf]; omega
            by_cases d2 : 91 ≤ y ∧ y ≤ 96
            · have q0 : ¬ (97 : Int) ≤ (y : Int) := by omega
              have q1 : (65 : Int) ≤ (y : Int) := by omega
              have q2 : ¬ (y : Int) ≤ 90 := by omega
              have q3 : (48 : Int) ≤ (y : Int) := by omega
              have q4 : ¬ (y : Int) ≤ 57 := by omega
              have q5 : ((y : Int) == 45) = false := by simp; omega
              have q6 : ((y : Int) == 46) = false := by simp; omega
              have q7 : ((y : Int) == 95) = false := by simp; omega
              have q8 : ((y : Int) == 126) = false := by simp; omega
              clear c0 c1 c2 c3 c4 c5 c6 d0 d1 d2
              go_wp2_with fail
              obtain ⟨p1, hp1⟩ : ∃ p, p = y / 16 := ⟨_, rfl⟩
              obtain ⟨p2, hp2⟩ : ∃ p, p = y % 16 := ⟨_, rfl⟩
              have l1 : p1 < 16 := by have := Y8.out; omega
              have l2 : p2 < 16 := by omega
              have T3 := Lib.hid (bts_three wr 37 (dig p1) (dig p2) (by omega) (by unfold dig; split <;> omega) (by unfold dig; split <;> omega) 5 (0, 0) _ rfl)
              have u1 := up_at p1 l1
              have u2 := up_at p2 l2
              have z1 : IntKind.u8.wrap ((y : Int) / 16) = (p1 : Int) := by show (y : Int) / 16 % 256 = _; have := Y8.out; omega
              have z2 : (y : Int).tmod 16 = (p2 : Int) := by rw [Int.tmod_eq_emod_of_nonneg (by omega)]; omega
              have z3 : (p1 : Int) < 16 := by omega
              have z4 : (p2 : Int) < 16 := by omega
              rw [← hp1, ← hp2] at EN
              clear hp1 hp2
              go_region_law (refine step_append_bts byteT _ rfl (.tmp 76) (.tmp 83) rfl w.heap.size _ _ ?q1 (HO3.out.alloc _).drew _ 3 3 [37, dig p1, dig p2] ?q2 T3.out.drew (by have := LEN.out; omega) (by have := HB3.out.size; simp; omega) ?_; (case q1 => simp [Act.eval]); (case q2 => simp [Act.eval]); intro v4 w4 hown4 hg4 hv4; have O4 := Lib.hid hown4; have B4 := Lib.hid ((HO3.out.alloc (.cells #[.int .u8 ((37 : Nat) : Int), .int .u8 (dig p1 : Int), .int .u8 (dig p2 : Int)] 5)).drew.grown (HB3.out.alloc HB3.out.size _).drew hg4 (by have := HB3.out.size; simp; omega)); clear hown4 hg4 hv4)
              all_goals
                go_wp2_with fail
                go_roundw
                case rel => exact ⟨m + 1, by omega, by go_num, by show OwnB _ _ _ _ _; rw [TK.out, enc_snoc, EN.out, ← List.append_assoc]; exact O4.out, B4⟩
                case measure => simp [intOf]; omega
            · have q0 : (97 : Int) ≤ (y : Int) := by omega
              have q1 : ¬ (y : Int) ≤ 122 := by omega
              have q2 : (65 : Int) ≤ (y : Int) := by omega
              have q3 : ¬ (y : Int) ≤ 90 := by omega
              have q4 : (48 : Int) ≤ (y : Int) := by omega
              have q5 : ¬ (y : Int) ≤ 57 := by omega
              have q6 : ((y : Int) == 45) = false := by simp; omega
              have q7 : ((y : Int) == 46) = false := by simp; omega
              have q8 : ((y : Int) == 95) = false := by simp; omega
              have q9 : ((y : Int) == 126) = false := by simp; omega
              clear c0 c1 c2 c3 c4 c5 c6 d0 d1 d2
              go_wp2_with fail
              obtain ⟨p1, hp1⟩ : ∃ p, p = y / 16 := ⟨_, rfl⟩
              obtain ⟨p2, hp2⟩ : ∃ p, p = y % 16 := ⟨_, rfl⟩
              have l1 : p1 < 16 := by have := Y8.out; omega
              have l2 : p2 < 16 := by omega
              have T3 := Lib.hid (bts_three wr 37 (dig p1) (dig p2) (by omega) (by unfold dig; split <;> omega) (by unfold dig; split <;> omega) 5 (0, 0) _ rfl)
              have u1 := up_at p1 l1
              have u2 := up_at p2 l2
              have z1 : IntKind.u8.wrap ((y : Int) / 16) = (p1 : Int) := by show (y : Int) / 16 % 256 = _; have := Y8.out; omega
              have z2 : (y : Int).tmod 16 = (p2 : Int) := by rw [Int.tmod_eq_emod_of_nonneg (by omega)]; omega
              have z3 : (p1 : Int) < 16 := by omega
              have z4 : (p2 : Int) < 16 := by omega
              rw [← hp1, ← hp2] at EN
              clear hp1 hp2
              go_region_law (refine step_append_bts byteT _ rfl (.tmp 76) (.tmp 83) rfl w.heap.size _ _ ?q1 (HO3.out.alloc _).drew _ 3 3 [37, dig p1, dig p2] ?q2 T3.out.drew (by have := LEN.out; omega) (by have := HB3.out.size; simp; omega) ?_; (case q1 => simp [Act.eval]); (case q2 => simp [Act.eval]); intro v4 w4 hown4 hg4 hv4; have O4 := Lib.hid hown4; have B4 := Lib.hid ((HO3.out.alloc (.cells #[.int .u8 ((37 : Nat) : Int), .int .u8 (dig p1 : Int), .int .u8 (dig p2 : Int)] 5)).drew.grown (HB3.out.alloc HB3.out.size _).drew hg4 (by have := HB3.out.size; simp; omega)); clear hown4 hg4 hv4)
              all_goals
                go_wp2_with fail
                go_roundw
                case rel => exact ⟨m + 1, by omega, by go_num, by show OwnB _ _ _ _ _; rw [TK.out, enc_snoc, EN.out, ← List.append_assoc]; exact O4.out, B4⟩
                case measure => simp [intOf]; omega
            -- END
          · obtain rfl : m = s.size := by omega
            have x4 := x3 wr HB3.out
            have TA : Hid ((nums s).take s.size = nums s) := by show _ = _; rw [← HLN.out, List.take_length]
            have FK : Hid (form (txts (a.take (k + 1))) = form (txts (a.take k)) ++ [47] ++ enc (nums s)) := by
              show _ = _
              rw [E2.out, txts_app]
              show form (txts (a.take k) ++ [nums s]) = _
              rw [form_snoc, List.append_assoc]
              rfl
            have LEN : Hid ((form (txts (a.take (k + 1)))).length ≤ 200 * (k + 1)) := by
              have := enc_len (nums s)
              have h2 := HN.out
              rw [HLN.out] at this
              show _ ≤ _
              rw [FK.out, List.length_append, List.length_append, List.length_singleton]
              omega
            clear x3
            go_wp2_with fail
            go_roundw
            case rel => exact ⟨k + 1, by omega, by go_num, by show OwnB _ _ _ _ _; have h := HO3.out; rw [TA.out] at h; rw [FK.out]; exact h, HB3, LEN⟩
            case measure => simp [intOf]; omega
      · obtain rfl : k = n := by omega
        have TA : Hid (a.take k = a) := by show _ = _; rw [← hla.out, List.take_length]
        obtain ⟨A2, cap, rfl, hbt⟩ := HO.out.any
        have CV : (convert 35 9 (.slice A2 (form (txts (a.take k))).length cap)).run Tryd.prog wr = .ok (.string (strB (form (txts (a.take k))))) wr := hbt.toStr byteT Tryd.underlying9 cap
        have TX : Hid (text (txts a) = if form (txts (a.take k)) = [] then [47] else form (txts (a.take k))) := by show _ = _; unfold text; rw [← G.out, if_pos rfl, TA.out]
        obtain ⟨L, hL⟩ : ∃ L, L = form (txts (a.take k)) := ⟨_, rfl⟩
        rw [← hL] at CV TX ⊢
        by_cases h0 : L.length = 0
        · have h0i : ((L.length : Int) == 0) = true := by simp [h0]
          have F : Hid (text (txts a) = [47]) := by show _ = _; rw [TX.out, if_pos (List.eq_nil_of_length_eq_zero h0)]
          clear h0 hL hbt
          go_wp2_with fail
          go_ret
          exact ⟨by rw [F.out]; rfl, HB.out⟩
        · have h0i : ((L.length : Int) == 0) = false := by simp; intro e; exact h0 (by rw [e]; rfl)
          have F : Hid (text (txts a) = L) := by show _ = _; rw [TX.out, if_neg (fun e => h0 (by rw [e]; rfl))]
          clear h0 hL hbt
          go_wp2_with fail
          go_ret
          exact ⟨by rw [F.out]; rfl, HB.out⟩
end Go.Proofs.YtpnmddealjoiiaaDoor
