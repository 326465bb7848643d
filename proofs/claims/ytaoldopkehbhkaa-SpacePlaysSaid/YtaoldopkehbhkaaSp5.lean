/-
  space: the contracts of Make and Load.
-/
import Derived.Test.YtaoldopkehbhkaaSp4
namespace Go.Proofs.Ytaoldopkehbhkaa
open Go.RowKit Go.Maps Wal

theorem Set8.zero : Set8 (sec []) (fun _ => false) := ⟨Blk.zero, fun b hb => by
  rw [sec_short (l := []) (Nat.zero_le _), List.nil_append, List.getD_eq_getElem?_getD, List.getElem?_replicate]
  split <;> simp⟩
theorem Set8.congr {l : List Nat} {t t' : Nat → Bool} (h : Set8 l t) (e : ∀ b, b < 4096 → t b = t' b) : Set8 l t' := ⟨h.blk, fun b hb => (h.bit b hb).trans (e b hb)⟩
theorem Held.set {w : World} {q : Nat} {T : TypeId} {l : List Nat} (h : Held w q T (l.map u8v).toArray) (hl : l.length = 512) : SetAt w q 0 l :=
  ⟨fun i hi => by
    rw [Nat.zero_add, h.cell, List.getElem?_toArray, List.getElem?_map, List.getElem?_eq_getElem (by omega), List.getD_eq_getElem?_getD, List.getElem?_eq_getElem (by omega)]
    rfl, fun i _ => h.frozen _⟩
set_option maxRecDepth 100000 in
set_option maxHeartbeats 1600000 in
theorem smake_any (w : World) (P : PS) (t tm : Nat) (f : Nat → Option (List Nat)) (n : Nat) (hp : Pages w P t tm f) (hn : 2 ≤ n ∧ n ≤ 4096) :
    Calls Try.prog 6 #[ifc t, .int .i64 (n : Int)] w fun e w' => e = .returned (.int .i64 0) ∧ ∃ l, Set8 l (fun b => decide (b < 2)) ∧ Pages w' P t tm (upd f 0 l) ∧ Only [P.p, tm] w w' := by
  have G := Lib.hid (good_yes w t n hn)
  have HP := Lib.hid hp
  obtain ⟨hz, hi⟩ := zero_of_info zeroSet
  unfold blkV at hz
  clear hp hi
  unfold ifc at *
  go_enter Try.func6, Try.ntmps6
  go_wp2_with fail
  refine G.out.mono ?_
  rintro e w' ⟨rfl, rfl⟩
  go_upto_region 4 with fail
  obtain ⟨w1, hw1⟩ : ∃ w1, w1 = w.alloc (.cells ((sec []).map u8v).toArray 65) := ⟨_, rfl⟩
  obtain ⟨q, hq⟩ : ∃ q, q = w.heap.size := ⟨_, rfl⟩
  have BW : Hid (Below w.heap.size w w1) := by rw [hw1]; exact (Below.refl _ _).alloc (Nat.le_refl _) _
  have Q1 : Hid (SetAt w1 q 0 (sec []) ∧ w.heap.size ≤ q ∧ q < w1.heap.size) := ⟨by rw [hw1]; exact (Held.new _ _ _ hq).set (sec_length _), by omega, by rw [hw1]; simp; omega⟩
  rw [← hw1, ← hq]
  clear hw1 hq hz G
  go_wp2_with fail
  go_loopw [11] (fun i wr => ∃ k : Nat, ∃ l, k ≤ 2 ∧ i = .int .i64 (k : Nat) ∧ SetAt wr q 0 l ∧ Set8 l (fun b => decide (b < k)) ∧ Only [q] w1 wr) (fun i _ => 2 - (intOf i).toNat)
  case atStart => exact ⟨0, sec [], by omega, rfl, Q1.out.1, Set8.zero.congr (fun b _ => by simp), Only.refl _ _⟩
  case round =>
    obtain ⟨k, l, hk, rfl, hs, hl, ho⟩ := hrel
    have HS := Lib.hid hs
    have HL := Lib.hid hl
    have HO := Lib.hid ho
    clear hs hl ho
    by_cases hlt : k < 2
    · have hlt' : (k : Int) < 2 := by omega
      have AD := Lib.hid (sadd_any wr q 0 k l _ HS.out HL.out (by omega))
      go_wp2_with fail
      refine AD.out.mono ?_
      rintro e w2 ⟨rfl, ho2, _, l2, hs2, hl2⟩
      have R : Hid (SetAt w2 q 0 l2 ∧ Set8 l2 (fun b => decide (b < k + 1)) ∧ Only [q] w1 w2) := ⟨hs2, hl2.congr (fun b _ => by
        unfold putB
        split
        · subst_vars; simp
        · exact decide_eq_decide.2 (by omega)), HO.out.trans ho2 (fun x hx => .inl hx)⟩
      clear AD ho2 hs2 hl2
      go_wp2_with fail
      go_roundw
      case rel => exact ⟨k + 1, l2, by omega, by go_num, R.out.1, R.out.2.1, R.out.2.2⟩
      case measure => simp [intOf]; omega
    · obtain rfl : k = 2 := by omega
      have HQ : Hid (∀ x ∈ pfoot P t tm, x ∉ [q]) := fun x hx hm => by
        have h1 := HP.out.lt x hx
        have h2 := Q1.out.2.1
        have h3 : x = q := by simpa using hm
        omega
      have PW := (HP.out.under BW.out).only HO.out HQ.out
      have SW := swrite_any wr q 0 l P t tm f HS.out HL.out.blk PW
      have SW := Lib.hid SW
      have O1 : Hid (Only [P.p, tm] w wr) := (Only.of_below (F := [P.p, tm]) BW.out).trans HO.out (fun x hx => by
        have h3 : x = q := by simpa using hx
        have h2 := Q1.out.2.1
        exact .inr (by omega))
      clear PW
      unfold ifc at SW
      go_wp2_with fail
      refine SW.out.mono ?_
      rintro e w3 ⟨rfl, hp3, ho3⟩
      have R : Hid (Pages w3 P t tm (upd f 0 l) ∧ Only [P.p, tm] w w3) := ⟨hp3, O1.out.trans ho3 (fun x hx => .inl hx)⟩
      clear hp3 ho3 SW
      go_wp2_with fail
      go_ret
      exact ⟨rfl, l, HL.out, R.out.1, R.out.2⟩

theorem copy_set (w : World) (A : Option Addr) (c : Nat) (l : List Nat) (ty : TypeId) (hb : Bts w A 512 l) :
    (Builtin.copy_ #[48, 48] ty #[.slice (some ⟨w.heap.size, 0, none⟩) 512 512, .slice A 512 c]).run Try.prog (w.alloc (.cells ((sec []).map u8v).toArray 65)) = .ok (goInt 512) (w.alloc (.cells (l.map u8v).toArray 65)) := by
  obtain ⟨i, hi, _, hi1, _⟩ := info_parts info5
  have hs : (Try.prog.info? 5).map (·.size) = some 1 := by rw [hi]; simp [hi1]
  obtain ⟨b, o, rfl, hlt, hc⟩ := hb.2.2 (by omega)
  have hlen : (l.map u8v).length = 512 := by rw [List.length_map, hb.1]
  have := run_copy_row (P := Try.prog) (w.alloc (.cells ((sec []).map u8v).toArray 65)) 48 48 ty 5 w.heap.size 0 512 512 ⟨b, o, none⟩ 512 c ((sec []).map u8v).toArray 65 (l.map u8v) Try.underlying48 hs (heap_alloc_last w _)
    (by rw [hlen]; rfl) (fun j v hv => by
      have h1 := hb.at_ rfl j v hv
      have h2 : (w.alloc (.cells ((sec []).map u8v).toArray 65)).cell? ((⟨b, o, none⟩ : Addr).add j) = w.cell? ((⟨b, o, none⟩ : Addr).add j) := World.cell?_alloc_lt _ _ _ (by
        have : ((⟨b, o, none⟩ : Addr).add j).block = b := by unfold Addr.add; split <;> rfl
        rw [this]; exact hlt)
      rw [h2]
      exact h1) (by rw [hlen]; simp [sec_length]) (fun v hv => by obtain ⟨x, _, rfl⟩ := List.mem_map.1 hv; rfl)
  rw [hlen, World.setRow_alloc_new] at this
  rw [this]
  have e : (((sec []).map u8v).toArray.toList.take 0 ++ l.map u8v ++ ((sec []).map u8v).toArray.toList.drop (0 + 512)) = l.map u8v := by
    rw [List.take_zero, List.nil_append, Nat.zero_add, List.drop_of_length_le (by simp [sec_length]), List.append_nil]
  rw [e]
  rfl
theorem foldl_at (o : Nat) : ∀ (L : List Value) (C : Array Value) (k i : Nat), (List.foldl (fun (cs : Array Value) (x : Value × Nat) => cs.setIfInBounds (o + x.snd) x.fst) C (L.zipIdx k))[i]? = if o + k ≤ i ∧ i < o + k + L.length ∧ i < C.size then L[i - (o + k)]? else C[i]?
  | [], C, k, i => by
    rw [if_neg (by simp; omega)]
    rfl
  | v :: r, C, k, i => by
    rw [List.zipIdx_cons, List.foldl_cons, foldl_at o r]
    simp only [Array.size_setIfInBounds, List.length_cons]
    by_cases e : i = o + k
    · subst e
      rw [if_neg (by omega)]
      by_cases hs : o + k < C.size
      · rw [if_pos (by omega), Array.getElem?_setIfInBounds_self_of_lt hs]
        simp
      · rw [if_neg (by omega), Array.getElem?_eq_none (by simpa using hs), Array.getElem?_eq_none (by simpa using hs)]
    · rw [Array.getElem?_setIfInBounds_ne (fun h => e h.symm)]
      by_cases h1 : o + (k + 1) ≤ i ∧ i < o + (k + 1) + r.length ∧ i < C.size
      · rw [if_pos h1, if_pos (by omega), show i - (o + k) = (i - (o + (k + 1))) + 1 by omega]
        rfl
      · rw [if_neg h1, if_neg (by omega)]
theorem mapSize : Try.zeroCells69.size = 1025 := by decide +kernel
theorem foldl_size (o : Nat) : ∀ (L : List (Value × Nat)) (C : Array Value), (List.foldl (fun (cs : Array Value) (x : Value × Nat) => cs.setIfInBounds (o + x.snd) x.fst) C L).size = C.size
  | [], _ => rfl
  | x :: r, C => by rw [List.foldl_cons, foldl_size o r]; simp
theorem built_map (w : World) (n : Nat) (l : List Nat) (hl : l.length = 512) (C : Array Value) (hC : C = List.foldl (fun (cs : Array Value) (x : Value × Nat) => cs.setIfInBounds (513 + x.snd) x.fst) (List.foldl (fun (cs : Array Value) (x : Value × Nat) => cs.setIfInBounds (1 + x.snd) x.fst) (Try.zeroCells69.setIfInBounds 0 (.int .i64 (n : Int))) (l.map u8v).zipIdx) (l.map u8v).zipIdx) :
    SMap (w.alloc (.cells C 69)) w.heap.size n l l := by
  have hz := mapSize
  have hH : Held (w.alloc (.cells C 69)) w.heap.size 69 C := Held.new _ _ _ rfl
  have hv : ∀ j, j < 512 → (l.map u8v)[j]? = some (u8v (l.getD j 0)) := fun j hj => by
    rw [List.getElem?_map, List.getElem?_eq_getElem (by omega), List.getD_eq_getElem?_getD, List.getElem?_eq_getElem (by omega)]
    rfl
  refine ⟨?_, ⟨fun i hi => ?_, fun i _ => hH.frozen _⟩, ⟨fun i hi => ?_, fun i _ => hH.frozen _⟩⟩
  · rw [hH.cell, hC, foldl_at, if_neg (by omega), foldl_at, if_neg (by omega), Array.getElem?_setIfInBounds_self_of_lt (by omega)]
  · rw [hH.cell, hC, foldl_at, if_neg (by omega), foldl_at, if_pos (by simp [hl, hz]; omega), show 1 + i - (1 + 0) = i by omega, hv i hi]
  · rw [hH.cell, hC, foldl_at, if_pos (by rw [foldl_size]; simp [hl, hz]; omega), show 513 + i - (513 + 0) = i by omega, hv i hi]
/-- What Load answers: a map, or none. -/
def Loaded (w : World) (P : PS) (t tm : Nat) (f : Nat → Option (List Nat)) (n : Nat) (l : List Nat) (s : Nat → Bool) (e : Ending) (w' : World) : Prop :=
  Pages w' P t tm f ∧ Only [P.p] w w' ∧
  (((∀ b, b < 4096 → n ≤ b → s b = false) ∧ s 0 = true ∧ s 1 = true) → ∃ m, e = .returned (.tuple #[.pointer (some ⟨m, 0, none⟩), .int .i64 0]) ∧ w.heap.size ≤ m ∧ SMap w' m n l l) ∧
  (¬ ((∀ b, b < 4096 → n ≤ b → s b = false) ∧ s 0 = true ∧ s 1 = true) → e = .returned (.tuple #[.pointer none, .int .i64 11]))
set_option maxRecDepth 100000 in
set_option maxHeartbeats 1600000 in
theorem sload_any (w : World) (P : PS) (t tm : Nat) (f : Nat → Option (List Nat)) (n : Nat) (l : List Nat) (s : Nat → Bool) (hp : Pages w P t tm f) (hl : Set8 l s) (hg : P.got f 0 = l) (hn : 2 ≤ n ∧ n ≤ 4096) :
    Calls Try.prog 7 #[ifc t, .int .i64 (n : Int)] w (Loaded w P t tm f n l s) := by
  have G := Lib.hid (good_yes w t n hn)
  have HP := Lib.hid hp
  have HL := Lib.hid hl
  have TR := Lib.hid (tread_any w P t tm f 0 hp.pag hp.tx hp.n hp.dead hp.mdead)
  rw [hg] at TR
  obtain ⟨hz, hi⟩ := zero_of_info zeroSet
  unfold blkV at hz
  have hn9 : (n : Int) ≤ 4096 := by omega
  have HN : Hid (2 ≤ n) := hn.1
  clear hp hi hl hg hn
  unfold ifc at *
  go_enter Try.func7, Try.ntmps7
  go_wp2_with fail
  refine G.out.mono ?_
  rintro e w' ⟨rfl, rfl⟩
  clear G
  go_wp2_with fail
  rw [meets_read]
  case hn => kernel_rfl
  go_simp
  refine TR.out.mono ?_
  rintro e w1 ⟨⟨⟨q, T, rfl, hq, hh⟩, hp1, ho1⟩, hk1⟩
  have e5 : ({ P with dead := false } : PS) = P := by rw [← HP.out.dead]
  rw [e5] at hp1
  have P1 : Hid (Pages w1 P t tm f ∧ Only [P.p] w w1) := ⟨⟨hp1, hk1, HP.out.dead, HP.out.mdead, HP.out.n⟩, ho1⟩
  have Q1 : Hid (Held w1 q T (l.map u8v).toArray ∧ w.heap.size ≤ q) := ⟨hh, hq⟩
  have EN := Lib.hid (end_any w1 q T 512 l s hh HL.out)
  clear hp1 ho1 hk1 hh hq e5 TR
  go_wp2_with fail
  refine EN.out.mono ?_
  rintro e w2 ⟨⟨e, rfl, hE⟩, rfl⟩
  have HE := Lib.hid hE
  have he9 : (e : Int) ≤ 4096 := by have := hE.most; omega
  clear hE EN
  by_cases hen : (e : Int) > (n : Int)
  · have R : Hid (¬ ((∀ b, b < 4096 → n ≤ b → s b = false) ∧ s 0 = true ∧ s 1 = true)) := fun h => by
      rcases HE.out.on with h1 | h1
      · omega
      · have := h.1 (e - 1) (by have := HE.out.most; omega) (by omega)
        rw [h1] at this
        cases this
    go_wp2_with fail
    go_ret2
    exact ⟨P1.out.1, P1.out.2, fun h => absurd h R.out, fun _ => rfl⟩
  · have HB : Hid (∀ b, b < 4096 → n ≤ b → s b = false) := fun b h1 h2 => HE.out.off b (by omega) h1
    have hen2 : ¬ n < e := by omega
    have cp := fun ty => copy_set w1 (some ⟨q, 0, none⟩) 512 l ty (Q1.out.1.bts HL.out.blk)
    go_upto_region 10 with fail
    obtain ⟨w2, hw2⟩ : ∃ w2, w2 = w1.alloc (.cells (l.map u8v).toArray 65) := ⟨_, rfl⟩
    obtain ⟨g, hg⟩ : ∃ g, g = w1.heap.size := ⟨_, rfl⟩
    have BW : Hid (Below w1.heap.size w1 w2) := by rw [hw2]; exact (Below.refl _ _).alloc (Nat.le_refl _) _
    have G2 : Hid (SetAt w2 g 0 l ∧ w.heap.size ≤ g) := ⟨by rw [hw2]; exact (Held.new _ _ _ hg).set HL.out.blk.len, by have := P1.out.2.size; omega⟩
    rw [← hw2, ← hg]
    clear hw2 hg cp hz
    go_wp2_with fail
    go_loopw [29] (fun i wr => ∃ k : Nat, k ≤ 2 ∧ i = .int .i64 (k : Nat) ∧ (∀ b, b < k → s b = true) ∧ ∃ q', wr = w2.drewN q') (fun i _ => 2 - (intOf i).toNat)
    case atStart => exact ⟨0, by omega, rfl, fun b h => by omega, 0, rfl⟩
    case round =>
      obtain ⟨k, hk, rfl, hz, q', hq'⟩ := hrel
      have HZ := Lib.hid hz
      have HQ' := Lib.hid hq'
      have GR : Hid (SetAt wr g 0 l) := by rw [hq']; exact G2.out.1.drewN q'
      have PR : Hid (Pages wr P t tm f ∧ Only [P.p] w wr) := by
        rw [hq']
        exact ⟨(P1.out.1.under BW.out).drewN q', ((P1.out.2.trans (Only.of_below (F := []) BW.out) (fun _ hx => by cases hx))).drewN q'⟩
      clear hz hq'
      by_cases hlt : k < 2
      · have hlt' : (k : Int) < 2 := by omega
        have HA := Lib.hid (shas_any wr g 0 k l s GR.out HL.out (by omega))
        cases hsk : s k with
        | true =>
          rw [hsk] at HA
          have R : Hid (∀ b, b < k + 1 → s b = true) := fun b hb => by
            by_cases e : b = k
            · rw [e]; exact hsk
            · exact HZ.out b (by omega)
          clear hsk
          go_wp2_with fail
          refine HA.out.mono ?_
          rintro e2 w4 ⟨rfl, q4, rfl⟩
          go_wp2_with fail
          go_roundw
          case rel => exact ⟨k + 1, by omega, by go_num, R.out, _, by rw [HQ'.out]; exact World.drewN_drewN _ _ _⟩
          case measure => simp [intOf]; omega
        | false =>
          rw [hsk] at HA
          have R : Hid (¬ ((∀ b, b < 4096 → n ≤ b → s b = false) ∧ s 0 = true ∧ s 1 = true)) := fun h => by
            have h2 : k = 0 ∨ k = 1 := by omega
            rcases h2 with rfl | rfl
            · rw [h.2.1] at hsk; cases hsk
            · rw [h.2.2] at hsk; cases hsk
          clear hsk
          go_wp2_with fail
          refine HA.out.mono ?_
          rintro e2 w4 ⟨rfl, q4, rfl⟩
          go_wp2_with fail
          go_ret2
          exact ⟨PR.out.1.drewN q4, PR.out.2.drewN q4, fun h => absurd h R.out, fun _ => rfl⟩
      · obtain rfl : k = 2 := by omega
        have OK : Hid ((∀ b, b < 4096 → n ≤ b → s b = false) ∧ s 0 = true ∧ s 1 = true) := ⟨HB.out, HZ.out 0 (by omega), HZ.out 1 (by omega)⟩
        have hsz : Hid ((Try.prog.info? 65).map (·.size) = some (l.map u8v).length) := by show _ = _; rw [List.length_map, HL.out.blk.len]; exact (zero_of_info zeroSet).2
        have hlen := HL.out.blk.len
        have rg := GR.out.range hlen
        have hzs := mapSize
        have hfs : ∀ (L : List (Value × Nat)) (C : Array Value), (List.foldl (fun (cs : Array Value) (x : Value × Nat) => cs.setIfInBounds (1 + x.snd) x.fst) C L).size = C.size := foldl_size 1
        go_wp2_with fail
        refine wp_load_mid _ _ rfl g 0 rfl (l.map u8v) _ rg Try.underlying65 rfl hsz.out ?_
        go_wp2_with fail
        refine wp_load_mid _ _ rfl g 0 rfl (l.map u8v) _ rg Try.underlying65 rfl hsz.out ?_
        go_wp2_with fail
        obtain ⟨C, hC⟩ : ∃ C, C = List.foldl (fun (cs : Array Value) (x : Value × Nat) => cs.setIfInBounds (513 + x.snd) x.fst) (List.foldl (fun (cs : Array Value) (x : Value × Nat) => cs.setIfInBounds (1 + x.snd) x.fst) (Try.zeroCells69.setIfInBounds 0 (.int .i64 (n : Int))) (l.map u8v).zipIdx) (l.map u8v).zipIdx := ⟨_, rfl⟩
        rw [← hC]
        have SM : Hid (SMap (wr.alloc (.cells C 69)) wr.heap.size n l l) := built_map wr n l hlen C hC
        have hs : Hid (w.heap.size ≤ wr.heap.size) := PR.out.2.size
        clear hC
        go_ret2
        exact ⟨PR.out.1.under ((Below.refl _ _).alloc (Nat.le_refl _) _), PR.out.2.alloc _, fun _ => ⟨_, rfl, hs.out, SM.out⟩, fun h => absurd OK.out h⟩
end Go.Proofs.Ytaoldopkehbhkaa
