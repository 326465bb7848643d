/-
  P3.2, P3.5: opening changes nothing: however often a log is opened, and the disk crashes between, the same is told: the law answers true for every input, and its arguments read behind the call as before. No condition beside the row's own.
-/
import Derived.Test.YtacpgahbfmpiiaaMTold
namespace Go.Proofs.Ytacpgahbfmpiiaa.walStill
open Go.ChangeShapes Go.WideShapes Go.ChangeAt Go.RowKit Wal

theorem own : ownKnob Try.prog.godebug = none := by kernel_rfl
theorem laidOut : laidOutB Try.prog = true := by kernel_rfl

/-- While the batches are appended. -/
structure Fills (w wr : World) (Ls : List (List ByteArray)) (wv : Value) (vs : List Value) (i : Nat) (b : Nat) (G : List Nat) (s : LS) (d : Nat) (F : List Nat) (m : Dsk.DM) : Prop where
  lives : LLives w wr b G s d F m
  inv : Wal.Inv s m (Ls.map txts)
  fuel : m.fuel = -1
  wait : m.wait.length ≤ 1209 * i
  frm : s.frm = 0
  ring : s.ring = 39
  first : s.first = 1
  size : m.dur.length = 40
  list : ListAt w wr wv vs Ls
  far : ∀ y, wv.ownBlock = some y → y ∉ G ++ F
/-- While it is opened again and again. -/
structure Stays (w wr : World) (Ls : List (List ByteArray)) (wv : Value) (vs : List Value) (r : Nat) (st : Nat) (d : Nat) (F : List Nat) (m : Dsk.DM) : Prop where
  lives : Lives w wr d F m
  safe : ∀ kp, Wal.Found 0 39 (holds (Dsk.crashD m.wait kp m.dur)) st 1 Ls.length (Ls.map txts)
  dead : m.dead = false
  size : m.dur.length = 40
  cell : wr.cell? ⟨r, 1, none⟩ = some wv
  rlt : r < wr.heap.size
  rfar : r ∉ F
  rnew : w.heap.size ≤ r
  list : ListAt w wr wv vs Ls
  far : ∀ y, wv.ownBlock = some y → y ∉ F
  wait : m.wait.length ≤ 1000000

theorem map_back (Ls : List (List ByteArray)) : (Ls.map txts).map toStrs = Ls := by
  rw [List.map_map]
  conv => rhs; rw [← List.map_id Ls]
  exact List.map_congr_left fun l _ => toStrs_txts l

set_option maxRecDepth 100000 in
set_option maxHeartbeats 6400000 in
theorem walk (v : Value) (Ts : List (List ByteArray)) (A : Option Addr) (n c : Nat) (keep : List Bool) (w : World) (hT : TextsR w v Ts) (hTl : Ts.length ≤ 5864062014806) (hTe : ∀ l ∈ Ts, l.length ≤ 8796093022208) (hK : Bls w A n keep) (hn : n ≤ 9223372036854775807) (hA : 0 < n → ∀ a, A = some a → a.block < w.heap.size) :
    Calls Try.prog 10 #[v, .slice A n c] w fun e w' => e = .returned (.bool true) ∧ Below w.heap.size w w' := by
  have HT := Lib.hid hT
  have HK := Lib.hid hK
  have HA := Lib.hid hA
  have HTE := Lib.hid hTe
  obtain ⟨AT, cT, hv, _⟩ := hT
  subst hv
  obtain ⟨N, hN⟩ : ∃ N, N = Ts.length := ⟨_, rfl⟩
  have EN := Lib.hid hN
  rw [← hN] at hTl HT ⊢
  have hN9 : (N : Int) ≤ 5864062014806 := by omega
  clear hK hA hTe hN hTl
  go_enter Try.func10, Try.ntmps10
  go_wp2_with fail
  refine (fixed_any _).mono ?_
  rintro e w1 ⟨rfl, hbel⟩
  have BF := Lib.hid hbel
  clear hbel
  by_cases hbig : 60 < N
  · have hbig' : (60 : Int) < (N : Int) := by omega
    go_wp2_with fail
    refine (fixed_any _).mono ?_
    rintro e w2 ⟨rfl, hbel⟩
    have BG := Lib.hid (BF.out.trans (hbel.mono BF.out.size))
    clear hbel
    go_wp2_with fail
    go_ret
    exact ⟨rfl, BG.out⟩
  · have hbig' : (N : Int) ≤ 60 := by omega
    go_wp2_with fail
    refine (new_any _ 40).mono ?_
    intro e w2 hm
    obtain ⟨d, F, rfl, hL⟩ := hm.lives
    have e0 : Dsk.fresh (clampN 40) = Dsk.fresh 40 := rfl
    rw [e0] at hL
    have L2 : Hid (Lives w w2 d F (Dsk.fresh 40)) := ⟨hL.disk, BF.out.trans (hL.below.mono BF.out.size), fun x hx => Nat.le_trans BF.out.size (hL.new x hx)⟩
    clear hm hL BF e0
    obtain ⟨m1, em, im, wm, lm, fm, _⟩ := inv_make (m := Dsk.fresh 40) (frm := 0) (n := 40) (by simp [Dsk.fresh]) rfl (by omega) (by simp [Dsk.fresh]) rfl
    have MK := Lib.hid (make_any w2 d F _ 0 40 L2.out.disk (by decide) (by simp [Dsk.fresh]))
    rw [em] at MK
    go_wp2_with fail
    refine MK.out.mono ?_
    intro e w3 hm
    obtain ⟨b, G3, F3, rfl, hL, _, _⟩ := hm.ok rfl L2.out
    have L3 : Hid (Fills w w3 [] (.slice none 0 0) [] 0 b G3 (openS 0 39 0 1 0 []) d F3 m1) := ⟨hL, im, fm, by rw [wm]; exact Nat.le_refl _, rfl, rfl, rfl, lm.trans (by simp [Dsk.fresh]), ListAt.nil _ _, fun y hy => by cases hy⟩
    clear hm hL MK L2 em im wm lm fm
    go_wp2_with fail
    go_loopw [8, 9] (fun wv iv wr => ∃ i Ls vs s G F m, i ≤ N ∧ iv = .int .i64 (i : Nat) ∧ Ls.length ≤ i ∧ Fills w wr Ls wv vs i b G s d F m) (fun _ iv _ => N - (intOf iv).toNat)
    case atStart => exact ⟨0, [], [], _, G3, F3, m1, by omega, rfl, by simp, L3.out⟩
    case round =>
      obtain ⟨i, Ls, vs, s, G, F, m, hi, rfl, hLi, hf⟩ := hrel
      have FL := Lib.hid hf
      clear hf L3
      by_cases hlt : i < N
      · obtain ⟨g, off, c', l, A', cl, hvv, hg, hl, hcell, hst⟩ := HT.out.at_ (k := i) (by rw [← EN.out]; exact hlt)
        have e1 : AT = some ⟨g, off, none⟩ := by injection hvv
        clear hvv
        subst e1
        have hc1 : wr.cell? ⟨g, off + i, none⟩ = some (.slice A' l.length cl) := (FL.out.lives.below.cell (p := ⟨g, off + i, none⟩) hg).trans hcell
        have ST := Lib.hid hst
        have hll : l.length ≤ 8796093022208 := HTE.out l (List.mem_of_getElem? hl)
        have AP := Lib.hid (append_any wr b d s G F m A' l.length cl l FL.out.lives.ld FL.out.inv.ok (hst.below FL.out.lives.below) (by omega) (fun h0 x hx hm => by
          obtain ⟨g', off', e, hg', _⟩ := hst.2.2 h0
          rw [hx] at e
          injection e with e
          subst e
          have := FL.out.lives.new _ hm
          dsimp only at this
          omega) (by have := FL.out.wait; omega))
        clear hst
        by_cases hgood : Wal.good (txts l) = true ∧ (need (txts l) : Int) ≤ s.room
        · rcases FL.out.inv.append hgood.1 (txts_bytes l) hgood.2 (by rw [FL.out.fuel]; omega) with ⟨m2, e2, i2, d2, f2, w2', _⟩ | ⟨_, _, _, hf9, _⟩
          rotate_left
          · exact absurd FL.out.fuel hf9
          rw [e2] at AP
          have hn9 := need_of_good hgood.1
          obtain ⟨la, hla⟩ : ∃ la, la = s.last + 1 := ⟨_, rfl⟩
          rw [← hla] at AP
          have I2 : Hid (Wal.Inv { s with needs := s.needs ++ [need (txts l)] } m2 ((Ls ++ [l]).map txts)) := by rw [List.map_append]; exact i2
          have X2 : Hid (m2.fuel = -1 ∧ m2.wait.length ≤ 1209 * (i + 1) ∧ m2.dur.length = 40) := ⟨by rw [f2, FL.out.fuel]; rfl, by rw [w2']; have := FL.out.wait; omega, by rw [d2]; exact FL.out.size⟩
          clear e2 i2 d2 f2 w2' hn9 hla hgood
          go_wp2_with fail
          refine AP.out.mono ?_
          rintro e w5 ⟨rfl, ht⟩
          obtain ⟨G5, F5, hL, hO, hGr⟩ := FL.out.lives.turned ht
          have L5 := Lib.hid hL
          have T5 := Lib.hid (FL.out.list.only hO (fun y hy => FL.out.far y hy))
          have R5 : Hid (∀ y, u8.ownBlock = some y → y ∉ G5 ++ F5) := fun y hy hm => by
            rcases hGr y hm with h | h
            · exact FL.out.far y hy h
            · have := (FL.out.list.row.lt y hy).2; omega
          have hc5 : w5.cell? ⟨g, off + i, none⟩ = some (.slice A' l.length cl) := (L5.out.below.cell (p := ⟨g, off + i, none⟩) hg).trans hcell
          clear ht hL hO hGr AP hc1 hcell
          have BA : Hid (Below w5.heap.size w5 (w5.alloc (.cells #[.slice A' l.length cl] 36))) := (Below.refl _ _).alloc (Nat.le_refl _) _
          have RA : Hid ((w5.alloc (.cells #[.slice A' l.length cl] 36)).ownsRow w.heap.size 36 1 u8 Ls.length vs) := (Only.of_below (F := []) BA.out).row T5.out.row (fun _ _ hx => by cases hx)
          have QA : Hid ((w5.alloc (.cells #[.slice A' l.length cl] 36)).cell? ⟨w5.heap.size, 0, none⟩ = some (.slice A' l.length cl)) := (Held.new w5 36 #[.slice A' l.length cl] rfl).cell 0
          have LA : Hid (w.heap.size ≤ (w5.alloc (.cells #[.slice A' l.length cl] 36)).heap.size) := by show _ ≤ _; rw [World.size_alloc]; have := L5.out.below.size; omega
          have LL := Lib.hid (L5.out.under BA.out)
          have hkk : Ls.length ≤ 1000000000 := by omega
          go_wp2_with (refine wpList_append_batch rfl (o := ⟨some 56, _, _, _, _, _⟩) (.tmp 50) (.tmp 55) w.heap.size rfl u8 _ vs rfl RA.out w5.heap.size 1 A' l.length cl rfl QA.out hkk LA.out ?_; intro v6 w6 r1 r2 r3)
          have O6 : Only u8.ownBlock.toList (w5.alloc (.cells #[.slice A' l.length cl] 36)) w6 := (Only.refl _ _).grown r2 (fun k hk => .inl (by simp [hk]))
          have L6 := Lib.hid (LL.out.own O6 (fun x hx => by
            have hx' : u8.ownBlock = some x := by simpa using hx
            exact ⟨(RA.out.lt x hx').1, R5.out x hx'⟩))
          have T6 := Lib.hid (ListAt.push (w0 := w) ⟨RA.out, T5.out.each⟩ ST.out r1)
          have R6 : Hid (∀ y, v6.ownBlock = some y → y ∉ G5 ++ F5) := fun y hy => by
            rcases r3 with h | h
            · rw [h] at hy
              exact R5.out y hy
            · rw [h] at hy
              injection hy with hy
              rw [← hy]
              exact LL.out.far (Nat.le_refl _)
          clear O6 r1 r2 r3 LL RA QA LA BA
          go_roundw
          case rel => exact ⟨i + 1, Ls ++ [l], vs ++ [.slice A' l.length cl], _, G5, F5, m2, by omega, by go_num, by simp; omega, ⟨L6.out, I2.out, X2.out.1, X2.out.2.1, FL.out.frm, FL.out.ring, FL.out.first, X2.out.2.2, T6.out, R6.out⟩⟩
          case measure => simp [intOf]; omega
        · obtain ⟨z, hz, hz0⟩ : ∃ z : Int, appendO s m (txts l) = (0, z, s, m) ∧ (z = 1 ∨ z = 12) := by
            by_cases hg : Wal.good (txts l) = true
            · exact ⟨12, FL.out.inv.append_full hg (by have : ¬ (need (txts l) : Int) ≤ s.room := fun h => hgood ⟨hg, h⟩; omega), .inr rfl⟩
            · exact ⟨1, FL.out.inv.append_bad (by simpa using hg), .inl rfl⟩
          rw [hz] at AP
          clear hz hgood
          have hz1 : (z == 0) = false := by rcases hz0 with rfl | rfl <;> rfl
          clear hz0
          go_wp2_with fail
          refine AP.out.mono ?_
          rintro e w5 ⟨rfl, ht⟩
          obtain ⟨G5, F5, hL, hO, hGr⟩ := FL.out.lives.turned ht
          have L5 := Lib.hid hL
          have T5 := Lib.hid (FL.out.list.only hO (fun y hy => FL.out.far y hy))
          have R5 : Hid (∀ y, u8.ownBlock = some y → y ∉ G5 ++ F5) := fun y hy hm => by
            rcases hGr y hm with h | h
            · exact FL.out.far y hy h
            · have := (FL.out.list.row.lt y hy).2; omega
          clear ht hL hO hGr AP hc1 hcell
          go_wp2_with fail
          go_roundw
          case rel => exact ⟨i + 1, Ls, vs, s, G5, F5, m, by omega, by go_num, by omega, ⟨L5.out, FL.out.inv, FL.out.fuel, by have := FL.out.wait; omega, FL.out.frm, FL.out.ring, FL.out.first, FL.out.size, T5.out, R5.out⟩⟩
          case measure => simp [intOf]; omega
      · obtain rfl : i = N := by omega
        have SY := Lib.hid (sync_any wr b d s G F m FL.out.lives.ld FL.out.inv.ok (by have := FL.out.wait; omega))
        rcases FL.out.inv.sync with ⟨m3, e3, i3, w3, d3, f3, _⟩ | ⟨_, _, _, hf9, _⟩
        rotate_left
        · exact absurd FL.out.fuel hf9
        rw [e3] at SY
        have hln : (Ls.map txts).length = Ls.length := List.length_map _
        have F3 : Hid (∀ kp, Wal.Found 0 39 (holds (Dsk.crashD m3.wait kp m3.dur)) s.start 1 Ls.length (Ls.map txts)) := fun kp => by
          have h9 := i3.safe kp
          have e1 : s.first + (Ls.map txts).length - 1 = Ls.length := by rw [hln, FL.out.first]; omega
          have e2 : ({ s with synced := s.first + (Ls.map txts).length - 1 } : LS).synced = Ls.length := e1
          rw [e2] at h9
          have h9 : Wal.Found s.frm s.ring (holds (Dsk.crashD m3.wait kp m3.dur)) s.start s.first Ls.length ((Ls.map txts).take (Ls.length + 1 - s.first)) := h9
          rw [FL.out.frm, FL.out.ring, FL.out.first, show Ls.length + 1 - 1 = (Ls.map txts).length by rw [hln]; omega, List.take_length] at h9
          exact h9
        have X3 : Hid (m3.dead = false ∧ m3.dur.length = 40 ∧ m3.wait.length ≤ 1000000) := ⟨i3.alive, d3.trans FL.out.size, by have := FL.out.wait; omega⟩
        have hL9 : Ls.length ≤ 60 := by omega
        clear e3 i3 w3 d3 f3 hln hlt
        go_wp2_with fail
        refine SY.out.mono ?_
        rintro e w5 ⟨rfl, ht⟩
        obtain ⟨G5, F5, hL, hO, hGr⟩ := FL.out.lives.turned ht
        have L5 := Lib.hid hL.lives
        have T5 := Lib.hid (FL.out.list.only hO (fun y hy => FL.out.far y hy))
        have R5 : Hid (∀ y, u8.ownBlock = some y → y ∉ F5) := fun y hy hm => by
          rcases hGr y (List.mem_append.2 (.inr hm)) with h | h
          · exact FL.out.far y hy h
          · have := (FL.out.list.row.lt y hy).2; omega
        obtain ⟨AW, cW, hwv⟩ := own_slice FL.out.list.row
        subst hwv
        clear ht hL hO hGr SY FL
        go_wp2_with fail
        obtain ⟨wb, hwb⟩ : ∃ wb, wb = w5.alloc (.cells #[.int .i64 0, .slice AW Ls.length cW, .int .i64 0, .int .i64 0] 35) := ⟨_, rfl⟩
        obtain ⟨r, hr⟩ : ∃ r, r = w5.heap.size := ⟨_, rfl⟩
        obtain ⟨st, hst⟩ : ∃ st, st = s.start := ⟨_, rfl⟩
        have S5 : Hid (Stays w wb Ls (.slice AW Ls.length cW) vs r st d F5 m3) := by
          have hb : Below w5.heap.size w5 wb := by rw [hwb]; exact (Below.refl _ _).alloc (Nat.le_refl _) _
          refine ⟨L5.out.under hb, by rw [hst]; exact F3.out, X3.out.1, X3.out.2.1, ?_, ?_, L5.out.far r (by omega), by rw [hr]; exact L5.out.below.size, T5.out.only (Only.of_below (F := []) hb) (fun _ _ hx => by cases hx), R5.out, X3.out.2.2⟩
          · rw [hwb, hr, World.cell?_alloc_new]
            rfl
          · rw [hwb, hr, World.size_alloc]
            omega
        rw [← hwb, ← hr]
        clear hwb hr hst L5 T5 R5 F3 X3
        go_loopw [13] (fun iv wr => ∃ j F m, j ≤ 3 ∧ iv = .int .i64 (j : Nat) ∧ Stays w wr Ls (.slice AW Ls.length cW) vs r st d F m) (fun iv _ => 3 - (intOf iv).toNat)
        case atStart => exact ⟨0, F5, m3, by omega, rfl, S5.out⟩
        case round =>
          obtain ⟨j, F6, m, hj, rfl, hs⟩ := hrel
          have SS := Lib.hid hs
          clear hs S5
          by_cases hlt : j < 3
          · have hj' : (j : Int) < 3 := by omega
            have FO : Wal.Found 0 (40 - 1) (holds m.seen) st 1 Ls.length (Ls.map txts) := by
              have h9 := SS.out.safe (List.replicate m.wait.length true)
              rwa [← Dsk.apply_eq_crashD] at h9
            have OP := Lib.hid (open_any wr d F6 m 0 40 st 1 Ls.length (Ls.map txts) SS.out.lives.disk (by rw [SS.out.size]; decide) SS.out.dead FO (by omega))
            go_wp2_with fail
            refine OP.out.mono ?_
            intro e w6 ho
            obtain ⟨b6, v6, vs6, G6, F7, rfl, hL, hO, hGr, hrows, hfar⟩ := ho.own SS.out.lives
            have hin : ∀ x, x < wr.heap.size → x ∉ F6 → x ∉ G6 ++ F7 := fun x hx hx2 hm => by
              rcases hGr x hm with h | h
              · exact hx2 h
              · omega
            have c6 : w6.cell? ⟨r, 1, none⟩ = some (.slice AW Ls.length cW) := (hO.cell (p := ⟨r, 1, none⟩) SS.out.rlt SS.out.rfar).trans SS.out.cell
            have T6 := Lib.hid (SS.out.list.only hO SS.out.far)
            have L6 := Lib.hid hL.lives
            have TG : TextsR w6 v6 Ls := by
              have h9 := hrows.texts (fun B hB => by
                obtain ⟨l, hl, rfl⟩ := List.mem_map.1 hB
                have hg : Wal.good (txts l) = true := by
                  obtain ⟨k, hk⟩ := List.mem_iff_getElem?.1 hB
                  exact (FO.lies k _ hk).good
                unfold Wal.good at hg
                simp only [Bool.and_eq_true, decide_eq_true_eq, List.all_eq_true] at hg
                exact ⟨fun r hr => by have := hg.1.1 r hr; omega, txts_bytes l⟩)
              rwa [map_back] at h9
            have hcc : ∀ l ∈ Ls, l.length ≤ 4611686018427387904 := fun l hl => by
              have hg : Wal.good (txts l) = true := by
                obtain ⟨k, hk⟩ := List.mem_iff_getElem?.1 (List.mem_map.2 ⟨l, hl, rfl⟩ : txts l ∈ Ls.map txts)
                exact (FO.lies k _ hk).good
              unfold Wal.good at hg
              simp only [Bool.and_eq_true, decide_eq_true_eq, txts_length] at hg
              omega
            have TD := Lib.hid (told_any w6 r v6 (.slice AW Ls.length cW) Ls Ls 1 Ls.length c6 TG (T6.out.texts L6.out.below) rfl (Nat.le_refl _) (Nat.le_refl _) (by omega) (fun i l hl => by
              rw [Nat.sub_self, Nat.zero_add]
              exact hl) hcc)
            have X6 : Hid (r < w6.heap.size ∧ r ∉ F7 ∧ ∀ y, (Value.slice AW Ls.length cW).ownBlock = some y → y ∉ F7) := ⟨Nat.lt_of_lt_of_le SS.out.rlt hO.size, fun hm => hin r SS.out.rlt SS.out.rfar (List.mem_append.2 (.inr hm)), fun y hy hm => hin y (SS.out.list.row.lt y hy).2 (SS.out.far y hy) (List.mem_append.2 (.inr hm))⟩
            obtain ⟨A6, c6', hv6⟩ := own_slice hrows.row
            rw [List.length_map] at hv6
            subst hv6
            have KB : Hid (Bls w6 A n keep) := HK.out.kept L6.out.below
            have hka : 0 < n → ∀ x, A = some x → x.block ∉ F7 := fun h0 x hx hm => by
              have h1 := HA.out h0 x hx
              have h2 := L6.out.new _ hm
              omega
            have HKA := Lib.hid hka
            clear ho hL hO hGr hrows hfar hin TG hcc OP FO hka
            go_wp2_with fail
            refine TD.out.mono ?_
            rintro e w7 ⟨rfl, q, hw⟩
            have CR := Lib.hid (crash_any w7 d F7 m A n c keep (by rw [hw]; exact (L6.out.under (below_drewN _ q)).disk) (by rw [hw]; exact KB.out.kept (below_drewN _ q)) hn HKA.out (by have := SS.out.wait; omega))
            have L7 : Hid (Lives w w7 d F7 m) := by rw [hw]; exact L6.out.under (below_drewN _ q)
            have T7 : Hid (ListAt w w7 (.slice AW Ls.length cW) vs Ls) := by rw [hw]; exact T6.out.only ((Only.refl [] w6).drewN q) (fun _ _ hx => by cases hx)
            have c7 : w7.cell? ⟨r, 1, none⟩ = some (.slice AW Ls.length cW) := by rw [hw]; exact c6
            have X7 : Hid (r < w7.heap.size) := by rw [hw]; exact X6.out.1
            clear hw TD L6 T6 c6 KB HKA
            go_wp2_with fail
            refine CR.out.mono ?_
            rintro e w8 ⟨rfl, ht⟩
            obtain ⟨F8, hL, hGr, hO⟩ := L7.out.turned ht
            have N8 : Hid (∀ x, x < w7.heap.size → x ∉ F7 → x ∉ F8) := fun x hx hx2 hm => by
              rcases hGr x hm with h | h
              · exact hx2 h
              · omega
            have S8 : Hid (Stays w w8 Ls (.slice AW Ls.length cW) vs r st d F8 (m.crash keep)) := ⟨hL, fun kp => SS.out.safe keep, rfl, by show (Dsk.crashD _ _ _).length = 40; rw [Dsk.crashD_length]; exact SS.out.size,
              (hO.cell (p := ⟨r, 1, none⟩) X7.out X6.out.2.1).trans c7, Nat.lt_of_lt_of_le X7.out hO.size, N8.out r X7.out X6.out.2.1, SS.out.rnew, T7.out.only hO X6.out.2.2, fun y hy => N8.out y (T7.out.row.lt y hy).2 (X6.out.2.2 y hy), Nat.zero_le _⟩
            clear ht hL hGr hO CR L7 T7 c7 SS
            go_wp2_with fail
            go_roundw
            case rel => exact ⟨j + 1, F8, _, by omega, by go_num, S8.out⟩
            case measure => simp [intOf]; omega
          · obtain rfl : j = 3 := by omega
            have BW := Lib.hid SS.out.lives.below
            go_wp2_with fail
            go_ret
            exact ⟨rfl, BW.out⟩
set_option maxRecDepth 100000 in
theorem opens {H : Type} {enc : TypeId × Value → H} {W : World} {base : Nat} {args : Array Value} {ds : List (DataW H)} {p : List MemPlace}
    (hval : ∀ (j : Nat) t v, Try.f10.params[j]? = some t → args[j]? = some v → Value.okWide Try.prog W .any base t v)
    (hA : DataW.TrodAll enc Try.prog W 0 (fun _ => true) true Try.f10.params.toList args.toList ds p) (hlt : ∀ x ∈ p, x.block < W.heap.size) (hsz : (DataW.weightsEach Try.prog Try.f10.params.toList ds).all (· ≤ reachBytes) = true) :
    Calls Try.prog 10 args W fun e W' => e = .returned (.bool true) ∧ Below W.heap.size W W' := by
  rw [Try.params10] at hA hval hsz
  obtain ⟨v0, vs0, d0, ds0, p0, q0, hargs, rfl, rfl, h0, r0⟩ := trodAll_cons hA
  obtain ⟨v1, vs1, d1, ds1, p1, q1, rfl, rfl, rfl, h1, r1⟩ := trodAll_cons r0
  obtain ⟨rfl, rfl, rfl⟩ := trodAll_nil r1
  obtain rfl : args = #[v0, v1] := by cases args; simp_all
  obtain ⟨Ts, hT, hTl, hTe⟩ := open_lists (hval 0 33 v0 rfl rfl) h0 (small_args hsz (j := 0) rfl rfl)
  obtain ⟨A, n, c, keep, rfl, hK, hn, hA2, _⟩ := open_keep (hval 1 59 v1 rfl rfl) h1
  exact walk v0 Ts A n c keep W hT hTl (fun l hl => (hTe l hl).1) hK hn hA2

set_option maxRecDepth 100000 in
theorem lifted (os : Os) (started : os.Started) (H : Type) (enc : TypeId × Value → H) :
    ReturnsInHanded {} Try.checked os 10 .any (Rows.walStillSpec.pre6 enc Try.prog Try.f10 Rows.walStillRow.domain false) (Rows.walStillSpec.post enc Try.prog Try.f10 false true false false) := by
  refine returnsInHanded_of_change_sized (C := Try.checked) own started (by kernel_rfl) Try.func10
    (ChangeSpec.witness6 (enc := enc) (C := Try.checked) false ⟨#[], #[.slice none 0 0, .slice none 0 0], []⟩ 8 (by kernel_rfl) (by kernel_rfl) (by kernel_rfl) (by kernel_rfl)) ?_
  intro W base args ds gs before hval hW _ hsz0 _
  refine law_calls laidOut Try.underlying4 rfl (by rw [Try.params10]; exact of_decide_eq_true (by kernel_rfl)) rfl (fun ds h => by match ds, h with | [_, _], _ => rfl) hW ?_
  obtain ⟨rfl, p, hA, hlt⟩ := law_args rfl hW
  have hsz : (DataW.weightsEach Try.prog (Try.f10.params.toList ++ []) (ds ++ [])).all (· ≤ reachBytes) = true := hsz0
  rw [List.append_nil, List.append_nil] at hsz
  exact opens hval hA hlt hsz

theorem over : Rows.walStillRow.holds Try.pinned (OpenSpec.ofChange Rows.walStillSpec) :=
  OpenClaim.holds_of_wide 10 Try.f10 rfl rfl rfl rfl rfl rfl rfl ⟨rfl, rfl, rfl, rfl, rfl⟩ rfl rfl rfl rfl rfl (by kernel_rfl) Try.func10 (by kernel_rfl)
    (of_decide_eq_true (by kernel_rfl)) (by unfold Func.isWrapper; first | (rw [if_pos (by decide +kernel)]; kernel_rfl) | (rw [if_neg (by decide +kernel)]; exact ⟨rfl, rfl⟩))
    (fun os started H enc _ => lifted os started H enc)

theorem proved : Rows.WalStillSaid := over

end Go.Proofs.Ytacpgahbfmpiiaa.walStill
