/-
  The contracts of a disk's Write, Flush and Crash.
-/
import Derived.Test.YtaoldopkehbhkaaDiskA
import Derived.RegionTactic
import Derived.Deep.RegionLaw
import Derived.Deep.RegionWith
import Derived.Deep.QuietTactic
import Derived.BigQuiet
namespace Go.Proofs.Ytaoldopkehbhkaa
open Go.RowKit

theorem infoW : (Try.prog.info? 119).map (fun i => (i.zero, i.size, i.bytes)) = some (some (.agg #[.int .i64 0, .string ⟨#[]⟩]), 2, 24) := by kernel_rfl

/-- Within Write: the sector is seen as it was written, the write lies in block b7; it doesn't wait yet. -/
structure Written (w1 w2 : World) (d gd cd gs cs b7 k : Nat) (vw : Value) (m : Dsk.DM) (l : List Nat) : Prop where
  blk : Held w2 d 85 #[.slice (some ⟨gd, 0, none⟩) m.dur.length cd, .slice (some ⟨gs, 0, none⟩) m.dur.length cs, vw, .int .i64 m.fuel, .bool m.dead]
  dur : w2.ownsRow 0 9 1 (.slice (some ⟨gd, 0, none⟩) m.dur.length cd) m.dur.length (m.dur.map strV)
  seen : w2.ownsRow 0 9 1 (.slice (some ⟨gs, 0, none⟩) m.dur.length cs) m.dur.length ((m.seen.set k l).map strV)
  wait : w2.ownsRow 0 119 2 vw m.wait.length (waitCells m.wait)
  tmp : Held w2 b7 119 #[.int .i64 (k : Int), strV l]
  ne : gd ≠ gs
  good : m.Good
  only : Only (diskFoot d gd gs vw) w1 w2

theorem Written.start {w1 : World} {d gd cd gs cs b7 k : Nat} {vw : Value} {m : Dsk.DM} {l : List Nat} (h : DiskIs w1 d gd cd gs cs vw m) (hb7 : b7 = w1.heap.size) (_hk : k < m.dur.length) :
    Written w1 ((w1.setCell { block := gs, off := k } (Value.string (strB l))).alloc (Obj.cells #[Value.int IntKind.i64 ↑k, Value.string (strB l)] 119)).drew d gd cd gs cs b7 k vw m l := by
  have hne := h.ne_d
  have ho : Only [gs] w1 (w1.setCell { block := gs, off := k } (Value.string (strB l))) := (Only.refl _ w1).setCell (.inl (by simp)) _
  have hk : ∀ o, Only [gs] w1 ((w1.setCell { block := gs, off := k } (Value.string (strB l))).alloc o).drew := fun o => (ho.alloc o).drew
  refine ⟨h.blk.only (hk _) (by simpa using fun e => hne.2.1 e.symm), (hk _).row h.dur (fun g hg hm => ?_), ?_, (hk _).row h.wait (fun g hg hm => ?_), ?_, h.ne, h.good, (hk _).mono (fun x hx => .inl (by simp at hx; simp [hx, diskFoot]))⟩
  · have e1 : gd = g := by simpa [Value.ownBlock] using hg
    have e2 : g = gs := by simpa using hm
    exact h.ne (e1.trans e2)
  · have e : ((m.seen.set k l).map strV) = (m.seen.map strV).set k (strV l) := by rw [List.map_set]
    rw [e]
    exact (h.seen.stored k (strV l)).1.alloc _
  · have e2 : g = gs := by simpa using hm
    exact (hne.2.2 g hg).2.2 e2
  · exact Held.new _ _ _ (by rw [hb7]; simp)

section
variable {w1 w2 w3 : World} {d gd cd gs cs b7 k : Nat} {vw : Value} {m : Dsk.DM} {l : List Nat}
theorem Written.c2 (h : Written w1 w2 d gd cd gs cs b7 k vw m l) : w2.cell? ⟨d, 2, none⟩ = some vw := h.blk.cell 2
theorem Written.c7 (h : Written w1 w2 d gd cd gs cs b7 k vw m l) : w2.cell? ⟨b7, 0, none⟩ = some (.int .i64 (k : Int)) ∧ w2.cell? ⟨b7, 1, none⟩ = some (strV l) := ⟨h.tmp.cell 0, h.tmp.cell 1⟩
theorem Written.ne_vw (h : Written w1 w2 d gd cd gs cs b7 k vw m l) : vw.ownBlock ≠ some d := fun e => h.blk.ne_row h.wait (by decide) d e rfl
theorem Written.keep_blk (h : Written w1 w2 d gd cd gs cs b7 k vw m l) {o : Obj} (hg : (w2.alloc o).drew.grownBy w3 vw.ownBlock) :
    Held w3 d 85 #[.slice (some ⟨gd, 0, none⟩) m.dur.length cd, .slice (some ⟨gs, 0, none⟩) m.dur.length cs, vw, .int .i64 m.fuel, .bool m.dead] :=
  (hg.block d (by have := h.blk.lt; simp; omega) (fun e => h.ne_vw e.symm)).trans (h.blk.alloc o)
theorem Written.keep_c2 (h : Written w1 w2 d gd cd gs cs b7 k vw m l) {o : Obj} (hg : (w2.alloc o).drew.grownBy w3 vw.ownBlock) : w3.cell? ⟨d, 2, none⟩ = some vw := (h.keep_blk hg).cell 2
theorem Written.keep_f2 (h : Written w1 w2 d gd cd gs cs b7 k vw m l) {o : Obj} (hg : (w2.alloc o).drew.grownBy w3 vw.ownBlock) : w3.frozen? ⟨d, 2, none⟩ = false := (h.keep_blk hg).frozen 2
theorem Written.done (h : Written w1 w2 d gd cd gs cs b7 k vw m l) {o : Obj} {g cap : Nat} (hk : k < m.dur.length) (hl : ∀ x ∈ l, x < 256) (h5 : l.length ≤ 512)
    (hown : w3.ownsRow 0 119 2 (.slice (some ⟨g, 0, none⟩) (m.wait.length + 1) cap) (m.wait.length + 1) (waitCells m.wait ++ [.int .i64 (k : Int), strV l]))
    (hg : (w2.alloc o).drew.grownBy w3 vw.ownBlock) (hat : vw.ownBlock = some g ∨ g = (w2.alloc o).drew.heap.size) :
    Turned w1 d (diskFoot d gd gs vw) (w3.setCell ⟨d, 2, none⟩ (.slice (some ⟨g, 0, none⟩) (m.wait.length + 1) cap)) { m with wait := m.wait ++ [(k, l)] } := by
  have hge : vw.ownBlock = some g ∨ w1.heap.size ≤ g := by
    rcases hat with h1 | h1
    · exact .inl h1
    · right
      have := h.only.size
      have e : (w2.alloc o).drew.heap.size = w2.heap.size + 1 := by simp
      omega
  have hb := h.keep_blk hg
  have gd_ne : some gd ≠ vw.ownBlock := fun e => rows_ne h.dur h.wait (by decide) gd rfl e.symm
  have gs_ne : some gs ≠ vw.ownBlock := fun e => rows_ne h.seen h.wait (by decide) gs rfl e.symm
  have hdur : w3.ownsRow 0 9 1 (.slice (some ⟨gd, 0, none⟩) m.dur.length cd) m.dur.length (m.dur.map strV) := (ownsRow_drew (h.dur.alloc o)).kept hg (.inr gd_ne)
  have hseen : w3.ownsRow 0 9 1 (.slice (some ⟨gs, 0, none⟩) m.dur.length cs) m.dur.length ((m.seen.set k l).map strV) := (ownsRow_drew (h.seen.alloc o)).kept hg (.inr gs_ne)
  have dd : gd ≠ d := h.blk.ne_row h.dur (by decide) gd rfl
  have ds : gs ≠ d := h.blk.ne_row h.seen (by decide) gs rfl
  have dg : g ≠ d := hb.ne_row hown (by decide) g rfl
  have fin : DiskIs (w3.setCell ⟨d, 2, none⟩ (.slice (some ⟨g, 0, none⟩) (m.wait.length + 1) cap)) d gd cd gs cs (.slice (some ⟨g, 0, none⟩) (m.wait.length + 1) cap) { m with wait := m.wait ++ [(k, l)] } := by
    refine ⟨hb.set_ 2 _, ?_, ?_, ?_, h.ne, ⟨h.good.least, h.good.most, h.good.bytes, h.good.short, ?_, ?_, ?_, h.good.f0, h.good.f1⟩⟩
    · exact ownsRow_far hdur (fun x hx e => dd (by have : gd = x := by simpa [Value.ownBlock] using hx
                                                   exact this.trans e)) _
    · have e : Dsk.DM.seen { m with wait := m.wait ++ [(k, l)] } = m.seen.set k l := Dsk.apply_snoc _ _ _
      rw [e]
      exact ownsRow_far hseen (fun x hx e => ds (by have : gs = x := by simpa [Value.ownBlock] using hx
                                                    exact this.trans e)) _
    · show World.ownsRow _ 0 119 2 _ (m.wait ++ [(k, l)]).length (waitCells (m.wait ++ [(k, l)]))
      rw [waitCells_snoc, List.length_append]
      exact ownsRow_far hown (fun x hx e => dg (by have : g = x := by simpa [Value.ownBlock] using hx
                                                   exact this.trans e)) _
    · intro p hp
      rcases List.mem_append.1 hp with hp | hp
      · exact h.good.at_ p hp
      · have : p = (k, l) := by simpa using hp
        subst this
        exact hk
    · intro p hp
      rcases List.mem_append.1 hp with hp | hp
      · exact h.good.wbytes p hp
      · have : p = (k, l) := by simpa using hp
        subst this
        exact hl
    · intro p hp
      rcases List.mem_append.1 hp with hp | hp
      · exact h.good.wshort p hp
      · have : p = (k, l) := by simpa using hp
        subst this
        exact h5
  have hon : Only (diskFoot d gd gs vw) w1 w3 := ((h.only.alloc o).drew).grown hg (fun x hx => .inl (by simp [diskFoot, hx]))
  refine ⟨_, ⟨gd, cd, gs, cs, _, fin, rfl⟩, hon.setCell (.inl (by simp [diskFoot])) _, fun x hx => ?_⟩
  rw [mem_foot] at hx ⊢
  rcases hx with rfl | rfl | rfl | hx
  · exact .inl (.inl rfl)
  · exact .inl (.inr (.inl rfl))
  · exact .inl (.inr (.inr (.inl rfl)))
  · have e1 : g = x := by simpa [Value.ownBlock] using hx
    subst e1
    rcases hge with e | e
    · exact .inl (.inr (.inr (.inr e)))
    · exact .inr e
end

theorem Turned.trans {w w1 w2 : World} {d : Nat} {F F1 : List Nat} {m : Dsk.DM} (h : Only F w w1) (hF : ∀ x ∈ F1, x ∈ F ∨ w.heap.size ≤ x) (k : Turned w1 d F1 w2 m) : Turned w d F w2 m := by
  obtain ⟨F2, h1, h2, h3⟩ := k
  refine ⟨F2, h1, h.trans h2 hF, fun x hx => ?_⟩
  rcases h3 x hx with h4 | h4
  · exact hF x h4
  · right
    have := h.size
    omega

set_option maxHeartbeats 400000 in
theorem write_ok (w : World) (d : Nat) (F : List Nat) (m : Dsk.DM) (k : Nat) (A : Option Addr) (n c : Nat) (l : List Nat) (h : DiskAt w d F m) (hl : Bts w A n l) (hn : n ≤ 512) (hA : 0 < n → ∀ x, A = some x → x.block ∉ F)
    (hw : m.wait.length ≤ 5800000000000) (hd : m.dead = false) (hk : k < m.dur.length) (hf : m.fuel ≠ 0) :
    Calls Try.prog 48 #[.pointer (some ⟨d, 0, none⟩), .int .i64 (k : Int), .slice A n c] w fun e w' => e = .returned (.int .i64 0) ∧ Turned w d F w' { m.burn with wait := m.wait ++ [(k, l)] } := by
  have HH := Lib.hid h
  have c4 : w.cell? ⟨d, 4, none⟩ = some (.bool m.dead) := by obtain ⟨gd, cd, gs, cs, vw, h, rfl⟩ := h; exact h.cells.2.2.2.2
  have HL := Lib.hid hl
  have HY := Lib.hid (has_yes w d _ m (k : Int) HH.out ⟨by omega, by omega⟩)
  have hbd : m.burn.dead = false := by
    unfold Dsk.DM.burn
    rw [if_neg hf]
    split <;> exact hd
  have HB := Lib.hid (burn_any w d _ m HH.out)
  rw [hbd] at HB
  have h5 : ¬ (512 : Int) < (n : Int) := by omega
  have h0 : (0 : Int) ≤ (k : Int) := by omega
  have EW := Lib.hid m.burn_wait
  have ED := Lib.hid m.burn_dur
  clear hl h hf hbd
  go_enter Try.func48, Try.ntmps48
  go_wp2_with fail
  refine HY.out.mono ?_
  rintro e w' ⟨rfl, rfl⟩
  go_wp2_with fail
  refine HB.out.mono ?_
  rintro e w1 ⟨rfl, F1, ⟨gd, cd, gs, cs, vw, hI, rfl⟩, hO, hF⟩
  have hcv := (hO.bts HL.out hA).toStr byteT Try.underlying9 c
  have H1 := Lib.hid hI
  have c0 := hI.cells.1
  have c1 := hI.cells.2.1
  have c2 := hI.cells.2.2.1
  have hx := strs_at hI.seen (by rw [Dsk.DM.seen_length]) (i := k) (by rw [ED.out]; exact hk)
  have fx := hI.seen.frozenAt k
  have dlt := hI.blk.lt
  have glt := (hI.seen.lt _ rfl).2
  have dlt' : (k : Int) < (m.burn.dur.length : Int) := by rw [ED.out]; omega
  clear hI
  go_wp2_with fail
  go_region
  obtain ⟨b7, hb7⟩ : ∃ b, b = w1.heap.size := ⟨_, rfl⟩
  rw [← hb7]
  have K1 := Lib.hid (Written.start H1.out hb7 (by rw [ED.out]; exact hk) (l := l))
  have HB7 := Lib.hid hb7
  clear c0 c1 c2 hx fx dlt glt hcv hb7
  generalize ((w1.setCell { block := gs, off := k } (Value.string (strB l))).alloc (Obj.cells #[Value.int IntKind.i64 ↑k, Value.string (strB l)] 119)).drew = w2 at *
  have c2 := K1.out.c2
  have d2 := K1.out.c7.1
  have d3 := K1.out.c7.2
  have d4 := K1.out.blk.lt
  obtain ⟨i0, hi0, hz0, hz1, hz2⟩ := info_parts infoW
  go_wp2_with fail
  have KO := Lib.hid (ownsRow_drew (K1.out.wait.alloc (.cells #[.int .i64 (k : Int), strV l] 119)))
  have KN : Hid (∀ j u, [Value.int .i64 (k : Int), strV l][j]? = some u → (w2.alloc (.cells #[.int .i64 (k : Int), strV l] 119)).drew.cell? ((⟨w2.heap.size, 0, none⟩ : Addr).add j) = some u) := World.news_of_block (heap_alloc_new w2 (.cells #[.int .i64 (k : Int), strV l] 119))
  have k1 : ∀ u ∈ ([.int .i64 (k : Int), strV l] : List Value), u.oneCell' = true := by intro u hu; simp only [List.mem_cons, List.not_mem_nil, or_false] at hu; rcases hu with rfl | rfl <;> rfl
  have K2 := Lib.hid k1
  have k3 : m.burn.wait.length + 1 ≤ maxLen := by rw [EW.out]; simp only [maxLen]; omega
  have k4 : (m.burn.wait.length + 1) * 24 ≤ 140737488355328 := by rw [EW.out]; omega
  have K3 := Lib.hid k3
  have K4 := Lib.hid k4
  clear k1 k3 k4
  go_region_law (refine step_append_lies _ rfl (.tmp 46) (.tmp 48) 83 rfl 0 119 i0 (.agg #[.int .i64 0, .string ⟨#[]⟩]) 2 24 Try.underlying83 hi0 hz0 hz1 hz2 rfl ?q2 vw m.burn.wait.length (waitCells m.burn.wait) ?q3 KO.out ⟨w2.heap.size, 0, none⟩ 1 1 [.int .i64 (k : Int), strV l] ?q5 rfl KN.out K2.out ?q9 K3.out K4.out (Nat.zero_le _) _ rfl ?_; (case q2 => decide); (case q3 => simp [Act.eval]); (case q5 => simp [Act.eval]); (case q9 => decide); intro g cap w3 hown hgrow hat hlt; have g2 := K1.out.keep_c2 hgrow; have g3 := K1.out.keep_f2 hgrow)
  all_goals
    have T := Lib.hid (K1.out.done (by rw [ED.out]; exact hk) HL.out.2.1 (by have := HL.out.1; omega) hown hgrow hat)
    clear g2 g3 hown hgrow hat hlt
    go_wp2_with fail
    go_ret
    have T1 := T.out
    rw [EW.out] at T1 ⊢
    exact ⟨rfl, Turned.trans hO hF T1⟩
set_option maxHeartbeats 400000 in
theorem write_any (w : World) (d : Nat) (F : List Nat) (m : Dsk.DM) (i : Int) (A : Option Addr) (n c : Nat) (l : List Nat) (h : DiskAt w d F m) (hl : Bts w A n l) (hn : n ≤ 9223372036854775807) (hA : 0 < n → ∀ x, A = some x → x.block ∉ F)
    (hw : m.wait.length ≤ 5800000000000) :
    Calls Try.prog 48 #[.pointer (some ⟨d, 0, none⟩), .int .i64 i, .slice A n c] w fun e w' => e = .returned (.int .i64 (m.writeErr i n)) ∧ Turned w d F w' (m.write i l) := by
  have HH := Lib.hid h
  have hln := Lib.hid hl.1
  obtain ⟨gd, cd, gs, cs, vw, h, rfl⟩ := h
  have c4 := h.cells.2.2.2.2
  by_cases hd : m.dead = true
  · have e : m.writeErr i n = 10 := by simp [Dsk.DM.writeErr, hd]
    have e2 : m.write i l = m := by simp [Dsk.DM.write, hd]
    rw [e, e2]
    clear e e2 h hl hln
    go_enter Try.func48, Try.ntmps48
    go_wp2_with fail
    go_ret
    exact ⟨rfl, Turned.refl HH.out⟩
  · have hd' : m.dead = false := by simpa using hd
    by_cases hi : 0 ≤ i ∧ i < m.dur.length
    · by_cases h512 : 512 < n
      · have e : m.writeErr i n = 1 := by simp only [Dsk.DM.writeErr, hd', if_pos (Or.inr h512)]; rfl
        have e2 : m.write i l = m := by simp only [Dsk.DM.write, hd', hln.out, if_pos (Or.inr h512)]; rfl
        rw [e, e2]
        have HY := Lib.hid (has_yes w d _ m i HH.out hi)
        have h5 : (512 : Int) < (n : Int) := by omega
        clear e e2 h hl hln hi h512 hd
        go_enter Try.func48, Try.ntmps48
        go_wp2_with fail
        refine HY.out.mono ?_
        rintro e w' ⟨rfl, rfl⟩
        go_wp2_with fail
        go_ret
        exact ⟨rfl, Turned.refl HH.out⟩
      · by_cases hf : m.fuel = 0
        · have hnn : ¬ (¬ (0 ≤ i ∧ i < m.dur.length) ∨ 512 < n) := fun c => c.elim (fun c => c hi) h512
          have hnl : ¬ (¬ (0 ≤ i ∧ i < m.dur.length) ∨ 512 < l.length) := by rw [hln.out]; exact hnn
          have e : m.writeErr i n = 10 := by simp only [Dsk.DM.writeErr, hd', if_neg hnn, hf]; rfl
          have e2 : m.write i l = { m with dead := true } := by simp only [Dsk.DM.write, hd', if_neg hnl, hf]; rfl
          have eb : m.burn = { m with dead := true } := by simp [Dsk.DM.burn, hf]
          rw [e, e2]
          have HY := Lib.hid (has_yes w d _ m i HH.out hi)
          have HB := Lib.hid (burn_any w d _ m HH.out)
          rw [eb] at HB
          have h5 : ¬ (512 : Int) < (n : Int) := by omega
          clear e e2 eb h hl hln hi h512 hd hf hnn hnl
          go_enter Try.func48, Try.ntmps48
          go_wp2_with fail
          refine HY.out.mono ?_
          rintro e w' ⟨rfl, rfl⟩
          go_wp2_with fail
          refine HB.out.mono ?_
          rintro e w1 ⟨rfl, ht⟩
          go_wp2_with fail
          go_ret
          exact ⟨rfl, ht⟩
        · have hnn : ¬ (¬ (0 ≤ i ∧ i < m.dur.length) ∨ 512 < n) := fun c => c.elim (fun c => c hi) h512
          have hnl : ¬ (¬ (0 ≤ i ∧ i < m.dur.length) ∨ 512 < l.length) := by rw [hln.out]; exact hnn
          have e : m.writeErr i n = 0 := by simp only [Dsk.DM.writeErr, hd', if_neg hnn, if_neg hf]; rfl
          have e2 : m.write i l = { m.burn with wait := m.wait ++ [(i.toNat, l)] } := by simp only [Dsk.DM.write, hd', if_neg hnl, if_neg hf]; rfl
          rw [e, e2]
          obtain ⟨k, rfl⟩ := Int.eq_ofNat_of_zero_le hi.1
          exact write_ok w d _ m k A n c l HH.out hl (by omega) hA hw hd' (by omega) hf
    · have e : m.writeErr i n = 1 := by simp only [Dsk.DM.writeErr, hd', if_pos (Or.inl hi)]; rfl
      have e2 : m.write i l = m := by simp only [Dsk.DM.write, hd', if_pos (Or.inl hi)]; rfl
      rw [e, e2]
      have HY := Lib.hid (has_no w d _ m i HH.out hi)
      clear e e2 h hl hln hi hd
      go_enter Try.func48, Try.ntmps48
      go_wp2_with fail
      refine HY.out.mono ?_
      rintro e w' ⟨rfl, rfl⟩
      go_wp2_with fail
      go_ret
      exact ⟨rfl, Turned.refl HH.out⟩

end Go.Proofs.Ytaoldopkehbhkaa
