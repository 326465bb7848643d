/-
  pager: what a call leaves of a pager and its open transaction; the contracts of Sync and fits. · pager: the contract of bringHome.
-/
import Derived.Test.YtkajneeihhobhaaGreatMPgC
import Derived.Test.YtkajneeihhobhaaGreatMPgM
import Derived.Test.YtkajneeihhobhaaGreatMSync
import Derived.Test.YtkajneeihhobhaaGreatMBase
namespace Go.Proofs.YtkajneeihhobhaaGreat
open Go.RowKit Go.Maps Wal Pgr

def PS.foot (P : PS) : List Nat := P.p :: P.am :: (P.G ++ P.F)
/-- P' is the pager P, further on. -/
structure Moved (w w' : World) (P P' : PS) : Prop where
  p : P'.p = P.p
  d : P'.d = P.d
  lb : P'.lb = P.lb
  am : P'.am = P.am
  reg : P'.reg = P.reg
  n : P'.N = P.N
  only : Only P.foot w w'
  gG : Grown w P.G P'.G
  gF : Grown w P.F P'.F
  len : P'.m.dur.length = P.m.dur.length
section
variable {w w' w1 w2 : World} {P P' P1 P2 : PS} {tx : Value} {t tm : Nat} {g : Nat → Option (List Nat)} {C : List Com} {F' G' : List Nat} {s' : LS} {m' : Dsk.DM}
theorem pmem_foot {x : Nat} : x ∈ P.foot ↔ x = P.p ∨ x = P.am ∨ x ∈ P.G ++ P.F := by simp [PS.foot]
theorem Moved.refl (w : World) (P : PS) : Moved w w P P := ⟨rfl, rfl, rfl, rfl, rfl, rfl, Only.refl _ _, Grown.refl _ _, Grown.refl _ _, rfl⟩
theorem Moved.foot (h : Moved w w' P P') : ∀ x ∈ P'.foot, x ∈ P.foot ∨ w.heap.size ≤ x := fun x hx => by
  rcases pmem_foot.1 hx with rfl | rfl | hx
  · rw [h.p]; exact .inl (pmem_foot.2 (.inl rfl))
  · rw [h.am]; exact .inl (pmem_foot.2 (.inr (.inl rfl)))
  · rcases Grown.append h.gG h.gF x hx with h1 | h1
    · exact .inl (pmem_foot.2 (.inr (.inr h1)))
    · exact .inr h1
theorem Moved.trans (h : Moved w w1 P P1) (k : Moved w1 w2 P1 P2) : Moved w w2 P P2 :=
  ⟨k.p.trans h.p, k.d.trans h.d, k.lb.trans h.lb, k.am.trans h.am, k.reg.trans h.reg, k.n.trans h.n, h.only.trans k.only h.foot, h.gG.trans h.only.size k.gG, h.gF.trans h.only.size k.gF, k.len.trans h.len⟩
theorem Moved.under (h : Moved w w1 P P1) (k : Below w1.heap.size w1 w2) : Moved w w2 P P1 := ⟨h.p, h.d, h.lb, h.am, h.reg, h.n, h.only.under k, h.gG, h.gF, h.len⟩
/-- The log and the disk have turned. -/
theorem PagAt.logged (h : PagAt w P tx) (k : LTurned w P.lb P.G P.d P.F w' s' m') (hl : m'.dur.length = P.m.dur.length) : ∃ G' F', PagAt w' { P with G := G', F := F', s := s', m := m' } tx ∧ Moved w w' P { P with G := G', F := F', s := s', m := m' } := by
  obtain ⟨G', F', hL, hO, hG, hF⟩ := k
  have hlt := h.lt
  have hnew : ∀ x ∈ G' ++ F', x ∈ P.G ++ P.F ∨ w.heap.size ≤ x := Grown.append hG hF
  refine ⟨G', F', ⟨h.held.only hO h.pfar, hL, h.away.only hO h.afar, h.ne, fun hx => ?_, fun hx => ?_, hl.trans h.size⟩, ⟨rfl, rfl, rfl, rfl, rfl, rfl, hO.mono (fun x hx => .inl (pmem_foot.2 (.inr (.inr hx)))), hG, hF, hl⟩⟩
  · rcases hnew _ hx with h1 | h1
    · exact h.pfar h1
    · exact absurd h1 (Nat.not_le.2 hlt.1)
  · rcases hnew _ hx with h1 | h1
    · exact h.afar h1
    · exact absurd h1 (Nat.not_le.2 hlt.2.1)
/-- The disk alone has turned. -/
theorem PagAt.disked (h : PagAt w P tx) (k : Turned w P.d P.F w' m') (hl : m'.dur.length = P.m.dur.length) : ∃ F', PagAt w' { P with F := F', m := m' } tx ∧ Moved w w' P { P with F := F', m := m' } := by
  obtain ⟨F', hL, hO, hF⟩ := h.log.turned k
  have hlt := h.lt
  have hnew : ∀ x ∈ P.G ++ F', x ∈ P.G ++ P.F ∨ w.heap.size ≤ x := Grown.append (Grown.refl w P.G) hF
  refine ⟨F', ⟨h.held.only hO h.pfar, hL, h.away.only hO h.afar, h.ne, fun hx => ?_, fun hx => ?_, hl.trans h.size⟩, ⟨rfl, rfl, rfl, rfl, rfl, rfl, hO.mono (fun x hx => .inl (pmem_foot.2 (.inr (.inr hx)))), Grown.refl _ _, hF, hl⟩⟩
  · rcases hnew _ hx with h1 | h1
    · exact h.pfar h1
    · exact absurd h1 (Nat.not_le.2 hlt.1)
  · rcases hnew _ hx with h1 | h1
    · exact h.afar h1
    · exact absurd h1 (Nat.not_le.2 hlt.2.1)
theorem PagAt.marked (h : PagAt w P tx) (x : Bool) : PagAt (w.setCell ⟨P.p, 5, none⟩ (.bool x)) { P with dead := x } tx ∧ Moved w (w.setCell ⟨P.p, 5, none⟩ (.bool x)) P { P with dead := x } :=
  ⟨h.setDead x, ⟨rfl, rfl, rfl, rfl, rfl, rfl, (Only.refl _ w).setCell (.inl (pmem_foot.2 (.inl rfl))) _, Grown.refl _ _, Grown.refl _ _, rfl⟩⟩
theorem PS.alive_same (h : P.dead = false) : ({ P with dead := false } : PS) = P := by rw [← h]
theorem TxAt.off (k : TxAt w P t tm g) : t ∉ P.foot ∧ tm ∉ P.foot := by
  have hn := k.ne
  refine ⟨fun hx => ?_, fun hx => ?_⟩
  · rcases pmem_foot.1 hx with h1 | h1 | h1
    · exact hn.1 h1
    · exact hn.2.1 h1
    · exact k.tfar h1
  · rcases pmem_foot.1 hx with h1 | h1 | h1
    · exact hn.2.2.2.1 h1
    · exact hn.2.2.2.2 h1
    · exact k.mfar h1
theorem TxAt.moved (k : TxAt w P t tm g) (h : Moved w w' P P') : TxAt w' P' t tm g := by
  have hn := k.ne
  have hlt := k.held.lt
  have hlm := k.dirty.lt
  have off := k.off
  have k2 := k.only h.only off.1 off.2
  have hG := Grown.append h.gG h.gF
  refine ⟨by rw [h.p]; exact k2.held, by rw [h.n]; exact k2.dirty, by rw [h.p, h.am]; exact hn, fun hx => ?_, fun hx => ?_⟩
  · rcases hG _ hx with h1 | h1
    · exact k.tfar h1
    · omega
  · rcases hG _ hx with h1 | h1
    · exact k.mfar h1
    · omega
/-- A pager whose disk has died under it: what lies in memory, and what a crash leaves. -/
def Died (w w' : World) (P : PS) (tx : Value) (C : List Com) : Prop := ∃ P', PagAt w' P' tx ∧ Moved w w' P P' ∧ P'.dead = true ∧ P'.m.dead = true ∧ P.m.fuel ≠ -1 ∧
  (∀ kp, ∃ k, P'.s.synced ≤ k ∧ k ≤ C.length ∧ ∃ st fi, Pgr.Tells P.N P.reg (holds (Dsk.crashD P'.m.wait kp P'.m.dur)) (C.take k) st fi) ∧ P'.m.wait.length ≤ 20000
theorem Died.before (h : Died w1 w2 P1 tx C) (k : Moved w w1 P P1) (hf : P.m.fuel = -1 → P1.m.fuel = -1) : Died w w2 P tx C := by
  obtain ⟨P', h1, h2, h3, h4, h5, h6⟩ := h
  refine ⟨P', h1, k.trans h2, h3, h4, fun e => h5 (hf e), fun kp => ?_, h6.2⟩
  rw [← k.n, ← k.reg]
  exact h6.1 kp
end

/-- A pager, further on: what holds of it. -/
def Went (w w' : World) (P : PS) (tx : Value) (R : PS → Prop) : Prop := ∃ P', PagAt w' P' tx ∧ Moved w w' P P' ∧ Fuels P.m P'.m ∧ R P'
def SyncRes (w : World) (P : PS) (tx : Value) (C : List Com) (e : Ending) (w' : World) : Prop :=
  (e = .returned (.int .i64 0) ∧ Went w w' P tx fun P' => PInv P' C ∧ P'.m.dead = false ∧ P'.s.synced = C.length ∧ P'.s.first = P.s.first ∧ P'.s.needs = P.s.needs ∧ P'.f = P.f) ∨
  (e = .returned (.int .i64 10) ∧ Died w w' P tx C)
set_option maxRecDepth 100000 in
set_option maxHeartbeats 1600000 in
theorem psync_any (w : World) (P : PS) (tx : Value) (C : List Com) (h : PagAt w P tx) (hi : PInv P C) :
    Calls Tryz.prog 19 #[.pointer (some ⟨P.p, 0, none⟩)] w (SyncRes w P tx C) := by
  have TA := Lib.hid (palive_any w P tx h)
  rw [hi.alive, hi.inv.alive] at TA
  have M1 := h.marked false
  rw [PS.alive_same hi.alive] at M1
  have H1 := Lib.hid M1
  have I := Lib.hid hi
  clear h hi M1
  go_enter Tryz.func19, Tryz.ntmps19
  go_wp2_with fail
  refine TA.out.mono ?_
  rintro e w1 ⟨rfl, rfl⟩
  clear TA
  have ed : deadErr (false || false) = 0 := rfl
  rw [show (false || false) = false from rfl] at ed ⊢
  rw [ed]
  generalize w.setCell ⟨P.p, 5, none⟩ (.bool false) = w1 at *
  have c1 : w1.cell? ⟨P.p, 1, none⟩ = some (.pointer (some ⟨P.lb, 0, none⟩)) := H1.out.1.held.cell 1
  have SY := Lib.hid (sync_any w1 P.lb P.d P.s P.G P.F P.m H1.out.1.log I.out.inv.ok (by have := I.out.waits; omega))
  have IS := I.out.sync
  obtain ⟨o, ho⟩ : ∃ o, o = syncO P.s P.m := ⟨_, rfl⟩
  rw [← ho] at SY IS
  clear ho
  rcases IS with ⟨s', m', rfl, hi2, h3, h4, h5, h6, h7, h8⟩ | ⟨m', rfl, h2, h3⟩
  · go_wp2_with fail
    refine SY.out.mono ?_
    rintro e w2 ⟨rfl, ht⟩
    have HT := Lib.hid ht
    clear ht SY c1
    dsimp only at HT
    obtain ⟨G2, F2, hp2, hm2⟩ := H1.out.1.logged HT.out h7
    have HD := heed_any w2 _ tx 0 hp2
    have M3 := hp2.marked false
    have HD : Hid (Calls Tryz.prog 49 #[.pointer (some ⟨P.p, 0, none⟩), .int .i64 0] w2 fun e w' => e = .returned (.int .i64 0) ∧ w' = w2.setCell ⟨P.p, 5, none⟩ (.bool false)) := by
      have := HD
      rw [show ({ P with G := G2, F := F2, s := s', m := m' } : PS).dead = false from I.out.alive] at this
      exact this
    rw [PS.alive_same (P := { P with G := G2, F := F2, s := s', m := m' }) I.out.alive] at M3
    have RES : Hid (Went w (w2.setCell ⟨P.p, 5, none⟩ (.bool false)) P tx fun P' => PInv P' C ∧ P'.m.dead = false ∧ P'.s.synced = C.length ∧ P'.s.first = P.s.first ∧ P'.s.needs = P.s.needs ∧ P'.f = P.f) := by
      refine ⟨_, M3.1, (H1.out.2.trans hm2).trans M3.2, h4, ?_, hi2.inv.alive, h3, h5, h8, rfl⟩
      exact ⟨hi2.inv, hi2.frm, hi2.reg, hi2.fi, hi2.fine, hi2.clear, hi2.home, hi2.away, hi2.wait, hi2.alive⟩
    clear HT I H1 hp2 hm2 M3 hi2 h4 h3 h5 h6 h7 h8
    go_wp2_with fail
    refine HD.out.mono ?_
    rintro e w3 ⟨rfl, rfl⟩
    go_wp2_with fail
    go_ret
    exact .inl ⟨rfl, RES.out⟩
  · go_wp2_with fail
    refine SY.out.mono ?_
    rintro e w2 ⟨rfl, ht⟩
    have HT := Lib.hid ht
    clear ht SY c1
    dsimp only at HT
    obtain ⟨G2, F2, hp2, hm2⟩ := H1.out.1.logged HT.out h3.2.1
    have M3 := hp2.marked true
    have e10 : (P.dead || decide ((10 : Int) = 10)) = true := by simp
    have HD : Hid (Calls Tryz.prog 49 #[.pointer (some ⟨P.p, 0, none⟩), .int .i64 10] w2 fun e w' => e = .returned (.int .i64 10) ∧ w' = w2.setCell ⟨P.p, 5, none⟩ (.bool true)) :=
      Lib.hid ((heed_any w2 _ tx 10 hp2).mono fun e w' h9 => ⟨h9.1, h9.2.trans (by rw [show (({ P with G := G2, F := F2, s := { P.s with dead := true }, m := m' } : PS).dead || decide ((10 : Int) = 10)) = true from e10])⟩)
    have RES : Hid (Died w (w2.setCell ⟨P.p, 5, none⟩ (.bool true)) P tx C) := ⟨_, M3.1, (H1.out.2.trans hm2).trans M3.2, rfl, h3.1, h2, h3.2.2⟩
    clear HT I H1 hp2 hm2 M3 h3 h2 e10
    go_wp2_with fail
    refine HD.out.mono ?_
    rintro e w3 ⟨rfl, rfl⟩
    go_wp2_with fail
    go_ret
    exact .inr ⟨rfl, RES.out⟩
set_option maxRecDepth 100000 in
theorem done_any (w : World) (P : PS) (tx : Value) (C : List Com) (h : PagAt w P tx) (hi : PInv P C) :
    Calls Tryz.prog 21 #[.pointer (some ⟨P.p, 0, none⟩)] w fun e w' => e = .returned (.int .i64 (C.length : Nat)) ∧ ∃ q, w' = w.drewN q := by
  have c1 : w.cell? ⟨P.p, 1, none⟩ = some (.pointer (some ⟨P.lb, 0, none⟩)) := h.held.cell 1
  obtain ⟨vn, hl, _⟩ := h.log.log
  have L := last_any w P.lb P.d vn P.s hl (by have := hi.inv.ok.first; omega) (by have := hi.inv.ok.count; omega)
  rw [hi.last] at L
  have L := Lib.hid L
  clear h hi hl
  go_enter Tryz.func21, Tryz.ntmps21
  go_wp2_with fail
  refine L.out.mono ?_
  rintro e w' ⟨rfl, q, rfl⟩
  go_wp2_with fail
  go_ret
  exact ⟨rfl, q, rfl⟩
end Go.Proofs.YtkajneeihhobhaaGreat

namespace Go.Proofs.YtkajneeihhobhaaGreat
open Go.RowKit Go.Maps Wal Pgr

theorem homes_few {P : PS} {C : List Com} (h : PInv P C) (hN : P.N ≤ 4096) (k : Nat) : (P.m.wait ++ homes P k).length ≤ 20000 := by
  have h1 := h.waits
  have h2 := dirt_le P.N P.f
  unfold homes
  rw [List.length_append, List.length_map, List.length_take]
  omega

/-- The disk, behind the first k writes home. -/
def homeM (P : PS) (k : Nat) : Dsk.DM := { dur := P.m.dur, wait := P.m.wait ++ homes P k, fuel := spend P.m.fuel k, dead := false }
theorem homeM_zero {P : PS} (h : P.m.dead = false) : homeM P 0 = P.m := by
  unfold homeM
  have e1 : homes P 0 = [] := by simp [homes]
  have e2 : spend P.m.fuel 0 = P.m.fuel := by unfold spend; split <;> omega
  rw [e1, e2, List.append_nil, ← h]
theorem home_write {P : PS} {k : Nat} (hk : k < (dirt P.N P.f).length) (hl : Blk ((P.f (dirt P.N P.f)[k]).getD Z)) (hsz : P.reg + P.N = P.m.dur.length) (hf : P.m.fuel = -1 ∨ (k : Int) ≤ P.m.fuel) :
    (spend P.m.fuel k ≠ 0 ∧ (homeM P k).writeErr ((P.reg : Int) + ((dirt P.N P.f)[k] : Nat)) 512 = 0 ∧ (homeM P k).write ((P.reg : Int) + ((dirt P.N P.f)[k] : Nat)) ((P.f (dirt P.N P.f)[k]).getD Z) = homeM P (k + 1) ∧ (P.m.fuel = -1 ∨ ((k + 1 : Nat) : Int) ≤ P.m.fuel)) ∨
    (spend P.m.fuel k = 0 ∧ P.m.fuel ≠ -1 ∧ (homeM P k).writeErr ((P.reg : Int) + ((dirt P.N P.f)[k] : Nat)) 512 = 10 ∧ (homeM P k).write ((P.reg : Int) + ((dirt P.N P.f)[k] : Nat)) ((P.f (dirt P.N P.f)[k]).getD Z) = { homeM P k with dead := true }) := by
  have hb := (mem_dirt.1 (List.getElem_mem hk)).1
  have h1 : ¬ (¬ (0 ≤ (P.reg : Int) + ((dirt P.N P.f)[k] : Nat) ∧ (P.reg : Int) + ((dirt P.N P.f)[k] : Nat) < ((homeM P k).dur.length : Int)) ∨ 512 < 512) := by
    show ¬ (¬ (_ ∧ _ < (P.m.dur.length : Int)) ∨ _)
    omega
  have h2 := hl.len
  have h3 : ¬ (¬ (0 ≤ (P.reg : Int) + ((dirt P.N P.f)[k] : Nat) ∧ (P.reg : Int) + ((dirt P.N P.f)[k] : Nat) < ((homeM P k).dur.length : Int)) ∨ 512 < ((P.f (dirt P.N P.f)[k]).getD Z).length) := by rw [h2]; exact h1
  have ef : (homeM P k).fuel = spend P.m.fuel k := rfl
  have ed : (homeM P k).dead = false := rfl
  by_cases h0 : spend P.m.fuel k = 0
  · right
    have hne : P.m.fuel ≠ -1 := fun e => by rw [e] at h0; simp [spend] at h0
    refine ⟨h0, hne, ?_, ?_⟩
    · unfold Dsk.DM.writeErr
      rw [ed, if_neg (by simp), if_neg h1, ef, if_pos h0]
    · unfold Dsk.DM.write
      rw [ed, if_neg (by simp), if_neg h3, ef, if_pos h0, ← ef]
  · left
    have hsp : P.m.fuel = -1 ∨ ((k + 1 : Nat) : Int) ≤ P.m.fuel := by
      rcases hf with e | e
      · exact .inl e
      · by_cases e2 : P.m.fuel = -1
        · exact .inl e2
        · right
          unfold spend at h0
          rw [if_neg e2] at h0
          omega
    refine ⟨h0, ?_, ?_, hsp⟩
    · unfold Dsk.DM.writeErr
      rw [ed, if_neg (by simp), if_neg h1, ef, if_neg h0]
    · unfold Dsk.DM.write
      rw [ed, if_neg (by simp), if_neg h3, ef, if_neg h0]
      have et : ((P.reg : Int) + ((dirt P.N P.f)[k] : Nat)).toNat = P.reg + (dirt P.N P.f)[k] := by omega
      rw [et]
      unfold Dsk.DM.burn
      rw [ef, if_neg h0]
      have e5 : homeM P (k + 1) = { dur := P.m.dur, wait := (P.m.wait ++ homes P k) ++ [(P.reg + (dirt P.N P.f)[k], (P.f (dirt P.N P.f)[k]).getD Z)], fuel := spend P.m.fuel (k + 1), dead := false } := by
        unfold homeM
        rw [homes_succ hk, List.append_assoc]
      rw [e5]
      by_cases e2 : P.m.fuel = -1
      · have e6 : spend P.m.fuel k = -1 := by unfold spend; rw [if_pos e2]
        have e7 : spend P.m.fuel (k + 1) = -1 := by unfold spend; rw [if_pos e2]
        rw [if_pos e6, e7]
        unfold homeM
        rw [e6]
      · have e6 : spend P.m.fuel k = P.m.fuel - k := by unfold spend; rw [if_neg e2]
        have e7 : spend P.m.fuel (k + 1) = P.m.fuel - (k + 1 : Nat) := by unfold spend; rw [if_neg e2]
        rw [if_neg (by rcases hsp with h | h <;> omega), e7]
        unfold homeM
        rw [e6]
        dsimp only
        congr 1
        omega
def HomeRes (w : World) (P : PS) (tx : Value) (C : List Com) (e : Ending) (w' : World) : Prop :=
  (e = .returned (.int .i64 0) ∧ Went w w' P tx fun P' => PInv P' C ∧ P'.s = P.s ∧ P'.f = P.f ∧ ∀ b, b < P'.N → sec (holds P'.m.dur (P'.reg + b)) = At C b) ∨
  (e = .returned (.int .i64 10) ∧ Died w w' P tx C)
theorem home_flush {P : PS} {n : Nat} (hw : P.m.wait = []) (hf : P.m.fuel = -1 ∨ (n : Int) ≤ P.m.fuel) :
    (∃ m', (homeM P n).flushErr = 0 ∧ (homeM P n).flush = m' ∧ m'.dur = Dsk.apply (homes P n) P.m.dur ∧ m'.wait = [] ∧ m'.dead = false ∧ Fuels P.m m') ∨
    (P.m.fuel ≠ -1 ∧ (homeM P n).flushErr = 10 ∧ (homeM P n).flush = { homeM P n with dead := true }) := by
  have ef : (homeM P n).fuel = spend P.m.fuel n := rfl
  have ed : (homeM P n).dead = false := rfl
  by_cases h0 : spend P.m.fuel n = 0
  · right
    refine ⟨fun e => by rw [e] at h0; simp [spend] at h0, ?_, ?_⟩
    · unfold Dsk.DM.flushErr
      rw [ed, if_neg (by simp), ef, if_pos h0]
    · unfold Dsk.DM.flush
      rw [ed, if_neg (by simp), ef, if_pos h0, ← ef]
  · left
    refine ⟨_, ?_, rfl, ?_, ?_, ?_, ?_⟩
    · unfold Dsk.DM.flushErr
      rw [ed, if_neg (by simp), ef, if_neg h0]
    all_goals unfold Dsk.DM.flush
    · rw [ed, if_neg (by simp), ef, if_neg h0]
      show Dsk.apply (P.m.wait ++ homes P n) P.m.dur = _
      rw [hw, List.nil_append]
    · rw [ed, if_neg (by simp), ef, if_neg h0]
    · rw [ed, if_neg (by simp), ef, if_neg h0]
      unfold Dsk.DM.burn
      rw [ef, if_neg h0]
      split <;> rfl
    · rw [ed, if_neg (by simp), ef, if_neg h0]
      refine ⟨fun e => ?_, fun e => ?_⟩
      · show (homeM P n).burn.fuel = -1
        unfold Dsk.DM.burn
        rw [ef, if_pos (by unfold spend; rw [if_pos e]), ef]
        unfold spend; rw [if_pos e]
      · show -1 ≤ (homeM P n).burn.fuel
        have e7 : (homeM P n).burn.fuel = if spend P.m.fuel n = -1 then spend P.m.fuel n else spend P.m.fuel n - 1 := by
          unfold Dsk.DM.burn
          rw [ef]
          split
          · exact ef
          · simp
        rw [e7]
        have h8 : spend P.m.fuel n = -1 ∨ 0 ≤ spend P.m.fuel n := by
          unfold spend
          split
          · exact .inl rfl
          · right; omega
        split <;> omega
theorem homeM_len (P : PS) (k : Nat) : (homeM P k).dur.length = P.m.dur.length := rfl
/-- A row of the call's own is none of the pager's blocks. -/
theorem home_off {w w2 : World} {P : PS} {tx : Value} {F' : List Nat} {m' : Dsk.DM} {g0 : Nat} (h : PagAt w P tx) (hg : w.heap.size ≤ g0 ∧ g0 < w2.heap.size) (hF : Grown w2 P.F F') : g0 ∉ ({ P with F := F', m := m' } : PS).foot := fun hm => by
  have h1 := h.lt
  rcases pmem_foot.1 hm with h3 | h3 | h3
  · have h3 : g0 = P.p := h3
    omega
  · have h3 : g0 = P.am := h3
    omega
  · have h3 : g0 ∈ P.G ++ F' := h3
    rcases List.mem_append.1 h3 with h3 | h3
    · have := h1.2.2 g0 (List.mem_append.2 (.inl h3)); omega
    · rcases hF g0 h3 with h4 | h4
      · have := h1.2.2 g0 (List.mem_append.2 (.inr h4)); omega
      · omega
set_option maxRecDepth 100000 in
set_option maxHeartbeats 6400000 in
theorem home_any (w : World) (P : PS) (tx : Value) (C : List Com) (h : PagAt w P tx) (hi : PInv P C) (hs : P.s.synced = C.length) (hf : -1 ≤ P.m.fuel) :
    Calls Tryz.prog 82 #[.pointer (some ⟨P.p, 0, none⟩)] w (HomeRes w P tx C) := by
  have hmost := h.most
  have HN4 : Hid (P.N ≤ 4096) := by show _ ≤ _; omega
  have c3 : w.cell? ⟨P.p, 3, none⟩ = some (.map (some P.am)) := h.held.cell 3
  have KS := Lib.hid (keys_seq (some P.am) w)
  have KR := Lib.hid (keys_row w P.am P.N P.f h.away (by omega))
  have H := Lib.hid h
  have I := Lib.hid hi
  have HS : Hid (P.s.synced = C.length ∧ -1 ≤ P.m.fuel) := ⟨hs, hf⟩
  have LTP : Hid (P.p < w.heap.size ∧ P.reg + P.N = P.m.dur.length) := ⟨h.held.lt, h.size.symm⟩
  have FI : Hid (Fine P.N P.f) := fun b l hb => h.away.blk hb
  obtain ⟨n, hn⟩ : ∃ n, n = (dirt P.N P.f).length := ⟨_, rfl⟩
  have hn4 : n ≤ 4096 := by have := dirt_le P.N P.f; omega
  have HN := Lib.hid hn
  clear h hi hs hf hn
  go_enter Tryz.func82, Tryz.ntmps82
  go_wp2_with fail
  refine KS.out.mono ?_
  rintro e w1 ⟨rfl, rfl⟩
  go_wp2_with fail
  refine KR.out.mono ?_
  rintro e w2 ⟨v, rfl, hrow, hb⟩
  rw [← HN.out] at hrow
  have ROW := Lib.hid hrow
  have S2 : Hid (PagAt w2 { P with F := P.F, m := homeM P 0 } tx ∧ Moved w2 w2 P { P with F := P.F, m := homeM P 0 }) := by
    rw [homeM_zero I.out.inv.alive]
    exact ⟨H.out.under hb, Moved.refl w2 P⟩
  have B2 := Lib.hid hb
  obtain ⟨A0, c0, rfl⟩ := pslice hrow
  have GN : Hid (∀ g, A0 = some ⟨g, 0, none⟩ → w.heap.size ≤ g ∧ g < w2.heap.size) := fun g e => hrow.lt g (by rw [e]; rfl)
  have k4 : (n : Int) ≤ 4096 := by omega
  clear hrow hb KS KR c3
  go_wp2_with fail
  go_loopw [14] (fun iv wr => ∃ k F', k ≤ n ∧ iv = .int .i64 (k : Nat) ∧ PagAt wr { P with F := F', m := homeM P k } tx ∧ Moved w2 wr P { P with F := F', m := homeM P k } ∧ wr.ownsRow w.heap.size 3 1 (.slice A0 n c0) n ((dirtI P.N P.f).map encZ) ∧ (P.m.fuel = -1 ∨ (k : Int) ≤ P.m.fuel)) (fun iv _ => n - (intOf iv).toNat)
  case atStart => exact ⟨0, P.F, by omega, rfl, S2.out.1, S2.out.2, ROW.out, by have := HS.out.2; omega⟩
  case round =>
    clear ROW S2
    obtain ⟨k, F', hk, rfl, hp, hm, hr2, hfu⟩ := hrel
    have PK := Lib.hid hp
    have MV := Lib.hid hm
    have R2 := Lib.hid hr2
    have FU := Lib.hid hfu
    by_cases hlt : k < n
    · have hlt' : (k : Int) < (n : Int) := by omega
      have hkd : k < (dirt P.N P.f).length := by rw [← HN.out]; exact hlt
      obtain ⟨bk, hbk⟩ : ∃ bk, bk = (dirt P.N P.f)[k] := ⟨_, rfl⟩
      have hbk2 : (dirt P.N P.f)[k]? = some bk := by rw [hbk]; exact List.getElem?_eq_getElem hkd
      have hbN : bk < P.N := (mem_dirt.1 (List.mem_of_getElem? hbk2)).1
      obtain ⟨g0, rfl⟩ : ∃ g0, A0 = some ⟨g0, 0, none⟩ := by
        rcases hr2.2 with ⟨h1, _⟩ | ⟨g', cap, cur, h1, _⟩
        · injection h1 with _ h2 _
          omega
        · injection h1 with h1 _ _
          exact ⟨g', h1⟩
      have x1 : wr.cell? ⟨g0, k, none⟩ = some (.int .i64 (bk : Int)) := by
        rw [hr2.cellAt k (by omega)]
        unfold dirtI
        rw [List.getElem?_map, List.getElem?_map, hbk2]
        rfl
      have y3 : wr.cell? ⟨P.p, 3, none⟩ = some (.map (some P.am)) := hp.held.cell 3
      have lk := hp.away.look1 bk (by omega)
      have hbl := blk_get FI.out bk
      obtain ⟨L, hL⟩ : ∃ L, L = (P.f bk).getD (Go.Proofs.YtkajneeihhobhaaGreat.sec []) := ⟨_, rfl⟩
      have hLk : L = (P.f (dirt P.N P.f)[k]).getD Z := by rw [hL, hbk]; rfl
      rw [← hL] at lk
      have hlB : Blk L := by rw [hL]; exact hbl
      have HL := Lib.hid hlB
      have HW := home_write hkd (by rw [← hLk]; exact hlB) LTP.out.2 hfu
      rw [← hLk, ← hbk] at HW
      have HW := Lib.hid HW
      have st := store_blk wr L hlB
      obtain ⟨hz, hi0⟩ := zero_of_info zeroBlk
      have hlen := hlB.len
      unfold blkV at lk hz
      clear hL hbl hbk hbk2 hr2 hp hm hfu hi0 hLk hkd hlB
      go_upto_region 5 with fail
      obtain ⟨w3, hw3⟩ : ∃ w3, w3 = wr.alloc (.cells (L.map u8v).toArray 99) := ⟨_, rfl⟩
      obtain ⟨q3, hq3⟩ : ∃ q3, q3 = wr.heap.size := ⟨_, rfl⟩
      have BW : Hid (Below wr.heap.size wr w3) := by rw [hw3]; exact (Below.refl _ _).alloc (Nat.le_refl _) _
      have Q3 : Hid (Held w3 q3 99 (L.map u8v).toArray) := by rw [hw3]; exact Held.new _ _ _ hq3
      have P3 := Lib.hid (PK.out.under BW.out)
      have M3 := Lib.hid (MV.out.under BW.out)
      have R3 : Hid (w3.ownsRow w.heap.size 3 1 (.slice (some ⟨g0, 0, none⟩) n c0) n ((dirtI P.N P.f).map encZ)) := (Only.of_below (F := []) BW.out).row R2.out (fun _ _ hx => by cases hx)
      have QN : Hid (q3 ∉ F' ∧ q3 ∉ P.foot ∧ w.heap.size ≤ q3) := by
        refine ⟨fun hx => ?_, fun hx => ?_, ?_⟩
        · have := PK.out.lt.2.2 q3 (List.mem_append.2 (.inr hx)); omega
        · have h1 := H.out.lt
          have h2 := MV.out.only.size
          have h4 := B2.out.size
          rcases pmem_foot.1 hx with h3 | h3 | h3
          · omega
          · omega
          · have := h1.2.2 _ h3; omega
        · have := MV.out.only.size; have := B2.out.size; omega
      rw [← hw3, ← hq3]
      have y0 : w3.cell? ⟨P.p, 0, none⟩ = some (.pointer (some ⟨P.d, 0, none⟩)) := P3.out.held.cell 0
      have y2 : w3.cell? ⟨P.p, 2, none⟩ = some (.int .i64 (P.reg : Int)) := P3.out.held.cell 2
      have WA := write_any w3.drew P.d F' (homeM P k) ((P.reg : Int) + (bk : Int)) (some ⟨q3, 0, none⟩) 512 512 L P3.out.log.disk.drew ((Q3.out.bts HL.out).drewN 1) (by omega) (fun _ x hx => by injection hx with hx; rw [← hx]; exact QN.out.1) (by
        show (P.m.wait ++ homes P k).length ≤ _
        have h1 := I.out.waits
        have h2 : (homes P k).length ≤ 4096 := by
          have := dirt_le P.N P.f
          unfold homes
          rw [List.length_map, List.length_take]
          omega
        rw [List.length_append]
        omega)
      have e1 : IntKind.i64.wrap ((P.reg : Int) + (bk : Int)) = (P.reg : Int) + (bk : Int) := by rw [IntKind.wrap_i64]; omega
      clear hw3 hq3 x1 y3 lk st hz PK MV R2 BW
      rcases HW.out with ⟨h0, h1, h2, h3⟩ | ⟨h0, h1, h2, h3⟩
      · rw [h1, h2] at WA
        have WA := Lib.hid WA
        have FU1 := Lib.hid h3
        clear h0 h1 h2 h3 HW FU
        refine wp_region_noPanic ?_
        refine wp_region_held_drew (S := fun w' => w'.cell? ⟨P.p, 0, none⟩ = some (.pointer (some ⟨P.d, 0, none⟩)) ∧ w'.cell? ⟨P.p, 2, none⟩ = some (.int .i64 (P.reg : Int))) (by kernel_rfl) ⟨y0, y2⟩ (fun hHeld => ?_)
        refine take_ (i := 0) (v := ?_) 24 rfl rfl (by kernel_rfl) (by kernel_rfl) (by kernel_rfl) (fun _ _ _ h => h) (Or.inl ⟨by rfl, ?_⟩) (by assumption) ?_
        rotate_left
        · (intro wS hSw; (try dsimp only at hSw); go_simp; try with_reducible rfl)
        simp only [Act.put, List.setIfInBounds_toArray, List.set_cons_zero, List.set_cons_succ]
        refine take_ (i := 1) (v := ?_) 25 rfl rfl (by kernel_rfl) (by kernel_rfl) (by kernel_rfl) (fun _ _ _ h => h) (Or.inl ⟨by rfl, ?_⟩) (by assumption) ?_
        rotate_left
        · (intro wS hSw; (try dsimp only at hSw); go_simp; try with_reducible rfl)
        simp only [Act.put, List.setIfInBounds_toArray, List.set_cons_zero, List.set_cons_succ]
        refine take_ (i := 2) (v := ?_) 26 rfl rfl (by kernel_rfl) (by kernel_rfl) (by kernel_rfl) (fun _ _ _ h => h) (Or.inl ⟨by rfl, ?_⟩) (by assumption) ?_
        rotate_left
        · (intro wS hSw; (try dsimp only at hSw); go_simp; try with_reducible rfl)
        simp only [Act.put, List.setIfInBounds_toArray, List.set_cons_zero, List.set_cons_succ]
        refine take_ (i := 3) (v := ?_) 27 rfl rfl (by kernel_rfl) (by kernel_rfl) (by kernel_rfl) (fun _ _ _ h => h) (Or.inl ⟨by rfl, ?_⟩) (by assumption) ?_
        rotate_left
        · (intro wS hSw; (try dsimp only at hSw); go_simp; try with_reducible rfl)
        simp only [Act.put, List.setIfInBounds_toArray, List.set_cons_zero, List.set_cons_succ]
        refine take_ (i := 4) (v := ?_) 28 rfl rfl (by kernel_rfl) (by kernel_rfl) (by kernel_rfl) (fun _ _ _ h => h) (Or.inl ⟨by rfl, ?_⟩) (by assumption) ?_
        rotate_left
        · (intro wS hSw; (try dsimp only at hSw); go_simp; try with_reducible rfl)
        simp only [Act.put, List.setIfInBounds_toArray, List.set_cons_zero, List.set_cons_succ]
        refine take_ (i := 5) (v := ?_) 29 rfl rfl (by kernel_rfl) (by kernel_rfl) (by kernel_rfl) (fun _ _ _ h => h) (Or.inl ⟨by rfl, ?_⟩) (by assumption) ?_
        rotate_left
        · (intro wS hSw; (try dsimp only at hSw); go_simp; try with_reducible rfl)
        simp only [Act.put, List.setIfInBounds_toArray, List.set_cons_zero, List.set_cons_succ]
        refine take_ (i := 6) (v := ?_) 30 rfl rfl (by kernel_rfl) (by kernel_rfl) (by kernel_rfl) (fun _ _ _ h => h) (Or.inl ⟨by rfl, ?_⟩) (by assumption) ?_
        rotate_left
        · (intro wS hSw; (try dsimp only at hSw); go_simp; try with_reducible rfl)
        simp only [Act.put, List.setIfInBounds_toArray, List.set_cons_zero, List.set_cons_succ]
        refine take_ (i := 7) (v := ?_) 31 rfl rfl (by kernel_rfl) (by kernel_rfl) (by kernel_rfl) (fun _ _ _ h => h) (Or.inl ⟨by rfl, ?_⟩) (by assumption) ?_
        rotate_left
        · (intro wS hSw; (try dsimp only at hSw); go_simp; try with_reducible rfl)
        simp only [Act.put, List.setIfInBounds_toArray, List.set_cons_zero, List.set_cons_succ]
        refine take_ (i := 8) (v := ?_) 32 rfl rfl (by kernel_rfl) (by kernel_rfl) (by kernel_rfl) (fun _ _ _ h => h) (Or.inl ⟨by rfl, ?_⟩) (by assumption) ?_
        rotate_left
        · (intro wS hSw; (try dsimp only at hSw); go_simp; try with_reducible rfl)
        simp only [Act.put, List.setIfInBounds_toArray, List.set_cons_zero, List.set_cons_succ]
        refine take_ (i := 9) (v := ?_) 33 rfl rfl (by kernel_rfl) (by kernel_rfl) (by kernel_rfl) (fun _ _ _ h => h) (Or.inl ⟨by rfl, ?_⟩) (by assumption) ?_
        rotate_left
        · (intro wS hSw; (try dsimp only at hSw); go_simp; try with_reducible rfl)
        simp only [Act.put, List.setIfInBounds_toArray, List.set_cons_zero, List.set_cons_succ]
        refine take_ (i := 10) (v := ?_) 34 rfl rfl (by kernel_rfl) (by kernel_rfl) (by kernel_rfl) (fun _ _ _ h => h) (Or.inl ⟨by rfl, ?_⟩) (by assumption) ?_
        rotate_left
        · (intro wS hSw; (try dsimp only at hSw); go_simp; try with_reducible rfl)
        simp only [Act.put, List.setIfInBounds_toArray, List.set_cons_zero, List.set_cons_succ]
        refine take_ (i := 11) (v := ?_) 35 rfl rfl (by kernel_rfl) (by kernel_rfl) (by kernel_rfl) (fun _ _ _ h => h) (Or.inl ⟨by rfl, ?_⟩) (by assumption) ?_
        rotate_left
        · (intro wS hSw; (try dsimp only at hSw); go_simp; try with_reducible rfl)
        simp only [Act.put, List.setIfInBounds_toArray, List.set_cons_zero, List.set_cons_succ]
        refine one_ (i := 12) _ (by kernel_rfl) rfl (fun K hK => ?_)
        go_simp
        refine WA.out.mono ?_
        rintro e w4 ⟨rfl, ht⟩
        obtain ⟨F4, hp4, hm4⟩ := (P3.out.drewN 1).disked ht rfl
        have z0 : w4.cell? ⟨P.p, 0, none⟩ = some (.pointer (some ⟨P.d, 0, none⟩)) := hp4.held.cell 0
        have z2 : w4.cell? ⟨P.p, 2, none⟩ = some (.int .i64 (P.reg : Int)) := hp4.held.cell 2
        have e00 : (P.dead || decide ((0 : Int) = 10)) = false := by rw [I.out.alive]; rfl
        have HD := Lib.hid ((heed_any w4 _ tx 0 hp4).mono fun e w' (h9 : e = .returned (.int .i64 0) ∧ w' = w4.setCell ⟨P.p, 5, none⟩ (.bool (P.dead || decide ((0 : Int) = 10)))) => (⟨h9.1, by rw [h9.2, e00]⟩ : e = .returned (.int .i64 0) ∧ w' = w4.setCell ⟨P.p, 5, none⟩ (.bool false)))
        have M5 := hp4.marked false
        rw [PS.alive_same (by exact I.out.alive)] at M5
        have G5 : Hid (PagAt (w4.setCell ⟨P.p, 5, none⟩ (.bool false)) { P with F := F4, m := homeM P (k + 1) } tx ∧ Moved w2 (w4.setCell ⟨P.p, 5, none⟩ (.bool false)) P { P with F := F4, m := homeM P (k + 1) }) :=
          ⟨M5.1, ((M3.out.under ((Below.refl _ _).drew)).trans hm4).trans M5.2⟩
        have R5 : Hid ((w4.setCell ⟨P.p, 5, none⟩ (.bool false)).ownsRow w.heap.size 3 1 (.slice (some ⟨g0, 0, none⟩) n c0) n ((dirtI P.N P.f).map encZ)) := by
          refine (hm4.trans M5.2).only.row (ownsRow_drew R3.out) (fun x hx hm => ?_)
          have hx : g0 = x := by simpa [Value.ownBlock] using hx
          subst hx
          exact home_off H.out (GN.out g0 rfl) M3.out.gF hm
        clear ht hp4 hm4 M5 WA e00
        go_wp2_with fail
        refine hK.out _ _ ⟨z0, z2⟩ (fun hHeld => ?_)
        clear hK K
        refine one_ (i := 13) _ (by kernel_rfl) rfl (fun K hK => ?_)
        go_simp
        refine HD.out.mono ?_
        rintro e w5 ⟨rfl, rfl⟩
        go_wp2_with fail
        refine hK.out _ _ ⟨(World.cell?_setCell_other _ _ _ _ (fun e => by injection e; omega)).trans z0, (World.cell?_setCell_other _ _ _ _ (fun e => by injection e; omega)).trans z2⟩ (fun hHeld => ?_)
        clear hK K
        refine take_ (i := 14) (v := ?_) 6 rfl rfl (by kernel_rfl) (by kernel_rfl) (by kernel_rfl) (fun _ _ _ h => h) (Or.inl ⟨by rfl, ?_⟩) (by assumption) ?_
        rotate_left
        · (intro wS hSw; (try dsimp only at hSw); go_simp; try with_reducible rfl)
        simp only [Act.put, List.setIfInBounds_toArray, List.set_cons_zero, List.set_cons_succ]
        refine wpAnyH_done (by kernel_rfl) ?_ _
        refine NoPanic.normal ?_
        clear z0 z2 HD hHeld y0 y2 P3 M3 R3 Q3 QN e1
        go_wp2_with fail
        go_roundw
        case rel => exact ⟨k + 1, F4, by omega, by go_num, G5.out.1, G5.out.2, R5.out, FU1.out⟩
        case measure => simp [intOf]; omega
      · rw [h2, h3] at WA
        have WA := Lib.hid WA
        have FE := Lib.hid h1
        clear h0 h1 h2 h3 HW FU R3 GN
        refine wp_region_noPanic ?_
        refine wp_region_held_drew (S := fun w' => w'.cell? ⟨P.p, 0, none⟩ = some (.pointer (some ⟨P.d, 0, none⟩)) ∧ w'.cell? ⟨P.p, 2, none⟩ = some (.int .i64 (P.reg : Int))) (by kernel_rfl) ⟨y0, y2⟩ (fun hHeld => ?_)
        refine take_ (i := 0) (v := ?_) 24 rfl rfl (by kernel_rfl) (by kernel_rfl) (by kernel_rfl) (fun _ _ _ h => h) (Or.inl ⟨by rfl, ?_⟩) (by assumption) ?_
        rotate_left
        · (intro wS hSw; (try dsimp only at hSw); go_simp; try with_reducible rfl)
        simp only [Act.put, List.setIfInBounds_toArray, List.set_cons_zero, List.set_cons_succ]
        refine take_ (i := 1) (v := ?_) 25 rfl rfl (by kernel_rfl) (by kernel_rfl) (by kernel_rfl) (fun _ _ _ h => h) (Or.inl ⟨by rfl, ?_⟩) (by assumption) ?_
        rotate_left
        · (intro wS hSw; (try dsimp only at hSw); go_simp; try with_reducible rfl)
        simp only [Act.put, List.setIfInBounds_toArray, List.set_cons_zero, List.set_cons_succ]
        refine take_ (i := 2) (v := ?_) 26 rfl rfl (by kernel_rfl) (by kernel_rfl) (by kernel_rfl) (fun _ _ _ h => h) (Or.inl ⟨by rfl, ?_⟩) (by assumption) ?_
        rotate_left
        · (intro wS hSw; (try dsimp only at hSw); go_simp; try with_reducible rfl)
        simp only [Act.put, List.setIfInBounds_toArray, List.set_cons_zero, List.set_cons_succ]
        refine take_ (i := 3) (v := ?_) 27 rfl rfl (by kernel_rfl) (by kernel_rfl) (by kernel_rfl) (fun _ _ _ h => h) (Or.inl ⟨by rfl, ?_⟩) (by assumption) ?_
        rotate_left
        · (intro wS hSw; (try dsimp only at hSw); go_simp; try with_reducible rfl)
        simp only [Act.put, List.setIfInBounds_toArray, List.set_cons_zero, List.set_cons_succ]
        refine take_ (i := 4) (v := ?_) 28 rfl rfl (by kernel_rfl) (by kernel_rfl) (by kernel_rfl) (fun _ _ _ h => h) (Or.inl ⟨by rfl, ?_⟩) (by assumption) ?_
        rotate_left
        · (intro wS hSw; (try dsimp only at hSw); go_simp; try with_reducible rfl)
        simp only [Act.put, List.setIfInBounds_toArray, List.set_cons_zero, List.set_cons_succ]
        refine take_ (i := 5) (v := ?_) 29 rfl rfl (by kernel_rfl) (by kernel_rfl) (by kernel_rfl) (fun _ _ _ h => h) (Or.inl ⟨by rfl, ?_⟩) (by assumption) ?_
        rotate_left
        · (intro wS hSw; (try dsimp only at hSw); go_simp; try with_reducible rfl)
        simp only [Act.put, List.setIfInBounds_toArray, List.set_cons_zero, List.set_cons_succ]
        refine take_ (i := 6) (v := ?_) 30 rfl rfl (by kernel_rfl) (by kernel_rfl) (by kernel_rfl) (fun _ _ _ h => h) (Or.inl ⟨by rfl, ?_⟩) (by assumption) ?_
        rotate_left
        · (intro wS hSw; (try dsimp only at hSw); go_simp; try with_reducible rfl)
        simp only [Act.put, List.setIfInBounds_toArray, List.set_cons_zero, List.set_cons_succ]
        refine take_ (i := 7) (v := ?_) 31 rfl rfl (by kernel_rfl) (by kernel_rfl) (by kernel_rfl) (fun _ _ _ h => h) (Or.inl ⟨by rfl, ?_⟩) (by assumption) ?_
        rotate_left
        · (intro wS hSw; (try dsimp only at hSw); go_simp; try with_reducible rfl)
        simp only [Act.put, List.setIfInBounds_toArray, List.set_cons_zero, List.set_cons_succ]
        refine take_ (i := 8) (v := ?_) 32 rfl rfl (by kernel_rfl) (by kernel_rfl) (by kernel_rfl) (fun _ _ _ h => h) (Or.inl ⟨by rfl, ?_⟩) (by assumption) ?_
        rotate_left
        · (intro wS hSw; (try dsimp only at hSw); go_simp; try with_reducible rfl)
        simp only [Act.put, List.setIfInBounds_toArray, List.set_cons_zero, List.set_cons_succ]
        refine take_ (i := 9) (v := ?_) 33 rfl rfl (by kernel_rfl) (by kernel_rfl) (by kernel_rfl) (fun _ _ _ h => h) (Or.inl ⟨by rfl, ?_⟩) (by assumption) ?_
        rotate_left
        · (intro wS hSw; (try dsimp only at hSw); go_simp; try with_reducible rfl)
        simp only [Act.put, List.setIfInBounds_toArray, List.set_cons_zero, List.set_cons_succ]
        refine take_ (i := 10) (v := ?_) 34 rfl rfl (by kernel_rfl) (by kernel_rfl) (by kernel_rfl) (fun _ _ _ h => h) (Or.inl ⟨by rfl, ?_⟩) (by assumption) ?_
        rotate_left
        · (intro wS hSw; (try dsimp only at hSw); go_simp; try with_reducible rfl)
        simp only [Act.put, List.setIfInBounds_toArray, List.set_cons_zero, List.set_cons_succ]
        refine take_ (i := 11) (v := ?_) 35 rfl rfl (by kernel_rfl) (by kernel_rfl) (by kernel_rfl) (fun _ _ _ h => h) (Or.inl ⟨by rfl, ?_⟩) (by assumption) ?_
        rotate_left
        · (intro wS hSw; (try dsimp only at hSw); go_simp; try with_reducible rfl)
        simp only [Act.put, List.setIfInBounds_toArray, List.set_cons_zero, List.set_cons_succ]
        refine one_ (i := 12) _ (by kernel_rfl) rfl (fun K hK => ?_)
        go_simp
        refine WA.out.mono ?_
        rintro e w4 ⟨rfl, ht⟩
        obtain ⟨F4, hp4, hm4⟩ := (P3.out.drewN 1).disked ht rfl
        have z0 : w4.cell? ⟨P.p, 0, none⟩ = some (.pointer (some ⟨P.d, 0, none⟩)) := hp4.held.cell 0
        have z2 : w4.cell? ⟨P.p, 2, none⟩ = some (.int .i64 (P.reg : Int)) := hp4.held.cell 2
        have e00 : (P.dead || decide ((10 : Int) = 10)) = true := by simp
        have HD := Lib.hid ((heed_any w4 _ tx 10 hp4).mono fun e w' (h9 : e = .returned (.int .i64 10) ∧ w' = w4.setCell ⟨P.p, 5, none⟩ (.bool (P.dead || decide ((10 : Int) = 10)))) => (⟨h9.1, by rw [h9.2, e00]⟩ : e = .returned (.int .i64 10) ∧ w' = w4.setCell ⟨P.p, 5, none⟩ (.bool true)))
        have M5 := hp4.marked true
        have G5 : Hid (Died w (w4.setCell ⟨P.p, 5, none⟩ (.bool true)) P tx C) :=
          ⟨_, M5.1, ((((Moved.refl w P).under B2.out).trans (M3.out.under ((Below.refl _ _).drew))).trans hm4).trans M5.2, rfl, rfl, FE.out, fun kp => ⟨C.length, Nat.le_of_eq HS.out.1, Nat.le_refl _, _, _, by rw [Pgr.take_len]; exact I.out.homing HS.out.1 k kp⟩, homes_few I.out HN4.out k⟩
        clear ht hp4 hm4 M5 WA e00
        go_wp2_with fail
        refine hK.out _ _ ⟨z0, z2⟩ (fun hHeld => ?_)
        clear hK K
        refine one_ (i := 13) _ (by kernel_rfl) rfl (fun K hK => ?_)
        go_simp
        refine HD.out.mono ?_
        rintro e w5 ⟨rfl, rfl⟩
        go_wp2_with fail
        refine hK.out _ _ ⟨(World.cell?_setCell_other _ _ _ _ (fun e => by injection e; omega)).trans z0, (World.cell?_setCell_other _ _ _ _ (fun e => by injection e; omega)).trans z2⟩ (fun hHeld => ?_)
        clear hK K
        refine take_ (i := 14) (v := ?_) 6 rfl rfl (by kernel_rfl) (by kernel_rfl) (by kernel_rfl) (fun _ _ _ h => h) (Or.inl ⟨by rfl, ?_⟩) (by assumption) ?_
        rotate_left
        · (intro wS hSw; (try dsimp only at hSw); go_simp; try with_reducible rfl)
        simp only [Act.put, List.setIfInBounds_toArray, List.set_cons_zero, List.set_cons_succ]
        refine wpAnyH_done (by kernel_rfl) ?_ _
        refine NoPanic.normal ?_
        clear z0 z2 HD hHeld y0 y2 P3 M3 Q3 QN e1
        go_wp2_with fail
        go_ret
        exact .inr ⟨rfl, G5.out⟩
    · obtain rfl : k = n := by omega
      have c0 : wr.cell? ⟨P.p, 0, none⟩ = some (.pointer (some ⟨P.d, 0, none⟩)) := PK.out.held.cell 0
      have FA := flush_any wr P.d F' (homeM P k) PK.out.log.disk (by
        show (P.m.wait ++ homes P k).length ≤ _
        have h1 := I.out.waits
        have h2 : (homes P k).length ≤ 4096 := by
          have := dirt_le P.N P.f
          unfold homes
          rw [List.length_map, List.length_take]
          omega
        rw [List.length_append]
        omega)
      have HF := home_flush (n := k) (I.out.wait_none HS.out.1) FU.out
      clear hr2 hp hm hfu R2
      rcases HF with ⟨m', h1, h2, h3, h4, h5, h6⟩ | ⟨h0, h1, h2⟩
      · rw [h1, h2] at FA
        have FA := Lib.hid FA
        have hl' : m'.dur.length = P.m.dur.length := by rw [h3, Dsk.apply_length]
        have HM := I.out.homed HS.out.1 LTP.out.2.symm (m' := m') (by rw [h3, HN.out]) h4 h5
        have HM := Lib.hid HM
        have H6 : Hid (Fuels P.m m' ∧ m'.dur.length = P.m.dur.length) := ⟨h6, hl'⟩
        clear h1 h2 h3 h4 h5 h6 hl'
        go_wp2_with fail
        refine FA.out.mono ?_
        rintro e w4 ⟨rfl, ht⟩
        obtain ⟨F4, hp4, hm4⟩ := PK.out.disked ht H6.out.2
        have e00 : (P.dead || decide ((0 : Int) = 10)) = false := by rw [I.out.alive]; rfl
        have HD := Lib.hid ((heed_any w4 _ tx 0 hp4).mono fun e w' (h9 : e = .returned (.int .i64 0) ∧ w' = w4.setCell ⟨P.p, 5, none⟩ (.bool (P.dead || decide ((0 : Int) = 10)))) => (⟨h9.1, by rw [h9.2, e00]⟩ : e = .returned (.int .i64 0) ∧ w' = w4.setCell ⟨P.p, 5, none⟩ (.bool false)))
        have M5 := hp4.marked false
        rw [PS.alive_same (by exact I.out.alive)] at M5
        have G5 : Hid (Went w (w4.setCell ⟨P.p, 5, none⟩ (.bool false)) P tx fun P' => PInv P' C ∧ P'.s = P.s ∧ P'.f = P.f ∧ ∀ b, b < P'.N → sec (holds P'.m.dur (P'.reg + b)) = At C b) := by
          refine ⟨_, M5.1, ((((Moved.refl w P).under B2.out).trans MV.out).trans hm4).trans M5.2, H6.out.1, ?_, rfl, rfl, HM.out.2⟩
          have i := HM.out.1
          exact ⟨i.inv, i.frm, i.reg, i.fi, i.fine, i.clear, i.home, i.away, i.wait, i.alive⟩
        clear ht hp4 hm4 M5 FA e00 c0 PK MV
        go_wp2_with fail
        refine HD.out.mono ?_
        rintro e w5 ⟨rfl, rfl⟩
        go_wp2_with fail
        go_ret
        exact .inl ⟨rfl, G5.out⟩
      · rw [h1, h2] at FA
        have FA := Lib.hid FA
        have FE := Lib.hid h0
        clear h0 h1 h2
        go_wp2_with fail
        refine FA.out.mono ?_
        rintro e w4 ⟨rfl, ht⟩
        obtain ⟨F4, hp4, hm4⟩ := PK.out.disked ht rfl
        have e00 : (P.dead || decide ((10 : Int) = 10)) = true := by simp
        have HD := Lib.hid ((heed_any w4 _ tx 10 hp4).mono fun e w' (h9 : e = .returned (.int .i64 10) ∧ w' = w4.setCell ⟨P.p, 5, none⟩ (.bool (P.dead || decide ((10 : Int) = 10)))) => (⟨h9.1, by rw [h9.2, e00]⟩ : e = .returned (.int .i64 10) ∧ w' = w4.setCell ⟨P.p, 5, none⟩ (.bool true)))
        have M5 := hp4.marked true
        have G5 : Hid (Died w (w4.setCell ⟨P.p, 5, none⟩ (.bool true)) P tx C) :=
          ⟨_, M5.1, ((((Moved.refl w P).under B2.out).trans MV.out).trans hm4).trans M5.2, rfl, rfl, FE.out, fun kp => ⟨C.length, Nat.le_of_eq HS.out.1, Nat.le_refl _, _, _, by rw [Pgr.take_len]; exact I.out.homing HS.out.1 k kp⟩, homes_few I.out HN4.out k⟩
        clear ht hp4 hm4 M5 FA e00 c0 PK MV
        go_wp2_with fail
        refine HD.out.mono ?_
        rintro e w5 ⟨rfl, rfl⟩
        go_wp2_with fail
        go_ret
        exact .inr ⟨rfl, G5.out⟩
end Go.Proofs.YtkajneeihhobhaaGreat
