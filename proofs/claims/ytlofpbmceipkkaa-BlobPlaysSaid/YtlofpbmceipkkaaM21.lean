/-
  blob: free.
-/
import Derived.Test.YtlofpbmceipkkaaM20
namespace Go.Proofs.Ytlofpbmceipkkaa
open Go.RowKit Wal Blob

attribute [local go_sem] Oper.semAt_some

/-- The blocks bs are free. -/
def wipe (f : Nat → Option KB) (bs : List Nat) : Nat → Option KB := fun j => if j + 1 ∈ bs then none else f j
theorem wipe_nil (f : Nat → Option KB) : wipe f [] = f := by funext j; simp [wipe]
theorem wipe_far {f : Nat → Option KB} {bs : List Nat} {v : Nat} (h1 : 1 ≤ v) (h : v ∉ bs) : wipe f bs (v - 1) = f (v - 1) := by
  unfold wipe
  rw [show v - 1 + 1 = v by omega, if_neg h]
theorem wipe_more (f : Nat → Option KB) (bs : List Nat) (v : Nat) (h1 : 1 ≤ v) : put (wipe f bs) (v - 1) none = wipe f (v :: bs) := by
  funext j
  unfold put wipe
  by_cases c : j = v - 1
  · rw [if_pos c, if_pos (by rw [c, show v - 1 + 1 = v by omega]; simp)]
  · rw [if_neg c]
    have e : j + 1 ≠ v := by omega
    simp [e]
theorem Kp.past {B C : Nat} {w W W' : World} (h : Kp B w W) (hb : Below C W W') (hC : w.heap.size ≤ C) : Kp B w W' :=
  ⟨hb.os.trans h.os, hb.tape.trans h.tape, hb.output.trans h.output, Nat.le_trans h.size hb.size, fun k hk hf => (hb.block k (by omega)).trans (h.block k hk hf)⟩
theorem KeepsFrom.of_kp {B C : Nat} {W W' : World} (h : Kp B W W') : KeepsFrom C W W' := ⟨h.size, fun k o _ ho hc => (h.block k (Array.getElem?_eq_some_iff.1 ho).1 (.inr fun cs t m hh => by
  rw [ho] at hh
  injection hh with hh
  subst hh
  cases hc)).trans ho⟩
/-- Each block of a blob is taken, and not held. -/
theorem There.mine {n : Nat} {f : Nat → Option KB} {h : Nat} {parts l : List Nat} (t : There n f h parts l) : (∀ v ∈ allB h parts, 1 ≤ v ∧ v ≤ 4096 ∧ ∃ x, f (v - 1) = some (x, false)) ∧ (allB h parts).Pairwise (· < ·) ∧ (∀ v ∈ parts, v ∈ allB h parts) ∧ (allB h parts).length ≤ 97 := by
  rcases t with ⟨rfl, rfl, _⟩ | t
  · simp [allB]
  · have e : allB h parts = h :: parts := if_neg (by have := t.fine.pos; omega)
    rw [e]
    refine ⟨fun v hv => ?_, t.fine.rise, fun v hv => by simp [hv], by have := t.fine.few; simp; omega⟩
    refine ⟨?_, t.fine.most v hv, ?_⟩
    · rcases List.mem_cons.1 hv with rfl | hv
      · exact t.fine.pos
      · have := (List.pairwise_cons.1 t.fine.rise).1 v hv
        omega
    · rcases List.mem_cons.1 hv with rfl | hv
      · exact ⟨_, t.head⟩
      · obtain ⟨i, hi, rfl⟩ := List.mem_iff_getElem.1 hv
        exact ⟨_, t.part i _ (List.getElem?_eq_getElem hi)⟩
theorem backward_any (w : World) (A : Option Addr) (n c : Nat) : Calls Try.prog 35 #[.slice A n c] w fun e w' => e = .returned (.func (.func 48) #[] #[.pointer (some ⟨w.heap.size, 0, none⟩)]) ∧ w' = w.alloc (.cells #[.slice A n c] 59) := by
  go_enter Try.func35, Try.ntmps35
  go_wp2_with fail
  go_ret
  exact ⟨rfl, rfl⟩
set_option maxRecDepth 100000 in
set_option maxHeartbeats 3200000 in
theorem bfree_any (B : Nat) (w : World) (p n : Nat) (f : Nat → Option KB) (hm : MemAt B w p n f) (h : Nat) (parts l : List Nat) (t : There n f h parts l) (A : Option Addr) (c : Nat) (hi : IntsAt w A parts) :
    Calls Try.prog 21 #[blobV (sto p) h l.length A parts.length c] w fun e w' => e = .returned (.tuple #[]) ∧ MemAt B w' p n (wipe f (allB h parts)) ∧ Kp B w w' := by
  obtain ⟨hmine, hrise, hsub, hlen⟩ := t.mine
  have HL := Lib.hid hlen
  clear hlen
  have ML := Lib.hid hmine
  have RI := Lib.hid hrise
  have SU := Lib.hid hsub
  have few := t.few
  have HM := Lib.hid hm
  have HI := Lib.hid hi
  obtain ⟨w1, hw1⟩ : ∃ w1, w1 = w.alloc (.cells (blobCs (sto p) h l.length A parts.length c) 61) := ⟨_, rfl⟩
  obtain ⟨b, hb⟩ : ∃ b, b = w.heap.size := ⟨_, rfl⟩
  have B1 : Hid (Below w.heap.size w w1) := by rw [hw1]; exact (Below.refl _ _).alloc (Nat.le_refl _) _
  have H1 : Hid (Held w1 b 61 (blobCs (sto p) h l.length A parts.length c)) := by rw [hw1]; exact Held.new _ _ _ hb
  obtain ⟨d0, d1, d2, d3, _⟩ := H1.out.blob
  obtain ⟨sv, hsv⟩ : ∃ sv, sv = sto p := ⟨_, rfl⟩
  have HS := Lib.hid hsv
  have HW := Lib.hid hw1
  have HBB := Lib.hid hb
  clear hb
  clear hm t hi hw1 hmine hrise hsub
  unfold blobV blobCs at *
  rw [← hsv] at d0 HW H1 ⊢
  unfold sto at hsv
  subst hsv
  refine (callsIn_wide (n := 6)).1 ?_
  refine callsIn_of_wp_marks Try.func21 rfl trivial ?_ rfl
  refine wpIn_wide.2 ?_
  simp only [Try.ntmps21, List.size_toArray, List.length_cons, List.length_nil, Nat.reduceAdd, Nat.reduceSub, Array.replicate_succ, Array.replicate_zero, List.push_toArray, List.append_toArray, List.nil_append, List.cons_append]
  go_upto_region 1 with fail
  rw [← HW.out, ← HBB.out]
  clear HW
  go_wp2_with fail
  go_loopw [9] (fun i wr => ∃ k : Nat, k ≤ parts.length ∧ i = .int .i64 k ∧ Hid (Below w1.heap.size w1 wr)) (fun i _ => parts.length - (intOf i).toNat)
  case atStart => exact ⟨0, by omega, rfl, Below.refl _ _⟩
  case round =>
    obtain ⟨k, hk, rfl, BB⟩ := hrel
    have HH := Lib.hid (H1.out.below BB.out H1.out.lt)
    by_cases hlt : k < parts.length
    · have c0 : wr.cell? ⟨b, 0, none⟩ = some (.iface 24 (.pointer (some ⟨p, 0, none⟩))) := HH.out.cell 0
      have BW : Hid (Below w.heap.size w wr) := B1.out.trans (BB.out.mono B1.out.size)
      obtain ⟨g2, off2, rfl, hc⟩ := (HI.out.below BW.out).cell hlt
      have hx : parts.getD k 0 ∈ allB h parts := by
        rw [List.getD_eq_getElem?_getD, List.getElem?_eq_getElem hlt]
        exact SU.out _ (List.getElem_mem hlt)
      obtain ⟨x1, _, y, hy⟩ := ML.out _ hx
      have RD := Lib.hid (bread_any B wr p n f (HM.out.under BW.out) _ _ hy)
      generalize parts.getD k 0 = x at *
      rw [show (((x - 1 : Nat) : Int) + 1) = (x : Int) by omega, ← HS.out] at RD
      have lk : (k : Int) < (parts.length : Int) := by omega
      clear hx hy x1 d0 d1 d2 d3
      go_wp2_with fail
      refine RD.out.mono ?_
      rintro e w3 ⟨g, cp, rfl, _, _, _, hb3⟩
      have F3 : Hid (Below w1.heap.size w1 w3) := BB.out.trans (hb3.mono BB.out.size)
      clear hb3 RD
      go_wp2_with fail
      go_roundw
      case rel => exact ⟨k + 1, by omega, by go_num, F3⟩
      case measure => simp [intOf]; omega
    · obtain rfl : k = parts.length := by omega
      have BW : Hid (Below w.heap.size w wr) := B1.out.trans (BB.out.mono B1.out.size)
      have c0 : wr.cell? ⟨b, 0, none⟩ = some (.iface 24 (.pointer (some ⟨p, 0, none⟩))) := HH.out.cell 0
      have c1 : wr.cell? ⟨b, 1, none⟩ = some (.int .i64 (h : Int)) := HH.out.cell 1
      have c2 : wr.cell? ⟨b, 2, none⟩ = some (.int .i64 (l.length : Int)) := HH.out.cell 2
      have c3 : wr.cell? ⟨b, 3, none⟩ = some (.slice A parts.length c) := HH.out.cell 3
      have BL := Lib.hid (blocks_any wr (.iface 24 (.pointer (some ⟨p, 0, none⟩))) h l.length parts A parts.length c rfl (HI.out.below BW.out) few ⟨p, rfl⟩)
      unfold blobV blobCs at BL
      clear d0 d1 d2 d3
      go_wp2_with fail
      refine BL.out.mono ?_
      rintro e w3 ⟨A3, m3, c3', hm3, rfl, hi3, hb3⟩
      have I3 := Lib.hid hi3
      have B3 := Lib.hid hb3
      have M3 := Lib.hid hm3
      have BK := Lib.hid (backward_any w3 A3 m3 c3')
      clear hi3 hb3 hm3 BL
      go_wp2_with fail
      refine BK.out.mono ?_
      rintro e w4 ⟨rfl, hw4⟩
      obtain ⟨bx, hbx⟩ : ∃ bx, bx = w3.heap.size := ⟨_, rfl⟩
      rw [← hbx]
      have X4 : Hid (Held w4 bx 59 #[.slice A3 m3 c3']) := by rw [hw4]; exact Held.new _ _ _ hbx
      have B4 : Hid (Below w3.heap.size w3 w4) := by rw [hw4]; exact (Below.refl _ _).alloc (Nat.le_refl _) _
      clear hw4 hbx BK
      go_wp2_with fail
      have W4 : Hid (Below w.heap.size w w4) := (BW.out.trans (B3.out.mono BW.out.size)).trans (B4.out.mono (Nat.le_trans BW.out.size B3.out.size))
      have H4 := Lib.hid ((HH.out.below B3.out HH.out.lt).below B4.out (Nat.lt_of_lt_of_le HH.out.lt B3.out.size))
      obtain ⟨vs, hvs⟩ : ∃ vs, vs = allB h parts := ⟨_, rfl⟩
      have VS := Lib.hid hvs
      have I4 : Hid (IntsAt w4 A3 vs) := by rw [hvs]; exact I3.out.below B4.out
      rw [← hvs] at M3 ML RI HL
      have M4 := M3.out
      subst M4
      clear hvs M3
      refine range_back 5 21 22 bx vs A3 c3' (by have := HL.out; omega) rfl
        (fun k W => MemAt B W p n (wipe f (vs.drop (vs.length - k))) ∧ Held W b 61 #[.iface 24 (.pointer (some ⟨p, 0, none⟩)), .int .i64 (h : Int), .int .i64 (l.length : Int), .slice A parts.length c] ∧ Kp B w W ∧ Held W bx 59 #[.slice A3 vs.length c3'] ∧ IntsAt W A3 vs)
        (fun k W W' g1 g2 g3 => ⟨g2.mem g1.1, g2.held g1.2.1, g1.2.2.1.past g3 W4.out.size, g2.held g1.2.2.2.1, g2.ints g1.2.2.2.2⟩) (fun k W g1 => ⟨g1.2.2.2.1, g1.2.2.2.2⟩)
        ⟨by rw [Nat.sub_zero, List.drop_length, wipe_nil]; exact HM.out.under W4.out, H4.out, Kp.under W4.out, X4.out, I4.out⟩ ?assign ?body ?done
      case assign =>
        intro l x y W K hK
        simp only [List.setIfInBounds_toArray, List.set_cons_succ, List.set_cons_zero] at hK ⊢
        gi_wp2
        exact hK
      case body =>
        rintro l' k W hk ⟨gm, gb, gk, gx, gi⟩
        simp only [List.setIfInBounds_toArray, List.set_cons_succ, List.set_cons_zero]
        obtain ⟨j, hj⟩ : ∃ j, j = vs.length - 1 - k := ⟨_, rfl⟩
        have jl : j < vs.length := by omega
        have ev : vs.getD j 0 = vs[j] := by rw [List.getD_eq_getElem?_getD, List.getElem?_eq_getElem jl]; rfl
        have dr : vs.drop j = vs[j] :: vs.drop (j + 1) := List.drop_eq_getElem_cons jl
        obtain ⟨v1, _, y, hy⟩ := ML.out vs[j] (List.getElem_mem jl)
        have nd : vs[j] ∉ vs.drop (j + 1) := by
          have h1 : (vs.drop j).Pairwise (· < ·) := RI.out.sublist (List.drop_sublist _ _)
          rw [dr] at h1
          intro hm
          exact absurd ((List.pairwise_cons.1 h1).1 _ hm) (Nat.lt_irrefl _)
        have e1 : vs.length - k = j + 1 := by omega
        have e2 : vs.length - (k + 1) = j := by omega
        rw [e1] at gm
        have FR := free_yes B W p n _ gm (vs[j] - 1) y (by rw [wipe_far v1 nd]; exact hy)
        rw [wipe_more _ _ _ v1, ← dr, show ((vs[j] - 1 : Nat) : Int) + 1 = (vs[j] : Int) by omega] at FR
        have FR2 := Lib.hid FR
        rw [← hj, ev]
        have E2 := Lib.hid e2
        have GB := Lib.hid gb
        have GX := Lib.hid gx
        have GI := Lib.hid gi
        have GK := Lib.hid gk
        have c0 : W.cell? ⟨b, 0, none⟩ = some (.iface 24 (.pointer (some ⟨p, 0, none⟩))) := gb.cell 0
        generalize hv : vs[j] = v at *
        clear FR gm gb gk gx gi dr nd ev hj jl e1 e2 hy hv
        gi_wp2
        all_goals refine ⟨fun _ _ => trivial, ?_⟩
        all_goals rw [meets_free]
        case hn => kernel_rfl
        gi_wp2
        refine (CallsIn.inRound l' (callsIn_wide.2 FR2.out)).mono ?_
        rintro e W3 ⟨rfl, m3, k3⟩
        have M3' := Lib.hid m3
        have K3 := Lib.hid k3
        have HD := Lib.hid (heed_ok W3)
        clear m3 k3 FR2
        gi_wp2
        refine ⟨trivial, ?_⟩
        refine (CallsIn.inRound l' (callsIn_wide.2 HD.out)).mono ?_
        rintro e W4 ⟨rfl, rfl⟩
        clear HD
        gi_wp2
        exact ⟨KeepsFrom.of_kp K3.out, by rw [E2.out]; exact M3'.out, K3.out.held GB.out (by decide) (by decide), GK.out.trans K3.out, K3.out.held GX.out (by decide) (by decide), GI.out.kp K3.out⟩
      case done =>
        rintro D0 W hD0 ⟨gm, gb, gk, gx, gi⟩ hK
        have HK := Lib.hid hK
        have G := Lib.hid (And.intro gm gk)
        have D4 := Lib.hid (Nat.le_trans W4.out.size hD0)
        clear gm gb gk gx gi hK
        go_wp2_with fail
        refine ⟨by simp, .inl ⟨_, _, rfl, run_takeDeferred HK.out, ?_⟩⟩
        refine ⟨_, results_none rfl _ _ _, rfl, ?_⟩
        have g := G.out
        rw [Nat.sub_self, List.drop_zero, VS.out] at g
        exact ⟨(Aside.putObj _ HK.out rfl).mem g.1, g.2.past ⟨rfl, rfl, rfl, by simp [World.putObj], fun k hk => World.putObj_heap_other (by omega)⟩ D4.out⟩
end Go.Proofs.Ytlofpbmceipkkaa
