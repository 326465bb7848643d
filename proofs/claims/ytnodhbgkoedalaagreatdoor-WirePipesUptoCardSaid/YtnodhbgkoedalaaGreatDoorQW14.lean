/-
  wire: Read. · wire: closes, where no header speaks of the connection.
-/
import Derived.Test.YtnodhbgkoedalaaGreatDoorQW10
import Derived.Deep.MidRow
namespace Go.Proofs.YtnodhbgkoedalaaGreatDoor
open Go.RowKit Reply

theorem resC3 {P : Program} {f : Func} (tm : Array Value) (w : World) (i j k T : Nat) (x y z : Value) (p : Addr) (hf : f.results = #[.cell i T, .tmp j, .tmp k]) (h1 : tm.getD i undef = .pointer (some p)) (h2 : tm.getD j undef = y) (h3 : tm.getD k undef = z)
    (l1 : (loadVar T p).run P w = .ok x w) : (results f tm).run P w = .ok (.tuple #[x, y, z]) w := by
  unfold results
  rw [hf]
  rw [Array.getD_eq_getD_getElem?] at h1 h2 h3
  simp [h1, h2, h3, asAddr, l1]
theorem zeroReq : (Tryz.prog.info? 26).map (fun i => (i.zero, i.size)) = some (some (.agg #[.string ⟨#[]⟩, .string ⟨#[]⟩, .slice none 0 0, .string ⟨#[]⟩, .bool false]), 5) := by kernel_rfl
theorem load_req {w : World} {b : Nat} {cs : Array Value} (h : Held w b 26 cs) (hs : cs.size = 5) : (loadVar 26 ⟨b, 0, none⟩).run Tryz.prog w = .ok (.agg cs) w := by
  have lv := run_loadVar_mid (P := Tryz.prog) w b 0 26 cs.toList _ (fun j v hv => by rw [Nat.zero_add, h.cell]; simpa using hv) Tryz.underlying26 rfl (by rw [(zero_of_info zeroReq).2, Array.length_toList, hs])
  simpa using lv
/-- A request as a value. -/
def qV (q : Wire.Rq) (A : Option Addr) (c : Nat) : Value := .agg #[.string (S q.method), .string (S q.target), .slice A q.headers.length c, .string (S q.body), .bool q.close]
def put5 (u : World) (q : Nat) (a0 a1 a2 a3 a4 : Value) : World := ((((u.setCell ⟨q, 0, none⟩ a0).setCell ⟨q, 1, none⟩ a1).setCell ⟨q, 2, none⟩ a2).setCell ⟨q, 3, none⟩ a3).setCell ⟨q, 4, none⟩ a4
theorem put5_only (u : World) (q : Nat) (a0 a1 a2 a3 a4 : Value) : Only [q] u (put5 u q a0 a1 a2 a3 a4) := by
  unfold put5
  exact ((((((Only.refl [q] u).setCell (p := ⟨q, 0, none⟩) (.inl (by simp)) _).setCell (p := ⟨q, 1, none⟩) (.inl (by simp)) _).setCell (p := ⟨q, 2, none⟩) (.inl (by simp)) _).setCell (p := ⟨q, 3, none⟩) (.inl (by simp)) _).setCell (p := ⟨q, 4, none⟩) (.inl (by simp)) _)
theorem put5_held {u : World} {q t : Nat} {b0 b1 b2 b3 b4 : Value} (h : Held u q t #[b0, b1, b2, b3, b4]) (a0 a1 a2 a3 a4 : Value) : Held (put5 u q a0 a1 a2 a3 a4) q t #[a0, a1, a2, a3, a4] := by
  unfold put5
  exact ((((h.set_ 0 a0).set_ 1 a1).set_ 2 a2).set_ 3 a3).set_ 4 a4
theorem HAt.only {F : List Nat} {w w' : World} {A : Option Addr} {l : List (Reply.B × Reply.B)} (h : HAt w A l) (k : Only F w w') (hA : ∀ x, A = some x → x.block ∉ F) : HAt w' A l := fun hp => by
  obtain ⟨g, off, e, hl, hc⟩ := h hp
  exact ⟨g, off, e, Nat.lt_of_lt_of_le hl k.size, fun j u hu => (k.cell (p := ⟨g, off + j, none⟩) hl (show g ∉ F from hA ⟨g, off, none⟩ e)).trans (hc j u hu)⟩
set_option maxRecDepth 100000 in
set_option maxHeartbeats 8000000 in
theorem read_any (w : World) (E : Env w) (l : Reply.B) (hl : l.length ≤ 4194304) {q : Wire.Rq} {n : Nat} {c' : Int} (hr : Wire.Reads l q n c') (CL : ∀ t s', Wire.Runs Wire.reader Wire.s0 l t c' s' → ∀ s1 : Wire.St, Wire.Ok s1 → Wire.Fit s1 → s1.q.headers <+: s'.q.headers → ClosesC s1.q.headers) :
    Calls Tryz.prog 9 #[.string (S l)] w fun e w' => (∃ A c2, e = .returned (.tuple #[qV q A c2, .int .i64 (n : Int), .int .i64 c']) ∧ HAt w' A q.headers) ∧ Below w.heap.size w w' := by
  obtain ⟨t, s', hrun, hcs⟩ := hr
  obtain ⟨W2, hW2⟩ : ∃ x, x = (w.alloc (.cells #[.string ⟨#[]⟩, .string ⟨#[]⟩, .slice none 0 0, .string ⟨#[]⟩, .bool false] 26)).alloc (.cells #[.int .i64 0, .int .i64 0, .int .i64 0, .int .i64 0, .string ⟨#[]⟩, .string ⟨#[]⟩, .slice none 0 0, .string ⟨#[]⟩, .bool false] 44) := ⟨_, rfl⟩
  have HW2 := Lib.hid hW2
  have W2S : W2.heap.size = w.heap.size + 2 := by rw [hW2, World.size_alloc, World.size_alloc]
  have BW2 : Below w.heap.size w W2 := by rw [hW2]; exact ((Below.refl _ _).alloc (Nat.le_refl _) _).alloc (by rw [World.size_alloc]; omega) _
  have RD : RdS w (w.heap.size + 1) W2 (w.heap.size + 1) 44 [] Wire.s0 none 0 :=
    ⟨E, by omega, by omega, BW2, by omega, by decide, by rw [hW2]; exact Held.new _ _ _ (World.size_alloc _ _).symm, OwnH.nil _ _⟩
  have RES : Held W2 w.heap.size 26 #[.string ⟨#[]⟩, .string ⟨#[]⟩, .slice none 0 0, .string ⟨#[]⟩, .bool false] := by rw [hW2]; exact (Held.new _ _ _ rfl).alloc _
  have RU := Lib.hid (run_str_any RD l hl Wire.ok0 (fun x hx => by cases hx) hrun (CL t s' hrun))
  have H2 := Lib.hid RES
  have B2 := Lib.hid BW2
  have S2 := Lib.hid W2S
  have HCS := Lib.hid hcs
  obtain ⟨ls, hls⟩ : ∃ x, x = S l := ⟨_, rfl⟩
  rw [← hls] at RU ⊢
  clear hls hcs hrun RD RES BW2 W2S hW2 CL E hl
  go_enter Tryz.func9, Tryz.ntmps9
  go_wp2_with fail
  rw [← HW2.out]
  refine RU.out.mono ?_
  rintro e w3 ⟨rfl, ⟨A, c2, r3⟩, d3⟩
  have H3 : Hid (Held w3 w.heap.size 26 #[.string ⟨#[]⟩, .string ⟨#[]⟩, .slice none 0 0, .string ⟨#[]⟩, .bool false]) := (d3.block _ (by omega) (by omega)).trans H2.out
  have R3 := Lib.hid r3
  have c4 : w3.cell? ⟨w.heap.size + 1, 4, none⟩ = some (.string (S s'.q.method)) := r3.cell 4
  have c5 : w3.cell? ⟨w.heap.size + 1, 5, none⟩ = some (.string (S s'.q.target)) := r3.cell 5
  have c6 : w3.cell? ⟨w.heap.size + 1, 6, none⟩ = some (.slice A s'.q.headers.length c2) := r3.cell 6
  have c7 : w3.cell? ⟨w.heap.size + 1, 7, none⟩ = some (.string (S s'.q.body)) := r3.cell 7
  have c8 : w3.cell? ⟨w.heap.size + 1, 8, none⟩ = some (.bool s'.q.close) := r3.cell 8
  have h0 := H3.out.cell 0
  have h1 := H3.out.cell 1
  have h2 := H3.out.cell 2
  have h3 := H3.out.cell 3
  have h4 := H3.out.cell 4
  have y0 := H3.out.frozen 0
  have y1 := H3.out.frozen 1
  have y2 := H3.out.frozen 2
  have y3 := H3.out.frozen 3
  have y4 := H3.out.frozen 4
  have B3 : Hid (Below w.heap.size w w3) := B2.out.trans (d3.below (by omega) (by omega))
  have FAR : Hid (∀ x, A = some x → x.block ∉ [w.heap.size]) := fun x e hm => by
    subst e
    have := (r3.row.lt x.block (by
      rcases r3.row.2 with ⟨e, _⟩ | ⟨g, cap, cur, e, _⟩
      · cases e
      · injection e with e _ _
        injection e with e
        rw [e]
        rfl)).1
    have := List.mem_singleton.1 hm
    omega
  have HH : Hid (HAt w3 A s'.q.headers) := by
    obtain ⟨A', c9, e, _, hA⟩ := r3.row.any
    show HAt _ _ _
    injection e with e1 e2 e3
    rw [e1]
    exact hA
  clear r3 d3 RU
  by_cases hc : c' = 0
  · obtain ⟨rfl, hq, hn⟩ : c' = 0 ∧ q = s'.q ∧ n = t := by
      rcases HCS.out with h | h
      · exact h
      · exact absurd hc h.1
    have FIN : Hid (∀ u : World, u = put5 w3 w.heap.size (.string (S s'.q.method)) (.string (S s'.q.target)) (.slice A s'.q.headers.length c2) (.string (S s'.q.body)) (.bool s'.q.close) → Held u w.heap.size 26 #[.string (S s'.q.method), .string (S s'.q.target), .slice A s'.q.headers.length c2, .string (S s'.q.body), .bool s'.q.close] ∧ HAt u A q.headers ∧ Below w.heap.size w u) := fun u e => by
      subst e
      have o := put5_only w3 w.heap.size (.string (S s'.q.method)) (.string (S s'.q.target)) (.slice A s'.q.headers.length c2) (.string (S s'.q.body)) (.bool s'.q.close)
      exact ⟨put5_held H3.out _ _ _ _ _, by rw [hq]; exact HH.out.only o FAR.out, o.from_ B3.out (fun x hx => by rw [List.mem_singleton.1 hx]; exact Nat.le_refl _)⟩
    have HQ := Lib.hid hq
    have HN := Lib.hid hn
    clear hc hq hn HCS
    go_wp2_with fail
    obtain ⟨fh, fa, fb⟩ := FIN.out _ rfl
    exact bodyPost_ret (resC3 _ _ 2 3 4 26 _ _ _ _ Tryz.results9 rfl rfl rfl (load_req fh rfl)) rfl ⟨⟨A, c2, by rw [HQ.out, HN.out]; rfl, fa⟩, fb⟩
  · obtain ⟨hq, hn⟩ : q = Wire.zeroRq ∧ n = 0 := by
      rcases HCS.out with h | h
      · exact absurd h.1 hc
      · exact h.2
    have f0 : (c' == 0) = false := by rw [beq_eq_false_iff_ne]; exact hc
    have f1 : (c' != 0) = true := by rw [bne_iff_ne]; exact hc
    have FIN : Hid (∀ u : World, u = put5 w3 w.heap.size (.string ⟨#[]⟩) (.string ⟨#[]⟩) (.slice none 0 0) (.string ⟨#[]⟩) (.bool false) → Held u w.heap.size 26 #[.string ⟨#[]⟩, .string ⟨#[]⟩, .slice none 0 0, .string ⟨#[]⟩, .bool false] ∧ HAt u none q.headers ∧ Below w.heap.size w u) := fun u e => by
      subst e
      have o := put5_only w3 w.heap.size (.string ⟨#[]⟩) (.string ⟨#[]⟩) (.slice none 0 0) (.string ⟨#[]⟩) (.bool false)
      exact ⟨put5_held H3.out _ _ _ _ _, by rw [hq]; exact HAt.nil _ _, o.from_ B3.out (fun x hx => by rw [List.mem_singleton.1 hx]; exact Nat.le_refl _)⟩
    have HQ := Lib.hid hq
    have HN := Lib.hid hn
    clear hc hq hn HCS
    go_wp2_with fail
    obtain ⟨fh, fa, fb⟩ := FIN.out _ rfl
    exact bodyPost_ret (resC3 _ _ 2 3 4 26 _ _ _ _ Tryz.results9 rfl rfl rfl (load_req fh rfl)) rfl ⟨⟨none, 0, by rw [HQ.out, HN.out]; rfl, fa⟩, fb⟩
end Go.Proofs.YtnodhbgkoedalaaGreatDoor

namespace Go.Proofs.YtnodhbgkoedalaaGreatDoor
open Go.RowKit Reply

theorem resC1 {P : Program} {f : Func} (tm : Array Value) (w : World) (i T : Nat) (x : Value) (p : Addr) (hf : f.results = #[.cell i T]) (h1 : tm.getD i undef = .pointer (some p))
    (l1 : (loadVar T p).run P w = .ok x w) : (results f tm).run P w = .ok x w := by
  unfold results
  rw [hf]
  rw [Array.getD_eq_getD_getElem?] at h1
  simp [h1, asAddr, l1]
theorem load_bool {w : World} {b : Nat} {x : Bool} (h : Held w b 4 #[.bool x]) : (loadVar 4 ⟨b, 0, none⟩).run Tryz.prog w = .ok (.bool x) w := by
  have c := h.cell 0
  unfold loadVar
  simp [go_sem]
  rw [c]
  rfl
set_option maxRecDepth 100000 in
set_option maxHeartbeats 8000000 in
theorem closes_none (hs : List (Reply.B × Reply.B)) (h0 : Wire.values hs Reply.nCo = []) (hl : hs.length ≤ 32) : ClosesC hs := by
  intro w0 Bn w p ty z s A c h e
  have V0 := values_any h Reply.nCo (by rw [e]; exact hl)
  rw [e, h0] at V0
  have F : Wire.closes hs = false := by unfold Wire.closes; rw [h0]; rfl
  rw [F]
  obtain ⟨W1, hW1⟩ : ∃ x, x = w.alloc (.cells #[.bool false] 4) := ⟨_, rfl⟩
  have HW1 := Lib.hid hW1
  have B1 : Hid (Below w.heap.size w W1) := by show Below _ _ _; rw [hW1]; exact (Below.refl _ _).alloc (Nat.le_refl _) _
  have H1 : Hid (Held W1 w.heap.size 4 #[.bool false]) := by show Held _ _ _ _; rw [hW1]; exact Held.new _ _ _ rfl
  have h1 := h.under B1.out
  have V1 : Hid (Calls Tryz.prog 52 #[.pointer (some ⟨p, 0, none⟩), .string ⟨#[99, 111, 110, 110, 101, 99, 116, 105, 111, 110]⟩] W1 fun e w' => (∃ A' c', e = .returned (.slice A' 0 c')) ∧ Below W1.heap.size W1 w') := by
    have := values_any h1 Reply.nCo (by rw [e]; exact hl)
    rw [e, h0] at this
    refine this.mono ?_
    rintro x w' ⟨⟨A', c', rfl, _⟩, hb⟩
    exact ⟨⟨A', c', rfl⟩, hb⟩
  clear h e V0 F hW1 h1 h0 hl
  go_enter Tryz.func51, Tryz.ntmps51
  go_wp2_with fail
  rw [← HW1.out]
  refine V1.out.mono ?_
  rintro e w2 ⟨⟨A', c', rfl⟩, hb⟩
  have B2 := Lib.hid (B1.out.trans (hb.mono B1.out.size))
  have H2 := Lib.hid (H1.out.below hb H1.out.lt)
  have x0 := H2.out.cell 0
  have y0 := H2.out.frozen 0
  clear hb V1
  go_wp2_with fail
  go_loop [9] (fun i => i = .int .i64 0) (fun _ => 0)
  case atStart => rfl
  case round =>
    obtain rfl := hrel
    have F3 : Hid (Held (w2.setCell ⟨w.heap.size, 0, none⟩ (.bool false)) w.heap.size 4 #[.bool false]) := H2.out.set_ 0 _
    have B3 : Hid (Below w.heap.size w (w2.setCell ⟨w.heap.size, 0, none⟩ (.bool false))) := B2.out.setCell (p := ⟨w.heap.size, 0, none⟩) (Nat.le_refl _) _
    go_wp2_with fail
    exact bodyPost_ret (resC1 _ _ 2 4 _ _ Tryz.results51 rfl (load_bool F3.out)) rfl ⟨rfl, B3.out⟩
end Go.Proofs.YtnodhbgkoedalaaGreatDoor
