/-
  ReplyMany: responses that are written one behind the other are read one behind the other, as they were (where all that comes in is of bulk at most 1048576).
-/
import Derived.Test.YtdojchamdcokiaaDoorR25
namespace Go.Proofs.YtdojchamdcokiaaDoor.replyMany
open Go.ChangeShapes Go.WideShapes Go.ChangeAt Go.RowKit Reply

/-- The forms, one behind the other. -/
def texts (l : List El) : B := l.flatMap fun e => form e.1
theorem texts_append (a b : List El) : texts (a ++ b) = texts a ++ texts b := by unfold texts; rw [List.flatMap_append]
theorem texts_one (e : El) : texts [e] = form e.1 := by unfold texts; simp
theorem texts_drop {l : List El} {k : Nat} {e : El} (h : l[k]? = some e) : texts (l.drop k) = form e.1 ++ texts (l.drop (k + 1)) := by
  obtain ⟨hk, he⟩ := List.getElem?_eq_some_iff.1 h
  rw [List.drop_eq_getElem_cons hk, he]
  unfold texts
  rw [List.flatMap_cons]
def goods (l : List El) : List El := l.filter fun e => good e.1
theorem goods_next {l : List El} {k : Nat} {e : El} (h : l[k]? = some e) : goods (l.take (k + 1)) = goods (l.take k) ++ (if good e.1 then [e] else []) := by
  unfold goods
  rw [List.take_add_one, h, List.filter_append]
  congr 1
  by_cases g : good e.1 <;> simp [g]
theorem goods_len (l : List El) (k : Nat) : (goods (l.take k)).length ≤ k := by
  unfold goods
  have h1 := List.length_filter_le (fun e : El => good e.1) (l.take k)
  have h2 : (l.take k).length ≤ k := by rw [List.length_take]; omega
  omega
theorem form_len {r : Rs} (g : good r = true) : (form r).length ≤ (hdrLines r.headers).length + r.body.length + 70000 := by
  obtain ⟨h1, h2, h3, h4, h5⟩ := good_parts g
  obtain ⟨s0, s1, _, _⟩ := status_is h1
  have a := statusLine_len r.status s0 s1
  have e1 : crlf.length = 2 := rfl
  have e3 : closeLine.length = 17 := rfl
  have d := lenLine_len r.body.length
  have x1 : (if r.status = 204 then ([] : B) else lenLine r.body.length ++ crlf).length ≤ r.body.length + 19 := by
    split
    · simp
    · rw [List.length_append]; omega
  have x2 : (if r.close then closeLine ++ crlf else ([] : B)).length ≤ 19 := by
    split
    · rw [List.length_append]; omega
    · simp
  have x3 : (if r.head then ([] : B) else r.body).length ≤ r.body.length := by
    split
    · simp
    · exact Nat.le_refl _
  unfold form top
  simp only [List.length_append]
  omega
theorem texts_len : ∀ (l : List El), (∀ e ∈ l, RFit e.1) → (texts (goods l)).length ≤ weighR l + 70000 * l.length
  | [], _ => Nat.zero_le _
  | e :: l, h => by
    have ih := texts_len l (fun x hx => h x (List.mem_cons_of_mem _ hx))
    have e0 : weighR (e :: l) = (hdrLines e.1.headers).length + e.1.body.length + weighR l := rfl
    rw [e0, List.length_cons]
    by_cases g : good e.1 = true
    · have f := form_len g
      have e1 : goods (e :: l) = [e] ++ goods l := by unfold goods; rw [List.filter_cons, if_pos g]; rfl
      rw [e1, texts_append, texts_one, List.length_append]
      omega
    · have e1 : goods (e :: l) = goods l := by unfold goods; rw [List.filter_cons, if_neg g]
      rw [e1]
      omega
theorem weigh_take : ∀ (l : List El) (k : Nat), weighR (l.take k) ≤ weighR l
  | [], k => by simp
  | e :: l, 0 => Nat.zero_le _
  | e :: l, k + 1 => by
    have ih := weigh_take l k
    rw [List.take_succ_cons]
    unfold weighR at ih ⊢
    simp only [List.foldr_cons]
    omega
theorem texts_bound {l : List El} (h : ∀ e ∈ l, RFit e.1) (hw : weighR l ≤ 2097152) (hn : l.length ≤ 40) (k : Nat) : (texts (goods (l.take k))).length ≤ 5000000 := by
  have a := texts_len (l.take k) (fun e he => h e (List.mem_of_mem_take he))
  have b := weigh_take l k
  have c : (l.take k).length ≤ 40 := by rw [List.length_take]; omega
  omega
theorem drop_len (l : List El) (k : Nat) : (texts (l.drop k)).length ≤ (texts l).length := by
  conv => rhs; rw [← List.take_append_drop k l, texts_append, List.length_append]
  omega
/-- What is read of what is written. -/
def wantR (r : Rs) : Rs := { r with body := if r.head then [] else r.body }
theorem same_want (r : Rs) : sameR (wantR r) (wantR r) = true := by unfold sameR; simp
theorem want_full (r : Rs) (h : false = r.head) : wantR r = r := by
  cases r
  subst h
  rfl
theorem want_elV (e : El) : elV (wantR e.1, e.2) = (elV e).set 2 (.string (S (wantR e.1).body)) := rfl
theorem RsAt.get {w : World} {A : Option Addr} {l : List El} (h : RsAt w A l) {k : Nat} {e : El} (hk : l[k]? = some e) : ∃ g off, A = some ⟨g, off, none⟩ ∧ g < w.heap.size ∧ w.cell? ⟨g, off + k * 5, none⟩ = some (.int .i64 e.1.status) ∧ w.cell? ⟨g, off + k * 5 + 1, none⟩ = some (.slice e.2.1 e.1.headers.length e.2.2) ∧ w.cell? ⟨g, off + k * 5 + 2, none⟩ = some (.string (S e.1.body)) ∧ w.cell? ⟨g, off + k * 5 + 3, none⟩ = some (.bool e.1.head) ∧ w.cell? ⟨g, off + k * 5 + 4, none⟩ = some (.bool e.1.close) := by
  obtain ⟨hl, he⟩ := List.getElem?_eq_some_iff.1 hk
  obtain ⟨g, off, e1, h0, h1, h2, h3, h4⟩ := h.at_ hl
  rw [he] at h0 h1 h2 h3 h4
  exact ⟨g, off, e1, by have := block_lt h0; exact this, h0, h1, h2, h3, h4⟩
set_option maxRecDepth 100000 in
set_option maxHeartbeats 16000000 in
theorem walk (w : World) (L : Option Addr) (cL : Nat) (els : List El) (hL : RsAt w L els) (hE : Elts w els) (hw : weighR els ≤ 2097152) (hlen : els.length ≤ 9223372036854775807) (E : Env w) :
    Calls Tryd.prog 4 #[.slice L els.length cL] w fun e w' => e = .returned (.bool true) ∧ Below w.heap.size w w' := by
  have HE := Lib.hid E
  have FX := Lib.hid (fun u (k : Env u) => fixed_any u k)
  obtain ⟨n, hn⟩ : ∃ n, n = els.length := ⟨_, rfl⟩
  rw [← hn] at hlen ⊢
  have HN := Lib.hid hn
  have HL := Lib.hid hL
  have HEL := Lib.hid hE
  have HWG := Lib.hid hw
  clear hn hL hE hw E
  by_cases h40 : 40 < n
  · have z40 : (40 : Int) < (n : Int) := by omega
    go_enter Tryd.func4, Tryd.ntmps4
    go_wp2_with fail
    refine (FX.out _ HE.out).mono ?_
    rintro e w1 ⟨rfl, hb1⟩
    have B1 := Lib.hid hb1
    clear hb1
    go_wp2_with fail
    refine (FX.out _ (HE.out.below B1.out)).mono ?_
    rintro e w2 ⟨rfl, hb2⟩
    have B2 := Lib.hid (B1.out.trans (hb2.mono B1.out.size))
    clear hb2
    go_wp2_with fail
    go_ret
    exact ⟨rfl, B2.out⟩
  · have z40 : ¬ (40 : Int) < (n : Int) := by omega
    have n40 : n ≤ 40 := by omega
    have TB : Hid (∀ k, (texts (goods (els.take k))).length ≤ 5000000) := fun k => texts_bound (fun e he => (HEL.out e he).1) HWG.out (by have := HN.out; omega) k
    clear h40 hlen
    go_enter Tryd.func4, Tryd.ntmps4
    go_wp2_with fail
    refine (FX.out _ HE.out).mono ?_
    rintro e w1 ⟨rfl, hb1⟩
    have B1 := Lib.hid hb1
    clear hb1 FX
    go_wp2_with fail
    go_loopw [3, 4, 5, 6, 7] (fun v3 v4 v5 _ _ wr => ∃ (i : Nat) (A : Option Addr) (c : Nat) (acc : List El), i ≤ n ∧ v5 = .int .i64 i ∧ v3 = .string (S (texts acc)) ∧ v4 = .slice A acc.length c ∧ Hid (acc = goods (els.take i)) ∧ Hid (OwnR wr w.heap.size (.slice A acc.length c) acc) ∧ Hid (Below w.heap.size w wr)) (fun _ _ v5 _ _ _ => n - (intOf v5).toNat)
    case atStart => exact ⟨0, none, 0, [], by omega, rfl, rfl, rfl, by show _ = _; unfold goods; simp, OwnR.nil _ _, B1⟩
    case round =>
      obtain ⟨i, A, c, acc, hi, rfl, rfl, rfl, HACC, HO, HB⟩ := hrel
      by_cases hlt : i < n
      · obtain ⟨e, he⟩ : ∃ e, els[i]? = some e := ⟨els[i]'(by have := HN.out; omega), List.getElem?_eq_getElem _⟩
        have EM := Lib.hid he
        have ME : e ∈ els := List.mem_of_getElem? he
        have FIT := Lib.hid (HEL.out e ME).1
        have HAE := Lib.hid (HEL.out e ME).2
        obtain ⟨g, off, rfl, glt, a0, a1, a2, a3, a4⟩ := RsAt.get (HL.out.below HB.out) he
        have WR := Lib.hid (fwrite_any wr (HE.out.below HB.out) e.1 e.2.1 e.2.2 FIT.out (HAE.out.below HB.out))
        have GN := Lib.hid (goods_next he)
        have al : acc.length ≤ 40 := by rw [HACC.out]; have := goods_len els i; omega
        have tl : (texts acc).length ≤ 5000000 := by rw [HACC.out]; exact TB.out i
        unfold rV at WR
        obtain ⟨hn, hhn⟩ : ∃ x, x = e.1.headers.length := ⟨_, rfl⟩
        obtain ⟨bs, hbs⟩ : ∃ x, x = S e.1.body := ⟨_, rfl⟩
        obtain ⟨st, hst⟩ : ∃ x, x = e.1.status := ⟨_, rfl⟩
        obtain ⟨hd, hhd⟩ : ∃ x, x = e.1.head := ⟨_, rfl⟩
        obtain ⟨cl, hcl⟩ : ∃ x, x = e.1.close := ⟨_, rfl⟩
        obtain ⟨EA, hea⟩ : ∃ x, x = e.2.1 := ⟨_, rfl⟩
        obtain ⟨EC, hec⟩ : ∃ x, x = e.2.2 := ⟨_, rfl⟩
        rw [← hhn, ← hbs, ← hst, ← hhd, ← hcl, ← hea, ← hec] at WR
        rw [← hst] at a0
        rw [← hea, ← hhn, ← hec] at a1
        rw [← hbs] at a2
        rw [← hhd] at a3
        rw [← hcl] at a4
        have EQ : Hid (st = e.1.status ∧ EA = e.2.1 ∧ hn = e.1.headers.length ∧ EC = e.2.2 ∧ bs = S e.1.body ∧ hd = e.1.head ∧ cl = e.1.close) := ⟨hst, hea, hhn, hec, hbs, hhd, hcl⟩
        have iz : (i : Int) < (n : Int) := by omega
        clear hhn hbs hst hhd hcl hea hec he ME
        unfold wroteV at WR
        cases gd : good e.1
        · rw [gd] at WR GN
          simp only [Bool.false_eq_true, if_false] at WR GN
          rw [List.append_nil] at GN
          clear gd
          go_wp2_with fail
          refine WR.out.mono ?_
          rintro x w2 ⟨rfl, hb2⟩
          have B2 := Lib.hid (HB.out.trans (hb2.mono HB.out.size))
          have O2 := Lib.hid (HO.out.below hb2)
          have HA2 : Hid (acc = goods (els.take (i + 1))) := by show _ = _; rw [GN.out]; exact HACC.out
          clear hb2 WR
          go_wp2_with fail
          go_roundw
          case rel => exact ⟨i + 1, A, c, acc, by omega, by go_num, rfl, rfl, HA2, O2, B2⟩
          case measure => simp [intOf]; omega
        · rw [gd] at WR GN
          simp only [if_true] at WR GN
          have HA2 : Hid (acc ++ [e] = goods (els.take (i + 1))) := by show _ = _; rw [GN.out, ← HACC.out]
          have fl : (form e.1).length ≤ 5000000 := by
            have := TB.out (i + 1)
            rw [← HA2.out, texts_append, texts_one, List.length_append] at this
            omega
          obtain ⟨tx, htx⟩ : ∃ x, x = S (texts acc) := ⟨_, rfl⟩
          obtain ⟨fm, hfm⟩ : ∃ x, x = S (form e.1) := ⟨_, rfl⟩
          have SUM : Hid (tx ++ fm = S (texts (acc ++ [e]))) := by show _ = _; rw [htx, hfm, S_append, texts_append, texts_one]
          have q1 : ¬ 9223372036854775807 < tx.size + fm.size := by rw [htx, hfm, S_size, S_size]; omega
          rw [← hfm] at WR
          rw [← htx]
          clear gd htx hfm
          go_wp2_with fail
          refine WR.out.mono ?_
          rintro x w2 ⟨rfl, hb2⟩
          have B2 := Lib.hid (HB.out.trans (hb2.mono HB.out.size))
          have O2 := Lib.hid (HO.out.below hb2)
          have c0 := wR a0 hb2
          have c1 := wR a1 hb2
          have c2 := wR a2 hb2
          have c3 := wR a3 hb2
          have c4 := wR a4 hb2
          have A2 : Hid (Below w2.heap.size w2 (w2.alloc (.cells #[.int .i64 st, .slice EA hn EC, .string bs, .bool hd, .bool cl] 24))) := (Below.refl _ _).alloc (Nat.le_refl _) _
          have O3 := Lib.hid (O2.out.below A2.out)
          have B3 := Lib.hid (B2.out.trans (A2.out.mono B2.out.size))
          have R3 : Hid (RsAt (w2.alloc (.cells #[.int .i64 st, .slice EA hn EC, .string bs, .bool hd, .bool cl] 24)) (some ⟨w2.heap.size, 0, none⟩) [e]) := resp_one w2 e EQ.out.1 EQ.out.2.1 EQ.out.2.2.1 EQ.out.2.2.2.1 EQ.out.2.2.2.2.1 EQ.out.2.2.2.2.2.1 EQ.out.2.2.2.2.2.2
          clear hb2 WR
          go_wp2_with (at_builtin; refine wpList_append_r rfl (.tmp 39) (.tmp 44) rfl w.heap.size _ acc rfl O3.out ⟨w2.heap.size, 0, none⟩ 1 1 [e] rfl rfl R3.out (by omega) B3.out.size ?_; intro v8 w8 hown8 hg8; have O8 := Lib.hid hown8; have B8 := Lib.hid (B3.out.trans (O3.out.grown (Below.refl w.heap.size _) hg8 B3.out.size)); clear hown8 hg8; obtain ⟨A8, c8, rfl⟩ := O8.out.form)
          have DL : (acc ++ [e]).length = acc.length + 1 := by simp
          go_roundw
          case rel => exact ⟨i + 1, A8, c8, acc ++ [e], by omega, by go_num, by rw [SUM.out], by rw [DL], HA2, O8, B8⟩
          case measure => simp [intOf]; omega
      · obtain rfl : i = n := by omega
        have HG : Hid (acc = goods els) := by show _ = _; rw [HACC.out, HN.out, List.take_length]
        have HGG : Hid (∀ e ∈ acc, good e.1 = true ∧ e ∈ els) := fun e he => by
          rw [HG.out] at he
          unfold goods at he
          obtain ⟨a, b⟩ := List.mem_filter.1 he
          exact ⟨b, a⟩
        have tl : (texts acc).length ≤ 5000000 := by rw [HACC.out]; exact TB.out i
        obtain ⟨m, hm⟩ : ∃ m, m = acc.length := ⟨_, rfl⟩
        have HM := Lib.hid hm
        have m40 : m ≤ 40 := by rw [hm, HACC.out]; have := goods_len els i; omega
        rw [← hm]
        clear hm
        go_wp2_with fail
        go_loopw [3, 8, 9, 10, 11] (fun v3 v8 _ _ _ wr => ∃ (k : Nat) (row : List El), k ≤ m ∧ v8 = .int .i64 k ∧ v3 = .string (S (texts (acc.drop k))) ∧ Hid (row.length = m ∧ ∀ j, k ≤ j → row[j]? = acc[j]?) ∧ Hid (OwnR wr w.heap.size (.slice A row.length c) row) ∧ Hid (Below w.heap.size w wr)) (fun _ v8 _ _ _ _ => m - (intOf v8).toNat)
        case atStart => exact ⟨0, acc, by omega, rfl, rfl, ⟨HM.out.symm, fun _ _ => rfl⟩, HO, HB⟩
        case round =>
          obtain ⟨k, row, hk, rfl, rfl, HR, HO2, HB2⟩ := hrel
          by_cases hlt2 : k < m
          · obtain ⟨e, he⟩ : ∃ e, acc[k]? = some e := ⟨acc[k]'(by have := HM.out; omega), List.getElem?_eq_getElem _⟩
            have hre : row[k]? = some e := by rw [HR.out.2 k (Nat.le_refl _)]; exact he
            have HRE := Lib.hid hre
            have HGE := Lib.hid (HGG.out e (List.mem_of_getElem? he))
            have FIT := Lib.hid (HEL.out e HGE.out.2).1
            have HAE := Lib.hid (HEL.out e HGE.out.2).2
            have rl : 0 < row.length := by have := HR.out.1; omega
            obtain ⟨g, rfl, hg, glt, gfr⟩ := HO2.out.block rl
            obtain ⟨g', off, eg, _, a0, a1, a2, a3, a4⟩ := RsAt.get HO2.out.at_ hre
            injection eg with eg
            injection eg with eg1 eg2 _
            subst eg1 eg2
            rw [Nat.zero_add] at a0 a1 a2 a3 a4
            have TD := Lib.hid (texts_drop he)
            have dl : (texts (acc.drop k)).length ≤ 5000000 := by have := drop_len acc k; omega
            obtain ⟨rest, hrest⟩ : ∃ x, x = texts (acc.drop (k + 1)) := ⟨_, rfl⟩
            rw [← hrest] at TD
            have HREST := Lib.hid hrest
            obtain ⟨all, hall⟩ : ∃ x, x = texts (acc.drop k) := ⟨_, rfl⟩
            rw [← hall] at TD dl ⊢
            have RD := Lib.hid (fread2_any wr (HE.out.below HB2.out) all e.1.head (by omega))
            have FR : Hid (Reply.read all e.1.head = some (wantR e.1, rest)) := by show _ = _; rw [TD.out]; exact read_form e.1 HGE.out.1 rest
            have AL : Hid (all.length = (form e.1).length + rest.length) := by show _ = _; rw [TD.out, List.length_append]
            have FP := Lib.hid (form_pos e.1)
            obtain ⟨hn, hhn⟩ : ∃ x, x = e.1.headers.length := ⟨_, rfl⟩
            obtain ⟨bs, hbs⟩ : ∃ x, x = S e.1.body := ⟨_, rfl⟩
            obtain ⟨st, hst⟩ : ∃ x, x = e.1.status := ⟨_, rfl⟩
            obtain ⟨hd, hhd⟩ : ∃ x, x = e.1.head := ⟨_, rfl⟩
            obtain ⟨cl, hcl⟩ : ∃ x, x = e.1.close := ⟨_, rfl⟩
            obtain ⟨EA, hea⟩ : ∃ x, x = e.2.1 := ⟨_, rfl⟩
            obtain ⟨EC, hec⟩ : ∃ x, x = e.2.2 := ⟨_, rfl⟩
            rw [← hst] at a0
            rw [← hea, ← hhn, ← hec] at a1
            rw [← hbs] at a2
            rw [← hhd] at a3
            rw [← hcl] at a4
            rw [← hhd] at RD FR
            have EQ : Hid (st = e.1.status ∧ EA = e.2.1 ∧ hn = e.1.headers.length ∧ EC = e.2.2 ∧ bs = S e.1.body ∧ hd = e.1.head ∧ cl = e.1.close) := ⟨hst, hea, hhn, hec, hbs, hhd, hcl⟩
            obtain ⟨s, hs⟩ : ∃ x, x = S all := ⟨_, rfl⟩
            have ssz : s.size = all.length := by rw [hs, S_size]
            rw [← hs] at RD ⊢
            have HSZ := Lib.hid ssz
            have HS := Lib.hid hs
            have kz : (k : Int) < (m : Int) := by omega
            have kb : (k : Int) ≤ 40 := by omega
            have y2 := gfr (k * 5 + 2)
            have GG : Hid (g < wr.heap.size ∧ w.heap.size ≤ g) := ⟨glt, hg⟩
            clear hhn hbs hst hhd hcl hea hec he hre hrest hall hs ssz gfr glt hg
            cases hd
            · skip
              go_wp2_with fail
              refine RD.out.mono ?_
              rintro x w2 ⟨⟨⟨r2, A2, c2', n2, ok2, rfl, hA2, hy2, hn2⟩, hfr⟩, hb2⟩
              cases ok2
              · have := (hn2 rfl).1
                rw [FR.out] at this
                cases this
              obtain ⟨z2, hz2, hl2⟩ := hy2 rfl
              rw [FR.out] at hz2
              simp only [Option.some.injEq, Prod.mk.injEq] at hz2
              obtain ⟨rfl, rfl⟩ := hz2
              have WB : Hid (bs = S (wantR e.1).body) := by show _ = _; unfold wantR; simp only []; rw [← EQ.out.2.2.2.2.2.1]; rw [EQ.out.2.2.2.2.1]; simp
              have RV2 : Hid (rV (wantR e.1) A2 c2' = .agg #[.int .i64 st, .slice A2 hn c2', .string bs, .bool false, .bool cl]) := by
                show _ = _
                unfold rV
                rw [← WB.out]
                unfold wantR
                simp only []
                rw [← EQ.out.2.2.1, ← EQ.out.1, ← EQ.out.2.2.2.2.2.1, ← EQ.out.2.2.2.2.2.2]
              have RVW : Hid (rV (wantR e.1) EA EC = .agg #[.int .i64 st, .slice EA hn EC, .string bs, .bool false, .bool cl]) := by
                show _ = _
                unfold rV
                rw [← WB.out]
                unfold wantR
                simp only []
                rw [← EQ.out.2.2.1, ← EQ.out.1, ← EQ.out.2.2.2.2.2.1, ← EQ.out.2.2.2.2.2.2]
              rw [RV2.out] at hfr ⊢
              have FRESH : Hid (∀ y, A2 = some y → wr.heap.size ≤ y.block) := hfr
              have NE : Hid (1 ≤ n2 ∧ n2 ≤ all.length ∧ n2 = (form e.1).length) := by have := AL.out; have := FP.out; show _ ∧ _ ∧ _; omega
              have b1 : ¬ (n2 : Int) < 1 := by have := NE.out; omega
              have b2 : ¬ (s.size : Int) < (n2 : Int) := by have := NE.out; have := HSZ.out; omega
              have b2n : ¬ s.size < n2 := by have := NE.out; have := HSZ.out; omega
              have n2s : n2 ≤ s.size := by have := NE.out; have := HSZ.out; omega
              have sbz : (s.size : Int) ≤ 5000000 := by have := HSZ.out; omega
              have CUT : s.extract n2 s.size = S rest := by
                rw [HSZ.out, HS.out, S_extract, TD.out, NE.out.2.2]
                congr 1
                rw [List.drop_left, List.take_of_length_le]
                rw [List.length_append]
                omega
              have Bw2 := Lib.hid (HB2.out.trans (hb2.mono HB2.out.size))
              have O2 := Lib.hid (HO2.out.below hb2)
              have a0' := wR a0 hb2
              have a1' := wR a1 hb2
              have a2' := wR a2 hb2
              have a3' := wR a3 hb2
              have a4' := wR a4 hb2
              have HA2 := Lib.hid hA2
              have SZ2 : Hid (wr.heap.size ≤ w2.heap.size) := hb2.size
              obtain ⟨W3, hW3⟩ : ∃ x, x = w2.alloc (.cells #[.int .i64 st, .slice A2 hn c2', .string bs, .bool false, .bool cl] 24) := ⟨_, rfl⟩
              have HW3 := Lib.hid hW3
              have b3 : Below w2.heap.size w2 W3 := by rw [hW3]; exact (Below.refl _ _).alloc (Nat.le_refl _) _
              obtain ⟨q, hq⟩ : ∃ q, q = w2.heap.size := ⟨_, rfl⟩
              have J3 : Hid (Held W3 q 24 #[.int .i64 st, .slice A2 hn c2', .string bs, .bool false, .bool cl]) := by show Held _ _ _ _; rw [hW3]; exact Held.new _ _ _ hq
              have HQ := Lib.hid hq
              have Bw3 := Lib.hid (Bw2.out.trans (b3.mono Bw2.out.size))
              have O3 := Lib.hid (O2.out.below b3)
              have HA3 := Lib.hid (HA2.out.below b3)
              have gq : g < w2.heap.size := by have := GG.out.1; have := SZ2.out; omega
              have GQ := Lib.hid gq
              have d0 := wR a0' b3
              have d1 := wR a1' b3
              have d2 := wR a2' b3
              have d3 := wR a3' b3
              have d4 := wR a4' b3
              have YF : Hid (w2.frozen? ⟨g, k * 5 + 2, none⟩ = false) := by
                show _ = _
                obtain ⟨g', e', _, _, hf⟩ := O2.out.block rl
                injection e' with e'
                injection e' with e' _ _
                subst e'
                exact hf _
              clear hA2 hy2 hn2 hb2 hl2 hfr hW3 hq a0 a1 a2 a3 a4 RD y2

              have NR : Hid (row.length = m ∧ ∀ j, k + 1 ≤ j → row[j]? = acc[j]?) := ⟨HR.out.1, fun j hj => HR.out.2 j (by omega)⟩
              have WE : Hid (wantR e.1 = e.1) := want_full e.1 EQ.out.2.2.2.2.2.1
              have SM : Hid (∀ u, Below W3.heap.size W3 u → Calls Tryd.prog 8 #[.agg #[.int .i64 st, .slice A2 hn c2', .string bs, .bool false, .bool cl], .agg #[.int .i64 st, .slice EA hn EC, .string bs, .bool false, .bool cl]] u fun e w' => e = .returned (.bool true) ∧ Below u.heap.size u w') := fun u hu => by
                rw [← RV2.out, ← RVW.out, EQ.out.2.1]
                refine (same_any u (wantR e.1) (wantR e.1) A2 e.2.1 c2' EC (HA3.out.below hu) (HAE.out.below (Bw3.out.trans (hu.mono Bw3.out.size))) FIT.out.n).mono ?_
                rintro e w' ⟨rfl, hb⟩
                exact ⟨by rw [same_want], hb⟩
              go_upto_region 18 with fail
              rw [← HW3.out]
              refine wp_region_noPanic ?_
              have x0 := J3.out.cell 0
              have x1 := J3.out.cell 1
              have x2 := J3.out.cell 2
              have x3 := J3.out.cell 3
              have x4 := J3.out.cell 4
              rw [HQ.out] at x0 x1 x2 x3 x4
              refine wp_region_held_drew (S := fun w' => (w'.cell? ⟨w2.heap.size, 0, none⟩ = some (.int .i64 st) ∧ w'.cell? ⟨w2.heap.size, 1, none⟩ = some (.slice A2 hn c2') ∧ w'.cell? ⟨w2.heap.size, 2, none⟩ = some (.string bs) ∧ w'.cell? ⟨w2.heap.size, 3, none⟩ = some (.bool false) ∧ w'.cell? ⟨w2.heap.size, 4, none⟩ = some (.bool cl)) ∧ (w'.cell? ⟨g, k * 5, none⟩ = some (.int .i64 st) ∧ w'.cell? ⟨g, k * 5 + 1, none⟩ = some (.slice EA hn EC) ∧ w'.cell? ⟨g, k * 5 + 2, none⟩ = some (.string bs) ∧ w'.cell? ⟨g, k * 5 + 3, none⟩ = some (.bool false) ∧ w'.cell? ⟨g, k * 5 + 4, none⟩ = some (.bool cl))) (by kernel_rfl) ⟨⟨x0, x1, x2, x3, x4⟩, d0, d1, d2, d3, d4⟩ (fun hHeld => ?_)
              refine take_ (i := 0) (v := ?_) 72 rfl rfl (by kernel_rfl) (by kernel_rfl) (by kernel_rfl) (fun _ _ _ h => h) (Or.inl ⟨by rfl, ?_⟩) (by assumption) ?_
              rotate_left
              · (intro wS hSw; (try dsimp only at hSw); go_simp; try with_reducible rfl)
              simp only [Act.put, List.setIfInBounds_toArray, List.set_cons_zero, List.set_cons_succ]
              refine take_ (i := 1) (v := ?_) 73 rfl rfl (by kernel_rfl) (by kernel_rfl) (by kernel_rfl) (fun _ _ _ h => h) (Or.inl ⟨by rfl, ?_⟩) (by assumption) ?_
              rotate_left
              · (intro wS hSw; (try dsimp only at hSw); go_simp; try with_reducible rfl)
              simp only [Act.put, List.setIfInBounds_toArray, List.set_cons_zero, List.set_cons_succ]
              refine take_ (i := 2) (v := ?_) 74 rfl rfl (by kernel_rfl) (by kernel_rfl) (by kernel_rfl) (fun _ _ _ h => h) (Or.inl ⟨by rfl, ?_⟩) (by assumption) ?_
              rotate_left
              · (intro wS hSw; (try dsimp only at hSw); go_simp; try with_reducible rfl)
              simp only [Act.put, List.setIfInBounds_toArray, List.set_cons_zero, List.set_cons_succ]
              refine take_ (i := 3) (v := ?_) 75 rfl rfl (by kernel_rfl) (by kernel_rfl) (by kernel_rfl) (fun _ _ _ h => h) (Or.inl ⟨by rfl, ?_⟩) (by assumption) ?_
              rotate_left
              · (intro wS hSw; (try dsimp only at hSw); go_simp; try with_reducible rfl)
              simp only [Act.put, List.setIfInBounds_toArray, List.set_cons_zero, List.set_cons_succ]
              refine take_ (i := 4) (v := .bool false) 76 rfl rfl (by kernel_rfl) (by kernel_rfl) (by kernel_rfl) (fun _ _ _ h => h) (Or.inl ⟨by rfl, ?_⟩) (by assumption) ?_
              · (intro wS hSw; (try dsimp only at hSw); go_simp; (try with_reducible rfl); (try simp [b1]))
              simp only [Act.put, List.setIfInBounds_toArray, List.set_cons_zero, List.set_cons_succ]
              refine take_ (i := 5) (v := ?_) 77 rfl rfl (by kernel_rfl) (by kernel_rfl) (by kernel_rfl) (fun _ _ _ h => h) (Or.inl ⟨by rfl, ?_⟩) (by assumption) ?_
              rotate_left
              · (intro wS hSw; (try dsimp only at hSw); go_simp; try with_reducible rfl)
              simp only [Act.put, List.setIfInBounds_toArray, List.set_cons_zero, List.set_cons_succ]
              refine take_ (i := 6) (v := ?_) 78 rfl rfl (by kernel_rfl) (by kernel_rfl) (by kernel_rfl) (fun _ _ _ h => h) (Or.inl ⟨by rfl, ?_⟩) (by assumption) ?_
              rotate_left
              · (intro wS hSw; (try dsimp only at hSw); go_simp; try with_reducible rfl)
              simp only [Act.put, List.setIfInBounds_toArray, List.set_cons_zero, List.set_cons_succ]
              refine take_ (i := 7) (v := ?_) 79 rfl rfl (by kernel_rfl) (by kernel_rfl) (by kernel_rfl) (fun _ _ _ h => h) (Or.inl ⟨by rfl, ?_⟩) (by assumption) ?_
              rotate_left
              · (intro wS hSw; (try dsimp only at hSw); go_simp; try with_reducible rfl)
              simp only [Act.put, List.setIfInBounds_toArray, List.set_cons_zero, List.set_cons_succ]
              refine take_ (i := 8) (v := ?_) 80 rfl rfl (by kernel_rfl) (by kernel_rfl) (by kernel_rfl) (fun _ _ _ h => h) (Or.inl ⟨by rfl, ?_⟩) (by assumption) ?_
              rotate_left
              · (intro wS hSw; (try dsimp only at hSw); go_simp; try with_reducible rfl)
              simp only [Act.put, List.setIfInBounds_toArray, List.set_cons_zero, List.set_cons_succ]
              refine take_ (i := 9) (v := ?_) 81 rfl rfl (by kernel_rfl) (by kernel_rfl) (by kernel_rfl) (fun _ _ _ h => h) (Or.inl ⟨by rfl, ?_⟩) (by assumption) ?_
              rotate_left
              · (intro wS hSw; (try dsimp only at hSw); go_simp; try with_reducible rfl)
              simp only [Act.put, List.setIfInBounds_toArray, List.set_cons_zero, List.set_cons_succ]
              refine take_ (i := 10) (v := .bool false) 82 rfl rfl (by kernel_rfl) (by kernel_rfl) (by kernel_rfl) (fun _ _ _ h => h) (Or.inl ⟨by rfl, ?_⟩) (by assumption) ?_
              · (intro wS hSw; (try dsimp only at hSw); go_simp; (try with_reducible rfl); (try simp [b2, b2n]))
              simp only [Act.put, List.setIfInBounds_toArray, List.set_cons_zero, List.set_cons_succ]
              refine take_ (i := 11) (v := ?_) 83 rfl rfl (by kernel_rfl) (by kernel_rfl) (by kernel_rfl) (fun _ _ _ h => h) (Or.inl ⟨by rfl, ?_⟩) (by assumption) ?_
              rotate_left
              · (intro wS hSw; (try dsimp only at hSw); go_simp; try with_reducible rfl)
              simp only [Act.put, List.setIfInBounds_toArray, List.set_cons_zero, List.set_cons_succ]
              refine take_ (i := 12) (v := ?_) 84 rfl rfl (by kernel_rfl) (by kernel_rfl) (by kernel_rfl) (fun _ _ _ h => h) (Or.inl ⟨by rfl, ?_⟩) (by assumption) ?_
              rotate_left
              · (intro wS hSw; (try dsimp only at hSw); go_simp; try with_reducible rfl)
              simp only [Act.put, List.setIfInBounds_toArray, List.set_cons_zero, List.set_cons_succ]
              refine take_ (i := 13) (v := ?_) 85 rfl rfl (by kernel_rfl) (by kernel_rfl) (by kernel_rfl) (fun _ _ _ h => h) (Or.inl ⟨by rfl, ?_⟩) (by assumption) ?_
              rotate_left
              · (intro wS hSw; (try dsimp only at hSw); go_simp; try with_reducible rfl)
              simp only [Act.put, List.setIfInBounds_toArray, List.set_cons_zero, List.set_cons_succ]
              refine take_ (i := 14) (v := ?_) 86 rfl rfl (by kernel_rfl) (by kernel_rfl) (by kernel_rfl) (fun _ _ _ h => h) (Or.inl ⟨by rfl, ?_⟩) (by assumption) ?_
              rotate_left
              · (intro wS hSw; (try dsimp only at hSw); go_simp; try with_reducible rfl)
              simp only [Act.put, List.setIfInBounds_toArray, List.set_cons_zero, List.set_cons_succ]
              refine take_ (i := 15) (v := ?_) 87 rfl rfl (by kernel_rfl) (by kernel_rfl) (by kernel_rfl) (fun _ _ _ h => h) (Or.inl ⟨by rfl, ?_⟩) (by assumption) ?_
              rotate_left
              · (intro wS hSw; (try dsimp only at hSw); go_simp; try with_reducible rfl)
              simp only [Act.put, List.setIfInBounds_toArray, List.set_cons_zero, List.set_cons_succ]
              refine take_ (i := 16) (v := ?_) 88 rfl rfl (by kernel_rfl) (by kernel_rfl) (by kernel_rfl) (fun _ _ _ h => h) (Or.inl ⟨by rfl, ?_⟩) (by assumption) ?_
              rotate_left
              · (intro wS hSw; (try dsimp only at hSw); go_simp; try with_reducible rfl)
              simp only [Act.put, List.setIfInBounds_toArray, List.set_cons_zero, List.set_cons_succ]
              refine take_ (i := 17) (v := ?_) 89 rfl rfl (by kernel_rfl) (by kernel_rfl) (by kernel_rfl) (fun _ _ _ h => h) (Or.inl ⟨by rfl, ?_⟩) (by assumption) ?_
              rotate_left
              · (intro wS hSw; (try dsimp only at hSw); go_simp; try with_reducible rfl)
              simp only [Act.put, List.setIfInBounds_toArray, List.set_cons_zero, List.set_cons_succ]
              refine one_ (i := 18) _ (by kernel_rfl) rfl (fun K hK => ?_)
              go_simp
              refine (SM.out _ ((Below.refl W3.heap.size W3).drew)).mono ?_
              rintro x w5 ⟨rfl, hb5⟩
              dsimp only
              have b5 : Below W3.heap.size W3 w5 := ((Below.refl W3.heap.size W3).drew).trans hb5
              have Bw5 := Lib.hid (Bw3.out.trans (b5.mono Bw3.out.size))
              have O5 := Lib.hid (O3.out.below b5)
              have S5 : Hid ((w5.cell? ⟨w2.heap.size, 0, none⟩ = some (.int .i64 st) ∧ w5.cell? ⟨w2.heap.size, 1, none⟩ = some (.slice A2 hn c2') ∧ w5.cell? ⟨w2.heap.size, 2, none⟩ = some (.string bs) ∧ w5.cell? ⟨w2.heap.size, 3, none⟩ = some (.bool false) ∧ w5.cell? ⟨w2.heap.size, 4, none⟩ = some (.bool cl)) ∧ (w5.cell? ⟨g, k * 5, none⟩ = some (.int .i64 st) ∧ w5.cell? ⟨g, k * 5 + 1, none⟩ = some (.slice EA hn EC) ∧ w5.cell? ⟨g, k * 5 + 2, none⟩ = some (.string bs) ∧ w5.cell? ⟨g, k * 5 + 3, none⟩ = some (.bool false) ∧ w5.cell? ⟨g, k * 5 + 4, none⟩ = some (.bool cl))) := ⟨⟨wR x0 b5, wR x1 b5, wR x2 b5, wR x3 b5, wR x4 b5⟩, wR d0 b5, wR d1 b5, wR d2 b5, wR d3 b5, wR d4 b5⟩
              clear hb5 b5 SM x0 x1 x2 x3 x4 d0 d1 d2 d3 d4
              refine hK.out _ _ S5.out (fun hHeld => ?_)
              clear hK K
              refine take_ (i := 19) (v := ?_) 91 rfl rfl (by kernel_rfl) (by kernel_rfl) (by kernel_rfl) (fun _ _ _ h => h) (Or.inl ⟨by rfl, ?_⟩) (by assumption) ?_
              rotate_left
              · (intro wS hSw; (try dsimp only at hSw); go_simp; try with_reducible rfl)
              simp only [Act.put, List.setIfInBounds_toArray]
              refine take_ (i := 20) (v := ?_) 92 rfl rfl (by kernel_rfl) (by kernel_rfl) (by kernel_rfl) (fun _ _ _ h => h) (Or.inl ⟨by rfl, ?_⟩) (by assumption) ?_
              rotate_left
              · (intro wS hSw; (try dsimp only at hSw); go_simp; try with_reducible rfl)
              simp only [Act.put, List.setIfInBounds_toArray]
              refine wpAnyH_done (by kernel_rfl) ?_ _
              refine NoPanic.normal ?_
              go_wp2_with fail
              rw [HREST.out]
              go_roundw
              case rel => exact ⟨k + 1, row, by omega, by go_num, rfl, NR, O5, Bw5⟩
              case measure => simp [intOf]; omega
            · skip
              go_wp2_with fail
              refine RD.out.mono ?_
              rintro x w2 ⟨⟨⟨r2, A2, c2', n2, ok2, rfl, hA2, hy2, hn2⟩, hfr⟩, hb2⟩
              cases ok2
              · have := (hn2 rfl).1
                rw [FR.out] at this
                cases this
              obtain ⟨z2, hz2, hl2⟩ := hy2 rfl
              rw [FR.out] at hz2
              simp only [Option.some.injEq, Prod.mk.injEq] at hz2
              obtain ⟨rfl, rfl⟩ := hz2
              have WB : Hid ((⟨#[]⟩ : ByteArray) = S (wantR e.1).body) := by show _ = _; unfold wantR; simp only []; rw [← EQ.out.2.2.2.2.2.1]; rfl
              have RV2 : Hid (rV (wantR e.1) A2 c2' = .agg #[.int .i64 st, .slice A2 hn c2', .string (⟨#[]⟩ : ByteArray), .bool true, .bool cl]) := by
                show _ = _
                unfold rV
                rw [← WB.out]
                unfold wantR
                simp only []
                rw [← EQ.out.2.2.1, ← EQ.out.1, ← EQ.out.2.2.2.2.2.1, ← EQ.out.2.2.2.2.2.2]
              have RVW : Hid (rV (wantR e.1) EA EC = .agg #[.int .i64 st, .slice EA hn EC, .string (⟨#[]⟩ : ByteArray), .bool true, .bool cl]) := by
                show _ = _
                unfold rV
                rw [← WB.out]
                unfold wantR
                simp only []
                rw [← EQ.out.2.2.1, ← EQ.out.1, ← EQ.out.2.2.2.2.2.1, ← EQ.out.2.2.2.2.2.2]
              rw [RV2.out] at hfr ⊢
              have FRESH : Hid (∀ y, A2 = some y → wr.heap.size ≤ y.block) := hfr
              have NE : Hid (1 ≤ n2 ∧ n2 ≤ all.length ∧ n2 = (form e.1).length) := by have := AL.out; have := FP.out; show _ ∧ _ ∧ _; omega
              have b1 : ¬ (n2 : Int) < 1 := by have := NE.out; omega
              have b2 : ¬ (s.size : Int) < (n2 : Int) := by have := NE.out; have := HSZ.out; omega
              have b2n : ¬ s.size < n2 := by have := NE.out; have := HSZ.out; omega
              have n2s : n2 ≤ s.size := by have := NE.out; have := HSZ.out; omega
              have sbz : (s.size : Int) ≤ 5000000 := by have := HSZ.out; omega
              have CUT : s.extract n2 s.size = S rest := by
                rw [HSZ.out, HS.out, S_extract, TD.out, NE.out.2.2]
                congr 1
                rw [List.drop_left, List.take_of_length_le]
                rw [List.length_append]
                omega
              have Bw2 := Lib.hid (HB2.out.trans (hb2.mono HB2.out.size))
              have O2 := Lib.hid (HO2.out.below hb2)
              have a0' := wR a0 hb2
              have a1' := wR a1 hb2
              have a2' := wR a2 hb2
              have a3' := wR a3 hb2
              have a4' := wR a4 hb2
              have HA2 := Lib.hid hA2
              have SZ2 : Hid (wr.heap.size ≤ w2.heap.size) := hb2.size
              obtain ⟨W3, hW3⟩ : ∃ x, x = w2.alloc (.cells #[.int .i64 st, .slice A2 hn c2', .string (⟨#[]⟩ : ByteArray), .bool true, .bool cl] 24) := ⟨_, rfl⟩
              have HW3 := Lib.hid hW3
              have b3 : Below w2.heap.size w2 W3 := by rw [hW3]; exact (Below.refl _ _).alloc (Nat.le_refl _) _
              obtain ⟨q, hq⟩ : ∃ q, q = w2.heap.size := ⟨_, rfl⟩
              have J3 : Hid (Held W3 q 24 #[.int .i64 st, .slice A2 hn c2', .string (⟨#[]⟩ : ByteArray), .bool true, .bool cl]) := by show Held _ _ _ _; rw [hW3]; exact Held.new _ _ _ hq
              have HQ := Lib.hid hq
              have Bw3 := Lib.hid (Bw2.out.trans (b3.mono Bw2.out.size))
              have O3 := Lib.hid (O2.out.below b3)
              have HA3 := Lib.hid (HA2.out.below b3)
              have gq : g < w2.heap.size := by have := GG.out.1; have := SZ2.out; omega
              have GQ := Lib.hid gq
              have d0 := wR a0' b3
              have d1 := wR a1' b3
              have d2 := wR a2' b3
              have d3 := wR a3' b3
              have d4 := wR a4' b3
              have YF : Hid (w2.frozen? ⟨g, k * 5 + 2, none⟩ = false) := by
                show _ = _
                obtain ⟨g', e', _, _, hf⟩ := O2.out.block rl
                injection e' with e'
                injection e' with e' _ _
                subst e'
                exact hf _
              clear hA2 hy2 hn2 hb2 hl2 hfr hW3 hq a0 a1 a2 a3 a4 RD y2

              have yf : ∀ o, (w2.alloc o).frozen? ⟨g, k * 5 + 2, none⟩ = false := fun o => by
                rw [World.frozen?_alloc_old _ _ _ (by show g ≠ _; omega)]
                exact YF.out
              have yf1 := YF.out
              have ca : ∀ o, (w2.alloc o).cell? ⟨g, k * 5 + 2, none⟩ = some (.string bs) := fun o => (World.cell?_alloc_lt _ _ _ gq).trans a2'
              obtain ⟨W4, hW4⟩ : ∃ x, x = W3.setCell ⟨g, k * 5 + 2, none⟩ (.string ⟨#[]⟩) := ⟨_, rfl⟩
              have HW4 : Hid (W4 = (w2.setCell ⟨g, k * 5 + 2, none⟩ (.string ⟨#[]⟩)).alloc (.cells #[.int .i64 st, .slice A2 hn c2', .string ⟨#[]⟩, .bool true, .bool cl] 24)) := by
                show _ = _
                rw [hW4, HW3.out]
                exact World.setCell_alloc_past _ _ _ _ gq
              have O4 : Hid (OwnR W4 w.heap.size (.slice (some ⟨g, 0, none⟩) (row.set k (wantR e.1, e.2)).length c) (row.set k (wantR e.1, e.2))) := by
                show OwnR _ _ _ _
                rw [hW4]
                have h := O3.out.set_ k e (wantR e.1, e.2) HRE.out (want_elV e)
                simp only [] at h
                rw [← WB.out] at h
                exact h
              have Bw4 : Hid (Below w.heap.size w W4) := by
                show Below _ _ _
                rw [hW4]
                exact Bw3.out.setCell GG.out.2 _
              have SZ4 : Hid (W4.heap.size = W3.heap.size) := by
                show _ = _
                rw [hW4]
                simp [World.setCell]
              have HA4 : Hid (HAt W4 A2 (wantR e.1).headers) := fun hp => by
                obtain ⟨y, off, ey, hl, hc⟩ := HA3.out hp
                have hy : wr.heap.size ≤ y := FRESH.out _ ey
                refine ⟨y, off, ey, by rw [SZ4.out]; exact hl, fun j u hu => ?_⟩
                rw [hW4, World.cell?_setCell_far _ _ _ _ (by show g ≠ y; have := GG.out.1; omega)]
                exact hc j u hu
              have far : ∀ i, W4.cell? ⟨q, i, none⟩ = W3.cell? ⟨q, i, none⟩ := fun i => by
                rw [hW4]
                exact World.cell?_setCell_far _ _ _ _ (by show g ≠ q; rw [HQ.out]; omega)
              have oth : ∀ i, i ≠ k * 5 + 2 → W4.cell? ⟨g, i, none⟩ = W3.cell? ⟨g, i, none⟩ := fun i hi => by
                rw [hW4]
                apply World.cell?_setCell_other
                intro h
                injection h with _ h _
                omega
              have x0 := (far 0).trans (J3.out.cell 0)
              have x1 := (far 1).trans (J3.out.cell 1)
              have x2 := (far 2).trans (J3.out.cell 2)
              have x3 := (far 3).trans (J3.out.cell 3)
              have x4 := (far 4).trans (J3.out.cell 4)
              rw [HQ.out] at x0 x1 x2 x3 x4
              have f0 := (oth (k * 5) (by omega)).trans d0
              have f1 := (oth (k * 5 + 1) (by omega)).trans d1
              have f2 : W4.cell? ⟨g, k * 5 + 2, none⟩ = some (.string ⟨#[]⟩) := by rw [hW4]; apply World.cell?_setCell_same; exact d2
              have f3 := (oth (k * 5 + 3) (by omega)).trans d3
              have f4 := (oth (k * 5 + 4) (by omega)).trans d4
              have X4 : Hid ((W4.cell? ⟨w2.heap.size, 0, none⟩ = some (.int .i64 st) ∧ W4.cell? ⟨w2.heap.size, 1, none⟩ = some (.slice A2 hn c2') ∧ W4.cell? ⟨w2.heap.size, 2, none⟩ = some (.string ⟨#[]⟩) ∧ W4.cell? ⟨w2.heap.size, 3, none⟩ = some (.bool true) ∧ W4.cell? ⟨w2.heap.size, 4, none⟩ = some (.bool cl)) ∧ (W4.cell? ⟨g, k * 5, none⟩ = some (.int .i64 st) ∧ W4.cell? ⟨g, k * 5 + 1, none⟩ = some (.slice EA hn EC) ∧ W4.cell? ⟨g, k * 5 + 2, none⟩ = some (.string ⟨#[]⟩) ∧ W4.cell? ⟨g, k * 5 + 3, none⟩ = some (.bool true) ∧ W4.cell? ⟨g, k * 5 + 4, none⟩ = some (.bool cl))) := ⟨⟨x0, x1, x2, x3, x4⟩, f0, f1, f2, f3, f4⟩
              have NR : Hid ((row.set k (wantR e.1, e.2)).length = m ∧ ∀ j, k + 1 ≤ j → (row.set k (wantR e.1, e.2))[j]? = acc[j]?) := ⟨by rw [List.length_set]; exact HR.out.1, fun j hj => by rw [List.getElem?_set_ne (by omega)]; exact HR.out.2 j (by omega)⟩
              have SM : Hid (∀ u, Below W4.heap.size W4 u → Calls Tryd.prog 8 #[.agg #[.int .i64 st, .slice A2 hn c2', .string ⟨#[]⟩, .bool true, .bool cl], .agg #[.int .i64 st, .slice EA hn EC, .string ⟨#[]⟩, .bool true, .bool cl]] u fun e w' => e = .returned (.bool true) ∧ Below u.heap.size u w') := fun u hu => by
                rw [← RV2.out, ← RVW.out, EQ.out.2.1]
                refine (same_any u (wantR e.1) (wantR e.1) A2 e.2.1 c2' EC (HA4.out.below hu) (HAE.out.below (Bw4.out.trans (hu.mono Bw4.out.size))) FIT.out.n).mono ?_
                rintro e w' ⟨rfl, hb⟩
                exact ⟨by rw [same_want], hb⟩
              clear hW4 far oth x0 x1 x2 x3 x4 f0 f1 f2 f3 f4
              go_upto_region 18 with fail
              clear d0 d1 d2 d3 d4 a0' a1' a2' a3' a4' yf yf1 ca
              rw [← HW4.out]
              refine wp_region_noPanic ?_
              refine wp_region_held_drew (S := fun w' => (w'.cell? ⟨w2.heap.size, 0, none⟩ = some (.int .i64 st) ∧ w'.cell? ⟨w2.heap.size, 1, none⟩ = some (.slice A2 hn c2') ∧ w'.cell? ⟨w2.heap.size, 2, none⟩ = some (.string ⟨#[]⟩) ∧ w'.cell? ⟨w2.heap.size, 3, none⟩ = some (.bool true) ∧ w'.cell? ⟨w2.heap.size, 4, none⟩ = some (.bool cl)) ∧ (w'.cell? ⟨g, k * 5, none⟩ = some (.int .i64 st) ∧ w'.cell? ⟨g, k * 5 + 1, none⟩ = some (.slice EA hn EC) ∧ w'.cell? ⟨g, k * 5 + 2, none⟩ = some (.string ⟨#[]⟩) ∧ w'.cell? ⟨g, k * 5 + 3, none⟩ = some (.bool true) ∧ w'.cell? ⟨g, k * 5 + 4, none⟩ = some (.bool cl))) (by kernel_rfl) X4.out (fun hHeld => ?_)
              refine take_ (i := 0) (v := ?_) 72 rfl rfl (by kernel_rfl) (by kernel_rfl) (by kernel_rfl) (fun _ _ _ h => h) (Or.inl ⟨by rfl, ?_⟩) (by assumption) ?_
              rotate_left
              · (intro wS hSw; (try dsimp only at hSw); go_simp; try with_reducible rfl)
              simp only [Act.put, List.setIfInBounds_toArray, List.set_cons_zero, List.set_cons_succ]
              refine take_ (i := 1) (v := ?_) 73 rfl rfl (by kernel_rfl) (by kernel_rfl) (by kernel_rfl) (fun _ _ _ h => h) (Or.inl ⟨by rfl, ?_⟩) (by assumption) ?_
              rotate_left
              · (intro wS hSw; (try dsimp only at hSw); go_simp; try with_reducible rfl)
              simp only [Act.put, List.setIfInBounds_toArray, List.set_cons_zero, List.set_cons_succ]
              refine take_ (i := 2) (v := ?_) 74 rfl rfl (by kernel_rfl) (by kernel_rfl) (by kernel_rfl) (fun _ _ _ h => h) (Or.inl ⟨by rfl, ?_⟩) (by assumption) ?_
              rotate_left
              · (intro wS hSw; (try dsimp only at hSw); go_simp; try with_reducible rfl)
              simp only [Act.put, List.setIfInBounds_toArray, List.set_cons_zero, List.set_cons_succ]
              refine take_ (i := 3) (v := ?_) 75 rfl rfl (by kernel_rfl) (by kernel_rfl) (by kernel_rfl) (fun _ _ _ h => h) (Or.inl ⟨by rfl, ?_⟩) (by assumption) ?_
              rotate_left
              · (intro wS hSw; (try dsimp only at hSw); go_simp; try with_reducible rfl)
              simp only [Act.put, List.setIfInBounds_toArray, List.set_cons_zero, List.set_cons_succ]
              refine take_ (i := 4) (v := .bool false) 76 rfl rfl (by kernel_rfl) (by kernel_rfl) (by kernel_rfl) (fun _ _ _ h => h) (Or.inl ⟨by rfl, ?_⟩) (by assumption) ?_
              · (intro wS hSw; (try dsimp only at hSw); go_simp; (try with_reducible rfl); (try simp [b1]))
              simp only [Act.put, List.setIfInBounds_toArray, List.set_cons_zero, List.set_cons_succ]
              refine take_ (i := 5) (v := ?_) 77 rfl rfl (by kernel_rfl) (by kernel_rfl) (by kernel_rfl) (fun _ _ _ h => h) (Or.inl ⟨by rfl, ?_⟩) (by assumption) ?_
              rotate_left
              · (intro wS hSw; (try dsimp only at hSw); go_simp; try with_reducible rfl)
              simp only [Act.put, List.setIfInBounds_toArray, List.set_cons_zero, List.set_cons_succ]
              refine take_ (i := 6) (v := ?_) 78 rfl rfl (by kernel_rfl) (by kernel_rfl) (by kernel_rfl) (fun _ _ _ h => h) (Or.inl ⟨by rfl, ?_⟩) (by assumption) ?_
              rotate_left
              · (intro wS hSw; (try dsimp only at hSw); go_simp; try with_reducible rfl)
              simp only [Act.put, List.setIfInBounds_toArray, List.set_cons_zero, List.set_cons_succ]
              refine take_ (i := 7) (v := ?_) 79 rfl rfl (by kernel_rfl) (by kernel_rfl) (by kernel_rfl) (fun _ _ _ h => h) (Or.inl ⟨by rfl, ?_⟩) (by assumption) ?_
              rotate_left
              · (intro wS hSw; (try dsimp only at hSw); go_simp; try with_reducible rfl)
              simp only [Act.put, List.setIfInBounds_toArray, List.set_cons_zero, List.set_cons_succ]
              refine take_ (i := 8) (v := ?_) 80 rfl rfl (by kernel_rfl) (by kernel_rfl) (by kernel_rfl) (fun _ _ _ h => h) (Or.inl ⟨by rfl, ?_⟩) (by assumption) ?_
              rotate_left
              · (intro wS hSw; (try dsimp only at hSw); go_simp; try with_reducible rfl)
              simp only [Act.put, List.setIfInBounds_toArray, List.set_cons_zero, List.set_cons_succ]
              refine take_ (i := 9) (v := ?_) 81 rfl rfl (by kernel_rfl) (by kernel_rfl) (by kernel_rfl) (fun _ _ _ h => h) (Or.inl ⟨by rfl, ?_⟩) (by assumption) ?_
              rotate_left
              · (intro wS hSw; (try dsimp only at hSw); go_simp; try with_reducible rfl)
              simp only [Act.put, List.setIfInBounds_toArray, List.set_cons_zero, List.set_cons_succ]
              refine take_ (i := 10) (v := .bool false) 82 rfl rfl (by kernel_rfl) (by kernel_rfl) (by kernel_rfl) (fun _ _ _ h => h) (Or.inl ⟨by rfl, ?_⟩) (by assumption) ?_
              · (intro wS hSw; (try dsimp only at hSw); go_simp; (try with_reducible rfl); (try simp [b2, b2n]))
              simp only [Act.put, List.setIfInBounds_toArray, List.set_cons_zero, List.set_cons_succ]
              refine take_ (i := 11) (v := ?_) 83 rfl rfl (by kernel_rfl) (by kernel_rfl) (by kernel_rfl) (fun _ _ _ h => h) (Or.inl ⟨by rfl, ?_⟩) (by assumption) ?_
              rotate_left
              · (intro wS hSw; (try dsimp only at hSw); go_simp; try with_reducible rfl)
              simp only [Act.put, List.setIfInBounds_toArray, List.set_cons_zero, List.set_cons_succ]
              refine take_ (i := 12) (v := ?_) 84 rfl rfl (by kernel_rfl) (by kernel_rfl) (by kernel_rfl) (fun _ _ _ h => h) (Or.inl ⟨by rfl, ?_⟩) (by assumption) ?_
              rotate_left
              · (intro wS hSw; (try dsimp only at hSw); go_simp; try with_reducible rfl)
              simp only [Act.put, List.setIfInBounds_toArray, List.set_cons_zero, List.set_cons_succ]
              refine take_ (i := 13) (v := ?_) 85 rfl rfl (by kernel_rfl) (by kernel_rfl) (by kernel_rfl) (fun _ _ _ h => h) (Or.inl ⟨by rfl, ?_⟩) (by assumption) ?_
              rotate_left
              · (intro wS hSw; (try dsimp only at hSw); go_simp; try with_reducible rfl)
              simp only [Act.put, List.setIfInBounds_toArray, List.set_cons_zero, List.set_cons_succ]
              refine take_ (i := 14) (v := ?_) 86 rfl rfl (by kernel_rfl) (by kernel_rfl) (by kernel_rfl) (fun _ _ _ h => h) (Or.inl ⟨by rfl, ?_⟩) (by assumption) ?_
              rotate_left
              · (intro wS hSw; (try dsimp only at hSw); go_simp; try with_reducible rfl)
              simp only [Act.put, List.setIfInBounds_toArray, List.set_cons_zero, List.set_cons_succ]
              refine take_ (i := 15) (v := ?_) 87 rfl rfl (by kernel_rfl) (by kernel_rfl) (by kernel_rfl) (fun _ _ _ h => h) (Or.inl ⟨by rfl, ?_⟩) (by assumption) ?_
              rotate_left
              · (intro wS hSw; (try dsimp only at hSw); go_simp; try with_reducible rfl)
              simp only [Act.put, List.setIfInBounds_toArray, List.set_cons_zero, List.set_cons_succ]
              refine take_ (i := 16) (v := ?_) 88 rfl rfl (by kernel_rfl) (by kernel_rfl) (by kernel_rfl) (fun _ _ _ h => h) (Or.inl ⟨by rfl, ?_⟩) (by assumption) ?_
              rotate_left
              · (intro wS hSw; (try dsimp only at hSw); go_simp; try with_reducible rfl)
              simp only [Act.put, List.setIfInBounds_toArray, List.set_cons_zero, List.set_cons_succ]
              refine take_ (i := 17) (v := ?_) 89 rfl rfl (by kernel_rfl) (by kernel_rfl) (by kernel_rfl) (fun _ _ _ h => h) (Or.inl ⟨by rfl, ?_⟩) (by assumption) ?_
              rotate_left
              · (intro wS hSw; (try dsimp only at hSw); go_simp; try with_reducible rfl)
              simp only [Act.put, List.setIfInBounds_toArray, List.set_cons_zero, List.set_cons_succ]
              refine one_ (i := 18) _ (by kernel_rfl) rfl (fun K hK => ?_)
              go_simp
              refine (SM.out _ ((Below.refl W4.heap.size W4).drew)).mono ?_
              rintro x w5 ⟨rfl, hb5⟩
              dsimp only
              have b5 : Below W4.heap.size W4 w5 := ((Below.refl W4.heap.size W4).drew).trans hb5
              have Bw5 := Lib.hid (Bw4.out.trans (b5.mono Bw4.out.size))
              have O5 := Lib.hid (O4.out.below b5)
              have S5 : Hid ((w5.cell? ⟨w2.heap.size, 0, none⟩ = some (.int .i64 st) ∧ w5.cell? ⟨w2.heap.size, 1, none⟩ = some (.slice A2 hn c2') ∧ w5.cell? ⟨w2.heap.size, 2, none⟩ = some (.string ⟨#[]⟩) ∧ w5.cell? ⟨w2.heap.size, 3, none⟩ = some (.bool true) ∧ w5.cell? ⟨w2.heap.size, 4, none⟩ = some (.bool cl)) ∧ (w5.cell? ⟨g, k * 5, none⟩ = some (.int .i64 st) ∧ w5.cell? ⟨g, k * 5 + 1, none⟩ = some (.slice EA hn EC) ∧ w5.cell? ⟨g, k * 5 + 2, none⟩ = some (.string ⟨#[]⟩) ∧ w5.cell? ⟨g, k * 5 + 3, none⟩ = some (.bool true) ∧ w5.cell? ⟨g, k * 5 + 4, none⟩ = some (.bool cl))) := ⟨⟨wR X4.out.1.1 b5, wR X4.out.1.2.1 b5, wR X4.out.1.2.2.1 b5, wR X4.out.1.2.2.2.1 b5, wR X4.out.1.2.2.2.2 b5⟩, wR X4.out.2.1 b5, wR X4.out.2.2.1 b5, wR X4.out.2.2.2.1 b5, wR X4.out.2.2.2.2.1 b5, wR X4.out.2.2.2.2.2 b5⟩
              clear hb5 b5 SM
              refine hK.out _ _ S5.out (fun hHeld => ?_)
              clear hK K
              refine take_ (i := 19) (v := ?_) 91 rfl rfl (by kernel_rfl) (by kernel_rfl) (by kernel_rfl) (fun _ _ _ h => h) (Or.inl ⟨by rfl, ?_⟩) (by assumption) ?_
              rotate_left
              · (intro wS hSw; (try dsimp only at hSw); go_simp; try with_reducible rfl)
              simp only [Act.put, List.setIfInBounds_toArray]
              refine take_ (i := 20) (v := ?_) 92 rfl rfl (by kernel_rfl) (by kernel_rfl) (by kernel_rfl) (fun _ _ _ h => h) (Or.inl ⟨by rfl, ?_⟩) (by assumption) ?_
              rotate_left
              · (intro wS hSw; (try dsimp only at hSw); go_simp; try with_reducible rfl)
              simp only [Act.put, List.setIfInBounds_toArray]
              refine wpAnyH_done (by kernel_rfl) ?_ _
              refine NoPanic.normal ?_
              go_wp2_with fail
              rw [HREST.out]
              go_roundw
              case rel => exact ⟨k + 1, row.set k (wantR e.1, e.2), by omega, by go_num, rfl, NR, O5, Bw5⟩
              case measure => simp [intOf]; omega
          · obtain rfl : k = m := by omega
            have Z : Hid (texts (acc.drop k) = []) := by show _ = _; rw [HM.out, List.drop_length]; rfl
            have zz : S (texts (acc.drop k)) = ⟨#[]⟩ := by rw [Z.out]; rfl
            rw [zz]
            clear zz
            go_wp2_with fail
            go_ret
            exact ⟨rfl, HB2.out⟩
set_option maxRecDepth 100000 in
theorem opens {H : Type} {enc : TypeId × Value → H} {W : World} {base : Nat} {args : Array Value} {ds : List (DataW H)} {p : List MemPlace}
    (hval : ∀ (j : Nat) t v, Tryd.f4.params[j]? = some t → args[j]? = some v → Value.okWide Tryd.prog W .any base t v)
    (hA : DataW.TrodAll enc Tryd.prog W 0 (fun _ => true) true Tryd.f4.params.toList args.toList ds p) (hlt : ∀ x ∈ p, x.block < W.heap.size) (hk : Rows.uptoBulkAll ds ≤ 1048576) (hE : Env W) :
    Calls Tryd.prog 4 args W fun e W' => e = .returned (.bool true) ∧ Below W.heap.size W W' := by
  rw [Tryd.params4] at hA hval
  obtain ⟨v0, vs0, d0, ds0, p0, q0, hargs, rfl, rfl, h0, r0⟩ := trodAll_cons hA
  obtain ⟨rfl, rfl, rfl⟩ := trodAll_nil r0
  obtain rfl : args = #[v0] := Array.toList_inj.1 hargs
  simp only [Rows.uptoBulkAll] at hk
  obtain ⟨A, c, l, rfl, hL, hEl, hw, hlen⟩ := open_resps (hval 0 34 v0 rfl rfl) h0 (by omega)
  exact walk W A c l hL hEl hw hlen hE
theorem witness_row (os : Os) {H : Type} (enc : TypeId × Value → H) :
    (Rows.OpenSpec.upto Rows.replyManySpec).preRow enc Tryd.prog Tryd.f4 Rows.replyManyUptoRow.domain false Rows.replyManyUptoRow.laid ((startW os).forCall (fun _ _ => 0) ⟨#[], #[.slice none 0 0], []⟩).memory #[.slice none 0 0] := by
  have hw : (DataW.whole enc Tryd.prog ((startW os).forCall (fun _ _ => 0) ⟨#[], #[.slice none 0 0], []⟩).memory Tryd.f4.params.toList Rows.replyManySpec.vars false (#[.slice none 0 0] : Array Value).toList 8).map (fun x => (x.1, x.2.1)) =
      some ([.nil], []) := by kernel_rfl
  obtain ⟨⟨x1, x2, x3⟩, hx, hx1⟩ := Option.map_eq_some_iff.1 hw
  simp only [Prod.mk.injEq] at hx1
  obtain ⟨rfl, rfl⟩ := hx1
  exact OpenSpec.preRow_of_cond 8 hx (by kernel_rfl) (fun k hk => by cases hk; kernel_rfl) (by kernel_rfl) (door_met os _)
set_option maxRecDepth 100000 in
theorem lifted (os : Os) (started : os.Started) (H : Type) (enc : TypeId × Value → H) (F : Stop.Interp) :
    ReturnsInHanded {} Tryd.checked os 4 .any ((Rows.OpenSpec.upto Rows.replyManySpec).preRow enc Tryd.prog Tryd.f4 Rows.replyManyUptoRow.domain false Rows.replyManyUptoRow.laid) (((Rows.OpenSpec.upto Rows.replyManySpec).at F).post enc Tryd.prog Tryd.f4 false true false false) := by
  refine returnsInHanded_of_row (C := Tryd.checked) (s := Rows.OpenSpec.upto Rows.replyManySpec) own started (by kernel_rfl) Tryd.func4
    (witness_row_atRef (enc := enc) (C := Tryd.checked) false (startW os) #[.slice none 0 0] rfl (by kernel_rfl) (by kernel_rfl) (by kernel_rfl) (witness_row os enc)) ?_
  intro W base args ds gs before hval hW _ hcond _ hL hsh _
  have hk := hcond _ rfl
  refine law_calls (s := Rows.replyManySpec) laidOut Tryd.underlying4 rfl (by rw [Tryd.params4]; exact of_decide_eq_true (by kernel_rfl)) rfl (fun ds h => by match ds, h with | [_], _ => rfl) hW ?_
  obtain ⟨rfl, p, hA, hlt⟩ := law_args rfl hW
  have hb : Rows.uptoBulkAll (ds ++ []) ≤ 1048576 := of_decide_eq_true hk
  rw [List.append_nil] at hb
  exact opens hval hA hlt hb (env_of hL hsh)

theorem saidUpto : Rows.ReplyManyUptoSaid :=
  OpenClaim.holds_of_cond 4 Tryd.f4 rfl rfl rfl rfl rfl rfl rfl ⟨rfl, rfl, rfl, rfl, rfl⟩ rfl rfl rfl rfl rfl (by kernel_rfl) Tryd.func4 (by kernel_rfl)
    (of_decide_eq_true (by kernel_rfl)) (by unfold Func.isWrapper; first | (rw [if_pos (by decide +kernel)]; kernel_rfl) | (rw [if_neg (by decide +kernel)]; exact ⟨rfl, rfl⟩))
    (fun os started H enc _ F => by rw [OpenClaim.pre_eq_preRow]; exact lifted os started H enc F)
theorem plain (f : FuncId) (fn : Func) (hf : Tryd.pinned.checked.prog.funcNamed "docket/docketlaw12.ReplyMany" = some f) (hfn : Tryd.pinned.checked.prog.funcs[f]? = some fn) :
    true = Tryd.pinned.checked.prog.looks [] ∧ ∀ (j : Nat) t, fn.params[j]? = some t → Tryd.pinned.checked.prog.wantsStandIn t = false := by
  obtain rfl : f = 4 := Option.some.inj ((show Tryd.prog.funcNamed "docket/docketlaw12.ReplyMany" = some 4 by kernel_rfl).symm.trans hf) |>.symm
  obtain rfl : fn = Tryd.f4 := (Option.some.inj (Tryd.func4.symm.trans hfn)).symm
  exact ⟨by kernel_rfl, fun j t ht => (of_decide_eq_true (p := ∀ t ∈ Tryd.f4.params.toList, Tryd.prog.wantsStandIn t = false) (by kernel_rfl)) t (Array.mem_toList_iff.2 (Array.mem_of_getElem? ht))⟩
theorem proved : Rows.ReplyManyUptoCardSaid :=
  Claim7.holds_tied_plain_at .later [] _ _ _ _ saidUpto (fun _ h => by cases h) (by kernel_rfl) (fun _ h => by cases h) replyManyUpto_row_tie rfl ⟨rfl, rfl⟩ (by kernel_rfl) rfl plain (by kernel_rfl)

end Go.Proofs.YtdojchamdcokiaaDoor.replyMany
