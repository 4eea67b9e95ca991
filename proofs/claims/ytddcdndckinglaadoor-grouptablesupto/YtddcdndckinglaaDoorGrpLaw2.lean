/- GroupTables answers true of a small group and few words. -/
import Derived.Test.YtddcdndckinglaaDoorGrpLaw
namespace Go.Proofs.YtddcdndckinglaaDoor
open Go.RowKit Go.Sort

theorem cosOk_one {n : Nat} {rels words T T' : List (List Int)} (h : CosOk n rels words T) (h' : CosOk n rels words T') : T = T' := by
  obtain ⟨_, s, e1, rfl, _⟩ := h
  obtain ⟨_, s', e2, rfl, _⟩ := h'
  rw [e1] at e2
  cases e2
  rfl
theorem cosOk_tab {n : Nat} {rels words T : List (List Int)} (hl : ∀ ws ∈ rels, LettersIn n ws) (h : CosOk n rels words T) : TabOk n rels words T ∧ T.length ≤ 400 := by
  obtain ⟨hw, s, e1, rfl, h4⟩ := h
  exact ⟨tab_ok hl hw (cosets_math hl hw e1), h4⟩
theorem cos_ok {a : Nat → Addr} {sx : Nat → ByteArray} {n : Nat} {vr vw : Value} {rels words T : List (List Int)} {w : World} (hT : CosOk n rels words T) (hE : Errs a sx w) (hr : FewAt w vr rels) (hw : FewAt w vw words) (hl : ∀ ws ∈ rels, LettersIn n ws) (hn : n ≤ 12) :
    Calls Tryd.prog 9 #[.agg #[.int .i64 (n : Int), vr], vw] w fun e w' => ∃ a c, e = .returned (.tuple #[.slice a T.length c, .nilIface]) ∧ Rows w' (.slice a T.length c) T ∧ Below w.heap.size w w' := (cosets_ n vr vw rels words w hE hr hw hl hn).mono fun e w' h => by
  rcases h with ⟨v, T', h1, h2, h3, h4⟩ | ⟨t, p, h1, h2, _⟩
  · obtain rfl := cosOk_one hT h2
    obtain ⟨a', c', rfl, -, -⟩ := h3.open_
    exact ⟨a', c', h1, h3, h4⟩
  · exact absurd hT (h2 T)
theorem cos_no {a : Nat → Addr} {sx : Nat → ByteArray} {n : Nat} {vr vw : Value} {rels words : List (List Int)} {w : World} (hT : ∀ T, ¬ CosOk n rels words T) (hE : Errs a sx w) (hr : FewAt w vr rels) (hw : FewAt w vw words) (hl : ∀ ws ∈ rels, LettersIn n ws) (hn : n ≤ 12) :
    Calls Tryd.prog 9 #[.agg #[.int .i64 (n : Int), vr], vw] w fun e w' => ∃ t p, e = .returned (.tuple #[.slice none 0 0, .iface t p]) ∧ Below w.heap.size w w' := (cosets_ n vr vw rels words w hE hr hw hl hn).mono fun e w' h => by
  rcases h with ⟨v, T', h1, h2, h3, h4⟩ | ⟨t, p, h1, h2, h3⟩
  · exact absurd h2 (hT T')
  · exact ⟨t, p, h1, h3⟩

/-- What the walk stands on. -/
structure LawAt (a : Nat → Addr) (sx : Nat → ByteArray) (n : Nat) (vr vw : Value) (rels words : List (List Int)) (w : World) : Prop where
  errs : Errs a sx w
  rel : FewAt w vr rels
  wor : FewAt w vw words
  lets : ∀ ws ∈ rels, LettersIn n ws
  gens : n ≤ 5
  ge : geP (n : Int) rels = 0
  few : words.length ≤ 60
  short : words.flatten.length ≤ 60
theorem LawAt.below {a : Nat → Addr} {sx : Nat → ByteArray} {n : Nat} {vr vw : Value} {rels words : List (List Int)} {w w' : World} (h : LawAt a sx n vr vw rels words w) (hB : Below w.heap.size w w') : LawAt a sx n vr vw rels words w' := ⟨h.errs.below hB, h.rel.below hB, h.wor.below hB, h.lets, h.gens, h.ge, h.few, h.short⟩
theorem FewAt.up {w : World} {v : Value} {wss : List (List Int)} (h : FewAt w v wss) : UpAt w v wss := ⟨h.rows, by have := h.few; omega, by have := h.short; omega⟩
theorem allGens_len (n : Nat) : (allGens n).length = n := by simp [allGens]
theorem allGens_flat (n : Nat) : (allGens n).flatten.length = n := by
  unfold allGens
  induction n with
  | zero => rfl
  | succ m ih => rw [List.range_succ, List.map_append, List.flatten_append, List.length_append, ih]; rfl
theorem allGens_take {n k : Nat} (hk : k < n) : (allGens n).take (k + 1) = (allGens n).take k ++ [[((k + 1 : Nat) : Int)]] := by
  have h : (allGens n)[k]? = some [((k + 1 : Nat) : Int)] := by unfold allGens; rw [List.getElem?_map, List.getElem?_range hk]; rfl
  rw [List.take_add_one, h]; rfl

set_option maxRecDepth 100000 in
set_option maxHeartbeats 8000000 in
theorem tables_main {a : Nat → Addr} {sx : Nat → ByteArray} (n : Nat) (vr vw : Value) (rels words : List (List Int)) (w : World) (h : LawAt a sx n vr vw rels words w) :
    Calls Tryd.prog 3 #[.agg #[.int .i64 (n : Int), vr], vw] w fun e w' => e = .returned (.bool true) ∧ Below w.heap.size w w' := by
  obtain ⟨i0, hi0, hz0, hz1, hz2⟩ := info_parts Tryd.info27
  obtain ⟨ar, cr, rfl, -, -⟩ := h.rel.rows.open_
  obtain ⟨aw, cw, rfl, -, -⟩ := h.wor.rows.open_
  have hBa : Below w.heap.size w (w.alloc (.cells #[.int .i64 (n : Int), .slice ar rels.length cr] 24)) := (Below.refl _ w).alloc (Nat.le_refl _) _
  have hnew := cells_new w [.int .i64 (n : Int), .slice ar rels.length cr] 24
  have q0 := hnew 0 _ rfl
  have q1 := hnew 1 _ rfl
  rw [Addr.add_lit, Nat.zero_add] at q0 q1
  obtain ⟨W0, hW0⟩ : ∃ W0, w.alloc (.cells #[.int .i64 (n : Int), .slice ar rels.length cr] 24) = W0 := ⟨_, rfl⟩
  obtain ⟨gb, hgb⟩ : ∃ gb, w.heap.size = gb := ⟨_, rfl⟩
  rw [show (List.toArray [Value.int .i64 (n : Int), .slice ar rels.length cr]) = #[.int .i64 (n : Int), .slice ar rels.length cr] from rfl, hW0, hgb] at q0 q1
  have HB0 : Hid (Below w.heap.size w W0) := by rw [← hW0]; exact hBa
  have HG : Hid (w.alloc (.cells #[.int .i64 (n : Int), .slice ar rels.length cr] 24) = W0 ∧ w.heap.size = gb) := ⟨hW0, hgb⟩
  have HLA : Hid (∀ V, Below W0.heap.size W0 V → LawAt a sx n (.slice ar rels.length cr) (.slice aw words.length cw) rels words V) := fun V hV => (h.below HB0.out).below hV
  have hth := three_ W0 (h.errs.below HB0.out)
  have HQ : Hid (∀ V, Below W0.heap.size W0 V → V.cell? ⟨gb, 0, none⟩ = some (.int .i64 (n : Int)) ∧ V.cell? ⟨gb, 1, none⟩ = some (.slice ar rels.length cr)) := fun V hV => ⟨(hV.cell (p := ⟨gb, 0, none⟩) (cell_lt q0)).trans q0, (hV.cell (p := ⟨gb, 1, none⟩) (cell_lt q1)).trans q1⟩
  have HBB : Hid (∀ V, Below W0.heap.size W0 V → Below w.heap.size w V) := fun V hV => HB0.out.trans (hV.mono HB0.out.size)
  have hsm : ∀ V, Below W0.heap.size W0 V → Calls Tryd.prog 5 #[.agg #[.int .i64 (n : Int), .slice ar rels.length cr]] V fun e w' => ∃ b : Bool, e = .returned (.bool b) ∧ Below W0.heap.size W0 w' := fun V hV => (small_ _ _ rels V (HLA.out V hV).rel.up).mono fun e w' h => by
    obtain ⟨b, h1, h2, h3⟩ := h
    exact ⟨b, h1, hV.trans (h3.mono hV.size)⟩
  have hle : ∀ V, Below W0.heap.size W0 V → Calls Tryd.prog 6 #[.slice aw words.length cw] V fun e w' => ∃ au cu, e = .returned (.slice au words.flatten.length cu) ∧ Below W0.heap.size W0 w' := fun V hV => (letters_ _ words V (HLA.out V hV).wor.rows (HLA.out V hV).wor.up.few (HLA.out V hV).wor.up.short).mono fun e w' hh => by
    obtain ⟨u, rfl, hi, hb⟩ := hh
    obtain ⟨au, cu, rfl, -, -⟩ := hi.open_
    exact ⟨au, cu, rfl, hV.trans (hb.mono hV.size)⟩
  have hge : ∀ V, Below W0.heap.size W0 V → Calls Tryd.prog 7 #[.agg #[.int .i64 (n : Int), .slice ar rels.length cr]] V fun e w' => e = .returned (.int .i64 0) ∧ Below W0.heap.size W0 w' := fun V hV => (groupError_ _ _ rels V (HLA.out V hV).rel.up).mono fun e w' hh => ⟨by rw [hh.1, h.ge], hV.trans (hh.2.mono hV.size)⟩
  have hpr : ∀ V, Below W0.heap.size W0 V → Calls Tryd.prog 8 #[.agg #[.int .i64 (n : Int), .slice ar rels.length cr]] V fun e w' => ∃ u, e = .returned (.agg #[.int .i64 (n : Int), u]) ∧ FewAt w' u rels ∧ Below W0.heap.size W0 w' := fun V hV => (program_ n _ rels V (HLA.out V hV).rel).mono fun e w' hh => by
    obtain ⟨u, h1, h2, h3⟩ := hh
    exact ⟨u, h1, ⟨h2, h.rel.few, h.rel.short⟩, hV.trans (h3.mono hV.size)⟩
  have hpr0 : ∀ V, Below W0.heap.size W0 V → Calls Tryd.prog 8 #[.agg #[.int .i64 (n : Int), .slice ar rels.length cr]] V fun e w' => ∃ u, e = .returned (.agg #[.int .i64 (n : Int), u]) ∧ FewAt w' u rels ∧ Below V.heap.size V w' ∧ Below W0.heap.size W0 w' := fun V hV => (program_ n _ rels V (HLA.out V hV).rel).mono fun e w' hh => by
    obtain ⟨u, h1, h2, h3⟩ := hh
    exact ⟨u, h1, ⟨h2, h.rel.few, h.rel.short⟩, h3, hV.trans (h3.mono hV.size)⟩
  have hwo : ∀ V u, Below W0.heap.size W0 V → FewAt V u rels → Calls Tryd.prog 10 #[.slice aw words.length cw] V fun e w' => ∃ uw, e = .returned uw ∧ FewAt w' uw words ∧ FewAt w' u rels ∧ Below W0.heap.size W0 w' := fun V u hV hu => (wordsOf_ _ words V (HLA.out V hV).wor).mono fun e w' hh => by
    obtain ⟨uw, h1, h2, h3⟩ := hh
    exact ⟨uw, h1, ⟨h2, h.wor.few, h.wor.short⟩, hu.below h3, hV.trans (h3.mono hV.size)⟩
  have HH := Hid.mk' h
  have hf1 := h.few
  have hf2 := h.short
  have hf3 := h.rel.few
  have hn5 := h.gens
  obtain ⟨lr, hlr⟩ : ∃ lr, rels.length = lr := ⟨_, rfl⟩
  obtain ⟨lw, hlw⟩ : ∃ lw, words.length = lw := ⟨_, rfl⟩
  have HLW : Hid (words.length = lw) := hlw
  obtain ⟨tot, htt⟩ : ∃ tot, words.flatten.length = tot := ⟨_, rfl⟩
  rw [hlr] at hsm hge hpr hpr0 HQ HG q1 hf3 HLA HH ⊢
  rw [hlw] at hle hwo hf1 HLA HH ⊢
  rw [htt] at hle hf2
  have y1 : ¬ (60 : Int) < (lw : Int) := by omega
  have y2 : ¬ (60 : Int) < (tot : Int) := by omega
  clear hBa hnew hW0 hgb hlr hlw htt HB0 h
  go_enter Tryd.func3, Tryd.ntmps3
  go_upto_region 1 with fail
  rw [HG.out.1, HG.out.2]
  go_upto_region 2 with (go_at_call 4; refine hth.mono ?_; rintro e V1 ⟨rfl, hb⟩; have H0 := Hid.mk' hb; clear hb hth)
  have x0 := (HQ.out V1 H0.out).1
  have x1 := (HQ.out V1 H0.out).2
  go_upto_region 3 with (go_at_call 5; refine (hsm _ H0.out).mono ?_; rintro e V2 ⟨b, rfl, hb⟩; replace H0 := Hid.mk' hb; clear hb)
  clear q0 q1 x0 x1 hsm
  cases b with
  | false =>
    go_wp2_with fail
    go_ret
    exact ⟨rfl, HBB.out _ H0.out⟩
  | true =>
    have hle2 := hle V2 H0.out
    go_upto_region 5 with (first
      | (go_at_call 6; refine hle2.mono ?_; rintro e V3 ⟨au, cu, rfl, hb⟩; replace H0 := Hid.mk' hb; have x0 := (HQ.out V3 hb).1; have x1 := (HQ.out V3 hb).2; have hge2 := hge V3 hb; clear hb hle2)
      | (go_at_call 7; refine hge2.mono ?_; rintro e V4 ⟨rfl, hb⟩; replace H0 := Hid.mk' hb; have z0 := (HQ.out V4 hb).1; have z1 := (HQ.out V4 hb).2; have hpr2 := hpr V4 hb; clear hb hge2)
      | fail)
    clear hle hge x0 x1
    by_cases hok : ∃ T, CosOk n rels words T
    · obtain ⟨T, hT⟩ := hok
      have hco : ∀ V u uw, Below W0.heap.size W0 V → FewAt V u rels → FewAt V uw words → Calls Tryd.prog 9 #[.agg #[.int .i64 (n : Int), u], uw] V fun e w' => ∃ a c, e = .returned (.tuple #[.slice a T.length c, .nilIface]) ∧ Rows w' (.slice a T.length c) T ∧ Below W0.heap.size W0 w' := fun V u uw hV h1 h2 => (cos_ok hT (HLA.out V hV).errs h1 h2 HH.out.lets (by omega)).mono fun e w' hh => by
        obtain ⟨a', c', k1, k2, k3⟩ := hh
        exact ⟨a', c', k1, k2, hV.trans (k3.mono hV.size)⟩
      obtain ⟨htab, hT4⟩ := cosOk_tab HH.out.lets hT
      have HWL : Hid (∀ ws ∈ words, LettersIn n ws) := hT.1
      have HTB := Hid.mk' htab
      have hLp := htab.pos
      obtain ⟨L, hL⟩ : ∃ L, T.length = L := ⟨_, rfl⟩
      have HL : Hid (T.length = L) := hL
      rw [hL] at hco hT4 hLp
      clear hT htab hL
      go_upto_region 8 with (first
        | (go_at_call 8; refine hpr2.mono ?_; rintro e V5 ⟨u, rfl, hu, hb⟩; have hwo2 := hwo V5 u hb hu; clear hb hu hpr2)
        | (go_at_call 10; refine hwo2.mono ?_; rintro e V6 ⟨uw, rfl, hw1, hw2, hb⟩; have hco2 := hco V6 u uw hb hw2 hw1; clear hb hw1 hw2 hwo2)
        | (go_at_call 9; refine hco2.mono ?_; rintro e V7 ⟨at', ct, rfl, hr7, hb⟩; replace H0 := Hid.mk' hb; have HR7 := Hid.mk' hr7; clear hb hr7 hco2)
        | fail)
      have HTI : Hid (TabIn n V7 (.slice at' L ct) T) := HTB.out.tabIn HR7.out (by rw [HL.out]; exact hT4)
      obtain ⟨b, off, cap, e, hc⟩ := HTI.out.cells (by rw [HL.out]; exact hLp)
      rw [HL.out] at e hc
      cases e
      have HC := Hid.mk' hc
      obtain ⟨m2, hm2⟩ : ∃ m2, 2 * n = m2 := ⟨_, rfl⟩
      have HM : Hid (2 * n = m2) := hm2
      have hmul : (2 : Int) * (n : Int) = (m2 : Int) := by omega
      have hm24 : m2 ≤ 24 := by omega
      rw [hm2] at HC
      clear hc hm2
      go_wp2_with fail
      go_loopw [9] (fun p W => ∃ i : Nat, i ≤ L ∧ p = .int .i64 (i : Int) ∧ Hid (Below V7.heap.size V7 W)) (fun p _ => L - (intOf p).toNat)
      case atStart => exact ⟨0, by omega, rfl, Below.refl _ _⟩
      case round =>
        obtain ⟨i, hi, rfl, HB⟩ := hrel
        have HBW : Hid (Below W0.heap.size W0 wr) := H0.out.trans (HB.out.mono H0.out.size)
        have x0 := (HQ.out wr HBW.out).1
        have x1 := (HQ.out wr HBW.out).2
        by_cases hil : i < L
        · obtain ⟨a1, c1, g1, g2⟩ := HC.out i hil
          have g1' := (HB.out.cell (p := ⟨b, off + i, none⟩) (cell_lt g1)).trans g1
          have w0 : (0 : Int) ≤ (i : Int) := by omega
          have w1 : (i : Int) < (L : Int) := by omega
          go_upto_region 11 with fail
          go_quiet (fail)
          go_wp2_with fail
          obtain ⟨Y, hY⟩ : ∃ Y, wr.drewN nq = Y := ⟨_, rfl⟩
          rw [hY]
          have HBY : Hid (Below V7.heap.size V7 Y) := by rw [← hY]; exact ⟨HB.out.os, HB.out.tape, HB.out.output, HB.out.size, HB.out.block⟩
          clear hY
          go_loopw [10] (fun p W => ∃ k : Nat, k ≤ m2 ∧ p = .int .i64 (k : Int) ∧ Hid (Below V7.heap.size V7 W)) (fun p _ => m2 - (intOf p).toNat)
          case atStart => exact ⟨0, by omega, rfl, HBY.out⟩
          case round =>
            obtain ⟨k, hk, rfl, HB2⟩ := hrel
            have g11 := (HB2.out.cell (p := ⟨b, off + i, none⟩) (cell_lt g1)).trans g1
            by_cases hkn : k < m2
            · have hk2 : k < 2 * n := by rw [HM.out]; exact hkn
              obtain ⟨b2, o2, rfl, g3⟩ := g2 (by omega)
              have t1 := g3 k hkn
              obtain ⟨v, hv, hvl⟩ := HTB.out.rng i k (by rw [HL.out]; exact hil) hk2
              have hbk := HTB.out.back i k (by rw [HL.out]; exact hil) hk2
              rw [hv] at t1
              rw [hv, Int.toNat_natCast] at hbk
              rw [HL.out] at hvl
              obtain ⟨a3, c3, g4, g5⟩ := HC.out v hvl
              obtain ⟨b3, o3, rfl, g6⟩ := g5 (by omega)
              have hy2 : backN k < m2 := by rw [← HM.out]; exact back_lt hk2
              have t2 := g6 (backN k) hy2
              rw [hbk] at t2
              have hxo := xor_one k (by omega)
              obtain ⟨y, hy⟩ : ∃ y, backN k = y := ⟨_, rfl⟩
              rw [hy] at t2 hxo hy2
              have t1' := (HB2.out.cell (p := ⟨b2, o2 + k, none⟩) (cell_lt t1)).trans t1
              have t2' := (HB2.out.cell (p := ⟨b3, o3 + y, none⟩) (cell_lt t2)).trans t2
              have g44 := (HB2.out.cell (p := ⟨b, off + v, none⟩) (cell_lt g4)).trans g4
              have w2 : (0 : Int) ≤ (k : Int) := by omega
              have w3 : (k : Int) < (m2 : Int) := by omega
              have w4 : (0 : Int) ≤ (v : Int) := by omega
              have w5 : (v : Int) < (L : Int) := by omega
              have w6 : (0 : Int) ≤ (y : Int) := by omega
              have w7 : (y : Int) < (m2 : Int) := by omega
              have d1 : decide ((v : Int) < 0) = false := decide_eq_false (by omega)
              have d2 : decide ((L : Int) ≤ (v : Int)) = false := decide_eq_false (by omega)
              clear g3 hv hbk g5 g6 hy t1 t2 g4 x0 x1
              go_upto_region 16 with fail
              go_quiet (fail)
              go_wp2_with fail
              go_roundw
              case rel => exact ⟨k + 1, by omega, by go_num, ⟨HB2.out.os, HB2.out.tape, HB2.out.output, HB2.out.size, HB2.out.block⟩⟩
              case measure => simp [intOf]; omega
            · obtain rfl : k = m2 := by omega
              go_wp2_with fail
              go_roundw
              case rel => exact ⟨i + 1, by omega, by go_num, HB2.out⟩
              case measure => simp [intOf]; omega
        · obtain rfl : i = L := by omega
          have hho := holds_ (.slice ar lr cr) (.slice (some ⟨b, off, none⟩) i ct) rels T wr (HTI.out.below HB.out) (by rw [HL.out]; exact hLp) (HLA.out wr HBW.out).rel HH.out.lets HTB.out.holds (by omega)
          go_upto_region 19 with (go_at_call 11; refine hho.mono ?_; rintro e X1 ⟨rfl, hb⟩; have K1 := Hid.mk' (HB.out.trans (hb.mono HB.out.size)); clear hb hho)
          have hstd := standard_ (.slice (some ⟨b, off, none⟩) i ct) T X1 (HTI.out.below K1.out) (by rw [HL.out]; exact hLp) HTB.out.scan (by omega)
          go_wp2_with (first
            | (go_at_call 12; refine hstd.mono ?_; rintro e X2 ⟨rfl, rfl⟩; clear hstd)
            | fail)
          clear x0 x1
          go_loopw [13] (fun p W => ∃ j : Nat, j ≤ lw ∧ p = .int .i64 (j : Int) ∧ Hid (Below V7.heap.size V7 W)) (fun p _ => lw - (intOf p).toNat)
          case atStart => exact ⟨0, by omega, rfl, K1.out⟩
          case round =>
            obtain ⟨j, hj, rfl, HB3⟩ := hrel
            have HBW3 : Hid (Below W0.heap.size W0 wr) := H0.out.trans (HB3.out.mono H0.out.size)
            by_cases hjl : j < lw
            · have hjw : j < words.length := by rw [HLW.out]; exact hjl
              obtain ⟨l, hl⟩ : ∃ l, words[j]? = some l := ⟨_, List.getElem?_eq_getElem hjw⟩
              have hlm : l ∈ words := List.mem_of_getElem? hl
              obtain ⟨a5, c5, ea, -, hx⟩ := (HLA.out wr HBW3.out).wor.rows.open_
              rw [HLW.out] at ea hx
              cases ea
              obtain ⟨b5, o5, rfl, -, -, hcell⟩ := hx (by omega)
              obtain ⟨a6, c6, ck, hi6⟩ := hcell j hjl
              rw [hl, Option.getD_some] at ck hi6
              have hll4 := Nat.le_trans (len_flat hlm) HH.out.wor.short
              have hld := leads_ (.slice (some ⟨b, off, none⟩) i ct) (.slice a6 l.length c6) T 0 l wr (HTI.out.below HB3.out) (by rw [HL.out]; exact hLp) hi6 (HWL.out l hlm) hll4 (by omega)
              rw [HTB.out.words l hlm, show ((0 : Nat) : Int) = 0 from rfl] at hld
              obtain ⟨ll, hll⟩ : ∃ ll, l.length = ll := ⟨_, rfl⟩
              rw [hll] at hld ck hll4
              have w2 : (0 : Int) ≤ (j : Int) := by omega
              have w3 : (j : Int) < (lw : Int) := by omega
              clear hl hlm hx hcell hi6 hll
              go_wp2_with (first
                | (go_at_call 13; refine hld.mono ?_; rintro e X3 ⟨rfl, q, hX3⟩; have K3 : Hid (Below V7.heap.size V7 X3) := by { rw [hX3]; exact ⟨HB3.out.os, HB3.out.tape, HB3.out.output, HB3.out.size, HB3.out.block⟩ }; clear hX3 hld)
                | fail)
              go_roundw
              case rel => exact ⟨j + 1, by omega, by go_num, K3.out⟩
              case measure => simp [intOf]; omega
            · obtain rfl : j = lw := by omega
              go_wp2_with fail
              go_loopw [14, 15] (fun pv p W => ∃ (u : Value) (k : Nat), k ≤ n ∧ pv = u ∧ p = .int .i64 ((k + 1 : Nat) : Int) ∧ Hid (OwnRows V7.heap.size W u ((allGens n).take k) ∧ Below V7.heap.size V7 W)) (fun _ p _ => n + 1 - (intOf p).toNat)
              case atStart => exact ⟨_, 0, by omega, rfl, rfl, OwnRows.nil _ _, HB3.out⟩
              case round =>
                obtain ⟨u9, k, hk, rfl, rfl, HK⟩ := hrel
                have HBW4 : Hid (Below W0.heap.size W0 wr) := H0.out.trans (HK.out.2.mono H0.out.size)
                have x0 := (HQ.out wr HBW4.out).1
                have htl : ((allGens n).take k).length = k := by rw [List.length_take, allGens_len]; omega
                obtain ⟨vs, ho1, ho2⟩ := HK.out.1
                obtain ⟨au9, cu9, hu9⟩ := own_one ho1
                rw [htl] at ho1 hu9
                subst hu9
                by_cases hkn : k < n
                · have HTK := Hid.mk' (allGens_take hkn)
                  have HO1 := Hid.mk' ho1
                  have HO2 := Hid.mk' ho2
                  have HTL := Hid.mk' htl
                  obtain ⟨k1, hk1⟩ : ∃ k1, k + 1 = k1 := ⟨_, rfl⟩
                  have HK1 : Hid (k + 1 = k1) := hk1
                  have hws := HK.out.2.size
                  have w2 : (k1 : Int) ≤ (n : Int) := by omega
                  have HCN : Hid (∀ j u, [Value.slice (some ⟨wr.heap.size, 0, none⟩) 1 1][j]? = some u → ((wr.alloc (.cells #[.int .i64 (k1 : Int)] 3)).alloc (.cells #[.slice (some ⟨wr.heap.size, 0, none⟩) 1 1] 27)).cell? ((⟨wr.heap.size + 1, 0, none⟩ : Addr).add j) = some u) := by
                    have := cells_new (wr.alloc (.cells #[.int .i64 (k1 : Int)] 3)) [.slice (some ⟨wr.heap.size, 0, none⟩) 1 1] 27
                    rw [World.size_alloc] at this
                    exact this
                  rw [hk1]
                  clear ho1 ho2 htl hk1
                  go_wp2_with (first
                    | (at_builtin; refine wpList_append_own_at _ rfl (.tmp 166) (.tmp 169) 22 rfl V7.heap.size 27 i0 (.slice none 0 0) 1 24 Tryd.underlying22 hi0 hz0 hz1 hz2 rfl (by decide) _ k vs rfl ((HO1.out.alloc _).alloc _) ⟨wr.heap.size + 1, 0, none⟩ 1 1 [.slice (some ⟨wr.heap.size, 0, none⟩) 1 1] rfl rfl HCN.out (by simp [Value.oneCell']) (by unfold maxLen; omega) (by omega) (by simp; omega) ?_; intro v6 w6 hown6 hg6 hn6 hl6; have H6 := Hid.mk' (And.intro hown6 (And.intro hg6 hl6)); clear hown6 hg6 hn6 hl6)
                    | fail)
                  go_roundw
                  case rel =>
                    have hBa : Below wr.heap.size wr (wr.alloc (.cells #[.int .i64 (k1 : Int)] 3)) := (Below.refl _ wr).alloc (Nat.le_refl _) _
                    have hin : IntsIn (fun q => V7.heap.size ≤ q ∧ some q ≠ (Value.slice au9 k cu9).ownBlock) (wr.alloc (.cells #[.int .i64 (k1 : Int)] 3)) (.slice (some ⟨wr.heap.size, 0, none⟩) 1 1) [(k1 : Int)] := by
                      have h0 := cells_new wr [.int .i64 (k1 : Int)] 3
                      refine ⟨some ⟨wr.heap.size, 0, none⟩, 1, rfl, ⟨Nat.le_refl _, fun h => by cases h⟩, fun _ => ⟨wr.heap.size, 0, rfl, ⟨hws, fun e => ?_⟩, fun j x hx => ?_⟩⟩
                      · have := (HO1.out.lt _ e.symm).2
                        omega
                      · have := h0 j x hx
                        rwa [Addr.add_lit] at this
                    have hpu := OwnRows.push (xss := (allGens n).take k) (by rw [HTL.out]; exact HO1.out.alloc _) (fun j u x hu hx => (HO2.out j u x hu hx).below hBa) hin (by rw [HTL.out]; exact H6.out.1) H6.out.2.1 H6.out.2.2
                    refine ⟨_, k + 1, by omega, rfl, by rw [HK1.out]; go_num, ?_, ?_⟩
                    · rw [HTK.out, HK1.out]
                      exact hpu
                    · exact ((HK.out.2.alloc hws _).alloc (by simp; omega) _).grown H6.out.2.1 (by simp; omega) (fun q e => (HO1.out.lt q e).1)
                  case measure => simp [intOf]; have := HK1.out; omega
                · obtain rfl : k = n := by omega
                  have hall : FewAt wr (.slice au9 k cu9) (allGens k) := by
                    have h1 := HK.out.1.rows
                    rw [List.take_of_length_le (by rw [allGens_len]; exact Nat.le_refl _)] at h1
                    exact ⟨h1, by rw [allGens_len]; omega, by rw [allGens_flat]; omega⟩
                  have HAL := Hid.mk' hall
                  have x1 := (HQ.out wr HBW4.out).2
                  clear ho1 ho2 htl hall
                  by_cases hok2 : ∃ T2, CosOk k rels (allGens k) T2
                  · obtain ⟨T2, hT2⟩ := hok2
                    have h1r : T2.length = 1 := one_row (cosOk_tab HH.out.lets hT2).1
                    have hco3 : ∀ V u, Below W0.heap.size W0 V → Below wr.heap.size wr V → FewAt V u rels → Calls Tryd.prog 9 #[.agg #[.int .i64 (k : Int), u], .slice au9 k cu9] V fun e w' => ∃ a c, e = .returned (.tuple #[.slice a 1 c, .nilIface]) ∧ Below W0.heap.size W0 w' := fun V u hV hV2 h1 => (cos_ok hT2 (HLA.out V hV).errs h1 (HAL.out.below hV2) HH.out.lets (by omega)).mono fun e w' hh => by
                      obtain ⟨a', c', k1, k2, k3⟩ := hh
                      rw [h1r] at k1
                      exact ⟨a', c', k1, hV.trans (k3.mono hV.size)⟩
                    clear hT2 h1r
                    go_wp2_with (first
                      | (go_at_call 8; refine (hpr0 wr HBW4.out).mono ?_; rintro e X5 ⟨u, rfl, hu, hb2, hb⟩; have hco4 := hco3 X5 u hb hb2 hu; clear hb hb2 hu)
                      | (go_at_call 9; refine hco4.mono ?_; rintro e X6 ⟨a6, c6, rfl, hb⟩; replace H0 := Hid.mk' hb; clear hb hco4)
                      | fail)
                    go_ret
                    exact ⟨rfl, HBB.out _ H0.out⟩
                  · have hco3 : ∀ V u, Below W0.heap.size W0 V → Below wr.heap.size wr V → FewAt V u rels → Calls Tryd.prog 9 #[.agg #[.int .i64 (k : Int), u], .slice au9 k cu9] V fun e w' => ∃ t p, e = .returned (.tuple #[.slice none 0 0, .iface t p]) ∧ Below W0.heap.size W0 w' := fun V u hV hV2 h1 => (cos_no (fun T hT => hok2 ⟨T, hT⟩) (HLA.out V hV).errs h1 (HAL.out.below hV2) HH.out.lets (by omega)).mono fun e w' hh => by
                      obtain ⟨t, p, k1, k3⟩ := hh
                      exact ⟨t, p, k1, hV.trans (k3.mono hV.size)⟩
                    clear hok2
                    go_wp2_with (first
                      | (go_at_call 8; refine (hpr0 wr HBW4.out).mono ?_; rintro e X5 ⟨u, rfl, hu, hb2, hb⟩; have hco4 := hco3 X5 u hb hb2 hu; clear hb hb2 hu)
                      | (go_at_call 9; refine hco4.mono ?_; rintro e X6 ⟨t6, p6, rfl, hb⟩; replace H0 := Hid.mk' hb; clear hb hco4)
                      | fail)
                    go_ret
                    exact ⟨rfl, HBB.out _ H0.out⟩
    · have hco : ∀ V u uw, Below W0.heap.size W0 V → FewAt V u rels → FewAt V uw words → Calls Tryd.prog 9 #[.agg #[.int .i64 (n : Int), u], uw] V fun e w' => ∃ t p, e = .returned (.tuple #[.slice none 0 0, .iface t p]) ∧ Below W0.heap.size W0 w' := fun V u uw hV h1 h2 => (cos_no (fun T hT => hok ⟨T, hT⟩) (HLA.out V hV).errs h1 h2 HH.out.lets (by omega)).mono fun e w' hh => by
        obtain ⟨t, p, k1, k3⟩ := hh
        exact ⟨t, p, k1, hV.trans (k3.mono hV.size)⟩
      clear hok
      go_wp2_with (first
        | (go_at_call 8; refine hpr2.mono ?_; rintro e V5 ⟨u, rfl, hu, hb⟩; have hwo2 := hwo V5 u hb hu; clear hb hu hpr2)
        | (go_at_call 10; refine hwo2.mono ?_; rintro e V6 ⟨uw, rfl, hw1, hw2, hb⟩; have hco2 := hco V6 u uw hb hw2 hw1; clear hb hw1 hw2 hwo2)
        | (go_at_call 9; refine hco2.mono ?_; rintro e V7 ⟨tt, pp, rfl, hb⟩; replace H0 := Hid.mk' hb; clear hb hco2)
        | fail)
      go_ret
      exact ⟨rfl, HBB.out _ H0.out⟩

end Go.Proofs.YtddcdndckinglaaDoor
