/- GroupCosets answers true of whatever group and words. -/
import Derived.Test.YthcgabghkbgccaaDoorRefA0
import Derived.Test.YthcgabghkbgccaaDoorGrpThree
namespace Go.Proofs.YthcgabghkbgccaaDoor
open Go.RowKit Go.Sort

theorem rows_none (w : World) : Rows w (.slice none 0 0) [] := (OwnRows.nil 0 w).rows
theorem toldF_rows {n : Nat} {s : Cos} : ∀ (m i : Nat) (ord : List Nat) (out : List (List Int)), (∀ x ∈ out, x.length = 2 * n) → ∀ x ∈ toldF n s m i ord out, x.length = 2 * n
  | 0, _, _, out, h => h
  | m + 1, i, ord, out, h => by
    rw [toldF]
    split
    · exact h
    · refine toldF_rows m _ _ _ fun x hx => ?_
      rcases List.mem_append.1 hx with hx | hx
      · exact h x hx
      · rw [List.mem_singleton.1 hx]; exact rowK_len _ _ _ _

/-- What the program's Cosets answers is what is wanted. -/
structure TailAt (n : Int) (rels words : List (List Int)) (vwant : Value) (e : Int) (V : World) (T : List (List Int)) : Prop where
  rows : Rows V vwant T
  few : T.length ≤ 1000
  thin : ∀ x ∈ T, x.length ≤ 1000
  call : ∀ (V' : World) (u uw : Value), Below V.heap.size V V' → ThouAt V' u rels → ThouAt V' uw words → Calls Tryd.prog 10 #[.agg #[.int .i64 n, u], uw] V' fun e' w' => ∃ vt ve, e' = .returned (.tuple #[vt, ve]) ∧ Rows w' vt T ∧ Below V'.heap.size V' w' ∧ ∀ V'', Below w'.heap.size w' V'' → Calls Tryd.prog 12 #[ve, .int .i64 e] V'' fun e2 w2 => e2 = .returned (.bool true) ∧ Below V''.heap.size V'' w2

theorem tail_bad {a : Nat → Addr} {sx : Nat → ByteArray} {n : Int} {rels words : List (List Int)} {i : Nat} (V : World) (hE : Errs a sx V) (hi : i < 8) (hg : geP n rels = (i : Int) + 1 ∨ (∃ k : Nat, n = (k : Int) ∧ k ≤ 12 ∧ geP n rels = 0 ∧ BadW k words i)) : TailAt n rels words (.slice none 0 0) ((i : Int) + 1) V [] := by
  refine ⟨rows_none V, by simp, fun x hx => (by cases hx), fun V' u uw hB hu hw => ?_⟩
  refine (cosets_bad n u uw rels words V' (hE.below hB) hu hw hg).mono fun e' w' h => ?_
  refine ⟨_, _, h.1, rows_none w', h.2, fun V'' hV => ?_⟩
  exact (coded_es V'' (((hE.below hB).below h.2).below hV) i hi ((i : Int) + 1)).mono fun e2 w2 h2 => ⟨by rw [h2.1, decide_eq_true rfl], h2.2⟩
theorem tail_good {a : Nat → Addr} {sx : Nat → ByteArray} {n : Nat} {rels words : List (List Int)} {s : Cos} {v : Value} (V : World) (hE : Errs a sx V) (hr1 : rels.length ≤ 400) (hr2 : rels.flatten.length ≤ 400) (hw1 : words.length ≤ 400) (hw2 : words.flatten.length ≤ 400) (hl : ∀ ws ∈ rels, LettersIn n ws) (hlw : ∀ ws ∈ words, LettersIn n ws) (hn : n ≤ 12) (hc : cosetsP n rels words = some s) (hv : Rows V v (toldP n s)) (h4 : (toldP n s).length ≤ 400) : TailAt (n : Int) rels words v 0 V (toldP n s) := by
  refine ⟨hv, by omega, fun x hx => ?_, fun V' u uw hB hu hw => ?_⟩
  · have := toldF_rows (n := n) (s := s) _ _ _ _ (fun x hx => by cases hx) x hx
    omega
  refine (cosets_ n u uw rels words V' (hE.below hB) ⟨hu.rows, hr1, hr2⟩ ⟨hw.rows, hw1, hw2⟩ hl hn).mono fun e' w' h => ?_
  rcases h with ⟨vt, T, he, ⟨_, s', hc', rfl, _⟩, hT, hb⟩ | ⟨t, p, he, hno, hb⟩
  · rw [hc] at hc'
    cases hc'
    refine ⟨_, _, he, hT, hb, fun V'' _ => ?_⟩
    exact (coded_nil 0 V'').mono fun e2 w2 h2 => ⟨by rw [h2.1, decide_eq_true rfl], by rw [h2.2]; exact Below.refl _ _⟩
  · exact absurd ⟨hlw, s, hc, rfl, h4⟩ (hno _)

/-- What CosetsOf answers, whatever the words are. -/
theorem cosetsOf_any {a : Nat → Addr} {sx : Nat → ByteArray} {n : Int} {rels words : List (List Int)} (vr vw : Value) (w : World) (hE : Errs a sx w) (hr : ThouAt w vr rels) (hw : ThouAt w vw words) (h0 : geP n rels = 0) (hs : smallP n rels) :
    Calls Tryd.prog 8 #[.agg #[.int .i64 n, vr], vw, .int .i64 120] w fun e w' => ∃ (av : Option Addr) (m cv : Nat) (c : Int) (f : Bool) (T : List (List Int)), e = .returned (.tuple #[.slice av m cv, .int .i64 c, .bool f]) ∧ Below w.heap.size w w' ∧ (f = true → TailAt n rels words (.slice av m cv) c w' T) := by
  have hg : ¬ geBound n rels ∧ LettersIn n.toNat rels.flatten := by
    unfold geP at h0
    by_cases hb : geBound n rels
    · rw [if_pos hb] at h0; omega
    · rw [if_neg hb] at h0
      by_cases hl : LettersIn n.toNat rels.flatten
      · exact ⟨hb, hl⟩
      · rw [if_neg hl] at h0; omega
  have hgb := hg.1
  unfold geBound at hgb
  have hsm : n ≤ 5 ∧ rels.flatten.length ≤ 60 ∧ rels.length ≤ 20 := by
    rcases hs with hs | hs
    · exact hs
    · rw [h0] at hs; omega
  obtain ⟨k, rfl⟩ : ∃ k : Nat, n = (k : Int) := ⟨n.toNat, by omega⟩
  rw [Int.toNat_natCast] at hg
  have hl := (flat_in k rels).1 hg.2
  by_cases hb : ∃ i, i < 8 ∧ BadW k words i
  · obtain ⟨i, hi, hb⟩ := hb
    exact (cosetsR_bad vr vw rels words w ⟨hr.rows, by omega, by omega⟩ hw (by omega) hb).mono fun e w' h => ⟨_, _, _, _, true, [], h.1, h.2, fun _ => tail_bad w' (hE.below h.2) hi (.inr ⟨k, rfl, by omega, h0, hb⟩)⟩
  · have h1 : ¬ (400 < words.length ∨ 400 < words.flatten.length) := fun h => hb ⟨1, by omega, .inl ⟨rfl, h⟩⟩
    have h2 : LettersIn k words.flatten := Classical.not_not.1 fun h => hb ⟨2, by omega, .inr ⟨rfl, h1, h⟩⟩
    refine (cosetsR_ k vr vw rels words w ⟨hr.rows, by omega, by omega⟩ ⟨hw.rows, by omega, by omega⟩ hl h2 (by omega) (by omega)).mono fun e w' h => ?_
    rcases h with ⟨hB, he | ⟨v, s, he, hc, hv, h4⟩⟩
    · exact ⟨_, _, _, _, false, [], he, hB, fun e => (by cases e)⟩
    · obtain ⟨av, cv, rfl, -, -⟩ := hv.open_
      exact ⟨_, _, _, _, true, toldP k s, he, hB, fun _ => tail_good w' (hE.below hB) (by omega) (by omega) (by omega) (by omega) hl ((flat_in k words).1 h2) (by omega) hc hv h4⟩

set_option maxRecDepth 100000 in
set_option maxHeartbeats 4000000 in
theorem cosets_law {a : Nat → Addr} {sx : Nat → ByteArray} (n : Int) (vr vw : Value) (rels words : List (List Int)) (w : World) (hE : Errs a sx w) (hr : UpAt w vr rels) (hw : UpAt w vw words) :
    Calls Tryd.prog 3 #[.agg #[.int .i64 n, vr], vw] w fun e w' => e = .returned (.bool true) ∧ Below w.heap.size w w' := by
  obtain ⟨ar, cr, rfl, -, -⟩ := hr.rows.open_
  obtain ⟨aw, cw, rfl, -, -⟩ := hw.rows.open_
  have hBa : Below w.heap.size w (w.alloc (.cells #[.int .i64 n, .slice ar rels.length cr] 24)) := (Below.refl _ w).alloc (Nat.le_refl _) _
  have hnew := cells_new w [.int .i64 n, .slice ar rels.length cr] 24
  have q0 := hnew 0 _ rfl
  have q1 := hnew 1 _ rfl
  rw [Addr.add_lit, Nat.zero_add] at q0 q1
  obtain ⟨W0, hW0⟩ : ∃ W0, w.alloc (.cells #[.int .i64 n, .slice ar rels.length cr] 24) = W0 := ⟨_, rfl⟩
  obtain ⟨gb, hgb⟩ : ∃ gb, w.heap.size = gb := ⟨_, rfl⟩
  rw [show (List.toArray [Value.int .i64 n, .slice ar rels.length cr]) = #[.int .i64 n, .slice ar rels.length cr] from rfl, hW0, hgb] at q0 q1
  have HB0 : Hid (Below w.heap.size w W0) := by rw [← hW0]; exact hBa
  have HG : Hid (w.alloc (.cells #[.int .i64 n, .slice ar rels.length cr] 24) = W0 ∧ w.heap.size = gb) := ⟨hW0, hgb⟩
  have hth := three_ W0 (hE.below HB0.out)
  have HQ : Hid (∀ V, Below W0.heap.size W0 V → V.cell? ⟨gb, 0, none⟩ = some (.int .i64 n) ∧ V.cell? ⟨gb, 1, none⟩ = some (.slice ar rels.length cr)) := fun V hV => ⟨(hV.cell (p := ⟨gb, 0, none⟩) (cell_lt q0)).trans q0, (hV.cell (p := ⟨gb, 1, none⟩) (cell_lt q1)).trans q1⟩
  have HBB : Hid (∀ V, Below W0.heap.size W0 V → Below w.heap.size w V) := fun V hV => HB0.out.trans (hV.mono HB0.out.size)
  have hsm : ∀ V, Below W0.heap.size W0 V → Calls Tryd.prog 5 #[.agg #[.int .i64 n, .slice ar rels.length cr]] V fun e w' => ∃ b : Bool, e = .returned (.bool b) ∧ (b = true → smallP n rels) ∧ Below W0.heap.size W0 w' := fun V hV => (small_ n _ rels V (hr.below (HBB.out V hV))).mono fun e w' h => by
    obtain ⟨b, h1, h2, h3⟩ := h
    exact ⟨b, h1, h2, hV.trans (h3.mono hV.size)⟩
  have hle : ∀ V, Below W0.heap.size W0 V → Calls Tryd.prog 6 #[.slice aw words.length cw] V fun e w' => ∃ au cu, e = .returned (.slice au words.flatten.length cu) ∧ Below W0.heap.size W0 w' := fun V hV => (letters_ _ words V (hw.rows.below (HBB.out V hV)) hw.few hw.short).mono fun e w' hh => by
    obtain ⟨u, rfl, hi, hb⟩ := hh
    obtain ⟨au, cu, rfl, -, -⟩ := hi.open_
    exact ⟨au, cu, rfl, hV.trans (hb.mono hV.size)⟩
  have hge : ∀ V, Below W0.heap.size W0 V → Calls Tryd.prog 7 #[.agg #[.int .i64 n, .slice ar rels.length cr]] V fun e w' => e = .returned (.int .i64 (geP n rels)) ∧ Below W0.heap.size W0 w' := fun V hV => (groupError_ n _ rels V (hr.below (HBB.out V hV))).mono fun e w' hh => ⟨hh.1, hV.trans (hh.2.mono hV.size)⟩
  have hgp : geP n rels = 0 ∨ geP n rels = ((1 : Nat) : Int) + 1 ∨ geP n rels = ((2 : Nat) : Int) + 1 := by
    unfold geP
    split
    · right; left; rfl
    · split
      · left; rfl
      · right; right; rfl
  have HTH : Hid (smallP n rels → words.length ≤ 500 → words.flatten.length ≤ 500 → ∀ V, Below W0.heap.size W0 V → ThouAt V (.slice ar rels.length cr) rels ∧ ThouAt V (.slice aw words.length cw) words) := fun h1 h2 h3 V hV => by
    refine ⟨⟨hr.rows.below (HBB.out V hV), ?_, ?_⟩, ⟨hw.rows.below (HBB.out V hV), by omega, by omega⟩⟩
    · rcases h1 with h1 | h1 <;> omega
    · rcases h1 with h1 | h1 <;> omega
  have HCO : Hid (smallP n rels → words.length ≤ 500 → words.flatten.length ≤ 500 → geP n rels = 0 → ∀ V, Below W0.heap.size W0 V → Calls Tryd.prog 8 #[.agg #[.int .i64 n, .slice ar rels.length cr], .slice aw words.length cw, .int .i64 120] V fun e w' => ∃ (av : Option Addr) (m cv : Nat) (c : Int) (f : Bool) (T : List (List Int)), e = .returned (.tuple #[.slice av m cv, .int .i64 c, .bool f]) ∧ Below W0.heap.size W0 w' ∧ (f = true → TailAt n rels words (.slice av m cv) c w' T)) := fun h1 h2 h3 h4 V hV => by
    obtain ⟨k1, k2⟩ := HTH.out h1 h2 h3 V hV
    exact (cosetsOf_any _ _ V ((hE.below HB0.out).below hV) k1 k2 h4 h1).mono fun e w' ⟨av, m, cv, c, f, T, g1, g2, g3⟩ => ⟨av, m, cv, c, f, T, g1, hV.trans (g2.mono hV.size), g3⟩
  have HTB : Hid (∀ (V : World) (i : Nat), Below W0.heap.size W0 V → i < 8 → geP n rels = (i : Int) + 1 → TailAt n rels words (.slice none 0 0) ((i : Int) + 1) V []) := fun V i hV hi hg => tail_bad V ((hE.below HB0.out).below hV) hi (.inl hg)
  have HPR : Hid (smallP n rels → words.length ≤ 500 → words.flatten.length ≤ 500 → ∀ V, Below W0.heap.size W0 V → Calls Tryd.prog 9 #[.agg #[.int .i64 n, .slice ar rels.length cr]] V fun e w' => ∃ u, e = .returned (.agg #[.int .i64 n, u]) ∧ ThouAt w' u rels ∧ Below V.heap.size V w') := fun h1 h2 h3 V hV => by
    obtain ⟨k1, k2⟩ := HTH.out h1 h2 h3 V hV
    exact (programT_ n _ rels V k1).mono fun e w' ⟨u, g1, g2, g3⟩ => ⟨u, g1, ⟨g2, k1.few, k1.short⟩, g3⟩
  have HWO : Hid (smallP n rels → words.length ≤ 500 → words.flatten.length ≤ 500 → ∀ V, Below W0.heap.size W0 V → Calls Tryd.prog 11 #[.slice aw words.length cw] V fun e w' => ∃ u, e = .returned u ∧ ThouAt w' u words ∧ Below V.heap.size V w') := fun h1 h2 h3 V hV => by
    obtain ⟨k1, k2⟩ := HTH.out h1 h2 h3 V hV
    exact (wordsOfT_ _ words V k2).mono fun e w' ⟨u, g1, g2, g3⟩ => ⟨u, g1, ⟨g2, k2.few, k2.short⟩, g3⟩
  have hf1 := hr.few
  have hf2 := hw.few
  have hf3 := hw.short
  obtain ⟨SP, hSP⟩ : ∃ SP, smallP n rels = SP := ⟨_, rfl⟩
  obtain ⟨R, hR⟩ : ∃ R, geP n rels = R := ⟨_, rfl⟩
  obtain ⟨lr, hlr⟩ : ∃ lr, rels.length = lr := ⟨_, rfl⟩
  obtain ⟨lw, hlw⟩ : ∃ lw, words.length = lw := ⟨_, rfl⟩
  obtain ⟨tot, htt⟩ : ∃ tot, words.flatten.length = tot := ⟨_, rfl⟩
  rw [hSP, hlr] at hsm
  rw [hlw, htt] at hle
  rw [hR, hlr] at hge
  rw [hR] at hgp
  rw [hSP, hlw, htt, hlr] at HPR
  rw [hSP, hlw, htt] at HWO
  rw [hSP, hlw, htt, hlr, hR] at HCO
  rw [hR] at HTB
  rw [hlr] at HQ HG q1 hf1 ⊢
  rw [hlw] at hf2 ⊢
  rw [htt] at hf3
  clear hr hw hE hBa hnew hW0 hgb hSP hR hlr hlw htt HB0 HTH
  go_enter Tryd.func3, Tryd.ntmps3
  go_upto_region 1 with fail
  rw [HG.out.1, HG.out.2]
  go_upto_region 2 with (go_at_call 4; refine hth.mono ?_; rintro e V1 ⟨rfl, hb⟩; have H0 := Hid.mk' hb; clear hb hth)
  have x0 := (HQ.out V1 H0.out).1
  have x1 := (HQ.out V1 H0.out).2
  go_upto_region 3 with (go_at_call 5; refine (hsm _ H0.out).mono ?_; rintro e V2 ⟨b, rfl, hs, hb⟩; replace H0 := Hid.mk' hb; have HS := Hid.mk' hs; clear hb hs)
  clear q0 q1 x0 x1
  cases b with
  | false =>
    go_wp2_with fail
    go_ret
    exact ⟨rfl, HBB.out _ H0.out⟩
  | true =>
    have HSP : Hid SP := HS.out rfl
    have hle2 := hle V2 H0.out
    by_cases e1 : 500 < lw
    · have y1 : (500 : Int) < (lw : Int) := by omega
      go_wp2_with fail
      go_ret
      exact ⟨rfl, HBB.out _ H0.out⟩
    · have y1 : ¬ (500 : Int) < (lw : Int) := by omega
      by_cases e2 : 500 < tot
      · have y2 : (500 : Int) < (tot : Int) := by omega
        go_wp2_with (first
          | (go_at_call 6; refine hle2.mono ?_; rintro e V3 ⟨au, cu, rfl, hb⟩; replace H0 := Hid.mk' hb; clear hb hle2)
          | fail)
        go_ret
        exact ⟨rfl, HBB.out _ H0.out⟩
      · have y2 : ¬ (500 : Int) < (tot : Int) := by omega
        have HSM : Hid (SP ∧ lw ≤ 500 ∧ tot ≤ 500) := ⟨HSP.out, by omega, by omega⟩
        go_upto_if 36 with (first
          | (go_at_call 6; refine hle2.mono ?_; rintro e V3 ⟨au, cu, rfl, hb⟩; replace H0 := Hid.mk' hb; have x0 := (HQ.out V3 hb).1; have x1 := (HQ.out V3 hb).2; have hge2 := hge V3 hb; clear hb hle2)
          | (go_at_call 7; refine hge2.mono ?_; rintro e V4 ⟨rfl, hb⟩; replace H0 := Hid.mk' hb; clear hb hge2)
          | fail)
        clear x0 x1
        go_cut [7, 8, 9] from 34 to 43 (fun pe pw pf wx => ∃ (av : Option Addr) (mv cv : Nat) (c : Int) (f : Bool) (T : List (List Int)), pe = .int .i64 c ∧ pw = .slice av mv cv ∧ pf = .bool f ∧ Hid (Below W0.heap.size W0 wx ∧ (f = true → TailAt n rels words (.slice av mv cv) c wx T)))
        case first =>
          rcases hgp with e | e | e
          · subst e
            have hco := HCO.out HSM.out.1 HSM.out.2.1 HSM.out.2.2 rfl V4 H0.out
            have x0 := (HQ.out V4 H0.out).1
            have x1 := (HQ.out V4 H0.out).2
            go_wp2_with (first
              | (go_at_call 8; refine hco.mono ?_; rintro e V5 ⟨av, mv, cv, c, f, T, rfl, hb, ht⟩; have H5 := Hid.mk' (And.intro hb ht); clear hb ht hco)
              | fail)
            go_meet
            exact ⟨av, mv, cv, c, f, T, rfl, rfl, rfl, H5.out⟩
          · have HT := Hid.mk' (HTB.out V4 1 H0.out (by omega) e)
            subst e
            go_wp2_with fail
            go_meet
            exact ⟨_, _, _, _, true, [], rfl, rfl, rfl, H0.out, fun _ => HT.out⟩
          · have HT := Hid.mk' (HTB.out V4 2 H0.out (by omega) e)
            subst e
            go_wp2_with fail
            go_meet
            exact ⟨_, _, _, _, true, [], rfl, rfl, rfl, H0.out, fun _ => HT.out⟩
        obtain ⟨av, mv, cv, c, f, T, rfl, rfl, rfl, HT⟩ := hcut
        obtain ⟨V5, hV5⟩ : ∃ W, W = wc := ⟨_, rfl⟩
        subst hV5
        cases f with
        | false =>
          go_wp2_with fail
          go_ret
          exact ⟨rfl, HBB.out _ HT.out.1⟩
        | true =>
          have HTA : Hid (TailAt n rels words (.slice av mv cv) c V5 T) := HT.out.2 (by simp)
          have hpr := HPR.out HSM.out.1 HSM.out.2.1 HSM.out.2.2 V5 HT.out.1
          have x0 := (HQ.out V5 HT.out.1).1
          have x1 := (HQ.out V5 HT.out.1).2
          have HW6 : Hid (∀ V, Below V5.heap.size V5 V → Below W0.heap.size W0 V) := fun V hV => HT.out.1.trans (hV.mono HT.out.1.size)
          obtain rfl : mv = T.length := by obtain ⟨a9, c9, e, -, -⟩ := HTA.out.rows.open_; cases e; rfl
          go_upto_region 13 with (first
            | (go_at_call 9; refine hpr.mono ?_; rintro e V6 ⟨u, rfl, hu, hb⟩; have H6 : Hid (ThouAt V6 u rels ∧ Below V5.heap.size V5 V6) := ⟨hu, hb⟩; have hwo := HWO.out HSM.out.1 HSM.out.2.1 HSM.out.2.2 V6 (HW6.out V6 hb); clear hu hb hpr)
            | (go_at_call 11; refine hwo.mono ?_; rintro e V7 ⟨uw, rfl, hu, hb⟩; have H7 : Hid (ThouAt V7 u rels ∧ Below V5.heap.size V5 V7) := ⟨H6.out.1.below hb, H6.out.2.trans (hb.mono H6.out.2.size)⟩; have hca := HTA.out.call V7 u uw H7.out.2 H7.out.1 hu; clear hu hb hwo)
            | (go_at_call 10; refine hca.mono ?_; rintro e V8 ⟨vt, ve, rfl, ht, hb, hcd⟩; have H8 := Hid.mk' (And.intro ht (And.intro hb hcd)); clear ht hb hcd hca)
            | fail)
          have hcd := H8.out.2.2 V8 (Below.refl _ _)
          obtain ⟨at2, ct2, hvt⟩ : ∃ at2 ct2, vt = .slice at2 T.length ct2 := by obtain ⟨av, cv, e, -, -⟩ := H8.out.1.open_; exact ⟨av, cv, e⟩
          subst hvt
          have HV8 : Hid (Below V5.heap.size V5 V8) := H7.out.2.trans (H8.out.2.1.mono H7.out.2.size)
          have HSL : Hid (∀ V, Below V8.heap.size V8 V → Calls Tryd.prog 13 #[.slice at2 T.length ct2, .slice av T.length cv] V fun e w' => e = .returned (.bool true) ∧ Below w.heap.size w w') := fun V hV => (sameLists_ _ _ T V (H8.out.1.below hV) (HTA.out.rows.below (HV8.out.trans (hV.mono HV8.out.size))) HTA.out.few HTA.out.thin).mono fun e w' h => ⟨h.1, by
            obtain ⟨q, hq⟩ := h.2
            have h9 : Below V.heap.size V w' := by rw [hq]; exact ⟨rfl, rfl, rfl, Nat.le_refl _, fun _ _ => rfl⟩
            have h10 := HBB.out V (HW6.out V (HV8.out.trans (hV.mono HV8.out.size)))
            exact h10.trans (h9.mono h10.size)⟩
          clear x0 x1
          go_wp2_with (first
            | (go_at_call 12; refine hcd.mono ?_; rintro e V9 ⟨rfl, hb⟩; have hsl := HSL.out V9 hb; clear hb hcd)
            | (go_at_call 13; refine hsl.mono ?_; rintro e VA ⟨rfl, hb⟩; have HA := Hid.mk' hb; clear hb hsl)
            | fail)
          go_ret
          exact ⟨rfl, HA.out⟩

end Go.Proofs.YthcgabghkbgccaaDoor
