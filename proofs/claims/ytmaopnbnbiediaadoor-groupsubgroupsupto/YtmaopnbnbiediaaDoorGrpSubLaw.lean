/- GroupSubgroups answers true of whatever group and index. -/
import Derived.Test.YtmaopnbnbiediaaDoorGrpThree
import Derived.Test.YtmaopnbnbiediaaDoorGrpCopy0
namespace Go.Proofs.YtmaopnbnbiediaaDoor
open Go.RowKit Go.Sort

/-- What Subgroups tells of what it does not take. -/
def ErrTail (n idx : Int) (rels : List (List Int)) (c : Int) (V : World) : Prop := ∀ (V' : World) (u : Value), Below V.heap.size V V' → ThouAt V' u rels → Calls Tryd.prog 9 #[.agg #[.int .i64 n, u], .int .i64 idx] V' fun e' w' => ∃ ve, e' = .returned (.tuple #[.slice none 0 0, ve]) ∧ Below V'.heap.size V' w' ∧ ∀ V'', Below w'.heap.size w' V'' → Calls Tryd.prog 10 #[ve, .int .i64 c] V'' fun e2 w2 => e2 = .returned (.bool true) ∧ Below V''.heap.size V'' w2
theorem errTail_bad {a : Nat → Addr} {sx : Nat → ByteArray} {n idx : Int} {rels : List (List Int)} {i : Nat} (V : World) (hE : Errs a sx V) (hi : i < 8) (hg : geP n rels = (i : Int) + 1) : ErrTail n idx rels ((i : Int) + 1) V := fun V' u hB hu => by
  refine (subgroups_bad n idx u rels V' (hE.below hB) hu hg).mono fun e' w' h => ⟨_, h.1, h.2, fun V'' hV => ?_⟩
  exact (coded_es V'' (((hE.below hB).below h.2).below hV) i hi ((i : Int) + 1)).mono fun e2 w2 h2 => ⟨by rw [h2.1, decide_eq_true rfl], h2.2⟩
theorem errTail_far {a : Nat → Addr} {sx : Nat → ByteArray} {n : Nat} {idx : Int} {rels : List (List Int)} (V : World) (hE : Errs a sx V) (hr1 : rels.length ≤ 400) (hr2 : rels.flatten.length ≤ 400) (hl : ∀ ws ∈ rels, LettersIn n ws) (hn : n ≤ 5) (hf : FarIx n idx) : ErrTail (n : Int) idx rels 2 V := fun V' u hB hu => by
  refine (subgroups_far n idx u rels V' (hE.below hB) ⟨hu.rows, hr1, hr2⟩ hl hn hf).mono fun e' w' h => ⟨_, h.1, h.2, fun V'' hV => ?_⟩
  exact (coded_es V'' (((hE.below hB).below h.2).below hV) 1 (by omega) 2).mono fun e2 w2 h2 => ⟨by rw [h2.1]; rfl, h2.2⟩

/-- What is asked: which case it is. -/
inductive CaseS (n idx : Int) (rels : List (List Int)) : Prop where
  | bad (i : Nat) (hi : i < 8) (h : geP n rels = (i : Int) + 1)
  | low (k : Nat) (hk : n = (k : Int)) (h5 : k ≤ 5) (h : geP n rels = 0) (h1 : rels.length ≤ 400) (h2 : rels.flatten.length ≤ 400) (hl : ∀ ws ∈ rels, LettersIn k ws) (hx : idx < 1)
  | high (k : Nat) (hk : n = (k : Int)) (h5 : k ≤ 5) (h : geP n rels = 0) (h1 : rels.length ≤ 400) (h2 : rels.flatten.length ≤ 400) (hl : ∀ ws ∈ rels, LettersIn k ws) (hx : 4 < idx)
  | far (k N : Nat) (hk : n = (k : Int)) (h5 : k ≤ 5) (h : geP n rels = 0) (h1 : rels.length ≤ 400) (h2 : rels.flatten.length ≤ 400) (hl : ∀ ws ∈ rels, LettersIn k ws) (hN : idx = (N : Int)) (g1 : 1 ≤ N) (g4 : N ≤ 4) (hw : 20000 < facN N ^ k)
  | good (k N : Nat) (hk : n = (k : Int)) (h5 : k ≤ 5) (h : geP n rels = 0) (h1 : rels.length ≤ 400) (h2 : rels.flatten.length ≤ 400) (hl : ∀ ws ∈ rels, LettersIn k ws) (hN : idx = (N : Int)) (g1 : 1 ≤ N) (g4 : N ≤ 4) (hw : facN N ^ k ≤ 20000)
theorem case_any {n : Int} {rels : List (List Int)} (idx : Int) (hs : smallP n rels) : CaseS n idx rels := by
  by_cases hb : geBound n rels
  · exact .bad 1 (by omega) (by unfold geP; rw [if_pos hb]; rfl)
  · by_cases hl : LettersIn n.toNat rels.flatten
    · have h0 : geP n rels = 0 := by unfold geP; rw [if_neg hb, if_pos hl]
      have hsm : n ≤ 5 ∧ rels.flatten.length ≤ 60 ∧ rels.length ≤ 20 := by
        rcases hs with hs | hs
        · exact hs
        · rw [h0] at hs; omega
      unfold geBound at hb
      obtain ⟨k, rfl⟩ : ∃ k : Nat, n = (k : Int) := ⟨n.toNat, by omega⟩
      rw [Int.toNat_natCast] at hl
      have hl2 := (flat_in k rels).1 hl
      by_cases h1 : idx < 1
      · exact .low k rfl (by omega) h0 (by omega) (by omega) hl2 h1
      · by_cases h4 : 4 < idx
        · exact .high k rfl (by omega) h0 (by omega) (by omega) hl2 h4
        · obtain ⟨N, rfl⟩ : ∃ N : Nat, idx = (N : Int) := ⟨idx.toNat, by omega⟩
          by_cases hw : 20000 < facN N ^ k
          · exact .far k N rfl (by omega) h0 (by omega) (by omega) hl2 rfl (by omega) (by omega) hw
          · exact .good k N rfl (by omega) h0 (by omega) (by omega) hl2 rfl (by omega) (by omega) (by omega)
    · exact .bad 2 (by omega) (by unfold geP; rw [if_neg hb, if_neg hl]; rfl)

set_option maxRecDepth 100000 in
set_option maxHeartbeats 8000000 in
theorem subgroups_law {a : Nat → Addr} {sx : Nat → ByteArray} (n idx : Int) (vr : Value) (rels : List (List Int)) (w : World) (hE : Errs a sx w) (hr : UpAt w vr rels) :
    Calls Tryd.prog 3 #[.agg #[.int .i64 n, vr], .int .i64 idx] w fun e w' => e = .returned (.bool true) ∧ Below w.heap.size w w' := by
  obtain ⟨ar, cr, rfl, -, -⟩ := hr.rows.open_
  have hBa : Below w.heap.size w (w.alloc (.cells #[.int .i64 n, .slice ar rels.length cr] 24)) := (Below.refl _ w).alloc (Nat.le_refl _) _
  have hnew := cells_new w [.int .i64 n, .slice ar rels.length cr] 24
  have q0 := hnew 0 _ rfl
  have q1 := hnew 1 _ rfl
  rw [Addr.add_lit, Nat.zero_add] at q0 q1
  obtain ⟨W0, hW0⟩ : ∃ W0, w.alloc (.cells #[.int .i64 n, .slice ar rels.length cr] 24) = W0 := ⟨_, rfl⟩
  obtain ⟨gb, hgb⟩ : ∃ gb, w.heap.size = gb := ⟨_, rfl⟩
  rw [show (List.toArray [Value.int .i64 n, .slice ar rels.length cr]) = #[.int .i64 n, .slice ar rels.length cr] from rfl, hW0, hgb] at q0 q1
  have HB0 : Hid (Below w.heap.size w W0) := by rw [← hW0]; exact hBa
  have HG : Hid (w.alloc (.cells #[.int .i64 n, .slice ar rels.length cr] 24) = W0 ∧ w.heap.size = gb) := ⟨hW0, hgb⟩
  have hth := three_ W0 (hE.below HB0.out)
  have HQ : Hid (∀ V, Below W0.heap.size W0 V → V.cell? ⟨gb, 0, none⟩ = some (.int .i64 n) ∧ V.cell? ⟨gb, 1, none⟩ = some (.slice ar rels.length cr)) := fun V hV => ⟨(hV.cell (p := ⟨gb, 0, none⟩) (cell_lt q0)).trans q0, (hV.cell (p := ⟨gb, 1, none⟩) (cell_lt q1)).trans q1⟩
  have HBB : Hid (∀ V, Below W0.heap.size W0 V → Below w.heap.size w V) := fun V hV => HB0.out.trans (hV.mono HB0.out.size)
  have hsm : ∀ V, Below W0.heap.size W0 V → Calls Tryd.prog 5 #[.agg #[.int .i64 n, .slice ar rels.length cr]] V fun e w' => ∃ b : Bool, e = .returned (.bool b) ∧ (b = true → smallP n rels) ∧ Below W0.heap.size W0 w' := fun V hV => (small_ n _ rels V (hr.below (HBB.out V hV))).mono fun e w' h => by
    obtain ⟨b, h1, h2, h3⟩ := h
    exact ⟨b, h1, h2, hV.trans (h3.mono hV.size)⟩
  have hge : ∀ V, Below W0.heap.size W0 V → Calls Tryd.prog 6 #[.agg #[.int .i64 n, .slice ar rels.length cr]] V fun e w' => e = .returned (.int .i64 (geP n rels)) ∧ Below W0.heap.size W0 w' := fun V hV => (groupError_ n _ rels V (hr.below (HBB.out V hV))).mono fun e w' hh => ⟨hh.1, hV.trans (hh.2.mono hV.size)⟩
  have HTH : Hid (smallP n rels → ∀ V, Below W0.heap.size W0 V → ThouAt V (.slice ar rels.length cr) rels) := fun h1 V hV => by
    refine ⟨hr.rows.below (HBB.out V hV), ?_, ?_⟩
    · rcases h1 with h1 | h1 <;> omega
    · rcases h1 with h1 | h1 <;> omega
  have HPR : Hid (smallP n rels → ∀ V, Below W0.heap.size W0 V → Calls Tryd.prog 8 #[.agg #[.int .i64 n, .slice ar rels.length cr]] V fun e w' => ∃ u, e = .returned (.agg #[.int .i64 n, u]) ∧ ThouAt w' u rels ∧ Below W0.heap.size W0 w') := fun h1 V hV => by
    have k1 := HTH.out h1 V hV
    exact (programT_ n _ rels V k1).mono fun e w' ⟨u, g1, g2, g3⟩ => ⟨u, g1, ⟨g2, k1.few, k1.short⟩, hV.trans (g3.mono hV.size)⟩
  have HEW : Hid (∀ V, Below W0.heap.size W0 V → Errs a sx V) := fun V hV => (hE.below HB0.out).below hV
  have HRW : Hid (∀ V, Below W0.heap.size W0 V → Rows V (.slice ar rels.length cr) rels) := fun V hV => hr.rows.below (HBB.out V hV)
  have hf1 := hr.few
  obtain ⟨lr, hlr⟩ : ∃ lr, rels.length = lr := ⟨_, rfl⟩
  have HLR : Hid (rels.length = lr) := hlr
  rw [hlr] at hsm hge HPR HQ HG q1 hf1 HRW ⊢
  have HSM : Hid (∀ V, Below W0.heap.size W0 V → Calls Tryd.prog 5 #[.agg #[.int .i64 n, .slice ar lr cr]] V fun e w' => ∃ b : Bool, e = .returned (.bool b) ∧ (b = true → smallP n rels) ∧ Below W0.heap.size W0 w') := hsm
  have HGE := Hid.mk' hge
  clear hr hE hBa hnew hW0 hgb hlr HB0 HTH hsm hge
  go_enter Tryd.func3, Tryd.ntmps3
  go_upto_region 1 with fail
  rw [HG.out.1, HG.out.2]
  go_upto_region 2 with (go_at_call 4; refine hth.mono ?_; rintro e V1 ⟨rfl, hb⟩; have H0 := Hid.mk' hb; clear hb hth)
  have x0 := (HQ.out V1 H0.out).1
  have x1 := (HQ.out V1 H0.out).2
  go_upto_region 3 with (go_at_call 5; refine (HSM.out _ H0.out).mono ?_; rintro e V2 ⟨b, rfl, hs, hb⟩; replace H0 := Hid.mk' hb; have HS := Hid.mk' hs; clear hb hs)
  clear q0 q1 x0 x1
  cases b with
  | false =>
    go_wp2_with fail
    go_ret
    exact ⟨rfl, HBB.out _ H0.out⟩
  | true =>
    have HSP : Hid (smallP n rels) := HS.out rfl
    have hge2 := HGE.out V2 H0.out
    have x0 := (HQ.out V2 H0.out).1
    have x1 := (HQ.out V2 H0.out).2
    rcases case_any idx HSP.out with ⟨i, hi, hg⟩ | ⟨k, rfl, h5, hg, h1, h2, hl, hx⟩ | ⟨k, rfl, h5, hg, h1, h2, hl, hx⟩ | ⟨k, N, rfl, h5, hg, h1, h2, hl, rfl, g1, g4, hw⟩ | ⟨k, N, rfl, h5, hg, h1, h2, hl, rfl, g1, g4, hw⟩
    · have HT : Hid (∀ V, Below W0.heap.size W0 V → ErrTail n idx rels ((i : Int) + 1) V) := fun V hV => errTail_bad V (HEW.out V hV) hi hg
      rw [hg] at hge2
      obtain ⟨ec, hec⟩ : ∃ ec, (i : Int) + 1 = ec := ⟨_, rfl⟩
      rw [hec] at hge2 HT
      have y0 : (ec == 0) = false := beq_false_of_ne (by omega)
      have y1 : (0 : Int) < ec := by omega
      clear hg hec
      go_wp2_with (first
        | (go_at_call 6; refine hge2.mono ?_; rintro e V3 ⟨rfl, hb⟩; replace H0 := Hid.mk' hb; have x0 := (HQ.out V3 hb).1; have x1 := (HQ.out V3 hb).2; have hpr := HPR.out HSP.out V3 hb; clear hge2 hb)
        | (go_at_call 8; refine hpr.mono ?_; rintro e V6 ⟨u, rfl, hu, hb⟩; replace H0 := Hid.mk' hb; have hsg := HT.out V6 hb V6 u (Below.refl _ _) hu; clear hu hb hpr)
        | (go_at_call 9; refine hsg.mono ?_; rintro e V7 ⟨ve, rfl, hb, hcd⟩; have H7 : Hid (Below W0.heap.size W0 V7) := H0.out.trans (hb.mono H0.out.size); have hcd2 := hcd V7 (Below.refl _ _); clear hb hcd hsg)
        | (go_at_call 10; refine hcd2.mono ?_; rintro e V8 ⟨rfl, hb⟩; have H8 : Hid (Below W0.heap.size W0 V8) := H7.out.trans (hb.mono H7.out.size); clear hb hcd2)
        | fail)
      go_ret
      exact ⟨rfl, HBB.out _ H8.out⟩
    · have HT : Hid (∀ V, Below W0.heap.size W0 V → ErrTail (k : Int) idx rels 2 V) := fun V hV => errTail_far V (HEW.out V hV) h1 h2 hl h5 (.inl hx)
      rw [hg] at hge2
      clear hg h1 h2 hl
      go_wp2_with (first
        | (go_at_call 6; refine hge2.mono ?_; rintro e V3 ⟨rfl, hb⟩; replace H0 := Hid.mk' hb; have x0 := (HQ.out V3 hb).1; have x1 := (HQ.out V3 hb).2; have hpr := HPR.out HSP.out V3 hb; clear hge2 hb)
        | (go_at_call 8; refine hpr.mono ?_; rintro e V6 ⟨u, rfl, hu, hb⟩; replace H0 := Hid.mk' hb; have hsg := HT.out V6 hb V6 u (Below.refl _ _) hu; clear hu hb hpr)
        | (go_at_call 9; refine hsg.mono ?_; rintro e V7 ⟨ve, rfl, hb, hcd⟩; have H7 : Hid (Below W0.heap.size W0 V7) := H0.out.trans (hb.mono H0.out.size); have hcd2 := hcd V7 (Below.refl _ _); clear hb hcd hsg)
        | (go_at_call 10; refine hcd2.mono ?_; rintro e V8 ⟨rfl, hb⟩; have H8 : Hid (Below W0.heap.size W0 V8) := H7.out.trans (hb.mono H7.out.size); clear hb hcd2)
        | fail)
      go_ret
      exact ⟨rfl, HBB.out _ H8.out⟩
    · have HT : Hid (∀ V, Below W0.heap.size W0 V → ErrTail (k : Int) idx rels 2 V) := fun V hV => errTail_far V (HEW.out V hV) h1 h2 hl h5 (.inr (.inl hx))
      have hx2 : ¬ (idx < 1) := by omega
      rw [hg] at hge2
      clear hg h1 h2 hl
      go_wp2_with (first
        | (go_at_call 6; refine hge2.mono ?_; rintro e V3 ⟨rfl, hb⟩; replace H0 := Hid.mk' hb; have x0 := (HQ.out V3 hb).1; have x1 := (HQ.out V3 hb).2; have hpr := HPR.out HSP.out V3 hb; clear hge2 hb)
        | (go_at_call 8; refine hpr.mono ?_; rintro e V6 ⟨u, rfl, hu, hb⟩; replace H0 := Hid.mk' hb; have hsg := HT.out V6 hb V6 u (Below.refl _ _) hu; clear hu hb hpr)
        | (go_at_call 9; refine hsg.mono ?_; rintro e V7 ⟨ve, rfl, hb, hcd⟩; have H7 : Hid (Below W0.heap.size W0 V7) := H0.out.trans (hb.mono H0.out.size); have hcd2 := hcd V7 (Below.refl _ _); clear hb hcd hsg)
        | (go_at_call 10; refine hcd2.mono ?_; rintro e V8 ⟨rfl, hb⟩; have H8 : Hid (Below W0.heap.size W0 V8) := H7.out.trans (hb.mono H7.out.size); clear hb hcd2)
        | fail)
      go_ret
      exact ⟨rfl, HBB.out _ H8.out⟩
    · have HT : Hid (∀ V, Below W0.heap.size W0 V → ErrTail (k : Int) (N : Int) rels 2 V) := fun V hV => errTail_far V (HEW.out V hV) h1 h2 hl h5 (.inr (.inr ⟨N, rfl, g1, g4, hw⟩))
      have HWY : Hid (∀ V, Below W0.heap.size W0 V → Calls Tryd.prog 7 #[.agg #[.int .i64 (k : Int), .slice ar lr cr], .int .i64 (N : Int)] V fun e w' => e = .returned (.int .i64 0) ∧ Below W0.heap.size W0 w') := fun V hV => (waysR_ N k _ V g4 h5).mono fun e w' hh => ⟨by rw [hh.1, waysP, if_pos hw]; rfl, hV.trans (hh.2.mono hV.size)⟩
      rw [hg] at hge2
      have z1 : ¬ ((N : Int) < 1) := by omega
      have z2 : ¬ ((4 : Int) < (N : Int)) := by omega
      clear hg h1 h2 hl hw
      go_wp2_with (first
        | (go_at_call 6; refine hge2.mono ?_; rintro e V3 ⟨rfl, hb⟩; replace H0 := Hid.mk' hb; have x0 := (HQ.out V3 hb).1; have x1 := (HQ.out V3 hb).2; have hwy := HWY.out V3 hb; clear hge2 hb)
        | (go_at_call 7; refine hwy.mono ?_; rintro e V4 ⟨rfl, hb⟩; replace H0 := Hid.mk' hb; have x0 := (HQ.out V4 hb).1; have x1 := (HQ.out V4 hb).2; have hpr := HPR.out HSP.out V4 hb; clear hwy hb)
        | (go_at_call 8; refine hpr.mono ?_; rintro e V6 ⟨u, rfl, hu, hb⟩; replace H0 := Hid.mk' hb; have hsg := HT.out V6 hb V6 u (Below.refl _ _) hu; clear hu hb hpr)
        | (go_at_call 9; refine hsg.mono ?_; rintro e V7 ⟨ve, rfl, hb, hcd⟩; have H7 : Hid (Below W0.heap.size W0 V7) := H0.out.trans (hb.mono H0.out.size); have hcd2 := hcd V7 (Below.refl _ _); clear hb hcd hsg)
        | (go_at_call 10; refine hcd2.mono ?_; rintro e V8 ⟨rfl, hb⟩; have H8 : Hid (Below W0.heap.size W0 V8) := H7.out.trans (hb.mono H7.out.size); clear hb hcd2)
        | fail)
      go_ret
      exact ⟨rfl, HBB.out _ H8.out⟩
    · have HWN : Hid (0 < facN N ^ k) := Nat.pow_pos (facN_pos N)
      obtain ⟨Wn, hWn⟩ : ∃ Wn, facN N ^ k = Wn := ⟨_, rfl⟩
      have HWF : Hid (facN N ^ k = Wn) := hWn
      have hW0' : 0 < Wn := by rw [← hWn]; exact HWN.out
      have HWY : Hid (∀ V, Below W0.heap.size W0 V → Calls Tryd.prog 7 #[.agg #[.int .i64 (k : Int), .slice ar lr cr], .int .i64 (N : Int)] V fun e w' => e = .returned (.int .i64 (Wn : Int)) ∧ Below V.heap.size V w') := fun V _ => (waysR_ N k _ V g4 h5).mono fun e w' hh => ⟨by rw [hh.1, waysP, if_neg (by omega), hWn], hh.2⟩
      obtain ⟨L, hL⟩ : ∃ L, (subP N k).filter (keepsB rels) = L := ⟨_, rfl⟩
      have hML := List.length_filter_le (keepsB rels) (subP N k)
      rw [hL] at hML
      have hsh := sub_short g1 g4 h5 hw
      obtain ⟨M, hM⟩ : ∃ M, L.length = M := ⟨_, rfl⟩
      have hM9 : M ≤ 100000 := by omega
      have HTL : Hid (∀ (V : World) (v : Value), Tabs V v L → ∃ a9 c9, v = .slice a9 M c9) := fun V v hv => by
        obtain ⟨us, ⟨a9, c9, e, -⟩, hl, -⟩ := hv
        exact ⟨a9, c9, by rw [e, hl, hM]⟩
      have HSO : Hid (∀ (V : World) (u : Value), Below W0.heap.size W0 V → ThouAt V u rels → Calls Tryd.prog 9 #[.agg #[.int .i64 (k : Int), u], .int .i64 (N : Int)] V fun e w' => ∃ a9 c9, e = .returned (.tuple #[.slice a9 M c9, .nilIface]) ∧ Tabs w' (.slice a9 M c9) L ∧ Below W0.heap.size W0 w') := fun V u hV hu => (subgroups_ok k N u rels V (HEW.out V hV) ⟨hu.rows, h1, h2⟩ hl h5 g1 g4 hw hsh).mono fun e w' hh => by
        obtain ⟨v, e1, e2, e3⟩ := hh
        rw [hL] at e2
        obtain ⟨a9, c9, rfl⟩ := HTL.out _ _ e2
        exact ⟨a9, c9, e1, e2, hV.trans (e3.mono hV.size)⟩
      have HSG : Hid (Wn ≤ 1500 → ∀ V, Below W0.heap.size W0 V → Calls Tryd.prog 12 #[.agg #[.int .i64 (k : Int), .slice ar lr cr], .int .i64 (N : Int)] V fun e w' => ∃ a9 c9, e = .returned (.slice a9 M c9) ∧ Tabs w' (.slice a9 M c9) L ∧ Below V.heap.size V w') := fun h15 V hV => (subgroupsOf_ N k Wn _ rels V ⟨HRW.out V hV, h1, h2⟩ hl g1 g4 h5 (by rw [waysP, if_neg (by omega), hWn]) h15).mono fun e w' hh => by
        obtain ⟨v, e1, e2, e3⟩ := hh
        rw [← hWn, lists_same g1 g4 h5 (by omega) rels, hL] at e2
        obtain ⟨a9, c9, rfl⟩ := HTL.out _ _ e2
        exact ⟨a9, c9, e1, e2, e3⟩
      have HSZ : Hid (∀ T ∈ L, T.length ≤ 1000 ∧ ∀ x ∈ T, x.length ≤ 1000) := fun T hT => by
        rw [← hL] at hT
        have h9 := compF_all (n := k) (N := N) (blank_wide N k) (by rw [blankP, List.length_replicate]) T (List.mem_filter.1 hT).1
        exact ⟨by omega, fun x hx => by have := h9.1 x hx; omega⟩
      have HHA : Hid (∀ V, Below W0.heap.size W0 V → Calls Tryd.prog 11 #[.int .i64 (k : Int), .int .i64 (N : Int)] V fun e w' => e = .returned (.int .i64 (hallP k N)) ∧ Below V.heap.size V w') := fun V _ => hall_ k N V h5 g1 g4
      have HHI : Hid (lr = 0 → hallP k N = (M : Int)) := fun h0 => by
        have h9 : rels = [] := List.eq_nil_of_length_eq_zero (by rw [HLR.out]; exact h0)
        have h8 : L = subP N k := by
          rw [← hL, h9]
          exact List.filter_eq_self.2 fun _ _ => rfl
        rw [← hall_is g1 g4 h5 hw, ← hM, h8]
      have HML : Hid (L.length = M) := hM
      rw [hg] at hge2
      have z1 : ¬ ((N : Int) < 1) := by omega
      have z2 : ¬ ((4 : Int) < (N : Int)) := by omega
      have y0 : ((Wn : Int) == 0) = false := beq_false_of_ne (by omega)
      clear hg h1 h2 hl hw hWn hL hM hML hsh
      by_cases hlr0 : lr = 0
      · have hhi := HHI.out hlr0
        rw [hhi] at HHA
        clear hhi
        subst hlr0
        by_cases hbig : 1500 < Wn
        · have y4 : (1500 : Int) < (Wn : Int) := by omega
          go_wp2_with (first
            | (go_at_call 6; refine hge2.mono ?_; rintro e V3 ⟨rfl, hb⟩; replace H0 := Hid.mk' hb; have x0 := (HQ.out V3 hb).1; have x1 := (HQ.out V3 hb).2; have hwy := HWY.out V3 hb; clear hge2 hb)
            | (go_at_call 7; refine hwy.mono ?_; rintro e V4 ⟨rfl, hb⟩; replace H0 := Hid.mk' (H0.out.trans (hb.mono H0.out.size)); have x0 := (HQ.out V4 H0.out).1; have x1 := (HQ.out V4 H0.out).2; have hpr := HPR.out HSP.out V4 H0.out; clear hwy hb)
            | (go_at_call 8; refine hpr.mono ?_; rintro e V6 ⟨u, rfl, hu, hb⟩; replace H0 := Hid.mk' hb; have hsg := HSO.out V6 u hb hu; clear hu hb hpr)
            | (go_at_call 9; refine hsg.mono ?_; rintro e V7 ⟨a7, c7, rfl, ht7, hb⟩; have H7 := Hid.mk' (And.intro ht7 hb); have HX7 : Hid (Below V7.heap.size V7 V7) := Below.refl _ _; have x0 := (HQ.out V7 hb).1; have x1 := (HQ.out V7 hb).2; have hha := HHA.out V7 hb; clear ht7 hb hsg)
            | (go_at_call 11; refine hha.mono ?_; rintro e V8 ⟨rfl, hb⟩; replace HX7 := Hid.mk' hb; replace H0 := Hid.mk' (H7.out.2.trans (hb.mono H7.out.2.size)); have x0 := (HQ.out V8 H0.out).1; have x1 := (HQ.out V8 H0.out).2; have hwy2 := HWY.out V8 H0.out; clear hha hb)
            | (go_at_call 7; refine hwy2.mono ?_; rintro e V9 ⟨rfl, hb⟩; replace HX7 := Hid.mk' (HX7.out.trans (hb.mono HX7.out.size)); have H9 : Hid (Below W0.heap.size W0 V9) := H7.out.2.trans (HX7.out.mono H7.out.2.size); clear hwy2 hb)
            | fail)
          go_ret
          exact ⟨rfl, HBB.out _ H9.out⟩
        · have y4 : ¬ ((1500 : Int) < (Wn : Int)) := by omega
          go_wp2_with (first
            | (go_at_call 6; refine hge2.mono ?_; rintro e V3 ⟨rfl, hb⟩; replace H0 := Hid.mk' hb; have x0 := (HQ.out V3 hb).1; have x1 := (HQ.out V3 hb).2; have hwy := HWY.out V3 hb; clear hge2 hb)
            | (go_at_call 7; refine hwy.mono ?_; rintro e V4 ⟨rfl, hb⟩; replace H0 := Hid.mk' (H0.out.trans (hb.mono H0.out.size)); have x0 := (HQ.out V4 H0.out).1; have x1 := (HQ.out V4 H0.out).2; have hpr := HPR.out HSP.out V4 H0.out; clear hwy hb)
            | (go_at_call 8; refine hpr.mono ?_; rintro e V6 ⟨u, rfl, hu, hb⟩; replace H0 := Hid.mk' hb; have hsg := HSO.out V6 u hb hu; clear hu hb hpr)
            | (go_at_call 9; refine hsg.mono ?_; rintro e V7 ⟨a7, c7, rfl, ht7, hb⟩; have H7 := Hid.mk' (And.intro ht7 hb); have HX7 : Hid (Below V7.heap.size V7 V7) := Below.refl _ _; have x0 := (HQ.out V7 hb).1; have x1 := (HQ.out V7 hb).2; have hha := HHA.out V7 hb; clear ht7 hb hsg)
            | (go_at_call 11; refine hha.mono ?_; rintro e V8 ⟨rfl, hb⟩; replace HX7 := Hid.mk' hb; replace H0 := Hid.mk' (H7.out.2.trans (hb.mono H7.out.2.size)); have x0 := (HQ.out V8 H0.out).1; have x1 := (HQ.out V8 H0.out).2; have hwy2 := HWY.out V8 H0.out; clear hha hb)
            | (go_at_call 7; refine hwy2.mono ?_; rintro e V9 ⟨rfl, hb⟩; replace HX7 := Hid.mk' (HX7.out.trans (hb.mono HX7.out.size)); have H9 : Hid (Below W0.heap.size W0 V9) := H7.out.2.trans (HX7.out.mono H7.out.2.size); have x0 := (HQ.out V9 H9.out).1; have x1 := (HQ.out V9 H9.out).2; have hso := HSG.out (by omega) V9 H9.out; clear hwy2 hb)
            | (go_at_call 12; refine hso.mono ?_; rintro e VA ⟨aa, ca, rfl, hta, hb⟩; have HA := Hid.mk' (And.intro hta hb); clear hso hta hb)
            | fail)
          have HVA : Hid (Below W0.heap.size W0 VA) := H9.out.trans (HA.out.2.mono H9.out.size)
          have HT7 : Hid (Tabs VA (.slice a7 M c7) L) := H7.out.1.below (HX7.out.trans (HA.out.2.mono HX7.out.size))
          go_loopw [11] (fun p W => ∃ i : Nat, i ≤ M ∧ p = .int .i64 (i : Int) ∧ Hid (Below VA.heap.size VA W)) (fun p _ => M - (intOf p).toNat)
          case atStart => exact ⟨0, by omega, rfl, Below.refl _ _⟩
          case round =>
            obtain ⟨i, hi, rfl, HI⟩ := hrel
            by_cases hiM : i < M
            · obtain ⟨us1, ⟨b1, d1, e1, -, hx1⟩, hl1, hr1⟩ := HT7.out.below HI.out
              obtain ⟨us2, ⟨b2, d2, e2, -, hx2⟩, hl2, hr2⟩ := HA.out.1.below HI.out
              have hu1 : us1.length = M := by rw [hl1, HML.out]
              have hu2 : us2.length = M := by rw [hl2, HML.out]
              rw [hu1] at e1
              rw [hu2] at e2
              cases e1
              cases e2
              obtain ⟨p1, o1, rfl, -, hc1⟩ := hx1 (by omega)
              obtain ⟨p2, o2, rfl, -, hc2⟩ := hx2 (by omega)
              obtain ⟨T, hT⟩ : ∃ T, L[i]? = some T := ⟨_, List.getElem?_eq_getElem (by rw [HML.out]; exact hiM)⟩
              obtain ⟨v1, hv1⟩ : ∃ v1, us1[i]? = some v1 := ⟨_, List.getElem?_eq_getElem (by rw [hu1]; exact hiM)⟩
              obtain ⟨v2, hv2⟩ : ∃ v2, us2[i]? = some v2 := ⟨_, List.getElem?_eq_getElem (by rw [hu2]; exact hiM)⟩
              have k1 := hc1 i v1 hv1
              have k2 := hc2 i v2 hv2
              have r1 := hr1 i v1 T hv1 hT
              have r2 := hr2 i v2 T hv2 hT
              have hsz := HSZ.out T (List.mem_of_getElem? hT)
              have hsl : ∀ q, Calls Tryd.prog 13 #[v1, v2] (wr.drewN q) fun e w' => e = .returned (.bool true) ∧ ∃ m, w' = (wr.drewN q).drewN m := fun q => sameLists_ v1 v2 T _ (r1.below (below_drewN wr q)) (r2.below (below_drewN wr q)) hsz.1 hsz.2
              have z3 : (0 : Int) ≤ (i : Int) := by omega
              have z4 : (i : Int) < (M : Int) := by omega
              clear hx1 hx2 hr1 hr2 hc1 hc2 hT hv1 hv2 r1 r2 hsz hu1 hu2 hl1 hl2
              go_wp2_with fail
              go_quiet (refine Calls.quiet_of (hsl _))
              go_wp2
              go_roundw
              case rel => exact ⟨i + 1, by omega, by go_num, HI.out.trans ((below_drewN _ _).mono HI.out.size)⟩
              case measure => simp [intOf]; omega
            · obtain rfl : M = i := by omega
              go_wp2_with fail
              go_ret
              exact ⟨rfl, HBB.out _ (HVA.out.trans (HI.out.mono HVA.out.size))⟩
      · have y3 : ((lr : Int) == 0) = false := beq_false_of_ne (by omega)
        by_cases hbig : 1500 < Wn
        · have y4 : (1500 : Int) < (Wn : Int) := by omega
          go_wp2_with (first
            | (go_at_call 6; refine hge2.mono ?_; rintro e V3 ⟨rfl, hb⟩; replace H0 := Hid.mk' hb; have x0 := (HQ.out V3 hb).1; have x1 := (HQ.out V3 hb).2; have hwy := HWY.out V3 hb; clear hge2 hb)
            | (go_at_call 7; refine hwy.mono ?_; rintro e V4 ⟨rfl, hb⟩; replace H0 := Hid.mk' (H0.out.trans (hb.mono H0.out.size)); have x0 := (HQ.out V4 H0.out).1; have x1 := (HQ.out V4 H0.out).2; have hpr := HPR.out HSP.out V4 H0.out; clear hwy hb)
            | (go_at_call 8; refine hpr.mono ?_; rintro e V6 ⟨u, rfl, hu, hb⟩; replace H0 := Hid.mk' hb; have hsg := HSO.out V6 u hb hu; clear hu hb hpr)
            | (go_at_call 9; refine hsg.mono ?_; rintro e V7 ⟨a7, c7, rfl, ht7, hb⟩; have H7 := Hid.mk' (And.intro ht7 hb); have HX7 : Hid (Below V7.heap.size V7 V7) := Below.refl _ _; have x0 := (HQ.out V7 hb).1; have x1 := (HQ.out V7 hb).2; have hwy2 := HWY.out V7 hb; clear ht7 hb hsg)
            | (go_at_call 7; refine hwy2.mono ?_; rintro e V9 ⟨rfl, hb⟩; replace HX7 := Hid.mk' (HX7.out.trans (hb.mono HX7.out.size)); have H9 : Hid (Below W0.heap.size W0 V9) := H7.out.2.trans (HX7.out.mono H7.out.2.size); clear hwy2 hb)
            | fail)
          go_ret
          exact ⟨rfl, HBB.out _ H9.out⟩
        · have y4 : ¬ ((1500 : Int) < (Wn : Int)) := by omega
          go_wp2_with (first
            | (go_at_call 6; refine hge2.mono ?_; rintro e V3 ⟨rfl, hb⟩; replace H0 := Hid.mk' hb; have x0 := (HQ.out V3 hb).1; have x1 := (HQ.out V3 hb).2; have hwy := HWY.out V3 hb; clear hge2 hb)
            | (go_at_call 7; refine hwy.mono ?_; rintro e V4 ⟨rfl, hb⟩; replace H0 := Hid.mk' (H0.out.trans (hb.mono H0.out.size)); have x0 := (HQ.out V4 H0.out).1; have x1 := (HQ.out V4 H0.out).2; have hpr := HPR.out HSP.out V4 H0.out; clear hwy hb)
            | (go_at_call 8; refine hpr.mono ?_; rintro e V6 ⟨u, rfl, hu, hb⟩; replace H0 := Hid.mk' hb; have hsg := HSO.out V6 u hb hu; clear hu hb hpr)
            | (go_at_call 9; refine hsg.mono ?_; rintro e V7 ⟨a7, c7, rfl, ht7, hb⟩; have H7 := Hid.mk' (And.intro ht7 hb); have HX7 : Hid (Below V7.heap.size V7 V7) := Below.refl _ _; have x0 := (HQ.out V7 hb).1; have x1 := (HQ.out V7 hb).2; have hwy2 := HWY.out V7 hb; clear ht7 hb hsg)
            | (go_at_call 7; refine hwy2.mono ?_; rintro e V9 ⟨rfl, hb⟩; replace HX7 := Hid.mk' (HX7.out.trans (hb.mono HX7.out.size)); have H9 : Hid (Below W0.heap.size W0 V9) := H7.out.2.trans (HX7.out.mono H7.out.2.size); have x0 := (HQ.out V9 H9.out).1; have x1 := (HQ.out V9 H9.out).2; have hso := HSG.out (by omega) V9 H9.out; clear hwy2 hb)
            | (go_at_call 12; refine hso.mono ?_; rintro e VA ⟨aa, ca, rfl, hta, hb⟩; have HA := Hid.mk' (And.intro hta hb); clear hso hta hb)
            | fail)
          have HVA : Hid (Below W0.heap.size W0 VA) := H9.out.trans (HA.out.2.mono H9.out.size)
          have HT7 : Hid (Tabs VA (.slice a7 M c7) L) := H7.out.1.below (HX7.out.trans (HA.out.2.mono HX7.out.size))
          go_loopw [11] (fun p W => ∃ i : Nat, i ≤ M ∧ p = .int .i64 (i : Int) ∧ Hid (Below VA.heap.size VA W)) (fun p _ => M - (intOf p).toNat)
          case atStart => exact ⟨0, by omega, rfl, Below.refl _ _⟩
          case round =>
            obtain ⟨i, hi, rfl, HI⟩ := hrel
            by_cases hiM : i < M
            · obtain ⟨us1, ⟨b1, d1, e1, -, hx1⟩, hl1, hr1⟩ := HT7.out.below HI.out
              obtain ⟨us2, ⟨b2, d2, e2, -, hx2⟩, hl2, hr2⟩ := HA.out.1.below HI.out
              have hu1 : us1.length = M := by rw [hl1, HML.out]
              have hu2 : us2.length = M := by rw [hl2, HML.out]
              rw [hu1] at e1
              rw [hu2] at e2
              cases e1
              cases e2
              obtain ⟨p1, o1, rfl, -, hc1⟩ := hx1 (by omega)
              obtain ⟨p2, o2, rfl, -, hc2⟩ := hx2 (by omega)
              obtain ⟨T, hT⟩ : ∃ T, L[i]? = some T := ⟨_, List.getElem?_eq_getElem (by rw [HML.out]; exact hiM)⟩
              obtain ⟨v1, hv1⟩ : ∃ v1, us1[i]? = some v1 := ⟨_, List.getElem?_eq_getElem (by rw [hu1]; exact hiM)⟩
              obtain ⟨v2, hv2⟩ : ∃ v2, us2[i]? = some v2 := ⟨_, List.getElem?_eq_getElem (by rw [hu2]; exact hiM)⟩
              have k1 := hc1 i v1 hv1
              have k2 := hc2 i v2 hv2
              have r1 := hr1 i v1 T hv1 hT
              have r2 := hr2 i v2 T hv2 hT
              have hsz := HSZ.out T (List.mem_of_getElem? hT)
              have hsl : ∀ q, Calls Tryd.prog 13 #[v1, v2] (wr.drewN q) fun e w' => e = .returned (.bool true) ∧ ∃ m, w' = (wr.drewN q).drewN m := fun q => sameLists_ v1 v2 T _ (r1.below (below_drewN wr q)) (r2.below (below_drewN wr q)) hsz.1 hsz.2
              have z3 : (0 : Int) ≤ (i : Int) := by omega
              have z4 : (i : Int) < (M : Int) := by omega
              clear hx1 hx2 hr1 hr2 hc1 hc2 hT hv1 hv2 r1 r2 hsz hu1 hu2 hl1 hl2
              go_wp2_with fail
              go_quiet (refine Calls.quiet_of (hsl _))
              go_wp2
              go_roundw
              case rel => exact ⟨i + 1, by omega, by go_num, HI.out.trans ((below_drewN _ _).mono HI.out.size)⟩
              case measure => simp [intOf]; omega
            · obtain rfl : M = i := by omega
              go_wp2_with fail
              go_ret
              exact ⟨rfl, HBB.out _ (HVA.out.trans (HI.out.mono HVA.out.size))⟩

end Go.Proofs.YtmaopnbnbiediaaDoor
