/- LabelSperner answers true of labels that may stand. -/
import Derived.Test.YtcciinaeplppiaaDoorLpLaw0
import Derived.Deep.DeepCutAuto
namespace Go.Proofs.YtcciinaeplppiaaDoor
open Go.RowKit Go.Sort

set_option maxRecDepth 100000 in
set_option maxHeartbeats 4000000 in
theorem sperner_good {a : Nat → Addr} {sx : Nat → ByteArray} {ls : List Int} (n : Nat) (vl : Value) (w : World) (hE : Errs a sx w) (hl : Ints w vl ls) (h9 : ls.length ≤ 200) (h1 : 1 ≤ n) (h2 : n ≤ 12) (hg : GoodLab (n : Int) ls) :
    Calls Tryd.prog 3 #[.int .i64 (n : Int), vl] w fun e w' => e = .returned (.bool true) ∧ Below w.heap.size w w' := by
  have hls : ls.length = (spotsL n).length := by have := hg.2.1; rw [Int.toNat_natCast] at this; exact this.symm
  obtain ⟨FL, hFL⟩ : ∃ FL, fullL ls (smallL n) = FL := ⟨_, rfl⟩
  obtain ⟨WL, hWL⟩ : ∃ WL, walkL n ls = WL := ⟨_, rfl⟩
  have HLN : Hid (FL.length ≤ 1000000 ∧ WL.length ≤ 1000000) := by
    rw [← hFL, ← hWL]
    exact ⟨full_few h2 ls, walk_few h2 ls⟩
  obtain ⟨j0, hj0, hy0, hy1, hy2⟩ := info_parts Tryd.infoInt
  have hco := corner_ w
  have HE : Hid (∀ V, Below w.heap.size w V → Errs a sx V) := fun V hV => hE.below hV
  have HI : Hid (∀ V, Below w.heap.size w V → Ints V vl ls) := fun V hV => hl.below hV
  have HLF : Hid (∀ V, Below w.heap.size w V → Calls Tryd.prog 12 #[.int .i64 (n : Int), vl] V fun e w' => e = .returned (.agg #[.int .i64 0, .int .i64 (-1)]) ∧ Below V.heap.size V w') := fun V hV => fault_good vl V (hl.below hV) (by omega) hg
  have HCK : Hid (∀ V u, Below w.heap.size w V → Ints V u ls → Calls Tryd.prog 13 #[.int .i64 (n : Int), u] V fun e w' => e = .returned .nilIface ∧ Below V.heap.size V w') := fun V u hV hu => check_good u V (hE.below hV) hu (by omega) hg
  have HFU : Hid (∀ V u, Below w.heap.size w V → Ints V u ls → Calls Tryd.prog 14 #[.int .i64 (n : Int), u] V fun e w' => ∃ v, e = .returned (.tuple #[v, .nilIface]) ∧ Ints w' v FL ∧ Below V.heap.size V w') := fun V u hV hu => by rw [← hFL]; exact fullX_ok n u V (hE.below hV) hu (by omega) hg
  have HWA : Hid (∀ V u, Below w.heap.size w V → Ints V u ls → Calls Tryd.prog 15 #[.int .i64 (n : Int), u] V fun e w' => ∃ v, e = .returned (.tuple #[v, .nilIface]) ∧ Ints w' v WL ∧ Below V.heap.size V w') := fun V u hV hu => by rw [← hWL]; exact walkX_ok n u V (hE.below hV) hu (by omega) hg
  have HRF : Hid (∀ V, Below w.heap.size w V → Calls Tryd.prog 18 #[.int .i64 (n : Int), vl] V fun e w' => ∃ v, e = .returned v ∧ Ints w' v FL ∧ Below V.heap.size V w') := fun V hV => by rw [← hFL]; exact fullOf_ n h2 vl V (hl.below hV) hls
  have HRW : Hid (∀ V, Below w.heap.size w V → Calls Tryd.prog 19 #[.int .i64 (n : Int), vl] V fun e w' => ∃ v, e = .returned v ∧ Ints w' v WL ∧ Below V.heap.size V w') := fun V hV => by rw [← hWL]; exact walkOf_ h2 vl V (hl.below hV) hls (good_lab hg)
  have HPT : Hid (∀ V, Below w.heap.size w V → Calls Tryd.prog 7 #[.int .i64 (n : Int)] V fun e w' => e = .returned (.tuple #[.int .i64 (ptsN n : Int), .nilIface]) ∧ w' = V) := fun V hV => pointsN_ok n h1 h2 V
  have HSX : Hid (∀ V, Below w.heap.size w V → Calls Tryd.prog 8 #[.int .i64 (n : Int)] V fun e w' => ∃ v c, e = .returned (.tuple #[.slice v (smallL n).length c, .nilIface]) ∧ TriRd w' (.slice v (smallL n).length c) (triesL n) ∧ Below w.heap.size w w') := fun V hV => (smallX_ok n h1 h2 V).mono fun e w' h => by
    obtain ⟨v, k1, k2, k3⟩ := h
    obtain ⟨a1, c1, rfl⟩ := k2.form
    rw [tries_len] at k1 k2
    exact ⟨a1, c1, k1, k2.reads, hV.trans (k3.mono hV.size)⟩
  have HSM : Hid (∀ V, Below w.heap.size w V → Calls Tryd.prog 10 #[.int .i64 (n : Int)] V fun e w' => ∃ v c, e = .returned (.slice v (smallL n).length c) ∧ Rows w' (.slice v (smallL n).length c) (smallL n) ∧ Below V.heap.size V w') := fun V hV => (smallOf_ n h2 V).mono fun e w' h => by
    obtain ⟨v, k1, k2, k3⟩ := h
    obtain ⟨a1, c1, rfl⟩ := own_slice1 k2
    exact ⟨a1, c1, k1, k2.rows, k3⟩
  have HSO : Hid (∀ V, Below w.heap.size w V → Calls Tryd.prog 11 #[.int .i64 (n : Int)] V fun e w' => ∃ v c, e = .returned (.slice v (ptsN n) c) ∧ Below V.heap.size V w') := fun V hV => (spots_ n h2 V).mono fun e w' h => by
    obtain ⟨v, k1, k2, k3⟩ := h
    obtain ⟨a1, c1, rfl⟩ := k2.form
    rw [(spots_few n h2).1] at k1
    exact ⟨a1, c1, k1, k3⟩
  have HAT : Hid (∀ k, k < (smallL n).length → ∃ x y z : Nat, (smallL n)[k]? = some [(x : Int), (y : Int), (z : Int)] ∧ (triesL n)[k]? = some ((x : Int), (y : Int), (z : Int))) := fun k hk => by
    obtain ⟨r, hr⟩ : ∃ r, (smallL n)[k]? = some r := ⟨_, List.getElem?_eq_getElem hk⟩
    obtain ⟨x, y, z, rfl, -⟩ := smallL_tri (List.mem_of_getElem? hr)
    exact ⟨x, y, z, hr, tries_at hr⟩
  have hTf := smallL_few h2
  have hpf := (spots_few n h2).2
  obtain ⟨L, hL⟩ : ∃ L, (smallL n).length = L := ⟨_, rfl⟩
  have HL := Hid.mk' hL
  obtain ⟨P, hP⟩ : ∃ P, ptsN n = P := ⟨_, rfl⟩
  rw [hL] at HSX HSM HAT hTf
  rw [hP] at HPT HSO hpf
  obtain ⟨al, cl, rfl, -, -⟩ := hl.open_
  obtain ⟨m, hm⟩ : ∃ m, ls.length = m := ⟨_, rfl⟩
  have HM := Hid.mk' hm
  rw [hm] at h9 HI HLF HRF HRW ⊢
  have i1 : (1 : Int) ≤ (n : Int) := by omega
  have i2 : (n : Int) ≤ 12 := by omega
  clear hE hl hm hg hL hP
  go_enter Tryd.func3, Tryd.ntmps3
  go_upto_region 6 with (first
    | (go_at_call 6; refine hco.mono ?_; rintro e V1 ⟨rfl, hb⟩; have hpt := HPT.out V1 hb; have hsx := HSX.out V1 hb; clear hb hco)
    | (go_at_call 7; refine hpt.mono ?_; rintro e V2 ⟨rfl, hv⟩; have hv2 := hv; subst hv2; clear hpt)
    | (go_at_call 8; refine hsx.mono ?_; rintro e V3 ⟨sa, sc, rfl, hr, hb⟩; have H3 := Hid.mk' (And.intro hr hb); clear hr hb hsx)
    | fail)
  have hsm := HSM.out V3 H3.out.2
  go_upto_region 12 with (first
    | (go_at_call 10; refine hsm.mono ?_; rintro e V4 ⟨ra, rc, rfl, hr, hb⟩; have H4 : Hid (TriRd V4 (.slice sa L sc) (triesL n) ∧ Rows V4 (.slice ra L rc) (smallL n) ∧ Below w.heap.size w V4) := ⟨H3.out.1.below hb, hr, H3.out.2.trans (hb.mono H3.out.2.size)⟩; have hso := HSO.out V4 H4.out.2.2; clear hr hb hsm)
    | (go_at_call 11; refine hso.mono ?_; rintro e V5 ⟨pa, pc, rfl, hb⟩; have H5 : Hid (TriRd V5 (.slice sa L sc) (triesL n) ∧ Rows V5 (.slice ra L rc) (smallL n) ∧ Below w.heap.size w V5) := ⟨H4.out.1.below hb, H4.out.2.1.below hb, H4.out.2.2.trans (hb.mono H4.out.2.2.size)⟩; clear hb hso)
    | fail)
  go_wp2_with fail
  go_loopw [11] (fun p W => ∃ k : Nat, k ≤ L ∧ p = .int .i64 (k : Int) ∧ Hid (Below V5.heap.size V5 W)) (fun p _ => L - (intOf p).toNat)
  case atStart => exact ⟨0, by omega, rfl, Below.refl _ _⟩
  case round =>
    obtain ⟨k, hk, rfl, HK5⟩ := hrel
    by_cases hkL : k < L
    · obtain ⟨x, y, z, hs1, hs2⟩ := HAT.out k hkL
      obtain ⟨a1, c1, ea, hx⟩ := H5.out.1.below HK5.out
      rw [tries_len, HL.out] at ea hx
      cases ea
      obtain ⟨g, rfl, hcell⟩ := hx (by omega)
      obtain ⟨d0, d1, d2⟩ := hcell k _ hs2
      obtain ⟨a2, c2, ea2, -, hx2⟩ := (H5.out.2.1.below HK5.out).open_
      rw [HL.out] at ea2 hx2
      cases ea2
      obtain ⟨bb, off, rfl, -, -, hcell2⟩ := hx2 (by omega)
      obtain ⟨a3, c3, ck, hi3⟩ := hcell2 k hkL
      rw [hs1, Option.getD_some] at ck hi3
      obtain ⟨a4, c4, ea4, -, hx4⟩ := hi3.open_
      cases ea4
      obtain ⟨b4, o4, rfl, -, -, hc4⟩ := hx4 (by simp)
      have r0 := hc4 0 (by simp)
      have r1 := hc4 1 (by simp)
      have r2 := hc4 2 (by simp)
      simp only [List.getElem?_cons_zero, List.getElem?_cons_succ, Option.getD_some, Nat.add_zero] at r0 r1 r2
      rw [show ([(x : Int), (y : Int), (z : Int)] : List Int).length = 3 from rfl] at ck
      dsimp only at d0 d1 d2
      have y0 : (0 : Int) ≤ (k : Int) := by omega
      have y1 : (k : Int) < (L : Int) := by omega
      have HQ5 : Hid (∀ q, Below V5.heap.size V5 (wr.drewN q)) := fun q => HK5.out.trans ((drewN_below wr q).mono HK5.out.size)
      clear hs1 hs2 hx hcell hx2 hcell2 hi3 hx4 hc4
      go_upto_region 15 with fail
      go_quiet (fail)
      go_wp2_with fail
      go_roundw
      case rel => exact ⟨k + 1, by omega, by go_num, HQ5.out _⟩
      case measure => simp [intOf]; omega
    · obtain ⟨W5, hW5⟩ : ∃ W, W = wr := ⟨_, rfl⟩
      subst hW5
      have HB5 : Hid (Below w.heap.size w W5) := H5.out.2.2.trans (HK5.out.mono H5.out.2.2.size)
      clear HAT HPT HSX HSM HSO H3 H4 H5 HK5
      have hlf := HLF.out W5 HB5.out
      go_upto_region 18 with (first
        | (go_at_call 12; refine hlf.mono ?_; rintro e V6 ⟨rfl, hb⟩; have H6 : Hid (True ∧ True ∧ Below w.heap.size w V6) := ⟨trivial, trivial, HB5.out.trans (hb.mono HB5.out.size)⟩; clear hb hlf)
        | fail)
      obtain ⟨k0, k1, hB7⟩ := box2 V6 (.int .i64 0) (.int .i64 (-1)) 38
      obtain ⟨W7, hW7⟩ : ∃ W7, V6.alloc (.cells #[.int .i64 0, .int .i64 (-1)] 38) = W7 := ⟨_, rfl⟩
      rw [hW7] at k0 k1 hB7 ⊢
      obtain ⟨fb, hfb⟩ : ∃ b, V6.heap.size = b := ⟨_, rfl⟩
      rw [hfb] at k0 k1 ⊢
      have HB7 : Hid (Below w.heap.size w W7) := H6.out.2.2.trans (hB7.mono H6.out.2.2.size)
      have HK : Hid (∀ V, Below W7.heap.size W7 V → V.cell? ⟨fb, 0, none⟩ = some (.int .i64 0) ∧ V.cell? ⟨fb, 1, none⟩ = some (.int .i64 (-1))) := fun V hV => ⟨(hV.cell (p := ⟨fb, 0, none⟩) (cell_lt k0)).trans k0, (hV.cell (p := ⟨fb, 1, none⟩) (cell_lt k1)).trans k1⟩
      have hic1 : Ints (W7.alloc (.cells #[] 3)) (.slice al m cl) ls := HI.out _ (HB7.out.alloc HB7.out.size _)
      clear hW7 hfb hB7 k0 k1
      go_upto_region 19 with (first
        | (at_builtin; refine wpList_append_slice rfl (.tmp 131) (.tmp 132) 22 rfl W7.heap.size 3 j0 (.int .i64 0) 8 Tryd.underlying22 hj0 hy0 hy1 hy2 rfl _ _ _ rfl (own_empty3 W7 3 W7.heap.size (Nat.le_refl _)) _ (ls.map (Value.int .i64)) rfl hic1 (ints_one ls) (by rw [List.length_map, HM.out]; omega) (by unfold maxLen; rw [List.length_map, HM.out]; omega) (by simp) ?_; intro v1c V1c hown hg hl5; have HC1 : Hid (Ints V1c v1c ls ∧ Below w.heap.size w V1c) := ⟨slice_of_owns hown (fun _ _ _ => trivial), (HB7.out.alloc HB7.out.size _).grown hg (Nat.le_trans HB7.out.size (by simp)) (fun b e => by have := (World.ownsRow.lt (own_empty3 W7 3 W7.heap.size (Nat.le_refl _)) b e).1; have := HB7.out.size; omega)⟩; obtain ⟨ca1, cc1, hcv⟩ := own_sl hown; rw [show 0 + (ls.map (Value.int .i64)).length = m by rw [List.length_map, HM.out, Nat.zero_add]] at hcv; subst hcv; have HV1 : Hid (Below W7.heap.size W7 V1c) := ((Below.refl _ W7).alloc (Nat.le_refl _) _).grown hg (by simp) (fun b e => (World.ownsRow.lt (own_empty3 W7 3 W7.heap.size (Nat.le_refl _)) b e).1); clear hown hg hl5)
        | (go_at_call 13; refine (HCK.out V1c (.slice ca1 m cc1) HC1.out.2 HC1.out.1).mono ?_; rintro e V1d ⟨rfl, hb⟩; have he := trivial; have HB1d : Hid (Below w.heap.size w V1d) := HC1.out.2.trans (hb.mono HC1.out.2.size); have HX1 := Hid.mk' he; have HS1 : Hid (Below W7.heap.size W7 V1d) := HV1.out.trans (hb.mono HV1.out.size); have hic2 : Ints (V1d.alloc (.cells #[] 3)) (.slice al m cl) ls := HI.out _ (HB1d.out.alloc HB1d.out.size _); clear hb hic1 he)
        | fail)
      go_upto_region 20 with (first
        | (at_builtin; refine wpList_append_slice rfl (.tmp 137) (.tmp 138) 22 rfl V1d.heap.size 3 j0 (.int .i64 0) 8 Tryd.underlying22 hj0 hy0 hy1 hy2 rfl _ _ _ rfl (own_empty3 V1d 3 V1d.heap.size (Nat.le_refl _)) _ (ls.map (Value.int .i64)) rfl hic2 (ints_one ls) (by rw [List.length_map, HM.out]; omega) (by unfold maxLen; rw [List.length_map, HM.out]; omega) (by simp) ?_; intro v2c V2c hown hg hl5; have HC2 : Hid (Ints V2c v2c ls ∧ Below w.heap.size w V2c) := ⟨slice_of_owns hown (fun _ _ _ => trivial), (HB1d.out.alloc HB1d.out.size _).grown hg (Nat.le_trans HB1d.out.size (by simp)) (fun b e => by have := (World.ownsRow.lt (own_empty3 V1d 3 V1d.heap.size (Nat.le_refl _)) b e).1; have := HB1d.out.size; omega)⟩; obtain ⟨ca2, cc2, hcv⟩ := own_sl hown; rw [show 0 + (ls.map (Value.int .i64)).length = m by rw [List.length_map, HM.out, Nat.zero_add]] at hcv; subst hcv; have HV2 : Hid (Below V1d.heap.size V1d V2c) := ((Below.refl _ V1d).alloc (Nat.le_refl _) _).grown hg (by simp) (fun b e => (World.ownsRow.lt (own_empty3 V1d 3 V1d.heap.size (Nat.le_refl _)) b e).1); clear hown hg hl5)
        | (go_at_call 14; refine (HFU.out V2c (.slice ca2 m cc2) HC2.out.2 HC2.out.1).mono ?_; rintro e V2d ⟨vr2, rfl, he, hb⟩; obtain ⟨ar2, br2, hvr, -, -⟩ := he.open_; subst hvr; have HB2d : Hid (Below w.heap.size w V2d) := HC2.out.2.trans (hb.mono HC2.out.2.size); have HX2 := Hid.mk' he; have HS2 : Hid (Below V1d.heap.size V1d V2d) := HV2.out.trans (hb.mono HV2.out.size); have hic3 : Ints (V2d.alloc (.cells #[] 3)) (.slice al m cl) ls := HI.out _ (HB2d.out.alloc HB2d.out.size _); clear hb hic2 he)
        | fail)
      go_upto_region 21 with (first
        | (at_builtin; refine wpList_append_slice rfl (.tmp 145) (.tmp 146) 22 rfl V2d.heap.size 3 j0 (.int .i64 0) 8 Tryd.underlying22 hj0 hy0 hy1 hy2 rfl _ _ _ rfl (own_empty3 V2d 3 V2d.heap.size (Nat.le_refl _)) _ (ls.map (Value.int .i64)) rfl hic3 (ints_one ls) (by rw [List.length_map, HM.out]; omega) (by unfold maxLen; rw [List.length_map, HM.out]; omega) (by simp) ?_; intro v3c V3c hown hg hl5; have HC3 : Hid (Ints V3c v3c ls ∧ Below w.heap.size w V3c) := ⟨slice_of_owns hown (fun _ _ _ => trivial), (HB2d.out.alloc HB2d.out.size _).grown hg (Nat.le_trans HB2d.out.size (by simp)) (fun b e => by have := (World.ownsRow.lt (own_empty3 V2d 3 V2d.heap.size (Nat.le_refl _)) b e).1; have := HB2d.out.size; omega)⟩; obtain ⟨ca3, cc3, hcv⟩ := own_sl hown; rw [show 0 + (ls.map (Value.int .i64)).length = m by rw [List.length_map, HM.out, Nat.zero_add]] at hcv; subst hcv; have HV3 : Hid (Below V2d.heap.size V2d V3c) := ((Below.refl _ V2d).alloc (Nat.le_refl _) _).grown hg (by simp) (fun b e => (World.ownsRow.lt (own_empty3 V2d 3 V2d.heap.size (Nat.le_refl _)) b e).1); clear hown hg hl5)
        | (go_at_call 15; refine (HWA.out V3c (.slice ca3 m cc3) HC3.out.2 HC3.out.1).mono ?_; rintro e V3d ⟨vr3, rfl, he, hb⟩; obtain ⟨ar3, br3, hvr, -, -⟩ := he.open_; subst hvr; have HB3d : Hid (Below w.heap.size w V3d) := HC3.out.2.trans (hb.mono HC3.out.2.size); have HX3 := Hid.mk' he; have HS3 : Hid (Below V2d.heap.size V2d V3d) := HV3.out.trans (hb.mono HV3.out.size); have hic4 : Ints (V3d.alloc (.cells #[] 3)) (.slice al m cl) ls := HI.out _ (HB3d.out.alloc HB3d.out.size _); clear hb hic3 he)
        | fail)
      have HY2 : Hid (Ints V3d (.slice ar2 FL.length br2) FL) := SliceIn.below HX2.out HS3.out
      have HY3 : Hid (Ints V3d (.slice ar3 WL.length br3) WL) := HX3.out
      have HQ : Hid (∀ V, Below V3d.heap.size V3d V → V.cell? ⟨fb, 0, none⟩ = some (.int .i64 0) ∧ V.cell? ⟨fb, 1, none⟩ = some (.int .i64 (-1)) ∧ Below w.heap.size w V) := fun V hV => by
        have h1 := HS1.out.trans (HS2.out.mono HS1.out.size)
        have h2 := h1.trans (HS3.out.mono h1.size)
        have h3 := h2.trans (hV.mono h2.size)
        exact ⟨(HK.out V h3).1, (HK.out V h3).2, HB7.out.trans (h3.mono HB7.out.size)⟩
      have HFA : Hid (∀ V, Below V3d.heap.size V3d V → Calls Tryd.prog 16 #[.nilIface, .agg #[.int .i64 0, .int .i64 (-1)]] V fun e w' => e = .returned (.bool true) ∧ Below V3d.heap.size V3d w') := fun V hV => (faulted_nil (-1) V).mono fun e w' h => ⟨h.1, hV.trans (h.2.mono hV.size)⟩
      have HRF2 : Hid (∀ V, Below V3d.heap.size V3d V → Calls Tryd.prog 18 #[.int .i64 (n : Int), .slice al m cl] V fun e w' => ∃ v c, e = .returned (.slice v FL.length c) ∧ Ints w' (.slice v FL.length c) FL ∧ Below V3d.heap.size V3d w') := fun V hV => (HRF.out V (HQ.out V hV).2.2).mono fun e w' h => by
        obtain ⟨v, h1, h2, h3⟩ := h
        obtain ⟨a1, c1, rfl, -, -⟩ := h2.open_
        exact ⟨a1, c1, h1, h2, hV.trans (h3.mono hV.size)⟩
      have HRW2 : Hid (∀ V, Below V3d.heap.size V3d V → Calls Tryd.prog 19 #[.int .i64 (n : Int), .slice al m cl] V fun e w' => ∃ v c, e = .returned (.slice v WL.length c) ∧ Ints w' (.slice v WL.length c) WL ∧ Below V3d.heap.size V3d w') := fun V hV => (HRW.out V (HQ.out V hV).2.2).mono fun e w' h => by
        obtain ⟨v, h1, h2, h3⟩ := h
        obtain ⟨a1, c1, rfl, -, -⟩ := h2.open_
        exact ⟨a1, c1, h1, h2, hV.trans (h3.mono hV.size)⟩
      have HF : Hid (Below V3d.heap.size V3d V3d) := Below.refl _ _
      have k0 := (HQ.out V3d HF.out).1
      have k1 := (HQ.out V3d HF.out).2.1
      have HLL : Hid (FL.length ≤ 1000000 ∧ WL.length ≤ 1000000) := HLN.out
      obtain ⟨fl, hfl⟩ : ∃ l, FL.length = l := ⟨_, rfl⟩
      obtain ⟨wl, hwl⟩ : ∃ l, WL.length = l := ⟨_, rfl⟩
      rw [hfl] at HY2 HRF2 ⊢
      rw [hwl] at HY3 HRW2 ⊢
      clear HX1 HX2 HX3 HS1 HS2 HS3 HV1 HV2 HV3 hic4 HC1 HC2 HC3 HB1d HB2d HB3d HCK HFU HWA HLF HRF HRW hfl hwl
      go_wp2_with (first
        | (go_at_call 16; refine (HFA.out _ HF.out).mono ?_; rintro e Vf ⟨rfl, hb⟩; replace HF : Hid (Below V3d.heap.size V3d Vf) := hb; have k0 := (HQ.out Vf hb).1; have k1 := (HQ.out Vf hb).2.1; clear hb)
        | (go_at_call 18; refine (HRF2.out _ HF.out).mono ?_; rintro e Vg ⟨a8, c8, rfl, hi8, hb⟩; have hsame := same_ints _ _ FL FL Vg (SliceIn.below HY2.out hb) hi8 HLL.out.1; rw [decide_eq_true rfl] at hsame; have HG : Hid (∀ q, Below V3d.heap.size V3d (Vg.drewN q)) := fun q => hb.trans ((drewN_below Vg q).mono hb.size); clear hb hi8)
        | (go_at_call 19; refine (HRW2.out _ HF.out).mono ?_; rintro e Vg ⟨a8, c8, rfl, hi8, hb⟩; have hsame := same_ints _ _ WL WL Vg (SliceIn.below HY3.out hb) hi8 HLL.out.2; rw [decide_eq_true rfl] at hsame; have HG : Hid (∀ q, Below V3d.heap.size V3d (Vg.drewN q)) := fun q => hb.trans ((drewN_below Vg q).mono hb.size); clear hb hi8)
        | (go_at_call 17; refine hsame.mono ?_; rintro e Vh ⟨rfl, q9, hq9⟩; replace HF : Hid (Below V3d.heap.size V3d Vh) := (by rw [hq9]; exact HG.out q9); clear hq9 hsame HG)
        | fail)
      go_ret
      exact ⟨rfl, (HQ.out _ HF.out).2.2⟩

end Go.Proofs.YtcciinaeplppiaaDoor
