/- MorseChecks of a good gradient in a dimension that is none: a straight walk over what is handed in. MorseChecks of a good gradient whose sums of paths are small: a straight walk over what is handed in. -/
import Derived.Test.YtnnkmkhamipfiaaGreatDoorMorseCkB
namespace Go.Proofs.YtnnkmkhamipfiaaGreatDoor
open Go.RowKit Go.Sort

set_option maxRecDepth 100000 in
set_option maxHeartbeats 8000000 in
theorem ck_dim {l all L : List (List Int)} {ps : List Duo} (al ap : Option Addr) (n cl m cp : Nat) (d : Int) (w : World) (h60 : (m : Int) ≤ 60)
 (har : Calls Tryz.prog 5 #[] w fun e w' => e = .returned (.bool true) ∧ Below w.heap.size w w')
 (hli : ∀ V, Below w.heap.size w V → Calls Tryz.prog 6 #[.slice al n cl, .int .i64 60] V fun e w' => (∃ q : Bool, e = .returned (.bool q)) ∧ Below V.heap.size V w')
 {mates CR : List Int}
 (herr : ∀ V, Below w.heap.size w V → Calls Tryz.prog 7 #[.slice al n cl] V fun e w' => (e = .returned (.int .i64 0)) ∧ Below V.heap.size V w')
 (hcl : ∀ V, Below w.heap.size w V → Calls Tryz.prog 8 #[.slice al n cl] V fun e w' => (∃ u, e = .returned (.tuple #[u, .int .i64 0]) ∧ Rows w' u all) ∧ Below V.heap.size V w')
 (hnb : ∀ V u, Below w.heap.size w V → Rows V u all → Calls Tryz.prog 9 #[u] V fun e w' => (∃ v, e = .returned v ∧ Rows w' v L) ∧ Below V.heap.size V w')
 (hpt : ∀ V v, Below w.heap.size w V → Rows V v L → Calls Tryz.prog 10 #[v, .slice ap m cp] V fun e w' => (∃ u, e = .returned (.tuple #[u, .agg #[.int .i64 0, .int .i64 (-1)]]) ∧ Ints w' u mates) ∧ Below V.heap.size V w')
 (hcx : ∀ V, Below w.heap.size w V → Calls Tryz.prog 12 #[.slice al n cl] V fun e w' => (∃ v, e = .returned (.agg #[v]) ∧ Rows w' v l) ∧ Below V.heap.size V w')
 (hpa : ∀ V, Below w.heap.size w V → Calls Tryz.prog 13 #[.slice ap m cp] V fun e w' => (∃ u, e = .returned u ∧ DuoIn anyBlock w' u ps) ∧ Below V.heap.size V w')
 (hck : ∀ V v u, Below w.heap.size w V → Rows V v l → DuoIn anyBlock V u ps → Calls Tryz.prog 11 #[.agg #[v], u] V fun e w' => (e = .returned .nilIface) ∧ Below V.heap.size V w')
 (hcr : ∀ V v u, Below w.heap.size w V → Rows V v l → DuoIn anyBlock V u ps → Calls Tryz.prog 14 #[.agg #[v], u] V fun e w' => (∃ x, e = .returned (.tuple #[x, .nilIface]) ∧ Ints w' x CR) ∧ Below V.heap.size V w')
 (hfn : ∀ V, Calls Tryz.prog 16 #[.nilIface, .agg #[.int .i64 0, .int .i64 (-1)]] V fun e w' => (e = .returned (.bool true)) ∧ Below V.heap.size V w')
 {ev : Value} (hd : d < 0 ∨ 7 < d)
 (hbo : ∀ V v u, Below w.heap.size w V → Rows V v l → DuoIn anyBlock V u ps → Calls Tryz.prog 15 #[.agg #[v], u, .int .i64 d] V fun e w' => (e = .returned (.tuple #[.agg #[.int .i64 0, .int .i64 0, .slice none 0 0], ev])) ∧ Below V.heap.size V w')
 (hfe : ∀ V, Below w.heap.size w V → Calls Tryz.prog 16 #[ev, .agg #[.int .i64 2, .int .i64 (-1)]] V fun e w' => (e = .returned (.bool true)) ∧ Below V.heap.size V w')
    : Calls Tryz.prog 3 #[.slice al n cl, .slice ap m cp, .int .i64 d] w fun e w' => e = .returned (.bool true) ∧ Below w.heap.size w w' := by
  go_enter Tryz.func3, Tryz.ntmps3
  go_wp2_with fail
  refine har.mono ?_
  rintro e w1 ⟨rfl, hB1⟩
  have hl1 := hli w1 hB1
  have HB1 : Hid (Below w.heap.size w w1) := hB1
  clear har hli hB1
  go_wp2_with fail
  refine hl1.mono ?_
  clear hl1
  rintro e w2 ⟨⟨q, rfl⟩, hB2⟩
  have HB2 : Hid (Below w.heap.size w w2) := HB1.out.trans (hB2.mono HB1.out.size)
  clear hB2 HB1
  cases q with
  | false =>
    go_wp2_with fail
    go_ret
    exact ⟨rfl, HB2.out⟩
  | true =>
    have her := herr w2 HB2.out
    clear herr
    go_wp2_with fail
    refine her.mono ?_
    clear her
    rintro e w3 ⟨rfl, hB3⟩
    have HC : Hid (Below w.heap.size w w3) := HB2.out.trans (hB3.mono HB2.out.size)
    clear hB3 HB2
    go_upto_region 7 with fail
    have HF : Hid (FBox w3.heap.size (w3.alloc (.cells #[.int .i64 0, .int .i64 (-1)] 28)) 0 (-1)) := fbox_new w3 0 (-1) 28
    have hfb : w.heap.size ≤ w3.heap.size := HC.out.size
    replace HC : Hid (Below w.heap.size w (w3.alloc (.cells #[.int .i64 0, .int .i64 (-1)] 28))) := HC.out.alloc HC.out.size _
    obtain ⟨W6, hW6⟩ : ∃ W6, w3.alloc (.cells #[.int .i64 0, .int .i64 (-1)] 28) = W6 := ⟨_, rfl⟩
    obtain ⟨fb, hfbe⟩ : ∃ fb, w3.heap.size = fb := ⟨_, rfl⟩
    rw [hfbe] at HF hfb
    rw [hW6] at HC HF
    rw [hW6, hfbe]
    have HFB : Hid (w.heap.size ≤ fb) := hfb
    clear hW6 hfbe hfb
    go_upto_region 12 with (first
      | (go_at_call 8; refine (hcl _ HC.out).mono ?_; rintro e V ⟨⟨u, rfl, hs⟩, hV⟩; replace HC := Hid.mk' (HC.out.trans (hV.mono HC.out.size)); replace HF := Hid.mk' (HF.out.below hV); have HU : Hid (Rows V u all) := hs; obtain ⟨au, cu, rfl, -, -⟩ := hs.open_; clear hV)
      | (go_at_call 9; refine (hnb _ _ HC.out HU.out).mono ?_; rintro e V ⟨⟨u, rfl, hs⟩, hV⟩; replace HC := Hid.mk' (HC.out.trans (hV.mono HC.out.size)); replace HF := Hid.mk' (HF.out.below hV); have HN : Hid (Rows V u L) := hs; obtain ⟨aL, cL, rfl, -, -⟩ := hs.open_; clear hV HU hs)
      | fail)
    go_upto_region 13 with (first
      | (go_at_call 10; refine (hpt _ _ HC.out HN.out).mono ?_; rintro e V ⟨⟨uw, rfl, hs⟩, hV⟩; replace HC := Hid.mk' (HC.out.trans (hV.mono HC.out.size)); replace HF := Hid.mk' (HF.out.below hV); replace HN := Hid.mk' (HN.out.below hV); have f0 := HF.out.c0; have f1 := HF.out.c1; have ff := HF.out.froz 0; have fg := HF.out.froz 1; have HW : Hid (Ints V uw mates) := hs; obtain ⟨aw, cw, rfl, -, -⟩ := hs.open_; clear hV hs)
      | fail)
    have hst : (V.setCell ⟨fb, 0, none⟩ (.int .i64 0)).setCell ⟨fb, 1, none⟩ (.int .i64 (-1)) = V := HF.out.same
    rw [hst]
    clear hst hcl hnb hpt f0 f1 ff fg
    go_upto_region 14 with (first
      | (go_at_call 12; refine (hcx _ HC.out).mono ?_; rintro e V ⟨⟨v, rfl, hs⟩, hV⟩; replace HC := Hid.mk' (HC.out.trans (hV.mono HC.out.size)); replace HF := Hid.mk' (HF.out.below hV); replace HN := Hid.mk' (HN.out.below hV); replace HW := Hid.mk' (HW.out.below hV); have HR : Hid (Rows V v l) := hs; clear hV hs)
      | (go_at_call 13; refine (hpa _ HC.out).mono ?_; rintro e V ⟨⟨u, rfl, hs⟩, hV⟩; replace HC := Hid.mk' (HC.out.trans (hV.mono HC.out.size)); replace HF := Hid.mk' (HF.out.below hV); replace HN := Hid.mk' (HN.out.below hV); replace HW := Hid.mk' (HW.out.below hV); replace HR := Hid.mk' (HR.out.below hV); have HP : Hid (DuoIn anyBlock V u ps) := hs; clear hV hs)
      | (go_at_call 11; refine (hck _ _ _ HC.out HR.out HP.out).mono ?_; rintro e V ⟨rfl, hV⟩; replace HC := Hid.mk' (HC.out.trans (hV.mono HC.out.size)); replace HF := Hid.mk' (HF.out.below hV); replace HN := Hid.mk' (HN.out.below hV); replace HW := Hid.mk' (HW.out.below hV); clear hV HR HP)
      | fail)
    go_upto_region 15 with (first
      | (go_at_call 12; refine (hcx _ HC.out).mono ?_; rintro e V ⟨⟨v, rfl, hs⟩, hV⟩; replace HC := Hid.mk' (HC.out.trans (hV.mono HC.out.size)); replace HF := Hid.mk' (HF.out.below hV); replace HN := Hid.mk' (HN.out.below hV); replace HW := Hid.mk' (HW.out.below hV); have HR : Hid (Rows V v l) := hs; clear hV hs)
      | (go_at_call 13; refine (hpa _ HC.out).mono ?_; rintro e V ⟨⟨u, rfl, hs⟩, hV⟩; replace HC := Hid.mk' (HC.out.trans (hV.mono HC.out.size)); replace HF := Hid.mk' (HF.out.below hV); replace HN := Hid.mk' (HN.out.below hV); replace HW := Hid.mk' (HW.out.below hV); replace HR := Hid.mk' (HR.out.below hV); have HP : Hid (DuoIn anyBlock V u ps) := hs; clear hV hs)
      | (go_at_call 14; refine (hcr _ _ _ HC.out HR.out HP.out).mono ?_; rintro e V ⟨⟨x2, rfl, hx⟩, hV⟩; replace HC := Hid.mk' (HC.out.trans (hV.mono HC.out.size)); replace HF := Hid.mk' (HF.out.below hV); replace HN := Hid.mk' (HN.out.below hV); replace HW := Hid.mk' (HW.out.below hV); have HX : Hid (Ints V x2 CR) := hx; obtain ⟨ax, cx, rfl, -, -⟩ := hx.open_; clear hx; clear hV HR HP)
      | fail)
    go_upto_region 16 with (first
      | (go_at_call 12; refine (hcx _ HC.out).mono ?_; rintro e V ⟨⟨v, rfl, hs⟩, hV⟩; replace HC := Hid.mk' (HC.out.trans (hV.mono HC.out.size)); replace HF := Hid.mk' (HF.out.below hV); replace HN := Hid.mk' (HN.out.below hV); replace HW := Hid.mk' (HW.out.below hV); replace HX := Hid.mk' (HX.out.below hV); have HR : Hid (Rows V v l) := hs; clear hV hs)
      | (go_at_call 13; refine (hpa _ HC.out).mono ?_; rintro e V ⟨⟨u, rfl, hs⟩, hV⟩; replace HC := Hid.mk' (HC.out.trans (hV.mono HC.out.size)); replace HF := Hid.mk' (HF.out.below hV); replace HN := Hid.mk' (HN.out.below hV); replace HW := Hid.mk' (HW.out.below hV); replace HX := Hid.mk' (HX.out.below hV); replace HR := Hid.mk' (HR.out.below hV); have HP : Hid (DuoIn anyBlock V u ps) := hs; clear hV hs)
      | (go_at_call 15; refine (hbo _ _ _ HC.out HR.out HP.out).mono ?_; rintro e V ⟨rfl, hV⟩; replace HC := Hid.mk' (HC.out.trans (hV.mono HC.out.size)); replace HF := Hid.mk' (HF.out.below hV); replace HN := Hid.mk' (HN.out.below hV); replace HW := Hid.mk' (HW.out.below hV); replace HX := Hid.mk' (HX.out.below hV); clear hV HR HP)
      | fail)
    have HM : Hid (MatBox V.heap.size (V.alloc (.cells #[.int .i64 0, .int .i64 0, .slice none 0 0] 45)) 0 0 (.slice none 0 0)) := matBox_new V 0 0 (.slice none 0 0) 45
    have hV : Below V.heap.size V (V.alloc (.cells #[.int .i64 0, .int .i64 0, .slice none 0 0] 45)) := (Below.refl _ V).alloc (Nat.le_refl _) _
    replace HC := Hid.mk' (HC.out.trans (hV.mono HC.out.size))
    replace HF := Hid.mk' (HF.out.below hV)
    replace HN := Hid.mk' (HN.out.below hV)
    replace HW := Hid.mk' (HW.out.below hV)
    replace HX := Hid.mk' (HX.out.below hV)
    obtain ⟨W15, hW15⟩ : ∃ W15, V.alloc (.cells #[.int .i64 0, .int .i64 0, .slice none 0 0] 45) = W15 := ⟨_, rfl⟩
    obtain ⟨mb, hmb⟩ : ∃ mb, V.heap.size = mb := ⟨_, rfl⟩
    rw [hW15, hmb] at HM
    rw [hW15] at HC HF HN HW HX
    rw [hW15, hmb]
    clear hW15 hmb hV
    clear hcx hpa hck hcr hbo
    have f0 := HF.out.c0
    have f1 := HF.out.c1
    have f2 := HF.out.froz 0
    have f3 := HF.out.froz 1
    have k0 := HM.out.c0.1
    have k1 := HM.out.c1.1
    have k2 := HM.out.c2.1
    have HFM : Hid (fb ≠ mb) := fun e => HF.out.ne (e ▸ HM.out)
    rcases hd with hd | hd
    · skip
      go_upto_region 20 with (first
        | (go_at_call 16; refine (hfn _).mono ?_; rintro e V ⟨rfl, hV⟩; replace HC := Hid.mk' (HC.out.trans (hV.mono HC.out.size)); replace HF := Hid.mk' (HF.out.below hV); replace HN := Hid.mk' (HN.out.below hV); replace HW := Hid.mk' (HW.out.below hV); replace HX := Hid.mk' (HX.out.below hV); replace HM := Hid.mk' (HM.out.below hV); clear f0 f1 f2 f3 k0 k1 k2; have f0 := HF.out.c0; have f1 := HF.out.c1; have f2 := HF.out.froz 0; have f3 := HF.out.froz 1; have k0 := HM.out.c0.1; have k1 := HM.out.c1.1; have k2 := HM.out.c2.1; clear hV)
        | fail)
      have HF2 : Hid (FBox fb ((V.setCell ⟨fb, 0, none⟩ (.int .i64 2)).setCell ⟨fb, 1, none⟩ (.int .i64 (-1))) 2 (-1)) := HF.out.put 2 (-1)
      have HM2 : Hid (MatBox mb ((V.setCell ⟨fb, 0, none⟩ (.int .i64 2)).setCell ⟨fb, 1, none⟩ (.int .i64 (-1))) 0 0 (.slice none 0 0)) := (HM.out.other (HFM.out) 0 _).other HFM.out 1 _
      replace HC : Hid (Below w.heap.size w ((V.setCell ⟨fb, 0, none⟩ (.int .i64 2)).setCell ⟨fb, 1, none⟩ (.int .i64 (-1)))) := (HC.out.setCell (p := ⟨fb, 0, none⟩) HFB.out _).setCell (p := ⟨fb, 1, none⟩) HFB.out _
      clear HF HM f0 f1 f2 f3 k0 k1 k2 HN HW HX
      have HF := HF2
      have HM := HM2
      clear HF2 HM2
      obtain ⟨Z, hZ⟩ : ∃ Z, (V.setCell ⟨fb, 0, none⟩ (.int .i64 2)).setCell ⟨fb, 1, none⟩ (.int .i64 (-1)) = Z := ⟨_, rfl⟩
      rw [hZ] at HC HF HM ⊢
      clear hZ hfn
      have f0 := HF.out.c0
      have f1 := HF.out.c1
      have f2 := HF.out.froz 0
      have f3 := HF.out.froz 1
      have k0 := HM.out.c0.1
      have k1 := HM.out.c1.1
      have k2 := HM.out.c2.1
      go_wp2_with (first
        | (go_at_call 16; refine (hfe _ HC.out).mono ?_; rintro e V ⟨rfl, hV⟩; replace HC := Hid.mk' (HC.out.trans (hV.mono HC.out.size)); replace HF := Hid.mk' (HF.out.below hV); replace HM := Hid.mk' (HM.out.below hV); clear f0 f1 f2 f3 k0 k1 k2; have f0 := HF.out.c0; have f1 := HF.out.c1; have f2 := HF.out.froz 0; have f3 := HF.out.froz 1; have k0 := HM.out.c0.1; have k1 := HM.out.c1.1; have k2 := HM.out.c2.1; clear hV)
        | fail)
      go_ret
      exact ⟨rfl, HC.out⟩
    · have hd0 : decide (d < 0) = false := decide_eq_false (by omega)
      go_upto_region 20 with (first
        | (go_at_call 16; refine (hfn _).mono ?_; rintro e V ⟨rfl, hV⟩; replace HC := Hid.mk' (HC.out.trans (hV.mono HC.out.size)); replace HF := Hid.mk' (HF.out.below hV); replace HN := Hid.mk' (HN.out.below hV); replace HW := Hid.mk' (HW.out.below hV); replace HX := Hid.mk' (HX.out.below hV); replace HM := Hid.mk' (HM.out.below hV); clear f0 f1 f2 f3 k0 k1 k2; have f0 := HF.out.c0; have f1 := HF.out.c1; have f2 := HF.out.froz 0; have f3 := HF.out.froz 1; have k0 := HM.out.c0.1; have k1 := HM.out.c1.1; have k2 := HM.out.c2.1; clear hV)
        | fail)
      have HF2 : Hid (FBox fb ((V.setCell ⟨fb, 0, none⟩ (.int .i64 2)).setCell ⟨fb, 1, none⟩ (.int .i64 (-1))) 2 (-1)) := HF.out.put 2 (-1)
      have HM2 : Hid (MatBox mb ((V.setCell ⟨fb, 0, none⟩ (.int .i64 2)).setCell ⟨fb, 1, none⟩ (.int .i64 (-1))) 0 0 (.slice none 0 0)) := (HM.out.other (HFM.out) 0 _).other HFM.out 1 _
      replace HC : Hid (Below w.heap.size w ((V.setCell ⟨fb, 0, none⟩ (.int .i64 2)).setCell ⟨fb, 1, none⟩ (.int .i64 (-1)))) := (HC.out.setCell (p := ⟨fb, 0, none⟩) HFB.out _).setCell (p := ⟨fb, 1, none⟩) HFB.out _
      clear HF HM f0 f1 f2 f3 k0 k1 k2 HN HW HX
      have HF := HF2
      have HM := HM2
      clear HF2 HM2
      obtain ⟨Z, hZ⟩ : ∃ Z, (V.setCell ⟨fb, 0, none⟩ (.int .i64 2)).setCell ⟨fb, 1, none⟩ (.int .i64 (-1)) = Z := ⟨_, rfl⟩
      rw [hZ] at HC HF HM ⊢
      clear hZ hfn
      have f0 := HF.out.c0
      have f1 := HF.out.c1
      have f2 := HF.out.froz 0
      have f3 := HF.out.froz 1
      have k0 := HM.out.c0.1
      have k1 := HM.out.c1.1
      have k2 := HM.out.c2.1
      go_wp2_with (first
        | (go_at_call 16; refine (hfe _ HC.out).mono ?_; rintro e V ⟨rfl, hV⟩; replace HC := Hid.mk' (HC.out.trans (hV.mono HC.out.size)); replace HF := Hid.mk' (HF.out.below hV); replace HM := Hid.mk' (HM.out.below hV); clear f0 f1 f2 f3 k0 k1 k2; have f0 := HF.out.c0; have f1 := HF.out.c1; have f2 := HF.out.froz 0; have f3 := HF.out.froz 1; have k0 := HM.out.c0.1; have k1 := HM.out.c1.1; have k2 := HM.out.c2.1; clear hV)
        | fail)
      go_ret
      exact ⟨rfl, HC.out⟩

end Go.Proofs.YtnnkmkhamipfiaaGreatDoor

namespace Go.Proofs.YtnnkmkhamipfiaaGreatDoor
open Go.RowKit Go.Sort

set_option maxRecDepth 100000 in
set_option maxHeartbeats 8000000 in
theorem ck_few {l all L : List (List Int)} {ps : List Duo} (al ap : Option Addr) (n cl m cp : Nat) (d : Int) (w : World) (h60 : (m : Int) ≤ 60)
 (har : Calls Tryz.prog 5 #[] w fun e w' => e = .returned (.bool true) ∧ Below w.heap.size w w')
 (hli : ∀ V, Below w.heap.size w V → Calls Tryz.prog 6 #[.slice al n cl, .int .i64 60] V fun e w' => (∃ q : Bool, e = .returned (.bool q)) ∧ Below V.heap.size V w')
 {mates CR E : List Int}
 (herr : ∀ V, Below w.heap.size w V → Calls Tryz.prog 7 #[.slice al n cl] V fun e w' => (e = .returned (.int .i64 0)) ∧ Below V.heap.size V w')
 (hcl : ∀ V, Below w.heap.size w V → Calls Tryz.prog 8 #[.slice al n cl] V fun e w' => (∃ u, e = .returned (.tuple #[u, .int .i64 0]) ∧ Rows w' u all) ∧ Below V.heap.size V w')
 (hnb : ∀ V u, Below w.heap.size w V → Rows V u all → Calls Tryz.prog 9 #[u] V fun e w' => (∃ v, e = .returned v ∧ Rows w' v L) ∧ Below V.heap.size V w')
 (hpt : ∀ V v, Below w.heap.size w V → Rows V v L → Calls Tryz.prog 10 #[v, .slice ap m cp] V fun e w' => (∃ u, e = .returned (.tuple #[u, .agg #[.int .i64 0, .int .i64 (-1)]]) ∧ Ints w' u mates) ∧ Below V.heap.size V w')
 (hcx : ∀ V, Below w.heap.size w V → Calls Tryz.prog 12 #[.slice al n cl] V fun e w' => (∃ v, e = .returned (.agg #[v]) ∧ Rows w' v l) ∧ Below V.heap.size V w')
 (hpa : ∀ V, Below w.heap.size w V → Calls Tryz.prog 13 #[.slice ap m cp] V fun e w' => (∃ u, e = .returned u ∧ DuoIn anyBlock w' u ps) ∧ Below V.heap.size V w')
 (hck : ∀ V v u, Below w.heap.size w V → Rows V v l → DuoIn anyBlock V u ps → Calls Tryz.prog 11 #[.agg #[v], u] V fun e w' => (e = .returned .nilIface) ∧ Below V.heap.size V w')
 (hcr : ∀ V v u, Below w.heap.size w V → Rows V v l → DuoIn anyBlock V u ps → Calls Tryz.prog 14 #[.agg #[v], u] V fun e w' => (∃ x, e = .returned (.tuple #[x, .nilIface]) ∧ Ints w' x CR) ∧ Below V.heap.size V w')
 (hfn : ∀ V, Calls Tryz.prog 16 #[.nilIface, .agg #[.int .i64 0, .int .i64 (-1)]] V fun e w' => (e = .returned (.bool true)) ∧ Below V.heap.size V w')
 (hd : 0 ≤ d ∧ d ≤ 7) {R C : Int}
 (hbo : ∀ V v u, Below w.heap.size w V → Rows V v l → DuoIn anyBlock V u ps → Calls Tryz.prog 15 #[.agg #[v], u, .int .i64 d] V fun e w' => (∃ x, e = .returned (.tuple #[.agg #[.int .i64 R, .int .i64 C, x], .nilIface]) ∧ Ints w' x E) ∧ Below V.heap.size V w')
 (hco : ∀ V x, Ints V x mates → Calls Tryz.prog 18 #[x] V fun e w' => (∃ u, e = .returned u ∧ Ints w' u CR) ∧ Below V.heap.size V w')
 (hsi : ∀ V x y, Ints V x CR → Ints V y CR → Calls Tryz.prog 17 #[x, y] V fun e w' => (e = .returned (.bool true)) ∧ Below V.heap.size V w')
 (hsb : ∀ V v x, Rows V v L → Ints V x mates → Calls Tryz.prog 19 #[v, x, .int .i64 d, .int .i64 20000] V fun e w' => (((e = .returned (.tuple #[.agg #[.int .i64 R, .int .i64 C, .slice none 0 0], .bool false])) ∨ ∃ z, e = .returned (.tuple #[.agg #[.int .i64 R, .int .i64 C, z], .bool true]) ∧ Ints w' z E)) ∧ Below V.heap.size V w')
 (hrf : ∀ V x, Ints V x E → Calls Tryz.prog 21 #[.agg #[.int .i64 R, .int .i64 C, x]] V fun e w' => (e = .returned (.agg #[.int .i64 R, .int .i64 C, x])) ∧ Below V.heap.size V w')
 (hsm : ∀ V x y, Ints V x E → Ints V y E → Calls Tryz.prog 20 #[.agg #[.int .i64 R, .int .i64 C, x], .agg #[.int .i64 R, .int .i64 C, y]] V fun e w' => (e = .returned (.bool true)) ∧ Below V.heap.size V w')
    : Calls Tryz.prog 3 #[.slice al n cl, .slice ap m cp, .int .i64 d] w fun e w' => e = .returned (.bool true) ∧ Below w.heap.size w w' := by
  go_enter Tryz.func3, Tryz.ntmps3
  go_wp2_with fail
  refine har.mono ?_
  rintro e w1 ⟨rfl, hB1⟩
  have hl1 := hli w1 hB1
  have HB1 : Hid (Below w.heap.size w w1) := hB1
  clear har hli hB1
  go_wp2_with fail
  refine hl1.mono ?_
  clear hl1
  rintro e w2 ⟨⟨q, rfl⟩, hB2⟩
  have HB2 : Hid (Below w.heap.size w w2) := HB1.out.trans (hB2.mono HB1.out.size)
  clear hB2 HB1
  cases q with
  | false =>
    go_wp2_with fail
    go_ret
    exact ⟨rfl, HB2.out⟩
  | true =>
    have her := herr w2 HB2.out
    clear herr
    go_wp2_with fail
    refine her.mono ?_
    clear her
    rintro e w3 ⟨rfl, hB3⟩
    have HC : Hid (Below w.heap.size w w3) := HB2.out.trans (hB3.mono HB2.out.size)
    clear hB3 HB2
    go_upto_region 7 with fail
    have HF : Hid (FBox w3.heap.size (w3.alloc (.cells #[.int .i64 0, .int .i64 (-1)] 28)) 0 (-1)) := fbox_new w3 0 (-1) 28
    have hfb : w.heap.size ≤ w3.heap.size := HC.out.size
    replace HC : Hid (Below w.heap.size w (w3.alloc (.cells #[.int .i64 0, .int .i64 (-1)] 28))) := HC.out.alloc HC.out.size _
    obtain ⟨W6, hW6⟩ : ∃ W6, w3.alloc (.cells #[.int .i64 0, .int .i64 (-1)] 28) = W6 := ⟨_, rfl⟩
    obtain ⟨fb, hfbe⟩ : ∃ fb, w3.heap.size = fb := ⟨_, rfl⟩
    rw [hfbe] at HF hfb
    rw [hW6] at HC HF
    rw [hW6, hfbe]
    have HFB : Hid (w.heap.size ≤ fb) := hfb
    clear hW6 hfbe hfb
    go_upto_region 12 with (first
      | (go_at_call 8; refine (hcl _ HC.out).mono ?_; rintro e V ⟨⟨u, rfl, hs⟩, hV⟩; replace HC := Hid.mk' (HC.out.trans (hV.mono HC.out.size)); replace HF := Hid.mk' (HF.out.below hV); have HU : Hid (Rows V u all) := hs; obtain ⟨au, cu, rfl, -, -⟩ := hs.open_; clear hV)
      | (go_at_call 9; refine (hnb _ _ HC.out HU.out).mono ?_; rintro e V ⟨⟨u, rfl, hs⟩, hV⟩; replace HC := Hid.mk' (HC.out.trans (hV.mono HC.out.size)); replace HF := Hid.mk' (HF.out.below hV); have HN : Hid (Rows V u L) := hs; obtain ⟨aL, cL, rfl, -, -⟩ := hs.open_; clear hV HU hs)
      | fail)
    go_upto_region 13 with (first
      | (go_at_call 10; refine (hpt _ _ HC.out HN.out).mono ?_; rintro e V ⟨⟨uw, rfl, hs⟩, hV⟩; replace HC := Hid.mk' (HC.out.trans (hV.mono HC.out.size)); replace HF := Hid.mk' (HF.out.below hV); replace HN := Hid.mk' (HN.out.below hV); have f0 := HF.out.c0; have f1 := HF.out.c1; have ff := HF.out.froz 0; have fg := HF.out.froz 1; have HW : Hid (Ints V uw mates) := hs; obtain ⟨aw, cw, rfl, -, -⟩ := hs.open_; clear hV hs)
      | fail)
    have hst : (V.setCell ⟨fb, 0, none⟩ (.int .i64 0)).setCell ⟨fb, 1, none⟩ (.int .i64 (-1)) = V := HF.out.same
    rw [hst]
    clear hst hcl hnb hpt f0 f1 ff fg
    go_upto_region 14 with (first
      | (go_at_call 12; refine (hcx _ HC.out).mono ?_; rintro e V ⟨⟨v, rfl, hs⟩, hV⟩; replace HC := Hid.mk' (HC.out.trans (hV.mono HC.out.size)); replace HF := Hid.mk' (HF.out.below hV); replace HN := Hid.mk' (HN.out.below hV); replace HW := Hid.mk' (HW.out.below hV); have HR : Hid (Rows V v l) := hs; clear hV hs)
      | (go_at_call 13; refine (hpa _ HC.out).mono ?_; rintro e V ⟨⟨u, rfl, hs⟩, hV⟩; replace HC := Hid.mk' (HC.out.trans (hV.mono HC.out.size)); replace HF := Hid.mk' (HF.out.below hV); replace HN := Hid.mk' (HN.out.below hV); replace HW := Hid.mk' (HW.out.below hV); replace HR := Hid.mk' (HR.out.below hV); have HP : Hid (DuoIn anyBlock V u ps) := hs; clear hV hs)
      | (go_at_call 11; refine (hck _ _ _ HC.out HR.out HP.out).mono ?_; rintro e V ⟨rfl, hV⟩; replace HC := Hid.mk' (HC.out.trans (hV.mono HC.out.size)); replace HF := Hid.mk' (HF.out.below hV); replace HN := Hid.mk' (HN.out.below hV); replace HW := Hid.mk' (HW.out.below hV); clear hV HR HP)
      | fail)
    go_upto_region 15 with (first
      | (go_at_call 12; refine (hcx _ HC.out).mono ?_; rintro e V ⟨⟨v, rfl, hs⟩, hV⟩; replace HC := Hid.mk' (HC.out.trans (hV.mono HC.out.size)); replace HF := Hid.mk' (HF.out.below hV); replace HN := Hid.mk' (HN.out.below hV); replace HW := Hid.mk' (HW.out.below hV); have HR : Hid (Rows V v l) := hs; clear hV hs)
      | (go_at_call 13; refine (hpa _ HC.out).mono ?_; rintro e V ⟨⟨u, rfl, hs⟩, hV⟩; replace HC := Hid.mk' (HC.out.trans (hV.mono HC.out.size)); replace HF := Hid.mk' (HF.out.below hV); replace HN := Hid.mk' (HN.out.below hV); replace HW := Hid.mk' (HW.out.below hV); replace HR := Hid.mk' (HR.out.below hV); have HP : Hid (DuoIn anyBlock V u ps) := hs; clear hV hs)
      | (go_at_call 14; refine (hcr _ _ _ HC.out HR.out HP.out).mono ?_; rintro e V ⟨⟨x2, rfl, hx⟩, hV⟩; replace HC := Hid.mk' (HC.out.trans (hV.mono HC.out.size)); replace HF := Hid.mk' (HF.out.below hV); replace HN := Hid.mk' (HN.out.below hV); replace HW := Hid.mk' (HW.out.below hV); have HX : Hid (Ints V x2 CR) := hx; obtain ⟨ax, cx, rfl, -, -⟩ := hx.open_; clear hx; clear hV HR HP)
      | fail)
    go_upto_region 16 with (first
      | (go_at_call 12; refine (hcx _ HC.out).mono ?_; rintro e V ⟨⟨v, rfl, hs⟩, hV⟩; replace HC := Hid.mk' (HC.out.trans (hV.mono HC.out.size)); replace HF := Hid.mk' (HF.out.below hV); replace HN := Hid.mk' (HN.out.below hV); replace HW := Hid.mk' (HW.out.below hV); replace HX := Hid.mk' (HX.out.below hV); have HR : Hid (Rows V v l) := hs; clear hV hs)
      | (go_at_call 13; refine (hpa _ HC.out).mono ?_; rintro e V ⟨⟨u, rfl, hs⟩, hV⟩; replace HC := Hid.mk' (HC.out.trans (hV.mono HC.out.size)); replace HF := Hid.mk' (HF.out.below hV); replace HN := Hid.mk' (HN.out.below hV); replace HW := Hid.mk' (HW.out.below hV); replace HX := Hid.mk' (HX.out.below hV); replace HR := Hid.mk' (HR.out.below hV); have HP : Hid (DuoIn anyBlock V u ps) := hs; clear hV hs)
      | (go_at_call 15; refine (hbo _ _ _ HC.out HR.out HP.out).mono ?_; rintro e V ⟨⟨xb, rfl, hx⟩, hV⟩; replace HC := Hid.mk' (HC.out.trans (hV.mono HC.out.size)); replace HF := Hid.mk' (HF.out.below hV); replace HN := Hid.mk' (HN.out.below hV); replace HW := Hid.mk' (HW.out.below hV); replace HX := Hid.mk' (HX.out.below hV); have HXB : Hid (Ints V xb E) := hx; obtain ⟨ab, cb, rfl, -, -⟩ := hx.open_; clear hx; clear hV HR HP)
      | fail)
    have HM : Hid (MatBox V.heap.size (V.alloc (.cells #[.int .i64 R, .int .i64 C, .slice ab E.length cb] 45)) R C (.slice ab E.length cb)) := matBox_new V R C (.slice ab E.length cb) 45
    have hV : Below V.heap.size V (V.alloc (.cells #[.int .i64 R, .int .i64 C, .slice ab E.length cb] 45)) := (Below.refl _ V).alloc (Nat.le_refl _) _
    replace HC := Hid.mk' (HC.out.trans (hV.mono HC.out.size))
    replace HF := Hid.mk' (HF.out.below hV)
    replace HN := Hid.mk' (HN.out.below hV)
    replace HW := Hid.mk' (HW.out.below hV)
    replace HX := Hid.mk' (HX.out.below hV)
    replace HXB := Hid.mk' (HXB.out.below hV)
    obtain ⟨W15, hW15⟩ : ∃ W15, V.alloc (.cells #[.int .i64 R, .int .i64 C, .slice ab E.length cb] 45) = W15 := ⟨_, rfl⟩
    obtain ⟨mb, hmb⟩ : ∃ mb, V.heap.size = mb := ⟨_, rfl⟩
    rw [hW15, hmb] at HM
    rw [hW15] at HC HF HN HW HX HXB
    rw [hW15, hmb]
    clear hW15 hmb hV
    clear hcx hpa hck hcr hbo
    have f0 := HF.out.c0
    have f1 := HF.out.c1
    have f2 := HF.out.froz 0
    have f3 := HF.out.froz 1
    have k0 := HM.out.c0.1
    have k1 := HM.out.c1.1
    have k2 := HM.out.c2.1
    have hd0 : decide (d < 0) = false := decide_eq_false (by omega)
    have hd7 : decide (7 < d) = false := decide_eq_false (by omega)
    go_upto_region 25 with (first
      | (go_at_call 16; refine (hfn _).mono ?_; rintro e V ⟨rfl, hV⟩; replace HC := Hid.mk' (HC.out.trans (hV.mono HC.out.size)); replace HF := Hid.mk' (HF.out.below hV); replace HN := Hid.mk' (HN.out.below hV); replace HW := Hid.mk' (HW.out.below hV); replace HX := Hid.mk' (HX.out.below hV); replace HXB := Hid.mk' (HXB.out.below hV); replace HM := Hid.mk' (HM.out.below hV); clear f0 f1 f2 f3 k0 k1 k2; have f0 := HF.out.c0; have f1 := HF.out.c1; have f2 := HF.out.froz 0; have f3 := HF.out.froz 1; have k0 := HM.out.c0.1; have k1 := HM.out.c1.1; have k2 := HM.out.c2.1; clear hV)
      | (go_at_call 18; refine (hco _ _ HW.out).mono ?_; rintro e V ⟨⟨u, rfl, hs⟩, hV⟩; replace HC := Hid.mk' (HC.out.trans (hV.mono HC.out.size)); replace HF := Hid.mk' (HF.out.below hV); replace HN := Hid.mk' (HN.out.below hV); replace HW := Hid.mk' (HW.out.below hV); replace HX := Hid.mk' (HX.out.below hV); replace HXB := Hid.mk' (HXB.out.below hV); replace HM := Hid.mk' (HM.out.below hV); have HY : Hid (Ints V u CR) := hs; obtain ⟨ay, cy, rfl, -, -⟩ := hs.open_; clear f0 f1 f2 f3 k0 k1 k2; have f0 := HF.out.c0; have f1 := HF.out.c1; have f2 := HF.out.froz 0; have f3 := HF.out.froz 1; have k0 := HM.out.c0.1; have k1 := HM.out.c1.1; have k2 := HM.out.c2.1; clear hV hs)
      | (go_at_call 17; refine (hsi _ _ _ HX.out HY.out).mono ?_; rintro e V ⟨rfl, hV⟩; replace HC := Hid.mk' (HC.out.trans (hV.mono HC.out.size)); replace HF := Hid.mk' (HF.out.below hV); replace HN := Hid.mk' (HN.out.below hV); replace HW := Hid.mk' (HW.out.below hV); replace HX := Hid.mk' (HX.out.below hV); replace HXB := Hid.mk' (HXB.out.below hV); replace HM := Hid.mk' (HM.out.below hV); clear f0 f1 f2 f3 k0 k1 k2; have f0 := HF.out.c0; have f1 := HF.out.c1; have f2 := HF.out.froz 0; have f3 := HF.out.froz 1; have k0 := HM.out.c0.1; have k1 := HM.out.c1.1; have k2 := HM.out.c2.1; clear hV HY)
      | fail)
    have hs5 := hsb V _ _ HN.out HW.out
    clear hfn hco hsi hsb
    go_wp2_with fail
    refine hs5.mono ?_
    clear hs5
    rintro e V2 ⟨rfl | ⟨z, rfl, hz⟩, hV⟩
    · replace HC : Hid (Below w.heap.size w V2) := HC.out.trans (hV.mono HC.out.size)
      clear hV f0 f1 f2 f3 k0 k1 k2
      go_upto_region 26 with fail
      have hX := Hid.mk' (HC.out.alloc HC.out.size (.cells #[.int .i64 R, .int .i64 C, .slice none 0 0] 51))
      go_region
      go_wp2
      go_ret
      exact ⟨rfl, hX.out.drew⟩
    · have HZ : Hid (Ints V2 z E) := hz
      obtain ⟨az, cz, rfl, -, -⟩ := hz.open_
      clear f0 f1 f2 f3 k0 k1 k2 hz
      replace HC := Hid.mk' (HC.out.trans (hV.mono HC.out.size))
      replace HM := Hid.mk' (HM.out.below hV)
      replace HXB := Hid.mk' (HXB.out.below hV)
      go_upto_region 26 with fail
      have HQ : Hid (MatBox V2.heap.size (V2.alloc (.cells #[.int .i64 R, .int .i64 C, .slice az E.length cz] 51)) R C (.slice az E.length cz)) := matBox_new V2 R C (.slice az E.length cz) 51
      have hV3 : Below V2.heap.size V2 (V2.alloc (.cells #[.int .i64 R, .int .i64 C, .slice az E.length cz] 51)) := (Below.refl _ V2).alloc (Nat.le_refl _) _
      replace HC := Hid.mk' (HC.out.trans (hV3.mono HC.out.size))
      replace HM := Hid.mk' (HM.out.below hV3)
      replace HXB := Hid.mk' (HXB.out.below hV3)
      replace HZ := Hid.mk' (HZ.out.below hV3)
      obtain ⟨W25, hW25⟩ : ∃ W25, V2.alloc (.cells #[.int .i64 R, .int .i64 C, .slice az E.length cz] 51) = W25 := ⟨_, rfl⟩
      obtain ⟨qb, hqb⟩ : ∃ qb, V2.heap.size = qb := ⟨_, rfl⟩
      rw [hW25, hqb] at HQ
      rw [hW25] at HC HM HXB HZ
      rw [hW25, hqb]
      have HD : Hid (Below W25.heap.size W25 W25) := Below.refl _ _
      have k0 := HM.out.c0.1
      have k1 := HM.out.c1.1
      have k2 := HM.out.c2.1
      have q0 := HQ.out.c0.1
      have q1 := HQ.out.c1.1
      have q2 := HQ.out.c2.1
      clear hW25 hqb hV hV3
      go_region_with (first
        | (go_at_call 21; refine (hrf _ _ (HXB.out.below HD.out.drew)).mono ?_; rintro e V3 ⟨rfl, hV⟩; replace HD : Hid (Below W25.heap.size W25 V3) := HD.out.drew.trans (hV.mono HD.out.drew.size); have q0 := (HQ.out.below HD.out).c0.1; have q1 := (HQ.out.below HD.out).c1.1; have q2 := (HQ.out.below HD.out).c2.1; clear hV)
        | (go_at_call 20; refine (hsm _ _ _ (HXB.out.below HD.out) (HZ.out.below HD.out)).mono ?_; rintro e V4 ⟨rfl, hV⟩; replace HD : Hid (Below W25.heap.size W25 V4) := HD.out.trans (hV.mono HD.out.size); clear hV)
        | fail)
      all_goals
        go_wp2
        go_ret
        exact ⟨rfl, HC.out.trans (HD.out.mono HC.out.size)⟩

end Go.Proofs.YtnnkmkhamipfiaaGreatDoor
