/- MorseChecks of a good gradient whose sums of paths are great: a straight walk over what is handed in. A range over an iterator that lays memory alone; the loop's body writes what is its own. What freePairs hands on. -/
import Derived.Test.YtnnkmkhamipfiaaGreatDoorMorseCkB
import Derived.Test.YtnnkmkhamipfiaaGreatDoorHeap
import Derived.Test.YtnnkmkhamipfiaaGreatDoorTab
import Derived.Test.YtnnkmkhamipfiaaGreatDoorMorseCrit
import Derived.Test.YtnnkmkhamipfiaaGreatDoorMorseSums
namespace Go.Proofs.YtnnkmkhamipfiaaGreatDoor
open Go.RowKit Go.Sort

set_option maxRecDepth 100000 in
set_option maxHeartbeats 8000000 in
theorem ck_many {l all L : List (List Int)} {ps : List Duo} (al ap : Option Addr) (n cl m cp : Nat) (d : Int) (w : World) (h60 : (m : Int) ≤ 60)
 (har : Calls Tryz.prog 5 #[] w fun e w' => e = .returned (.bool true) ∧ Below w.heap.size w w')
 (hli : ∀ V, Below w.heap.size w V → Calls Tryz.prog 6 #[.slice al n cl, .int .i64 60] V fun e w' => (∃ q : Bool, e = .returned (.bool q)) ∧ Below V.heap.size V w')
 {mates CR E : List Int}
 (herr : ∀ V, Below w.heap.size w V → Calls Tryz.prog 7 #[.slice al n cl] V fun e w' => (e = .returned (.int .i64 0)) ∧ Below V.heap.size V w')
 (hcl : ∀ V, Below w.heap.size w V → Calls Tryz.prog 8 #[.slice al n cl] V fun e w' => (∃ u, e = .returned (.tuple #[u, .int .i64 0]) ∧ Rows w' u all) ∧ Below V.heap.size V w')
 (hnb : ∀ V u, Below w.heap.size w V → Rows V u all → Calls Tryz.prog 9 #[u] V fun e w' => (∃ v, e = .returned v ∧ Rows w' v L) ∧ Below V.heap.size V w')
 (hpt : ∀ V v, Below w.heap.size w V → Rows V v L → Calls Tryz.prog 10 #[v, .slice ap m cp] V fun e w' => (∃ u, e = .returned (.tuple #[u, .agg #[.int .i64 0, .int .i64 (-1)]]) ∧ Ints w' u mates) ∧ Below V.heap.size V w')
 (hcx : ∀ V, Below w.heap.size w V → Calls Tryz.prog 12 #[.slice al n cl] V fun e w' => (∃ v, e = .returned (.agg #[v]) ∧ Rows w' v l) ∧ Below V.heap.size V w')
 (hpa : ∀ V, Below w.heap.size w V → Calls Tryz.prog 13 #[.slice ap m cp] V fun e w' => (∃ u, e = .returned u ∧ DuoIn anyBlock w' u ps) ∧ Below V.heap.size V w')
 (hck : ∀ V v u, Below w.heap.size w V → Rows V v l → DuoIn anyBlock V u ps → Calls Tryz.prog 11 #[.agg #[v], u] V fun e w' => (e = .returned .nilIface) ∧ Below V.heap.size V w')
 (hcr : ∀ V v u, Below w.heap.size w V → Rows V v l → DuoIn anyBlock V u ps → Calls Tryz.prog 14 #[.agg #[v], u] V fun e w' => (∃ x, e = .returned (.tuple #[x, .nilIface]) ∧ Ints w' x CR) ∧ Below V.heap.size V w')
 (hfn : ∀ V, Calls Tryz.prog 16 #[.nilIface, .agg #[.int .i64 0, .int .i64 (-1)]] V fun e w' => (e = .returned (.bool true)) ∧ Below V.heap.size V w')
 (hd : 0 ≤ d ∧ d ≤ 7) {R C : Int}
 {ev : Value}
 (hbo : ∀ V v u, Below w.heap.size w V → Rows V v l → DuoIn anyBlock V u ps → Calls Tryz.prog 15 #[.agg #[v], u, .int .i64 d] V fun e w' => (((∃ x, e = .returned (.tuple #[.agg #[.int .i64 R, .int .i64 C, x], .nilIface]) ∧ Ints w' x E) ∨ e = .returned (.tuple #[.agg #[.int .i64 0, .int .i64 0, .slice none 0 0], ev]))) ∧ Below V.heap.size V w')
 (hco : ∀ V x, Ints V x mates → Calls Tryz.prog 18 #[x] V fun e w' => (∃ u, e = .returned u ∧ Ints w' u CR) ∧ Below V.heap.size V w')
 (hsi : ∀ V x y, Ints V x CR → Ints V y CR → Calls Tryz.prog 17 #[x, y] V fun e w' => (e = .returned (.bool true)) ∧ Below V.heap.size V w')
 (hsb : ∀ V v x, Rows V v L → Ints V x mates → Calls Tryz.prog 19 #[v, x, .int .i64 d, .int .i64 20000] V fun e w' => (e = .returned (.tuple #[.agg #[.int .i64 R, .int .i64 C, .slice none 0 0], .bool false])) ∧ Below V.heap.size V w')
    : Calls Tryz.prog 3 #[.slice al n cl, .slice ap m cp, .int .i64 d] w fun e w' => e = .returned (.bool true) ∧ Below w.heap.size w w' := by
  go_enter Tryz.func3, Tryz.ntmps3
  go_wp2_with fail
  refine har.mono ?_
  rintro e w1 ⟨rfl, hB1⟩
  have hl1 := hli w1 hB1
  have HB1 : Hid (Below w.heap.size w w1) := hB1
  clear har hli hB1
  go_wp2_with fail
  refine hl1.mono ?_
  clear hl1
  rintro e w2 ⟨⟨q, rfl⟩, hB2⟩
  have HB2 : Hid (Below w.heap.size w w2) := HB1.out.trans (hB2.mono HB1.out.size)
  clear hB2 HB1
  cases q with
  | false =>
    go_wp2_with fail
    go_ret
    exact ⟨rfl, HB2.out⟩
  | true =>
    have her := herr w2 HB2.out
    clear herr
    go_wp2_with fail
    refine her.mono ?_
    clear her
    rintro e w3 ⟨rfl, hB3⟩
    have HC : Hid (Below w.heap.size w w3) := HB2.out.trans (hB3.mono HB2.out.size)
    clear hB3 HB2
    go_upto_region 7 with fail
    have HF : Hid (FBox w3.heap.size (w3.alloc (.cells #[.int .i64 0, .int .i64 (-1)] 28)) 0 (-1)) := fbox_new w3 0 (-1) 28
    have hfb : w.heap.size ≤ w3.heap.size := HC.out.size
    replace HC : Hid (Below w.heap.size w (w3.alloc (.cells #[.int .i64 0, .int .i64 (-1)] 28))) := HC.out.alloc HC.out.size _
    obtain ⟨W6, hW6⟩ : ∃ W6, w3.alloc (.cells #[.int .i64 0, .int .i64 (-1)] 28) = W6 := ⟨_, rfl⟩
    obtain ⟨fb, hfbe⟩ : ∃ fb, w3.heap.size = fb := ⟨_, rfl⟩
    rw [hfbe] at HF hfb
    rw [hW6] at HC HF
    rw [hW6, hfbe]
    have HFB : Hid (w.heap.size ≤ fb) := hfb
    clear hW6 hfbe hfb
    go_upto_region 12 with (first
      | (go_at_call 8; refine (hcl _ HC.out).mono ?_; rintro e V ⟨⟨u, rfl, hs⟩, hV⟩; replace HC := Hid.mk' (HC.out.trans (hV.mono HC.out.size)); replace HF := Hid.mk' (HF.out.below hV); have HU : Hid (Rows V u all) := hs; obtain ⟨au, cu, rfl, -, -⟩ := hs.open_; clear hV)
      | (go_at_call 9; refine (hnb _ _ HC.out HU.out).mono ?_; rintro e V ⟨⟨u, rfl, hs⟩, hV⟩; replace HC := Hid.mk' (HC.out.trans (hV.mono HC.out.size)); replace HF := Hid.mk' (HF.out.below hV); have HN : Hid (Rows V u L) := hs; obtain ⟨aL, cL, rfl, -, -⟩ := hs.open_; clear hV HU hs)
      | fail)
    go_upto_region 13 with (first
      | (go_at_call 10; refine (hpt _ _ HC.out HN.out).mono ?_; rintro e V ⟨⟨uw, rfl, hs⟩, hV⟩; replace HC := Hid.mk' (HC.out.trans (hV.mono HC.out.size)); replace HF := Hid.mk' (HF.out.below hV); replace HN := Hid.mk' (HN.out.below hV); have f0 := HF.out.c0; have f1 := HF.out.c1; have ff := HF.out.froz 0; have fg := HF.out.froz 1; have HW : Hid (Ints V uw mates) := hs; obtain ⟨aw, cw, rfl, -, -⟩ := hs.open_; clear hV hs)
      | fail)
    have hst : (V.setCell ⟨fb, 0, none⟩ (.int .i64 0)).setCell ⟨fb, 1, none⟩ (.int .i64 (-1)) = V := HF.out.same
    rw [hst]
    clear hst hcl hnb hpt f0 f1 ff fg
    go_upto_region 14 with (first
      | (go_at_call 12; refine (hcx _ HC.out).mono ?_; rintro e V ⟨⟨v, rfl, hs⟩, hV⟩; replace HC := Hid.mk' (HC.out.trans (hV.mono HC.out.size)); replace HF := Hid.mk' (HF.out.below hV); replace HN := Hid.mk' (HN.out.below hV); replace HW := Hid.mk' (HW.out.below hV); have HR : Hid (Rows V v l) := hs; clear hV hs)
      | (go_at_call 13; refine (hpa _ HC.out).mono ?_; rintro e V ⟨⟨u, rfl, hs⟩, hV⟩; replace HC := Hid.mk' (HC.out.trans (hV.mono HC.out.size)); replace HF := Hid.mk' (HF.out.below hV); replace HN := Hid.mk' (HN.out.below hV); replace HW := Hid.mk' (HW.out.below hV); replace HR := Hid.mk' (HR.out.below hV); have HP : Hid (DuoIn anyBlock V u ps) := hs; clear hV hs)
      | (go_at_call 11; refine (hck _ _ _ HC.out HR.out HP.out).mono ?_; rintro e V ⟨rfl, hV⟩; replace HC := Hid.mk' (HC.out.trans (hV.mono HC.out.size)); replace HF := Hid.mk' (HF.out.below hV); replace HN := Hid.mk' (HN.out.below hV); replace HW := Hid.mk' (HW.out.below hV); clear hV HR HP)
      | fail)
    go_upto_region 15 with (first
      | (go_at_call 12; refine (hcx _ HC.out).mono ?_; rintro e V ⟨⟨v, rfl, hs⟩, hV⟩; replace HC := Hid.mk' (HC.out.trans (hV.mono HC.out.size)); replace HF := Hid.mk' (HF.out.below hV); replace HN := Hid.mk' (HN.out.below hV); replace HW := Hid.mk' (HW.out.below hV); have HR : Hid (Rows V v l) := hs; clear hV hs)
      | (go_at_call 13; refine (hpa _ HC.out).mono ?_; rintro e V ⟨⟨u, rfl, hs⟩, hV⟩; replace HC := Hid.mk' (HC.out.trans (hV.mono HC.out.size)); replace HF := Hid.mk' (HF.out.below hV); replace HN := Hid.mk' (HN.out.below hV); replace HW := Hid.mk' (HW.out.below hV); replace HR := Hid.mk' (HR.out.below hV); have HP : Hid (DuoIn anyBlock V u ps) := hs; clear hV hs)
      | (go_at_call 14; refine (hcr _ _ _ HC.out HR.out HP.out).mono ?_; rintro e V ⟨⟨x2, rfl, hx⟩, hV⟩; replace HC := Hid.mk' (HC.out.trans (hV.mono HC.out.size)); replace HF := Hid.mk' (HF.out.below hV); replace HN := Hid.mk' (HN.out.below hV); replace HW := Hid.mk' (HW.out.below hV); have HX : Hid (Ints V x2 CR) := hx; obtain ⟨ax, cx, rfl, -, -⟩ := hx.open_; clear hx; clear hV HR HP)
      | fail)
    have hb5 := hbo
    clear hbo
    go_wp2_with (first
      | (go_at_call 12; refine (hcx _ HC.out).mono ?_; rintro e V ⟨⟨v, rfl, hs⟩, hV⟩; replace HC := Hid.mk' (HC.out.trans (hV.mono HC.out.size)); replace HF := Hid.mk' (HF.out.below hV); replace HN := Hid.mk' (HN.out.below hV); replace HW := Hid.mk' (HW.out.below hV); replace HX := Hid.mk' (HX.out.below hV); have HR : Hid (Rows V v l) := hs; clear hV hs)
      | (go_at_call 13; refine (hpa _ HC.out).mono ?_; rintro e V ⟨⟨u, rfl, hs⟩, hV⟩; replace HC := Hid.mk' (HC.out.trans (hV.mono HC.out.size)); replace HF := Hid.mk' (HF.out.below hV); replace HN := Hid.mk' (HN.out.below hV); replace HW := Hid.mk' (HW.out.below hV); replace HX := Hid.mk' (HX.out.below hV); replace HR := Hid.mk' (HR.out.below hV); have HP : Hid (DuoIn anyBlock V u ps) := hs; clear hV hs)
      | (go_at_call 15; fail))
    have hb6 := hb5 _ _ _ HC.out HR.out HP.out
    refine hb6.mono ?_
    clear hb5 hb6
    rintro e V ⟨⟨xb, rfl, hx⟩ | rfl, hV⟩
    · obtain ⟨ab, cb, rfl, -, -⟩ := hx.open_
      replace HC := Hid.mk' (HC.out.trans (hV.mono HC.out.size))
      replace HF := Hid.mk' (HF.out.below hV)
      replace HN := Hid.mk' (HN.out.below hV)
      replace HW := Hid.mk' (HW.out.below hV)
      replace HX := Hid.mk' (HX.out.below hV)
      clear hV hx HR HP
      go_upto_region 16 with fail
      have HM : Hid (MatBox V.heap.size (V.alloc (.cells #[.int .i64 R, .int .i64 C, .slice ab E.length cb] 45)) R C (.slice ab E.length cb)) := matBox_new V R C (.slice ab E.length cb) 45
      have hV : Below V.heap.size V (V.alloc (.cells #[.int .i64 R, .int .i64 C, .slice ab E.length cb] 45)) := (Below.refl _ V).alloc (Nat.le_refl _) _
      replace HC := Hid.mk' (HC.out.trans (hV.mono HC.out.size))
      replace HF := Hid.mk' (HF.out.below hV)
      replace HN := Hid.mk' (HN.out.below hV)
      replace HW := Hid.mk' (HW.out.below hV)
      replace HX := Hid.mk' (HX.out.below hV)
      obtain ⟨W15, hW15⟩ : ∃ W15, V.alloc (.cells #[.int .i64 R, .int .i64 C, .slice ab E.length cb] 45) = W15 := ⟨_, rfl⟩
      obtain ⟨mb, hmb⟩ : ∃ mb, V.heap.size = mb := ⟨_, rfl⟩
      rw [hW15, hmb] at HM
      rw [hW15] at HC HF HN HW HX
      rw [hW15, hmb]
      clear hW15 hmb hV
      clear hcx hpa hck hcr
      have f0 := HF.out.c0
      have f1 := HF.out.c1
      have f2 := HF.out.froz 0
      have f3 := HF.out.froz 1
      have k0 := HM.out.c0.1
      have k1 := HM.out.c1.1
      have k2 := HM.out.c2.1
      have hd0 : decide (d < 0) = false := decide_eq_false (by omega)
      have hd7 : decide (7 < d) = false := decide_eq_false (by omega)
      go_upto_region 25 with (first
        | (go_at_call 16; refine (hfn _).mono ?_; rintro e V ⟨rfl, hV⟩; replace HC := Hid.mk' (HC.out.trans (hV.mono HC.out.size)); replace HF := Hid.mk' (HF.out.below hV); replace HN := Hid.mk' (HN.out.below hV); replace HW := Hid.mk' (HW.out.below hV); replace HX := Hid.mk' (HX.out.below hV); replace HM := Hid.mk' (HM.out.below hV); clear f0 f1 f2 f3 k0 k1 k2; have f0 := HF.out.c0; have f1 := HF.out.c1; have f2 := HF.out.froz 0; have f3 := HF.out.froz 1; have k0 := HM.out.c0.1; have k1 := HM.out.c1.1; have k2 := HM.out.c2.1; clear hV)
        | (go_at_call 18; refine (hco _ _ HW.out).mono ?_; rintro e V ⟨⟨u, rfl, hs⟩, hV⟩; replace HC := Hid.mk' (HC.out.trans (hV.mono HC.out.size)); replace HF := Hid.mk' (HF.out.below hV); replace HN := Hid.mk' (HN.out.below hV); replace HW := Hid.mk' (HW.out.below hV); replace HX := Hid.mk' (HX.out.below hV); replace HM := Hid.mk' (HM.out.below hV); have HY : Hid (Ints V u CR) := hs; obtain ⟨ay, cy, rfl, -, -⟩ := hs.open_; clear f0 f1 f2 f3 k0 k1 k2; have f0 := HF.out.c0; have f1 := HF.out.c1; have f2 := HF.out.froz 0; have f3 := HF.out.froz 1; have k0 := HM.out.c0.1; have k1 := HM.out.c1.1; have k2 := HM.out.c2.1; clear hV hs)
        | (go_at_call 17; refine (hsi _ _ _ HX.out HY.out).mono ?_; rintro e V ⟨rfl, hV⟩; replace HC := Hid.mk' (HC.out.trans (hV.mono HC.out.size)); replace HF := Hid.mk' (HF.out.below hV); replace HN := Hid.mk' (HN.out.below hV); replace HW := Hid.mk' (HW.out.below hV); replace HX := Hid.mk' (HX.out.below hV); replace HM := Hid.mk' (HM.out.below hV); clear f0 f1 f2 f3 k0 k1 k2; have f0 := HF.out.c0; have f1 := HF.out.c1; have f2 := HF.out.froz 0; have f3 := HF.out.froz 1; have k0 := HM.out.c0.1; have k1 := HM.out.c1.1; have k2 := HM.out.c2.1; clear hV HY)
        | fail)
      have hs5 := hsb V _ _ HN.out HW.out
      clear hfn hco hsi hsb
      go_wp2_with fail
      refine hs5.mono ?_
      clear hs5
      rintro e V2 ⟨rfl, hV⟩
      replace HC : Hid (Below w.heap.size w V2) := HC.out.trans (hV.mono HC.out.size)
      clear hV f0 f1 f2 f3 k0 k1 k2
      go_upto_region 26 with fail
      have hX := Hid.mk' (HC.out.alloc HC.out.size (.cells #[.int .i64 R, .int .i64 C, .slice none 0 0] 51))
      go_region
      go_wp2
      go_ret
      exact ⟨rfl, hX.out.drew⟩
    · skip
      replace HC := Hid.mk' (HC.out.trans (hV.mono HC.out.size))
      replace HF := Hid.mk' (HF.out.below hV)
      replace HN := Hid.mk' (HN.out.below hV)
      replace HW := Hid.mk' (HW.out.below hV)
      replace HX := Hid.mk' (HX.out.below hV)
      clear hV HR HP
      go_upto_region 16 with fail
      have HM : Hid (MatBox V.heap.size (V.alloc (.cells #[.int .i64 0, .int .i64 0, .slice none 0 0] 45)) 0 0 (.slice none 0 0)) := matBox_new V 0 0 (.slice none 0 0) 45
      have hV : Below V.heap.size V (V.alloc (.cells #[.int .i64 0, .int .i64 0, .slice none 0 0] 45)) := (Below.refl _ V).alloc (Nat.le_refl _) _
      replace HC := Hid.mk' (HC.out.trans (hV.mono HC.out.size))
      replace HF := Hid.mk' (HF.out.below hV)
      replace HN := Hid.mk' (HN.out.below hV)
      replace HW := Hid.mk' (HW.out.below hV)
      replace HX := Hid.mk' (HX.out.below hV)
      obtain ⟨W15, hW15⟩ : ∃ W15, V.alloc (.cells #[.int .i64 0, .int .i64 0, .slice none 0 0] 45) = W15 := ⟨_, rfl⟩
      obtain ⟨mb, hmb⟩ : ∃ mb, V.heap.size = mb := ⟨_, rfl⟩
      rw [hW15, hmb] at HM
      rw [hW15] at HC HF HN HW HX
      rw [hW15, hmb]
      clear hW15 hmb hV
      clear hcx hpa hck hcr
      have f0 := HF.out.c0
      have f1 := HF.out.c1
      have f2 := HF.out.froz 0
      have f3 := HF.out.froz 1
      have k0 := HM.out.c0.1
      have k1 := HM.out.c1.1
      have k2 := HM.out.c2.1
      have hd0 : decide (d < 0) = false := decide_eq_false (by omega)
      have hd7 : decide (7 < d) = false := decide_eq_false (by omega)
      go_upto_region 25 with (first
        | (go_at_call 16; refine (hfn _).mono ?_; rintro e V ⟨rfl, hV⟩; replace HC := Hid.mk' (HC.out.trans (hV.mono HC.out.size)); replace HF := Hid.mk' (HF.out.below hV); replace HN := Hid.mk' (HN.out.below hV); replace HW := Hid.mk' (HW.out.below hV); replace HX := Hid.mk' (HX.out.below hV); replace HM := Hid.mk' (HM.out.below hV); clear f0 f1 f2 f3 k0 k1 k2; have f0 := HF.out.c0; have f1 := HF.out.c1; have f2 := HF.out.froz 0; have f3 := HF.out.froz 1; have k0 := HM.out.c0.1; have k1 := HM.out.c1.1; have k2 := HM.out.c2.1; clear hV)
        | (go_at_call 18; refine (hco _ _ HW.out).mono ?_; rintro e V ⟨⟨u, rfl, hs⟩, hV⟩; replace HC := Hid.mk' (HC.out.trans (hV.mono HC.out.size)); replace HF := Hid.mk' (HF.out.below hV); replace HN := Hid.mk' (HN.out.below hV); replace HW := Hid.mk' (HW.out.below hV); replace HX := Hid.mk' (HX.out.below hV); replace HM := Hid.mk' (HM.out.below hV); have HY : Hid (Ints V u CR) := hs; obtain ⟨ay, cy, rfl, -, -⟩ := hs.open_; clear f0 f1 f2 f3 k0 k1 k2; have f0 := HF.out.c0; have f1 := HF.out.c1; have f2 := HF.out.froz 0; have f3 := HF.out.froz 1; have k0 := HM.out.c0.1; have k1 := HM.out.c1.1; have k2 := HM.out.c2.1; clear hV hs)
        | (go_at_call 17; refine (hsi _ _ _ HX.out HY.out).mono ?_; rintro e V ⟨rfl, hV⟩; replace HC := Hid.mk' (HC.out.trans (hV.mono HC.out.size)); replace HF := Hid.mk' (HF.out.below hV); replace HN := Hid.mk' (HN.out.below hV); replace HW := Hid.mk' (HW.out.below hV); replace HX := Hid.mk' (HX.out.below hV); replace HM := Hid.mk' (HM.out.below hV); clear f0 f1 f2 f3 k0 k1 k2; have f0 := HF.out.c0; have f1 := HF.out.c1; have f2 := HF.out.froz 0; have f3 := HF.out.froz 1; have k0 := HM.out.c0.1; have k1 := HM.out.c1.1; have k2 := HM.out.c2.1; clear hV HY)
        | fail)
      have hs5 := hsb V _ _ HN.out HW.out
      clear hfn hco hsi hsb
      go_wp2_with fail
      refine hs5.mono ?_
      clear hs5
      rintro e V2 ⟨rfl, hV⟩
      replace HC : Hid (Below w.heap.size w V2) := HC.out.trans (hV.mono HC.out.size)
      clear hV f0 f1 f2 f3 k0 k1 k2
      go_upto_region 26 with fail
      have hX := Hid.mk' (HC.out.alloc HC.out.size (.cells #[.int .i64 R, .int .i64 C, .slice none 0 0] 51))
      go_region
      go_wp2
      go_ret
      exact ⟨rfl, hX.out.drew⟩

end Go.Proofs.YtnnkmkhamipfiaaGreatDoor

namespace Go.Proofs.YtnnkmkhamipfiaaGreatDoor
open Go.RowKit Go.Shelf Go.Sort Go.Maps

/-- What a round keeps: all but the body's own blocks; new ones of these are fresh. -/
structure RoundKept {α : Type} (M : List α → World → Nat → Prop) (pre : List α) (x : α) (W W' : World) : Prop where
  size : W.heap.size ≤ W'.heap.size
  block : ∀ b, b < W.heap.size → ¬ M pre W b → W'.heap[b]? = W.heap[b]?
  fresh : ∀ b, M (pre ++ [x]) W' b → M pre W b ∨ W.heap.size ≤ b

/-- An iterator that lays memory alone, and reads the blocks S of what was there. -/
def SeqA {α : Type} (P : Program) (gf : Nat) (fb lb : Array Value) (enc : α → Value) (xs : List α) (S : Nat → Prop) (w : World) : Prop :=
  ∀ (l : Nat) (J : List α → World → Prop) (M : List α → World → Nat → Prop) (W : World), Below w.heap.size w W →
    (∀ s A C, J s A → Below A.heap.size A C → J s C ∧ ∀ b, M s C b → M s A b) →
    (∀ s A b, J s A → M s A b → ¬ S b ∧ b < A.heap.size) →
    (∀ pre x W1, J pre W1 → pre.length < xs.length → YieldAt Fence.wide 8 P l #[enc x] W1 fun e W' => e = .returned (.bool true) ∧ J (pre ++ [x]) W' ∧ RoundKept M pre x W1 W') →
    J [] W →
    CallsIn Fence.wide 9 P gf ((fb ++ #[.func (.yield l) #[] #[]]) ++ lb) W fun e W' => (∃ v, e = .returned v) ∧ J xs W'

/-- How a round ends. -/
def roundA {α : Type} (I : List α → World → Prop) (M : List α → World → Nat → Prop) (pre : List α) (x : α) (W : World) : Exit → Act → World → Prop
  | .normal, _, W' => I (pre ++ [x]) W' ∧ RoundKept M pre x W W'
  | .ret, _, _ => False
  | .exit _, _, _ => False
  | .goto _, _, _ => False
  | .panic _, _, _ => False
  | .outgrown, _, _ => False

theorem keep_put {W : World} {r D : Nat} {o' : Obj} : KeepBut W (W.putObj r o') D r :=
  have h := grownBy_putObj' W r o'
  ⟨h.os, h.tape, h.output, h.size, fun b hb _ h2 => h.block b hb (fun e => by cases e; exact h2 rfl)⟩

theorem range_a {α : Type} {P : Program} {g : Operand} {ps : Array Tmp} {assign body : Code} {Q : Exit → Act → World → Prop} {a : Act} {w w0 : World} {gf : Nat} {fb lb : Array Value} {enc : α → Value} {xs : List α} {S : Nat → Prop}
    (hg : a.eval g = .func (.func gf) fb lb) (eg : ∀ args w, (callFunc gf args).run P w = .ok (.enter gf args) w) (hseq : SeqA P gf fb lb enc xs S w0) (hS : ∀ b, S b → b < w0.heap.size) (hb0 : Below w0.heap.size w0 w) (hps : ps.size = 1)
    (I : List α → World → Prop) (M : List α → World → Nat → Prop)
    (hI : ∀ s A C, I s A → KeepBut A C w.heap.size (w.heap.size + 1) → I s C ∧ ∀ b, M s C b → M s A b)
    (hM : ∀ s A b, I s A → M s A b → (¬ S b ∧ b < A.heap.size) ∧ b ≠ w.heap.size ∧ b ≠ w.heap.size + 1)
    (h0 : I [] w) (a₁ : α → World → Act) (f₁ : α → World → World) (hgrow : ∀ x W, Below W.heap.size W (f₁ x W))
    (hassign : ∀ (l : Nat) (x : α) (W : World) (K : Act → World → Prop), K (a₁ x W) (f₁ x W) → assign.wpIn (Fence.wide.inRound l) 8 P (Exit.then K (fun _ _ _ => False)) { tmps := (ps.zip #[enc x]).foldl (fun t (p, v) => t.setIfInBounds p v) a.tmps, defers := [] } W)
    (hbody : ∀ (l : Nat) (pre : List α) (x : α) (W Wb : World), I pre Wb → KeepBut (f₁ x W) Wb w.heap.size (w.heap.size + 1) → w.heap.size + 2 ≤ W.heap.size → pre.length < xs.length → body.wpIn (Fence.wide.inRound l) 8 P (roundA I M pre x Wb) (a₁ x W) Wb)
    (hdone : ∀ W : World, I xs W → W.heap[w.heap.size]? = some (.deferred (some [])) → Q .normal { a with defers := { target := .collected w.heap.size, args := #[] } :: a.defers } W) :
    (Code.rangeFunc g ps assign body).wpIn Fence.wide 10 P Q a w := by
  refine wpIn_rangeFunc fun fn hfn => ?_
  let R : LoopState → Option Code → Loop := fun st pe => { state := st, pending := pe, fn := fn, tmps := a.tmps, params := ps, assign := assign, body := body, defers := w.heap.size }
  let W1 : World := (w.alloc (.deferred (some []))).alloc (.loop (R .ready none))
  have hs1 : W1.heap.size = w.heap.size + 2 := by simp [W1]
  have hB1 : Below w.heap.size w W1 := ((Below.refl _ w).alloc (Nat.le_refl _) _).alloc (by simp) _
  have hL1 : W1.heap[w.heap.size + 1]? = some (.loop (R .ready none)) := by
    have := World.alloc_heap_new (w.alloc (.deferred (some []))) (.loop (R .ready none))
    rwa [World.size_alloc] at this
  have hD1 : W1.heap[w.heap.size]? = some (.deferred (some [])) := (Below.heap_alloc _ _ _ (by simp)).trans (World.alloc_heap_new w _)
  refine ⟨w.heap.size + 1, [{ target := .collected w.heap.size, args := #[] }], W1, { target := .fn (.func gf) lb, args := fb ++ #[.func (.yield (w.heap.size + 1)) #[] #[]] }, W1, gf, (fb ++ #[.func (.yield (w.heap.size + 1)) #[] #[]]) ++ lb, W1,
    run_enterLoop_outer _ _ _ _ _, by simp only [resolve, hg]; simp [go_sem], fun _ _ => trivial, by simp [invoke, go_sem, eg], fun _ => by decide, ?_⟩
  have kb : ∀ {A C : World}, Below A.heap.size A C → KeepBut A C w.heap.size (w.heap.size + 1) := fun h => ⟨h.os, h.tape, h.output, h.size, fun b hb _ _ => h.block b hb⟩
  have k1 : KeepBut w W1 w.heap.size (w.heap.size + 1) := ⟨hB1.os, hB1.tape, hB1.output, hB1.size, fun b hb _ _ => hB1.block b hb⟩
  refine (hseq (w.heap.size + 1)
    (fun pre W => I pre W ∧ W.heap[w.heap.size + 1]? = some (.loop (R .ready none)) ∧ W.heap[w.heap.size]? = some (.deferred (some [])))
    (fun pre W b => M pre W b ∨ b = w.heap.size + 1)
    W1 (hb0.trans (hB1.mono hb0.size))
    (fun s A C h hB => ⟨⟨(hI s A C h.1 (kb hB)).1, (hB.block _ (Array.getElem?_eq_some_iff.1 h.2.1).1).trans h.2.1, (hB.block _ (Array.getElem?_eq_some_iff.1 h.2.2).1).trans h.2.2⟩, fun b hb => hb.imp ((hI s A C h.1 (kb hB)).2 b) id⟩)
    (fun s A b h hb => hb.elim (fun hm => (hM s A b h.1 hm).1) (fun e => by subst e; exact ⟨fun h => by have := hS _ h; have := hb0.size; omega, (Array.getElem?_eq_some_iff.1 h.2.1).1⟩))
    ?round ⟨(hI _ _ _ h0 k1).1, hL1, hD1⟩).mono ?behind
  case behind =>
    rintro e W2 ⟨⟨v, rfl⟩, hi, hl, hd⟩
    exact ⟨none, _, run_endLoop hl (by simp [R]), hdone _ (hI _ _ _ hi keep_put).1 ((World.putObj_heap_other (by omega)).trans hd)⟩
  case round =>
    rintro pre x W ⟨hi, hl, hd⟩ hpx
    have hlt := (Array.getElem?_eq_some_iff.1 hl).1
    have hdl := (Array.getElem?_eq_some_iff.1 hd).1
    have hg1 := hgrow x W
    have hi0 := hI _ _ _ hi (kb hg1)
    have hl0 := (hg1.block _ hlt).trans hl
    have hd0 := (hg1.block _ hdl).trans hd
    refine ⟨fn, _, assign, body, run_yield hl (by simp [R, hps]), roundIn_of_wpIn hfn (hassign _ x W _ ⟨_, run_beginRound hl0 rfl, ?_⟩)⟩
    obtain ⟨Wb, hWb⟩ : ∃ Wb, (f₁ x W).putObj (w.heap.size + 1) (.loop { R .ready none with state := .busy }) = Wb := ⟨_, rfl⟩
    have hl2 : Wb.heap[w.heap.size + 1]? = some (.loop { R .ready none with state := .busy }) := by rw [← hWb]; exact World.putObj_heap_same (Array.getElem?_eq_some_iff.1 hl0).1
    have hd2 : Wb.heap[w.heap.size]? = some (.deferred (some [])) := by rw [← hWb]; exact (World.putObj_heap_other (by omega)).trans hd0
    have hkb : KeepBut (f₁ x W) Wb w.heap.size (w.heap.size + 1) := by rw [← hWb]; exact keep_put
    have hib := hI _ _ _ hi0.1 hkb
    rw [show (f₁ x W).putObj (w.heap.size + 1) (.loop { R .ready none with state := .busy }) = Wb from hWb]
    refine wpIn_mono (hbody _ pre x W Wb hib.1 hkb (by omega) hpx) ?_
    rintro e b3 W3 h3
    cases e with
    | normal =>
      obtain ⟨hi3, hr3⟩ := h3
      have hnm : ∀ b, b = w.heap.size ∨ b = w.heap.size + 1 → ¬ M pre Wb b := fun b hb hm => by have := (hM _ _ _ hib.1 hm).2; omega
      have hl3 := (hr3.block _ (Array.getElem?_eq_some_iff.1 hl2).1 (hnm _ (.inr rfl))).trans hl2
      have hd3 := (hr3.block _ (Array.getElem?_eq_some_iff.1 hd2).1 (hnm _ (.inl rfl))).trans hd2
      have hk4 : ∀ o', KeepBut W3 (W3.putObj (w.heap.size + 1) o') w.heap.size (w.heap.size + 1) := fun o' => keep_put
      have hi4 := fun o' => hI _ _ _ hi3 (hk4 o')
      refine ⟨_, _, run_endRound none hl3, rfl, ⟨(hi4 _).1, World.putObj_heap_same (Array.getElem?_eq_some_iff.1 hl3).1, (World.putObj_heap_other (by omega)).trans hd3⟩, ?_⟩
      refine ⟨Nat.le_trans hg1.size (Nat.le_trans hkb.size (Nat.le_trans hr3.size (hk4 _).size)), fun b hb hnb => ?_, fun b hb => ?_⟩
      · have h1 : b ≠ w.heap.size + 1 := fun e => hnb (.inr e)
        have h2 : ¬ M pre Wb b := fun hm => hnb (.inl (hi0.2 b (hib.2 b hm)))
        by_cases hbd : b = w.heap.size
        · subst hbd
          rw [World.putObj_heap_other (by omega), hd3, hd]
        · exact ((hk4 _).block b (by have := hg1.size; have := hkb.size; have := hr3.size; omega) hbd h1).trans ((hr3.block b (by have := hg1.size; have := hkb.size; omega) h2).trans ((hkb.block b (by have := hg1.size; omega) hbd h1).trans (hg1.block b hb)))
      · rcases hb with hb | hb
        · rcases hr3.fresh b ((hi4 _).2 b hb) with h | h
          · exact .inl (.inl (hi0.2 b (hib.2 b h)))
          · exact .inr (Nat.le_trans (Nat.le_trans hg1.size hkb.size) h)
        · exact .inl (.inr hb)
    | ret => exact h3.elim
    | exit id => exact h3.elim
    | goto t => exact h3.elim
    | panic c => exact h3.elim
    | outgrown => exact h3.elim

end Go.Proofs.YtnnkmkhamipfiaaGreatDoor

namespace Go.Proofs.YtnnkmkhamipfiaaGreatDoor
open Go.RowKit Go.Shelf Go.Sort Go.Maps

def duoV (p : Duo) : Value := .agg #[.int .i64 p.1, .int .i64 p.2]

/-- The blocks that hold a rest. -/
def restS (B gl gc : Nat) (b : Nat) : Prop := b < B ∨ b = gl ∨ b = gc
theorem RestAt.keepB {B : Nat} {W W' : World} {L : List (List Int)} {ad aS ao : Option Addr} {cd cs co gl gc : Nat} {left : Nat → Bool} (h : RestAt B W L ad aS ao cd cs co gl gc left) (hs : W.heap.size ≤ W'.heap.size) (hk : ∀ b, restS B gl gc b → W'.heap[b]? = W.heap[b]?) : RestAt B W' L ad aS ao cd cs co gl gc left :=
  ⟨h.shape.keep hs (fun b _ hb => hk b (.inl hb)), h.lefts.of_block (hk gl (.inr (.inl rfl))), h.counts.of_block (hk gc (.inr (.inr rfl))), h.bl, h.bc, h.ne⟩
theorem RestAt.lt {B : Nat} {W : World} {L : List (List Int)} {ad aS ao : Option Addr} {cd cs co gl gc : Nat} {left : Nat → Bool} (h : RestAt B W L ad aS ao cd cs co gl gc left) : ∀ b, restS B gl gc b → b < W.heap.size := fun b hb => by
  have h1 := h.lefts.lt
  have h2 := h.counts.lt
  have h3 := h.bl
  rcases hb with h | h | h <;> omega

theorem freeP_ov {L : List (List Int)} (hL : FaceList L) {left : Nat → Bool} (hc : Cplx L left) {i q : Nat} (hi : i < L.length) (h : ovL L left i = [q]) : freeP L left i = [((i : Int), (q : Int))] := freeP_one ((free_iff hL hc hi).2 h)
theorem freeP_ovno {L : List (List Int)} (hL : FaceList L) {left : Nat → Bool} (hc : Cplx L left) {i : Nat} (hi : i < L.length) (h : ∀ q, ovL L left i ≠ [q]) : freeP L left i = [] := freeP_no fun e => by
  obtain ⟨q, hq⟩ := one_ex e
  exact h q ((free_iff hL hc hi).1 hq)
theorem freeTo_short {L : List (List Int)} {left : Nat → Bool} {k n : Nat} {x : Duo} (hk : k < n) (h : freeP L left k = [x]) : (freeTo L left k).length < (freeTo L left n).length := by
  obtain ⟨d, rfl⟩ : ∃ d, n = (k + 1) + d := ⟨n - (k + 1), by omega⟩
  have : ∀ d, (freeTo L left k).length < (freeTo L left (k + 1 + d)).length := fun d => by
    induction d with
    | zero => rw [Nat.add_zero, freeTo_succ, List.length_append, h]; simp
    | succ d ih => rw [← Nat.add_assoc, freeTo_succ, List.length_append]; omega
  exact this d

set_option maxRecDepth 100000 in
set_option maxHeartbeats 4000000 in
theorem free_seq {B : Nat} {L : List (List Int)} {ad aS ao : Option Addr} {cd cs co gl gc : Nat} {left : Nat → Bool} (w : World) (h : RestAt B w L ad aS ao cd cs co gl gc left) (hL6 : L.length ≤ 600) (hF : FaceList L) (hC : Cplx L left) :
    SeqA Tryz.prog 57 #[restV L.length ad aS ao cd cs co gl gc] #[] duoV (freeTo L left L.length) (restS B gl gc) w := by
  intro l J M W hW hJ hM hY h0
  have HJ : Hid (∀ s A C, J s A → Below A.heap.size A C → J s C ∧ ∀ b, M s C b → M s A b) := hJ
  have HM : Hid (∀ s A b, J s A → M s A b → ¬ restS B gl gc b ∧ b < A.heap.size) := hM
  have HLT : Hid (∀ b, restS B gl gc b → b < w.heap.size) := h.lt
  have HY : Hid (∀ pre x W1, J pre W1 → pre.length < (freeTo L left L.length).length → YieldAt Fence.wide 8 Tryz.prog l #[duoV x] W1 fun e W' => e = .returned (.bool true) ∧ J (pre ++ [x]) W' ∧ RoundKept M pre x W1 W') := hY
  have HFC : Hid (FaceList L ∧ Cplx L left) := ⟨hF, hC⟩
  have HOO : Hid (∀ (i : Nat) (V : World), w.heap.size ≤ V.heap.size → (∀ b, restS B gl gc b → V.heap[b]? = w.heap[b]?) → Calls Tryz.prog 93 #[restV L.length ad aS ao cd cs co gl gc, .int .i64 (i : Int)] V fun e w' => OnlySays L left (i : Int) V e w') := fun i V h1 h2 => only_over (i : Int) V (h.keepB h1 h2) hL6
  have hJ0 : J [] (W.alloc (.cells #[.slice ad L.length cd, .slice aS L.length cs, .slice ao L.length co, .slice (some ⟨gl, 0, none⟩) L.length L.length, .slice (some ⟨gc, 0, none⟩) L.length L.length] 101)) ∧ ¬ M [] (W.alloc (.cells #[.slice ad L.length cd, .slice aS L.length cs, .slice ao L.length co, .slice (some ⟨gl, 0, none⟩) L.length L.length, .slice (some ⟨gc, 0, none⟩) L.length L.length] 101)) W.heap.size := by
    have h1 := hJ [] W _ h0 ((Below.refl _ W).alloc (Nat.le_refl _) (.cells #[.slice ad L.length cd, .slice aS L.length cs, .slice ao L.length co, .slice (some ⟨gl, 0, none⟩) L.length L.length, .slice (some ⟨gc, 0, none⟩) L.length L.length] 101))
    exact ⟨h1.1, fun hm => by have := (hM [] W _ h0 (h1.2 _ hm)).2; omega⟩
  have HWB : Hid (∀ b, restS B gl gc b → (W.alloc (.cells #[.slice ad L.length cd, .slice aS L.length cs, .slice ao L.length co, .slice (some ⟨gl, 0, none⟩) L.length L.length, .slice (some ⟨gc, 0, none⟩) L.length L.length] 101)).heap[b]? = w.heap[b]?) := fun b hb => (Below.heap_alloc W _ b (by have := hW.size; have := h.lt b hb; omega)).trans (hW.block b (h.lt b hb))
  have hce := rest_cells W (.slice ad L.length cd) (.slice aS L.length cs) (.slice ao L.length co) (.slice (some ⟨gl, 0, none⟩) L.length L.length) (.slice (some ⟨gc, 0, none⟩) L.length L.length) 101
  have hws := hW.size
  unfold restV at HOO ⊢
  obtain ⟨n, hn⟩ : ∃ n, L.length = n := ⟨_, rfl⟩
  have HNN : Hid (L.length = n) := hn
  rw [hn] at HOO hJ0 hce HWB hL6 HY ⊢
  clear h hF hC hJ hM hY hW hn h0
  refine callsIn_of_wp Tryz.func57 rfl trivial ?_ rfl
  simp only [Tryz.ntmps57, List.size_toArray, List.length_cons, List.length_nil, Nat.reduceAdd, Nat.reduceSub, Array.replicate_succ, Array.replicate_zero, List.push_toArray, List.append_toArray, List.nil_append, List.cons_append]
  have c0 := hce 0 _ rfl
  gi_wp2
  obtain ⟨X, hX⟩ : ∃ X, W.alloc (.cells #[.slice ad n cd, .slice aS n cs, .slice ao n co, .slice (some ⟨gl, 0, none⟩) n n, .slice (some ⟨gc, 0, none⟩) n n] 101) = X := ⟨_, rfl⟩
  obtain ⟨xb, hxb⟩ : ∃ xb, W.heap.size = xb := ⟨_, rfl⟩
  have hxl : X.heap.size = xb + 1 := by rw [← hX, ← hxb]; simp
  rw [hX] at hJ0 HWB hce
  rw [hxb] at hJ0 hce hws
  try rw [hX]
  try rw [hxb]
  have HCE : Hid (∀ j u, [Value.slice ad n cd, .slice aS n cs, .slice ao n co, .slice (some ⟨gl, 0, none⟩) n n, .slice (some ⟨gc, 0, none⟩) n n][j]? = some u → X.cell? ⟨xb, j, none⟩ = some u) := hce
  have HJ0 := Hid.mk' hJ0
  have HXL : Hid (X.heap.size = xb + 1) := hxl
  clear hX hxb hce c0 hJ0 hxl
  gi_loopw [11] (fun p wr => ∃ k : Nat, k ≤ n ∧ p = .int .i64 k ∧ Hid (J (freeTo L left k) wr ∧ ¬ M (freeTo L left k) wr xb ∧ wr.heap[xb]? = X.heap[xb]? ∧ xb < wr.heap.size ∧ ∀ b, restS B gl gc b → wr.heap[b]? = w.heap[b]?)) (fun p _ => n - (intOf p).toNat)
  case atStart => exact ⟨0, by omega, rfl, HJ0.out.1, HJ0.out.2, rfl, by rw [HXL.out]; omega, HWB.out⟩
  case round =>
    obtain ⟨k, hk, rfl, HK⟩ := hrel
    by_cases hkn : k < n
    · have hoo := HOO.out k wr (by have := HK.out.2.2.2.1; omega) HK.out.2.2.2.2
      have r0 := (World.cell?_of_block (a := ⟨xb, 0, none⟩) HK.out.2.2.1).trans (HCE.out 0 _ rfl)
      have r1 := (World.cell?_of_block (a := ⟨xb, 1, none⟩) HK.out.2.2.1).trans (HCE.out 1 _ rfl)
      have r2 := (World.cell?_of_block (a := ⟨xb, 2, none⟩) HK.out.2.2.1).trans (HCE.out 2 _ rfl)
      have r3 := (World.cell?_of_block (a := ⟨xb, 3, none⟩) HK.out.2.2.1).trans (HCE.out 3 _ rfl)
      have r4 := (World.cell?_of_block (a := ⟨xb, 4, none⟩) HK.out.2.2.1).trans (HCE.out 4 _ rfl)
      gi_wp2
      refine ⟨trivial, ?_⟩
      refine (callsIn_wide.2 hoo).mono ?_
      clear hoo
      rintro e V ⟨hB, ⟨i, q, hik, hi, hov, rfl⟩ | ⟨hno, rfl⟩⟩
      · obtain rfl : i = k := by omega
        have hj5 := HJ.out _ _ _ HK.out.1 hB
        have hfp := freeP_ov HFC.out.1 HFC.out.2 hi hov
        have HFS : Hid (freeTo L left (i + 1) = freeTo L left i ++ [((i : Int), (q : Int))]) := by show _ = _; rw [freeTo_succ, hfp]
        obtain ⟨fn, tmps, assign, body, hy, hR⟩ := HY.out _ ((i : Int), (q : Int)) V hj5.1 (freeTo_short hkn hfp)
        have HNM : Hid (¬ M (freeTo L left i) V xb ∧ V.heap[xb]? = X.heap[xb]? ∧ xb < V.heap.size ∧ (∀ b, restS B gl gc b → V.heap[b]? = w.heap[b]?) ∧ ∀ b, restS B gl gc b → ¬ M (freeTo L left i) V b) := ⟨fun hm => HK.out.2.1 (hj5.2 _ hm), (hB.block _ HK.out.2.2.2.1).trans HK.out.2.2.1, Nat.lt_of_lt_of_le HK.out.2.2.2.1 hB.size, fun b hb => (hB.block b (by have := HK.out.2.2.2.1; have := HLT.out b hb; omega)).trans (HK.out.2.2.2.2 b hb), fun b hb hm => (HM.out _ _ _ hj5.1 hm).1 hb⟩
        unfold duoV at hy
        clear hj5 hfp hov hi hik hB
        gi_wp2
        refine hR.mono ?_
        clear hR
        rintro e W3 ⟨rfl, hJ3, hK3⟩
        have HK3 : Hid (J (freeTo L left i ++ [((i : Int), (q : Int))]) W3 ∧ RoundKept M (freeTo L left i) ((i : Int), (q : Int)) V W3) := ⟨hJ3, hK3⟩
        clear hJ3 hK3
        gi_wp2
        go_roundw
        case rel =>
          refine ⟨i + 1, by omega, by go_num, ?_⟩
          rw [HFS.out]
          refine ⟨HK3.out.1, fun hm => ?_, (HK3.out.2.block xb HNM.out.2.2.1 HNM.out.1).trans HNM.out.2.1, Nat.lt_of_lt_of_le HNM.out.2.2.1 HK3.out.2.size, fun b hb => (HK3.out.2.block b (by have := HNM.out.2.2.1; have := HLT.out b hb; omega) (HNM.out.2.2.2.2 b hb)).trans (HNM.out.2.2.2.1 b hb)⟩
          rcases HK3.out.2.fresh _ hm with h | h
          · exact HNM.out.1 h
          · have := HNM.out.2.2.1; omega
        case measure => simp [intOf]; omega
      · have hj5 := HJ.out _ _ _ HK.out.1 hB
        have HFS : Hid (freeTo L left (k + 1) = freeTo L left k) := by
          show _ = _
          rw [freeTo_succ, freeP_ovno HFC.out.1 HFC.out.2 (by rw [HNN.out]; exact hkn) (fun q => hno k rfl (by rw [HNN.out]; exact hkn) q), List.append_nil]
        have HNX : Hid (J (freeTo L left k) V ∧ ¬ M (freeTo L left k) V xb ∧ V.heap[xb]? = X.heap[xb]? ∧ xb < V.heap.size ∧ ∀ b, restS B gl gc b → V.heap[b]? = w.heap[b]?) := ⟨hj5.1, fun hm => HK.out.2.1 (hj5.2 _ hm), (hB.block _ HK.out.2.2.2.1).trans HK.out.2.2.1, Nat.lt_of_lt_of_le HK.out.2.2.2.1 hB.size, fun b hb => (hB.block b (by have := HK.out.2.2.2.1; have := HLT.out b hb; omega)).trans (HK.out.2.2.2.2 b hb)⟩
        clear hj5 hno hB
        gi_wp2
        refine ⟨fun _ h => (by cases h), ?_⟩
        gi_wp2
        go_roundw
        case rel => exact ⟨k + 1, by omega, by go_num, by rw [HFS.out]; exact HNX.out⟩
        case measure => simp [intOf]; omega
    · obtain rfl : k = n := by omega
      gi_wp2
      go_end0
      exact ⟨⟨_, rfl⟩, HK.out.1⟩

end Go.Proofs.YtnnkmkhamipfiaaGreatDoor
