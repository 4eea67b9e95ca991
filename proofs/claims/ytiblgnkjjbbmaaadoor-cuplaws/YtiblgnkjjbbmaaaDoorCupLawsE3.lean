/- The statement on LEIBNIZ: what is handed over is no cochain (2). The statement on LEIBNIZ: what is handed over is no cochain (3). -/
import Derived.Test.YtiblgnkjjbbmaaaDoorCupLawsBase
namespace Go.Proofs.YtiblgnkjjbbmaaaDoor
open Go.RowKit Go.Sort

set_option maxRecDepth 100000 in
set_option maxHeartbeats 16000000 in
theorem laws_e2 {a : Nat → Addr} {s : Nat → ByteArray} (vl vf vg vh : Value) (l all : List (List Int)) (f g h : List Int) (i k : Int) (hg : Good l all) (ho1 : ¬ OkAt all i f) (ho2 : OkAt all k g) (w : World) (hE : Errs a s w) (hT : TabOk w) (hl : Rows w vl l) (hf : Ints w vf f) (hgi : Ints w vg g) (hhi : Ints w vh h) (hfl : f.length ≤ 60) (hgl : g.length ≤ 60) (hhl : h.length ≤ 60) :
    Calls Tryd.prog 3 #[vl, .int .i64 i, vf, .int .i64 k, vg, vh] w fun e w' => e = .returned (.bool true) ∧ Below w.heap.size w w' := by
  have hct := cut_ w hE hT
  have HH : Hid (Errs a s w ∧ TabOk w ∧ Rows w vl l ∧ Ints w vf f ∧ Ints w vg g ∧ Ints w vh h) := ⟨hE, hT, hl, hf, hgi, hhi⟩
  have hli : ∀ V, Below w.heap.size w V → Calls Tryd.prog 5 #[vl, .int .i64 60] V fun e w' => ∃ q : Bool, e = .returned (.bool q) ∧ Below V.heap.size V w' ∧ (q = true → l.length ≤ 40 ∧ (∀ x ∈ l, x.length ≤ 12) ∧ ∀ all, Good l all → all.length ≤ 60) := fun V hV => little_few closed_ vl l 60 V (hl.below hV)
  obtain ⟨al, cl, rfl, -, -⟩ := hl.open_
  obtain ⟨af, cf, rfl, -, -⟩ := hf.open_
  obtain ⟨ag, cg, rfl, -, -⟩ := hgi.open_
  obtain ⟨ah, ch, rfl, -, -⟩ := hhi.open_
  obtain ⟨mf, hmf⟩ : ∃ m, f.length = m := ⟨_, rfl⟩
  obtain ⟨mg, hmg⟩ : ∃ m, g.length = m := ⟨_, rfl⟩
  obtain ⟨mh, hmh⟩ : ∃ m, h.length = m := ⟨_, rfl⟩
  have HM := Hid.mk' (And.intro hmf (And.intro hmg hmh))
  have HLN := Hid.mk' (And.intro hfl (And.intro hgl hhl))
  have h60f : ¬ (60 : Int) < (mf : Int) := by omega
  have h60g : ¬ (60 : Int) < (mg : Int) := by omega
  have h60h : ¬ (60 : Int) < (mh : Int) := by omega
  rw [hmf, hmg, hmh] at HH
  rw [hmf, hmg, hmh]
  clear hE hT hl hf hgi hhi hmf hmg hmh hfl hgl hhl
  go_enter Tryd.func3, Tryd.ntmps3
  go_wp2_with fail
  refine hct.mono ?_
  rintro e w1 ⟨rfl, hB1⟩
  have hl1 := hli w1 hB1
  have HB1 := Hid.mk' hB1
  clear hct hli hB1
  go_wp2_with fail
  refine hl1.mono ?_
  clear hl1
  rintro e w2 ⟨q, rfl, hB2, hq⟩
  have HB2 : Hid (Below w.heap.size w w2) := HB1.out.trans (hB2.mono HB1.out.size)
  clear hB2 HB1
  cases q with
  | false =>
    clear hq
    go_wp2_with fail
    go_ret
    exact ⟨rfl, HB2.out⟩
  | true =>
    have hs := hq rfl
    clear hq
    have HS : Hid (l.length ≤ 40 ∧ (∀ x ∈ l, x.length ≤ 12) ∧ l.length ≤ 100000 ∧ ∀ x ∈ l, x.length ≤ 1000) := ⟨hs.1, hs.2.1, by have := hs.1; omega, fun x hx => by have := hs.2.1 x hx; omega⟩
    have h60 : all.length ≤ 60 := hs.2.2 all hg
    obtain ⟨p0, hp0⟩ := delta_no a hg h60 ho1 HS.out.2.2.1 HS.out.2.2.2 HLN.out.1
    have HD0 := Hid.mk' hp0
    clear hp0
    have HD1 : Hid (∀ (s : Nat → ByteArray) (v u : Value) (V : World), Errs a s V → TabOk V → Rows V v l → Ints V u g → Calls Tryd.prog 9 #[.agg #[v], .int .i64 k, u] V fun e w' => ∃ b m c, e = .returned (.tuple #[.slice b m c, .nilIface]) ∧ Below V.heap.size V w') := by
      obtain ⟨d, x, e1, h2, e2, h4⟩ := okAt_word h60 ho2
      intro s v u V h5 h6 h7 h8
      rw [e2] at h8
      rw [e1]
      refine (delta_yes hg h60 HS.out.2.2.1 HS.out.2.2.2 h2 h4 s v u V h5 h6 h7 h8).mono fun e w' h => ?_
      obtain ⟨b, c, h9, -, h10⟩ := h
      exact ⟨b, _, c, h9, h10⟩
    obtain ⟨p2, hp2⟩ := cup_no a hg h60 (i := i) (k := k) (f := f) (g := g) (fun h => ho1 h.1) HS.out.2.2.1 HS.out.2.2.2 HLN.out.1 HLN.out.2.1
    have HC2 := Hid.mk' hp2
    clear hp2 ho1 ho2
    have her := error_g closed_ (.slice al l.length cl) l w2 (HH.out.2.2.1.below HB2.out) HS.out.2.2.1 HS.out.2.2.2
    have hclo : ∀ V, Below w.heap.size w V → Calls Tryd.prog 7 #[.slice al l.length cl] V fun e w' => ∃ v, e = .returned (.tuple #[v, .int .i64 0]) ∧ Rows w' v all ∧ Below V.heap.size V w' := fun V hV => closed_g closed_ (.slice al l.length cl) l all V (HH.out.2.2.1.below hV) HS.out.2.2.1 HS.out.2.2.2 hg
    replace her : Calls Tryd.prog 6 #[.slice al l.length cl] w2 fun e w' => e = .returned (.int .i64 0) ∧ Below w2.heap.size w2 w' := her.mono fun e w' h => by
      rcases h with ⟨h1, ⟨j, hj, -⟩ | ⟨all', -, h2⟩⟩
      · exact (bad_good hj hg).elim
      · exact ⟨h2, h1⟩
    have HG := Hid.mk' (And.intro hg h60)
    clear hs hg h60
    go_wp2_with fail
    refine her.mono ?_
    clear her
    rintro e w3 ⟨rfl, hB3⟩
    have HB3 : Hid (Below w.heap.size w w3) := HB2.out.trans (hB3.mono HB2.out.size)
    clear hB3 HB2
    have hc4 := hclo w3 HB3.out
    clear hclo
    go_wp2_with fail
    refine hc4.mono ?_
    clear hc4
    rintro e U0 ⟨vA, rfl, hvA, hB4⟩
    have HBU0 : Hid (Below w.heap.size w U0) := HB3.out.trans (hB4.mono HB3.out.size)
    have HA0 : Hid (Rows U0 vA all) := hvA
    obtain ⟨aA, cA, hA, -, -⟩ := hvA.open_
    subst hA
    have hcx := cx_ (.slice al l.length cl) l U0 (HH.out.2.2.1.below HBU0.out) HS.out.2.2.1 HS.out.2.2.2
    clear hvA hB4 HB3
    obtain ⟨mA, hmA⟩ : ∃ m, all.length = m := ⟨_, rfl⟩
    rw [hmA] at HA0 ⊢
    clear hmA
    go_wp2_with fail
    refine hcx.mono ?_
    clear hcx
    rintro e U1 ⟨v, rfl, hvx, hB5⟩
    obtain ⟨ax, cx, hX, -, -⟩ := hvx.open_
    subst hX
    have q0 := (box_new U1 (.slice ax l.length cx) 30).1
    have HBU : Hid (Below w.heap.size w (U1.alloc (.cells #[.slice ax l.length cx] 30))) := by
      have h := HBU0.out.trans (hB5.mono HBU0.out.size)
      exact h.alloc h.size _
    have HBA : Hid (Below U0.heap.size U0 (U1.alloc (.cells #[.slice ax l.length cx] 30))) := hB5.alloc hB5.size _
    have HXR : Hid (Rows (U1.alloc (.cells #[.slice ax l.length cx] 30)) (.slice ax l.length cx) l) := hvx.below ((Below.refl _ _).alloc (Nat.le_refl _) _)
    have HSZ : Hid (U1.heap.size < (U1.alloc (.cells #[.slice ax l.length cx] 30)).heap.size) := by
      show U1.heap.size < _
      simp
    obtain ⟨P, hP⟩ : ∃ P, U1.heap.size = P := ⟨_, rfl⟩
    obtain ⟨mx, hmx⟩ : ∃ m, l.length = m := ⟨_, rfl⟩
    obtain ⟨U, hU⟩ : ∃ U, U1.alloc (.cells #[.slice ax l.length cx] 30) = U := ⟨_, rfl⟩
    have HU := Hid.mk' hU
    rw [hU, hP] at q0 HSZ
    rw [hU] at HBU HBA HXR
    have HPP := Hid.mk' hP
    rw [hmx] at q0 HXR HU ⊢
    have HQ : Hid (∀ V, Below U.heap.size U V → V.cell? ⟨P, 0, none⟩ = some (.slice ax mx cx)) := fun V hV => (hV.cell (p := ⟨P, 0, none⟩) HSZ.out).trans q0
    have HEU : Hid (∀ V, Below U.heap.size U V → Errs a s V ∧ TabOk V ∧ Rows V (.slice ax mx cx) l) := fun V hV => ⟨HH.out.1.below (HBU.out.trans (hV.mono HBU.out.size)), HH.out.2.1.below (HBU.out.trans (hV.mono HBU.out.size)), HXR.out.below hV⟩
    have HIF : Hid (∀ V, Below U.heap.size U V → Ints V (.slice af mf cf) f ∧ Ints V (.slice ag mg cg) g ∧ Ints V (.slice ah mh ch) h) := fun V hV => ⟨HH.out.2.2.2.1.below (HBU.out.trans (hV.mono HBU.out.size)), HH.out.2.2.2.2.1.below (HBU.out.trans (hV.mono HBU.out.size)), HH.out.2.2.2.2.2.below (HBU.out.trans (hV.mono HBU.out.size))⟩
    have HTO : Hid (∀ V, Below U.heap.size U V → Calls Tryd.prog 11 #[.slice aA mA cA] V fun e w' => e = .returned (.int .i64 ((topN all : Int) - 1)) ∧ w' = V) := fun V hV => top_of (.slice aA mA cA) all V (HA0.out.below (HBA.out.trans (hV.mono HBA.out.size))) (by have := HG.out.2; omega) (fun x hx => by have := HG.out.1.short x hx; omega)
    have HD : Hid (Below U.heap.size U U) := Below.refl _ _
    clear hB5 hvx q0 HA0 HBA HBU0 HXR HSZ hP hmx hU
    go_upto_region 7 with fail
    rw [HU.out, HPP.out]
    have hq0 := HQ.out U HD.out
    go_upto_region 8 with (first | (go_at_call 9; refine (HD0.out s _ _ _ (HEU.out _ HD.out).1 (HEU.out _ HD.out).2.2 (HIF.out _ HD.out).1).mono ?_; rintro e V ⟨rfl, hV⟩; replace HD : Hid (Below U.heap.size U V) := HD.out.trans (hV.mono HD.out.size); have hq := HQ.out V HD.out; clear hV) | fail)
    go_upto_region 9 with (first | (go_at_call 9; refine (HD1.out s _ _ _ (HEU.out _ HD.out).1 (HEU.out _ HD.out).2.1 (HEU.out _ HD.out).2.2 (HIF.out _ HD.out).2.1).mono ?_; rintro e V ⟨b1, m1, c1, rfl, hV⟩; replace HD : Hid (Below U.heap.size U V) := HD.out.trans (hV.mono HD.out.size); have hq := HQ.out V HD.out; clear hV) | fail)
    go_upto_region 10 with (first | (go_at_call 10; refine (HC2.out s _ _ _ _ (HEU.out _ HD.out).1 (HEU.out _ HD.out).2.2 (HIF.out _ HD.out).1 (HIF.out _ HD.out).2.1).mono ?_; rintro e V ⟨rfl, hV⟩; replace HD : Hid (Below U.heap.size U V) := HD.out.trans (hV.mono HD.out.size); clear hV) | fail)
    go_wp2_with fail
    go_ret
    exact ⟨rfl, HBU.out.trans (HD.out.mono HBU.out.size)⟩

end Go.Proofs.YtiblgnkjjbbmaaaDoor

namespace Go.Proofs.YtiblgnkjjbbmaaaDoor
open Go.RowKit Go.Sort

set_option maxRecDepth 100000 in
set_option maxHeartbeats 16000000 in
theorem laws_e3 {a : Nat → Addr} {s : Nat → ByteArray} (vl vf vg vh : Value) (l all : List (List Int)) (f g h : List Int) (i k : Int) (hg : Good l all) (ho1 : OkAt all i f) (ho2 : ¬ OkAt all k g) (w : World) (hE : Errs a s w) (hT : TabOk w) (hl : Rows w vl l) (hf : Ints w vf f) (hgi : Ints w vg g) (hhi : Ints w vh h) (hfl : f.length ≤ 60) (hgl : g.length ≤ 60) (hhl : h.length ≤ 60) :
    Calls Tryd.prog 3 #[vl, .int .i64 i, vf, .int .i64 k, vg, vh] w fun e w' => e = .returned (.bool true) ∧ Below w.heap.size w w' := by
  have hct := cut_ w hE hT
  have HH : Hid (Errs a s w ∧ TabOk w ∧ Rows w vl l ∧ Ints w vf f ∧ Ints w vg g ∧ Ints w vh h) := ⟨hE, hT, hl, hf, hgi, hhi⟩
  have hli : ∀ V, Below w.heap.size w V → Calls Tryd.prog 5 #[vl, .int .i64 60] V fun e w' => ∃ q : Bool, e = .returned (.bool q) ∧ Below V.heap.size V w' ∧ (q = true → l.length ≤ 40 ∧ (∀ x ∈ l, x.length ≤ 12) ∧ ∀ all, Good l all → all.length ≤ 60) := fun V hV => little_few closed_ vl l 60 V (hl.below hV)
  obtain ⟨al, cl, rfl, -, -⟩ := hl.open_
  obtain ⟨af, cf, rfl, -, -⟩ := hf.open_
  obtain ⟨ag, cg, rfl, -, -⟩ := hgi.open_
  obtain ⟨ah, ch, rfl, -, -⟩ := hhi.open_
  obtain ⟨mf, hmf⟩ : ∃ m, f.length = m := ⟨_, rfl⟩
  obtain ⟨mg, hmg⟩ : ∃ m, g.length = m := ⟨_, rfl⟩
  obtain ⟨mh, hmh⟩ : ∃ m, h.length = m := ⟨_, rfl⟩
  have HM := Hid.mk' (And.intro hmf (And.intro hmg hmh))
  have HLN := Hid.mk' (And.intro hfl (And.intro hgl hhl))
  have h60f : ¬ (60 : Int) < (mf : Int) := by omega
  have h60g : ¬ (60 : Int) < (mg : Int) := by omega
  have h60h : ¬ (60 : Int) < (mh : Int) := by omega
  rw [hmf, hmg, hmh] at HH
  rw [hmf, hmg, hmh]
  clear hE hT hl hf hgi hhi hmf hmg hmh hfl hgl hhl
  go_enter Tryd.func3, Tryd.ntmps3
  go_wp2_with fail
  refine hct.mono ?_
  rintro e w1 ⟨rfl, hB1⟩
  have hl1 := hli w1 hB1
  have HB1 := Hid.mk' hB1
  clear hct hli hB1
  go_wp2_with fail
  refine hl1.mono ?_
  clear hl1
  rintro e w2 ⟨q, rfl, hB2, hq⟩
  have HB2 : Hid (Below w.heap.size w w2) := HB1.out.trans (hB2.mono HB1.out.size)
  clear hB2 HB1
  cases q with
  | false =>
    clear hq
    go_wp2_with fail
    go_ret
    exact ⟨rfl, HB2.out⟩
  | true =>
    have hs := hq rfl
    clear hq
    have HS : Hid (l.length ≤ 40 ∧ (∀ x ∈ l, x.length ≤ 12) ∧ l.length ≤ 100000 ∧ ∀ x ∈ l, x.length ≤ 1000) := ⟨hs.1, hs.2.1, by have := hs.1; omega, fun x hx => by have := hs.2.1 x hx; omega⟩
    have h60 : all.length ≤ 60 := hs.2.2 all hg
    have HD0 : Hid (∀ (s : Nat → ByteArray) (v u : Value) (V : World), Errs a s V → TabOk V → Rows V v l → Ints V u f → Calls Tryd.prog 9 #[.agg #[v], .int .i64 i, u] V fun e w' => ∃ b m c, e = .returned (.tuple #[.slice b m c, .nilIface]) ∧ Below V.heap.size V w') := by
      obtain ⟨d, x, e1, h2, e2, h4⟩ := okAt_word h60 ho1
      intro s v u V h5 h6 h7 h8
      rw [e2] at h8
      rw [e1]
      refine (delta_yes hg h60 HS.out.2.2.1 HS.out.2.2.2 h2 h4 s v u V h5 h6 h7 h8).mono fun e w' h => ?_
      obtain ⟨b, c, h9, -, h10⟩ := h
      exact ⟨b, _, c, h9, h10⟩
    obtain ⟨p1, hp1⟩ := delta_no a hg h60 ho2 HS.out.2.2.1 HS.out.2.2.2 HLN.out.2.1
    have HD1 := Hid.mk' hp1
    clear hp1
    obtain ⟨p2, hp2⟩ := cup_no a hg h60 (i := i) (k := k) (f := f) (g := g) (fun h => ho2 h.2) HS.out.2.2.1 HS.out.2.2.2 HLN.out.1 HLN.out.2.1
    have HC2 := Hid.mk' hp2
    clear hp2 ho1 ho2
    have her := error_g closed_ (.slice al l.length cl) l w2 (HH.out.2.2.1.below HB2.out) HS.out.2.2.1 HS.out.2.2.2
    have hclo : ∀ V, Below w.heap.size w V → Calls Tryd.prog 7 #[.slice al l.length cl] V fun e w' => ∃ v, e = .returned (.tuple #[v, .int .i64 0]) ∧ Rows w' v all ∧ Below V.heap.size V w' := fun V hV => closed_g closed_ (.slice al l.length cl) l all V (HH.out.2.2.1.below hV) HS.out.2.2.1 HS.out.2.2.2 hg
    replace her : Calls Tryd.prog 6 #[.slice al l.length cl] w2 fun e w' => e = .returned (.int .i64 0) ∧ Below w2.heap.size w2 w' := her.mono fun e w' h => by
      rcases h with ⟨h1, ⟨j, hj, -⟩ | ⟨all', -, h2⟩⟩
      · exact (bad_good hj hg).elim
      · exact ⟨h2, h1⟩
    have HG := Hid.mk' (And.intro hg h60)
    clear hs hg h60
    go_wp2_with fail
    refine her.mono ?_
    clear her
    rintro e w3 ⟨rfl, hB3⟩
    have HB3 : Hid (Below w.heap.size w w3) := HB2.out.trans (hB3.mono HB2.out.size)
    clear hB3 HB2
    have hc4 := hclo w3 HB3.out
    clear hclo
    go_wp2_with fail
    refine hc4.mono ?_
    clear hc4
    rintro e U0 ⟨vA, rfl, hvA, hB4⟩
    have HBU0 : Hid (Below w.heap.size w U0) := HB3.out.trans (hB4.mono HB3.out.size)
    have HA0 : Hid (Rows U0 vA all) := hvA
    obtain ⟨aA, cA, hA, -, -⟩ := hvA.open_
    subst hA
    have hcx := cx_ (.slice al l.length cl) l U0 (HH.out.2.2.1.below HBU0.out) HS.out.2.2.1 HS.out.2.2.2
    clear hvA hB4 HB3
    obtain ⟨mA, hmA⟩ : ∃ m, all.length = m := ⟨_, rfl⟩
    rw [hmA] at HA0 ⊢
    clear hmA
    go_wp2_with fail
    refine hcx.mono ?_
    clear hcx
    rintro e U1 ⟨v, rfl, hvx, hB5⟩
    obtain ⟨ax, cx, hX, -, -⟩ := hvx.open_
    subst hX
    have q0 := (box_new U1 (.slice ax l.length cx) 30).1
    have HBU : Hid (Below w.heap.size w (U1.alloc (.cells #[.slice ax l.length cx] 30))) := by
      have h := HBU0.out.trans (hB5.mono HBU0.out.size)
      exact h.alloc h.size _
    have HBA : Hid (Below U0.heap.size U0 (U1.alloc (.cells #[.slice ax l.length cx] 30))) := hB5.alloc hB5.size _
    have HXR : Hid (Rows (U1.alloc (.cells #[.slice ax l.length cx] 30)) (.slice ax l.length cx) l) := hvx.below ((Below.refl _ _).alloc (Nat.le_refl _) _)
    have HSZ : Hid (U1.heap.size < (U1.alloc (.cells #[.slice ax l.length cx] 30)).heap.size) := by
      show U1.heap.size < _
      simp
    obtain ⟨P, hP⟩ : ∃ P, U1.heap.size = P := ⟨_, rfl⟩
    obtain ⟨mx, hmx⟩ : ∃ m, l.length = m := ⟨_, rfl⟩
    obtain ⟨U, hU⟩ : ∃ U, U1.alloc (.cells #[.slice ax l.length cx] 30) = U := ⟨_, rfl⟩
    have HU := Hid.mk' hU
    rw [hU, hP] at q0 HSZ
    rw [hU] at HBU HBA HXR
    have HPP := Hid.mk' hP
    rw [hmx] at q0 HXR HU ⊢
    have HQ : Hid (∀ V, Below U.heap.size U V → V.cell? ⟨P, 0, none⟩ = some (.slice ax mx cx)) := fun V hV => (hV.cell (p := ⟨P, 0, none⟩) HSZ.out).trans q0
    have HEU : Hid (∀ V, Below U.heap.size U V → Errs a s V ∧ TabOk V ∧ Rows V (.slice ax mx cx) l) := fun V hV => ⟨HH.out.1.below (HBU.out.trans (hV.mono HBU.out.size)), HH.out.2.1.below (HBU.out.trans (hV.mono HBU.out.size)), HXR.out.below hV⟩
    have HIF : Hid (∀ V, Below U.heap.size U V → Ints V (.slice af mf cf) f ∧ Ints V (.slice ag mg cg) g ∧ Ints V (.slice ah mh ch) h) := fun V hV => ⟨HH.out.2.2.2.1.below (HBU.out.trans (hV.mono HBU.out.size)), HH.out.2.2.2.2.1.below (HBU.out.trans (hV.mono HBU.out.size)), HH.out.2.2.2.2.2.below (HBU.out.trans (hV.mono HBU.out.size))⟩
    have HTO : Hid (∀ V, Below U.heap.size U V → Calls Tryd.prog 11 #[.slice aA mA cA] V fun e w' => e = .returned (.int .i64 ((topN all : Int) - 1)) ∧ w' = V) := fun V hV => top_of (.slice aA mA cA) all V (HA0.out.below (HBA.out.trans (hV.mono HBA.out.size))) (by have := HG.out.2; omega) (fun x hx => by have := HG.out.1.short x hx; omega)
    have HD : Hid (Below U.heap.size U U) := Below.refl _ _
    clear hB5 hvx q0 HA0 HBA HBU0 HXR HSZ hP hmx hU
    go_upto_region 7 with fail
    rw [HU.out, HPP.out]
    have hq0 := HQ.out U HD.out
    go_upto_region 8 with (first | (go_at_call 9; refine (HD0.out s _ _ _ (HEU.out _ HD.out).1 (HEU.out _ HD.out).2.1 (HEU.out _ HD.out).2.2 (HIF.out _ HD.out).1).mono ?_; rintro e V ⟨b0, m0, c0, rfl, hV⟩; replace HD : Hid (Below U.heap.size U V) := HD.out.trans (hV.mono HD.out.size); have hq := HQ.out V HD.out; clear hV) | fail)
    go_upto_region 9 with (first | (go_at_call 9; refine (HD1.out s _ _ _ (HEU.out _ HD.out).1 (HEU.out _ HD.out).2.2 (HIF.out _ HD.out).2.1).mono ?_; rintro e V ⟨rfl, hV⟩; replace HD : Hid (Below U.heap.size U V) := HD.out.trans (hV.mono HD.out.size); have hq := HQ.out V HD.out; clear hV) | fail)
    go_upto_region 10 with (first | (go_at_call 10; refine (HC2.out s _ _ _ _ (HEU.out _ HD.out).1 (HEU.out _ HD.out).2.2 (HIF.out _ HD.out).1 (HIF.out _ HD.out).2.1).mono ?_; rintro e V ⟨rfl, hV⟩; replace HD : Hid (Below U.heap.size U V) := HD.out.trans (hV.mono HD.out.size); clear hV) | fail)
    go_wp2_with fail
    go_ret
    exact ⟨rfl, HBU.out.trans (HD.out.mono HBU.out.size)⟩

end Go.Proofs.YtiblgnkjjbbmaaaDoor
