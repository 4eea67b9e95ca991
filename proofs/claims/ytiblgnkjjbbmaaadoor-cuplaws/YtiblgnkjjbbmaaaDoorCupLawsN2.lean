/- The statement on LEIBNIZ: two cochains (2). -/
import Derived.Test.YtiblgnkjjbbmaaaDoorCupLawsBase
namespace Go.Proofs.YtiblgnkjjbbmaaaDoor
open Go.RowKit Go.Sort

set_option maxRecDepth 100000 in
set_option maxHeartbeats 16000000 in
theorem laws_n2 {a : Nat → Addr} {s : Nat → ByteArray} (vl vf vg vh : Value) (l all : List (List Int)) (f g h : List Int) (di dk x y : Nat) (hef : f = bitsI x) (heg : g = bitsI y) (hg : Good l all) (hd1 : di < topN all) (hd2 : dk < topN all) (hx : x < 2 ^ (ofDim all (di : Int)).length) (hy : y < 2 ^ (ofDim all (dk : Int)).length) (h1 : di + 1 < topN all) (h2 : ¬ di + dk + 2 ≤ topN all) (w : World) (hE : Errs a s w) (hT : TabOk w) (hl : Rows w vl l) (hf : Ints w vf f) (hgi : Ints w vg g) (hhi : Ints w vh h) (hfl : f.length ≤ 60) (hgl : g.length ≤ 60) (hhl : h.length ≤ 60) :
    Calls Tryd.prog 3 #[vl, .int .i64 (di : Int), vf, .int .i64 (dk : Int), vg, vh] w fun e w' => e = .returned (.bool true) ∧ Below w.heap.size w w' := by
  have hct := cut_ w hE hT
  have HH : Hid (Errs a s w ∧ TabOk w ∧ Rows w vl l ∧ Ints w vf f ∧ Ints w vg g ∧ Ints w vh h) := ⟨hE, hT, hl, hf, hgi, hhi⟩
  have hli : ∀ V, Below w.heap.size w V → Calls Tryd.prog 5 #[vl, .int .i64 60] V fun e w' => ∃ q : Bool, e = .returned (.bool q) ∧ Below V.heap.size V w' ∧ (q = true → l.length ≤ 40 ∧ (∀ x ∈ l, x.length ≤ 12) ∧ ∀ all, Good l all → all.length ≤ 60) := fun V hV => little_few closed_ vl l 60 V (hl.below hV)
  obtain ⟨al, cl, rfl, -, -⟩ := hl.open_
  obtain ⟨af, cf, rfl, -, -⟩ := hf.open_
  obtain ⟨ag, cg, rfl, -, -⟩ := hgi.open_
  obtain ⟨ah, ch, rfl, -, -⟩ := hhi.open_
  obtain ⟨mf, hmf⟩ : ∃ m, f.length = m := ⟨_, rfl⟩
  obtain ⟨mg, hmg⟩ : ∃ m, g.length = m := ⟨_, rfl⟩
  obtain ⟨mh, hmh⟩ : ∃ m, h.length = m := ⟨_, rfl⟩
  have HM := Hid.mk' (And.intro hmf (And.intro hmg hmh))
  have HLN := Hid.mk' (And.intro hfl (And.intro hgl hhl))
  have h60f : ¬ (60 : Int) < (mf : Int) := by omega
  have h60g : ¬ (60 : Int) < (mg : Int) := by omega
  have h60h : ¬ (60 : Int) < (mh : Int) := by omega
  rw [hmf, hmg, hmh] at HH
  rw [hmf, hmg, hmh]
  clear hE hT hl hf hgi hhi hmf hmg hmh hfl hgl hhl
  go_enter Tryd.func3, Tryd.ntmps3
  go_wp2_with fail
  refine hct.mono ?_
  rintro e w1 ⟨rfl, hB1⟩
  have hl1 := hli w1 hB1
  have HB1 := Hid.mk' hB1
  clear hct hli hB1
  go_wp2_with fail
  refine hl1.mono ?_
  clear hl1
  rintro e w2 ⟨q, rfl, hB2, hq⟩
  have HB2 : Hid (Below w.heap.size w w2) := HB1.out.trans (hB2.mono HB1.out.size)
  clear hB2 HB1
  cases q with
  | false =>
    clear hq
    go_wp2_with fail
    go_ret
    exact ⟨rfl, HB2.out⟩
  | true =>
    have hs := hq rfl
    clear hq
    have HS : Hid (l.length ≤ 40 ∧ (∀ x ∈ l, x.length ≤ 12) ∧ l.length ≤ 100000 ∧ ∀ x ∈ l, x.length ≤ 1000) := ⟨hs.1, hs.2.1, by have := hs.1; omega, fun x hx => by have := hs.2.1 x hx; omega⟩
    have h60 : all.length ≤ 60 := hs.2.2 all hg
    subst hef heg
    have h7 : topN all ≤ 7 := topN_upto hg.short
    have e0 : bitsI 0 = [] := by decide
    have hA := deltaW_lt all di x
    have hB := deltaW_lt all dk y
    have hP := cupW_lt all di dk x y
    obtain ⟨A, hAA⟩ : ∃ A, deltaW all di x = A := ⟨_, rfl⟩
    obtain ⟨B, hBB⟩ : ∃ B, deltaW all dk y = B := ⟨_, rfl⟩
    obtain ⟨Q, hQQ⟩ : ∃ Q, cupW all di dk x y = Q := ⟨_, rfl⟩
    rw [hAA] at hA
    rw [hBB] at hB
    rw [hQQ] at hP
    obtain ⟨nA, hnA⟩ : ∃ n, (bitsI A).length = n := ⟨_, rfl⟩
    obtain ⟨nB, hnB⟩ : ∃ n, (bitsI B).length = n := ⟨_, rfl⟩
    obtain ⟨nQ, hnQ⟩ : ∃ n, (bitsI Q).length = n := ⟨_, rfl⟩
    have HDX : Hid (∀ (s : Nat → ByteArray) (v u : Value) (V : World), Errs a s V → TabOk V → Rows V v l → Ints V u (bitsI x) → Calls Tryd.prog 9 #[.agg #[v], .int .i64 (di : Int), u] V fun e w' => ∃ b c, e = .returned (.tuple #[.slice b nA c, .nilIface]) ∧ Ints w' (.slice b nA c) (bitsI A) ∧ Below V.heap.size V w') := by
      rw [← hnA, ← hAA]
      exact fun s v u V => delta_yes hg h60 HS.out.2.2.1 HS.out.2.2.2 hd1 hx s v u V
    have HDY : Hid (∀ (s : Nat → ByteArray) (v u : Value) (V : World), Errs a s V → TabOk V → Rows V v l → Ints V u (bitsI y) → Calls Tryd.prog 9 #[.agg #[v], .int .i64 (dk : Int), u] V fun e w' => ∃ b c, e = .returned (.tuple #[.slice b nB c, .nilIface]) ∧ Ints w' (.slice b nB c) (bitsI B) ∧ Below V.heap.size V w') := by
      rw [← hnB, ← hBB]
      exact fun s v u V => delta_yes hg h60 HS.out.2.2.1 HS.out.2.2.2 hd2 hy s v u V
    have HCQ : Hid (∀ (s : Nat → ByteArray) (v u t : Value) (V : World), Errs a s V → TabOk V → Rows V v l → Ints V u (bitsI x) → Ints V t (bitsI y) → Calls Tryd.prog 10 #[.agg #[v], .int .i64 (di : Int), u, .int .i64 (dk : Int), t] V fun e w' => ∃ b c, e = .returned (.tuple #[.slice b nQ c, .nilIface]) ∧ Ints w' (.slice b nQ c) (bitsI Q) ∧ Below V.heap.size V w') := by
      rw [← hnQ, ← hQQ]
      exact fun s v u t V => cup_yes hg h60 HS.out.2.2.1 HS.out.2.2.2 hd1 hd2 hx hy s v u t V
    have HDA : Hid (∀ (s : Nat → ByteArray) (v u : Value) (V : World), Errs a s V → TabOk V → Rows V v l → Ints V u (bitsI A) → Calls Tryd.prog 9 #[.agg #[v], .int .i64 ((di : Int) + 1), u] V fun e w' => ∃ b c, e = .returned (.tuple #[.slice b 0 c, .nilIface]) ∧ Ints w' (.slice b 0 c) (bitsI 0) ∧ Below V.heap.size V w') := by
      intro s v u V q1 q2 q3 q4
      have h := delta_yes hg h60 HS.out.2.2.1 HS.out.2.2.2 h1 hA s v u V q1 q2 q3 q4
      have hz := delta_delta hg h60 hx
      rw [hAA] at hz
      rw [hz, e0] at h
      rw [e0]
      exact h
    have HNA : Hid (nA = 0 ↔ A = 0) := by rw [← hnA]; exact bitsI_len0 (lt64 hA (Nat.le_trans (ofDim_length _ _) (by omega)))
    have HNB : Hid (nB = 0 ↔ B = 0) := by rw [← hnB]; exact bitsI_len0 (lt64 hB (Nat.le_trans (ofDim_length _ _) (by omega)))
    have HCT : Hid (∃ (R nR : Nat), (∀ (s : Nat → ByteArray) (v u t : Value) (V : World), Errs a s V → TabOk V → Rows V v l → Ints V u (bitsI y) → Ints V t (bitsI x) → Calls Tryd.prog 10 #[.agg #[v], .int .i64 (dk : Int), u, .int .i64 (di : Int), t] V fun e w' => ∃ b c, e = .returned (.tuple #[.slice b nR c, .nilIface]) ∧ Ints w' (.slice b nR c) (bitsI R) ∧ Below V.heap.size V w') ∧ (A = 0 → B = 0 → di + dk < topN all → ∀ (s : Nat → ByteArray) (v u t : Value) (V : World), Errs a s V → TabOk V → Rows V v l → Ints V u (bitsI Q) → Ints V t (bitsI R) → Calls Tryd.prog 14 #[.agg #[v], .int .i64 ((di : Int) + (dk : Int)), u, t] V fun e w' => e = .returned (.tuple #[.bool true, .nilIface]) ∧ Below V.heap.size V w')) := by
      refine ⟨cupW all dk di y x, (bitsI (cupW all dk di y x)).length, fun s v u t V => cup_yes hg h60 HS.out.2.2.1 HS.out.2.2.2 hd2 hd1 hy hx s v u t V, fun z1 z2 z3 s v u t V q1 q2 q3 q4 q5 => ?_⟩
      have hR := cupW_lt all dk di y x
      rw [show dk + di = di + dk by omega] at hR
      have hs := same_turned hg h60 hx hy (hAA.trans z1) (hBB.trans z2)
      rw [hQQ] at hs
      exact same_yes hg h60 HS.out.2.2.1 HS.out.2.2.2 z3 hP hR hs s v u t V q1 q2 q3 q4 q5
    have HPR : Hid (∀ (z : Nat) (hi : di = z + 1), ¬ OkAt all (z : Int) h → ∃ p : Addr, ∀ (s : Nat → ByteArray) (v u : Value) (V : World), Errs a s V → Rows V v l → Ints V u h → Calls Tryd.prog 9 #[.agg #[v], .int .i64 (z : Int), u] V fun e w' => e = .returned (.tuple #[.slice none 0 0, .iface 133 (.pointer (some p))]) ∧ Below V.heap.size V w') := fun z hi hno => delta_no a hg h60 hno HS.out.2.2.1 HS.out.2.2.2 HLN.out.2.2
    have HPS : Hid (∀ (z : Nat) (hi : di = z + 1), OkAt all (z : Int) h → A = 0 → B = 0 → di + dk < topN all → ∃ t D nD E nE F nF : Nat, h = bitsI t ∧ (∀ (s : Nat → ByteArray) (v u : Value) (V : World), Errs a s V → TabOk V → Rows V v l → Ints V u (bitsI t) → Calls Tryd.prog 9 #[.agg #[v], .int .i64 (z : Int), u] V fun e w' => ∃ b c, e = .returned (.tuple #[.slice b nD c, .nilIface]) ∧ Ints w' (.slice b nD c) (bitsI D) ∧ Below V.heap.size V w') ∧ (∀ (u t : Value) (V : World), Ints V u (bitsI x) → Ints V t (bitsI D) → Calls Tryd.prog 13 #[u, t] V fun e w' => ∃ b c, e = .returned (.slice b nE c) ∧ Ints w' (.slice b nE c) (bitsI E) ∧ Below V.heap.size V w') ∧ (∀ (s : Nat → ByteArray) (v u t : Value) (V : World), Errs a s V → TabOk V → Rows V v l → Ints V u (bitsI E) → Ints V t (bitsI y) → Calls Tryd.prog 10 #[.agg #[v], .int .i64 (di : Int), u, .int .i64 (dk : Int), t] V fun e w' => ∃ b c, e = .returned (.tuple #[.slice b nF c, .nilIface]) ∧ Ints w' (.slice b nF c) (bitsI F) ∧ Below V.heap.size V w') ∧ (∀ (s : Nat → ByteArray) (v u t : Value) (V : World), Errs a s V → TabOk V → Rows V v l → Ints V u (bitsI Q) → Ints V t (bitsI F) → Calls Tryd.prog 14 #[.agg #[v], .int .i64 ((di : Int) + (dk : Int)), u, t] V fun e w' => e = .returned (.tuple #[.bool true, .nilIface]) ∧ Below V.heap.size V w')) := by
      intro z hi hok z1 z2 z3
      obtain ⟨d, t, e4, h4, e5, h5⟩ := okAt_word h60 hok
      obtain rfl : z = d := by omega
      subst hi
      have hDl := deltaW_lt all z t
      have hEl := xor_lt hx hDl
      refine ⟨t, deltaW all z t, (bitsI (deltaW all z t)).length, x ^^^ deltaW all z t, (bitsI (x ^^^ deltaW all z t)).length, cupW all (z + 1) dk (x ^^^ deltaW all z t) y, (bitsI (cupW all (z + 1) dk (x ^^^ deltaW all z t) y)).length, e5, fun s v u V => delta_yes hg h60 HS.out.2.2.1 HS.out.2.2.2 h4 h5 s v u V, fun u t V => sum_yes h60 hx hDl u t V, fun s v u t V => cup_yes hg h60 HS.out.2.2.1 HS.out.2.2.2 hd1 hd2 hEl hy s v u t V, fun s v u t V q1 q2 q3 q4 q5 => ?_⟩
      have hs := same_more hg h60 hx hy h5 (hAA.trans z1) (hBB.trans z2)
      rw [hQQ] at hs
      exact same_yes hg h60 HS.out.2.2.1 HS.out.2.2.2 z3 hP (cupW_lt ..) hs s v u t V q1 q2 q3 q4 q5
    obtain ⟨T, hTT⟩ : ∃ T, topN all = T := ⟨_, rfl⟩
    have HTT := Hid.mk' hTT
    have HHW := Hid.mk' (And.intro hx hy)
    rw [hTT] at hd1 hd2 h1 h2 h7 HPS HCT
    clear hx hy hA hB hP hAA hBB hQQ hnA hnB hnQ hTT e0
    have her := error_g closed_ (.slice al l.length cl) l w2 (HH.out.2.2.1.below HB2.out) HS.out.2.2.1 HS.out.2.2.2
    have hclo : ∀ V, Below w.heap.size w V → Calls Tryd.prog 7 #[.slice al l.length cl] V fun e w' => ∃ v, e = .returned (.tuple #[v, .int .i64 0]) ∧ Rows w' v all ∧ Below V.heap.size V w' := fun V hV => closed_g closed_ (.slice al l.length cl) l all V (HH.out.2.2.1.below hV) HS.out.2.2.1 HS.out.2.2.2 hg
    replace her : Calls Tryd.prog 6 #[.slice al l.length cl] w2 fun e w' => e = .returned (.int .i64 0) ∧ Below w2.heap.size w2 w' := her.mono fun e w' h => by
      rcases h with ⟨h1, ⟨j, hj, -⟩ | ⟨all', -, h2⟩⟩
      · exact (bad_good hj hg).elim
      · exact ⟨h2, h1⟩
    have HG := Hid.mk' (And.intro hg h60)
    clear hs hg h60
    go_wp2_with fail
    refine her.mono ?_
    clear her
    rintro e w3 ⟨rfl, hB3⟩
    have HB3 : Hid (Below w.heap.size w w3) := HB2.out.trans (hB3.mono HB2.out.size)
    clear hB3 HB2
    have hc4 := hclo w3 HB3.out
    clear hclo
    go_wp2_with fail
    refine hc4.mono ?_
    clear hc4
    rintro e U0 ⟨vA, rfl, hvA, hB4⟩
    have HBU0 : Hid (Below w.heap.size w U0) := HB3.out.trans (hB4.mono HB3.out.size)
    have HA0 : Hid (Rows U0 vA all) := hvA
    obtain ⟨aA, cA, hA, -, -⟩ := hvA.open_
    subst hA
    have hcx := cx_ (.slice al l.length cl) l U0 (HH.out.2.2.1.below HBU0.out) HS.out.2.2.1 HS.out.2.2.2
    clear hvA hB4 HB3
    obtain ⟨mA, hmA⟩ : ∃ m, all.length = m := ⟨_, rfl⟩
    rw [hmA] at HA0 ⊢
    clear hmA
    go_wp2_with fail
    refine hcx.mono ?_
    clear hcx
    rintro e U1 ⟨v, rfl, hvx, hB5⟩
    obtain ⟨ax, cx, hX, -, -⟩ := hvx.open_
    subst hX
    have q0 := (box_new U1 (.slice ax l.length cx) 30).1
    have HBU : Hid (Below w.heap.size w (U1.alloc (.cells #[.slice ax l.length cx] 30))) := by
      have h := HBU0.out.trans (hB5.mono HBU0.out.size)
      exact h.alloc h.size _
    have HBA : Hid (Below U0.heap.size U0 (U1.alloc (.cells #[.slice ax l.length cx] 30))) := hB5.alloc hB5.size _
    have HXR : Hid (Rows (U1.alloc (.cells #[.slice ax l.length cx] 30)) (.slice ax l.length cx) l) := hvx.below ((Below.refl _ _).alloc (Nat.le_refl _) _)
    have HSZ : Hid (U1.heap.size < (U1.alloc (.cells #[.slice ax l.length cx] 30)).heap.size) := by
      show U1.heap.size < _
      simp
    obtain ⟨P, hP⟩ : ∃ P, U1.heap.size = P := ⟨_, rfl⟩
    obtain ⟨mx, hmx⟩ : ∃ m, l.length = m := ⟨_, rfl⟩
    obtain ⟨U, hU⟩ : ∃ U, U1.alloc (.cells #[.slice ax l.length cx] 30) = U := ⟨_, rfl⟩
    have HU := Hid.mk' hU
    rw [hU, hP] at q0 HSZ
    rw [hU] at HBU HBA HXR
    have HPP := Hid.mk' hP
    rw [hmx] at q0 HXR HU ⊢
    have HQ : Hid (∀ V, Below U.heap.size U V → V.cell? ⟨P, 0, none⟩ = some (.slice ax mx cx)) := fun V hV => (hV.cell (p := ⟨P, 0, none⟩) HSZ.out).trans q0
    have HEU : Hid (∀ V, Below U.heap.size U V → Errs a s V ∧ TabOk V ∧ Rows V (.slice ax mx cx) l) := fun V hV => ⟨HH.out.1.below (HBU.out.trans (hV.mono HBU.out.size)), HH.out.2.1.below (HBU.out.trans (hV.mono HBU.out.size)), HXR.out.below hV⟩
    have HIF : Hid (∀ V, Below U.heap.size U V → Ints V (.slice af mf cf) (bitsI x) ∧ Ints V (.slice ag mg cg) (bitsI y) ∧ Ints V (.slice ah mh ch) h) := fun V hV => ⟨HH.out.2.2.2.1.below (HBU.out.trans (hV.mono HBU.out.size)), HH.out.2.2.2.2.1.below (HBU.out.trans (hV.mono HBU.out.size)), HH.out.2.2.2.2.2.below (HBU.out.trans (hV.mono HBU.out.size))⟩
    have HTO : Hid (∀ V, Below U.heap.size U V → Calls Tryd.prog 11 #[.slice aA mA cA] V fun e w' => e = .returned (.int .i64 ((T : Int) - 1)) ∧ w' = V) := fun V hV => by
      have := top_of (.slice aA mA cA) all V (HA0.out.below (HBA.out.trans (hV.mono HBA.out.size))) (by have := HG.out.2; omega) (fun x hx => by have := HG.out.1.short x hx; omega)
      rwa [HTT.out] at this
    have HD : Hid (Below U.heap.size U U) := Below.refl _ _
    clear hB5 hvx q0 HA0 HBA HBU0 HXR HSZ hP hmx hU
    go_upto_region 7 with fail
    rw [HU.out, HPP.out]
    have hq0 := HQ.out U HD.out
    go_upto_region 8 with (first | (go_at_call 9; refine (HDX.out s _ _ _ (HEU.out _ HD.out).1 (HEU.out _ HD.out).2.1 (HEU.out _ HD.out).2.2 (HIF.out _ HD.out).1).mono ?_; rintro e V ⟨bA, cA, rfl, hx, hV⟩; have HIA := Hid.mk' hx; replace HD : Hid (Below U.heap.size U V) := HD.out.trans (hV.mono HD.out.size);  have hq := HQ.out V HD.out; clear hx hV) | fail)
    go_upto_region 9 with (first | (go_at_call 9; refine (HDY.out s _ _ _ (HEU.out _ HD.out).1 (HEU.out _ HD.out).2.1 (HEU.out _ HD.out).2.2 (HIF.out _ HD.out).2.1).mono ?_; rintro e V ⟨bB, cB, rfl, hx, hV⟩; have HIB := Hid.mk' hx; replace HD : Hid (Below U.heap.size U V) := HD.out.trans (hV.mono HD.out.size); replace HIA := Hid.mk' (HIA.out.below (hV.mono (Nat.le_refl _))); have hq := HQ.out V HD.out; clear hx hV) | fail)
    go_upto_region 10 with (first | (go_at_call 10; refine (HCQ.out s _ _ _ _ (HEU.out _ HD.out).1 (HEU.out _ HD.out).2.1 (HEU.out _ HD.out).2.2 (HIF.out _ HD.out).1 (HIF.out _ HD.out).2.1).mono ?_; rintro e V ⟨bQ, cQ, rfl, hx, hV⟩; have HIQ := Hid.mk' hx; replace HD : Hid (Below U.heap.size U V) := HD.out.trans (hV.mono HD.out.size); replace HIA := Hid.mk' (HIA.out.below (hV.mono (Nat.le_refl _))); replace HIB := Hid.mk' (HIB.out.below (hV.mono (Nat.le_refl _))); have hq := HQ.out V HD.out; clear hx hV) | fail)
    have hp1 : (di : Int) < (T : Int) - 1 := by omega
    have hp2 : ¬ (di : Int) + (dk : Int) + 1 ≤ (T : Int) - 1 := by omega
    go_upto_region 13 with (first | (go_at_call 11; refine (HTO.out _ HD.out).mono ?_; rintro e V9 ⟨rfl, h9⟩; obtain rfl : V = V9 := h9.symm) | fail)
    go_upto_region 16 with (first | (go_at_call 9; refine (HDA.out s _ _ _ (HEU.out _ HD.out).1 (HEU.out _ HD.out).2.1 (HEU.out _ HD.out).2.2 HIA.out).mono ?_; rintro e V ⟨bD, cD, rfl, hx, hV⟩; have HID := Hid.mk' hx; replace HD : Hid (Below U.heap.size U V) := HD.out.trans (hV.mono HD.out.size); replace HIA := Hid.mk' (HIA.out.below (hV.mono (Nat.le_refl _))); replace HIB := Hid.mk' (HIB.out.below (hV.mono (Nat.le_refl _))); replace HIQ := Hid.mk' (HIQ.out.below (hV.mono (Nat.le_refl _))); have hq := HQ.out V HD.out; clear hx hV) | fail)
    go_upto_region 22 with (first | (go_at_call 11; refine (HTO.out _ HD.out).mono ?_; rintro e V9 ⟨rfl, h9⟩; obtain rfl : V = V9 := h9.symm) | fail)
    by_cases hA0 : nA = 0
    · subst hA0
      have hAz := HNA.out.1 rfl
      by_cases hB0 : nB = 0
      · subst hB0
        have hBz := HNB.out.1 rfl
        by_cases h3 : di + dk < T
        · have hp3 : ¬ (T : Int) - 1 < (di : Int) + (dk : Int) := by omega
          obtain ⟨R, nR, hr1, hr2⟩ := HCT.out
          have HR1 := Hid.mk' hr1
          have HR2 := Hid.mk' (hr2 hAz hBz h3)
          clear hr1 hr2
          go_upto_region 24 with (first | (go_at_call 11; refine (HTO.out _ HD.out).mono ?_; rintro e V9 ⟨rfl, h9⟩; obtain rfl : V = V9 := h9.symm) | fail)
          go_upto_region 25 with (first | (go_at_call 10; refine (HR1.out s _ _ _ _ (HEU.out _ HD.out).1 (HEU.out _ HD.out).2.1 (HEU.out _ HD.out).2.2 (HIF.out _ HD.out).2.1 (HIF.out _ HD.out).1).mono ?_; rintro e V ⟨bR, cR, rfl, hx, hV⟩; have HIR := Hid.mk' hx; replace HD : Hid (Below U.heap.size U V) := HD.out.trans (hV.mono HD.out.size); replace HIQ := Hid.mk' (HIQ.out.below (hV.mono (Nat.le_refl _))); have hq := HQ.out V HD.out; clear hx hV) | fail)
          go_upto_region 28 with (first | (go_at_call 14; refine (HR2.out s _ _ _ _ (HEU.out _ HD.out).1 (HEU.out _ HD.out).2.1 (HEU.out _ HD.out).2.2 HIQ.out HIR.out).mono ?_; rintro e V ⟨rfl, hV⟩; replace HD : Hid (Below U.heap.size U V) := HD.out.trans (hV.mono HD.out.size); replace HIQ := Hid.mk' (HIQ.out.below (hV.mono (Nat.le_refl _))); have hq := HQ.out V HD.out; clear hV) | fail)
          rcases Nat.eq_zero_or_pos di with h0 | h0
          · subst h0
            go_wp2_with fail
            go_ret
            exact ⟨rfl, HBU.out.trans (HD.out.mono HBU.out.size)⟩
          · obtain ⟨z, hz⟩ : ∃ z, di = z + 1 := ⟨di - 1, by omega⟩
            have hp4 : ((di : Int) == 0) = false := by simp; omega
            have hp5 : (di : Int) - 1 = (z : Int) := by omega
            by_cases hok : OkAt all (z : Int) h
            · obtain ⟨t, D, nD, E, nE, F, nF, k0, k1, k2, k3, k4⟩ := HPS.out z hz hok hAz hBz h3
              have HK1 := Hid.mk' k1
              have HK2 := Hid.mk' k2
              have HK3 := Hid.mk' k3
              have HK4 := Hid.mk' k4
              have HIH : Hid (∀ V, Below U.heap.size U V → Ints V (.slice ah mh ch) (bitsI t)) := fun V hV => by rw [← k0]; exact (HIF.out V hV).2.2
              clear k0 k1 k2 k3 k4 hok hz
              go_upto_region 33 with (first | (go_at_call 9; refine (HK1.out s _ _ _ (HEU.out _ HD.out).1 (HEU.out _ HD.out).2.1 (HEU.out _ HD.out).2.2 (HIH.out _ HD.out)).mono ?_; rintro e V ⟨bD, cD, rfl, hx, hV⟩; have HID := Hid.mk' hx; replace HD : Hid (Below U.heap.size U V) := HD.out.trans (hV.mono HD.out.size); replace HIQ := Hid.mk' (HIQ.out.below (hV.mono (Nat.le_refl _))); have hq := HQ.out V HD.out; clear hx hV) | fail)
              have HDd : Hid (∀ n, Below U.heap.size U (V.drewN n)) := fun n => HD.out.trans (drew_below V n)
              go_region_with (first
                | (go_at_call 13; refine (HK2.out _ _ _ (by first | exact (HIF.out _ HD.out).1 | exact (HIF.out _ HD.out.drew).1) (by first | exact HID.out | exact HID.out.below (Below.refl _ _).drew)).mono ?_; rintro e V8 ⟨bE, cE, rfl, hx, hV⟩; have HIE := Hid.mk' hx; have HD8 : Hid (Below U.heap.size U V8) := (by first | exact HD.out.trans (hV.mono HD.out.size) | exact HD.out.drew.trans (hV.mono HD.out.drew.size)); have HIQ8 : Hid (Ints V8 (.slice bQ nQ cQ) (bitsI Q)) := (by first | exact HIQ.out.below hV | exact (HIQ.out.below (Below.refl _ _).drew).below hV); have hq := HQ.out V8 HD8.out; clear hx hV)
                | (go_at_call 10; refine (HK3.out s _ _ _ _ (HEU.out _ HD8.out).1 (HEU.out _ HD8.out).2.1 (HEU.out _ HD8.out).2.2 HIE.out (HIF.out _ HD8.out).2.1).mono ?_; rintro e V7 ⟨bF, cF, rfl, hx, hV⟩; have HIG := Hid.mk' hx; have HD7 : Hid (Below U.heap.size U V7) := HD8.out.trans (hV.mono HD8.out.size); have HIQ7 : Hid (Ints V7 (.slice bQ nQ cQ) (bitsI Q)) := HIQ8.out.below hV; have hq := HQ.out V7 HD7.out; clear hx hV)
                | fail)
              all_goals (
                go_upto_region 35 with (first | (go_at_call 14; refine (HK4.out s _ _ _ _ (HEU.out _ HD7.out).1 (HEU.out _ HD7.out).2.1 (HEU.out _ HD7.out).2.2 HIQ7.out HIG.out).mono ?_; rintro e V6 ⟨rfl, hV⟩; have HD6 : Hid (Below U.heap.size U V6) := HD7.out.trans (hV.mono HD7.out.size); clear hV) | fail)
                go_wp2_with fail
                go_ret
                exact ⟨rfl, HBU.out.trans (HD6.out.mono HBU.out.size)⟩)
            · obtain ⟨p, hp⟩ := HPR.out z hz hok
              have HP := Hid.mk' hp
              clear hp hok hz
              go_upto_region 31 with (first | (go_at_call 9; refine (HP.out s _ _ _ (HEU.out _ HD.out).1 (HEU.out _ HD.out).2.2 (HIF.out _ HD.out).2.2).mono ?_; rintro e V ⟨rfl, hV⟩; replace HD : Hid (Below U.heap.size U V) := HD.out.trans (hV.mono HD.out.size); clear hV) | fail)
              go_wp2_with fail
              go_ret
              exact ⟨rfl, HBU.out.trans (HD.out.mono HBU.out.size)⟩
        · have hp3 : (T : Int) - 1 < (di : Int) + (dk : Int) := by omega
          go_wp2_with (first | (go_at_call 11; refine (HTO.out _ HD.out).mono ?_; rintro e V9 ⟨rfl, h9⟩; obtain rfl : V = V9 := h9.symm) | fail)
          go_ret
          exact ⟨rfl, HBU.out.trans (HD.out.mono HBU.out.size)⟩
      · have hp4 : (0 : Int) < (nB : Int) := by omega
        go_wp2_with fail
        go_ret
        exact ⟨rfl, HBU.out.trans (HD.out.mono HBU.out.size)⟩
    · have hp5 : (0 : Int) < (nA : Int) := by omega
      go_wp2_with fail
      go_ret
      exact ⟨rfl, HBU.out.trans (HD.out.mono HBU.out.size)⟩

end Go.Proofs.YtiblgnkjjbbmaaaDoor
