/- The program's Same. -/
import Derived.Test.YtiblgnkjjbbmaaaDoorCupSameP
namespace Go.Proofs.YtiblgnkjjbbmaaaDoor
open Go.RowKit Go.Sort Go.Maps Go.Deep

theorem sorterOfClasses_ {l all : List (List Int)} (hg : Good l all) (h60 : all.length ≤ 60) (d : Nat) (hd : d ≤ 100) (v : Value) (w : World) (h : ShapeAt w v all) (hT : TabOk w) :
    Calls Tryd.prog 27 #[v, .int .i64 (d : Int)] w fun e w' => ∃ f, e = .returned f ∧ SorterAt w' w.heap.size (ofDim all (d : Int)).length f (fedB (rowsD all d)) ∧ Below w.heap.size w w' := by
  cases d with
  | zero => exact sorterOfClasses_zero _ v w h
  | succ d => exact sorterOfClasses_succ hg h60 d (by omega) v w h hT

set_option maxRecDepth 100000 in
set_option maxHeartbeats 8000000 in
theorem cupSame_ok {a : Nat → Addr} {s : Nat → ByteArray} {l all : List (List Int)} {d : Nat} {f h : List Int} (hg : Good l all) (h60 : all.length ≤ 60) (hd : d < topN all) (ho : OkCo (ofDim all (d : Int)).length f) (ho' : OkCo (ofDim all (d : Int)).length h) (vl vf vh : Value) (w : World) (hE : Errs a s w) (hT : TabOk w) (hl : Rows w vl l) (hll : l.length ≤ 100000) (hle : ∀ x ∈ l, x.length ≤ 1000) (hf : Ints w vf f) (hfl : f.length ≤ 60) (hh : Ints w vh h) (hhl : h.length ≤ 60) :
    Calls Tryd.prog 14 #[.agg #[vl], .int .i64 (d : Int), vf, vh] w fun e w' => e = .returned (.tuple #[.bool (sameP all d (maskN f) (maskN h)), .nilIface]) ∧ Below w.heap.size w w' := by
  have h7 : topN all ≤ 7 := topN_upto hg.short
  have hn6 : (ofDim all (d : Int)).length ≤ 60 := Nat.le_trans (ofDim_length _ _) h60
  obtain ⟨al, cl, rfl, -, -⟩ := hl.open_
  have hB1 : Below w.heap.size w (w.alloc (.cells #[.slice al l.length cl] 30)) := (Below.refl _ w).alloc (Nat.le_refl _) _
  have hco := co_two (w.alloc (.cells #[.slice al l.length cl] 30)) vf vh (d : Int) (d : Int) f h 55 (hf.below hB1) (hh.below hB1)
  have hB2 : Below w.heap.size w ((w.alloc (.cells #[.slice al l.length cl] 30)).alloc (.cells #[.int .i64 (d : Int), vf, .int .i64 (d : Int), vh] 55)) := hB1.alloc (by simp) _
  have hc := cochains_ok hg h60 (cs := [((d : Int), f), ((d : Int), h)]) (by intro c hc; simp at hc; rcases hc with rfl | rfl; exact ⟨by simp, by simpa using hd⟩; exact ⟨by simp, by simpa using hd⟩) (by intro c hc; simp at hc; rcases hc with rfl | rfl; exact ho; exact ho') (.slice al l.length cl) _ 2 _ _ (hE.below hB2) (hl.below hB2) hll hle hco (by simp) (by intro c hc; simp at hc; rcases hc with rfl | rfl; exact hfl; exact hhl)
  have q0 := (box_new w (.slice al l.length cl) 30).1
  obtain ⟨af, mf, cf, rfl⟩ : ∃ a m c, vf = .slice a m c := by obtain ⟨a, c, e, -⟩ := hf.open_; exact ⟨a, _, c, e⟩
  obtain ⟨ah, mh, ch, rfl⟩ : ∃ a m c, vh = .slice a m c := by obtain ⟨a, c, e, -⟩ := hh.open_; exact ⟨a, _, c, e⟩
  have HB2 := Hid.mk' hB2
  have HT := Hid.mk' hT
  rw [World.size_alloc] at hc
  have HSAME : Hid (sameP all d (maskN f) (maskN h) = (decide (deltaW all d (maskN f) = 0) && decide (deltaW all d (maskN h) = 0) && decide (redB (fedB (rowsD all d)) (maskN f ^^^ maskN h) = 0))) := Hid.mk' rfl
  have HTB : Hid (TbOk (fedB (rowsD all d))) := fedB_ok (rowsD_lt all d (by omega))
  obtain ⟨x, hx⟩ : ∃ x, maskN f = x := ⟨_, rfl⟩
  obtain ⟨y, hy⟩ : ∃ y, maskN h = y := ⟨_, rfl⟩
  have HXY := Hid.mk' (And.intro hx hy)
  rw [hx, hy] at HSAME
  have HIC : Hid (∀ (S : Nat → Prop) (v u : Value) (z : Nat) (W : World), ShapeAt W v all → WordIn S W u (ofDim all (d : Int)).length z → TabOk W → Calls Tryd.prog 25 #[v, .int .i64 (d : Int), u] W fun e w' => e = .returned (.bool (decide (deltaW all d z = 0))) ∧ Below W.heap.size W w') := fun S v u z W h1 h2 h3 => isCocycle_ hg h60 v u d z (by omega) W h1 h2 h3
  have HSO : Hid (∀ (v : Value) (W : World), ShapeAt W v all → TabOk W → Calls Tryd.prog 27 #[v, .int .i64 (d : Int)] W fun e w' => ∃ bx g N, e = .returned (.func (.func 46) #[] #[.pointer (some ⟨bx, 0, none⟩)]) ∧ (w'.cell? ⟨bx, 0, none⟩ = some (.map (some g)) ∧ TbAt w' W.heap.size g (ofDim all (d : Int)).length N (fedB (rowsD all d)) ∧ N ≤ 1000 ∧ W.heap.size ≤ g) ∧ Below W.heap.size W w') := fun v W h1 h2 => (sorterOfClasses_ hg h60 d (by omega) v W h1 h2).mono fun e w' h => by
    obtain ⟨f, rfl, ⟨bx, g, N, rfl, h3, h4, h5, -, h8⟩, h6⟩ := h
    exact ⟨bx, g, N, rfl, ⟨h3, h4, h5, h8⟩, h6⟩
  rw [hx, hy]
  clear hE hl hll hle hg h60 hd ho ho' hB1 hB2 hco hf hfl hh hhl hT h7 hx hy
  go_enter Tryd.func14, Tryd.ntmps14
  go_wp2_with fail
  refine hc.mono ?_
  clear hc
  rintro e W2 ⟨B, aF, cF, g, av, cv, rfl, hb1, hb2, hS, hW, hB3⟩
  obtain ⟨G, rfl, hG1, hG2, hcl⟩ := hW.cellAt (by simp)
  obtain ⟨k1, kS, kW, kB⟩ := behind_good hb2 hS hW
  obtain ⟨a0, m0, c0, y0, yw⟩ := hcl 0 (by simp)
  obtain ⟨a1, m1, c1, z0, zw⟩ := hcl 1 (by simp)
  have HB3 : Hid (Below w.heap.size w (W2.alloc (.cells #[.slice aF (topN all) cF, .map (some g)] 50)) ∧ w.heap.size ≤ B) := by
    have h := HB2.out.trans (hB3.mono HB2.out.size)
    exact ⟨h.alloc h.size _, by have := HB2.out.size; omega⟩
  have t0 := k1.1
  have t1 := k1.2
  have y1 := (kB.cell (p := ⟨G, 0, none⟩) hG2).trans y0
  have z1 := (kB.cell (p := ⟨G, 1, none⟩) hG2).trans z0
  obtain ⟨T, hT⟩ : ∃ T, topN all = T := ⟨_, rfl⟩
  rw [hT] at t0 t1 y1 z1 kS HB3 ⊢
  obtain ⟨W3, hW3⟩ : ∃ W3, W2.alloc (.cells #[.slice aF T cF, .map (some g)] 50) = W3 := ⟨_, rfl⟩
  have HW3 := Hid.mk' hW3
  rw [hT] at kB
  rw [hW3] at t0 t1 y1 z1 kS HB3 kB
  obtain ⟨Q, hQ⟩ : ∃ Q, W2.heap.size = Q := ⟨_, rfl⟩
  have HQ := Hid.mk' hQ
  rw [hQ] at t0 t1
  have hQ3 : W3.heap.size = Q + 1 := by rw [← hW3, ← hQ]; simp
  have HWD : Hid (WordIn (fun b => B ≤ b ∧ b ≠ G ∧ b < Q) W3 (.slice a0 m0 c0) (ofDim all (d : Int)).length x ∧ WordIn (fun b => B ≤ b ∧ b ≠ G ∧ b < Q) W3 (.slice a1 m1 c1) (ofDim all (d : Int)).length y ∧ ShapeS (fun b => b < B) W3 (.agg #[.slice aF T cF, .map (some g)]) all ∧ TabOk W3 ∧ Below W3.heap.size W3 W3 ∧ G < W3.heap.size ∧ Q < W3.heap.size) := by
    have h1 : WordIn (fun b => B ≤ b ∧ b ≠ G) W2 (.slice a0 m0 c0) (ofDim all (d : Int)).length x := by have := yw; unfold coN coX at this; rw [← HXY.out.1]; exact this
    have h2 : WordIn (fun b => B ≤ b ∧ b ≠ G) W2 (.slice a1 m1 c1) (ofDim all (d : Int)).length y := by have := zw; unfold coN coX at this; rw [← HXY.out.2]; exact this
    exact ⟨(h1.mono (S' := fun b => B ≤ b ∧ b ≠ G ∧ b < Q) (fun b hb h => ⟨h.1, h.2, by omega⟩)).below kB, (h2.mono (S' := fun b => B ≤ b ∧ b ≠ G ∧ b < Q) (fun b hb h => ⟨h.1, h.2, by omega⟩)).below kB, kS, HT.out.below HB3.out.1, Below.refl _ _, by omega, by omega⟩
  have HBQ : Hid (B ≤ Q ∧ B ≤ G) := ⟨by omega, hG1⟩
  have HBE : Hid (∀ {A V : World}, Below W3.heap.size W3 A → Below A.heap.size A V → Below W3.heap.size W3 V) := fun {A V} h1 h2 => h1.trans (h2.mono h1.size)
  have HL : Hid (∀ V, Below W3.heap.size W3 V → V.cell? ⟨Q, 0, none⟩ = some (.slice aF T cF) ∧ V.cell? ⟨Q, 1, none⟩ = some (.map (some g)) ∧ V.cell? ⟨G, 0, none⟩ = some (.slice a0 m0 c0) ∧ V.cell? ⟨G, 1, none⟩ = some (.slice a1 m1 c1) ∧ Below w.heap.size w V) := fun V hV => ⟨(hV.cell (p := ⟨Q, 0, none⟩) HWD.out.2.2.2.2.2.2).trans t0, (hV.cell (p := ⟨Q, 1, none⟩) HWD.out.2.2.2.2.2.2).trans t1, (hV.cell (p := ⟨G, 0, none⟩) HWD.out.2.2.2.2.2.1).trans y1, (hV.cell (p := ⟨G, 1, none⟩) HWD.out.2.2.2.2.2.1).trans z1, HB3.out.1.trans (hV.mono HB3.out.1.size)⟩
  clear hb1 hb2 hS hW hB3 hG1 hG2 hcl k1 kS kW kB y0 yw z0 zw hT hW3 hQ hQ3
  go_upto_region 4 with fail
  rw [HW3.out, HQ.out]
  obtain ⟨p, hp⟩ : ∃ p, decide (deltaW all d x = 0) = p := ⟨_, rfl⟩
  obtain ⟨q, hq⟩ : ∃ q, decide (deltaW all d y = 0) = q := ⟨_, rfl⟩
  have HI0 : Hid (∀ W, Below W3.heap.size W3 W → Calls Tryd.prog 25 #[.agg #[.slice aF T cF, .map (some g)], .int .i64 (d : Int), .slice a0 m0 c0] W fun e w' => e = .returned (.bool p) ∧ Below W.heap.size W w') := fun W hW => by
    have := HIC.out _ (.agg #[.slice aF T cF, .map (some g)]) (.slice a0 m0 c0) x W (HWD.out.2.2.1.at.below hW) (HWD.out.1.below hW) (HWD.out.2.2.2.1.below hW)
    rwa [hp] at this
  have HI1 : Hid (∀ W, Below W3.heap.size W3 W → Calls Tryd.prog 25 #[.agg #[.slice aF T cF, .map (some g)], .int .i64 (d : Int), .slice a1 m1 c1] W fun e w' => e = .returned (.bool q) ∧ Below W.heap.size W w') := fun W hW => by
    have := HIC.out _ (.agg #[.slice aF T cF, .map (some g)]) (.slice a1 m1 c1) y W (HWD.out.2.2.1.at.below hW) (HWD.out.2.1.below hW) (HWD.out.2.2.2.1.below hW)
    rwa [hq] at this
  rw [hp, hq] at HSAME
  clear HIC hp hq
  go_cut [44] from 29 to 44 (fun c wx => c = .bool (!(p && q)) ∧ Hid (Below W3.heap.size W3 wx))
  case first =>
    cases p with
    | false =>
      first
      | (go_region_with (go_at_call 25; refine (HI0.out _ (by first | exact HWD.out.2.2.2.2.1 | exact HWD.out.2.2.2.2.1.drew)).mono ?_; rintro e Wi ⟨rfl, hbi⟩; have HFst : Hid (Below W3.heap.size W3 Wi) := (by first | exact HBE.out HWD.out.2.2.2.2.1 hbi | exact HBE.out HWD.out.2.2.2.2.1.drew hbi); clear hbi))
      | fail
      all_goals go_wp2_with fail
      all_goals go_meet
      all_goals exact ⟨rfl, HFst.out⟩
    | true =>
      go_region_with (first
        | (go_at_call 25; have v9 := HFst.out; refine (HI1.out _ v9).mono ?_; rintro e Wj ⟨rfl, hbj⟩; have HSnd : Hid (Below W3.heap.size W3 Wj) := HBE.out v9 hbj; clear hbj v9)
        | (go_at_call 25; refine (HI0.out _ (by first | exact HWD.out.2.2.2.2.1 | exact HWD.out.2.2.2.2.1.drew)).mono ?_; rintro e Wi ⟨rfl, hbi⟩; have HFst : Hid (Below W3.heap.size W3 Wi) := (by first | exact HBE.out HWD.out.2.2.2.2.1 hbi | exact HBE.out HWD.out.2.2.2.2.1.drew hbi); obtain ⟨l0, l1, l2, l3, -⟩ := HL.out Wi HFst.out; clear hbi))
      all_goals go_wp2_with fail
      all_goals go_meet
      all_goals exact ⟨by cases q <;> rfl, HSnd.out⟩
  obtain ⟨rfl, HC⟩ := hcut
  obtain ⟨V, hV⟩ : ∃ W, W = wc := ⟨_, rfl⟩
  subst hV
  obtain ⟨j0, j1, j2, j3, hwV⟩ := HL.out V HC.out
  have HWV := Hid.mk' hwV
  have HAD : Hid (∀ V0, Below W3.heap.size W3 V0 → Calls Tryd.prog 26 #[.slice a0 m0 c0, .slice a1 m1 c1] V0 fun e V1 => e = .returned (.tuple #[]) ∧ V1.cell? ⟨Q, 0, none⟩ = some (.slice aF T cF) ∧ V1.cell? ⟨Q, 1, none⟩ = some (.map (some g)) ∧ V1.cell? ⟨G, 0, none⟩ = some (.slice a0 m0 c0) ∧ Hid (ShapeAt V1 (.agg #[.slice aF T cF, .map (some g)]) all ∧ TabOk V1 ∧ WordIn (fun b => B ≤ b ∧ b ≠ G ∧ b < Q) V1 (.slice a0 m0 c0) (ofDim all (d : Int)).length (x ^^^ y) ∧ Below w.heap.size w V1)) := fun V0 hV0 => by
    refine (add_ _ _ _ x y V0 (HWD.out.1.below hV0) (HWD.out.2.1.below hV0)).mono ?_
    rintro e V1 ⟨rfl, hw, hg1, hz, h0⟩
    obtain ⟨b0, b1, b2, -, b4⟩ := HL.out V0 hV0
    have hsh := HWD.out.2.2.1.below hV0
    rcases Nat.eq_zero_or_pos (ofDim all (d : Int)).length with hn0 | hn0
    · have := h0 hn0
      subst this
      exact ⟨rfl, b0, b1, b2, hsh.at, HT.out.below b4, hw, b4⟩
    · have hob : ∀ j, (Value.slice a0 m0 c0).ownBlock = some j → B ≤ j ∧ j ≠ G ∧ j < Q := fun j hj => own_block_of (HWD.out.1.below hV0) hj hn0
      have hB5 : Below w.heap.size w V1 := b4.grown hg1 b4.size (fun j hj => by have := hob j hj; have := HB3.out.2; omega)
      exact ⟨rfl, (World.cell?_of_block (hg1.block Q (cell_lt (p := ⟨Q, 0, none⟩) b0) (fun e => by have := hob Q e.symm; omega))).trans b0, (World.cell?_of_block (hg1.block Q (cell_lt (p := ⟨Q, 1, none⟩) b1) (fun e => by have := hob Q e.symm; omega))).trans b1, (World.cell?_of_block (hg1.block G (cell_lt (p := ⟨G, 0, none⟩) b2) (fun e => (hob G e.symm).2.1 rfl))).trans b2, (hsh.kept hg1 (fun i hi e => by have h1 : i < B := hi; have := hob i e.symm; omega)).at, HT.out.below hB5, hw, hB5⟩
  clear hwV t0 t1 y1 z1 HI0 HI1 HBQ
  cases hpq : (p && q) with
  | false =>
    have HF : Hid (sameP all d x y = false) := by
      show sameP all d x y = false
      rw [HSAME.out, hpq]; rfl
    clear hpq HAD HSAME
    go_wp2_with fail
    go_ret2
    exact ⟨by rw [HF.out]; first | done | rfl, HWV.out⟩
  | true =>
    have HF : Hid (sameP all d x y = decide (redB (fedB (rowsD all d)) (x ^^^ y) = 0)) := by
      show sameP all d x y = _
      rw [HSAME.out, hpq]; rfl
    clear hpq HSAME
    go_upto_region 6 with fail
    go_cut [] from 45 to 51 (fun wx => wx.cell? ⟨Q, 0, none⟩ = some (.slice aF T cF) ∧ wx.cell? ⟨Q, 1, none⟩ = some (.map (some g)) ∧ wx.cell? ⟨G, 0, none⟩ = some (.slice a0 m0 c0) ∧ Hid (ShapeAt wx (.agg #[.slice aF T cF, .map (some g)]) all ∧ TabOk wx ∧ WordIn (fun b => B ≤ b ∧ b ≠ G ∧ b < Q) wx (.slice a0 m0 c0) (ofDim all (d : Int)).length (x ^^^ y) ∧ Below w.heap.size w wx))
    case first =>
      go_region_with (go_at_call 26; refine (HAD.out _ (by first | exact HC.out | exact HC.out.drew)).mono ?_; rintro e Va ⟨rfl, i0, i1, i2, HI⟩)
      all_goals go_wp2_with fail
      all_goals go_meet
      all_goals exact ⟨i0, i1, i2, HI.out⟩
    obtain ⟨n0, n1, n2, HN⟩ := hcut
    obtain ⟨V1, hV1⟩ : ∃ W, W = wc := ⟨_, rfl⟩
    subst hV1
    clear HAD j0 j1 j2 j3 HC HL HWV HWD
    have HR1 : Hid (Below V1.heap.size V1 V1) := Below.refl _ _
    have HGL : Hid (G < V1.heap.size) := cell_lt (p := ⟨G, 0, none⟩) n2
    obtain ⟨X, hX⟩ : ∃ X, x ^^^ y = X := ⟨_, rfl⟩
    rw [hX] at HF HN
    obtain ⟨n, hn⟩ : ∃ n, (ofDim all (d : Int)).length = n := ⟨_, rfl⟩
    rw [hn] at HN HSO
    obtain ⟨FB, hFB⟩ : ∃ FB, fedB (rowsD all d) = FB := ⟨_, rfl⟩
    rw [hFB] at HF HSO HTB
    clear hX hn hFB
    obtain ⟨rr, hrr⟩ : ∃ rr, decide (redB FB X = 0) = rr := ⟨_, rfl⟩
    have HRR := Hid.mk' hrr
    rw [hrr] at HF
    clear hrr
    go_upto_region 7 with fail
    go_region_with (first
      | (go_at_call 27; refine (HSO.out _ _ (by first | exact HN.out.1 | exact HN.out.1.below HR1.out.drew) (by first | exact HN.out.2.1 | exact HN.out.2.1.below HR1.out.drew)).mono ?_; rintro e Vs ⟨bx, gx, N, rfl, hso, hbs⟩; have HSR := Hid.mk' hso; have HBS : Hid (Below V1.heap.size V1 Vs) := (by first | exact HR1.out.trans hbs | exact HR1.out.drew.trans hbs); have n3 := (HBS.out.cell (p := ⟨G, 0, none⟩) HGL.out).trans n2; clear hso hbs)
      | (go_at_call 46; refine (sort_ _ n X V1.heap.size _ gx N FB _ (HN.out.2.1.below HBS.out) (HN.out.2.2.1.below HBS.out) HSR.out.1 HSR.out.2.1 HTB.out (by have := HSR.out.2.2.1; omega) HBS.out.size).mono ?_; rintro e Vt ⟨u, rfl, hu, -, hgt⟩; obtain ⟨au, mu, cu, rfl⟩ := hu.form; have HUT : Hid (WordIn (fun b => Vs.heap.size ≤ b) Vt (.slice au mu cu) n (redB FB X) ∧ Below V1.heap.size V1 Vt) := ⟨hu, HBS.out.grown hgt HBS.out.size (fun j hj => by cases hj; exact HSR.out.2.2.2)⟩; clear hu hgt)
      | (go_at_call 28; refine (isZero_ _ _ _ _ HUT.out.1 (HN.out.2.1.below HUT.out.2)).mono ?_; rintro e Vu ⟨he, rfl⟩; rw [HRR.out] at he; subst he))
    all_goals (
      go_wp2_with fail
      go_ret2
      exact ⟨by rw [HF.out]; first | done | rfl, HN.out.2.2.2.trans (HUT.out.2.mono HN.out.2.2.2.size)⟩)

end Go.Proofs.YtiblgnkjjbbmaaaDoor
