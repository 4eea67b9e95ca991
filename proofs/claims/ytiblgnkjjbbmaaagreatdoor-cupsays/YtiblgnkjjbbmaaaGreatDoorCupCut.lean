/- The program's Same. Plain facts on the four closed sets of the statements' circle: their faces, their facets. The statements' closed fact on cochains: of three edges each sum of two is a delta. -/
import Derived.Test.YtiblgnkjjbbmaaaGreatDoorCupRefErr
import Derived.Test.YtiblgnkjjbbmaaaGreatDoorCupRefSame
import Derived.Test.YtiblgnkjjbbmaaaGreatDoorClosedDefs
import Derived.Test.YtiblgnkjjbbmaaaGreatDoorOpen
import Derived.Test.YtiblgnkjjbbmaaaGreatDoorCupFaces1
namespace Go.Proofs.YtiblgnkjjbbmaaaGreatDoor
open Go.RowKit Go.Sort Go.Maps Go.Deep

theorem sorterOfClasses_ {l all : List (List Int)} (hg : Good l all) (h60 : all.length ≤ 60) (d : Nat) (hd : d ≤ 100) (v : Value) (w : World) (h : ShapeAt w v all) (hT : TabOk w) :
    Calls Tryz.prog 36 #[v, .int .i64 (d : Int)] w fun e w' => ∃ f, e = .returned f ∧ SorterAt w' w.heap.size (ofDim all (d : Int)).length f (fedB (rowsD all d)) ∧ Below w.heap.size w w' := by
  cases d with
  | zero => exact sorterOfClasses_zero _ v w h
  | succ d => exact sorterOfClasses_succ hg h60 d (by omega) v w h hT

set_option maxRecDepth 100000 in
set_option maxHeartbeats 8000000 in
theorem cupSame_ok {a : Nat → Addr} {s : Nat → ByteArray} {l all : List (List Int)} {d : Nat} {f h : List Int} (hg : Good l all) (h60 : all.length ≤ 60) (hd : d < topN all) (ho : OkCo (ofDim all (d : Int)).length f) (ho' : OkCo (ofDim all (d : Int)).length h) (vl vf vh : Value) (w : World) (hE : Errs a s w) (hT : TabOk w) (hl : Rows w vl l) (hll : l.length ≤ 100000) (hle : ∀ x ∈ l, x.length ≤ 1000) (hf : Ints w vf f) (hfl : f.length ≤ 60) (hh : Ints w vh h) (hhl : h.length ≤ 60) :
    Calls Tryz.prog 19 #[.agg #[vl], .int .i64 (d : Int), vf, vh] w fun e w' => e = .returned (.tuple #[.bool (sameR all d (maskN f) (maskN h)), .nilIface]) ∧ Below w.heap.size w w' := by
  have h7 : topN all ≤ 7 := topN_upto hg.short
  have hn6 : (ofDim all (d : Int)).length ≤ 60 := Nat.le_trans (ofDim_length _ _) h60
  obtain ⟨al, cl, rfl, -, -⟩ := hl.open_
  have hB1 : Below w.heap.size w (w.alloc (.cells #[.slice al l.length cl] 36)) := (Below.refl _ w).alloc (Nat.le_refl _) _
  have hco := co_two (w.alloc (.cells #[.slice al l.length cl] 36)) vf vh (d : Int) (d : Int) f h 61 (hf.below hB1) (hh.below hB1)
  have hB2 : Below w.heap.size w ((w.alloc (.cells #[.slice al l.length cl] 36)).alloc (.cells #[.int .i64 (d : Int), vf, .int .i64 (d : Int), vh] 61)) := hB1.alloc (by simp) _
  have hc := cochains_ok hg h60 (cs := [((d : Int), f), ((d : Int), h)]) (by intro c hc; simp at hc; rcases hc with rfl | rfl; exact ⟨by simp, by simpa using hd⟩; exact ⟨by simp, by simpa using hd⟩) (by intro c hc; simp at hc; rcases hc with rfl | rfl; exact ho; exact ho') (.slice al l.length cl) _ 2 _ _ (hE.below hB2) (hl.below hB2) hll hle hco (by simp) (by intro c hc; simp at hc; rcases hc with rfl | rfl; exact hfl; exact hhl)
  have q0 := (box_new w (.slice al l.length cl) 36).1
  obtain ⟨af, mf, cf, rfl⟩ : ∃ a m c, vf = .slice a m c := by obtain ⟨a, c, e, -⟩ := hf.open_; exact ⟨a, _, c, e⟩
  obtain ⟨ah, mh, ch, rfl⟩ : ∃ a m c, vh = .slice a m c := by obtain ⟨a, c, e, -⟩ := hh.open_; exact ⟨a, _, c, e⟩
  have HB2 := Hid.mk' hB2
  have HT := Hid.mk' hT
  rw [World.size_alloc] at hc
  have hxl := lt64 (maskN_lt ho) (by omega)
  have hyl := lt64 (maskN_lt ho') (by omega)
  have HSAME : Hid (sameR all d (maskN f) (maskN h) = (decide (deltaW all d (maskN f) = 0) && decide (deltaW all d (maskN h) = 0) && decide (redB (fedB (rowsD all d)) (maskN f ^^^ maskN h) = 0))) := by
    show sameR all d (maskN f) (maskN h) = _
    unfold sameR
    rw [decide_eq_decide.2 (same_span (rowsD_lt all d (by omega)) (xor_lt hxl hyl))]
  have HTB : Hid (TbOk (fedB (rowsD all d))) := fedB_ok (rowsD_lt all d (by omega))
  obtain ⟨x, hx⟩ : ∃ x, maskN f = x := ⟨_, rfl⟩
  obtain ⟨y, hy⟩ : ∃ y, maskN h = y := ⟨_, rfl⟩
  have HXY := Hid.mk' (And.intro hx hy)
  rw [hx, hy] at HSAME
  have HIC : Hid (∀ (S : Nat → Prop) (v u : Value) (z : Nat) (W : World), ShapeAt W v all → WordIn S W u (ofDim all (d : Int)).length z → TabOk W → Calls Tryz.prog 34 #[v, .int .i64 (d : Int), u] W fun e w' => e = .returned (.bool (decide (deltaW all d z = 0))) ∧ Below W.heap.size W w') := fun S v u z W h1 h2 h3 => isCocycle_ hg h60 v u d z (by omega) W h1 h2 h3
  have HSO : Hid (∀ (v : Value) (W : World), ShapeAt W v all → TabOk W → Calls Tryz.prog 36 #[v, .int .i64 (d : Int)] W fun e w' => ∃ bx g N, e = .returned (.func (.func 66) #[] #[.pointer (some ⟨bx, 0, none⟩)]) ∧ (w'.cell? ⟨bx, 0, none⟩ = some (.map (some g)) ∧ TbAt w' W.heap.size g (ofDim all (d : Int)).length N (fedB (rowsD all d)) ∧ N ≤ 1000 ∧ W.heap.size ≤ g) ∧ Below W.heap.size W w') := fun v W h1 h2 => (sorterOfClasses_ hg h60 d (by omega) v W h1 h2).mono fun e w' h => by
    obtain ⟨f, rfl, ⟨bx, g, N, rfl, h3, h4, h5, -, h8⟩, h6⟩ := h
    exact ⟨bx, g, N, rfl, ⟨h3, h4, h5, h8⟩, h6⟩
  rw [hx, hy]
  clear hE hl hll hle hg h60 hd ho ho' hB1 hB2 hco hf hfl hh hhl hT h7 hx hy hxl hyl
  go_enter Tryz.func19, Tryz.ntmps19
  go_wp2_with fail
  refine hc.mono ?_
  clear hc
  rintro e W2 ⟨B, aF, cF, g, av, cv, rfl, hb1, hb2, hS, hW, hB3⟩
  obtain ⟨G, rfl, hG1, hG2, hcl⟩ := hW.cellAt (by simp)
  obtain ⟨k1, kS, kW, kB⟩ := behind_good hb2 hS hW
  obtain ⟨a0, m0, c0, y0, yw⟩ := hcl 0 (by simp)
  obtain ⟨a1, m1, c1, z0, zw⟩ := hcl 1 (by simp)
  have HB3 : Hid (Below w.heap.size w (W2.alloc (.cells #[.slice aF (topN all) cF, .map (some g)] 56)) ∧ w.heap.size ≤ B) := by
    have h := HB2.out.trans (hB3.mono HB2.out.size)
    exact ⟨h.alloc h.size _, by have := HB2.out.size; omega⟩
  have t0 := k1.1
  have t1 := k1.2
  have y1 := (kB.cell (p := ⟨G, 0, none⟩) hG2).trans y0
  have z1 := (kB.cell (p := ⟨G, 1, none⟩) hG2).trans z0
  obtain ⟨T, hT⟩ : ∃ T, topN all = T := ⟨_, rfl⟩
  rw [hT] at t0 t1 y1 z1 kS HB3 ⊢
  obtain ⟨W3, hW3⟩ : ∃ W3, W2.alloc (.cells #[.slice aF T cF, .map (some g)] 56) = W3 := ⟨_, rfl⟩
  have HW3 := Hid.mk' hW3
  rw [hT] at kB
  rw [hW3] at t0 t1 y1 z1 kS HB3 kB
  obtain ⟨Q, hQ⟩ : ∃ Q, W2.heap.size = Q := ⟨_, rfl⟩
  have HQ := Hid.mk' hQ
  rw [hQ] at t0 t1
  have hQ3 : W3.heap.size = Q + 1 := by rw [← hW3, ← hQ]; simp
  have HWD : Hid (WordIn (fun b => B ≤ b ∧ b ≠ G ∧ b < Q) W3 (.slice a0 m0 c0) (ofDim all (d : Int)).length x ∧ WordIn (fun b => B ≤ b ∧ b ≠ G ∧ b < Q) W3 (.slice a1 m1 c1) (ofDim all (d : Int)).length y ∧ ShapeS (fun b => b < B) W3 (.agg #[.slice aF T cF, .map (some g)]) all ∧ TabOk W3 ∧ Below W3.heap.size W3 W3 ∧ G < W3.heap.size ∧ Q < W3.heap.size) := by
    have h1 : WordIn (fun b => B ≤ b ∧ b ≠ G) W2 (.slice a0 m0 c0) (ofDim all (d : Int)).length x := by have := yw; unfold coN coX at this; rw [← HXY.out.1]; exact this
    have h2 : WordIn (fun b => B ≤ b ∧ b ≠ G) W2 (.slice a1 m1 c1) (ofDim all (d : Int)).length y := by have := zw; unfold coN coX at this; rw [← HXY.out.2]; exact this
    exact ⟨(h1.mono (S' := fun b => B ≤ b ∧ b ≠ G ∧ b < Q) (fun b hb h => ⟨h.1, h.2, by omega⟩)).below kB, (h2.mono (S' := fun b => B ≤ b ∧ b ≠ G ∧ b < Q) (fun b hb h => ⟨h.1, h.2, by omega⟩)).below kB, kS, HT.out.below HB3.out.1, Below.refl _ _, by omega, by omega⟩
  have HBQ : Hid (B ≤ Q ∧ B ≤ G) := ⟨by omega, hG1⟩
  have HBE : Hid (∀ {A V : World}, Below W3.heap.size W3 A → Below A.heap.size A V → Below W3.heap.size W3 V) := fun {A V} h1 h2 => h1.trans (h2.mono h1.size)
  have HL : Hid (∀ V, Below W3.heap.size W3 V → V.cell? ⟨Q, 0, none⟩ = some (.slice aF T cF) ∧ V.cell? ⟨Q, 1, none⟩ = some (.map (some g)) ∧ V.cell? ⟨G, 0, none⟩ = some (.slice a0 m0 c0) ∧ V.cell? ⟨G, 1, none⟩ = some (.slice a1 m1 c1) ∧ Below w.heap.size w V) := fun V hV => ⟨(hV.cell (p := ⟨Q, 0, none⟩) HWD.out.2.2.2.2.2.2).trans t0, (hV.cell (p := ⟨Q, 1, none⟩) HWD.out.2.2.2.2.2.2).trans t1, (hV.cell (p := ⟨G, 0, none⟩) HWD.out.2.2.2.2.2.1).trans y1, (hV.cell (p := ⟨G, 1, none⟩) HWD.out.2.2.2.2.2.1).trans z1, HB3.out.1.trans (hV.mono HB3.out.1.size)⟩
  clear hb1 hb2 hS hW hB3 hG1 hG2 hcl k1 kS kW kB y0 yw z0 zw hT hW3 hQ hQ3
  go_upto_region 4 with fail
  rw [HW3.out, HQ.out]
  obtain ⟨p, hp⟩ : ∃ p, decide (deltaW all d x = 0) = p := ⟨_, rfl⟩
  obtain ⟨q, hq⟩ : ∃ q, decide (deltaW all d y = 0) = q := ⟨_, rfl⟩
  have HI0 : Hid (∀ W, Below W3.heap.size W3 W → Calls Tryz.prog 34 #[.agg #[.slice aF T cF, .map (some g)], .int .i64 (d : Int), .slice a0 m0 c0] W fun e w' => e = .returned (.bool p) ∧ Below W.heap.size W w') := fun W hW => by
    have := HIC.out _ (.agg #[.slice aF T cF, .map (some g)]) (.slice a0 m0 c0) x W (HWD.out.2.2.1.at.below hW) (HWD.out.1.below hW) (HWD.out.2.2.2.1.below hW)
    rwa [hp] at this
  have HI1 : Hid (∀ W, Below W3.heap.size W3 W → Calls Tryz.prog 34 #[.agg #[.slice aF T cF, .map (some g)], .int .i64 (d : Int), .slice a1 m1 c1] W fun e w' => e = .returned (.bool q) ∧ Below W.heap.size W w') := fun W hW => by
    have := HIC.out _ (.agg #[.slice aF T cF, .map (some g)]) (.slice a1 m1 c1) y W (HWD.out.2.2.1.at.below hW) (HWD.out.2.1.below hW) (HWD.out.2.2.2.1.below hW)
    rwa [hq] at this
  rw [hp, hq] at HSAME
  clear HIC hp hq
  go_cut [44] from 29 to 44 (fun c wx => c = .bool (!(p && q)) ∧ Hid (Below W3.heap.size W3 wx))
  case first =>
    cases p with
    | false =>
      first
      | (go_region_with (go_at_call 34; refine (HI0.out _ (by first | exact HWD.out.2.2.2.2.1 | exact HWD.out.2.2.2.2.1.drew)).mono ?_; rintro e Wi ⟨rfl, hbi⟩; have HFst : Hid (Below W3.heap.size W3 Wi) := (by first | exact HBE.out HWD.out.2.2.2.2.1 hbi | exact HBE.out HWD.out.2.2.2.2.1.drew hbi); clear hbi))
      | fail
      all_goals go_wp2_with fail
      all_goals go_meet
      all_goals exact ⟨rfl, HFst.out⟩
    | true =>
      go_region_with (first
        | (go_at_call 34; have v9 := HFst.out; refine (HI1.out _ v9).mono ?_; rintro e Wj ⟨rfl, hbj⟩; have HSnd : Hid (Below W3.heap.size W3 Wj) := HBE.out v9 hbj; clear hbj v9)
        | (go_at_call 34; refine (HI0.out _ (by first | exact HWD.out.2.2.2.2.1 | exact HWD.out.2.2.2.2.1.drew)).mono ?_; rintro e Wi ⟨rfl, hbi⟩; have HFst : Hid (Below W3.heap.size W3 Wi) := (by first | exact HBE.out HWD.out.2.2.2.2.1 hbi | exact HBE.out HWD.out.2.2.2.2.1.drew hbi); obtain ⟨l0, l1, l2, l3, -⟩ := HL.out Wi HFst.out; clear hbi))
      all_goals go_wp2_with fail
      all_goals go_meet
      all_goals exact ⟨by cases q <;> rfl, HSnd.out⟩
  obtain ⟨rfl, HC⟩ := hcut
  obtain ⟨V, hV⟩ : ∃ W, W = wc := ⟨_, rfl⟩
  subst hV
  obtain ⟨j0, j1, j2, j3, hwV⟩ := HL.out V HC.out
  have HWV := Hid.mk' hwV
  have HAD : Hid (∀ V0, Below W3.heap.size W3 V0 → Calls Tryz.prog 35 #[.slice a0 m0 c0, .slice a1 m1 c1] V0 fun e V1 => e = .returned (.tuple #[]) ∧ V1.cell? ⟨Q, 0, none⟩ = some (.slice aF T cF) ∧ V1.cell? ⟨Q, 1, none⟩ = some (.map (some g)) ∧ V1.cell? ⟨G, 0, none⟩ = some (.slice a0 m0 c0) ∧ Hid (ShapeAt V1 (.agg #[.slice aF T cF, .map (some g)]) all ∧ TabOk V1 ∧ WordIn (fun b => B ≤ b ∧ b ≠ G ∧ b < Q) V1 (.slice a0 m0 c0) (ofDim all (d : Int)).length (x ^^^ y) ∧ Below w.heap.size w V1)) := fun V0 hV0 => by
    refine (add_ _ _ _ x y V0 (HWD.out.1.below hV0) (HWD.out.2.1.below hV0)).mono ?_
    rintro e V1 ⟨rfl, hw, hg1, hz, h0⟩
    obtain ⟨b0, b1, b2, -, b4⟩ := HL.out V0 hV0
    have hsh := HWD.out.2.2.1.below hV0
    rcases Nat.eq_zero_or_pos (ofDim all (d : Int)).length with hn0 | hn0
    · have := h0 hn0
      subst this
      exact ⟨rfl, b0, b1, b2, hsh.at, HT.out.below b4, hw, b4⟩
    · have hob : ∀ j, (Value.slice a0 m0 c0).ownBlock = some j → B ≤ j ∧ j ≠ G ∧ j < Q := fun j hj => own_block_of (HWD.out.1.below hV0) hj hn0
      have hB5 : Below w.heap.size w V1 := b4.grown hg1 b4.size (fun j hj => by have := hob j hj; have := HB3.out.2; omega)
      exact ⟨rfl, (World.cell?_of_block (hg1.block Q (cell_lt (p := ⟨Q, 0, none⟩) b0) (fun e => by have := hob Q e.symm; omega))).trans b0, (World.cell?_of_block (hg1.block Q (cell_lt (p := ⟨Q, 1, none⟩) b1) (fun e => by have := hob Q e.symm; omega))).trans b1, (World.cell?_of_block (hg1.block G (cell_lt (p := ⟨G, 0, none⟩) b2) (fun e => (hob G e.symm).2.1 rfl))).trans b2, (hsh.kept hg1 (fun i hi e => by have h1 : i < B := hi; have := hob i e.symm; omega)).at, HT.out.below hB5, hw, hB5⟩
  clear hwV t0 t1 y1 z1 HI0 HI1 HBQ
  cases hpq : (p && q) with
  | false =>
    have HF : Hid (sameR all d x y = false) := by
      show sameR all d x y = false
      rw [HSAME.out, hpq]; rfl
    clear hpq HAD HSAME
    go_wp2_with fail
    go_ret2
    exact ⟨by rw [HF.out]; first | done | rfl, HWV.out⟩
  | true =>
    have HF : Hid (sameR all d x y = decide (redB (fedB (rowsD all d)) (x ^^^ y) = 0)) := by
      show sameR all d x y = _
      rw [HSAME.out, hpq]; rfl
    clear hpq HSAME
    go_upto_region 6 with fail
    go_cut [] from 45 to 51 (fun wx => wx.cell? ⟨Q, 0, none⟩ = some (.slice aF T cF) ∧ wx.cell? ⟨Q, 1, none⟩ = some (.map (some g)) ∧ wx.cell? ⟨G, 0, none⟩ = some (.slice a0 m0 c0) ∧ Hid (ShapeAt wx (.agg #[.slice aF T cF, .map (some g)]) all ∧ TabOk wx ∧ WordIn (fun b => B ≤ b ∧ b ≠ G ∧ b < Q) wx (.slice a0 m0 c0) (ofDim all (d : Int)).length (x ^^^ y) ∧ Below w.heap.size w wx))
    case first =>
      go_region_with (go_at_call 35; refine (HAD.out _ (by first | exact HC.out | exact HC.out.drew)).mono ?_; rintro e Va ⟨rfl, i0, i1, i2, HI⟩)
      all_goals go_wp2_with fail
      all_goals go_meet
      all_goals exact ⟨i0, i1, i2, HI.out⟩
    obtain ⟨n0, n1, n2, HN⟩ := hcut
    obtain ⟨V1, hV1⟩ : ∃ W, W = wc := ⟨_, rfl⟩
    subst hV1
    clear HAD j0 j1 j2 j3 HC HL HWV HWD
    have HR1 : Hid (Below V1.heap.size V1 V1) := Below.refl _ _
    have HGL : Hid (G < V1.heap.size) := cell_lt (p := ⟨G, 0, none⟩) n2
    obtain ⟨X, hX⟩ : ∃ X, x ^^^ y = X := ⟨_, rfl⟩
    rw [hX] at HF HN
    obtain ⟨n, hn⟩ : ∃ n, (ofDim all (d : Int)).length = n := ⟨_, rfl⟩
    rw [hn] at HN HSO
    obtain ⟨FB, hFB⟩ : ∃ FB, fedB (rowsD all d) = FB := ⟨_, rfl⟩
    rw [hFB] at HF HSO HTB
    clear hX hn hFB
    obtain ⟨rr, hrr⟩ : ∃ rr, decide (redB FB X = 0) = rr := ⟨_, rfl⟩
    have HRR := Hid.mk' hrr
    rw [hrr] at HF
    clear hrr
    go_upto_region 7 with fail
    go_region_with (first
      | (go_at_call 36; refine (HSO.out _ _ (by first | exact HN.out.1 | exact HN.out.1.below HR1.out.drew) (by first | exact HN.out.2.1 | exact HN.out.2.1.below HR1.out.drew)).mono ?_; rintro e Vs ⟨bx, gx, N, rfl, hso, hbs⟩; have HSR := Hid.mk' hso; have HBS : Hid (Below V1.heap.size V1 Vs) := (by first | exact HR1.out.trans hbs | exact HR1.out.drew.trans hbs); have n3 := (HBS.out.cell (p := ⟨G, 0, none⟩) HGL.out).trans n2; clear hso hbs)
      | (go_at_call 66; refine (sort_ _ n X V1.heap.size _ gx N FB _ (HN.out.2.1.below HBS.out) (HN.out.2.2.1.below HBS.out) HSR.out.1 HSR.out.2.1 HTB.out (by have := HSR.out.2.2.1; omega) HBS.out.size).mono ?_; rintro e Vt ⟨u, rfl, hu, -, hgt⟩; obtain ⟨au, mu, cu, rfl⟩ := hu.form; have HUT : Hid (WordIn (fun b => Vs.heap.size ≤ b) Vt (.slice au mu cu) n (redB FB X) ∧ Below V1.heap.size V1 Vt) := ⟨hu, HBS.out.grown hgt HBS.out.size (fun j hj => by cases hj; exact HSR.out.2.2.2)⟩; clear hu hgt)
      | (go_at_call 37; refine (isZero_ _ _ _ _ HUT.out.1 (HN.out.2.1.below HUT.out.2)).mono ?_; rintro e Vu ⟨he, rfl⟩; rw [HRR.out] at he; subst he))
    all_goals (
      go_wp2_with fail
      go_ret2
      exact ⟨by rw [HF.out]; first | done | rfl, HN.out.2.2.2.trans (HUT.out.2.mono HN.out.2.2.2.size)⟩)

end Go.Proofs.YtiblgnkjjbbmaaaGreatDoor

namespace Go.Proofs.YtiblgnkjjbbmaaaGreatDoor
open Go.RowKit Go.Sort

/-- The four sets, and what they come to. -/
def cirL : List (List Int) := [[1, 0], [1, 2], [2, 0], [1]]
def cirT : List (List Int) := [[0, 1], [1, 2], [0, 2], [1]]
def cirA : List (List Int) := [[0], [0, 1], [0, 2], [1], [1, 2], [2]]
def cirF : List (List Int) := [[0, 1], [0, 2], [1, 2]]

theorem cir_ok : ∀ x ∈ cirL, SetOk x := by
  intro x hx
  unfold cirL at hx
  simp only [List.mem_cons, List.not_mem_nil, or_false] at hx
  rcases hx with rfl | rfl | rfl | rfl <;> (unfold SetOk; decide)
theorem cir_srt : cirL.map srt = cirT := by
  have h1 : srt [1, 0] = [0, 1] := (srt_told (by decide) (by decide) (fun v => by simp; omega)).symm
  have h2 : srt [1, 2] = [1, 2] := (srt_told (by decide) (by decide) (fun v => by simp)).symm
  have h3 : srt [2, 0] = [0, 2] := (srt_told (by decide) (by decide) (fun v => by simp; omega)).symm
  have h4 : srt [1] = [1] := (srt_told (by decide) (by decide) (fun v => by simp)).symm
  simp [cirL, cirT, h1, h2, h3, h4]
theorem cir_sub {x t : List Int} (ht : t ∈ cirT) (h : x.Sublist t) (hx : x ≠ []) : x ∈ cirA := by
  obtain ⟨b, hb, rfl⟩ := pick_all h
  unfold cirT at ht
  simp only [List.mem_cons, List.not_mem_nil, or_false] at ht
  rcases ht with rfl | rfl | rfl | rfl
  · have hb4 : b < 4 := hb
    rcases (show b = 0 ∨ b = 1 ∨ b = 2 ∨ b = 3 by omega) with rfl | rfl | rfl | rfl
    · exact absurd (by decide) hx
    · decide
    · decide
    · decide
  · have hb4 : b < 4 := hb
    rcases (show b = 0 ∨ b = 1 ∨ b = 2 ∨ b = 3 by omega) with rfl | rfl | rfl | rfl
    · exact absurd (by decide) hx
    · decide
    · decide
    · decide
  · have hb4 : b < 4 := hb
    rcases (show b = 0 ∨ b = 1 ∨ b = 2 ∨ b = 3 by omega) with rfl | rfl | rfl | rfl
    · exact absurd (by decide) hx
    · decide
    · decide
    · decide
  · have hb4 : b < 2 := hb
    rcases (show b = 0 ∨ b = 1 by omega) with rfl | rfl
    · exact absurd (by decide) hx
    · decide
theorem cir_all : IsAll cirT cirA where
  order := by decide
  mem := fun x => by
    constructor
    · intro hx
      unfold cirA at hx
      simp only [List.mem_cons, List.not_mem_nil, or_false] at hx
      rcases hx with rfl | rfl | rfl | rfl | rfl | rfl
      · exact ⟨by decide, [0, 1], by decide, by decide⟩
      · exact ⟨by decide, [0, 1], by decide, by decide⟩
      · exact ⟨by decide, [0, 2], by decide, by decide⟩
      · exact ⟨by decide, [0, 1], by decide, by decide⟩
      · exact ⟨by decide, [1, 2], by decide, by decide⟩
      · exact ⟨by decide, [1, 2], by decide, by decide⟩
    · rintro ⟨h, t, ht, hs⟩
      exact cir_sub ht hs h
theorem cir_facets : facetsI cirA = cirF := by decide
theorem cir_not_over : ¬ Over cirT := not_over cir_all (by decide) (by decide)
theorem cir_rising : ∀ t ∈ cirT, Rising t := by decide

/-- What the map tells of them. -/
theorem cir_told {ts ss : List (List UInt8)} (ht : ts.map ints = cirL.map srt) (hn : ss.Nodup) (hm : ∀ x, x ∈ ss ↔ FaceOf ts x ∧ ¬ InnerOf ts x) : (srtS ss).map ints = cirF := by
  rw [cir_srt] at ht
  have := facets_same (ts := ts) (ss := ss) (all := cirA) (fun t h => cir_rising _ (by rw [← ht]; exact List.mem_map.2 ⟨t, h, rfl⟩)) (by rw [ht]; exact cir_all) hn hm
  rw [cir_facets] at this
  exact this
theorem cir_few {ts : List (List UInt8)} (ht : ts.map ints = cirL.map srt) : ¬ Over ts := fun h => cir_not_over (by rw [← cir_srt, ← ht]; exact over_ints.2 h)

end Go.Proofs.YtiblgnkjjbbmaaaGreatDoor

namespace Go.Proofs.YtiblgnkjjbbmaaaGreatDoor
open Go.RowKit Go.Sort

theorem slice_new (w : World) (cs : List Value) (t : TypeId) : SliceIn anyBlock (w.alloc (.cells cs.toArray t)) (.slice (some ⟨w.heap.size, 0, none⟩) cs.length cs.length) cs := by
  refine ⟨_, _, rfl, ⟨Nat.le_refl _, fun h => by cases h⟩, fun _ => ⟨w.heap.size, 0, rfl, trivial, fun k u hu => ?_⟩⟩
  rw [Nat.zero_add, World.cell?_alloc_new]
  simpa using hu
theorem ints_new (w : World) (xs : List Int) : Ints (w.alloc (.cells (xs.map (Value.int .i64)).toArray 3)) (.slice (some ⟨w.heap.size, 0, none⟩) xs.length xs.length) xs := by
  have := slice_new w (xs.map (Value.int .i64)) 3
  simpa [Ints, IntsIn] using this

theorem rows_three (w : World) (x0 x1 x2 : List Int) :
    Rows ((((w.alloc (.cells (x0.map (Value.int .i64)).toArray 3)).alloc (.cells (x1.map (Value.int .i64)).toArray 3)).alloc (.cells (x2.map (Value.int .i64)).toArray 3)).alloc (.cells #[.slice (some ⟨w.heap.size, 0, none⟩) x0.length x0.length, .slice (some ⟨w.heap.size + 1, 0, none⟩) x1.length x1.length, .slice (some ⟨w.heap.size + 1 + 1, 0, none⟩) x2.length x2.length] 23)) (.slice (some ⟨w.heap.size + 1 + 1 + 1, 0, none⟩) 3 3) [x0, x1, x2] := by
  have g : ∀ (W : World) (o : Obj), Below W.heap.size W (W.alloc o) := fun W o => (Below.refl _ W).alloc (Nat.le_refl _) o
  have i0 := (((ints_new w x0).below (g _ (.cells (x1.map (Value.int .i64)).toArray 3))).below (g _ (.cells (x2.map (Value.int .i64)).toArray 3))).below (g _ (.cells #[.slice (some ⟨w.heap.size, 0, none⟩) x0.length x0.length, .slice (some ⟨w.heap.size + 1, 0, none⟩) x1.length x1.length, .slice (some ⟨w.heap.size + 1 + 1, 0, none⟩) x2.length x2.length] 23))
  have i1 := ((ints_new (w.alloc (.cells (x0.map (Value.int .i64)).toArray 3)) x1).below (g _ (.cells (x2.map (Value.int .i64)).toArray 3))).below (g _ (.cells #[.slice (some ⟨w.heap.size, 0, none⟩) x0.length x0.length, .slice (some ⟨w.heap.size + 1, 0, none⟩) x1.length x1.length, .slice (some ⟨w.heap.size + 1 + 1, 0, none⟩) x2.length x2.length] 23))
  have i2 := (ints_new ((w.alloc (.cells (x0.map (Value.int .i64)).toArray 3)).alloc (.cells (x1.map (Value.int .i64)).toArray 3)) x2).below (g _ (.cells #[.slice (some ⟨w.heap.size, 0, none⟩) x0.length x0.length, .slice (some ⟨w.heap.size + 1, 0, none⟩) x1.length x1.length, .slice (some ⟨w.heap.size + 1 + 1, 0, none⟩) x2.length x2.length] 23))
  have hs := slice_new (((w.alloc (.cells (x0.map (Value.int .i64)).toArray 3)).alloc (.cells (x1.map (Value.int .i64)).toArray 3)).alloc (.cells (x2.map (Value.int .i64)).toArray 3)) [.slice (some ⟨w.heap.size, 0, none⟩) x0.length x0.length, .slice (some ⟨w.heap.size + 1, 0, none⟩) x1.length x1.length, .slice (some ⟨w.heap.size + 1 + 1, 0, none⟩) x2.length x2.length] 23
  simp only [World.size_alloc] at i1 i2 hs
  refine ⟨_, hs, rfl, fun k u x hu hx => ?_⟩
  match k, hu, hx with
  | 0, hu, hx => simp at hu hx; subst hu; subst hx; exact i0
  | 1, hu, hx => simp at hu hx; subst hu; subst hx; exact i1
  | 2, hu, hx => simp at hu hx; subst hu; subst hx; exact i2
  | n + 3, hu, hx => simp at hu

theorem srt_same {x : List Int} (h : Rising x) : srt x = x := (srt_told (h.imp (fun hab e => by omega)) h (fun _ => Iff.rfl)).symm
theorem cirF_srt : cirF.map srt = cirF := by
  show [srt [0, 1], srt [0, 2], srt [1, 2]] = [[0, 1], [0, 2], [1, 2]]
  rw [srt_same (by simp [Rising]), srt_same (by simp [Rising]), srt_same (by simp [Rising])]
theorem cirF_all : IsAll cirF cirA where
  order := cir_all.order
  mem x := by
    rw [cir_all.mem x]
    constructor
    · rintro ⟨h0, t, ht, hs⟩
      refine ⟨h0, ?_⟩
      simp only [cirT, List.mem_cons, List.not_mem_nil, or_false] at ht
      rcases ht with rfl | rfl | rfl | rfl
      · exact ⟨_, by simp [cirF], hs⟩
      · exact ⟨_, by simp [cirF], hs⟩
      · exact ⟨_, by simp [cirF], hs⟩
      · exact ⟨[0, 1], by simp [cirF], hs.trans (List.sublist_cons_self _ _)⟩
    · rintro ⟨h0, t, ht, hs⟩
      refine ⟨h0, t, ?_, hs⟩
      simp only [cirF, List.mem_cons, List.not_mem_nil, or_false] at ht
      rcases ht with rfl | rfl | rfl <;> simp [cirT]
theorem good_cir : Good cirF cirA where
  ok := fun x hx => by
    simp only [cirF, List.mem_cons, List.not_mem_nil, or_false] at hx
    rcases hx with rfl | rfl | rfl <;> exact ⟨by simp, by simp, by simp⟩
  few := by rw [cirF_srt]; exact not_over cirF_all (by decide) (by decide)
  isAll := by rw [cirF_srt]; exact cirF_all
  same := cir_facets
theorem cir_delta : bitsI (deltaW cirA 0 (maskN [0])) = [0, 1] := by decide +kernel

set_option maxRecDepth 100000 in
set_option maxHeartbeats 1000000 in
theorem cut_ {a : Nat → Addr} {s : Nat → ByteArray} (w : World) (hE : Errs a s w) (hT : TabOk w) :
    Calls Tryz.prog 4 #[] w fun e w' => e = .returned (.bool true) ∧ Below w.heap.size w w' := by
  have hR := rows_three w [0, 1] [0, 2] [1, 2]
  have hB4 : Below w.heap.size w _ := ((((Below.refl _ w).alloc (Nat.le_refl _) (.cells (([0, 1] : List Int).map (Value.int .i64)).toArray 3)).alloc (by simp) (.cells (([0, 2] : List Int).map (Value.int .i64)).toArray 3)).alloc (by simp; omega) (.cells (([1, 2] : List Int).map (Value.int .i64)).toArray 3)).alloc (by simp; omega) (.cells #[.slice (some ⟨w.heap.size, 0, none⟩) 2 2, .slice (some ⟨w.heap.size + 1, 0, none⟩) 2 2, .slice (some ⟨w.heap.size + 1 + 1, 0, none⟩) 2 2] 23)
  obtain ⟨W4, hW4⟩ : ∃ W4, (((w.alloc (.cells (([0, 1] : List Int).map (Value.int .i64)).toArray 3)).alloc (.cells (([0, 2] : List Int).map (Value.int .i64)).toArray 3)).alloc (.cells (([1, 2] : List Int).map (Value.int .i64)).toArray 3)).alloc (.cells #[.slice (some ⟨w.heap.size, 0, none⟩) 2 2, .slice (some ⟨w.heap.size + 1, 0, none⟩) 2 2, .slice (some ⟨w.heap.size + 1 + 1, 0, none⟩) 2 2] 23) = W4 := ⟨_, rfl⟩
  have HW4 := Hid.mk' hW4
  have hz4 : W4.heap.size = w.heap.size + 1 + 1 + 1 + 1 := by rw [← hW4]; simp
  replace hR : Rows W4 (.slice (some ⟨w.heap.size + 1 + 1 + 1, 0, none⟩) 3 3) cirF := by rw [← hW4]; exact hR
  rw [hW4] at hB4
  have b5 : Below W4.heap.size W4 (W4.alloc (.cells #[.slice (some ⟨w.heap.size + 1 + 1 + 1, 0, none⟩) 3 3] 36)) := (Below.refl _ W4).alloc (Nat.le_refl _) _
  have q5 := (box_new W4 (.slice (some ⟨w.heap.size + 1 + 1 + 1, 0, none⟩) 3 3) 36).1
  obtain ⟨W5, hW5⟩ : ∃ W5, W4.alloc (.cells #[.slice (some ⟨w.heap.size + 1 + 1 + 1, 0, none⟩) 3 3] 36) = W5 := ⟨_, rfl⟩
  have HW5 := Hid.mk' hW5
  have hz5 : W5.heap.size = W4.heap.size + 1 := by rw [← hW5]; simp
  rw [hW5] at b5 q5
  have hB5 : Below w.heap.size w W5 := hB4.trans (b5.mono hB4.size)
  have i6 := ints_new W5 [0]
  have b6 : Below W5.heap.size W5 (W5.alloc (.cells #[.int .i64 0] 3)) := (Below.refl _ W5).alloc (Nat.le_refl _) _
  have hB6 : Below w.heap.size w (W5.alloc (.cells #[.int .i64 0] 3)) := hB5.trans (b6.mono hB5.size)
  have hde : Calls Tryz.prog 11 #[.agg #[.slice (some ⟨w.heap.size + 1 + 1 + 1, 0, none⟩) 3 3], .int .i64 0, .slice (some ⟨W5.heap.size, 0, none⟩) 1 1] (W5.alloc (.cells #[.int .i64 0] 3)) fun e w' => ∃ u, e = .returned (.tuple #[u, .nilIface]) ∧ IntsIn (fun b => (W5.alloc (.cells #[.int .i64 0] 3)).heap.size ≤ b) w' u [0, 1] ∧ Below (W5.alloc (.cells #[.int .i64 0] 3)).heap.size (W5.alloc (.cells #[.int .i64 0] 3)) w' := by
    have h := cupDelta_ok (d := 0) (f := [0]) good_cir (by decide) (by decide) ⟨by simp, by decide⟩ (.slice (some ⟨w.heap.size + 1 + 1 + 1, 0, none⟩) 3 3) (.slice (some ⟨W5.heap.size, 0, none⟩) 1 1) (W5.alloc (.cells #[.int .i64 0] 3)) (hE.below hB6) (hT.below hB6) ((hR.below b5).below b6) (by decide) (by decide) i6 (by decide)
    rw [cir_delta] at h
    exact h
  have q6 : (W5.alloc (.cells #[.int .i64 0] 3)).cell? ⟨W4.heap.size, 0, none⟩ = some (.slice (some ⟨w.heap.size + 1 + 1 + 1, 0, none⟩) 3 3) := (b6.cell (p := ⟨W4.heap.size, 0, none⟩) (by show W4.heap.size < W5.heap.size; omega)).trans q5
  have HB6 := Hid.mk' hB6
  clear hE hT hR hB4 hW4 hW5 b5 hB5 i6 b6 hB6 hz5
  go_enter Tryz.func4, Tryz.ntmps4
  go_upto_region 2 with fail
  rw [show (((w.alloc (.cells #[.int .i64 0, .int .i64 1] 3)).alloc (.cells #[.int .i64 0, .int .i64 2] 3)).alloc (.cells #[.int .i64 1, .int .i64 2] 3)).alloc (.cells #[.slice (some ⟨w.heap.size, 0, none⟩) 2 2, .slice (some ⟨w.heap.size + 1, 0, none⟩) 2 2, .slice (some ⟨w.heap.size + 1 + 1, 0, none⟩) 2 2] 23) = W4 from HW4.out, HW5.out, ← hz4]
  clear hz4
  go_wp2_with fail
  refine hde.mono ?_
  clear hde
  rintro e V ⟨u, rfl, hu, hV⟩
  have HBV : Hid (Below w.heap.size w V) := HB6.out.trans (hV.mono HB6.out.size)
  have i8 := ints_new V [0, 1]
  have b8 : Below V.heap.size V (V.alloc (.cells #[.int .i64 0, .int .i64 1] 3)) := (Below.refl _ V).alloc (Nat.le_refl _) _
  have hsi := same_ints u (.slice (some ⟨V.heap.size, 0, none⟩) 2 2) [0, 1] [0, 1] (V.alloc (.cells #[.int .i64 0, .int .i64 1] 3)) (hu.any.below b8) i8 (by decide)
  rw [decide_eq_true rfl] at hsi
  have HB8 : Hid (Below w.heap.size w (V.alloc (.cells #[.int .i64 0, .int .i64 1] 3))) := HBV.out.trans (b8.mono HBV.out.size)
  obtain ⟨au, cu, rfl, -, -⟩ := hu.open_
  clear hu hV i8 b8 q6
  go_wp2_with fail
  refine hsi.mono ?_
  clear hsi
  rintro e V2 ⟨rfl, q, rfl⟩
  go_wp2_with fail
  go_ret
  exact ⟨rfl, HB8.out.trans (drew_below _ _)⟩

end Go.Proofs.YtiblgnkjjbbmaaaGreatDoor
