/- The reference's RingOf: the walk. Plain facts on the four closed sets of the statements' circle: their faces, their facets. -/
import Derived.Test.YtldknhganoiajaaGreatDoorCupRefRing
import Derived.Test.YtldknhganoiajaaGreatDoorClosedDefs
import Derived.Test.YtldknhganoiajaaGreatDoorOpen
namespace Go.Proofs.YtldknhganoiajaaGreatDoor
open Go.RowKit Go.Sort

/-- What holds while the products of two dimensions are gone through: V is the world ahead, V4 behind the span's making, V6 behind the classes'. -/
structure RgAt (V V4 V6 : World) (base P : Nat) (W : World) (rows : List Nat) (vS : Value) : Prop where
  span : SpanIn base P W vS rows
  far : ∀ b, vS.ownBlock = some b → b < V4.heap.size ∨ V6.heap.size ≤ b
  same : ∀ b, V4.heap.size ≤ b → b < V6.heap.size → W.heap[b]? = V6.heap[b]?
  bel : Below V.heap.size V W
  size : V6.heap.size ≤ W.heap.size

set_option maxRecDepth 100000 in
set_option maxHeartbeats 8000000 in
theorem ringOf_ {l all : List (List Int)} (hg : Good l all) (va : Value) (w : World) (ha : Rows w va all) (hl : all.length ≤ 60) (hx : ∀ x ∈ all, x.length ≤ 1000) :
    Calls Tryz.prog 12 #[va] w fun e w' => ∃ b c, e = .returned (.slice b (topN all) c) ∧ Rows w' (.slice b (topN all) c) (ringP all (topN all) (topN all)) ∧ Below w.heap.size w w' := by
  obtain ⟨i1, hi1, hz0, hz1, hz2⟩ := info_parts Tryz.info3
  obtain ⟨i2, hi2, hx0, hx1, hx2⟩ := info_parts Tryz.info39
  have h7 : topN all ≤ 7 := topN_upto hg.short
  have HDS : Hid (∀ (d : Nat) W, d ≤ 90 → Below w.heap.size w W → Calls Tryz.prog 24 #[va, .int .i64 (d : Int)] W fun e w' => ∃ P base v, e = .returned (.pointer (some ⟨P, 0, none⟩)) ∧ SpanIn base P w' v (allS (rowsD all d)) ∧ Below W.heap.size W w' ∧ W.heap.size ≤ P) := fun d W hd hW => deltasOfP_ va all d hd W (ha.below hW) hl hx
  have HCO : Hid (∀ (d : Nat) W, d ≤ 90 → Below w.heap.size w W → Calls Tryz.prog 25 #[va, .int .i64 (d : Int)] W fun e w' => ∃ v, e = .returned v ∧ RowsIn (fun b => W.heap.size ≤ b) w' v ((clsR all d).map bitsI) ∧ Below W.heap.size W w') := fun d W hd hW => classesOf_ hg va d hd W (ha.below hW) hl hx
  have HCU : Hid (∀ (i k f g : Nat) (vf vg : Value) W, i ≤ 100 → k ≤ 100 → f < 2 ^ nD all i → g < 2 ^ nD all k → Below w.heap.size w W → Ints W vf (bitsI f) → Ints W vg (bitsI g) → Calls Tryz.prog 27 #[va, .int .i64 (i : Int), vf, .int .i64 (k : Int), vg] W fun e w' => ∃ v, e = .returned v ∧ IntsIn (fun b => W.heap.size ≤ b) w' v (bitsI (cupW all i k f g)) ∧ Below W.heap.size W w') := fun i k f g vf vg W h1 h2 h3 h4 hW h5 h6 => by
    have c1 := cnt60 hl i
    have c2 := cnt60 hl k
    have c3 := cnt60 hl (i + k)
    have o1 := bitsI_ok h3 (by omega)
    have o2 := bitsI_ok h4 (by omega)
    refine (cupOf_ va vf vg all hg i k h1 h2 (bitsI f) (bitsI g) W (ha.below hW) hl hx h5 (Nat.le_trans (bitsI_few h3 (by omega)) c1) h6 (Nat.le_trans (bitsI_few h4 (by omega)) c2)).mono fun e w' h => ?_
    rw [cupL_eq o1 o2 (by unfold nD at c3; omega), mask_bitsI h3 (by omega), mask_bitsI h4 (by omega)] at h
    exact h
  have htop := top_of va all w ha (by omega) hx
  have HG := Hid.mk' (And.intro hg hl)
  obtain ⟨aa, ca, rfl, -, -⟩ := ha.open_
  obtain ⟨A0, hA0⟩ : ∃ A0, all.length = A0 := ⟨_, rfl⟩
  rw [hA0] at HDS HCO HCU htop ⊢
  obtain ⟨T, hTT⟩ : ∃ T, topN all = T := ⟨_, rfl⟩
  have HTT := Hid.mk' hTT
  rw [hTT] at h7 htop ⊢
  clear ha hl hx hg hTT hA0
  go_enter Tryz.func12, Tryz.ntmps12
  go_wp2_with fail
  refine htop.mono ?_
  clear htop
  rintro e W0 ⟨rfl, h0⟩
  obtain rfl : w = W0 := h0.symm
  go_wp2_with fail
  go_loopw [4, 5] (fun v p W => ∃ (i : Nat), i ≤ T ∧ p = .int .i64 (i : Int) ∧ Hid (OwnRows w.heap.size W v (ringP all T i) ∧ Below w.heap.size w W)) (fun _ p _ => T - (intOf p).toNat)
  case atStart => exact ⟨0, by omega, rfl, OwnRows.nil _ _, Below.refl _ _⟩
  case round =>
    obtain ⟨i, hi, rfl, HI⟩ := hrel
    obtain ⟨vs, o1, o2⟩ := HI.out.1
    rw [ringP_len] at o1
    obtain ⟨aR, cR, rfl⟩ := own_form o1
    have HO := Hid.mk' (And.intro o1 o2)
    clear o1 o2
    by_cases hit : i < T
    · have hiT : (i : Int) ≤ (T : Int) - 1 := by omega
      obtain ⟨V3, hV3⟩ : ∃ W, W = wr := ⟨_, rfl⟩
      subst hV3
      obtain ⟨m, hm⟩ : ∃ m, T - i = m := ⟨_, rfl⟩
      have HV3 : Hid (Below w.heap.size w V3) := HI.out.2
      go_wp2_with fail
      go_loopw [6, 7] (fun v p W => ∃ (k : Nat), k ≤ m ∧ p = .int .i64 (k : Int) ∧ Hid (W.ownsRow V3.heap.size 3 1 v k ((ringRow all T i k).map (Value.int .i64)) ∧ Below V3.heap.size V3 W)) (fun _ p _ => m - (intOf p).toNat)
      case atStart => exact ⟨0, by omega, rfl, by simpa [ringRow] using World.ownsRow_nil _ _ _ _, Below.refl _ _⟩
      case round =>
        obtain ⟨k, hk, rfl, HJ⟩ := hrel
        have o1 := HJ.out.1
        obtain ⟨aC, cC, rfl⟩ := own_form o1
        have HC := Hid.mk' o1
        clear o1
        by_cases hkm : k < m
        · have hikT : (i : Int) + (k : Int) ≤ (T : Int) - 1 := by omega
          obtain ⟨V, hV⟩ : ∃ W, W = wr := ⟨_, rfl⟩
          subst hV
          have HVB : Hid (Below w.heap.size w V) := HV3.out.trans (HJ.out.2.mono HV3.out.size)
          have hds := HDS.out (i + k) V (by omega) HVB.out
          have hds' : Calls Tryz.prog 24 #[.slice aa A0 ca, .int .i64 ((i : Int) + (k : Int))] V fun e w' => ∃ P base v, e = .returned (.pointer (some ⟨P, 0, none⟩)) ∧ SpanIn base P w' v (allS (rowsD all (i + k))) ∧ Below V.heap.size V w' ∧ V.heap.size ≤ P := hds
          clear hds
          go_wp2_with fail
          refine hds'.mono ?_
          clear hds'
          rintro e V4 ⟨P, base, v0, rfl, hs0, hV4, hP⟩
          have HV4 : Hid (SpanIn base P V4 v0 (allS (rowsD all (i + k))) ∧ Below V.heap.size V V4 ∧ V.heap.size ≤ P ∧ P < V4.heap.size ∧ Below w.heap.size w V4) := ⟨hs0, hV4, hP, cell_lt (p := ⟨P, 0, none⟩) hs0.cell, HVB.out.trans (hV4.mono HVB.out.size)⟩
          have hca := HCO.out i V4 (by omega) HV4.out.2.2.2.2
          clear hs0 hV4 hP
          go_wp2_with fail
          refine hca.mono ?_
          clear hca
          rintro e V5 ⟨vA, rfl, hA, hV5⟩
          obtain ⟨aA, cA, rfl, -, -⟩ := hA.open_
          have HV5 : Hid (RowsIn (fun b => V4.heap.size ≤ b) V5 (.slice aA ((clsR all i).map bitsI).length cA) ((clsR all i).map bitsI) ∧ Below V4.heap.size V4 V5 ∧ Below w.heap.size w V5) := ⟨hA, hV5, HV4.out.2.2.2.2.trans (hV5.mono HV4.out.2.2.2.2.size)⟩
          rw [List.length_map] at HV5 ⊢
          have hcb := HCO.out k V5 (by omega) HV5.out.2.2
          clear hA hV5
          go_wp2_with fail
          refine hcb.mono ?_
          clear hcb
          rintro e V6 ⟨vB, rfl, hB, hV6⟩
          obtain ⟨aB, cB, rfl, -, -⟩ := hB.open_
          rw [List.length_map] at hB ⊢
          have HV6 : Hid (RowsIn (fun b => V4.heap.size ≤ b ∧ b < V6.heap.size) V6 (.slice aA (clsR all i).length cA) ((clsR all i).map bitsI) ∧ RowsIn (fun b => V4.heap.size ≤ b ∧ b < V6.heap.size) V6 (.slice aB (clsR all k).length cB) ((clsR all k).map bitsI) ∧ RgAt V V4 V6 base P V6 (allS (rowsD all (i + k))) v0) := by
            have h5 := HV5.out.2.1
            have hz := h5.size
            have hz6 := hV6.size
            have hb6 : Below V4.heap.size V4 V6 := h5.trans (hV6.mono hz)
            have hv := HV4.out.2.1.size
            refine ⟨(HV5.out.1.mono (fun b hb h => (⟨h, by omega⟩ : V4.heap.size ≤ b ∧ b < V6.heap.size))).below hV6, hB.mono (fun b hb h => ⟨by have h9 : V5.heap.size ≤ b := h; omega, hb⟩), ⟨HV4.out.1.below hb6, fun b hb => .inl (HV4.out.1.own_low hb).2, fun _ _ _ => rfl, HV4.out.2.1.trans (hb6.mono hv), Nat.le_refl _⟩⟩
          clear hB hV6
          have hA60 := clsR_len HG.out.1 HG.out.2 i
          have hB60 := clsR_len HG.out.1 HG.out.2 k
          have hik := cnt60 HG.out.2 (i + k)
          have hrl := rowsD_lt all (i + k) (show nD all (i + k) ≤ 64 by omega)
          have hAs := clsR_is HG.out.1 HG.out.2 i
          have hBs := clsR_is HG.out.1 HG.out.2 k
          have HRB : Hid (cntS (allS (rowsD all (i + k))) (prodL all i k (clsR all i) (clsR all k)) = ringN all i k) := ring_both HG.out.1 HG.out.2 i k
          have HAT : Hid ((∀ x, x < (clsR all i).length → (clsR all i)[x]?.getD 0 < 2 ^ nD all i) ∧ ∀ x, x < (clsR all k).length → (clsR all k)[x]?.getD 0 < 2 ^ nD all k) := ⟨fun x hx => by rw [List.getElem?_eq_getElem hx]; exact (hAs.is _ (List.getElem_mem hx)).1, fun x hx => by rw [List.getElem?_eq_getElem hx]; exact (hBs.is _ (List.getElem_mem hx)).1⟩
          have HPE : Hid (preP all i k (clsR all i) (clsR all k) (clsR all i).length 0 = prodL all i k (clsR all i) (clsR all k) ∧ preP all i k (clsR all i) (clsR all k) 0 0 = [] ∧ (∀ x, x < (clsR all i).length → preP all i k (clsR all i) (clsR all k) (x + 1) 0 = preP all i k (clsR all i) (clsR all k) x (clsR all k).length) ∧ ∀ x y, y < (clsR all k).length → preP all i k (clsR all i) (clsR all k) x (y + 1) = preP all i k (clsR all i) (clsR all k) x y ++ [cupW all i k ((clsR all i)[x]?.getD 0) ((clsR all k)[y]?.getD 0)]) := ⟨preP_end .., preP_zero .., fun x hx => preP_x hx, fun x y hy => preP_y hy⟩
          have HOK : Hid (∀ x, x < (clsR all i).length → ∀ y, (SpOk ((preP all i k (clsR all i) (clsR all k) x y).foldl withS (allS (rowsD all (i + k)))) ∧ ((preP all i k (clsR all i) (clsR all k) x y).foldl withS (allS (rowsD all (i + k)))).length ≤ 1000) ∧ cntS (allS (rowsD all (i + k))) (preP all i k (clsR all i) (clsR all k) x y) ≤ 3600) := fun x hx y => by
            obtain ⟨R, e⟩ := preP_pre (all := all) (i := i) (k := k) (A := clsR all i) (B := clsR all k) hx y
            have hlt : ∀ r ∈ preP all i k (clsR all i) (clsR all k) x y, r < 2 ^ 64 := fun r hr => by
              have hr2 : r ∈ prodL all i k (clsR all i) (clsR all k) := by rw [e]; exact List.mem_append_left _ hr
              exact lt64 (prodL_is HG.out.1 HG.out.2 hAs.is hBs.is r hr2).1 (by omega)
            have h1 := allS_rows hrl hlt
            exact ⟨⟨(all_span _ _ (allS_ok hrl) hlt).1, by omega⟩, Nat.le_trans (cntS_le _ _) (preP_len hx hA60 hB60 y)⟩
          clear hrl hAs hBs
          obtain ⟨S0, hS0⟩ : ∃ S0, allS (rowsD all (i + k)) = S0 := ⟨_, rfl⟩
          obtain ⟨A, hAA⟩ : ∃ A, clsR all i = A := ⟨_, rfl⟩
          obtain ⟨B, hBB⟩ : ∃ B, clsR all k = B := ⟨_, rfl⟩
          rw [hS0] at HV4 HV6 HRB HOK
          rw [hAA] at HV6 HRB HAT HPE HOK HV5 hA60 ⊢
          rw [hBB] at HV6 HRB HAT HPE HOK hB60 ⊢
          obtain ⟨mA, hmA⟩ : ∃ m, A.length = m := ⟨_, rfl⟩
          obtain ⟨mB, hmB⟩ : ∃ m, B.length = m := ⟨_, rfl⟩
          have HMA := Hid.mk' (And.intro hmA hmB)
          rw [hmA] at HV6 HAT HPE HOK HV5 hA60 ⊢
          rw [hmB] at HV6 HAT HPE hB60 ⊢
          clear hS0 hAA hBB hmA hmB
          go_wp2_with fail
          go_loopw [11, 12] (fun c p W => ∃ (x : Nat) (vS : Value), x ≤ mA ∧ p = .int .i64 (x : Int) ∧ c = .int .i64 ((cntS S0 (preP all i k A B x 0) : Nat) : Int) ∧ Hid (RgAt V V4 V6 base P W ((preP all i k A B x 0).foldl withS S0) vS)) (fun _ p _ => mA - (intOf p).toNat)
          case atStart =>
            refine ⟨0, v0, by omega, rfl, ?_, ?_⟩
            · rw [HPE.out.2.1]; rfl
            · rw [HPE.out.2.1]; exact HV6.out.2.2
          case round =>
            obtain ⟨x, vS, hx, rfl, rfl, HK⟩ := hrel
            by_cases hxm : x < mA
            · go_wp2_with fail
              go_loopw [11, 13] (fun c p W => ∃ (y : Nat) (vS : Value), y ≤ mB ∧ p = .int .i64 (y : Int) ∧ c = .int .i64 ((cntS S0 (preP all i k A B x y) : Nat) : Int) ∧ Hid (RgAt V V4 V6 base P W ((preP all i k A B x y).foldl withS S0) vS)) (fun _ p _ => mB - (intOf p).toNat)
              case atStart => exact ⟨0, vS, by omega, rfl, rfl, HK.out⟩
              case round =>
                obtain ⟨y, vT, hy, rfl, rfl, HY⟩ := hrel
                by_cases hym : y < mB
                · have hR := HY.out
                  have hA := RowsIn.keep HV6.out.1 (fun b _ hs => hR.same b hs.1 hs.2)
                  have hB := RowsIn.keep HV6.out.2.1 (fun b _ hs => hR.same b hs.1 hs.2)
                  obtain ⟨a0, c0, e0, -, hA2⟩ := hA.open_
                  rw [List.length_map, HMA.out.1] at e0 hA2
                  cases e0
                  obtain ⟨bA, oA, rfl, -, -, hA3⟩ := hA2 (by omega)
                  obtain ⟨a1, c1, f1, f2⟩ := hA3 x hxm
                  obtain ⟨a0, c0, e0, -, hB2⟩ := hB.open_
                  rw [List.length_map, HMA.out.2] at e0 hB2
                  cases e0
                  obtain ⟨bB, oB, rfl, -, -, hB3⟩ := hB2 (by omega)
                  obtain ⟨a2, c2, g1, g2⟩ := hB3 y hym
                  rw [bits_at (by rw [HMA.out.1]; exact hxm)] at f1 f2
                  rw [bits_at (by rw [HMA.out.2]; exact hym)] at g1 g2
                  have hfx := HAT.out.1 x hxm
                  have hgy := HAT.out.2 y hym
                  have hpy := HPE.out.2.2.2 x y hym
                  have HWB : Hid (∀ W, Below wr.heap.size wr W → Below w.heap.size w W) := fun W hW => HVB.out.trans ((hR.bel.trans (hW.mono hR.bel.size)).mono HVB.out.size)
                  obtain ⟨f, hf⟩ : ∃ f, A[x]?.getD 0 = f := ⟨_, rfl⟩
                  obtain ⟨g, hg⟩ : ∃ g, B[y]?.getD 0 = g := ⟨_, rfl⟩
                  rw [hf] at f1 f2 hfx hpy
                  rw [hg] at g1 g2 hgy hpy
                  have HCP : Hid (∀ W, Below wr.heap.size wr W → Calls Tryz.prog 27 #[.slice aa A0 ca, .int .i64 (i : Int), .slice a1 (bitsI f).length c1, .int .i64 (k : Int), .slice a2 (bitsI g).length c2] W fun e w' => ∃ v, e = .returned v ∧ IntsIn (fun b => wr.heap.size ≤ b) w' v (bitsI (cupW all i k f g)) ∧ Below wr.heap.size wr w') := fun W hW => (HCU.out i k f g _ _ W (by omega) (by omega) hfx hgy (HWB.out W hW) (f2.any.below hW) (g2.any.below hW)).mono fun e w' h => by
                    obtain ⟨v, h1, h2, h3⟩ := h
                    exact ⟨v, h1, SliceIn.mono h2 (fun b _ h => Nat.le_trans hW.size h), hW.trans (h3.mono hW.size)⟩
                  have hXlt : cupW all i k f g < 2 ^ 64 := lt64 (cupW_lt ..) (by have := hik; unfold nD at this; omega)
                  have hok := HOK.out x hxm y
                  have hn3600 := hok.2
                  have HFO : Hid ((preP all i k A B x (y + 1)).foldl withS S0 = withS ((preP all i k A B x y).foldl withS S0) (cupW all i k f g)) := by
                    show _ = _
                    rw [hpy, List.foldl_append]; rfl
                  have HCN : Hid (cntS S0 (preP all i k A B x (y + 1)) = cntS S0 (preP all i k A B x y) + nw (restS ((preP all i k A B x y).foldl withS S0) (cupW all i k f g))) := by
                    show _ = _
                    rw [hpy, cntS_snoc]
                  have HWI : Hid (∀ W v, Below wr.heap.size wr W → IntsIn (fun b => wr.heap.size ≤ b) W v (bitsI (cupW all i k f g)) → Calls Tryz.prog 26 #[.pointer (some ⟨P, 0, none⟩), v] W fun e w' => e = .returned (.bool (nz (restS ((preP all i k A B x y).foldl withS S0) (cupW all i k f g)))) ∧ ∃ v', RgAt V V4 V6 base P w' ((preP all i k A B x (y + 1)).foldl withS S0) v') := fun W v hW hv => by
                    have hol := fun b (h : vT.ownBlock = some b) => hR.span.own_low h
                    refine (withK_ base P vT v _ (cupW all i k f g) W (hR.span.below hW) hok.1.2 hok.1.1 hXlt (SliceIn.mono hv (fun b _ h => ⟨by have h9 : wr.heap.size ≤ b := h; have := hR.span.size; omega, fun e => by have h9 : wr.heap.size ≤ b := h; have := (hol b e.symm).2; omega⟩))).mono fun e w' h => ?_
                    obtain ⟨h1, v', h2, h3, h4⟩ := h
                    rw [← HFO.out] at h2
                    have hlo := hR.span.low
                    have hP := HV4.out.2.2
                    have hz := hR.size
                    have hwz := hW.size
                    have hVz := hR.bel.size
                    refine ⟨h1, v', h2, fun b hb => ?_, fun b hb1 hb2 => ?_, ⟨h3.os.trans (hW.os.trans hR.bel.os), h3.tape.trans (hW.tape.trans hR.bel.tape), h3.output.trans (hW.output.trans hR.bel.output), by have := h3.size; omega, fun b hb => ?_⟩, by have := h3.size; omega⟩
                    · rcases h4 b hb with h | h
                      · exact hR.far b h
                      · exact .inr (by omega)
                    · exact ((h3.block b (by omega) (fun e => by omega) (fun e => by have := hR.far b e; omega)).trans (hW.block b (by omega))).trans (hR.same b hb1 hb2)
                    · exact ((h3.block b (by omega) (fun e => by omega) (fun e => by have := (hol b e).1; omega)).trans (hW.block b (by omega))).trans (hR.bel.block b hb)
                  have HD : Hid (Below wr.heap.size wr wr) := Below.refl _ _
                  obtain ⟨z, hz⟩ : ∃ z, restS ((preP all i k A B x y).foldl withS S0) (cupW all i k f g) = z := ⟨_, rfl⟩
                  rw [hz] at HCN HWI
                  obtain ⟨n, hn⟩ : ∃ n, cntS S0 (preP all i k A B x y) = n := ⟨_, rfl⟩
                  rw [hn] at HCN hn3600 ⊢
                  obtain ⟨la, hla⟩ : ∃ n, (bitsI f).length = n := ⟨_, rfl⟩
                  obtain ⟨lb, hlb⟩ : ∃ n, (bitsI g).length = n := ⟨_, rfl⟩
                  rw [hla] at f1 HCP
                  rw [hlb] at g1 HCP
                  have z0 : (0 : Int) ≤ (x : Int) := by omega
                  have z1 : (x : Int) < (mA : Int) := by omega
                  have z2 : (0 : Int) ≤ (y : Int) := by omega
                  have z3 : (y : Int) < (mB : Int) := by omega
                  clear hA hB hA2 hB2 hA3 hB3 f2 g2 hfx hgy hpy hf hg hXlt hok hz hn hla hlb hR
                  go_upto_region 20 with fail
                  go_region_with (first
                    | (go_at_call 27; refine (HCP.out _ (by first | exact HD.out | exact HD.out.drew)).mono ?_; rintro e W7 ⟨v7, rfl, hv7, hW7⟩; have HW7 : Hid (IntsIn (fun b => wr.heap.size ≤ b) W7 v7 (bitsI (cupW all i k f g)) ∧ Below wr.heap.size wr W7) := ⟨hv7, hW7⟩; obtain ⟨a7, c7, rfl, -, -⟩ := hv7.open_; clear hv7 hW7)
                    | (go_at_call 26; refine (HWI.out _ _ (by first | exact HW7.out.2 | exact HW7.out.2.drew) (by first | exact HW7.out.1 | exact HW7.out.1.below (Below.refl _ _).drew)).mono ?_; rintro e W8 ⟨rfl, v8, h8⟩; have HE8 : Hid (RgAt V V4 V6 base P W8 ((preP all i k A B x (y + 1)).foldl withS S0) v8) := h8; clear h8))
                  all_goals (
                    clear f1 g1 HCP HWI HW7 HWB
                    rcases Nat.eq_zero_or_pos z with h0 | h0
                    · have HCE : Hid (cntS S0 (preP all i k A B x (y + 1)) = n) := by
                        show _ = _
                        rw [HCN.out, h0]; rfl
                      rw [nz_false h0]
                      clear h0
                      go_wp2_with fail
                      go_roundw
                      case rel => exact ⟨y + 1, v8, by omega, by go_num, by rw [HCE.out], HE8.out⟩
                      case measure => simp [intOf]; omega
                    · have HCE : Hid (cntS S0 (preP all i k A B x (y + 1)) = n + 1) := by
                        show _ = _
                        rw [HCN.out]; unfold nw; rw [if_neg (by omega)]
                      rw [nz_true (show z ≠ 0 by omega)]
                      clear h0
                      go_wp2_with fail
                      go_roundw
                      case rel => exact ⟨y + 1, v8, by omega, by go_num, by rw [HCE.out]; go_num, HE8.out⟩
                      case measure => simp [intOf]; omega)
                · have hyb : y = mB := by omega
                  subst hyb
                  have HEX : Hid (preP all i k A B x y = preP all i k A B (x + 1) 0) := (HPE.out.2.2.1 x hxm).symm
                  rw [HEX.out] at HY ⊢
                  go_wp2_with fail
                  go_roundw
                  case rel => exact ⟨x + 1, vT, by omega, by go_num, rfl, HY.out⟩
                  case measure => simp [intOf]; omega
            · have hxb : x = mA := by omega
              subst hxb
              have HBV : Hid (Below V.heap.size V wr) := HK.out.bel
              have HC5 : Hid (wr.ownsRow V3.heap.size 3 1 (.slice aC k cC) k ((ringRow all T i k).map (Value.int .i64))) := HC.out.kept (Below.grownBy HBV.out) (by cases (Value.slice aC k cC).ownBlock <;> simp)
              have HRS := Hid.mk' (ringRow_succ all T i k)
              rw [HPE.out.1, HRB.out]
              obtain ⟨r, hr⟩ : ∃ r, ringN all i k = r := ⟨_, rfl⟩
              rw [hr] at HRS ⊢
              clear hr HK HPE HRB HOK HAT HV6 HV5 HV4
              go_upto_region 9 with (first
                | (at_builtin; refine wpList_append_slice rfl (.tmp 69) (.tmp 71) 39 rfl V3.heap.size 3 i1 (.int .i64 0) 8 Tryz.underlying39 hi1 hz0 hz1 hz2 rfl _ _ _ rfl (HC5.out.alloc _) _ [.int .i64 (r : Int)] rfl (slice_one _ _ _) (by simp [Value.oneCell']) (by simp; omega) (by unfold maxLen; simp; omega) (by have := HBV.out.size; have := HJ.out.2.size; simp; omega) ?_; intro v6 w6 hown6 hg6 hl6; replace hown6 : w6.ownsRow V3.heap.size 3 1 v6 (k + 1) ((ringRow all T i k).map (Value.int .i64) ++ [.int .i64 (r : Int)]) := hown6; obtain ⟨a6, c6, rfl⟩ := own_form hown6)
                | fail)
              have HE6 : Hid (w6.ownsRow V3.heap.size 3 1 (.slice a6 (k + 1) c6) (k + 1) ((ringRow all T i (k + 1)).map (Value.int .i64)) ∧ Below V3.heap.size V3 w6) := by
                have hlow : ∀ i, (Value.slice aC k cC).ownBlock = some i → V3.heap.size ≤ i ∧ i < V.heap.size := fun i hi => HC.out.lt i hi
                have hb3 : Below V3.heap.size V3 wr := HJ.out.2.trans (HBV.out.mono HJ.out.2.size)
                refine ⟨by rw [HRS.out, List.map_append]; exact hown6, (hb3.alloc hb3.size _).grown hg6 (by have := hb3.size; simp; omega) (fun i hi => (hlow i hi).1)⟩
              clear hown6 hg6 hl6 HC5 HC HJ
              go_wp2_with fail
              go_roundw
              case rel => exact ⟨k + 1, by omega, by go_num, HE6.out⟩
              case measure => simp [intOf]; omega
        · have hkb : k = m := by omega
          subst hkb
          have hnk : ¬ (i : Int) + (k : Int) ≤ (T : Int) - 1 := by omega
          have HIN : Hid (IntsIn (fun b => V3.heap.size ≤ b) wr (.slice aC k cC) (ringRow all T i (T - i))) := by
            have h1 := HC.out
            rw [hm]
            exact slice_of_owns (S := fun b => V3.heap.size ≤ b) h1 (fun b h _ => h)
          have HO5 : Hid (wr.ownsRow w.heap.size 39 1 (.slice aR i cR) i vs) := HO.out.1.kept (Below.grownBy HJ.out.2) (by cases (Value.slice aR i cR).ownBlock <;> simp)
          have HPS := Hid.mk' (ringP_succ all T i)
          clear HC
          go_upto_region 5 with (first
            | (at_builtin; refine wpList_append_slice rfl (.tmp 73) (.tmp 75) 22 rfl w.heap.size 39 i2 (.slice none 0 0) 24 Tryz.underlying22 hi2 hx0 hx1 hx2 rfl _ _ _ rfl (HO5.out.alloc _) _ [.slice aC k cC] rfl (slice_one _ _ _) (by simp [Value.oneCell']) (by simp; omega) (by unfold maxLen; simp; omega) (by have := HJ.out.2.size; have := HV3.out.size; simp; omega) ?_; intro v6 w6 hown6 hg6 hl6; replace hown6 : w6.ownsRow w.heap.size 39 1 v6 (i + 1) (vs ++ [.slice aC k cC]) := hown6; obtain ⟨a6, c6, rfl⟩ := own_form hown6)
            | fail)
          have HE6 : Hid (OwnRows w.heap.size w6 (.slice a6 (i + 1) c6) (ringP all T (i + 1)) ∧ Below w.heap.size w w6) := by
            have hlow : ∀ i', (Value.slice aR i cR).ownBlock = some i' → w.heap.size ≤ i' ∧ i' < V3.heap.size := fun i' hi' => HO.out.1.lt i' hi'
            have hb3 : Below w.heap.size w wr := HV3.out.trans (HJ.out.2.mono HV3.out.size)
            refine ⟨?_, (hb3.alloc hb3.size _).grown hg6 (by have := hb3.size; simp; omega) (fun i hi => (hlow i hi).1)⟩
            rw [HPS.out]
            exact OwnRows.push (by rw [ringP_len]; exact HO5.out) (fun q u x hu hx => (HO.out.2 q u x hu hx).below HJ.out.2) (SliceIn.mono HIN.out (fun b _ hb => ⟨by have h9 : V3.heap.size ≤ b := hb; have := HV3.out.size; omega, fun e => by have h9 : V3.heap.size ≤ b := hb; have := (hlow b e.symm).2; omega⟩)) (by rw [ringP_len]; exact hown6) hg6 hl6
          clear hown6 hg6 hl6 HO5 HO HI HJ HIN
          go_wp2_with fail
          go_roundw
          case rel => exact ⟨i + 1, by omega, by go_num, HE6.out⟩
          case measure => simp [intOf]; omega
    · have hiT : i = T := by omega
      subst hiT
      have hni : ¬ (i : Int) ≤ (i : Int) - 1 := by omega
      have HEE : Hid (Rows wr (.slice aR i cR) (ringP all i i) ∧ Below w.heap.size w wr) := ⟨HI.out.1.rows, HI.out.2⟩
      clear HO HI
      go_wp2_with fail
      go_ret
      exact ⟨_, _, rfl, HEE.out⟩

end Go.Proofs.YtldknhganoiajaaGreatDoor

namespace Go.Proofs.YtldknhganoiajaaGreatDoor
open Go.RowKit Go.Sort

/-- The four sets, and what they come to. -/
def cirL : List (List Int) := [[1, 0], [1, 2], [2, 0], [1]]
def cirT : List (List Int) := [[0, 1], [1, 2], [0, 2], [1]]
def cirA : List (List Int) := [[0], [0, 1], [0, 2], [1], [1, 2], [2]]
def cirF : List (List Int) := [[0, 1], [0, 2], [1, 2]]

theorem cir_ok : ∀ x ∈ cirL, SetOk x := by
  intro x hx
  unfold cirL at hx
  simp only [List.mem_cons, List.not_mem_nil, or_false] at hx
  rcases hx with rfl | rfl | rfl | rfl <;> (unfold SetOk; decide)
theorem cir_srt : cirL.map srt = cirT := by
  have h1 : srt [1, 0] = [0, 1] := (srt_told (by decide) (by decide) (fun v => by simp; omega)).symm
  have h2 : srt [1, 2] = [1, 2] := (srt_told (by decide) (by decide) (fun v => by simp)).symm
  have h3 : srt [2, 0] = [0, 2] := (srt_told (by decide) (by decide) (fun v => by simp; omega)).symm
  have h4 : srt [1] = [1] := (srt_told (by decide) (by decide) (fun v => by simp)).symm
  simp [cirL, cirT, h1, h2, h3, h4]
theorem cir_sub {x t : List Int} (ht : t ∈ cirT) (h : x.Sublist t) (hx : x ≠ []) : x ∈ cirA := by
  obtain ⟨b, hb, rfl⟩ := pick_all h
  unfold cirT at ht
  simp only [List.mem_cons, List.not_mem_nil, or_false] at ht
  rcases ht with rfl | rfl | rfl | rfl
  · have hb4 : b < 4 := hb
    rcases (show b = 0 ∨ b = 1 ∨ b = 2 ∨ b = 3 by omega) with rfl | rfl | rfl | rfl
    · exact absurd (by decide) hx
    · decide
    · decide
    · decide
  · have hb4 : b < 4 := hb
    rcases (show b = 0 ∨ b = 1 ∨ b = 2 ∨ b = 3 by omega) with rfl | rfl | rfl | rfl
    · exact absurd (by decide) hx
    · decide
    · decide
    · decide
  · have hb4 : b < 4 := hb
    rcases (show b = 0 ∨ b = 1 ∨ b = 2 ∨ b = 3 by omega) with rfl | rfl | rfl | rfl
    · exact absurd (by decide) hx
    · decide
    · decide
    · decide
  · have hb4 : b < 2 := hb
    rcases (show b = 0 ∨ b = 1 by omega) with rfl | rfl
    · exact absurd (by decide) hx
    · decide
theorem cir_all : IsAll cirT cirA where
  order := by decide
  mem := fun x => by
    constructor
    · intro hx
      unfold cirA at hx
      simp only [List.mem_cons, List.not_mem_nil, or_false] at hx
      rcases hx with rfl | rfl | rfl | rfl | rfl | rfl
      · exact ⟨by decide, [0, 1], by decide, by decide⟩
      · exact ⟨by decide, [0, 1], by decide, by decide⟩
      · exact ⟨by decide, [0, 2], by decide, by decide⟩
      · exact ⟨by decide, [0, 1], by decide, by decide⟩
      · exact ⟨by decide, [1, 2], by decide, by decide⟩
      · exact ⟨by decide, [1, 2], by decide, by decide⟩
    · rintro ⟨h, t, ht, hs⟩
      exact cir_sub ht hs h
theorem cir_facets : facetsI cirA = cirF := by decide
theorem cir_not_over : ¬ Over cirT := not_over cir_all (by decide) (by decide)
theorem cir_rising : ∀ t ∈ cirT, Rising t := by decide

/-- What the map tells of them. -/
theorem cir_told {ts ss : List (List UInt8)} (ht : ts.map ints = cirL.map srt) (hn : ss.Nodup) (hm : ∀ x, x ∈ ss ↔ FaceOf ts x ∧ ¬ InnerOf ts x) : (srtS ss).map ints = cirF := by
  rw [cir_srt] at ht
  have := facets_same (ts := ts) (ss := ss) (all := cirA) (fun t h => cir_rising _ (by rw [← ht]; exact List.mem_map.2 ⟨t, h, rfl⟩)) (by rw [ht]; exact cir_all) hn hm
  rw [cir_facets] at this
  exact this
theorem cir_few {ts : List (List UInt8)} (ht : ts.map ints = cirL.map srt) : ¬ Over ts := fun h => cir_not_over (by rw [← cir_srt, ← ht]; exact over_ints.2 h)

end Go.Proofs.YtldknhganoiajaaGreatDoor
