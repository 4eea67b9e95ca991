/- The walk of number. -/
import Derived.Test.YtnnkmkhamipfiaaGreatDoorMorseNumber
namespace Go.Proofs.YtnnkmkhamipfiaaGreatDoor
open Go.RowKit Go.Sort

theorem three_at (w : World) (a b c : Value) (t : TypeId) : ∀ j u, [a, b, c][j]? = some u → (w.alloc (.cells #[a, b, c] t)).cell? ⟨w.heap.size, j, none⟩ = some u ∧ (w.alloc (.cells #[a, b, c] t)).frozen? ⟨w.heap.size, j, none⟩ = false := fun j u hu => by
  have h := cells_new w [a, b, c] t j u hu
  rw [Addr.add_lit, Nat.zero_add] at h
  refine ⟨h, ?_⟩
  have hg : (w.alloc (.cells #[a, b, c] t)).heap[w.heap.size]? = some (.cells #[a, b, c] t) := (Go.MapKept.heap_alloc w _).1
  simp only [World.frozen?, hg]
  simp

/-- Three cells that are stored. -/
theorem three_put {W : World} {B : Nat} (v0 v1 v2 : Value) (h : ∀ j, j < 3 → (W.cell? ⟨B, j, none⟩).isSome = true) :
    ∀ j u, [v0, v1, v2][j]? = some u → (((W.setCell ⟨B, 0, none⟩ v0).setCell ⟨B, 1, none⟩ v1).setCell ⟨B, 2, none⟩ v2).cell? ⟨B, j, none⟩ = some u := by
  have ne : ∀ {i j : Nat}, i ≠ j → (⟨B, i, none⟩ : Addr) ≠ ⟨B, j, none⟩ := fun h => addr_ne (.inr h)
  intro j u hu
  have hj : j < 3 := by simpa using (List.getElem?_eq_some_iff.1 hu).1
  have hc : j = 0 ∨ j = 1 ∨ j = 2 := by omega
  rcases hc with rfl | rfl | rfl <;> cases hu
  · rw [World.cell?_setCell_other _ _ _ _ (ne (by decide)), World.cell?_setCell_other _ _ _ _ (ne (by decide))]
    exact World.cell?_setCell_same' _ _ _ (h 0 (by omega))
  · rw [World.cell?_setCell_other _ _ _ _ (ne (by decide))]
    exact World.cell?_setCell_same' _ _ _ (by rw [World.cell?_setCell_other _ _ _ _ (ne (by decide))]; exact h 1 (by omega))
  · exact World.cell?_setCell_same' _ _ _ (by rw [World.cell?_setCell_other _ _ _ _ (ne (by decide)), World.cell?_setCell_other _ _ _ _ (ne (by decide))]; exact h 2 (by omega))

theorem ownsRow_of_block {W W' : World} {base : Nat} {e : TypeId} {sz : Nat} {v : Value} {n : Nat} {xs : List Value} (h : W.ownsRow base e sz v n xs) (hb : ∀ b, v.ownBlock = some b → W'.heap[b]? = W.heap[b]?) : W'.ownsRow base e sz v n xs := by
  refine ⟨h.1, ?_⟩
  rcases h.2 with h2 | ⟨g, cap, cur, rfl, h3, h4, h5⟩
  · exact .inl h2
  · exact .inr ⟨g, cap, cur, rfl, h3, (hb g rfl).trans h4, h5⟩

theorem top_short {l all : List (List Int)} (g : Good l all) : topN all ≤ 7 := topN_upto g.short
theorem num_len {all : List (List Int)} (hd : all.Nodup) (d : Nat) : (numTo all d).length ≤ all.length := by
  have h : (numTo all d).Perm (all.filter fun x => decide (1 ≤ x.length ∧ x.length ≤ d)) := (List.perm_ext_iff_of_nodup (numTo_nodup hd d) (hd.filter _)).2 fun x => by
    rw [numTo_mem, List.mem_filter, decide_eq_true_eq]
  rw [h.length_eq]
  exact List.length_filter_le _ _
theorem tab_nil_block {b : Nat} : ¬ TabBlock (.slice none 0 0) [] b := fun h => by
  rcases h with h | ⟨k, u, hu, _⟩
  · cases h
  · simp at hu
theorem good_some {l all : List (List Int)} (g : Good l all) : ∀ x ∈ all, x ≠ [] := fun x hx => ((g.isAll.mem x).1 hx).1
theorem good_rising {l all : List (List Int)} (g : Good l all) : ∀ x ∈ all, Rising x := fun x hx => face_rising (fun t ht => by obtain ⟨y, hy, rfl⟩ := List.mem_map.1 ht; exact srt_rising (g.ok y hy).2.1) ((g.isAll.mem x).1 hx)
theorem ofDim_cnt (all : List (List Int)) (d : Nat) : (ofDim all (d : Int)).length = cnt all d := cnt_filter all d

theorem topN_ex : ∀ {l : List (List Int)}, 0 < topN l → ∃ x ∈ l, x.length = topN l
  | [], h => by simp [topN] at h
  | x :: l, h => by
    simp only [topN] at h ⊢
    rcases Nat.lt_or_ge x.length (topN l) with h1 | h1
    · obtain ⟨y, hy, e⟩ := topN_ex (l := l) (by omega)
      exact ⟨y, .tail _ hy, by omega⟩
    · exact ⟨x, .head _, by omega⟩
theorem dim_some {l all : List (List Int)} (g : Good l all) {d : Nat} (h : d < topN all) : 0 < (ofDim all (d : Int)).length := by
  obtain ⟨x, hx, e⟩ := topN_ex (l := all) (by omega)
  have hl : (x.take (d + 1)).length = d + 1 := by rw [List.length_take]; omega
  have hm : x.take (d + 1) ∈ all := by
    obtain ⟨_, t, ht, hs⟩ := (g.isAll.mem x).1 hx
    exact (g.isAll.mem _).2 ⟨fun e => by rw [e] at hl; simp at hl, t, ht, (List.take_sublist _ _).trans hs⟩
  exact List.length_pos_of_mem (List.mem_filter.2 ⟨hm, by rw [decide_eq_true_eq, hl]; omega⟩)

def dimL (P : List (List Int)) : List Int := P.map fun x => (x.length : Int) - 1
theorem dimL_succ (all : List (List Int)) (d : Nat) : dimL (numTo all (d + 1)) = dimL (numTo all d) ++ List.replicate (ofDim all (d : Int)).length (d : Int) := by
  rw [numTo_succ]
  unfold dimL
  rw [List.map_append]
  congr 1
  refine List.eq_replicate_iff.2 ⟨by rw [List.length_map], fun x hx => ?_⟩
  obtain ⟨y, hy, rfl⟩ := List.mem_map.1 hx
  have := ofDim_len y hy
  omega

set_option maxRecDepth 100000 in
set_option maxHeartbeats 8000000 in
theorem number_ {a : Nat → Addr} {s : Nat → ByteArray} (vl : Value) (l : List (List Int)) (w : World) (hE : Errs a s w) (hl : Rows w vl l) (hll : l.length ≤ 100000) (hle : ∀ x ∈ l, x.length ≤ 1000) :
    Calls Tryz.prog 45 #[.agg #[vl]] w fun e w' => NumSays a l w e w' := by
  obtain ⟨i0, hi0, hz0, hz1, hz2⟩ := info_parts Tryz.info122
  obtain ⟨i1, hi1, hx0, hx1, hx2⟩ := info_parts Tryz.info29
  obtain ⟨j0, hj0, hy0, hy1, hy2⟩ := info_parts Tryz.info3
  have HLL : Hid (Errs a s w ∧ Rows w vl l ∧ l.length ≤ 100000 ∧ ∀ x ∈ l, x.length ≤ 1000) := ⟨hE, hl, hll, hle⟩
  obtain ⟨al, cl, rfl, -, -⟩ := hl.open_
  have hBa : Below w.heap.size w ((w.alloc (.cells #[.slice al l.length cl] 39)).alloc (.cells #[.slice none 0 0, .slice none 0 0, .slice none 0 0] 79)) := ((Below.refl _ w).alloc (Nat.le_refl _) _).alloc (by simp) _
  have hve := vector_call (.slice al l.length cl) l _ (hE.below hBa) (hl.below hBa) hll hle
  have hcb : ((w.alloc (.cells #[.slice al l.length cl] 39)).alloc (.cells #[.slice none 0 0, .slice none 0 0, .slice none 0 0] 79)).cell? ⟨w.heap.size, 0, none⟩ = some (.slice al l.length cl) := (World.cell?_alloc_lt _ _ ⟨w.heap.size, 0, none⟩ (by simp)).trans (box_new w _ _).1
  have hrb := three_at (w.alloc (.cells #[.slice al l.length cl] 39)) (.slice none 0 0) (.slice none 0 0) (.slice none 0 0) 79
  rw [World.size_alloc] at hrb
  clear hE hl hll hle
  go_enter Tryz.func45, Tryz.ntmps45
  go_upto_region 1 with fail
  obtain ⟨X, hX⟩ : ∃ X, (w.alloc (.cells #[.slice al l.length cl] 39)).alloc (.cells #[.slice none 0 0, .slice none 0 0, .slice none 0 0] 79) = X := ⟨_, rfl⟩
  obtain ⟨xb, hxb⟩ : ∃ xb, w.heap.size = xb := ⟨_, rfl⟩
  have hxl : xb + 1 < X.heap.size := by rw [← hX, ← hxb]; simp
  rw [hX] at hve
  rw [hX, hxb] at hcb hrb hBa
  try rw [hX]
  try rw [hxb]
  have HXB : Hid (w.heap.size = xb) := hxb
  have HRB : Hid (∀ j, j < 3 → X.cell? ⟨xb + 1, j, none⟩ = some (.slice none 0 0) ∧ X.frozen? ⟨xb + 1, j, none⟩ = false) := fun j hj => hrb j _ (by
    have : j = 0 ∨ j = 1 ∨ j = 2 := by omega
    rcases this with rfl | rfl | rfl <;> rfl)
  clear hX hxb hrb
  go_wp2_with fail
  refine hve.mono ?_
  clear hve
  rintro e w2 ⟨hB2, ⟨i, hbad, rfl⟩ | ⟨all, v, hg, rfl, hv⟩⟩
  · have HB2 : Hid (Below xb w w2) := hBa.trans (hB2.mono (by omega))
    have rr : ∀ j, j < 3 → w2.cell? ⟨xb + 1, j, none⟩ = some (.slice none 0 0) ∧ w2.frozen? ⟨xb + 1, j, none⟩ = false := fun j hj => ⟨(hB2.cell (p := ⟨xb + 1, j, none⟩) hxl).trans (HRB.out j hj).1, (hB2.frozen (p := ⟨xb + 1, j, none⟩) hxl).trans (HRB.out j hj).2⟩
    obtain ⟨r0, f0⟩ := rr 0 (by omega)
    obtain ⟨r1, f1⟩ := rr 1 (by omega)
    obtain ⟨r2, f2⟩ := rr 2 (by omega)
    have hput := three_put (.slice none 0 0) (.slice none 0 0) (.slice none 0 0) (fun k hk => by rw [(rr k hk).1]; rfl)
    have t0 := hput 0 _ rfl
    have t1 := hput 1 _ rfl
    have t2 := hput 2 _ rfl
    have HBD : Hid (BadAt l i) := hbad
    clear hbad hB2 rr hput
    go_wp2_with fail
    refine bodyPost_ret (v := noShape (.iface 250 (.pointer (some (a i))))) ?_ rfl ?_
    · simp [results, Tryz.f45, go_sem, t0, t1, t2, noShape]
    · unfold NumSays
      rw [HXB.out]
      exact ⟨((HB2.out.setCell (p := ⟨xb + 1, 0, none⟩) (by simp) _).setCell (p := ⟨xb + 1, 1, none⟩) (by simp) _).setCell (p := ⟨xb + 1, 2, none⟩) (by simp) _, .inl ⟨i, HBD.out, rfl⟩⟩
  · have HG : Hid (Good l all) := hg
    have HV : Hid (Ints w2 v (vecOf all)) := hv
    obtain ⟨av, cv, rfl, -, -⟩ := hv.open_
    have hs3 := three_at w2 (.slice none 0 0) (.slice none 0 0) (.slice none 0 0) 79
    have hB2a : Below w2.heap.size w2 (w2.alloc (.cells #[.slice none 0 0, .slice none 0 0, .slice none 0 0] 79)) := (Below.refl _ w2).alloc (Nat.le_refl _) _
    clear hg hv
    go_upto_region 6 with fail
    have HB2 : Hid (Below xb w w2) := hBa.trans (hB2.mono (by omega))
    have hcb2 : w2.cell? ⟨xb, 0, none⟩ = some (.slice al l.length cl) := (hB2.cell (p := ⟨xb, 0, none⟩) (by simp only; omega)).trans hcb
    have HRB2 : Hid (∀ j, j < 3 → w2.cell? ⟨xb + 1, j, none⟩ = some (.slice none 0 0) ∧ w2.frozen? ⟨xb + 1, j, none⟩ = false) := fun j hj => ⟨(hB2.cell (p := ⟨xb + 1, j, none⟩) hxl).trans (HRB.out j hj).1, (hB2.frozen (p := ⟨xb + 1, j, none⟩) hxl).trans (HRB.out j hj).2⟩
    have hxl2 : xb + 1 < w2.heap.size := by have := hB2.size; omega
    obtain ⟨W0, hW0⟩ : ∃ W0, w2.alloc (.cells #[.slice none 0 0, .slice none 0 0, .slice none 0 0] 79) = W0 := ⟨_, rfl⟩
    obtain ⟨sb, hsb⟩ : ∃ sb, w2.heap.size = sb := ⟨_, rfl⟩
    have hW0s : W0.heap.size = sb + 1 := by rw [← hW0, ← hsb]; simp
    have HWS : Hid (W0.heap.size = sb + 1) := hW0s
    rw [hW0, hsb] at hs3 hB2a
    rw [hsb] at hxl2
    have HB0 : Hid (Below sb w2 W0) := hB2a
    have hsz0 : sb < W0.heap.size := by omega
    have HN0 : Hid (NumAt (sb + 1) sb (sidesC (numTo all 0) allD) (oversC (numTo all 0) allD) (dimL (numTo all 0)) (fun b => b = sb) W0 W0 (.slice none 0 0) (.slice none 0 0) (.slice none 0 0) [] []) :=
      ⟨World.ownsRow_nil _ _ _ _, tabAt_nil _ _ _ _ _, tabAt_nil _ _ _ _ _, fun b hb => absurd hb tab_nil_block, fun b hb => by (cases hb), hs3 0 _ rfl, hs3 1 _ rfl, hs3 2 _ rfl, by omega, KeepOff.refl _ _, rfl, fun b hb => by (cases hb), fun b hb => absurd hb tab_nil_block, fun b hb => absurd hb tab_nil_block⟩
    obtain ⟨top, htop⟩ : ∃ top, topN all = top := ⟨_, rfl⟩
    have HTP : Hid (topN all = top) := htop
    have htl : top ≤ 7 := by rw [← htop]; exact top_short HG.out
    have hvl : (vecOf all).length = top := by rw [vecOf_length]; exact htop
    try rw [hW0]
    try rw [hsb]
    try rw [hvl]
    have HSB : Hid (w2.heap.size = sb) := hsb
    have HVL : Hid ((vecOf all).length = top) := hvl
    clear hW0 hsb hs3 hB2a hB2 hBa htop hvl hW0s hcb HRB
    go_wp2_with fail
    go_loopw [23] (fun p W => ∃ (d : Nat) (vd vS vO : Value) (vs1 vs2 : List Value), d ≤ top ∧ p = .int .i64 d ∧ Hid (NumAt (sb + 1) sb (sidesC (numTo all d) allD) (oversC (numTo all d) allD) (dimL (numTo all d)) (fun b => b = sb) W0 W vd vS vO vs1 vs2)) (fun p _ => top - (intOf p).toNat)
    case atStart => exact ⟨0, _, _, _, _, _, by omega, rfl, HN0.out⟩
    case round =>
      obtain ⟨d, vd, vS, vO, vs1, vs2, hd, rfl, HA⟩ := hrel
      obtain ⟨wo, hwo⟩ : ∃ wo : World, wo = wr := ⟨_, rfl⟩
      subst hwo
      clear HN0
      have hszr := HA.out.keep.size
      have kc : ∀ (p : Addr), p.block < sb → wo.cell? p = w2.cell? p := fun p hp => (HA.out.keep.cell (by omega) (fun (e : p.block = sb) => by omega)).trans (HB0.out.cell hp)
      have kf : ∀ (p : Addr), p.block < sb → wo.frozen? p = w2.frozen? p := fun p hp => (HA.out.keep.frozen (by omega) (fun (e : p.block = sb) => by omega)).trans (HB0.out.frozen hp)
      have HBR : Hid (Below xb w wo) := ⟨HA.out.keep.os.trans (HB0.out.os.trans HB2.out.os), HA.out.keep.tape.trans (HB0.out.tape.trans HB2.out.tape), HA.out.keep.output.trans (HB0.out.output.trans HB2.out.output), by have := HB2.out.size; have := HSB.out; omega, fun b hb => (HA.out.keep.block b (by omega) (fun (e : b = sb) => by omega)).trans ((HB0.out.block b (by omega)).trans (HB2.out.block b hb))⟩
      have HKC : Hid ((∀ (p : Addr), p.block < sb → wo.cell? p = w2.cell? p) ∧ ∀ (p : Addr), p.block < sb → wo.frozen? p = w2.frozen? p) := ⟨kc, kf⟩
      by_cases hdt : d < top
      · obtain ⟨av', cv', ev, -, hvx⟩ := HV.out.open_
        rw [HVL.out] at ev hvx
        cases ev
        obtain ⟨bv, ov, rfl, -, hbv, hvc⟩ := hvx (by omega)
        obtain ⟨nd, hnd⟩ : ∃ nd, (ofDim all (d : Int)).length = nd := ⟨_, rfl⟩
        have hve : (vecOf all)[d]?.getD 0 = (nd : Int) := by rw [vecOf_get all d (by rw [HTP.out]; exact hdt), ← hnd, ofDim_cnt]; rfl
        have v0 := (kc ⟨bv, ov + d, none⟩ (by have := HSB.out; simp only; omega)).trans (hvc d hdt)
        rw [hve] at v0
        have x0 := (kc ⟨xb, 0, none⟩ (by simp only; omega)).trans hcb2
        have hbo : Calls Tryz.prog 80 #[.agg #[.slice al l.length cl], .int .i64 (d : Int)] wo fun e w' => ∃ v, e = .returned (.tuple #[.agg #[.int .i64 (ofDim all ((d : Int) - 1)).length, .int .i64 (ofDim all (d : Int)).length, v], .nilIface]) ∧ IntsIn (fun b => wo.heap.size ≤ b) w' v (borderI (ofDim all ((d : Int) - 1)) (ofDim all (d : Int))) ∧ Below wo.heap.size wo w' := (boundary_own (.slice al l.length cl) l (d : Int) wo (HLL.out.1.below (by rw [HXB.out]; exact HBR.out)) (HLL.out.2.1.below (by rw [HXB.out]; exact HBR.out)) HLL.out.2.2.1 HLL.out.2.2.2).mono fun e w' h => by
          rcases h with ⟨h1, ⟨i, hb, _⟩ | ⟨all', hg', ⟨h2, _⟩ | ⟨_, v, h3, h4⟩⟩⟩
          · exact (bad_good hb HG.out).elim
          · omega
          · obtain rfl := good_one HG.out hg'
            exact ⟨v, h3, h4, h1⟩
        obtain ⟨Rn, hRn⟩ : ∃ Rn, (ofDim all ((d : Int) - 1)).length = Rn := ⟨_, rfl⟩
        obtain ⟨M, hM⟩ : ∃ M, borderI (ofDim all ((d : Int) - 1)) (ofDim all (d : Int)) = M := ⟨_, rfl⟩
        rw [hRn, hnd, hM] at hbo
        have HRM : Hid (((ofDim all ((d : Int) - 1)).length = Rn ∧ (ofDim all (d : Int)).length = nd) ∧ borderI (ofDim all ((d : Int) - 1)) (ofDim all (d : Int)) = M) := ⟨⟨hRn, hnd⟩, hM⟩
        clear hvx hvc hve hRn hM hnd kc kf
        go_upto_region 11 with (go_at_call 80; refine hbo.mono ?_; rintro e w3 ⟨vm, rfl, hvm, hB3⟩; have HVM : Hid (IntsIn (fun b => wo.heap.size ≤ b) w3 vm M) := hvm; have HB3 : Hid (Below wo.heap.size wo w3) := hB3; obtain ⟨am, cm, rfl, -, -⟩ := hvm.open_; clear hvm hB3)
        have hmb := matBox_new w3 Rn nd (.slice am M.length cm) 45
        have hBm : Below w3.heap.size w3 (w3.alloc (.cells #[.int .i64 (Rn : Int), .int .i64 (nd : Int), .slice am M.length cm] 45)) := (Below.refl _ w3).alloc (Nat.le_refl _) _
        obtain ⟨T1, hT1⟩ : ∃ T1 : Nat → Prop, T1 = fun b => b = sb ∨ vd.ownBlock = some b ∨ TabBlock vS vs1 b ∨ TabBlock vO vs2 b := ⟨_, rfl⟩
        have HTB : Hid (∀ b, T1 b → b = sb ∨ (sb + 1 ≤ b ∧ b < wo.heap.size)) := fun b hb => by
          rw [hT1] at hb
          rcases hb with hb | hb | hb | hb
          · exact .inl hb
          · exact .inr (HA.out.dims.lt b hb)
          · exact .inr (HA.out.t1.lt hb)
          · exact .inr (HA.out.t2.lt hb)
        have HS1 : Hid (NumAt (sb + 1) sb (sidesC (numTo all d) allD) (oversC (numTo all d) allD) (dimL (numTo all d)) T1 _ _ vd vS vO vs1 vs2) := ((HA.out.below HB3.out).below hBm).start T1 (by rw [hT1]; exact .inl rfl) (fun b hb => by rw [hT1]; exact .inr (.inl hb)) (fun b hb => by rw [hT1]; exact .inr (.inr (.inl hb))) (fun b hb => by rw [hT1]; exact .inr (.inr (.inr hb)))
        have HVW : Hid (IntsIn (fun b => wo.heap.size ≤ b) _ (.slice am M.length cm) M) := HVM.out.below hBm
        obtain ⟨Wm, hWm⟩ : ∃ Wm, w3.alloc (.cells #[.int .i64 (Rn : Int), .int .i64 (nd : Int), .slice am M.length cm] 45) = Wm := ⟨_, rfl⟩
        obtain ⟨mb, hmbe⟩ : ∃ mb, w3.heap.size = mb := ⟨_, rfl⟩
        have hmbl : mb < Wm.heap.size ∧ wo.heap.size ≤ mb := by have := HB3.out.size; rw [← hWm, ← hmbe]; simp; omega
        have HKW : Hid (∀ b, b < wo.heap.size → Wm.heap[b]? = wo.heap[b]?) := fun b hb => by rw [← hWm]; exact (hBm.block b (by have := HB3.out.size; omega)).trans (HB3.out.block b hb)
        have HEW : Hid (Wm.os = wo.os ∧ Wm.tape = wo.tape ∧ Wm.output = wo.output) := by rw [← hWm]; exact ⟨HB3.out.os, HB3.out.tape, HB3.out.output⟩
        rw [hWm] at HS1 HVW
        rw [hWm, hmbe] at hmb
        try rw [hWm]
        try rw [hmbe]
        clear hWm hmbe hBm HVM hT1
        obtain ⟨ad, cd0, rfl⟩ := own_slice HA.out.dims
        obtain ⟨N, hN⟩ : ∃ N, (dimL (numTo all d)).length = N := ⟨_, rfl⟩
        have HNL : Hid ((dimL (numTo all d)).length = N ∧ (numTo all d).length = N) := ⟨hN, by rw [← hN]; simp [dimL]⟩
        have s0 := HS1.out.c0.1
        rw [hN] at s0
        have hNb : N + nd ≤ 600 := by
          have h1 := num_len (order_nodup HG.out.isAll.order) (d + 1)
          rw [numTo_succ, List.length_append, HNL.out.2, HRM.out.1.2] at h1
          have := HG.out.length
          omega
        clear hN
        go_wp2_with fail
        go_loopw [42] (fun p W => ∃ (j : Nat) (vd' : Value), j ≤ nd ∧ p = .int .i64 j ∧ Hid (NumAt (sb + 1) sb (sidesC (numTo all d) allD) (oversC (numTo all d) allD) (dimL (numTo all d) ++ List.replicate j (d : Int)) T1 Wm W vd' vS vO vs1 vs2)) (fun p _ => nd - (intOf p).toNat)
        case atStart => exact ⟨0, _, by omega, rfl, by rw [List.replicate_zero, List.append_nil]; exact HS1.out⟩
        case round =>
          obtain ⟨j, vd', hj, rfl, HJ⟩ := hrel
          have hszm := HJ.out.keep.size
          by_cases hjn : j < nd
          · obtain ⟨ds, hds⟩ : ∃ ds, dimL (numTo all d) ++ List.replicate j (d : Int) = ds := ⟨_, rfl⟩
            have HDS : Hid (dimL (numTo all d) ++ List.replicate (j + 1) (d : Int) = ds ++ [(d : Int)]) := by
              show _ = _
              rw [← hds, List.append_assoc, List.replicate_succ']
            have hdl : ds.length = N + j := by rw [← hds, List.length_append, HNL.out.1, List.length_replicate]
            rw [hds] at HJ
            obtain ⟨ad', cd', rfl⟩ := own_slice HJ.out.dims
            obtain ⟨k, hk⟩ : ∃ k, ds.length = k := ⟨_, rfl⟩
            have own := HJ.out.dims
            rw [hk] at own
            have c0 := HJ.out.c0.1
            rw [hk] at c0
            have hkb : k ≤ 600 := by omega
            have HKE : Hid (ds.length = k) := hk
            have hsbw : sb + 1 ≤ wr.heap.size := by have := hmbl; have := HWS.out; omega
            have hne : some sb ≠ (Value.slice ad' k cd').ownBlock := fun e => by have := (own.lt sb e.symm).1; omega
            have HC0 : Hid (wr.cell? ⟨sb, 0, none⟩ = some (.slice ad' k cd') ∧ wr.frozen? ⟨sb, 0, none⟩ = false) := ⟨c0, HJ.out.c0.2⟩
            clear hds hdl hk
            go_wp2_with (first
              | (at_builtin; refine wpList_append_slice rfl (.tmp 45) (.tmp 47) 29 rfl (sb + 1) 3 j0 (.int .i64 0) 8 Tryz.underlying29 hj0 hy0 hy1 hy2 rfl _ _ _ rfl (own.alloc _) _ [.int .i64 (d : Int)] rfl (slice_one _ _ _) (by simp [Value.oneCell']) (by simp; omega) (by unfold maxLen; simp; omega) (by simp; omega) ?_; intro v4 w4 hown4 hg4 hl4; have hown5 : w4.ownsRow (sb + 1) 3 1 v4 (k + 1) _ := hown4; obtain ⟨a4, c4, rfl⟩ := own_slice hown5; have hfk := far_kept hg4 (p := ⟨sb, 0, none⟩) HC0.out hne; have f4 := hfk.1; have z4 := hfk.2)
              | fail)
            go_roundw
            case rel =>
              refine ⟨j + 1, .slice a4 (k + 1) c4, by omega, by go_num, ?_⟩
              rw [HDS.out]
              exact HJ.out.push (by rw [HKE.out]; exact hown5) (by rw [HKE.out]; exact hg4) (by rw [HKE.out]; exact hl4)
            case measure => simp [intOf]; omega
          · obtain rfl : j = nd := by omega
            have hnd0 : 0 < j := by rw [← HRM.out.1.2]; exact dim_some HG.out (by rw [HTP.out]; exact hdt)
            have hsbw : sb + 1 ≤ wr.heap.size := by have := hmbl; have := HWS.out; omega
            obtain ⟨aS1, cS1, rfl⟩ := own_slice HJ.out.t1.outer
            obtain ⟨aO1, cO1, rfl⟩ := own_slice HJ.out.t2.outer
            have o1 := HJ.out.t1.outer
            have c1 := HJ.out.c1.1
            rw [sidesC_len, HNL.out.2] at o1 c1
            have HC1 : Hid (wr.cell? ⟨sb, 1, none⟩ = some (.slice aS1 N cS1) ∧ wr.frozen? ⟨sb, 1, none⟩ = false) := ⟨c1, HJ.out.c1.2⟩
            have hne1 : some sb ≠ (Value.slice aS1 N cS1).ownBlock := fun e => by have := (o1.lt sb e.symm).1; omega
            have farS : ∀ {W1 : World} {row : Option Nat} (hg : wr.grownBy W1 row), some sb ≠ row → W1.cell? ⟨sb, 1, none⟩ = some (.slice aS1 N cS1) ∧ W1.frozen? ⟨sb, 1, none⟩ = false := fun hg hne => ⟨(World.cell?_of_block (a := ⟨sb, 1, none⟩) (hg.block sb (by omega) hne)).trans HC1.out.1, (World.frozen?_of_block (a := ⟨sb, 1, none⟩) (hg.block sb (by omega) hne)).trans HC1.out.2⟩
            go_upto_region 17 with (at_builtin; refine wpList_append_make rfl (.tmp 52) (.tmp 53) 77 3 rfl 122 i0 (.slice none 0 0) .i64 Tryz.underlying77 Tryz.underlying3 hi0 hz0 hz1 rfl rfl (sb + 1) _ N vs1 rfl o1 j rfl hnd0 (by omega) (by rw [hz2]; decide) (by omega) ?_; intro v5 w5 hown5 hg5 hl5; obtain ⟨a5, c5, rfl⟩ := own_slice hown5; have hfk := farS hg5 hne1; have f5 := hfk.1; have z5 := hfk.2)
            have HM1 : Hid (NumAt (sb + 1) sb (sidesC (numTo all d) allD ++ List.replicate j []) (oversC (numTo all d) allD) (dimL (numTo all d) ++ List.replicate j (d : Int)) T1 Wm (w5.setCell ⟨sb, 1, none⟩ (.slice a5 (N + j) c5)) vd' (.slice a5 (N + j) c5) (.slice aO1 (oversC (numTo all d) allD).length cO1) (vs1 ++ List.replicate j (.slice none 0 0)) vs2) := HJ.out.moreS (by rw [sidesC_len, HNL.out.2]; exact hown5) (by rw [sidesC_len, HNL.out.2]; exact hg5) (by rw [sidesC_len, HNL.out.2]; exact hl5)
            obtain ⟨W5, hW5⟩ : ∃ W5, w5.setCell ⟨sb, 1, none⟩ (.slice a5 (N + j) c5) = W5 := ⟨_, rfl⟩
            rw [hW5] at HM1
            try rw [hW5]
            clear hW5 hown5 hg5 hl5 hfk f5 z5 farS hne1 HC1 o1 c1 HJ
            have hsz5 := HM1.out.keep.size
            have hsb5 : sb + 1 ≤ W5.heap.size := by omega
            have o2 := HM1.out.t2.outer
            have c2 := HM1.out.c2.1
            rw [oversC_len, HNL.out.2] at o2 c2
            have HC2 : Hid (W5.cell? ⟨sb, 2, none⟩ = some (.slice aO1 N cO1) ∧ W5.frozen? ⟨sb, 2, none⟩ = false) := ⟨c2, HM1.out.c2.2⟩
            have hne2 : some sb ≠ (Value.slice aO1 N cO1).ownBlock := fun e => by have := (o2.lt sb e.symm).1; omega
            have farO : ∀ {W1 : World} {row : Option Nat} (hg : W5.grownBy W1 row), some sb ≠ row → W1.cell? ⟨sb, 2, none⟩ = some (.slice aO1 N cO1) ∧ W1.frozen? ⟨sb, 2, none⟩ = false := fun hg hne => ⟨(World.cell?_of_block (a := ⟨sb, 2, none⟩) (hg.block sb (by omega) hne)).trans HC2.out.1, (World.frozen?_of_block (a := ⟨sb, 2, none⟩) (hg.block sb (by omega) hne)).trans HC2.out.2⟩
            go_upto_region 18 with (at_builtin; refine wpList_append_make rfl (.tmp 57) (.tmp 58) 22 3 rfl 29 i1 (.slice none 0 0) .i64 Tryz.underlying22 Tryz.underlying3 hi1 hx0 hx1 rfl rfl (sb + 1) _ N vs2 rfl o2 j rfl hnd0 (by omega) (by rw [hx2]; decide) (by omega) ?_; intro v6 w6 hown6 hg6 hl6; obtain ⟨a6, c6, rfl⟩ := own_slice hown6; have hfk := farO hg6 hne2; have f6 := hfk.1; have z6 := hfk.2)
            have HM2 : Hid (NumAt (sb + 1) sb (sidesC (numTo all d) allD ++ List.replicate j []) (oversC (numTo all d) allD ++ List.replicate j []) (dimL (numTo all d) ++ List.replicate j (d : Int)) T1 Wm (w6.setCell ⟨sb, 2, none⟩ (.slice a6 (N + j) c6)) vd' (.slice a5 (N + j) c5) (.slice a6 (N + j) c6) (vs1 ++ List.replicate j (.slice none 0 0)) (vs2 ++ List.replicate j (.slice none 0 0))) := HM1.out.moreO (by rw [oversC_len, HNL.out.2]; exact hown6) (by rw [oversC_len, HNL.out.2]; exact hg6) (by rw [oversC_len, HNL.out.2]; exact hl6)
            obtain ⟨W6, hW6⟩ : ∃ W6, w6.setCell ⟨sb, 2, none⟩ (.slice a6 (N + j) c6) = W6 := ⟨_, rfl⟩
            rw [hW6] at HM2
            try rw [hW6]
            clear hW6 hown6 hg6 hl6 hfk f6 z6 farO hne2 HC2 o2 c2 HM1
            have hsz6 := HM2.out.keep.size
            obtain ⟨ad6, cd6, rfl⟩ := own_slice HM2.out.dims
            obtain ⟨g5, rfl⟩ : ∃ g, a5 = some ⟨g, 0, none⟩ := by
              obtain ⟨g, c, e, _⟩ := HM2.out.t1.outer.form (by rw [List.length_append, List.length_replicate]; omega)
              simp only [Value.slice.injEq] at e
              exact ⟨g, e.1⟩
            obtain ⟨g6, rfl⟩ : ∃ g, a6 = some ⟨g, 0, none⟩ := by
              obtain ⟨g, c, e, _⟩ := HM2.out.t2.outer.form (by rw [List.length_append, List.length_replicate]; omega)
              simp only [Value.slice.injEq] at e
              exact ⟨g, e.1⟩
            obtain ⟨lo, hlo⟩ : ∃ lo, loOf all d = lo := ⟨_, rfl⟩
            have hlf := lo_facts (good_some HG.out) d
            have htm := tables_more (P := numTo all d) (C := ofDim all (d : Int)) numTo_len_le ofDim_len hlf.2.1 (by have := hlf.1; omega)
            have htd := tables_done (P := numTo all d) (C := ofDim all (d : Int)) (Rn := (ofDim all ((d : Int) - 1)).length) (lo := loOf all d) ofDim_len hlf.1
            rw [hlo, HNL.out.2, HRM.out.1.2, ← numTo_succ] at htm
            rw [hlo, HNL.out.2, HRM.out.1.1, ← numTo_succ] at htd
            rw [hlo, HRM.out.1.1, HNL.out.2] at hlf
            have hPl : (numTo all (d + 1)).length = N + j := by rw [numTo_succ, List.length_append, HNL.out.2, HRM.out.1.2]
            obtain ⟨T, hT⟩ : ∃ T : Nat → Prop, T = fun b => TabBlock (.slice (some ⟨g5, 0, none⟩) (N + j) c5) (vs1 ++ List.replicate j (.slice none 0 0)) b ∨ TabBlock (.slice (some ⟨g6, 0, none⟩) (N + j) c6) (vs2 ++ List.replicate j (.slice none 0 0)) b := ⟨_, rfl⟩
            have hTl : ∀ b, T b → (sb + 1 ≤ b ∧ b < W6.heap.size) ∧ (T1 b ∨ Wm.heap.size ≤ b) := fun b hb => by
              rw [hT] at hb
              rcases hb with hb | hb
              · exact ⟨HM2.out.t1.lt hb, HM2.out.b1 b hb⟩
              · exact ⟨HM2.out.t2.lt hb, HM2.out.b2 b hb⟩
            have HTL : Hid (∀ b, T b → (sb + 1 ≤ b ∧ b < W6.heap.size) ∧ (T1 b ∨ Wm.heap.size ≤ b)) := hTl
            have hT1m : ∀ b, wo.heap.size ≤ b → ¬ T1 b := fun b hb h1 => by
              rcases HTB.out b h1 with h2 | h2
              · have := HWS.out; omega
              · omega
            have hat : AddAt (sb + 1) (N + j) (numTo all (d + 1)) (doneP N lo 0 0) (doneP N lo 0 0) T W6 g5 c5 g6 c6 W6 (vs1 ++ List.replicate j (.slice none 0 0)) (vs2 ++ List.replicate j (.slice none 0 0)) :=
              ⟨by rw [htm.1]; exact HM2.out.t1, by rw [htm.2]; exact HM2.out.t2, HM2.out.dis, KeepOff.refl _ _, fun b hb => .inl (by rw [hT]; exact .inl hb), fun b hb => .inl (by rw [hT]; exact .inr hb)⟩
            have hmI : IntsIn (fun b => ¬ T b) W6 (.slice am M.length cm) M := by
              have h1 : IntsIn (fun b => ¬ T b ∧ ¬ T1 b) Wm (.slice am M.length cm) M := SliceIn.mono HVW.out (fun b hb hS => ⟨fun h => by
                rcases (hTl b h).2 with h2 | h2
                · exact hT1m b hS h2
                · omega, hT1m b hS⟩)
              exact SliceIn.mono (SliceIn.keep h1 (fun b hb hS => HM2.out.keep.block b hb hS.2)) (fun b _ hS => hS.1)
            have hML : M.length = Rn * j := by rw [← HRM.out.2, border_length, HRM.out.1.1, HRM.out.1.2]
            have hMe : ∀ r c, r < Rn → c < j → M[r * j + c]? = some (entryI (faceAt (numTo all (d + 1)) (lo + r)) (faceAt (numTo all (d + 1)) (N + c))) := fun r c hr hc => by
              have h1 := border_get (R := ofDim all ((d : Int) - 1)) (C := ofDim all (d : Int)) (i := r) (k := c) (by rw [HRM.out.1.1]; exact hr) (by rw [HRM.out.1.2]; exact hc)
              rw [HRM.out.1.2, HRM.out.2] at h1
              rw [h1, numTo_succ, at_left (by rw [HNL.out.2]; have := hlf.1; omega), hlf.2.2 r hr, at_right (by rw [HNL.out.2]; omega), HNL.out.2, Nat.add_sub_cancel_left]
            have hRi : ∀ i, i < N + j → Rising (faceAt (numTo all (d + 1)) i) := fun i hi => good_rising HG.out _ (numTo_mem.1 (faceAt_mem (L := numTo all (d + 1)) (by rw [hPl]; exact hi))).1
            have hadd := add_sides (sb + 1) lo N Rn j (N + j) (numTo all (d + 1)) T M ad6 am (dimL (numTo all d) ++ List.replicate j (d : Int)).length cd6 cm g5 c5 g6 c6 W6 _ _ hat (fun b hb => (hTl b hb).1.2) hmI hPl.symm hlf.1 rfl hNb (by omega) hML hMe hRi
            have s0 := HM2.out.c0.1
            have s1 := HM2.out.c1.1
            have s2 := HM2.out.c2.1
            have km : ∀ k, W6.cell? ⟨mb, k, none⟩ = Wm.cell? ⟨mb, k, none⟩ := fun k => HM2.out.keep.cell (p := ⟨mb, k, none⟩) hmbl.1 (hT1m mb hmbl.2)
            have m0 := (km 0).trans hmb.c0.1
            have m1 := (km 1).trans hmb.c1.1
            have m2 := (km 2).trans hmb.c2.1
            obtain ⟨dq, hdq⟩ : ∃ dq, (dimL (numTo all d) ++ List.replicate j (d : Int)).length = dq := ⟨_, rfl⟩
            rw [hdq] at s0 hadd
            clear hdq
            have HTD : Hid (sidesC (numTo all (d + 1)) (doneP N lo Rn 0) = sidesC (numTo all (d + 1)) allD ∧ oversC (numTo all (d + 1)) (doneP N lo Rn 0) = oversC (numTo all (d + 1)) allD) := htd
            have HDT : Hid (∀ b, (Value.slice ad6 (dimL (numTo all d) ++ List.replicate j (d : Int)).length cd6).ownBlock = some b → ¬ T b) := fun b hb h => by
              rw [hT] at h
              rcases h with h | h
              · exact (HM2.out.disd b hb).1 h
              · exact (HM2.out.disd b hb).2 h
            have HDL : Hid (dimL (numTo all (d + 1)) = dimL (numTo all d) ++ List.replicate j (d : Int)) := by show _ = _; rw [dimL_succ, HRM.out.1.2]
            clear hlo hlf htm htd hPl hTl hT1m hat hmI hML hMe hRi km hT
            go_wp2_with (first
              | (go_at_call 81; refine hadd.mono ?_; rintro e w7 ⟨rfl, vs1', vs2', hA7⟩; have HA7 : Hid (AddAt (sb + 1) (N + j) (numTo all (d + 1)) (doneP N lo Rn 0) (doneP N lo Rn 0) T W6 g5 c5 g6 c6 w7 vs1' vs2') := hA7; clear hA7 hadd)
              | fail)
            go_roundw
            case rel =>
              have hws := HWS.out
              have hTs : ¬ T sb := fun h => by have := (HTL.out sb h).1.1; omega
              have k7 : ∀ k, w7.cell? ⟨sb, k, none⟩ = W6.cell? ⟨sb, k, none⟩ := fun k => HA7.out.keep.cell (p := ⟨sb, k, none⟩) (by simp only; omega) hTs
              have z7 : ∀ k, w7.frozen? ⟨sb, k, none⟩ = W6.frozen? ⟨sb, k, none⟩ := fun k => HA7.out.keep.frozen (p := ⟨sb, k, none⟩) (by simp only; omega) hTs
              refine ⟨d + 1, .slice ad6 (dimL (numTo all d) ++ List.replicate j (d : Int)).length cd6, .slice (some ⟨g5, 0, none⟩) (N + j) c5, .slice (some ⟨g6, 0, none⟩) (N + j) c6, vs1', vs2', by omega, by go_num, ?_⟩
              rw [HDL.out]
              refine ⟨ownsRow_of_block HM2.out.dims (fun b hb => HA7.out.keep.block b (HM2.out.dims.lt b hb).2 (HDT.out b hb)), by rw [← HTD.out.1]; exact HA7.out.t1, by rw [← HTD.out.2]; exact HA7.out.t2, HA7.out.dis, fun b hb => ⟨fun h => ?_, fun h => ?_⟩, ⟨(k7 0).trans HM2.out.c0.1, (z7 0).trans HM2.out.c0.2⟩, ⟨(k7 1).trans HM2.out.c1.1, (z7 1).trans HM2.out.c1.2⟩, ⟨(k7 2).trans HM2.out.c2.1, (z7 2).trans HM2.out.c2.2⟩, by omega, ⟨HA7.out.keep.os.trans (HM2.out.keep.os.trans (HEW.out.1.trans HA.out.keep.os)), HA7.out.keep.tape.trans (HM2.out.keep.tape.trans (HEW.out.2.1.trans HA.out.keep.tape)), HA7.out.keep.output.trans (HM2.out.keep.output.trans (HEW.out.2.2.trans HA.out.keep.output)), by have := HA7.out.keep.size; omega, fun b hb hne => ?_⟩, rfl, fun b hb => .inr ?_, fun b hb => .inr ?_, fun b hb => .inr ?_⟩
              · rcases HA7.out.b1 b h with h2 | h2
                · exact HDT.out b hb h2
                · have := (HM2.out.dims.lt b hb).2; omega
              · rcases HA7.out.b2 b h with h2 | h2
                · exact HDT.out b hb h2
                · have := (HM2.out.dims.lt b hb).2; omega
              · have hne' : b ≠ sb := hne
                refine (HA7.out.keep.block b (by omega) (fun h => by have := (HTL.out b h).1.1; omega)).trans ((HM2.out.keep.block b (by omega) (fun h => ?_)).trans ((HKW.out b (by omega)).trans (HA.out.keep.block b hb hne)))
                rcases HTB.out b h with h2 | h2
                · exact hne' h2
                · omega
              · have := (HM2.out.dims.lt b hb).1; omega
              · have := (HA7.out.t1.lt hb).1; omega
              · have := (HA7.out.t2.lt hb).1; omega
            case measure => simp [intOf]; omega
      · obtain rfl : d = top := by omega
        obtain ⟨ad, cd0, rfl⟩ := own_slice HA.out.dims
        obtain ⟨aS1, cS1, rfl⟩ := own_slice HA.out.t1.outer
        obtain ⟨aO1, cO1, rfl⟩ := own_slice HA.out.t2.outer
        have hNN : numTo all d = numL all := by unfold numL; rw [HTP.out]
        have s0 := HA.out.c0.1
        have s1 := HA.out.c1.1
        have s2 := HA.out.c2.1
        have e0 : (dimL (numTo all d)).length = (numL all).length := by rw [hNN]; simp [dimL]
        rw [e0] at s0
        rw [sidesC_len, hNN] at s1
        rw [oversC_len, hNN] at s2
        have HSH : Hid (ShapeIn (fun b => sb + 1 ≤ b) wo (numL all) ad aS1 aO1 cd0 cS1 cO1) := by
          have hA := HA.out
          rw [hNN] at hA
          refine ⟨?_, ?_, ?_⟩
          · have h1 := slice_of_owns (S := fun b => sb + 1 ≤ b) hA.dims (fun b hb _ => hb)
            unfold IntsIn
            have e1 : (dimL (numL all)).length = (numL all).length := by simp [dimL]
            rw [← e1]
            exact h1
          · refine ⟨vs1, ?_, by rw [hA.t1.len, sidesC_len], fun k u hu => ?_⟩
            · have h1 := slice_of_owns (S := fun b => sb + 1 ≤ b) hA.t1.outer (fun b hb _ => hb)
              rw [sidesC_len] at h1
              exact h1
            · have hk : k < (numL all).length := by have := (List.getElem?_eq_some_iff.1 hu).1; rw [hA.t1.len, sidesC_len] at this; exact this
              obtain ⟨n, ho⟩ := hA.t1.inner k u _ hu (sidesC_at hk)
              have hn : n = (sidesI (numL all) k).length := by
                have := ho.1
                unfold sidC at this
                rw [duoCells_len] at this
                unfold sidesI
                omega
              subst hn
              exact DuoRow.reads (t := 124) (base := sb + 1) ho (fun b hb _ => hb)
          · refine ⟨vs2, ?_, by rw [hA.t2.len, oversC_len, oversI_len], fun k u x hu hx => ?_⟩
            · have h1 := slice_of_owns (S := fun b => sb + 1 ≤ b) hA.t2.outer (fun b hb _ => hb)
              rw [oversC_len] at h1
              exact h1
            · have hk : k < (numL all).length := by have := (List.getElem?_eq_some_iff.1 hu).1; rw [hA.t2.len, oversC_len] at this; exact this
              obtain ⟨n, ho⟩ := hA.t2.inner k u _ hu (oversC_at hk)
              have hxe : x = overI (numL all) k := by
                unfold oversI at hx
                rw [List.getElem?_map, List.getElem?_range hk] at hx
                exact (Option.some.inj hx).symm
              subst hxe
              exact slice_of_owns (S := fun b => sb + 1 ≤ b) ho (fun b hb _ => hb)
        obtain ⟨n, hn⟩ : ∃ n, (numL all).length = n := ⟨_, rfl⟩
        have HNE : Hid ((numL all).length = n) := hn
        rw [hn] at s0 s1 s2
        have rr : ∀ j, j < 3 → wo.cell? ⟨xb + 1, j, none⟩ = some (.slice none 0 0) ∧ wo.frozen? ⟨xb + 1, j, none⟩ = false := fun j hj => ⟨(HKC.out.1 ⟨xb + 1, j, none⟩ hxl2).trans (HRB2.out j hj).1, (HKC.out.2 ⟨xb + 1, j, none⟩ hxl2).trans (HRB2.out j hj).2⟩
        obtain ⟨r0, f0⟩ := rr 0 (by omega)
        obtain ⟨r1, f1⟩ := rr 1 (by omega)
        obtain ⟨r2, f2⟩ := rr 2 (by omega)
        have hput := three_put (.slice ad n cd0) (.slice aS1 n cS1) (.slice aO1 n cO1) (fun k hk => by rw [(rr k hk).1]; rfl)
        have t0 := hput 0 _ rfl
        have t1 := hput 1 _ rfl
        have t2 := hput 2 _ rfl
        clear rr hput e0 hNN hn kc kf HA
        go_wp2_with fail
        refine bodyPost_ret (v := .tuple #[.agg #[.slice ad n cd0, .slice aS1 n cS1, .slice aO1 n cO1], .nilIface]) ?_ rfl ?_
        · simp [results, Tryz.f45, go_sem, t0, t1, t2]
        · unfold NumSays
          rw [HXB.out]
          refine ⟨((HBR.out.setCell (p := ⟨xb + 1, 0, none⟩) (by simp) _).setCell (p := ⟨xb + 1, 1, none⟩) (by simp) _).setCell (p := ⟨xb + 1, 2, none⟩) (by simp) _, .inr ⟨all, ad, aS1, aO1, cd0, cS1, cO1, HG.out, by unfold shapeV; rw [HNE.out], ?_⟩⟩
          refine ShapeIn.mono (HSH.out.keep (by simp) (fun b _ hb => ?_)) (fun b _ hb => ?_)
          · have hb' : sb + 1 ≤ b := hb
            rw [Below.heap_setCell _ _ _ _ (by simp only; omega), Below.heap_setCell _ _ _ _ (by simp only; omega), Below.heap_setCell _ _ _ _ (by simp only; omega)]
          · have hb' : sb + 1 ≤ b := hb
            show xb ≤ b
            omega

end Go.Proofs.YtnnkmkhamipfiaaGreatDoor
