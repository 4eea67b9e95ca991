/- Whether a row is a cocycle; the sorter that has sorted all deltas. The sorter that has sorted all deltas of the dimension below. -/
import Derived.Test.YtiblgnkjjbbmaaaDoorHeldQuiet
import Derived.Test.YtiblgnkjjbbmaaaDoorCupSorter2
namespace Go.Proofs.YtiblgnkjjbbmaaaDoor
open Go.RowKit Go.Sort Go.Maps Go.Deep

/-- A shape in a box. -/
theorem shape_box {w : World} {v : Value} {all : List (List Int)} (h : ShapeAt w v all) : ∃ vF g, v = .agg #[vF, .map (some g)] ∧ (∃ a c, vF = .slice a (topN all) c) ∧ Below w.heap.size w (w.alloc (.cells #[vF, .map (some g)] 50)) ∧ (w.alloc (.cells #[vF, .map (some g)] 50)).heap.size = w.heap.size + 1 ∧
    ∀ V, Below (w.heap.size + 1) (w.alloc (.cells #[vF, .map (some g)] 50)) V → ShapeAt V v all ∧ V.cell? ⟨w.heap.size, 0, none⟩ = some vF ∧ V.cell? ⟨w.heap.size, 1, none⟩ = some (.map (some g)) ∧ Below w.heap.size w V := by
  have hh := h
  obtain ⟨vF, g, L, rfl, hF, hL, hN⟩ := h
  have hB1 : Below w.heap.size w (w.alloc (.cells #[vF, .map (some g)] 50)) := (Below.refl _ w).alloc (Nat.le_refl _) _
  have q1 := cells_two w vF (.map (some g)) 50
  obtain ⟨a, c, e, -⟩ := hF.open_
  rw [facesT_len] at e
  refine ⟨vF, g, rfl, ⟨a, c, e⟩, hB1, by simp, fun V hV => ?_⟩
  have hw : Below w.heap.size w V := hB1.trans (hV.mono (by omega))
  exact ⟨hh.below hw, (hV.cell (p := ⟨w.heap.size, 0, none⟩) (by show w.heap.size < w.heap.size + 1; omega)).trans q1.1.1, (hV.cell (p := ⟨w.heap.size, 1, none⟩) (by show w.heap.size < w.heap.size + 1; omega)).trans q1.1.2, hw⟩

set_option maxRecDepth 100000 in
set_option maxHeartbeats 1000000 in
theorem isCocycle_ {S : Nat → Prop} {l all : List (List Int)} (hg : Good l all) (h60 : all.length ≤ 60) (v u : Value) (d x : Nat) (hd : d ≤ 100) (w : World) (h : ShapeAt w v all) (hu : WordIn S w u (ofDim all (d : Int)).length x) (hT : TabOk w) :
    Calls Tryd.prog 25 #[v, .int .i64 (d : Int), u] w fun e w' => e = .returned (.bool (decide (deltaW all d x = 0))) ∧ Below w.heap.size w w' := by
  obtain ⟨vF, g, rfl, ⟨aF, cF, rfl⟩, hB1, hz1, hS⟩ := shape_box h
  obtain ⟨W1, hW1⟩ : ∃ W1, w.alloc (.cells #[.slice aF (topN all) cF, .map (some g)] 50) = W1 := ⟨_, rfl⟩
  have HW1 := Hid.mk' hW1
  rw [hW1] at hB1 hz1 hS
  have hr : Below (w.heap.size + 1) W1 W1 := Below.refl _ _
  have hS1 := hS W1 hr
  have b0 := hS1.2.1
  have b1 := hS1.2.2.1
  have hde := delta_ hg h60 _ u d x hd W1 hS1.1 (hu.below hB1) (hT.below hB1)
  have HT1 := Hid.mk' (hT.below hB1)
  have HB1 := Hid.mk' hB1
  obtain ⟨au, mu, cu, rfl⟩ := hu.form
  obtain ⟨T, hTT⟩ : ∃ T, topN all = T := ⟨_, rfl⟩
  rw [hTT] at HW1 b0 hde ⊢
  clear h hu hT hS hS1 hg hTT hW1 hB1 hr hz1
  go_enter Tryd.func25, Tryd.ntmps25
  go_upto_region 1 with fail
  rw [HW1.out]
  go_wp2_with fail
  refine hde.mono ?_
  clear hde
  rintro e V1 ⟨r, rfl, hr, hV1⟩
  have hiz := isZero_ r _ _ V1 hr (HT1.out.below hV1)
  obtain ⟨ar, mr, cr, rfl⟩ := hr.form
  have HE : Hid (Below w.heap.size w V1) := HB1.out.trans (hV1.mono HB1.out.size)
  obtain ⟨q, hq⟩ : ∃ q, decide (deltaW all d x = 0) = q := ⟨_, rfl⟩
  have HQ := Hid.mk' hq
  rw [hq] at hiz
  clear hr hV1 hq
  go_wp2_with fail
  refine hiz.mono ?_
  clear hiz
  rintro e V2 ⟨rfl, rfl⟩
  go_wp2_with fail
  go_ret
  exact ⟨by rw [HQ.out]; rfl, HE.out⟩

set_option maxRecDepth 100000 in
set_option maxHeartbeats 1000000 in
theorem deltas_neg {all : List (List Int)} (v : Value) (w : World) (h : ShapeAt w v all) :
    Calls Tryd.prog 35 #[v, .int .i64 (-1)] w fun e w' => e = .returned (.slice none 0 0) ∧ Below w.heap.size w w' := by
  obtain ⟨vF, g, rfl, ⟨aF, cF, rfl⟩, hB1, hz1, hS⟩ := shape_box h
  have HB1 := Hid.mk' hB1
  clear h hS hz1 hB1
  go_enter Tryd.func35, Tryd.ntmps35
  go_wp2_with fail
  go_ret
  exact ⟨rfl, HB1.out⟩

/-- What a sorter is: a function with a box that holds its table. -/
def SorterAt (W : World) (base n : Nat) (f : Value) (B : Tb) : Prop :=
  ∃ bx g N, f = .func (.func 46) #[] #[.pointer (some ⟨bx, 0, none⟩)] ∧ W.cell? ⟨bx, 0, none⟩ = some (.map (some g)) ∧ TbAt W base g n N B ∧ N ≤ 1000 ∧ base ≤ W.heap.size ∧ base ≤ g

/-- The deltas that a sorter of classes has sorted. -/
def rowsD (all : List (List Int)) : Nat → List Nat
  | 0 => []
  | d + 1 => (List.range (ofDim all (d : Int)).length).map (fun i => dM all d i)

set_option maxRecDepth 100000 in
set_option maxHeartbeats 2000000 in
theorem sorterOfClasses_zero {all : List (List Int)} (n : Nat) (v : Value) (w : World) (h : ShapeAt w v all) :
    Calls Tryd.prog 27 #[v, .int .i64 0] w fun e w' => ∃ f, e = .returned f ∧ SorterAt w' w.heap.size n f (fedB (rowsD all 0)) ∧ Below w.heap.size w w' := by
  obtain ⟨vF, g, rfl, ⟨aF, cF, rfl⟩, hB1, hz1, hS⟩ := shape_box h
  obtain ⟨W1, hW1⟩ : ∃ W1, w.alloc (.cells #[.slice aF (topN all) cF, .map (some g)] 50) = W1 := ⟨_, rfl⟩
  have HW1 := Hid.mk' hW1
  rw [hW1] at hB1 hz1 hS
  have hso := sorter_ n W1
  have HS := Hid.mk' hS
  have HB1 := Hid.mk' hB1
  have HZ1 := Hid.mk' hz1
  obtain ⟨T, hTT⟩ : ∃ T, topN all = T := ⟨_, rfl⟩
  rw [hTT] at HW1 HS ⊢
  clear h hS hTT hW1 hB1 hz1
  go_enter Tryd.func27, Tryd.ntmps27
  go_upto_region 1 with fail
  rw [HW1.out]
  go_wp2_with fail
  refine hso.mono ?_
  clear hso
  rintro e V1 ⟨bx, g1, rfl, hc1, hb1, hb2, hlt, htb, hV1⟩
  have hV1' : Below (w.heap.size + 1) W1 V1 := by rw [← HZ1.out]; exact hV1
  have hS1 := HS.out V1 hV1'
  have b0 := hS1.2.1
  have b1 := hS1.2.2.1
  have hdn := deltas_neg _ V1 hS1.1
  have HV1 := Hid.mk' (And.intro hV1' (And.intro hc1 (And.intro htb (And.intro hb1 hb2))))
  clear hc1 hb1 hb2 hlt htb hV1 hV1' hS1
  go_wp2_with fail
  refine hdn.mono ?_
  clear hdn
  rintro e V2 ⟨rfl, hV2⟩
  have HE : Hid (SorterAt V2 w.heap.size n (.func (.func 46) #[] #[.pointer (some ⟨bx, 0, none⟩)]) emptyB ∧ Below w.heap.size w V2) := by
    have hz := HZ1.out
    have h2 : Below w.heap.size w V2 := (HS.out V1 HV1.out.1).2.2.2.trans (hV2.mono (HS.out V1 HV1.out.1).2.2.2.size)
    have htb := HV1.out.2.2.1.later hV2
    obtain ⟨D, t1, t2, t3⟩ := htb
    exact ⟨⟨bx, g1, 0, rfl, (hV2.cell (p := ⟨bx, 0, none⟩) (cell_lt HV1.out.2.1)).trans HV1.out.2.1, ⟨D, t1, t2, fun k y hk => by cases hk⟩, by omega, h2.size, by have := HV1.out.2.2.2.2; omega⟩, h2⟩
  clear HV1 hV2 b0 b1
  go_wp2_with fail
  go_loopw [14] (fun p W => p = .int .i64 0 ∧ V2 = W) (fun _ _ => 0)
  case atStart => exact ⟨rfl, rfl⟩
  case round =>
    obtain ⟨rfl, rfl⟩ := hrel
    go_wp2_with fail
    go_ret
    exact ⟨_, rfl, HE.out.1, HE.out.2⟩

end Go.Proofs.YtiblgnkjjbbmaaaDoor

namespace Go.Proofs.YtiblgnkjjbbmaaaDoor
open Go.RowKit Go.Sort Go.Maps Go.Deep

theorem rowsD_take (all : List (List Int)) (d k : Nat) (hk : k < (ofDim all (d : Int)).length) : (rowsD all (d + 1)).take (k + 1) = (rowsD all (d + 1)).take k ++ [dM all d k] := by
  have hl : k < (rowsD all (d + 1)).length := by simp [rowsD, hk]
  rw [List.take_add_one, List.getElem?_eq_getElem hl]
  simp [rowsD]
theorem rowsD_lt (all : List (List Int)) (d : Nat) (h : (ofDim all (d : Int)).length ≤ 64) : ∀ r ∈ rowsD all d, r < 2 ^ 64 := by
  cases d with
  | zero => intro r hr; cases hr
  | succ d =>
    intro r hr
    simp only [rowsD, List.mem_map, List.mem_range] at hr
    obtain ⟨i, -, rfl⟩ := hr
    exact Nat.lt_of_lt_of_le (dM_lt all d i) (Nat.pow_le_pow_right (by decide) h)

set_option maxRecDepth 100000 in
set_option maxHeartbeats 2000000 in
theorem sorterOfClasses_succ {l all : List (List Int)} (hg : Good l all) (h60 : all.length ≤ 60) (d : Nat) (hd : d ≤ 100) (v : Value) (w : World) (h : ShapeAt w v all) (hT : TabOk w) :
    Calls Tryd.prog 27 #[v, .int .i64 ((d : Int) + 1)] w fun e w' => ∃ f, e = .returned f ∧ SorterAt w' w.heap.size (ofDim all ((d + 1 : Nat) : Int)).length f (fedB (rowsD all (d + 1))) ∧ Below w.heap.size w w' := by
  have hn6 : (ofDim all ((d + 1 : Nat) : Int)).length ≤ 60 := Nat.le_trans (ofDim_length _ _) h60
  have hm6 : (ofDim all (d : Int)).length ≤ 60 := Nat.le_trans (ofDim_length _ _) h60
  have HLT := Hid.mk' (rowsD_lt all (d + 1) (by omega))
  obtain ⟨vF, g, rfl, ⟨aF, cF, rfl⟩, hB1, hz1, hS⟩ := shape_box h
  obtain ⟨W1, hW1⟩ : ∃ W1, w.alloc (.cells #[.slice aF (topN all) cF, .map (some g)] 50) = W1 := ⟨_, rfl⟩
  have HW1 := Hid.mk' hW1
  rw [hW1] at hB1 hz1 hS
  have hso := sorter_ (ofDim all ((d + 1 : Nat) : Int)).length W1
  have HS := Hid.mk' hS
  have HB1 := Hid.mk' hB1
  have HZ1 := Hid.mk' hz1
  have HG := Hid.mk' hg
  have HT := Hid.mk' hT
  have HD1 := Hid.mk' (fun V (hV : ShapeAt V (.agg #[.slice aF (topN all) cF, .map (some g)]) all) => deltas_ hg h60 (.agg #[.slice aF (topN all) cF, .map (some g)]) d hd V hV)
  have HRT := Hid.mk' (rowsD_take all d)
  have HRL : Hid ((rowsD all (d + 1)).length = (ofDim all (d : Int)).length) := by show _ = _; simp [rowsD]
  obtain ⟨T, hTT⟩ : ∃ T, topN all = T := ⟨_, rfl⟩
  obtain ⟨M, hM⟩ : ∃ M, (ofDim all (d : Int)).length = M := ⟨_, rfl⟩
  obtain ⟨n, hn⟩ : ∃ n, (ofDim all ((d + 1 : Nat) : Int)).length = n := ⟨_, rfl⟩
  rw [hTT] at HW1 HS HD1 ⊢
  rw [hM] at hm6 HD1 HRT HRL
  rw [hn] at hn6 HD1 hso ⊢
  clear h hS hTT hW1 hB1 hz1 hM hn hg hT
  go_enter Tryd.func27, Tryd.ntmps27
  go_upto_region 1 with fail
  rw [HW1.out]
  go_wp2_with fail
  refine hso.mono ?_
  clear hso
  rintro e V1 ⟨bx, g1, rfl, hc1, hb1, hb2, hlt, htb, hV1⟩
  have hV1' : Below (w.heap.size + 1) W1 V1 := by rw [← HZ1.out]; exact hV1
  have hS1 := HS.out V1 hV1'
  have b0 := hS1.2.1
  have b1 := hS1.2.2.1
  have hdn := HD1.out V1 hS1.1
  have HV1 : Hid (Below (w.heap.size + 1) W1 V1 ∧ V1.cell? ⟨bx, 0, none⟩ = some (.map (some g1)) ∧ TbAt V1 w.heap.size g1 n 0 emptyB ∧ W1.heap.size ≤ bx ∧ W1.heap.size ≤ g1 ∧ g1 < bx ∧ bx < V1.heap.size) := by
    obtain ⟨D, t1, t2, t3⟩ := htb
    exact ⟨hV1', hc1, ⟨D, t1, t2, fun k y hk => by cases hk⟩, hb1, hb2, hlt, cell_lt hc1⟩
  clear hc1 hb1 hb2 hlt htb hV1 hV1' hS1
  have e1 : ((d : Int) + 1 - 1) = (d : Int) := by omega
  go_wp2_with fail
  refine hdn.mono ?_
  clear hdn
  rintro e V2 ⟨G, us, rfl, hD, hV2⟩
  have HD2 : Hid (DlAt V1.heap.size n M V2 G us M (fun i => dM all d i) ∧ Below w.heap.size w V2 ∧ SorterAt V2 w.heap.size n (.func (.func 46) #[] #[.pointer (some ⟨bx, 0, none⟩)]) emptyB ∧ V2.cell? ⟨bx, 0, none⟩ = some (.map (some g1)) ∧ TbAt V2 w.heap.size g1 n 0 emptyB) := by
    have h2 : Below w.heap.size w V2 := (HS.out V1 HV1.out.1).2.2.2.trans (hV2.mono (HS.out V1 HV1.out.1).2.2.2.size)
    have hc : V2.cell? ⟨bx, 0, none⟩ = some (.map (some g1)) := (hV2.cell (p := ⟨bx, 0, none⟩) (cell_lt HV1.out.2.1)).trans HV1.out.2.1
    have ht := HV1.out.2.2.1.later hV2
    have hz := HZ1.out
    have hg1 := HV1.out.2.2.2.2.1
    exact ⟨hD, h2, ⟨bx, g1, 0, rfl, hc, ht, by omega, h2.size, by omega⟩, hc, ht⟩
  clear hD hV2 b0 b1
  go_wp2_with fail
  go_loopw [14] (fun p W => ∃ (k : Nat), k ≤ M ∧ p = .int .i64 (k : Int) ∧ Hid (TbAt W w.heap.size g1 n k (fedB ((rowsD all (d + 1)).take k)) ∧ DlAt V1.heap.size n M W G us M (fun i => dM all d i) ∧ Below w.heap.size w W ∧ W.cell? ⟨bx, 0, none⟩ = some (.map (some g1)) ∧ V1.heap.size ≤ W.heap.size)) (fun p _ => M - (intOf p).toNat)
  case atStart => exact ⟨0, by omega, rfl, by simpa [fedB] using HD2.out.2.2.2.2, HD2.out.1, HD2.out.2.1, HD2.out.2.2.2.1, by have := HD2.out.1.base; have := HD2.out.1.outer.lt; omega⟩
  case round =>
    obtain ⟨k, hk, rfl, HK⟩ := hrel
    by_cases hlt : k < M
    · have hwi := HK.out.2.1.word k hlt
      obtain ⟨ai, mi, ci, hui⟩ := hwi.form
      have hcl := HK.out.2.1.outer.cell hlt
      rw [if_pos hlt, hui] at hcl
      have hok : TbOk (fedB ((rowsD all (d + 1)).take k)) := fedB_ok (fun r hr => HLT.out r (List.mem_of_mem_take hr))
      have hst := sort_ (us k) n _ w.heap.size bx g1 k _ wr (HT.out.below HK.out.2.2.1) hwi HK.out.2.2.2.1 HK.out.1 hok (by omega) HK.out.2.2.1.size
      rw [hui] at hst
      clear hwi hui hok
      go_wp2_with fail
      refine hst.mono ?_
      clear hst
      rintro e V3 ⟨u3, rfl, hw3, ht3, hg3⟩
      have HE : Hid (TbAt V3 w.heap.size g1 n (k + 1) (fedB ((rowsD all (d + 1)).take (k + 1))) ∧ DlAt V1.heap.size n M V3 G us M (fun i => dM all d i) ∧ Below w.heap.size w V3 ∧ V3.cell? ⟨bx, 0, none⟩ = some (.map (some g1)) ∧ V1.heap.size ≤ V3.heap.size) := by
        have hz := HZ1.out
        obtain ⟨-, -, -, v4, v5, v6, v7⟩ := HV1.out
        refine ⟨by rw [HRT.out k hlt, fedB_snoc]; exact ht3, ?_, HK.out.2.2.1.grown hg3 HK.out.2.2.1.size (fun j hj => by cases hj; omega), ?_, by have := hg3.size; have := HK.out.2.2.2.2; omega⟩
        · rcases Nat.eq_zero_or_pos n with h0 | h0
          · refine ⟨HK.out.2.1.outer.of_block (hg3.block G HK.out.2.1.outer.lt (fun e => by cases e; have := HK.out.2.1.base; omega)), fun i hi => ?_, HK.out.2.1.apart, HK.out.2.1.base⟩
            obtain ⟨a1, a2, a3 | ⟨a3, -⟩⟩ := HK.out.2.1.word i hi
            · exact ⟨a1, a2, .inl a3⟩
            · omega
          · exact HK.out.2.1.kept hg3 (fun e => by have := HK.out.2.1.base; omega) (fun i hi e => by have := (own_block_of (HK.out.2.1.word i hi) e h0).1; omega)
        · rw [World.cell?_of_block (hg3.block bx (cell_lt HK.out.2.2.2.1) (fun e => by cases e; omega))]; exact HK.out.2.2.2.1
      clear hw3 ht3 hg3
      go_wp2_with fail
      go_roundw
      case rel => exact ⟨k + 1, by omega, by go_num, HE.out⟩
      case measure => simp [intOf]; omega
    · have hkm : k = M := by omega
      subst hkm
      have HE : Hid (SorterAt wr w.heap.size n (.func (.func 46) #[] #[.pointer (some ⟨bx, 0, none⟩)]) (fedB (rowsD all (d + 1)))) := by
        have h1 := HK.out.1
        rw [← HRL.out, List.take_length] at h1
        have hz := HZ1.out
        exact ⟨bx, g1, _, rfl, HK.out.2.2.2.1, h1, by have := HRL.out; omega, HK.out.2.2.1.size, by have := HV1.out.2.2.2.2.1; omega⟩
      go_wp2_with fail
      go_ret
      exact ⟨_, rfl, HE.out, HK.out.2.2.1⟩

end Go.Proofs.YtiblgnkjjbbmaaaDoor
