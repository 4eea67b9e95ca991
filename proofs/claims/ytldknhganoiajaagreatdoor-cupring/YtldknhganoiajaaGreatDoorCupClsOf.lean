/- The program's classes of a dimension. -/
import Derived.Test.YtldknhganoiajaaGreatDoorCupCocS
namespace Go.Proofs.YtldknhganoiajaaGreatDoor
open Go.RowKit Go.Sort Go.Maps Go.Deep

theorem sorterOf_ {l all : List (List Int)} (hg : Good l all) (h60 : all.length ≤ 60) (d : Nat) (hd : d ≤ 100) (v : Value) (w : World) (h : ShapeAt w v all) (hT : TabOk w) :
    Calls Tryz.prog 35 #[v, .int .i64 (d : Int)] w fun e w' => ∃ f, e = .returned f ∧ SorterAt w' w.heap.size (ofDim all (d : Int)).length f (fedB (rowsD all d)) ∧ Below w.heap.size w w' := by
  cases d with
  | zero => exact sorterOfClasses_zero _ v w h
  | succ d => exact sorterOfClasses_succ hg h60 d (by omega) v w h hT
/-- The classes that the program finds. -/
def clsP (all : List (List Int)) (d : Nat) : List Nat := selB (fedB (rowsD all d)) (cocP all d (nD all d))
theorem take_nxt {L : List Nat} {k : Nat} (hk : k < L.length) : L.take (k + 1) = L.take k ++ [L[k]?.getD 0] := by
  rw [List.take_add_one, List.getElem?_eq_getElem hk]; rfl
theorem fed_fold {rs l : List Nat} (hr : ∀ r ∈ rs, r < 2 ^ 64) (hl : ∀ r ∈ l, r < 2 ^ 64) : TbOk (l.foldl putB (fedB rs)) := (fed_all l (fedB rs) (fedB_ok hr) hl).1
theorem selB_le (l : List Nat) (B : Tb) : (selB B l).length ≤ l.length := by
  rw [selB_len]
  induction l generalizing B with
  | nil => exact Nat.le_refl _
  | cons x l ih =>
    simp only [cntB, List.length_cons]
    have := ih (putB B x)
    have h1 : nw (redB B x) ≤ 1 := by unfold nw; split <;> omega
    omega
theorem cocP_len (all : List (List Int)) (d : Nat) : ∀ k, (cocP all d k).length ≤ k
  | 0 => Nat.le_refl _
  | k + 1 => by
    have := cocP_len all d k
    simp only [cocP]
    cases decide (low (redB (fedB ((boths all d).take k)) (bothW all d k)) < ovr all d)
    · rw [cond_false, List.length_append, List.length_singleton]; omega
    · rw [cond_true]; omega

set_option maxRecDepth 100000 in
set_option maxHeartbeats 8000000 in
theorem classes_ {l all : List (List Int)} (hg : Good l all) (h60 : all.length ≤ 60) (d : Nat) (hd : d ≤ 90) (v : Value) (w : World) (h : ShapeAt w v all) (hT : TabOk w) :
    Calls Tryz.prog 18 #[v, .int .i64 (d : Int)] w fun e w' => ∃ u, e = .returned u ∧ WsAt w.heap.size w' u (nD all d) (clsP all d) ∧ Below w.heap.size w w' := by
  obtain ⟨i0, hi, hy0, hy1, hy2⟩ := info_parts Tryz.infocr
  have hn6 := cnt60 h60 d
  obtain ⟨vF, g, rfl, ⟨aF, cF, rfl⟩, hB1, hz1, hS⟩ := shape_box h
  obtain ⟨W1, hW1⟩ : ∃ W1, w.alloc (.cells #[.slice aF (topN all) cF, .map (some g)] 46) = W1 := ⟨_, rfl⟩
  have HW1 := Hid.mk' hW1
  rw [hW1] at hB1 hz1 hS
  have HS := Hid.mk' hS
  have HB1 := Hid.mk' hB1
  have HZ1 := Hid.mk' hz1
  have HT := Hid.mk' hT
  have HTB : Hid (∀ V, Below (w.heap.size + 1) W1 V → TabOk V) := fun V hV => HT.out.below (HB1.out.trans (hV.mono (by omega)))
  have HC1 : Hid (∀ V, Below (w.heap.size + 1) W1 V → Calls Tryz.prog 35 #[.agg #[.slice aF (topN all) cF, .map (some g)], .int .i64 (d : Int)] V fun e w' => ∃ f, e = .returned f ∧ SorterAt w' V.heap.size (nD all d) f (fedB (rowsD all d)) ∧ Below V.heap.size V w') := fun V hV => sorterOf_ hg h60 d (by omega) _ V (HS.out V hV).1 (HTB.out V hV)
  have HC2 : Hid (∀ V, Below (w.heap.size + 1) W1 V → Calls Tryz.prog 36 #[.agg #[.slice aF (topN all) cF, .map (some g)], .int .i64 (d : Int)] V fun e w' => ∃ u, e = .returned u ∧ WsAt V.heap.size w' u (nD all d) (cocP all d (nD all d)) ∧ Below V.heap.size V w') := fun V hV => cocycles_ hg h60 d hd _ V (HS.out V hV).1 (HTB.out V hV)
  have HRL := Hid.mk' (rowsD_lt all d (show (ofDim all (d : Int)).length ≤ 64 by unfold nD at hn6; omega))
  have HCL : Hid (∀ x ∈ cocP all d (nD all d), x < 2 ^ 64) := fun x hx => lt64 ((cocP_spec hg h60 d).is x hx).1 (by omega)
  have hlen := cocP_len all d (nD all d)
  unfold clsP
  obtain ⟨T, hTT⟩ : ∃ T, topN all = T := ⟨_, rfl⟩
  obtain ⟨C, hC⟩ : ∃ C, cocP all d (nD all d) = C := ⟨_, rfl⟩
  rw [hC] at HC2 HCL hlen ⊢
  obtain ⟨N, hN⟩ : ∃ n, nD all d = n := ⟨_, rfl⟩
  rw [hTT] at HW1 HS HC1 HC2 ⊢
  rw [hN] at hn6 hlen HC1 HC2 ⊢
  clear h hS hTT hW1 hB1 hz1 hN hg h60 hT hC
  go_enter Tryz.func18, Tryz.ntmps18
  go_upto_region 1 with fail
  rw [HW1.out]
  have hb0 : Below (w.heap.size + 1) W1 W1 := Below.refl _ _
  have HV0 := Hid.mk' hb0
  have b0 := (HS.out W1 hb0).2.1
  have b1 := (HS.out W1 hb0).2.2.1
  have hc1 := HC1.out W1 hb0
  clear hb0
  go_wp2_with fail
  refine hc1.mono ?_
  clear hc1 b0 b1
  rintro e V1 ⟨f, rfl, ⟨bx, g1, K, rfl, hx1, hx2, hx3, hx4, hx5⟩, hV1⟩
  have HV1 : Hid (Below (w.heap.size + 1) W1 V1 ∧ V1.cell? ⟨bx, 0, none⟩ = some (.map (some g1)) ∧ TbAt V1 W1.heap.size g1 N K (fedB (rowsD all d)) ∧ W1.heap.size ≤ g1) := by
    have := HZ1.out
    exact ⟨hV1.mono (by omega), hx1, hx2, hx5⟩
  have b0 := (HS.out V1 HV1.out.1).2.1
  have b1 := (HS.out V1 HV1.out.1).2.2.1
  have hc2 := HC2.out V1 HV1.out.1
  clear hx1 hx2 hx4 hx5 hV1
  go_wp2_with fail
  refine hc2.mono ?_
  clear hc2 b0 b1
  rintro e V2 ⟨uC, rfl, hC2, hV2⟩
  obtain ⟨aC, cC, rfl⟩ := hC2.form
  have HV2 : Hid (Below (w.heap.size + 1) W1 V2 ∧ V2.cell? ⟨bx, 0, none⟩ = some (.map (some g1)) ∧ TbAt V2 W1.heap.size g1 N K (fedB (rowsD all d)) ∧ WsAt V1.heap.size V2 (.slice aC C.length cC) N C ∧ V1.heap.size ≤ V2.heap.size ∧ g1 < V1.heap.size ∧ bx < V1.heap.size) := by
    have h1 := HV1.out.1.size
    have h2 := HZ1.out
    refine ⟨HV1.out.1.trans (hV2.mono (by omega)), (hV2.cell (p := ⟨bx, 0, none⟩) (cell_lt HV1.out.2.1)).trans HV1.out.2.1, HV1.out.2.2.1.later hV2, hC2, hV2.size, ?_, cell_lt HV1.out.2.1⟩
    obtain ⟨D, h3, -⟩ := HV1.out.2.2.1
    exact h3.lt
  obtain ⟨m, hm⟩ : ∃ m, C.length = m := ⟨_, rfl⟩
  have HM := Hid.mk' hm
  rw [hm] at HV2 hlen ⊢
  clear hC2 hV2 hm
  go_wp2_with fail
  go_loopw [5, 16] (fun v p W => ∃ (k : Nat) (L : List Nat), k ≤ m ∧ p = .int .i64 (k : Int) ∧ Hid (L = selB (fedB (rowsD all d)) (C.take k) ∧ (WsAt V1.heap.size W v N L ∧ ∀ b, v.ownBlock = some b → V2.heap.size ≤ b) ∧ (L.length ≤ k ∧ (L.length = 0 → v.ownBlock = none)) ∧ TbAt W W1.heap.size g1 N (K + k) ((C.take k).foldl putB (fedB (rowsD all d))) ∧ (∀ b, V1.heap.size ≤ b → b < V2.heap.size → W.heap[b]? = V2.heap[b]?) ∧ Below (w.heap.size + 1) W1 W ∧ W.cell? ⟨bx, 0, none⟩ = some (.map (some g1)) ∧ V2.heap.size ≤ W.heap.size)) (fun _ p _ => m - (intOf p).toNat)
  case atStart => exact ⟨0, [], by omega, rfl, rfl, ⟨WsAt.nil _ _ _, fun b hb => by cases hb⟩, ⟨by simp, fun _ => rfl⟩, by simpa using HV2.out.2.2.1, fun _ _ _ => rfl, HV2.out.1, HV2.out.2.1, Nat.le_refl _⟩
  case round =>
    obtain ⟨k, L, hk, rfl, HK⟩ := hrel
    obtain ⟨aL, cL, rfl⟩ := HK.out.2.1.1.form
    have hLk := HK.out.2.2.1.1
    have HL9 := Hid.mk' HK.out.2.2.1.2
    obtain ⟨M, hM⟩ : ∃ M, L.length = M := ⟨_, rfl⟩
    have HLM := Hid.mk' hM
    rw [hM] at hLk HK HL9 ⊢
    clear hM
    by_cases hlt : k < m
    · have hkC : k < C.length := by rw [HM.out]; exact hlt
      obtain ⟨G, c2, ai, mi, ci, he, hG1, hG2, hcl0, hwi0⟩ := HV2.out.2.2.2.1.at hkC
      rw [HM.out] at he
      cases he
      have hcl := (World.cell?_of_block (HK.out.2.2.2.2.1 G hG1 hG2)).trans hcl0
      have hwi : WordIn (fun b => V1.heap.size ≤ b ∧ b < V2.heap.size) wr (.slice ai mi ci) N (C[k]?.getD 0) := (hwi0.mono (fun b hb hs => (⟨hs.1, hb⟩ : V1.heap.size ≤ b ∧ b < V2.heap.size))).keep HK.out.2.2.2.2.2.2.2 (fun b hb hs => HK.out.2.2.2.2.1 b hs.1 hs.2)
      have HWI := Hid.mk' hwi
      have hok : TbOk ((C.take k).foldl putB (fedB (rowsD all d))) := fed_fold HRL.out (fun r hr => HCL.out r (List.mem_of_mem_take hr))
      have h1 := HK.out.2.2.2.2.2.1.size
      have h2 := HZ1.out
      have hst := sort_ (.slice ai mi ci) N _ W1.heap.size bx g1 (K + k) _ wr (HTB.out wr HK.out.2.2.2.2.2.1) hwi HK.out.2.2.2.2.2.2.1 HK.out.2.2.2.1 hok (by omega) (by omega)
      have HTK := Hid.mk' (take_nxt hkC)
      have HSN : Hid (selB (fedB (rowsD all d)) (C.take (k + 1)) = bif redB ((C.take k).foldl putB (fedB (rowsD all d))) (C[k]?.getD 0) == 0 then selB (fedB (rowsD all d)) (C.take k) else selB (fedB (rowsD all d)) (C.take k) ++ [C[k]?.getD 0]) := by
        show _ = _
        rw [HTK.out, selB_snoc]
      have HPF : Hid (putB ((C.take k).foldl putB (fedB (rowsD all d))) (C[k]?.getD 0) = (C.take (k + 1)).foldl putB (fedB (rowsD all d))) := by
        show _ = _
        rw [HTK.out, List.foldl_append]; rfl
      rw [HPF.out] at hst
      obtain ⟨x, hx⟩ : ∃ x, C[k]?.getD 0 = x := ⟨_, rfl⟩
      rw [hx] at hst HSN HWI
      obtain ⟨z, hz⟩ : ∃ z, redB ((C.take k).foldl putB (fedB (rowsD all d))) x = z := ⟨_, rfl⟩
      rw [hz] at hst HSN
      clear hwi hok h1 h2 hx hz HTK HPF hcl0 hwi0 hG1 hG2
      go_wp2_with fail
      refine hst.mono ?_
      clear hst hcl
      rintro e V9 ⟨u9, rfl, hu9, ht9, hg9⟩
      obtain ⟨a9, m9, c9, rfl⟩ := hu9.form
      have HK9 : Hid ((WsAt V1.heap.size V9 (.slice aL M cL) N L ∧ ∀ b, (Value.slice aL M cL).ownBlock = some b → V2.heap.size ≤ b) ∧ TbAt V9 W1.heap.size g1 N (K + k + 1) ((C.take (k + 1)).foldl putB (fedB (rowsD all d))) ∧ (∀ b, V1.heap.size ≤ b → b < V2.heap.size → V9.heap[b]? = V2.heap[b]?) ∧ Below (w.heap.size + 1) W1 V9 ∧ V9.cell? ⟨bx, 0, none⟩ = some (.map (some g1)) ∧ V2.heap.size ≤ V9.heap.size ∧ WordIn (fun b => V1.heap.size ≤ b ∧ b < V2.heap.size) V9 (.slice ai mi ci) N x ∧ TabOk V9) := by
        obtain ⟨-, k2, -, k4, k5, k6, k7, k8⟩ := HK.out
        obtain ⟨-, -, -, -, v5, v6, v7⟩ := HV2.out
        have v8 := HV1.out.2.2.2
        have h2 := HZ1.out
        have h3 := k6.size
        have hB9 : Below (w.heap.size + 1) W1 V9 := k6.grown hg9 (by omega) (fun j hj => by cases hj; omega)
        refine ⟨⟨k2.1.kept hg9 (fun b hb e => by cases e; omega), k2.2⟩, ht9, fun b h8 h9 => (hg9.block b (by omega) (fun e => by cases e; omega)).trans (k5 b h8 h9), hB9, ?_, by have := hg9.size; omega, HWI.out.keep hg9.size (fun b hb hs => hg9.block b hb (fun e => by cases e; omega)), HTB.out _ hB9⟩
        rw [World.cell?_of_block (hg9.block bx (cell_lt k7) (fun e => by
          cases e
          obtain ⟨D, ⟨es, clock, h9, -⟩, -⟩ := k4
          have := k7
          simp [World.cell?, h9] at this))]
        exact k7
      have HL0 : Hid (L = selB (fedB (rowsD all d)) (C.take k)) := HK.out.1
      have hiz := isZero_ (.slice a9 m9 c9) N z V9 hu9 HK9.out.2.2.2.2.2.2.2
      clear hu9 ht9 hg9 HK
      rcases Nat.eq_zero_or_pos z with h0 | h0
      · have HEC : Hid (selB (fedB (rowsD all d)) (C.take (k + 1)) = L) := by
          show _ = _
          rw [HSN.out, h0, HL0.out]; rfl
        have hd0 : decide (z = 0) = true := decide_eq_true h0
        rw [hd0] at hiz
        clear h0 hd0
        go_wp2_with fail
        refine hiz.mono ?_
        clear hiz
        rintro e V ⟨rfl, hVV⟩
        obtain rfl : V9 = V := hVV.symm
        go_wp2_with fail
        go_roundw
        case rel => exact ⟨k + 1, L, by omega, by go_num, HEC.out.symm, HK9.out.1, ⟨by have := HLM.out; omega, fun h => HL9.out (by rw [← HLM.out]; exact h)⟩, HK9.out.2.1, HK9.out.2.2.1, HK9.out.2.2.2.1, HK9.out.2.2.2.2.1, HK9.out.2.2.2.2.2.1⟩
        case measure => simp [intOf]; omega
      · have HEC : Hid (selB (fedB (rowsD all d)) (C.take (k + 1)) = L ++ [x]) := by
          show _ = _
          rw [HSN.out, beq_eq_false_iff_ne.2 (show z ≠ 0 by omega), cond_false, HL0.out]
        have hd0 : decide (z = 0) = false := decide_eq_false (by omega)
        rw [hd0] at hiz
        clear h0 hd0
        obtain ⟨ws, o1, o2⟩ := HK9.out.1.1
        rw [HLM.out] at o1
        have HOW := Hid.mk' (And.intro o1 o2)
        clear o1 o2
        go_upto_region 8 with (first
          | (go_at_call 37; refine hiz.mono ?_; rintro e V ⟨rfl, hVV⟩; obtain rfl : V9 = V := hVV.symm; clear hiz)
          | (at_builtin; refine wpList_append_slice rfl (.tmp 25) (.tmp 27) 50 rfl V1.heap.size 68 i0 (.slice none 0 0) 24 Tryz.underlying50 hi hy0 hy1 hy2 rfl _ _ _ rfl (HOW.out.1.alloc _) _ [.slice ai mi ci] rfl (slice_one _ _ _) (by simp [Value.oneCell']) (by simp; omega) (by unfold maxLen; simp; omega) (by have := HK9.out.2.2.2.2.2.1; have := HV2.out.2.2.2.2.1; simp; omega) ?_; intro v6 w6 hown6 hg6 hl6; replace hown6 : w6.ownsRow V1.heap.size 68 1 v6 (M + 1) (ws ++ [.slice ai mi ci]) := hown6; obtain ⟨a6, c6, rfl⟩ := own_form hown6)
          | fail)
        have HE6 : Hid ((WsAt V1.heap.size w6 (.slice a6 (M + 1) c6) N (L ++ [x]) ∧ ∀ b, (Value.slice a6 (M + 1) c6).ownBlock = some b → V2.heap.size ≤ b) ∧ ((L ++ [x]).length ≤ k + 1 ∧ ((L ++ [x]).length = 0 → (Value.slice a6 (M + 1) c6).ownBlock = none)) ∧ TbAt w6 W1.heap.size g1 N (K + k + 1) ((C.take (k + 1)).foldl putB (fedB (rowsD all d))) ∧ (∀ b, V1.heap.size ≤ b → b < V2.heap.size → w6.heap[b]? = V2.heap[b]?) ∧ Below (w.heap.size + 1) W1 w6 ∧ w6.cell? ⟨bx, 0, none⟩ = some (.map (some g1)) ∧ V2.heap.size ≤ w6.heap.size) := by
          obtain ⟨k2, k4, k5, k6, k7, k8, k9, -⟩ := HK9.out
          have hlow : ∀ i, (Value.slice aL M cL).ownBlock = some i → V2.heap.size ≤ i ∧ i < V9.heap.size := fun i hi => ⟨k2.2 i hi, (HOW.out.1.lt i hi).2⟩
          have hq : Below V2.heap.size V9 w6 := ((Below.refl V2.heap.size V9).alloc k8 _).grown hg6 (by simp; omega) (fun i hi => (hlow i hi).1)
          obtain ⟨-, v2, -, v4, v5, v6, v7⟩ := HV2.out
          have h2 := HZ1.out
          have h3 := HV2.out.1.size
          refine ⟨⟨?_, fun b hb => ?_⟩, ⟨by have := HLM.out; simp; omega, fun h => by simp at h⟩, ?_, fun b h8 h9 => (hq.block b h9).trans (k5 b h8 h9), k6.trans (hq.mono (by omega)), (hq.cell (p := ⟨bx, 0, none⟩) (by show bx < _; omega)).trans k7, by have := hq.size; omega⟩
          · exact WsAt.push (by rw [HLM.out]; exact HOW.out.1) HOW.out.2 (k9.mono (fun b _ hs => ⟨hs.1, fun e => by have := (hlow b e.symm).1; omega⟩)) (by rw [HLM.out]; exact hown6) hg6 hl6
          · rcases hl6 with h | h
            · exact k2.2 b (h.symm.trans hb)
            · rw [h] at hb; simp at hb; omega
          · refine k4.beside HOW.out.1 (fun u hu => ?_) (fun h => HL9.out h) hg6 (fun e => by have := (hlow _ e).1; omega)
            exact (HOW.out.2 0 u hu).form
        clear hown6 hg6 hl6 HOW HK9
        go_wp2_with fail
        go_roundw
        case rel => exact ⟨k + 1, L ++ [x], by omega, by go_num, HEC.out.symm, HE6.out.1, HE6.out.2.1, HE6.out.2.2.1, HE6.out.2.2.2⟩
        case measure => simp [intOf]; omega
    · have hkm : k = m := by omega
      subst hkm
      have HE : Hid (WsAt w.heap.size wr (.slice aL M cL) N (selB (fedB (rowsD all d)) C) ∧ Below w.heap.size w wr) := by
        obtain ⟨k1, k2, -, -, -, k6, -⟩ := HK.out
        have h1 := HB1.out
        have h2 := HZ1.out
        have h3 := HV2.out.1.size
        rw [← HM.out, List.take_length] at k1
        have h4 := HV1.out.1.size
        exact ⟨by rw [← k1]; exact k2.1.down (by omega), h1.trans (k6.mono (by omega))⟩
      go_wp2_with fail
      go_ret
      exact ⟨_, rfl, HE.out⟩

end Go.Proofs.YtldknhganoiajaaGreatDoor
