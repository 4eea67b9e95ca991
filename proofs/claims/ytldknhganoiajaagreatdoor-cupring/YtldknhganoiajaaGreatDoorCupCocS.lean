/- The program's cocycles of a dimension: the walk. -/
import Derived.Test.YtldknhganoiajaaGreatDoorCupCocOf
namespace Go.Proofs.YtldknhganoiajaaGreatDoor
open Go.RowKit Go.Sort Go.Maps Go.Deep

theorem own_lt {S : Nat → Prop} {W : World} {v : Value} {n x b : Nat} (h : WordIn S W v n x) (e : v.ownBlock = some b) (h0 : 0 < n) : S b ∧ b < W.heap.size := ⟨own_block_of h e h0, h.block_lt e h0⟩

set_option maxRecDepth 100000 in
set_option maxHeartbeats 8000000 in
theorem cocycles_ {l all : List (List Int)} (hg : Good l all) (h60 : all.length ≤ 60) (d : Nat) (hd : d ≤ 90) (v : Value) (w : World) (h : ShapeAt w v all) (hT : TabOk w) :
    Calls Tryz.prog 36 #[v, .int .i64 (d : Int)] w fun e w' => ∃ u, e = .returned u ∧ WsAt w.heap.size w' u (nD all d) (cocP all d (nD all d)) ∧ Below w.heap.size w w' := by
  obtain ⟨i0, hi, hy0, hy1, hy2⟩ := info_parts Tryz.infocr
  have h7 : topN all ≤ 7 := topN_upto hg.short
  have h26 := two_dims h60 hg d
  obtain ⟨vF, g, rfl, ⟨aF, cF, rfl⟩, hB1, hz1, hS⟩ := shape_box h
  obtain ⟨W1, hW1⟩ : ∃ W1, w.alloc (.cells #[.slice aF (topN all) cF, .map (some g)] 46) = W1 := ⟨_, rfl⟩
  have HW1 := Hid.mk' hW1
  rw [hW1] at hB1 hz1 hS
  have HS := Hid.mk' hS
  have HB1 := Hid.mk' hB1
  have HZ1 := Hid.mk' hz1
  have HT := Hid.mk' hT
  have HG := Hid.mk' (And.intro hg h60)
  have HC1 : Hid (∀ V, Below (w.heap.size + 1) W1 V → Calls Tryz.prog 50 #[.agg #[.slice aF (topN all) cF, .map (some g)], .int .i64 ((d : Int) + 1)] V fun e w' => e = .returned (.int .i64 ((ovr all d : Nat) : Int)) ∧ Below V.heap.size V w') := fun V hV => count_ _ all (d + 1) (by omega) h7 V (HS.out V hV).1
  have HC2 : Hid (∀ V, Below (w.heap.size + 1) W1 V → Calls Tryz.prog 50 #[.agg #[.slice aF (topN all) cF, .map (some g)], .int .i64 (d : Int)] V fun e w' => e = .returned (.int .i64 ((nD all d : Nat) : Int)) ∧ Below V.heap.size V w') := fun V hV => count_ _ all d (by omega) h7 V (HS.out V hV).1
  have HD1 := Hid.mk' (fun V (hV : ShapeAt V (.agg #[.slice aF (topN all) cF, .map (some g)]) all) => deltas_ hg h60 (.agg #[.slice aF (topN all) cF, .map (some g)]) d (by omega) V hV)
  have HTK := Hid.mk' (fun k (hk : k < nD all d) => boths_take (all := all) (d := d) hk)
  have HBL := Hid.mk' (boths_lt hg h60 d)
  have HLP : Hid (∀ k, k < nD all d → redB (fedB ((boths all d).take k)) (bothW all d k) < 2 ^ (ovr all d + nD all d)) := fun k hk => by
    obtain ⟨x, hx, e⟩ := left_phi hg h60 hk
    rw [e]; exact phi_lt all hx
  have HCP : Hid (∀ k, cocP all d (k + 1) = bif decide (low (redB (fedB ((boths all d).take k)) (bothW all d k)) < ovr all d) then cocP all d k else cocP all d k ++ [(redB (fedB ((boths all d).take k)) (bothW all d k)) >>> ovr all d]) := fun k => rfl
  have HDM : Hid (∀ k, (bitsN (dM all d k)).foldl (fun x i => x ^^^ 2 ^ i) 0 = dM all d k ∧ (∀ i ∈ bitsN (dM all d k), i < ovr all d) ∧ dM all d k ^^^ 2 ^ (ovr all d + k) = bothW all d k) := fun k => by
    have h1 := dM_lt all d k
    refine ⟨fold_bits h1 (by unfold ovr nD at h26; omega), fun i hi => ?_, rfl⟩
    have hb := (bitsN_mem (lt64 h1 (by unfold ovr nD at h26; omega))).1 hi
    rcases Nat.lt_or_ge i (ovr all d) with h2 | h2
    · exact h2
    · rw [Nat.testBit_lt_two_pow (Nat.lt_of_lt_of_le h1 (Nat.pow_le_pow_right (by decide) h2))] at hb; cases hb
  obtain ⟨T, hTT⟩ : ∃ T, topN all = T := ⟨_, rfl⟩
  obtain ⟨N, hN⟩ : ∃ n, nD all d = n := ⟨_, rfl⟩
  obtain ⟨O, hO⟩ : ∃ n, ovr all d = n := ⟨_, rfl⟩
  rw [hTT] at HW1 HS HD1 HC1 HC2 ⊢
  have hN' : (ofDim all (d : Int)).length = N := hN
  have hO' : (ofDim all ((d + 1 : Nat) : Int)).length = O := hO
  rw [hN] at h26 HC2 HTK HLP ⊢
  rw [hO] at h26 HC1 HLP HCP HDM
  rw [hN', hO'] at HD1
  clear h hS hTT hW1 hB1 hz1 hN hO hN' hO' hg h60 hT h7
  go_enter Tryz.func36, Tryz.ntmps36
  go_upto_region 1 with fail
  rw [HW1.out]
  have hb0 : Below (w.heap.size + 1) W1 W1 := Below.refl _ _
  have HV0 := Hid.mk' hb0
  have b0 := (HS.out W1 hb0).2.1
  have b1 := (HS.out W1 hb0).2.2.1
  clear hb0
  have hc1 := HC1.out W1 HV0.out
  go_wp2_with fail
  refine hc1.mono ?_
  clear hc1 b0 b1
  rintro e V1 ⟨rfl, hV1⟩
  have HV1 : Hid (Below (w.heap.size + 1) W1 V1) := by have := HZ1.out; exact HV0.out.trans (hV1.mono (by omega))
  have hso := sorter_ (O + N) V1
  clear hV1
  go_wp2_with fail
  refine hso.mono ?_
  clear hso
  rintro e V2 ⟨bx, g1, rfl, hc1, hb1, hb2, hlt, htb, hV2⟩
  have HV2 : Hid (Below (w.heap.size + 1) W1 V2 ∧ V2.cell? ⟨bx, 0, none⟩ = some (.map (some g1)) ∧ TbAt V2 w.heap.size g1 (O + N) 0 emptyB ∧ w.heap.size < bx ∧ w.heap.size < g1 ∧ g1 < bx ∧ bx < V2.heap.size) := by
    obtain ⟨D, t1, t2, t3⟩ := htb
    have h1 := HV1.out.size
    have h2 := HZ1.out
    exact ⟨HV1.out.trans (hV2.mono (by omega)), hc1, ⟨D, t1, t2, fun k y hk => by cases hk⟩, by omega, by omega, hlt, cell_lt hc1⟩
  have b0 := (HS.out V2 HV2.out.1).2.1
  have b1 := (HS.out V2 HV2.out.1).2.2.1
  have hdl := HD1.out V2 (HS.out V2 HV2.out.1).1
  clear hc1 hb1 hb2 hlt htb hV2
  go_wp2_with fail
  refine hdl.mono ?_
  clear hdl b0 b1
  rintro e V3 ⟨G, us, rfl, hD, hV3⟩
  have HD3 : Hid (DlAt V2.heap.size O N V3 G us N (fun i => dM all d i) ∧ Below (w.heap.size + 1) W1 V3 ∧ V3.cell? ⟨bx, 0, none⟩ = some (.map (some g1)) ∧ TbAt V3 w.heap.size g1 (O + N) 0 emptyB ∧ V2.heap.size ≤ V3.heap.size) := by
    have h1 := HV2.out.1.size
    have h2 := HZ1.out
    exact ⟨hD, HV2.out.1.trans (hV3.mono (by omega)), (hV3.cell (p := ⟨bx, 0, none⟩) (cell_lt HV2.out.2.1)).trans HV2.out.2.1, HV2.out.2.2.1.later hV3, hV3.size⟩
  clear hD hV3
  go_wp2_with fail
  go_loopw [5, 26] (fun v p W => ∃ (k : Nat) (L : List Nat), k ≤ N ∧ p = .int .i64 (k : Int) ∧ Hid (L = cocP all d k ∧ WsAt V3.heap.size W v N L ∧ (L.length ≤ k ∧ (L.length = 0 → v.ownBlock = none)) ∧ TbAt W w.heap.size g1 (O + N) k (fedB ((boths all d).take k)) ∧ DlAt V2.heap.size O N W G us N (fun i => dM all d i) ∧ Below (w.heap.size + 1) W1 W ∧ W.cell? ⟨bx, 0, none⟩ = some (.map (some g1)) ∧ V3.heap.size ≤ W.heap.size)) (fun _ p _ => N - (intOf p).toNat)
  case atStart => exact ⟨0, [], by omega, rfl, rfl, WsAt.nil _ _ _, ⟨by simp, fun _ => rfl⟩, by simpa [fedB] using HD3.out.2.2.2.1, HD3.out.1, HD3.out.2.1, HD3.out.2.2.1, Nat.le_refl _⟩
  case round =>
    obtain ⟨k, L, hk, rfl, HK⟩ := hrel
    obtain ⟨aL, cL, rfl⟩ := HK.out.2.1.form
    have hLk := HK.out.2.2.1.1
    have HL9 := Hid.mk' HK.out.2.2.1.2
    obtain ⟨M, hM⟩ : ∃ M, L.length = M := ⟨_, rfl⟩
    have HM := Hid.mk' hM
    rw [hM] at hLk HK HL9 ⊢
    clear hM
    by_cases hlt : k < N
    · have hwi := HK.out.2.2.2.2.1.word k hlt
      obtain ⟨ai, mi, ci, hui⟩ := hwi.form
      have hcl := HK.out.2.2.2.2.1.outer.cell hlt
      rw [if_pos hlt, hui] at hcl
      rw [hui] at hwi
      have HWI := Hid.mk' hwi
      have b0 := (HS.out wr HK.out.2.2.2.2.2.1).2.1
      have b1 := (HS.out wr HK.out.2.2.2.2.2.1).2.2.1
      have hc2 := HC2.out wr HK.out.2.2.2.2.2.1
      have hON : O + N ≤ 60 := h26
      clear hwi hui
      go_wp2_with fail
      refine hc2.mono ?_
      clear hc2 b0 b1 hcl
      rintro e V4 ⟨rfl, hV4⟩
      have hnr : Calls Tryz.prog 51 #[.int .i64 ((O : Int) + (N : Int))] V4 fun e w' => ∃ v, e = .returned v ∧ WordIn (fun b => V4.heap.size ≤ b) w' v (O + N) 0 ∧ Below V4.heap.size V4 w' := newRow_ (O + N) hON V4
      have HV4 := Hid.mk' hV4
      clear hV4
      go_wp2_with fail
      refine hnr.mono ?_
      clear hnr
      rintro e V5 ⟨r, rfl, hr, hV5⟩
      obtain ⟨ar, mr, cr, rfl⟩ := hr.form
      have HV5 : Hid (Below wr.heap.size wr V5 ∧ V4.heap.size ≤ V5.heap.size ∧ wr.heap.size ≤ V4.heap.size ∧ Below V4.heap.size V4 V5) := ⟨HV4.out.trans (hV5.mono HV4.out.size), hV5.size, HV4.out.size, hV5⟩
      have HR5 := Hid.mk' hr
      have HTB : Hid (∀ V, Below wr.heap.size wr V → TabOk V) := fun V hV => by
        have h1 := HK.out.2.2.2.2.2.1
        have h2 := HB1.out
        exact HT.out.below ((h2.trans (h1.mono (by omega))).trans (hV.mono (by have := h1.size; have := h2.size; omega)))
      have hto := told_row (.slice ai mi ci) O (dM all d k) V5 (HWI.out.below HV5.out.1) (HTB.out V5 HV5.out.1)
      clear hr hV5
      go_wp2_with fail
      refine hto.mono ?_
      clear hto
      rintro e V6 ⟨t, rfl, ht, hV6⟩
      have HV6 := Hid.mk' hV6
      obtain ⟨at', ct, rfl, -, hxt⟩ := ht.open_
      have HXT := Hid.mk' hxt
      obtain ⟨is, his⟩ : ∃ is, bitsN (dM all d k) = is := ⟨_, rfl⟩
      have HIS := Hid.mk' his
      have hbl : (bitsI (dM all d k)).length = is.length := by unfold bitsI; rw [natsI_len, his]
      rw [hbl] at HXT ⊢
      obtain ⟨m, hm⟩ : ∃ m, is.length = m := ⟨_, rfl⟩
      have HMM := Hid.mk' hm
      have hm64 : m ≤ 64 := by rw [← hm, ← his]; exact bitsN_len _
      rw [hm] at HXT ⊢
      clear ht hxt hV6 his hbl hm
      go_wp2_with fail
      go_loopw [40] (fun p W => ∃ (j : Nat), j ≤ m ∧ p = .int .i64 (j : Int) ∧ Hid (WordIn (fun b => V4.heap.size ≤ b ∧ b < V5.heap.size) W (.slice ar mr cr) (O + N) ((is.take j).foldl (fun x i => x ^^^ 2 ^ i) 0) ∧ Below V4.heap.size V4 W ∧ (∀ b, V5.heap.size ≤ b → b < V6.heap.size → W.heap[b]? = V6.heap[b]?) ∧ V6.heap.size ≤ W.heap.size)) (fun p _ => m - (intOf p).toNat)
      case atStart => exact ⟨0, by omega, rfl, (HR5.out.mono (fun b hb hs => ⟨hs, hb⟩)).below HV6.out, HV5.out.2.2.2.trans (HV6.out.mono HV5.out.2.1), fun _ _ _ => rfl, Nat.le_refl _⟩
      case round =>
        obtain ⟨j, hj, rfl, HJ⟩ := hrel
        by_cases hjt : j < m
        · have hji : j < is.length := by rw [HMM.out]; exact hjt
          obtain ⟨bt, ot, rfl, hbt, hbl, hcs⟩ := HXT.out (by omega)
          have hc4 := hcs j hjt
          have e9 : (bitsI (dM all d k))[j]?.getD 0 = ((is[j]?.getD 0 : Nat) : Int) := by unfold bitsI; rw [HIS.out]; exact natsI_get is j hji
          rw [e9] at hc4
          have g9 : wr.cell? ⟨bt, ot + j, none⟩ = some (.int .i64 ((is[j]?.getD 0 : Nat) : Int)) := (World.cell?_of_block (HJ.out.2.2.1 bt hbt hbl)).trans hc4
          have hiO : is[j]?.getD 0 < O := (HDM.out k).2.1 _ (by rw [HIS.out, List.getElem?_eq_getElem hji]; exact List.getElem_mem hji)
          have HFT := Hid.mk' (fold_take hji 0 (fun i => 2 ^ i))
          obtain ⟨i, hi⟩ : ∃ i, is[j]?.getD 0 = i := ⟨_, rfl⟩
          rw [hi] at g9 hiO HFT
          have hfl := flip_ (.slice ar mr cr) (O + N) _ i wr HJ.out.1 (by omega)
          clear hcs hbt hbl hc4 e9 hi hji
          go_wp2_with fail
          refine hfl.mono ?_
          clear hfl g9
          rintro e V7 ⟨rfl, hA1, hA2, hA3⟩
          have HE : Hid (WordIn (fun b => V4.heap.size ≤ b ∧ b < V5.heap.size) V7 (.slice ar mr cr) (O + N) ((is.take (j + 1)).foldl (fun x i => x ^^^ 2 ^ i) 0) ∧ Below V4.heap.size V4 V7 ∧ (∀ b, V5.heap.size ≤ b → b < V6.heap.size → V7.heap[b]? = V6.heap[b]?) ∧ V6.heap.size ≤ V7.heap.size) := by
            obtain ⟨b, hbb⟩ : ∃ b, (Value.slice ar mr cr).ownBlock = some b := by
              obtain ⟨-, -, ⟨h3, -⟩ | ⟨-, b, c, e, -⟩⟩ := HJ.out.1
              · omega
              · exact ⟨b, by rw [e]; rfl⟩
            have hob := own_block_of HJ.out.1 hbb (by omega)
            rw [hbb] at hA2
            refine ⟨by rw [HFT.out]; exact hA1, HJ.out.2.1.grown hA2 HJ.out.2.1.size (fun j hj => by cases hj; exact hob.1), fun b' h1 h2 => ?_, by have := HJ.out.2.2.2; omega⟩
            rw [hA2.block b' (by have := HJ.out.2.2.2; omega) (fun e => by cases e; omega)]
            exact HJ.out.2.2.1 b' h1 h2
          clear hA1 hA2 hA3
          go_wp2_with fail
          go_roundw
          case rel => exact ⟨j + 1, by omega, by go_num, HE.out⟩
          case measure => simp [intOf]; omega
        · have hjm : j = m := by omega
          subst hjm
          have HW8 : Hid (WordIn (fun b => V4.heap.size ≤ b) wr (.slice ar mr cr) (O + N) (dM all d k) ∧ Below V4.heap.size V4 wr) := by
            have h1 := HJ.out.1
            rw [← HMM.out, List.take_length, ← HIS.out, (HDM.out k).1] at h1
            exact ⟨h1.mono (fun b _ hb => hb.1), HJ.out.2.1⟩
          have hfl : Calls Tryz.prog 61 #[.slice ar mr cr, .int .i64 ((O : Int) + (k : Int))] wr fun e w' => e = .returned (.tuple #[]) ∧ WordIn (fun b => V4.heap.size ≤ b) w' (.slice ar mr cr) (O + N) (bothW all d k) ∧ Below V4.heap.size V4 w' := (flip_ (.slice ar mr cr) (O + N) (dM all d k) (O + k) wr HW8.out.1 (by omega)).mono fun e w' h => by
            obtain ⟨h1, h2, h3, -⟩ := h
            exact ⟨h1, by rw [(HDM.out k).2.2] at h2; exact h2, HW8.out.2.grown h3 HW8.out.2.size (fun j hj => own_block_of HW8.out.1 hj (by omega))⟩
          clear HJ HXT HIS HMM
          go_wp2_with fail
          refine hfl.mono ?_
          clear hfl
          rintro e V8 ⟨rfl, hw8, hB8⟩
          have HW9 : Hid (WordIn (fun b => V4.heap.size ≤ b) V8 (.slice ar mr cr) (O + N) (bothW all d k) ∧ Below V4.heap.size V4 V8 ∧ bothW all d k < 2 ^ 64) := ⟨hw8, hB8, hw8.lt⟩
          have HK8 : Hid (WsAt V3.heap.size V8 (.slice aL M cL) N L ∧ TbAt V8 w.heap.size g1 (O + N) k (fedB ((boths all d).take k)) ∧ DlAt V2.heap.size O N V8 G us N (fun i => dM all d i) ∧ Below (w.heap.size + 1) W1 V8 ∧ V8.cell? ⟨bx, 0, none⟩ = some (.map (some g1)) ∧ V3.heap.size ≤ V8.heap.size) := by
            have hq := HV4.out.trans (hB8.mono HV4.out.size)
            obtain ⟨-, k2, -, k4, k5, k6, k7, k8⟩ := HK.out
            exact ⟨k2.below hq, k4.later hq, k5.below hq, k6.trans (hq.mono (by have h1 := k6.size; have h2 := HZ1.out; omega)), (hq.cell (p := ⟨bx, 0, none⟩) (cell_lt k7)).trans k7, by have := hq.size; omega⟩
          have hTB8 : TabOk V8 := HTB.out V8 (HV4.out.trans (hB8.mono HV4.out.size))
          have hok : TbOk (fedB ((boths all d).take k)) := fedB_ok (fun r hr => HBL.out r (List.mem_of_mem_take hr))
          have hwz : w.heap.size ≤ V8.heap.size := by have h1 := HK8.out.2.2.2.1.size; have h2 := HZ1.out; omega
          have hst := sort_ (.slice ar mr cr) (O + N) (bothW all d k) w.heap.size bx g1 k _ V8 hTB8 HW9.out.1 HK8.out.2.2.2.2.1 HK8.out.2.1 hok (by omega) hwz
          have HX9 : Hid (putB (fedB ((boths all d).take k)) (bothW all d k) = fedB ((boths all d).take (k + 1))) := by
            show _ = _
            rw [HTK.out k hlt, fedB_snoc]
          have HLP9 := Hid.mk' (HLP.out k hlt)
          have HCP9 := Hid.mk' (HCP.out k)
          have HOB := Hid.mk' hok
          have HT8 := Hid.mk' hTB8
          rw [HX9.out] at hst
          obtain ⟨z, hz⟩ : ∃ z, redB (fedB ((boths all d).take k)) (bothW all d k) = z := ⟨_, rfl⟩
          rw [hz] at hst HLP9 HCP9
          clear hw8 hB8 hTB8 hok hwz hz
          go_wp2_with fail
          refine hst.mono ?_
          clear hst
          rintro e V9 ⟨u9, rfl, hu9, ht9, hg9⟩
          obtain ⟨a9, m9, c9, rfl⟩ := hu9.form
          have HK9 : Hid (WsAt V3.heap.size V9 (.slice aL M cL) N L ∧ TbAt V9 w.heap.size g1 (O + N) (k + 1) (fedB ((boths all d).take (k + 1))) ∧ DlAt V2.heap.size O N V9 G us N (fun i => dM all d i) ∧ Below (w.heap.size + 1) W1 V9 ∧ V9.cell? ⟨bx, 0, none⟩ = some (.map (some g1)) ∧ V3.heap.size ≤ V9.heap.size) := by
            obtain ⟨k2, k4, k5, k6, k7, k8⟩ := HK8.out
            obtain ⟨-, -, -, v5, v6, v7, v8⟩ := HV2.out
            have v9 := HD3.out.2.2.2.2
            refine ⟨k2.kept hg9 (fun b hb e => by cases e; omega), ht9, ?_, k6.grown hg9 (by have h1 := k6.size; have h2 := HZ1.out; omega) (fun j hj => by cases hj; omega), ?_, by have := hg9.size; omega⟩
            · rcases Nat.eq_zero_or_pos O with h0 | h0
              · refine ⟨k5.outer.of_block (hg9.block G k5.outer.lt (fun e => by cases e; have := k5.base; omega)), fun i hi => ?_, k5.apart, k5.base⟩
                obtain ⟨a1, a2, a3 | ⟨a3, -⟩⟩ := k5.word i hi
                · exact ⟨a1, a2, .inl a3⟩
                · omega
              · exact k5.kept hg9 (fun e => by have := k5.base; omega) (fun i hi e => by have := (own_block_of (k5.word i hi) e h0).1; omega)
            · rw [World.cell?_of_block (hg9.block bx (cell_lt k7) (fun e => by cases e; omega))]; exact k7
          have HT9 : Hid (∀ V, Below V9.heap.size V9 V → TabOk V) := fun V hV => by
            have h1 := HK9.out.2.2.2.1
            have h2 := HB1.out
            exact HT.out.below ((h2.trans (h1.mono (by omega))).trans (hV.mono (by have := h1.size; have := h2.size; omega)))
          have HU9 := Hid.mk' hu9
          have hfi := first_ (.slice a9 m9 c9) (O + N) z V9 hu9 (HT9.out V9 (Below.refl _ _))
          have hfn : firstN (O + N) z = low z := by unfold firstN; rw [if_neg (by omega)]
          rw [hfn] at hfi
          have HL0 : Hid (L = cocP all d k) := HK.out.1
          clear hu9 ht9 hg9 hfn HK8 HW9 HT8 HK
          go_wp2_with fail
          refine hfi.mono ?_
          clear hfi
          rintro e V ⟨rfl, hVV⟩
          obtain rfl : V9 = V := hVV.symm
          by_cases hlo : low z < O
          · have HEC : Hid (cocP all d (k + 1) = L) := by
              show cocP all d (k + 1) = L
              rw [HCP9.out, decide_eq_true hlo, cond_true, HL0.out]
            have hloi : ((low z : Nat) : Int) < (O : Int) := by omega
            go_wp2_with fail
            go_roundw
            case rel => exact ⟨k + 1, L, by omega, by go_num, HEC.out.symm, HK9.out.1, ⟨by have := HM.out; omega, fun h => HL9.out (by rw [← HM.out]; exact h)⟩, HK9.out.2⟩
            case measure => simp [intOf]; omega
          · have hloi : ¬ ((low z : Nat) : Int) < (O : Int) := by omega
            have HEC : Hid (cocP all d (k + 1) = L ++ [z >>> O]) := by
              show cocP all d (k + 1) = L ++ [z >>> O]
              rw [HCP9.out, decide_eq_false hlo, cond_false, HL0.out]
            have b0 := (HS.out V9 HK9.out.2.2.2.1).2.1
            have b1 := (HS.out V9 HK9.out.2.2.2.1).2.2.1
            have hc2 := HC2.out V9 HK9.out.2.2.2.1
            go_wp2_with fail
            refine hc2.mono ?_
            clear hc2 b0 b1
            rintro e X4 ⟨rfl, hX4⟩
            have hnr := newRow_ N (by omega) X4
            have HX4 := Hid.mk' hX4
            clear hX4
            go_wp2_with fail
            refine hnr.mono ?_
            clear hnr
            rintro e X5 ⟨r, rfl, hr, hX5⟩
            obtain ⟨aq, mq, cq, rfl⟩ := hr.form
            have HX5 : Hid (Below V9.heap.size V9 X5 ∧ X4.heap.size ≤ X5.heap.size ∧ V9.heap.size ≤ X4.heap.size ∧ Below X4.heap.size X4 X5) := ⟨HX4.out.trans (hX5.mono HX4.out.size), hX5.size, HX4.out.size, hX5⟩
            have HQ5 := Hid.mk' hr
            have hto := told_row (.slice a9 m9 c9) (O + N) z X5 (HU9.out.below HX5.out.1) (HT9.out X5 HX5.out.1)
            clear hr hX5
            go_wp2_with fail
            refine hto.mono ?_
            clear hto
            rintro e X6 ⟨t, rfl, ht, hX6⟩
            have HX6 := Hid.mk' hX6
            obtain ⟨at2, ct2, rfl, -, hxt⟩ := ht.open_
            have HXT := Hid.mk' hxt
            have HZM : Hid ((bitsN z).foldl (fun x i => x ^^^ 2 ^ (i - O)) 0 = z >>> O ∧ ∀ i ∈ bitsN z, O ≤ i ∧ i < O + N) := by
              have hz64 := lt64 HLP9.out (show O + N ≤ 64 by omega)
              refine ⟨moved hz64 (fun _ => by omega), fun i hi => ?_⟩
              have hb := (bitsN_mem hz64).1 hi
              have h0 := ne_zero_of_bit hb
              constructor
              · rcases Nat.lt_or_ge i O with h2 | h2
                · rw [(low_bits h0 hz64).2.2 i (by omega)] at hb; cases hb
                · exact h2
              · rcases Nat.lt_or_ge i (O + N) with h2 | h2
                · exact h2
                · rw [Nat.testBit_lt_two_pow (Nat.lt_of_lt_of_le HLP9.out (Nat.pow_le_pow_right (by decide) h2))] at hb; cases hb
            obtain ⟨is, his⟩ : ∃ is, bitsN z = is := ⟨_, rfl⟩
            have HIS := Hid.mk' his
            have hbl : (bitsI z).length = is.length := by unfold bitsI; rw [natsI_len, his]
            rw [hbl] at HXT ⊢
            obtain ⟨m, hm⟩ : ∃ m, is.length = m := ⟨_, rfl⟩
            have HMM := Hid.mk' hm
            have hm64 : m ≤ 64 := by rw [← hm, ← his]; exact bitsN_len _
            rw [hm] at HXT ⊢
            clear ht hxt hX6 his hbl hm
            go_wp2_with fail
            go_loopw [67] (fun p W => ∃ (j : Nat), j ≤ m ∧ p = .int .i64 (j : Int) ∧ Hid (WordIn (fun b => X4.heap.size ≤ b ∧ b < X5.heap.size) W (.slice aq mq cq) N ((is.take j).foldl (fun x i => x ^^^ 2 ^ (i - O)) 0) ∧ Below X4.heap.size X4 W ∧ (∀ b, X5.heap.size ≤ b → b < X6.heap.size → W.heap[b]? = X6.heap[b]?) ∧ X6.heap.size ≤ W.heap.size)) (fun p _ => m - (intOf p).toNat)
            case atStart => exact ⟨0, by omega, rfl, (HQ5.out.mono (fun b hb hs => ⟨hs, hb⟩)).below HX6.out, HX5.out.2.2.2.trans (HX6.out.mono HX5.out.2.1), fun _ _ _ => rfl, Nat.le_refl _⟩
            case round =>
              obtain ⟨j, hj, rfl, HJ⟩ := hrel
              by_cases hjt : j < m
              · have hji : j < is.length := by rw [HMM.out]; exact hjt
                obtain ⟨bt, ot, rfl, hbt, hbl, hcs⟩ := HXT.out (by omega)
                have hc4 := hcs j hjt
                have e9 : (bitsI z)[j]?.getD 0 = ((is[j]?.getD 0 : Nat) : Int) := by unfold bitsI; rw [HIS.out]; exact natsI_get is j hji
                rw [e9] at hc4
                have g9 : wr.cell? ⟨bt, ot + j, none⟩ = some (.int .i64 ((is[j]?.getD 0 : Nat) : Int)) := (World.cell?_of_block (HJ.out.2.2.1 bt hbt hbl)).trans hc4
                have hiO : O ≤ is[j]?.getD 0 ∧ is[j]?.getD 0 < O + N := HZM.out.2 _ (by rw [HIS.out, List.getElem?_eq_getElem hji]; exact List.getElem_mem hji)
                have HFT := Hid.mk' (fold_take hji 0 (fun i => 2 ^ (i - O)))
                obtain ⟨i, hi⟩ : ∃ i, is[j]?.getD 0 = i := ⟨_, rfl⟩
                rw [hi] at g9 hiO HFT
                have hfl : Calls Tryz.prog 61 #[.slice aq mq cq, .int .i64 ((i : Int) - (O : Int))] wr fun e w' => e = .returned (.tuple #[]) ∧ WordIn (fun b => X4.heap.size ≤ b ∧ b < X5.heap.size) w' (.slice aq mq cq) N ((is.take j).foldl (fun x i => x ^^^ 2 ^ (i - O)) 0 ^^^ 2 ^ (i - O)) ∧ wr.grownBy w' (Value.slice aq mq cq).ownBlock ∧ w'.heap.size = wr.heap.size := by
                  have h1 := flip_ (.slice aq mq cq) N _ (i - O) wr HJ.out.1 (by omega)
                  rwa [show ((i - O : Nat) : Int) = (i : Int) - (O : Int) by omega] at h1
                clear hcs hbt hbl hc4 e9 hi hji
                go_wp2_with fail
                refine hfl.mono ?_
                clear hfl g9
                rintro e V7 ⟨rfl, hA1, hA2, hA3⟩
                have HE : Hid (WordIn (fun b => X4.heap.size ≤ b ∧ b < X5.heap.size) V7 (.slice aq mq cq) N ((is.take (j + 1)).foldl (fun x i => x ^^^ 2 ^ (i - O)) 0) ∧ Below X4.heap.size X4 V7 ∧ (∀ b, X5.heap.size ≤ b → b < X6.heap.size → V7.heap[b]? = X6.heap[b]?) ∧ X6.heap.size ≤ V7.heap.size) := by
                  obtain ⟨b, hbb⟩ : ∃ b, (Value.slice aq mq cq).ownBlock = some b := by
                    obtain ⟨-, -, ⟨h3, -⟩ | ⟨-, b, c, e, -⟩⟩ := HJ.out.1
                    · omega
                    · exact ⟨b, by rw [e]; rfl⟩
                  have hob := own_block_of HJ.out.1 hbb (by omega)
                  rw [hbb] at hA2
                  refine ⟨by rw [HFT.out]; exact hA1, HJ.out.2.1.grown hA2 HJ.out.2.1.size (fun j hj => by cases hj; exact hob.1), fun b' h1 h2 => ?_, by have := HJ.out.2.2.2; omega⟩
                  rw [hA2.block b' (by have := HJ.out.2.2.2; omega) (fun e => by cases e; omega)]
                  exact HJ.out.2.2.1 b' h1 h2
                clear hA1 hA2 hA3
                go_wp2_with fail
                go_roundw
                case rel => exact ⟨j + 1, by omega, by go_num, HE.out⟩
                case measure => simp [intOf]; omega
              · have hjm : j = m := by omega
                subst hjm
                have HE : Hid (WsAt V3.heap.size wr (.slice aL M cL) N L ∧ TbAt wr w.heap.size g1 (O + N) (k + 1) (fedB ((boths all d).take (k + 1))) ∧ DlAt V2.heap.size O N wr G us N (fun i => dM all d i) ∧ Below (w.heap.size + 1) W1 wr ∧ wr.cell? ⟨bx, 0, none⟩ = some (.map (some g1)) ∧ V3.heap.size ≤ wr.heap.size ∧ WordIn (fun b => V3.heap.size ≤ b ∧ some b ≠ (Value.slice aL M cL).ownBlock) wr (.slice aq mq cq) N (z >>> O)) := by
                  have h1 := HJ.out.1
                  rw [← HMM.out, List.take_length, ← HIS.out, HZM.out.1] at h1
                  have hq := HX4.out.trans (HJ.out.2.1.mono HX4.out.size)
                  obtain ⟨k2, k4, k5, k6, k7, k8⟩ := HK9.out
                  exact ⟨k2.below hq, k4.later hq, k5.below hq, k6.trans (hq.mono (by have h1 := k6.size; have h2 := HZ1.out; omega)), (hq.cell (p := ⟨bx, 0, none⟩) (cell_lt k7)).trans k7, by have := hq.size; omega, h1.mono (fun b _ hb => ⟨by have := HX4.out.size; omega, fun e => by have := HX4.out.size; have := (k2.block e.symm).2; omega⟩)⟩
                obtain ⟨ws, o1, o2⟩ := HE.out.1
                rw [HM.out] at o1
                have HOW := Hid.mk' (And.intro o1 o2)
                clear HJ HXT HIS HMM HZM HX4 HX5 HX6 HQ5 HK9 o1 o2
                go_upto_region 23 with (first
                  | (at_builtin; refine wpList_append_slice rfl (.tmp 77) (.tmp 79) 50 rfl V3.heap.size 68 i0 (.slice none 0 0) 24 Tryz.underlying50 hi hy0 hy1 hy2 rfl _ _ _ rfl (HOW.out.1.alloc _) _ [.slice aq mq cq] rfl (slice_one _ _ _) (by simp [Value.oneCell']) (by simp; omega) (by unfold maxLen; simp; omega) (by have := HE.out.2.2.2.2.2.1; simp; omega) ?_; intro v6 w6 hown6 hg6 hl6; replace hown6 : w6.ownsRow V3.heap.size 68 1 v6 (M + 1) (ws ++ [.slice aq mq cq]) := hown6; obtain ⟨a6, c6, rfl⟩ := own_form hown6)
                  | fail)
                have HE6 : Hid (WsAt V3.heap.size w6 (.slice a6 (M + 1) c6) N (L ++ [z >>> O]) ∧ ((L ++ [z >>> O]).length ≤ k + 1 ∧ ((L ++ [z >>> O]).length = 0 → (Value.slice a6 (M + 1) c6).ownBlock = none)) ∧ TbAt w6 w.heap.size g1 (O + N) (k + 1) (fedB ((boths all d).take (k + 1))) ∧ DlAt V2.heap.size O N w6 G us N (fun i => dM all d i) ∧ Below (w.heap.size + 1) W1 w6 ∧ w6.cell? ⟨bx, 0, none⟩ = some (.map (some g1)) ∧ V3.heap.size ≤ w6.heap.size) := by
                  obtain ⟨k2, k4, k5, k6, k7, k8, k9⟩ := HE.out
                  have hlow : ∀ i, (Value.slice aL M cL).ownBlock = some i → V3.heap.size ≤ i ∧ i < wr.heap.size := fun i hi => HOW.out.1.lt i hi
                  have hq : Below V3.heap.size wr w6 := ((Below.refl V3.heap.size wr).alloc k8 _).grown hg6 (by simp; omega) (fun i hi => (hlow i hi).1)
                  have hbx : bx < V3.heap.size := cell_lt HD3.out.2.2.1
                  have hg1 := HV2.out.2.2.2.2.2.1
                  have h3 := HD3.out.2.1.size
                  have hz := HZ1.out
                  refine ⟨?_, ⟨by have := HM.out; simp; omega, fun h => by simp at h⟩, ?_, HD3.out.1.later k5 (Nat.le_refl _) k8 hq, k6.trans (hq.mono (by omega)), (hq.cell (p := ⟨bx, 0, none⟩) hbx).trans k7, by have := hq.size; omega⟩
                  · exact WsAt.push (by rw [HM.out]; exact HOW.out.1) HOW.out.2 k9 (by rw [HM.out]; exact hown6) hg6 hl6
                  · refine k4.beside HOW.out.1 (fun u hu => ?_) (fun h => HL9.out h) hg6 (fun e => by have := (hlow _ e).1; omega)
                    exact (HOW.out.2 0 u hu).form
                clear hown6 hg6 hl6 HOW HE
                go_wp2_with fail
                go_roundw
                case rel => exact ⟨k + 1, L ++ [z >>> O], by omega, by go_num, HEC.out.symm, HE6.out⟩
                case measure => simp [intOf]; omega
    · have hkm : k = N := by omega
      subst hkm
      have HE : Hid (WsAt w.heap.size wr (.slice aL M cL) k (cocP all d k) ∧ Below w.heap.size w wr) := by
        obtain ⟨k1, k2, -, -, -, k6, -⟩ := HK.out
        have h1 := HB1.out
        have h2 := HZ1.out
        have h3 := HD3.out.2.1.size
        exact ⟨by rw [← k1]; exact k2.down (by omega), h1.trans (k6.mono (by omega))⟩
      go_wp2_with fail
      go_ret
      exact ⟨_, rfl, HE.out⟩

end Go.Proofs.YtldknhganoiajaaGreatDoor
