/- The walk of complex. -/
import Derived.Test.YthdmfeidcldafaaGreatDoorMorseRest
namespace Go.Proofs.YthdmfeidcldafaaGreatDoor
open Go.RowKit Go.Sort

set_option maxRecDepth 100000 in
set_option maxHeartbeats 4000000 in
theorem complex_ {a : Nat → Addr} {s : Nat → ByteArray} {B : Nat} {l all : List (List Int)} {ad aS ao : Option Addr} {cd cs co gl gc : Nat} {left : Nat → Bool} (vl : Value) (w : World) (hE : Errs a s w) (hl : Rows w vl l) (hll : l.length ≤ 100000) (hle : ∀ x ∈ l, x.length ≤ 1000) (hg : Good l all) (hr : RestAt B w (numL all) ad aS ao cd cs co gl gc left) :
    Calls Tryz.prog 27 #[restV (numL all).length ad aS ao cd cs co gl gc, .agg #[vl]] w fun e w' => MakeSays a (leftTo (numL all) left (numL all).length) w e w' := by
  obtain ⟨i0, hi0, hz0, hz1, hz2⟩ := info_parts Tryz.info51
  have HG : Hid (Good l all) := hg
  have HR : Hid (RestAt B w (numL all) ad aS ao cd cs co gl gc left) := hr
  have HEE : Hid (Errs a s w ∧ Rows w vl l ∧ l.length ≤ 100000 ∧ ∀ x ∈ l, x.length ≤ 1000) := ⟨hE, hl, hll, hle⟩
  have HFI : Hid (∀ d j : Nat, d < 7 → j < (ofDim all (d : Int)).length → (numTo all d).length + j < (numL all).length ∧ faceAt (numL all) ((numTo all d).length + j) = (ofDim all (d : Int))[j]?.getD []) := fun d j h1 h2 => face_in hg h1 h2
  have H7 : Hid ((numTo all 7).length = (numL all).length) := by show _ = _; rw [numTo_seven hg]
  have hL6 : (numL all).length ≤ 600 := Nat.le_trans (num_len (order_nodup hg.isAll.order) _) hg.length
  have HFA : Hid (∀ (d : Nat) (W : World), Below w.heap.size w W → Calls Tryz.prog 41 #[.agg #[vl], .int .i64 (d : Int)] W fun e w' => ∃ v, e = .returned (.tuple #[v, .nilIface]) ∧ OwnRows W.heap.size w' v (ofDim all (d : Int)) ∧ Below W.heap.size W w') := fun d W hW => (faces_own vl l (d : Int) W (hE.below hW) (hl.below hW) hll hle).mono fun e w' h => by
    rcases h with ⟨h1, ⟨i, hb, _⟩ | ⟨all', v, hg', h2, h3⟩⟩
    · exact (bad_good hb hg).elim
    · obtain rfl := good_one hg hg'
      exact ⟨v, h2, h3, h1⟩
  obtain ⟨al, cl, rfl, -, -⟩ := hl.open_
  obtain ⟨L, hL⟩ : ∃ L, numL all = L := ⟨_, rfl⟩
  rw [hL] at HR HFI H7 hL6 ⊢
  have HLL : Hid (numL all = L) := hL
  obtain ⟨n, hn⟩ : ∃ n, L.length = n := ⟨_, rfl⟩
  have HNN : Hid (L.length = n) := hn
  have hBa : Below w.heap.size w (((w.alloc (.cells #[.slice ad n cd, .slice aS n cs, .slice ao n co, .slice (some ⟨gl, 0, none⟩) n n, .slice (some ⟨gc, 0, none⟩) n n] 61)).alloc (.cells #[.slice al l.length cl] 32)).alloc (.cells #[.slice none 0 0] 32)) := (((Below.refl _ w).alloc (Nat.le_refl _) _).alloc (by simp) _).alloc (by simp; omega) _
  have hce := rest_cells w (.slice ad n cd) (.slice aS n cs) (.slice ao n co) (.slice (some ⟨gl, 0, none⟩) n n) (.slice (some ⟨gc, 0, none⟩) n n) 61 3 _ rfl
  have c3 : (((w.alloc (.cells #[.slice ad n cd, .slice aS n cs, .slice ao n co, .slice (some ⟨gl, 0, none⟩) n n, .slice (some ⟨gc, 0, none⟩) n n] 61)).alloc (.cells #[.slice al l.length cl] 32)).alloc (.cells #[.slice none 0 0] 32)).cell? ⟨w.heap.size, 3, none⟩ = some (.slice (some ⟨gl, 0, none⟩) n n) := ((World.cell?_alloc_lt _ _ ⟨w.heap.size, 3, none⟩ (by simp; omega)).trans (World.cell?_alloc_lt _ _ ⟨w.heap.size, 3, none⟩ (by simp))).trans hce
  have cc : (((w.alloc (.cells #[.slice ad n cd, .slice aS n cs, .slice ao n co, .slice (some ⟨gl, 0, none⟩) n n, .slice (some ⟨gc, 0, none⟩) n n] 61)).alloc (.cells #[.slice al l.length cl] 32)).alloc (.cells #[.slice none 0 0] 32)).cell? ⟨w.heap.size + 1, 0, none⟩ = some (.slice al l.length cl) := by
    have h1 := (box_new (w.alloc (.cells #[.slice ad n cd, .slice aS n cs, .slice ao n co, .slice (some ⟨gl, 0, none⟩) n n, .slice (some ⟨gc, 0, none⟩) n n] 61)) (.slice al l.length cl) 32).1
    rw [World.size_alloc] at h1
    exact (World.cell?_alloc_lt _ _ ⟨w.heap.size + 1, 0, none⟩ (by simp)).trans h1
  have cr := box_new ((w.alloc (.cells #[.slice ad n cd, .slice aS n cs, .slice ao n co, .slice (some ⟨gl, 0, none⟩) n n, .slice (some ⟨gc, 0, none⟩) n n] 61)).alloc (.cells #[.slice al l.length cl] 32)) (.slice none 0 0) 32
  rw [World.size_alloc, World.size_alloc] at cr
  unfold restV
  rw [hn] at hL6 H7 HFI ⊢
  clear hE hl hll hle hg hr hL hn hce
  go_enter Tryz.func27, Tryz.ntmps27
  go_upto_region 1 with fail
  obtain ⟨X, hX⟩ : ∃ X, ((w.alloc (.cells #[.slice ad n cd, .slice aS n cs, .slice ao n co, .slice (some ⟨gl, 0, none⟩) n n, .slice (some ⟨gc, 0, none⟩) n n] 61)).alloc (.cells #[.slice al l.length cl] 32)).alloc (.cells #[.slice none 0 0] 32) = X := ⟨_, rfl⟩
  obtain ⟨xb, hxb⟩ : ∃ xb, w.heap.size = xb := ⟨_, rfl⟩
  have hxl : X.heap.size = xb + 3 := by rw [← hX, ← hxb]; simp
  rw [hX, hxb] at c3 cc cr hBa
  try rw [hX]
  try rw [hxb]
  have HXB : Hid (w.heap.size = xb) := hxb
  have HXL : Hid (X.heap.size = xb + 3) := hxl
  have HBA : Hid (Below xb w X) := hBa
  have HLE : Hid (X.rowIs gl 4 n (fun i => .bool (left i)) ∧ gl < xb) := by
    have h1 := HR.out.lefts.lt
    rw [hxb] at h1
    have h2 := HR.out.lefts.of_block (hBa.block gl h1)
    rw [HNN.out] at h2
    exact ⟨h2, h1⟩
  have HCR : Hid (X.cell? ⟨xb + 1 + 1, 0, none⟩ = some (.slice none 0 0) ∧ X.frozen? ⟨xb + 1 + 1, 0, none⟩ = false) := cr
  have HCC : Hid (X.cell? ⟨xb, 3, none⟩ = some (.slice (some ⟨gl, 0, none⟩) n n) ∧ X.cell? ⟨xb + 1, 0, none⟩ = some (.slice al l.length cl)) := ⟨c3, cc⟩
  clear hX hxb hxl hBa c3 cc cr HR
  go_wp2_with fail
  go_loopw [6, 7, 13] (fun v f p W => ∃ (d K : Nat), d ≤ 7 ∧ p = .int .i64 d ∧ f = .int .i64 K ∧ Hid (K = (numTo all d).length ∧ OwnRows (xb + 3) W v (leftTo L left (numTo all d).length) ∧ Below (xb + 3) X W)) (fun _ _ p _ => 7 - (intOf p).toNat)
  case atStart => exact ⟨0, 0, by omega, rfl, rfl, rfl, OwnRows.nil _ _, Below.refl _ _⟩
  case round =>
    obtain ⟨d, K, hd, rfl, rfl, HD⟩ := hrel
    obtain ⟨wo, hwo⟩ : ∃ wo : World, wo = wr := ⟨_, rfl⟩
    subst hwo
    have hszo := HD.out.2.2.size
    rw [HXL.out] at hszo
    have HBW : Hid (Below xb w wo) := HBA.out.trans (HD.out.2.2.mono (by omega))
    by_cases hd7 : d < 7
    · have hfa := HFA.out d wo (by rw [HXB.out]; exact HBW.out)
      have x0 := (HD.out.2.2.cell (p := ⟨xb + 1, 0, none⟩) (by simp only; omega)).trans HCC.out.2
      obtain ⟨C, hC⟩ : ∃ C, ofDim all (d : Int) = C := ⟨_, rfl⟩
      obtain ⟨nd, hnd⟩ : ∃ nd, C.length = nd := ⟨_, rfl⟩
      rw [hC] at hfa
      have HCN : Hid (ofDim all (d : Int) = C ∧ C.length = nd) := ⟨hC, hnd⟩
      have hnb : nd ≤ 600 := by rw [← hnd, ← hC]; exact Nat.le_trans (ofDim_length _ _) HG.out.length
      clear hC hnd
      go_upto_region 10 with (go_at_call 41; refine hfa.mono ?_; rintro e w3 ⟨vf, rfl, hvf, hB3⟩; have HVF : Hid (OwnRows wo.heap.size w3 vf C) := hvf; have HB3 : Hid (Below wo.heap.size wo w3) := hB3; obtain ⟨af, cf, rfl, -, hfx⟩ := hvf.rowsIn'.open_; have HFX := Hid.mk' hfx; rw [HCN.out.2]; clear hvf hB3 hfa hfx)
      have hs3 := HB3.out.size
      obtain ⟨N, hN⟩ : ∃ N, (numTo all d).length = N := ⟨_, rfl⟩
      have HN : Hid ((numTo all d).length = N ∧ (numTo all (d + 1)).length = N + nd) := ⟨hN, by rw [numTo_succ, List.length_append, hN, HCN.out.1, HCN.out.2]⟩
      have HFJ : Hid (∀ j, j < nd → N + j < n ∧ faceAt L (N + j) = C[j]?.getD []) := fun j hj => by
        have h := HFI.out d j hd7 (by rw [HCN.out.1, HCN.out.2]; exact hj)
        rw [hN, HCN.out.1] at h
        exact h
      rw [hN] at HD
      obtain rfl : K = N := HD.out.1
      clear hN
      obtain ⟨F1, hF1⟩ : ∃ F1, wo.heap.size = F1 := ⟨_, rfl⟩
      obtain ⟨F2, hF2⟩ : ∃ F2, w3.heap.size = F2 := ⟨_, rfl⟩
      have HF1 : Hid (wo.heap.size = F1 ∧ w3.heap.size = F2) := ⟨hF1, hF2⟩
      rw [hF1] at hszo HB3 HFX
      rw [hF2] at hs3 HFX
      rw [hF1] at hs3
      have HW3 : Hid (Below (xb + 3) X w3 ∧ OwnRows (xb + 3) w3 u6 (leftTo L left K) ∧ ∀ b, u6.ownBlock = some b → b < F1) := ⟨HD.out.2.2.trans (HB3.out.mono (by omega)), HD.out.2.1.below (by rw [hF1]; exact HB3.out), fun b hb => by rw [← hF1]; exact (HD.out.2.1.block hb).2⟩
      clear hF1 hF2
      go_wp2_with fail
      go_loopw [6, 7, 28] (fun v f p W => ∃ (j K' : Nat), j ≤ nd ∧ p = .int .i64 j ∧ f = .int .i64 K' ∧ Hid (K' = K + j ∧ OwnRows (xb + 3) W v (leftTo L left K') ∧ Below (xb + 3) X W ∧ (∀ b, F1 ≤ b → b < F2 → W.heap[b]? = w3.heap[b]?) ∧ (∀ b, v.ownBlock = some b → b < F1 ∨ F2 ≤ b) ∧ F2 ≤ W.heap.size)) (fun _ _ p _ => nd - (intOf p).toNat)
      case atStart => exact ⟨0, K, by omega, rfl, rfl, rfl, HW3.out.2.1, HW3.out.1, fun b _ _ => rfl, fun b hb => .inl (HW3.out.2.2 b hb), by rw [HF1.out.2]; exact Nat.le_refl _⟩
      case round =>
        obtain ⟨j, K', hj, rfl, rfl, HJ⟩ := hrel
        have hKb : K' ≤ 1200 := by
          have h1 := HJ.out.1
          have h2 := num_len (order_nodup HG.out.isAll.order) d
          rw [HN.out.1] at h2
          have := HG.out.length
          omega
        by_cases hjn : j < nd
        · obtain ⟨bf, ofs, rfl, hbf, hbf2, hrw⟩ := HFX.out (by rw [HCN.out.2]; omega)
          obtain ⟨a1, p1, g1, i1⟩ := hrw j (by rw [HCN.out.2]; exact hjn)
          have hfj := HFJ.out j hjn
          rw [← HJ.out.1] at hfj
          obtain ⟨x, hxe⟩ : ∃ x, C[j]?.getD [] = x := ⟨_, rfl⟩
          rw [hxe] at g1 i1 hfj
          obtain ⟨xl, hxl⟩ : ∃ xl, x.length = xl := ⟨_, rfl⟩
          rw [hxl] at g1 i1
          have HXE : Hid (faceAt L K' = x) := hfj.2
          have hKn := hfj.1
          have g2 : wr.cell? ⟨bf, ofs + j, none⟩ = some (.slice a1 xl p1) := (World.cell?_of_block (HJ.out.2.2.2.1 bf hbf.1 hbf.2)).trans g1
          have HI1 := Hid.mk' i1
          have lk := (HLE.out.1.of_block (HJ.out.2.2.1.block gl (by have := HLE.out.2; omega))).cell (i := K') hKn
          have c3 := (HJ.out.2.2.1.cell (p := ⟨xb, 3, none⟩) (by simp only; omega)).trans HCC.out.1
          obtain ⟨lb, hlb⟩ : ∃ lb, left K' = lb := ⟨_, rfl⟩
          have HLB : Hid (left K' = lb) := hlb
          rw [hlb] at lk
          have z0 : (K' : Int) < (n : Int) := by omega
          have z1 : (j : Int) < (nd : Int) := by omega
          clear hrw g1 i1 hfj hxe hxl hlb
          cases lb
          · go_wp2_with fail
            go_roundw
            case rel => exact ⟨j + 1, K' + 1, by omega, by go_num, by go_num, by have := HJ.out.1; omega, by rw [leftTo_no HLB.out]; exact HJ.out.2.1, HJ.out.2.2⟩
            case measure => simp [intOf]; omega
          · obtain ⟨T, hT⟩ : ∃ T, leftTo L left K' = T := ⟨_, rfl⟩
            obtain ⟨q, hq⟩ : ∃ q, T.length = q := ⟨_, rfl⟩
            have hqb : q ≤ 1200 := by rw [← hq, ← hT]; exact Nat.le_trans (leftTo_len _ _ _) hKb
            have HT : Hid (leftTo L left K' = T ∧ T.length = q) := ⟨hT, hq⟩
            have hOR := HJ.out.2.1
            rw [hT] at hOR
            obtain ⟨vs, hv1, hv2⟩ := hOR
            have HV2 := Hid.mk' hv2
            have HV1 := Hid.mk' hv1
            rw [hq] at hv1
            have hszr := HJ.out.2.2.1.size
            rw [HXL.out] at hszr
            clear hT hq hv2
            go_wp2_with (first
              | (at_builtin; refine wpList_append_slice rfl (.tmp 37) (.tmp 39) 22 rfl (xb + 3) 51 i0 (.slice none 0 0) 24 Tryz.underlying22 hi0 hz0 hz1 hz2 rfl _ _ _ rfl (hv1.alloc _) _ [.slice a1 xl p1] rfl (slice_one _ _ _) (by simp [Value.oneCell']) (by simp; omega) (by unfold maxLen; simp; omega) (by simp; omega) ?_; intro v4 w4 hown4 hg4 hl4)
              | fail)
            go_roundw
            case rel =>
              refine ⟨j + 1, K' + 1, by omega, by go_num, by go_num, by have := HJ.out.1; omega, ?_, ?_, fun b h1 h2 => ?_, fun b hb => ?_, ?_⟩
              · rw [leftTo_yes HLB.out, HXE.out, HT.out.1]
                refine OwnRows.push HV1.out HV2.out (SliceIn.mono (SliceIn.keep HI1.out (fun b _ hb => HJ.out.2.2.2.1 b hb.1 hb.2)) (fun b _ hb => ⟨by omega, fun e => ?_⟩)) (by rw [HT.out.2]; exact hown4) hg4 hl4
                have := HJ.out.2.2.2.2.1 b e.symm
                omega
              · exact (HJ.out.2.2.1.alloc hszr _).grown hg4 (by simp; omega) (fun b hb => (hv1.lt b hb).1)
              · have hsz := HJ.out.2.2.2.2.2
                have e1 := hg4.block b (by simp; omega) (fun e => by have := HJ.out.2.2.2.2.1 b e.symm; omega)
                exact e1.trans (((World.grownBy_alloc wr _ none).block b (by omega) (by simp)).trans (HJ.out.2.2.2.1 b h1 h2))
              · have hsz := HJ.out.2.2.2.2.2
                rcases hl4 with e | e
                · exact HJ.out.2.2.2.2.1 b (e.symm.trans hb)
                · rw [e] at hb
                  cases hb
                  simp
                  omega
              · have := hg4.size
                have := HJ.out.2.2.2.2.2
                simp at *
                omega
            case measure => simp [intOf]; omega
        · obtain rfl : j = nd := by omega
          go_wp2_with fail
          go_roundw
          case rel =>
            refine ⟨d + 1, K', by omega, by go_num, rfl, ?_, ?_, HJ.out.2.2.1⟩
            · rw [HN.out.2]; exact HJ.out.1
            · rw [HN.out.2, ← HJ.out.1]; exact HJ.out.2.1
          case measure => simp [intOf]; omega
    · obtain rfl : d = 7 := by omega
      have hS : leftTo L left (numTo all 7).length = leftTo L left n := by rw [H7.out]
      obtain ⟨S, hSS⟩ : ∃ S, leftTo L left n = S := ⟨_, rfl⟩
      have HOS : Hid (OwnRows (xb + 3) wo u6 S ∧ Below (xb + 3) X wo) := ⟨by rw [← hSS, ← hS]; exact HD.out.2.1, HD.out.2.2⟩
      have hSl : S.length ≤ 100000 := by rw [← hSS]; exact Nat.le_trans (leftTo_len _ _ _) (by omega)
      have hSe : ∀ x ∈ S, x.length ≤ 1000 := fun x hx => by
        rw [← hSS] at hx
        obtain ⟨i, hi, rfl⟩ := List.mem_map.1 hx
        have hi := List.mem_range.1 (List.mem_filter.1 hi).1
        have h1 : faceAt L i ∈ numL all := by rw [HLL.out]; exact faceAt_mem (by rw [HNN.out]; exact hi)
        have := HG.out.short _ (numTo_mem.1 h1).1
        omega
      have hmk := make_ u6 S wo (HEE.out.1.below (by rw [HXB.out]; exact HBW.out)) HOS.out.1.rows hSl hSe
      have HSS : Hid (leftTo L left n = S) := hSS
      have hbr : ∀ V, Below wo.heap.size wo V → V.cell? ⟨xb + 1 + 1, 0, none⟩ = some (.slice none 0 0) ∧ V.frozen? ⟨xb + 1 + 1, 0, none⟩ = false := fun V hV => ⟨(hV.cell (p := ⟨xb + 1 + 1, 0, none⟩) (by simp only; omega)).trans ((HOS.out.2.cell (p := ⟨xb + 1 + 1, 0, none⟩) (by simp only; omega)).trans HCR.out.1), (hV.frozen (p := ⟨xb + 1 + 1, 0, none⟩) (by simp only; omega)).trans ((HOS.out.2.frozen (p := ⟨xb + 1 + 1, 0, none⟩) (by simp only; omega)).trans HCR.out.2)⟩
      obtain ⟨a8, c8, rfl, -, -⟩ := HOS.out.1.rows.open_
      clear hS hSS hSe HD
      go_wp2_with fail
      refine hmk.mono ?_
      clear hmk
      rintro e w6 ⟨hB6, ⟨hno, rfl⟩ | ⟨hok, ts, hts, ⟨hov, rfl⟩ | ⟨hov, v, ss, rfl, hown, hnd, hmem⟩⟩⟩
      · obtain ⟨c1, z1⟩ := hbr w6 hB6
        have c2 := World.cell?_setCell_same' w6 ⟨xb + 1 + 1, 0, none⟩ (.slice none 0 0) (by rw [c1]; rfl)
        have H : Hid (¬ ∀ x ∈ S, SetOk x) := hno
        have HB6 : Hid (Below xb w w6) := HBW.out.trans (hB6.mono (by omega))
        clear hbr hno hB6
        go_wp2
        refine bodyPost_ret (v := .tuple #[.agg #[.slice none 0 0], .iface 176 (.pointer (some (a 3)))]) ?_ rfl ?_
        · simp [results, Tryz.f27, go_sem, c2]
        · rw [HSS.out]; exact ⟨by rw [HXB.out]; exact HB6.out.setCell (p := ⟨xb + 1 + 1, 0, none⟩) (by simp only; omega) _, .inl ⟨H.out, rfl⟩⟩
      · obtain ⟨c1, z1⟩ := hbr w6 hB6
        have c2 := World.cell?_setCell_same' w6 ⟨xb + 1 + 1, 0, none⟩ (.slice none 0 0) (by rw [c1]; rfl)
        have H : Hid ((∀ x ∈ S, SetOk x) ∧ ts.map ints = S.map srt ∧ Over ts) := ⟨hok, hts, hov⟩
        have HB6 : Hid (Below xb w w6) := HBW.out.trans (hB6.mono (by omega))
        clear hbr hok hts hov hB6
        go_wp2
        refine bodyPost_ret (v := .tuple #[.agg #[.slice none 0 0], .iface 176 (.pointer (some (a 1)))]) ?_ rfl ?_
        · simp [results, Tryz.f27, go_sem, c2]
        · rw [HSS.out]; exact ⟨by rw [HXB.out]; exact HB6.out.setCell (p := ⟨xb + 1 + 1, 0, none⟩) (by simp only; omega) _, .inr ⟨H.out.1, ts, H.out.2.1, .inl ⟨H.out.2.2, rfl⟩⟩⟩
      · obtain ⟨c1, z1⟩ := hbr w6 hB6
        have HOW : Hid (OwnRows wo.heap.size w6 v ((srtS ss).map ints)) := hown
        obtain ⟨a3, c3, rfl, -, -⟩ := hown.rows.open_
        have c2 := World.cell?_setCell_same' w6 ⟨xb + 1 + 1, 0, none⟩ (.slice a3 ((srtS ss).map ints).length c3) (by rw [c1]; rfl)
        rw [List.length_map] at c2
        have H : Hid (((∀ x ∈ S, SetOk x) ∧ ts.map ints = S.map srt ∧ ¬ Over ts) ∧ ss.Nodup ∧ ∀ x, x ∈ ss ↔ FaceOf ts x ∧ ¬ InnerOf ts x) := ⟨⟨hok, hts, hov⟩, hnd, hmem⟩
        have HB6 : Hid (Below xb w w6) := HBW.out.trans (hB6.mono (by omega))
        clear hbr hok hts hov hnd hmem hown hB6
        go_wp2
        refine bodyPost_ret (v := .tuple #[.agg #[.slice a3 (srtS ss).length c3], .nilIface]) ?_ rfl ?_
        · simp [results, Tryz.f27, go_sem, c2]
        · have h1 := HOW.out
          rw [List.length_map] at h1
          rw [HSS.out]
          unfold MakeSays
          rw [HXB.out]
          exact ⟨HB6.out.setCell (p := ⟨xb + 1 + 1, 0, none⟩) (by simp only; omega) _, .inr ⟨H.out.1.1, ts, H.out.1.2.1, .inr ⟨H.out.1.2.2, _, ss, rfl, (h1.setCell (p := ⟨xb + 1 + 1, 0, none⟩) (by simp only; omega) _).lower (by omega), H.out.2.1, H.out.2.2⟩⟩⟩

end Go.Proofs.YthdmfeidcldafaaGreatDoor
