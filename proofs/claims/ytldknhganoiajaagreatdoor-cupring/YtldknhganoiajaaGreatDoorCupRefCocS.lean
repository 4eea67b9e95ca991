/- The reference's cocycles of a dimension: the walk. -/
import Derived.Test.YtldknhganoiajaaGreatDoorCupRefCoc
import Derived.Test.YtldknhganoiajaaGreatDoorOpen
namespace Go.Proofs.YtldknhganoiajaaGreatDoor
open Go.RowKit Go.Sort

set_option maxRecDepth 100000 in
set_option maxHeartbeats 8000000 in
theorem cocyclesOf_ {l all : List (List Int)} (hg : Good l all) (va : Value) (d : Nat) (hd : d ≤ 90) (w : World) (ha : Rows w va all) (hl : all.length ≤ 60) (hx : ∀ x ∈ all, x.length ≤ 1000) :
    Calls Tryz.prog 44 #[va, .int .i64 (d : Int)] w fun e w' => ∃ v, e = .returned v ∧ OwnRows w.heap.size w' v ((cocR all d).map bitsI) ∧ Below w.heap.size w w' := by
  obtain ⟨i0, hi, hz0, hz1, hz2⟩ := info_parts Tryz.info3
  obtain ⟨i2, hi2, hx0, hx1, hx2⟩ := info_parts Tryz.info39
  have h26 := two_dims hl hg d
  have HDE : Hid (∀ (vf : Value) (k : Nat) (W : World), k < nD all d → Below w.heap.size w W → Ints W vf [(k : Int)] → Calls Tryz.prog 43 #[va, .int .i64 (d : Int), vf] W fun e w' => ∃ v, e = .returned v ∧ w'.ownsRow W.heap.size 3 1 v (bitsI (dM all d k)).length ((bitsI (dM all d k)).map (Value.int .i64)) ∧ Below W.heap.size W w') := fun vf k W hk hW h1 => by
    have hok : OkCo (ofDim all (d : Int)).length [(k : Int)] := ⟨by simp [Rising], by simp; unfold nD at hk; omega⟩
    refine (deltaOfOwn_ va vf all d (by omega) [(k : Int)] W (ha.below hW) hl hx h1 (by simp) hok).mono fun e w' h => ?_
    have e1 := deltaL_eq (all := all) (d := d) hok (by unfold nD ovr at h26; omega) (by unfold nD ovr at h26; omega)
    rw [one_face (by omega)] at e1
    have e2 : (deltaL all d [(k : Int)]).length = (bitsI (dM all d k)).length := by rw [← e1, natsI_len]
    rw [e1, e2] at h
    exact h
  have HOF : Hid (∀ (d' : Int) W, Below w.heap.size w W → Calls Tryz.prog 42 #[va, .int .i64 d'] W fun e w' => ∃ v, e = .returned v ∧ Rows w' v (ofDim all d') ∧ Below W.heap.size W w') := fun d' W hW => of_dim va all d' W (ha.below hW) (by omega) hx
  have HBB := Hid.mk' (fun i (hi : i < nD all d) => bits_both hg hl (d := d) hi)
  have HBL := Hid.mk' (boths_lt hg hl d)
  have HTK := Hid.mk' (fun k (hk : k < nD all d) => boths_take (all := all) (d := d) hk)
  have HBN : Hid ((boths all d).length = nD all d) := by show _ = _; simp [boths]
  have HOE := Hid.mk' (outR_end all d)
  obtain ⟨aa, ca, rfl, -, -⟩ := ha.open_
  obtain ⟨A0, hA0⟩ : ∃ A0, all.length = A0 := ⟨_, rfl⟩
  rw [hA0] at HOF HDE ⊢
  have hof1 := HOF.out (d : Int) w (Below.refl _ _)
  obtain ⟨N, hN⟩ : ∃ N, nD all d = N := ⟨_, rfl⟩
  obtain ⟨O, hO⟩ : ∃ N, ovr all d = N := ⟨_, rfl⟩
  have HNN : Hid ((ofDim all (d : Int)).length = N ∧ (ofDim all ((d : Int) + 1)).length = O) := ⟨hN, hO⟩
  rw [hN] at h26 HDE HBB HTK HBN
  rw [hO] at h26 HBB HOE
  clear ha hl hx hA0 hN hO hg
  go_enter Tryz.func44, Tryz.ntmps44
  go_wp2_with fail
  refine hof1.mono ?_
  clear hof1
  rintro e V1 ⟨v1, rfl, hv1, hV1⟩
  obtain ⟨a1, c1, rfl, -, -⟩ := hv1.open_
  rw [HNN.out.1]
  have HV1 := Hid.mk' hV1
  have hof2 := HOF.out ((d : Int) + 1) V1 hV1
  clear hv1 hV1
  go_wp2_with fail
  refine hof2.mono ?_
  clear hof2
  rintro e V2 ⟨v2, rfl, hv2, hV2⟩
  obtain ⟨a2, c2, rfl, -, -⟩ := hv2.open_
  rw [HNN.out.2]
  have hB2 : Below w.heap.size w V2 := HV1.out.trans (hV2.mono HV1.out.size)
  have q1 := box_new V2 (.slice none 0 0) 87
  have hB3 : Below w.heap.size w (V2.alloc (.cells #[.slice none 0 0] 87)) := hB2.alloc hB2.size _
  obtain ⟨W1, hW1⟩ : ∃ W1, V2.alloc (.cells #[.slice none 0 0] 87) = W1 := ⟨_, rfl⟩
  have HW1 := Hid.mk' hW1
  have hz1' : W1.heap.size = V2.heap.size + 1 := by rw [← hW1]; simp
  rw [hW1] at q1 hB3
  obtain ⟨P, hP⟩ : ∃ P, V2.heap.size = P := ⟨_, rfl⟩
  have HPP := Hid.mk' hP
  rw [hP] at q1 hz1'
  have HS1 : Hid (SpanIn (P + 1) P W1 (.slice none 0 0) [] ∧ Below w.heap.size w W1 ∧ w.heap.size ≤ P) := ⟨⟨q1.1, q1.2, OwnRows.nil _ _, by omega, by omega⟩, hB3, by rw [← hP]; exact hB2.size⟩
  clear hv2 hV2 hB2 hB3 q1 hW1 hz1' hP
  go_upto_region 4 with fail
  rw [HW1.out, HPP.out]
  go_wp2_with fail
  go_loopw [8] (fun p W => ∃ (k : Nat) (v : Value), k ≤ N ∧ p = .int .i64 (k : Int) ∧ Hid (SpanIn (P + 1) P W v (allS ((boths all d).take k)) ∧ Below w.heap.size w W)) (fun p _ => N - (intOf p).toNat)
  case atStart => exact ⟨0, _, by omega, rfl, by simpa [allS] using HS1.out.1, HS1.out.2.1⟩
  case round =>
    obtain ⟨k, v, hk, rfl, HR⟩ := hrel
    by_cases hlt : k < N
    · obtain ⟨av, cv, rfl⟩ := HR.out.1.form
      go_upto_region 9 with (first
        | (at_builtin; refine wpList_append_slice rfl (.tmp 31) (.tmp 33) 39 rfl wr.heap.size 3 i0 (.int .i64 0) 8 Tryz.underlying39 hi hz0 hz1 hz2 rfl _ _ _ rfl ((World.ownsRow_nil _ _ _ _).alloc _) _ [.int .i64 (k : Int)] rfl (slice_one _ _ _) (by simp [Value.oneCell']) (by simp) (by unfold maxLen; simp) (by simp) ?_; intro v6 w6 hown6 hg6 hl6; replace hg6 : (wr.alloc (.cells #[.int .i64 (k : Int)] 3)).grownBy w6 (Value.slice none 0 0).ownBlock := hg6; replace hown6 : w6.ownsRow wr.heap.size 3 1 v6 1 [.int .i64 (k : Int)] := hown6; obtain ⟨a6, c6, rfl⟩ := own_form hown6)
        | fail)
      have hB6 : Below wr.heap.size wr w6 := ((Below.refl _ wr).alloc (Nat.le_refl _) _).grown hg6 (by simp) (fun j hj => by simp [Value.ownBlock] at hj)
      have hin6 : Ints w6 (.slice a6 1 c6) [(k : Int)] := slice_of_owns (cs := [.int .i64 (k : Int)]) hown6 (fun _ _ _ => trivial)
      have HS6 : Hid (SpanIn (P + 1) P w6 (.slice av (allS ((boths all d).take k)).length cv) (allS ((boths all d).take k)) ∧ Below w.heap.size w w6) := ⟨HR.out.1.below hB6, HR.out.2.trans (hB6.mono HR.out.2.size)⟩
      have hde := HDE.out (.slice a6 1 c6) k w6 hlt HS6.out.2 hin6
      clear hown6 hg6 hl6 hin6 hB6
      go_wp2_with fail
      refine hde.mono ?_
      clear hde
      rintro e W7 ⟨v7, rfl, hv7, hW7⟩
      obtain ⟨a7, c7, rfl⟩ := own_form hv7
      have hm64 := bitsI_len (dM all d k)
      have HB8 := HBB.out k hlt
      obtain ⟨L, hL⟩ : ∃ L, bitsI (dM all d k) = L := ⟨_, rfl⟩
      rw [hL] at hv7 hm64 HB8 ⊢
      obtain ⟨m, hm⟩ : ∃ m, L.length = m := ⟨_, rfl⟩
      rw [hm] at hv7 hm64 ⊢
      have HB9 := Hid.mk' HB8
      have HV7 := Hid.mk' (And.intro hv7 hW7)
      have HLM := Hid.mk' hm
      have HX : Hid (bothW all d k < 2 ^ 64) := HBL.out _ (List.mem_of_mem_take (i := k + 1) (by rw [HTK.out k hlt]; simp))
      have hsp := all_span ((boths all d).take k) [] spOk_nil (fun r hr => HBL.out r (List.mem_of_mem_take hr))
      have hsl : (allS ((boths all d).take k)).length ≤ 1000 := by
        have h1 := allS_len ((boths all d).take k) []
        have h2 : ((boths all d).take k).length ≤ k := List.length_take_le _ _
        unfold allS
        simp at h1
        omega
      have HSP : Hid (SpOk (allS ((boths all d).take k)) ∧ (allS ((boths all d).take k)).length ≤ 1000) := ⟨hsp.1, hsl⟩
      have HTT : Hid (withS (allS ((boths all d).take k)) (bothW all d k) = allS ((boths all d).take (k + 1))) := by
        show _ = _
        rw [HTK.out k hlt, allS_snoc]
      clear hv7 hW7 HB8 hL hm hsp hsl
      go_upto_region 6 with (first
        | (at_builtin; refine wpList_append_slice rfl (.tmp 40) (.tmp 44) 39 rfl w6.heap.size 3 i0 (.int .i64 0) 8 Tryz.underlying39 hi hz0 hz1 hz2 rfl _ _ _ rfl (HV7.out.1.alloc _) _ [.int .i64 ((O : Int) + (k : Int))] rfl (slice_one _ _ _) (by simp [Value.oneCell']) (by simp; omega) (by unfold maxLen; simp; omega) (by have := HV7.out.2.size; simp; omega) ?_; intro v8 w8 hown8 hg8 hl8; replace hown8 : w8.ownsRow w6.heap.size 3 1 v8 (m + 1) (L.map (Value.int .i64) ++ [.int .i64 ((O : Int) + (k : Int))]) := hown8; obtain ⟨a8, c8, rfl⟩ := own_form hown8; have HB8 : Hid (Below w6.heap.size w6 w8) := (HV7.out.2.alloc HV7.out.2.size _).grown hg8 (by have := HV7.out.2.size; simp; omega) (fun j hj => (HV7.out.1.lt j hj).1); have hin8 : IntsIn (fun b => w6.heap.size ≤ b) w8 (.slice a8 (m + 1) c8) (bitsI (bothW all d k)) := (by
              rw [← HB9.out]
              have h9 := slice_of_owns (S := fun b => w6.heap.size ≤ b) hown8 (fun b h _ => h)
              unfold IntsIn
              rw [List.map_append]
              exact h9); have hwi := with_ (P + 1) P _ (.slice a8 (m + 1) c8) (allS ((boths all d).take k)) (bothW all d k) w8 (HS6.out.1.below HB8.out) HSP.out.2 HSP.out.1 HX.out (SliceIn.mono hin8 (fun b _ h => ⟨by have h9 : w6.heap.size ≤ b := h; have := HS6.out.1.size; omega, fun e => by have h9 : w6.heap.size ≤ b := h; have := (HS6.out.1.own_low e.symm).2; omega⟩)); rw [HTT.out] at hwi; clear hown8 hg8 hl8 hin8)
        | (go_at_call 26; refine hwi.mono ?_; clear hwi; rintro e W8 ⟨⟨q, rfl⟩, v8, hs8, hb8⟩; have HE : Hid (SpanIn (P + 1) P W8 v8 (allS ((boths all d).take (k + 1))) ∧ Below w.heap.size w W8) := ⟨hs8, (HS6.out.2.trans (HB8.out.mono HS6.out.2.size)).trans (hb8.mono HS1.out.2.2)⟩; clear hs8 hb8)
        | fail)
      clear HV7 HS6 HR
      go_wp2_with fail
      go_roundw
      case rel => exact ⟨k + 1, v8, by omega, by go_num, HE.out⟩
      case measure => simp [intOf]; omega
    · have hkm : k = N := by omega
      subst hkm
      have HE : Hid (SpanIn (P + 1) P wr v (allS (boths all d)) ∧ Below w.heap.size w wr) := by
        have h1 := HR.out
        rw [← HBN.out, List.take_length] at h1
        exact h1
      clear HR
      have HSO : Hid (SpOk (allS (boths all d)) ∧ (allS (boths all d)).length ≤ 1000 ∧ ∀ r ∈ allS (boths all d), r < 2 ^ 64 ∧ r ≠ 0) := by
        have h1 := allS_len (boths all d) []
        have h2 := HBN.out
        have h3 := allS_ok HBL.out
        unfold allS at h3 ⊢
        simp at h1
        exact ⟨h3, by omega, h3.is⟩
      obtain ⟨av, cv, rfl⟩ := HE.out.1.form
      obtain ⟨S, hS⟩ : ∃ S, allS (boths all d) = S := ⟨_, rfl⟩
      rw [hS] at HE HSO HOE
      obtain ⟨m, hm⟩ : ∃ m, S.length = m := ⟨_, rfl⟩
      have HM := Hid.mk' hm
      rw [hm] at HE HSO HOE
      have hm1 := HSO.out.2.1
      obtain ⟨W3, hW3⟩ : ∃ W, W = wr := ⟨_, rfl⟩
      subst hW3
      clear hS hm
      have HRD : Hid (∀ W, Below W3.heap.size W3 W → W.cell? ⟨P, 0, none⟩ = some (.slice av m cv) ∧ ∀ k, k < m → ∃ G a' c', av = some ⟨G, 0, none⟩ ∧ W.cell? ⟨G, k, none⟩ = some (.slice a' (bitsI (S[k]?.getD 0)).length c') ∧ Ints W (.slice a' (bitsI (S[k]?.getD 0)).length c') (bitsI (S[k]?.getD 0))) := fun W hW => by
        have hs := HE.out.1.below hW
        refine ⟨hs.cell, fun k hk => ?_⟩
        have hro := hs.rows
        obtain ⟨vs, o1, -⟩ := hs.rows
        rw [List.length_map, HM.out] at o1
        obtain ⟨G, cG, hG, -, -⟩ := o1.form (by omega)
        cases hG
        obtain ⟨a2, c2, e2, -, h2⟩ := hro.rows.open_
        rw [List.length_map, HM.out] at e2 h2
        cases e2
        obtain ⟨b, o, e3, -, -, h3⟩ := h2 (by omega)
        cases e3
        obtain ⟨a', c', g1, g2⟩ := h3 k hk
        rw [bits_at (by rw [HM.out]; exact hk), Nat.zero_add] at g1
        rw [bits_at (by rw [HM.out]; exact hk)] at g2
        exact ⟨G, a', c', rfl, g1, g2⟩
      go_wp2_with fail
      go_loopw [11, 12] (fun v p W => ∃ (k : Nat) (L : List Nat), k ≤ m ∧ p = .int .i64 (k : Int) ∧ Hid (L = outR O S k ∧ L.length ≤ k ∧ OwnRows W3.heap.size W v (L.map bitsI) ∧ Below W3.heap.size W3 W)) (fun _ p _ => m - (intOf p).toNat)
      case atStart => exact ⟨0, [], by omega, rfl, by simp [outR], by simp, OwnRows.nil _ _, Below.refl _ _⟩
      case round =>
        obtain ⟨k, L, hk, rfl, HK⟩ := hrel
        have hrd := HRD.out wr HK.out.2.2.2
        have p0 := hrd.1
        obtain ⟨vs, o1, o2⟩ := HK.out.2.2.1
        have hLk := HK.out.2.1
        obtain ⟨M, hM⟩ : ∃ M, L.length = M := ⟨_, rfl⟩
        have HLM := Hid.mk' hM
        rw [List.length_map, hM] at o1
        rw [hM] at hLk
        obtain ⟨aL, cL, rfl⟩ := own_form o1
        have HO := Hid.mk' (And.intro o1 o2)
        clear o1 o2 hM
        by_cases hlt : k < m
        · have hkS : k < S.length := by rw [HM.out]; exact hlt
          obtain ⟨G, a', c', rfl, g1, g2⟩ := hrd.2 k hlt
          have hOS : outR O S (k + 1) = if O ≤ low (S[k]?.getD 0) then outR O S k ++ [S[k]?.getD 0 >>> O] else outR O S k := outR_succ hkS
          have HOS := Hid.mk' hOS
          have hr : S[k]?.getD 0 ∈ S := by rw [List.getElem?_eq_getElem hkS]; exact List.getElem_mem hkS
          obtain ⟨r, hrr⟩ : ∃ r, S[k]?.getD 0 = r := ⟨_, rfl⟩
          rw [hrr] at g1 g2 hr HOS
          have HRR := Hid.mk' hrr
          have hr2 := HSO.out.2.2 r hr
          obtain ⟨a2, c2, e2, -, hcs⟩ := g2.open_
          cases e2
          have hlen : 0 < (bitsI r).length := by
            rcases Nat.eq_zero_or_pos (bitsI r).length with h0 | h0
            · exact absurd ((bitsI_len0 hr2.1).1 h0) hr2.2
            · exact h0
          obtain ⟨bf, of', rfl, -, hbf, hcf⟩ := hcs hlen
          have f0 : wr.cell? ⟨bf, of', none⟩ = some (.int .i64 (low r : Int)) := by
            have := hcf 0 hlen
            rw [bitsI_head hr2.1 hr2.2] at this
            exact this
          have HF : Hid ((∀ j, j < (bitsI r).length → wr.cell? ⟨bf, of' + j, none⟩ = some (.int .i64 ((bitsI r)[j]?.getD 0))) ∧ bf < wr.heap.size ∧ r < 2 ^ 64 ∧ r ≠ 0) := ⟨hcf, hbf, hr2⟩
          have h64 := bitsI_len r
          obtain ⟨n, hn⟩ : ∃ n, (bitsI r).length = n := ⟨_, rfl⟩
          have HN2 := Hid.mk' hn
          rw [hn] at g1 hlen h64 HF
          clear hrd hOS hr hrr hr2 hcs hcf hbf hn g2 hkS
          by_cases hlo : low r < O
          · have hloi : ((low r : Nat) : Int) < (O : Int) := by omega
            have HEC : Hid (outR O S (k + 1) = L) := by
              show _ = _
              rw [HOS.out, if_neg (by omega), HK.out.1]
            go_wp2_with fail
            go_roundw
            case rel => exact ⟨k + 1, L, by omega, by go_num, HEC.out.symm, by have := HLM.out; omega, HK.out.2.2.1, HK.out.2.2.2⟩
            case measure => simp [intOf]; omega
          · have hloi : ¬ ((low r : Nat) : Int) < (O : Int) := by omega
            have HEC : Hid (outR O S (k + 1) = L ++ [r >>> O]) := by
              show _ = _
              rw [HOS.out, if_pos (by omega), HK.out.1]
            have HDN : Hid ((bitsI r).map (fun z => z - (O : Int)) = bitsI (r >>> O)) := bits_down HF.out.2.2.1 (fun j hj => none_below HF.out.2.2.1 (fun _ => by omega) hj)
            obtain ⟨V3, hV3⟩ : ∃ W, W = wr := ⟨_, rfl⟩
            subst hV3
            go_wp2_with fail
            clear p0 f0 g1
            go_loopw [13, 14] (fun v p W => ∃ (j : Nat), j ≤ n ∧ p = .int .i64 (j : Int) ∧ Hid (W.ownsRow V3.heap.size 3 1 v j ((((bitsI r).take j).map (fun z => z - (O : Int))).map (Value.int .i64)) ∧ Below V3.heap.size V3 W)) (fun _ p _ => n - (intOf p).toNat)
            case atStart => exact ⟨0, by omega, rfl, by simpa using World.ownsRow_nil _ _ _ _, Below.refl _ _⟩
            case round =>
              obtain ⟨j, hj, rfl, HJ⟩ := hrel
              have o1 := HJ.out.1
              obtain ⟨aC, cC, rfl⟩ := own_form o1
              have HC := Hid.mk' o1
              clear o1
              have hrd := HRD.out wr (HK.out.2.2.2.trans (HJ.out.2.mono HK.out.2.2.2.size))
              have p0 := hrd.1
              obtain ⟨G', a9, c9, hG, g1, g2⟩ := hrd.2 k hlt
              cases hG
              rw [HRR.out] at g1 g2
              rw [HN2.out] at g1
              obtain ⟨a2, c2, e2, -, hcs⟩ := g2.open_
              cases e2
              rw [HN2.out] at hcs
              clear hrd g2
              by_cases hjn : j < n
              · obtain ⟨bf, of', rfl, -, hbf, hcf⟩ := hcs (by omega)
                have f1 := hcf j hjn
                have hjb : j < (bitsI r).length := by rw [HN2.out]; exact hjn
                have HTK2 : Hid (((bitsI r).take (j + 1)).map (fun z => z - (O : Int)) = ((bitsI r).take j).map (fun z => z - (O : Int)) ++ [(bitsI r)[j]?.getD 0 - (O : Int)]) := by
                  show _ = _
                  rw [List.take_add_one, List.getElem?_eq_getElem hjb, List.map_append]; rfl
                obtain ⟨z, hz⟩ : ∃ z, (bitsI r)[j]?.getD 0 = z := ⟨_, rfl⟩
                have hzz := bitsI_mem HF.out.2.2.1 (show z ∈ bitsI r by rw [← hz, List.getElem?_eq_getElem hjb]; exact List.getElem_mem hjb)
                have hz64 : 0 ≤ z ∧ z < 64 := ⟨hzz.1, by have := bit_lt HF.out.2.2.1 hzz.2; omega⟩
                have hO60 : O ≤ 60 := by omega
                rw [hz] at f1 HTK2
                clear hcs hbf hcf hzz hjb hz
                go_upto_region 19 with (first
                  | (at_builtin; refine wpList_append_slice rfl (.tmp 79) (.tmp 92) 39 rfl V3.heap.size 3 i0 (.int .i64 0) 8 Tryz.underlying39 hi hz0 hz1 hz2 rfl _ _ _ rfl (HC.out.alloc _) _ [.int .i64 (z - (O : Int))] rfl (slice_one _ _ _) (by simp [Value.oneCell']) (by simp; omega) (by unfold maxLen; simp; omega) (by have := HJ.out.2.size; simp; omega) ?_; intro v6 w6 hown6 hg6 hl6; replace hown6 : w6.ownsRow V3.heap.size 3 1 v6 (j + 1) ((((bitsI r).take j).map (fun z => z - (O : Int))).map (Value.int .i64) ++ [.int .i64 (z - (O : Int))]) := hown6; obtain ⟨a6, c6, rfl⟩ := own_form hown6)
                  | fail)
                have HE6 : Hid (w6.ownsRow V3.heap.size 3 1 (.slice a6 (j + 1) c6) (j + 1) ((((bitsI r).take (j + 1)).map (fun z => z - (O : Int))).map (Value.int .i64)) ∧ Below V3.heap.size V3 w6) := by
                  have hlow : ∀ i, (Value.slice aC j cC).ownBlock = some i → V3.heap.size ≤ i ∧ i < wr.heap.size := fun i hi => HC.out.lt i hi
                  refine ⟨by rw [HTK2.out, List.map_append]; exact hown6, (HJ.out.2.alloc HJ.out.2.size _).grown hg6 (by have := HJ.out.2.size; simp; omega) (fun i hi => (hlow i hi).1)⟩
                clear hown6 hg6 hl6 HC HJ p0 g1 f1
                go_wp2_with fail
                go_roundw
                case rel => exact ⟨j + 1, by omega, by go_num, HE6.out⟩
                case measure => simp [intOf]; omega
              · have hjm : j = n := by omega
                subst hjm
                have HIN : Hid (IntsIn (fun b => V3.heap.size ≤ b) wr (.slice aC j cC) (bitsI (r >>> O))) := by
                  have h1 := HC.out
                  rw [← HN2.out, List.take_length, HDN.out] at h1
                  have h2 := slice_of_owns (S := fun b => V3.heap.size ≤ b) h1 (fun b h _ => h)
                  rw [HN2.out] at h2
                  exact h2
                have HO5 : Hid (wr.ownsRow W3.heap.size 39 1 (.slice aL M cL) M vs) := HO.out.1.kept (Below.grownBy HJ.out.2) (by cases (Value.slice aL M cL).ownBlock <;> simp)
                clear HC hcs
                go_upto_region 14 with (first
                  | (at_builtin; refine wpList_append_slice rfl (.tmp 94) (.tmp 96) 22 rfl W3.heap.size 39 i2 (.slice none 0 0) 24 Tryz.underlying22 hi2 hx0 hx1 hx2 rfl _ _ _ rfl (HO5.out.alloc _) _ [.slice aC j cC] rfl (slice_one _ _ _) (by simp [Value.oneCell']) (by simp; omega) (by unfold maxLen; simp; omega) (by have := HJ.out.2.size; have := HK.out.2.2.2.size; simp; omega) ?_; intro v6 w6 hown6 hg6 hl6; replace hown6 : w6.ownsRow W3.heap.size 39 1 v6 (M + 1) (vs ++ [.slice aC j cC]) := hown6; obtain ⟨a6, c6, rfl⟩ := own_form hown6)
                  | fail)
                have HE6 : Hid ((L ++ [r >>> O]).length ≤ k + 1 ∧ OwnRows W3.heap.size w6 (.slice a6 (M + 1) c6) ((L ++ [r >>> O]).map bitsI) ∧ Below W3.heap.size W3 w6) := by
                  have hlow : ∀ i', (Value.slice aL M cL).ownBlock = some i' → W3.heap.size ≤ i' ∧ i' < V3.heap.size := fun i' hi' => HO.out.1.lt i' hi'
                  have hb3 : Below W3.heap.size W3 wr := HK.out.2.2.2.trans (HJ.out.2.mono HK.out.2.2.2.size)
                  have hLM := HLM.out
                  refine ⟨by simp; omega, ?_, (hb3.alloc hb3.size _).grown hg6 (by have := hb3.size; simp; omega) (fun i hi => (hlow i hi).1)⟩
                  rw [List.map_append]
                  exact OwnRows.push (by rw [List.length_map, hLM]; exact HO5.out) (fun q u x hu hx => (HO.out.2 q u x hu hx).below HJ.out.2) (SliceIn.mono HIN.out (fun b _ hb => ⟨by have h9 : V3.heap.size ≤ b := hb; have := HK.out.2.2.2.size; omega, fun e => by have h9 : V3.heap.size ≤ b := hb; have := (hlow b e.symm).2; omega⟩)) (by rw [List.length_map, hLM]; exact hown6) hg6 hl6
                clear hown6 hg6 hl6 HO5 HO HK HJ HIN p0 g1
                go_wp2_with fail
                go_roundw
                case rel => exact ⟨k + 1, L ++ [r >>> O], by omega, by go_num, HEC.out.symm, HE6.out⟩
                case measure => simp [intOf]; omega
        · have hkm : k = m := by omega
          subst hkm
          have HE9 : Hid (OwnRows w.heap.size wr (.slice aL M cL) ((cocR all d).map bitsI) ∧ Below w.heap.size w wr) := by
            have h1 := HK.out.2.2.1
            rw [HK.out.1, HOE.out] at h1
            exact ⟨h1.lower HE.out.2.size, HE.out.2.trans (HK.out.2.2.2.mono HE.out.2.size)⟩
          clear HK HO
          go_wp2_with fail
          go_ret
          exact ⟨_, rfl, HE9.out⟩

end Go.Proofs.YtldknhganoiajaaGreatDoor
