/- The walk of deltas. -/
import Derived.Test.YtldknhganoiajaaGreatDoorCupDelta
namespace Go.Proofs.YtldknhganoiajaaGreatDoor
open Go.RowKit Go.Sort Go.Maps Go.Deep

theorem Tryz.inforow : (Tryz.prog.info? 68).map (fun i => (i.zero, i.size, i.bytes)) = some (some (.slice none 0 0), 1, 24) := by kernel_rfl
/-- What deltas answers. -/
def DlSays (n M : Nat) (xs : Nat → Nat) (w : World) (e : Ending) (w' : World) : Prop :=
  ∃ G us, e = .returned (.slice (some ⟨G, 0, none⟩) M M) ∧ DlAt w.heap.size n M w' G us M xs ∧ Below w.heap.size w w'
theorem erase_txt (x : List Int) (j : Nat) : (txt x).eraseIdx j = txt (x.eraseIdx j) := by
  unfold txt
  rw [List.eraseIdx_eq_take_drop_succ, List.eraseIdx_eq_take_drop_succ, List.map_append, List.map_take, List.map_drop]

theorem ite_same {i i0 : Nat} {A : Nat → Nat} {c X : Nat} (h : X = if i = i0 then A i ^^^ c else A i) : X = if i = i0 then A i0 ^^^ c else A i := by
  rw [h]
  by_cases e : i = i0
  · subst e; rfl
  · rw [if_neg e, if_neg e]

set_option maxRecDepth 100000 in
set_option maxHeartbeats 2000000 in
theorem deltas_ {l all : List (List Int)} (hg : Good l all) (h60 : all.length ≤ 60) (v : Value) (d : Nat) (hd : d ≤ 100) (w : World) (h : ShapeAt w v all) :
    Calls Tryz.prog 52 #[v, .int .i64 (d : Int)] w fun e w' => DlSays (ofDim all ((d + 1 : Nat) : Int)).length (ofDim all (d : Int)).length (fun i => dM all d i) w e w' := by
  have h7 : topN all ≤ 7 := topN_upto hg.short
  have HG := Hid.mk' hg
  have hn6 : (ofDim all ((d + 1 : Nat) : Int)).length ≤ 60 := Nat.le_trans (ofDim_length _ _) h60
  have hm6 : (ofDim all (d : Int)).length ≤ 60 := Nat.le_trans (ofDim_length _ _) h60
  have hh := h
  obtain ⟨vF, g, L, rfl, hF, hL, hN⟩ := h
  obtain ⟨aF, cF, rfl, hx⟩ := hF.open_
  rw [facesT_len] at hx hh ⊢
  have hB1 : Below w.heap.size w (w.alloc (.cells #[.slice aF (topN all) cF, .map (some g)] 46)) := (Below.refl _ w).alloc (Nat.le_refl _) _
  have q1 := cells_two w (.slice aF (topN all) cF) (.map (some g)) 46
  obtain ⟨W1, hW1⟩ : ∃ W1, w.alloc (.cells #[.slice aF (topN all) cF, .map (some g)] 46) = W1 := ⟨_, rfl⟩
  have hz1 : W1.heap.size = w.heap.size + 1 := by rw [← hW1]; simp
  have hbx : w.heap.size < W1.heap.size := by omega
  have c0 := q1.1.1
  have c1 := q1.1.2
  rw [hW1] at hB1 c0 c1
  obtain ⟨T, hT⟩ : ∃ T, topN all = T := ⟨_, rfl⟩
  have HT := Hid.mk' hT
  have HW1 := Hid.mk' hW1
  rw [hT] at h7 hx hh c0 HW1 ⊢
  have HS : Hid (∀ V, Below W1.heap.size W1 V → ShapeAt V (.agg #[.slice aF T cF, .map (some g)]) all ∧ V.cell? ⟨w.heap.size, 0, none⟩ = some (.slice aF T cF) ∧ V.cell? ⟨w.heap.size, 1, none⟩ = some (.map (some g)) ∧ NumAt V g all L ∧ TextRows V (.slice aF T cF) (facesT all)) := fun V hV => by
    have hw : Below w.heap.size w V := hB1.trans (hV.mono hB1.size)
    have hFF := hF.below hw
    rw [facesT_len, hT] at hFF
    exact ⟨hh.below hw, (hV.cell (p := ⟨w.heap.size, 0, none⟩) hbx).trans c0, (hV.cell (p := ⟨w.heap.size, 1, none⟩) hbx).trans c1, hN.below hw, hFF⟩
  have HCT : Hid (∀ (V : World), Below W1.heap.size W1 V → Calls Tryz.prog 50 #[.agg #[.slice aF T cF, .map (some g)], .int .i64 (d : Int)] V (fun e w' => e = .returned (.int .i64 ((ofDim all (d : Int)).length : Int)) ∧ Below V.heap.size V w') ∧ Calls Tryz.prog 50 #[.agg #[.slice aF T cF, .map (some g)], .int .i64 ((d : Int) + 1)] V (fun e w' => e = .returned (.int .i64 ((ofDim all ((d + 1 : Nat) : Int)).length : Int)) ∧ Below V.heap.size V w')) := fun V hV =>
    ⟨count_ _ all d (by omega) (by omega) V (HS.out V hV).1, count_ _ all (d + 1) (by omega) (by omega) V (HS.out V hV).1⟩
  obtain ⟨M, hM⟩ : ∃ M, (ofDim all (d : Int)).length = M := ⟨_, rfl⟩
  obtain ⟨n, hn⟩ : ∃ n, (ofDim all ((d + 1 : Nat) : Int)).length = n := ⟨_, rfl⟩
  have HM := Hid.mk' hM
  have HN := Hid.mk' hn
  rw [hM] at hm6 HCT ⊢
  rw [hn] at hn6 HCT ⊢
  have hct := (HCT.out W1 (Below.refl _ _)).1
  have HB1 := Hid.mk' hB1
  have HLL := Hid.mk' hL
  clear hx hh hF hN hL q1 hW1 hT hB1 hg hM hn c0 c1
  go_enter Tryz.func52, Tryz.ntmps52
  go_upto_region 1 with fail
  rw [HW1.out]
  have b0 := (HS.out W1 (Below.refl _ _)).2.1
  have b1 := (HS.out W1 (Below.refl _ _)).2.2.1
  go_wp2_with fail
  refine hct.mono ?_
  clear hct
  rintro e V1 ⟨rfl, hV1⟩
  have hmk : (Instr.makeSlice 50 (.int .i64 (M : Int)) (.int .i64 (M : Int))).run Tryz.prog V1 = .ok (.slice (some ⟨V1.heap.size, 0, none⟩) M M) (V1.alloc (.cells (madeCells #[.slice none 0 0] M) 68)) := run_make_row' (P := Tryz.prog) 50 68 (.slice none 0 0) 24 Tryz.underlying50 Tryz.inforow rfl .i64 .i64 M (by omega) (by omega) V1
  have HD0 : Hid (DlAt W1.heap.size n M (V1.alloc (.cells (madeCells #[.slice none 0 0] M) 68)) V1.heap.size (fun _ => .slice none 0 0) 0 (fun _ => 0) ∧ Below W1.heap.size W1 (V1.alloc (.cells (madeCells #[.slice none 0 0] M) 68))) :=
    ⟨⟨(World.rowIs_made V1 (.slice none 0 0) M 68).congr (fun i _ => by simp), fun i hi => absurd hi (Nat.not_lt_zero _), fun _ i j hi => absurd hi (Nat.not_lt_zero _), hV1.size⟩, hV1.alloc hV1.size _⟩
  obtain ⟨G, hGG⟩ : ∃ G, V1.heap.size = G := ⟨_, rfl⟩
  obtain ⟨X, hX⟩ : ∃ X, V1.alloc (.cells (madeCells #[.slice none 0 0] M) 68) = X := ⟨_, rfl⟩
  rw [hGG, hX] at HD0 hmk
  clear hGG hX hV1
  go_wp2_with fail
  go_loopw [18] (fun p W => ∃ (k : Nat) (us : Nat → Value), k ≤ M ∧ p = .int .i64 (k : Int) ∧ Hid (DlAt W1.heap.size n M W G us k (fun _ => 0) ∧ Below W1.heap.size W1 W)) (fun p _ => M - (intOf p).toNat)
  case atStart => exact ⟨0, _, by omega, rfl, HD0.out⟩
  case round =>
    obtain ⟨k, us, hk, rfl, HR⟩ := hrel
    clear HD0 b0 b1
    by_cases hlt : k < M
    · have hc2 := (HCT.out wr HR.out.2).2
      have b0 := (HS.out wr HR.out.2).2.1
      have b1 := (HS.out wr HR.out.2).2.2.1
      go_wp2_with fail
      refine hc2.mono ?_
      clear hc2
      rintro e V2 ⟨rfl, hV2⟩
      have hnr := newRow_ n hn6 V2
      have HV2 := Hid.mk' hV2
      clear hV2
      go_wp2_with fail
      refine hnr.mono ?_
      clear hnr
      rintro e V3 ⟨u, rfl, hu, hV3⟩
      have hB3 : Below wr.heap.size wr V3 := HV2.out.trans (hV3.mono HV2.out.size)
      have hD3 := HR.out.1.below hB3
      have hcl := hD3.outer.cell hlt
      have hfz := hD3.outer.frozen k
      rw [if_neg (Nat.lt_irrefl _)] at hcl
      have HE : Hid (DlAt W1.heap.size n M (V3.setCell ⟨G, k, none⟩ u) G (fun i => if i = k then u else us i) (k + 1) (fun _ => 0) ∧ Below W1.heap.size W1 (V3.setCell ⟨G, k, none⟩ u)) :=
        ⟨HR.out.1.more hB3 (hu.mono (fun b _ hb => by have := HV2.out.size; omega)) rfl, (HR.out.2.trans (hB3.mono HR.out.2.size)).setCell (p := ⟨G, k, none⟩) HR.out.1.base _⟩
      obtain ⟨au, mu, cu, rfl⟩ := hu.form
      clear hu hV3 hB3 hD3
      go_wp2_with fail
      go_roundw
      case rel => exact ⟨k + 1, _, by omega, by go_num, HE.out⟩
      case measure => simp [intOf]; omega
    · have hkm : k = M := by omega
      subst hkm
      have hc2 := (HCT.out wr HR.out.2).2
      have b0 := (HS.out wr HR.out.2).2.1
      have b1 := (HS.out wr HR.out.2).2.2.1
      go_wp2_with fail
      refine hc2.mono ?_
      clear hc2
      rintro e V2 ⟨rfl, hV2⟩
      have HV2 : Hid (DlAt W1.heap.size n k V2 G us k (fun i => dSt all d 0 0 i) ∧ Below W1.heap.size W1 V2) := ⟨(HR.out.1.below hV2).congr (fun i _ => (dSt_zero all d i).symm), HR.out.2.trans (hV2.mono HR.out.2.size)⟩
      clear hV2 HR b0 b1
      go_wp2_with fail
      go_loopw [34] (fun p W => ∃ (q : Nat), q ≤ n ∧ p = .int .i64 (q : Int) ∧ Hid (DlAt W1.heap.size n k W G us k (fun i => dSt all d q 0 i) ∧ Below W1.heap.size W1 W)) (fun p _ => n - (intOf p).toNat)
      case atStart => exact ⟨0, by omega, rfl, HV2.out⟩
      case round =>
        obtain ⟨q, hq, rfl, HR⟩ := hrel
        clear HV2
        by_cases hlq : q < n
        · have hqf : q < (ofDim all ((d + 1 : Nat) : Int)).length := by rw [HN.out]; exact hlq
          have hdT : d + 1 < T := by
            rcases Nat.lt_or_ge (d + 1) T with h | h
            · exact h
            · rw [ofDim_above (by rw [HT.out]; exact h)] at hqf; simp at hqf
          obtain ⟨hxm, hxl⟩ := faceD_mem hqf
          have hxs := HG.out.short _ hxm
          obtain ⟨x, hx⟩ : ∃ x, faceD all (d + 1) q = x := ⟨_, rfl⟩
          have HX := Hid.mk' hx
          have HRS := Hid.mk' (HS.out wr HR.out.2)
          obtain ⟨a', c', e', hcs⟩ := HRS.out.2.2.2.2.open_
          rw [facesT_len, HT.out] at e' hcs
          cases e'
          obtain ⟨bF, oF, rfl, -, hcs2⟩ := hcs (by omega)
          obtain ⟨a2, c2, g1, hcs3⟩ := hcs2 (d + 1) hdT
          rw [facesT_get (by rw [HT.out]; exact hdT), List.length_map, HN.out] at g1 hcs3
          obtain ⟨b2, o2, rfl, -, hcs4⟩ := hcs3 (by omega)
          have g2 := hcs4 q hlq
          rw [show ((ofDim all ((d + 1 : Nat) : Int)).map txt)[q]?.getD [] = txt x by rw [← hx]; unfold faceD; rw [List.getElem?_map, List.getElem?_eq_getElem hqf]; rfl] at g2
          obtain ⟨sx, hsx⟩ : ∃ sx : ByteArray, (⟨(txt x).toArray⟩ : ByteArray) = sx := ⟨_, rfl⟩
          have hsz : sx.size = x.length := by rw [← hsx]; simp [ByteArray.size, txt]
          have hes : encStr (txt x) = .string sx := by rw [← hsx, encStr]
          rw [hes] at g2
          have HSX := Hid.mk' hsx
          rw [hx] at hxl hxs hxm
          have HXM := Hid.mk' hxm
          obtain ⟨m, hm⟩ : ∃ m, x.length = m := ⟨_, rfl⟩
          have HMM := Hid.mk' hm
          rw [hm] at hsz hxl hxs
          have HXL := Hid.mk' hxl
          have b0 := HRS.out.2.1
          have b1 := HRS.out.2.2.1
          have hd1 : ((d + 1 : Nat) : Int) = (d : Int) + 1 := by omega
          have z3 : (0 : Int) ≤ (d : Int) + 1 := by omega
          have z4 : (d : Int) + 1 < (T : Int) := by omega
          have z5 : ((d : Int) + 1).toNat = d + 1 := by omega
          clear hcs hcs2 hcs3 hcs4 hsx hes hx hm hxm hxl hd1
          go_wp2_with fail
          go_loopw [48] (fun p W => ∃ (j : Nat), j ≤ m ∧ p = .int .i64 (j : Int) ∧ Hid (DlAt W1.heap.size n k W G us k (fun i => dSt all d q j i) ∧ Below W1.heap.size W1 W)) (fun p _ => m - (intOf p).toNat)
          case atStart => exact ⟨0, by omega, rfl, HR.out⟩
          case round =>
            obtain ⟨j, hj, rfl, HJ⟩ := hrel
            clear HRS b0 b1 g1 g2
            by_cases hjm : j < m
            · have hjx : j < x.length := by rw [HMM.out]; exact hjm
              have hel : (x.eraseIdx j).length = d + 1 := by rw [List.length_eraseIdx_of_lt hjx, HMM.out]; have := HXL.out; omega
              have hem : x.eraseIdx j ∈ all := part_in HG.out HXM.out (List.eraseIdx_sublist _ _) (fun e => by rw [e] at hel; simp at hel)
              obtain ⟨q1, q2⟩ := idxF_lt HG.out hem hel
              rw [HM.out] at q1
              have hst : ∀ i, i < k → dSt all d q (j + 1) i = if i = idxF all (x.eraseIdx j) then dSt all d q j i ^^^ 2 ^ q else dSt all d q j i := fun i hi => by
                have := dSt_step HG.out (d := d) (k := q) (j := j) (i := i) hqf (by rw [HX.out]; exact hjx) (by rw [HM.out]; exact hi)
                rw [HX.out] at this
                exact this
              have HST := Hid.mk' hst
              have hdw : Below wr.heap.size wr wr.drew := (Below.refl _ wr).drew
              have HJD := Hid.mk' (And.intro (HJ.out.1.below hdw) (HJ.out.2.trans (hdw.mono HJ.out.2.size)))
              obtain ⟨D, d1, d2⟩ := (HS.out wr.drew HJD.out.2).2.2.2.1
              obtain ⟨cn, hrun, hat, -⟩ := d1.lookup_int (t := 44) law_string Tryz.underlying44 Tryz.underlying3 (zero_int _) (key_of (txt (x.eraseIdx j)) (by rw [txt_len, hel]; unfold maxLen; omega))
              have hat2 := d2 _ (HLL.out _ hem)
              rw [hat2] at hat
              cases hat
              obtain ⟨i0, hi0⟩ : ∃ i0, idxF all (x.eraseIdx j) = i0 := ⟨_, rfl⟩
              rw [hi0] at hrun q1 HST
              have hcat : sx.extract 0 j ++ sx.extract (j + 1) m = ⟨(txt (x.eraseIdx j)).toArray⟩ := by
                have := erase_text (txt x) j
                rw [txt_len, HMM.out, HSX.out, erase_txt] at this
                exact this
              obtain ⟨s2, hs2⟩ : ∃ s2 : ByteArray, (⟨(txt (x.eraseIdx j)).toArray⟩ : ByteArray) = s2 := ⟨_, rfl⟩
              rw [hs2] at hcat
              have hkk : encStr (txt (x.eraseIdx j)) = .string s2 := by rw [← hs2, encStr]
              rw [hkk] at hrun
              have hadd : ∀ W, (Op.stringOp .add (sx.extract 0 j) (sx.extract (j + 1) m)).run Tryz.prog W = .ok (.string s2) W := fun W => by rw [← hcat]; exact run_string_add_sum W _ _ (by simp; omega)
              have hwi := HJD.out.1.word i0 q1
              obtain ⟨ai, mi, ci, hui⟩ := hwi.form
              have hcl := HJ.out.1.outer.cell (show i0 < k from q1)
              rw [if_pos q1, hui] at hcl
              have hfl := flip_ (us i0) n _ q wr.drew hwi hlq
              rw [hui] at hfl
              have HUI := Hid.mk' hui
              have b1 := (HS.out wr HJ.out.2).2.2.1
              have z0 : (0 : Int) ≤ (i0 : Int) := by omega
              have z1 : (i0 : Int) < (k : Int) := by omega
              have z6 : (j : Int) + 1 ≤ (m : Int) := by omega
              have z7 : j + 1 ≤ m := hjm
              have hwj : IntKind.i64.wrap ((j : Int) + 1) = (j : Int) + 1 := by simp [IntKind.wrap, IntKind.signed, IntKind.bits]; omega
              have z8 : (0 : Int) ≤ (j : Int) + 1 := by omega
              have z9 : ((j : Int) + 1).toNat = j + 1 := by omega
              have HQ1 := Hid.mk' q1
              have HDW := Hid.mk' hdw
              clear hst hem hel d1 d2 hat2 hcat hs2 hkk hwi hui hi0 q2 hjx hdw
              go_wp2_with fail
              go_region_with (go_at_call 61; refine hfl.mono ?_; rintro e V4 ⟨rfl, hV1, hV2, hV3⟩)
              all_goals (
                have HE : Hid (DlAt W1.heap.size n k V4 G us k (fun i => dSt all d q (j + 1) i) ∧ Below W1.heap.size W1 V4) := by
                  rw [← HUI.out] at hV1 hV2
                  refine ⟨(HJD.out.1.flip (by omega) HQ1.out hV1 hV2).congr (fun i hi => (ite_same (HST.out i hi)).symm), HJD.out.2.grown hV2 HJD.out.2.size (fun b hb => (own_block_of (HJD.out.1.word i0 HQ1.out) hb (by omega)).1)⟩
                clear hV1 hV2 hV3
                go_wp2_with fail
                go_roundw
                case rel => exact ⟨j + 1, by omega, by go_num, HE.out⟩
                case measure => simp [intOf]; omega)
            · have hje : j = m := by omega
              subst hje
              have HE : Hid (DlAt W1.heap.size n k wr G us k (fun i => dSt all d (q + 1) 0 i) ∧ Below W1.heap.size W1 wr) := by
                refine ⟨HJ.out.1.congr (fun i hi => ?_), HJ.out.2⟩
                have := dSt_end HG.out (d := d) (k := q) (i := i) hqf (by rw [HM.out]; exact hi)
                rw [HX.out, HMM.out] at this
                exact this
              clear HJ
              go_wp2_with fail
              go_roundw
              case rel => exact ⟨q + 1, by omega, by go_num, HE.out⟩
              case measure => simp [intOf]; omega
        · have hqn : q = n := by omega
          subst hqn
          have HE : Hid (DlAt w.heap.size q k wr G us k (fun i => dM all d i) ∧ Below w.heap.size w wr) := by
            refine ⟨?_, HB1.out.trans (HR.out.2.mono HB1.out.size)⟩
            have h1 := HR.out.1
            have h2 : DlAt w.heap.size q k wr G us k (fun i => dSt all d q 0 i) := ⟨h1.outer, fun i hi => (h1.word i hi).mono (fun b _ hb => ⟨by omega, hb.2⟩), h1.apart, by have := h1.base; omega⟩
            refine h2.congr (fun i _ => ?_)
            rw [← HN.out]
            exact dSt_full all d i
          go_wp2_with fail
          go_ret
          exact ⟨G, us, rfl, HE.out.1, HE.out.2⟩

end Go.Proofs.YtldknhganoiajaaGreatDoor
