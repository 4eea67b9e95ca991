/- CellsFaces answers true of whatever sets, dimension and face. -/
import Derived.Test.YtmbolgalgidleaaGreatDoorKinds
import Derived.Test.YtmbolgalgidleaaGreatDoorCounts
import Derived.Test.YtmbolgalgidleaaGreatDoorCx
import Derived.Test.YtmbolgalgidleaaGreatDoorCircleWalk
namespace Go.Proofs.YtmbolgalgidleaaGreatDoor
open Go.RowKit Go.Sort Go.Maps Go.Deep

/-- What ComplexError answers, with the error's value. -/
theorem error_k (CL : ClosedHolds) (a : Nat → Addr) (vl : Value) (l : List (List Int)) (w : World) (hl : Rows w vl l) (hll : l.length ≤ 100000) (hle : ∀ x ∈ l, x.length ≤ 1000) :
    Calls Tryz.prog 8 #[vl] w fun e w' => Below w.heap.size w w' ∧ ∃ ve n all, Kind a l ve n all ∧ e = .returned (.int .i64 n) ∧ (((n == 0) = false ∧ all = []) ∨ (n = 0 ∧ Good l all)) := by
  refine (error_g CL vl l w hl hll hle).mono ?_
  rintro e w' ⟨hB, ⟨i, hb, rfl⟩ | ⟨all, g, rfl⟩⟩
  · exact ⟨hB, _, _, [], .inl ⟨i, hb, rfl, rfl, rfl⟩, rfl, .inl ⟨beq_false_of_ne (by omega), rfl⟩⟩
  · exact ⟨hB, _, _, all, .inr ⟨g, rfl, rfl⟩, rfl, .inr ⟨rfl, g⟩⟩

theorem ofDim_small {a : Nat → Addr} {l all : List (List Int)} {ve : Value} {n : Int} (h : Kind a l ve n all) (dim : Int) : (ofDim all dim).length ≤ 1000000 ∧ ∀ x ∈ ofDim all dim, x.length ≤ 1000000 := by
  have h1 := ofDim_length all dim
  have h2 := h.length
  refine ⟨by omega, fun x hx => ?_⟩
  have := h.short x (List.mem_filter.1 hx).1
  omega
theorem ints_put {W : World} {base : Nat} {t : TypeId} {v : Value} {x : List Int} (h : W.ownsRow base t 1 v (0 + (x.map (Value.int .i64)).length) ([] ++ x.map (Value.int .i64))) : Ints W v x := by
  have := slice_of_owns (S := anyBlock) h (fun _ _ _ => trivial)
  rw [List.nil_append] at this
  exact this

set_option maxRecDepth 100000 in
set_option maxHeartbeats 8000000 in
theorem faces_law (CL : ClosedHolds) {a : Nat → Addr} {s : Nat → ByteArray} (vc vf : Value) (c : List (List Int)) (f : List Int) (dim : Int) (w : World) (hE : Errs a s w) (hc : Rows w vc c) (hf : Ints w vf f) :
    Calls Tryz.prog 3 #[vc, .int .i64 dim, vf] w fun e w' => e = .returned (.bool true) ∧ Below w.heap.size w w' := by
  obtain ⟨j0, hj0, hy0, hy1, hy2⟩ := info_parts Tryz.info3
  have hci := circle_ w hE
  have HR : Hid (Rows w vc c) := hc
  have HF : Hid (Ints w vf f) := hf
  obtain ⟨af, cf, rfl, -, -⟩ := hf.open_
  clear hc hf
  go_enter Tryz.func3, Tryz.ntmps3
  go_wp2_with fail
  refine hci.mono ?_
  clear hci
  rintro e w1 ⟨rfl, hB1⟩
  have hli := little_ CL vc c 250 w1 (HR.out.below hB1)
  go_wp2_with fail
  refine hli.mono ?_
  clear hli
  rintro e w2 ⟨q, rfl, hB2, hq⟩
  have HB2 : Hid (Below w.heap.size w w2) := hB1.trans (hB2.mono hB1.size)
  cases q with
  | false =>
    clear hq
    go_wp2
    go_ret
    exact ⟨rfl, HB2.out⟩
  | true =>
    have hb := hq rfl
    have hb1 : c.length ≤ 100000 := by omega
    have hb2 : ∀ x ∈ c, x.length ≤ 1000 := fun x hx => by have := hb.2 x hx; omega
    clear hq hb
    by_cases h20 : 20 < f.length
    · go_wp2
      go_ret
      exact ⟨rfl, HB2.out⟩
    · have her := error_k CL a vc c w2 (HR.out.below HB2.out) hb1 hb2
      go_wp2_with fail
      refine her.mono ?_
      clear her
      rintro e w3 ⟨hB3, ve, n, all, hk, rfl, ⟨hn0, rfl⟩ | ⟨rfl, hg⟩⟩
      · have HB0 : Hid (Below w.heap.size w w3) := HB2.out.trans (hB3.mono HB2.out.size)
        have HK : Hid (Kind a c ve n []) := hk
        have HA : Hid (Rows w3 (.slice none 0 0) []) := rows_nil w3
        clear hk hB1 hB2 hB3 HB2
        have hE0 := hE.below HB0.out
        have HRc : Hid (Rows w3 vc c) := HR.out.below HB0.out
        have HFf : Hid (Ints w3 (.slice af f.length cf) f) := HF.out.below HB0.out
        have hl6 := HK.out.length
        have HS7 : Hid (∀ x ∈ ([] : List (List Int)), x.length ≤ 7) := HK.out.short
        clear hE HR HF
        have hcx := cx_ _ c _ HRc.out hb1 hb2
        go_wp2_with fail
        refine hcx.mono ?_
        clear hcx
        rintro e w4 ⟨v4, rfl, hr4, hB4⟩
        have HC4 : Hid (Below w3.heap.size w3 w4) := hB4
        have hfa := faces_k HK.out v4 dim w4 (hE0.below HC4.out) hr4 hb1 hb2
        clear hr4 hB4
        go_wp2_with fail
        refine hfa.mono ?_
        clear hfa
        rintro e w5 ⟨v5, rfl, hr5, hB5⟩
        have HC5 : Hid (Below w3.heap.size w3 w5) := HC4.out.trans (hB5.mono HC4.out.size)
        have HR5 : Hid (Rows w5 v5 (ofDim ([] : List (List Int)) dim)) := hr5
        have hod := of_dim _ ([] : List (List Int)) dim w5 (HA.out.below HC5.out) (by omega) (fun x hx => by have := HS7.out x hx; omega)
        clear hr5 hB5 HC4
        go_wp2_with fail
        refine hod.mono ?_
        clear hod
        rintro e w6 ⟨v6, rfl, hr6, hB6⟩
        have HC6 : Hid (Below w3.heap.size w3 w6) := HC5.out.trans (hB6.mono HC5.out.size)
        have hsm := ofDim_small HK.out dim
        have hsl := same_lists v5 v6 _ _ w6 (HR5.out.below hB6) hr6 hsm.1 hsm.2
        rw [decide_eq_true rfl] at hsl
        clear hsm hr6 hB6 HR5 HC5
        go_wp2_with fail
        refine hsl.mono ?_
        clear hsl
        rintro e w7 ⟨rfl, q7, hw7⟩
        have HC7 : Hid (Below w3.heap.size w3 w7) := by
          show Below w3.heap.size w3 w7
          rw [hw7]
          exact HC6.out.trans ⟨rfl, rfl, rfl, Nat.le_refl _, fun _ _ => rfl⟩
        have hco := coded_k HK.out w7 (hE0.below HC7.out)
        clear hw7 HC6
        go_wp2_with fail
        refine hco.mono ?_
        clear hco
        rintro e w8 ⟨rfl, hB8⟩
        have HC8 : Hid (Below w3.heap.size w3 w8) := HC7.out.trans (hB8.mono HC7.out.size)
        have hcx := cx_ _ c _ (HRc.out.below HC8.out) hb1 hb2
        clear hB8 HC7
        go_wp2_with fail
        refine hcx.mono ?_
        clear hcx
        rintro e w9 ⟨v9, rfl, hr9, hB9⟩
        have HC9 : Hid (Below w3.heap.size w3 w9) := HC8.out.trans (hB9.mono HC8.out.size)
        have hve := vector_k HK.out v9 w9 (hE0.below HC9.out) hr9 hb1 hb2
        clear hr9 hB9 HC8
        go_wp2_with fail
        refine hve.mono ?_
        clear hve
        rintro e w10 ⟨v10, rfl, hi10, hB10⟩
        have HC10 : Hid (Below w3.heap.size w3 w10) := HC9.out.trans (hB10.mono HC9.out.size)
        have HI10 : Hid (Ints w10 v10 (vecOf ([] : List (List Int)))) := hi10
        obtain ⟨a10, c10, e10, -, -⟩ := hi10.open_
        obtain ⟨T, hT⟩ : ∃ T, topN ([] : List (List Int)) = T := ⟨_, rfl⟩
        have hT7 : T ≤ 7 := by rw [← hT]; exact topN_upto HS7.out
        rw [vecOf_length, hT] at e10
        subst e10
        have HT : Hid (topN ([] : List (List Int)) = T) := hT
        have hco := coded_k HK.out w10 (hE0.below HC10.out)
        clear hi10 hB10 HC9 hT
        go_wp2_with fail
        refine hco.mono ?_
        clear hco
        rintro e w11 ⟨rfl, hB11⟩
        have HC11 : Hid (Below w3.heap.size w3 w11) := HC10.out.trans (hB11.mono HC10.out.size)
        have HI11 : Hid (Ints w11 (.slice a10 T c10) (vecOf ([] : List (List Int)))) := HI10.out.below hB11
        have hto := top_of _ ([] : List (List Int)) w11 (HA.out.below HC11.out) (by omega) (fun x hx => by have := HS7.out x hx; omega)
        rw [HT.out] at hto
        clear hB11 HC10 HI10
        go_wp2_with fail
        refine hto.mono ?_
        clear hto
        rintro e w12 ⟨rfl, rfl⟩
        go_wp2
        go_loopw [15] (fun p W => ∃ d : Nat, d ≤ T ∧ p = .int .i64 d ∧ Below w3.heap.size w3 W ∧ Ints W (.slice a10 T c10) (vecOf ([] : List (List Int)))) (fun p _ => T - (intOf p).toNat)
        case atStart => exact ⟨0, by omega, rfl, HC11.out, HI11.out⟩
        case round =>
          obtain ⟨d, hd, rfl, hCr, hIr⟩ := hrel
          have HCr : Hid (Below w3.heap.size w3 wr) := hCr
          have HIr : Hid (Ints wr (.slice a10 T c10) (vecOf ([] : List (List Int)))) := hIr
          by_cases hdT : d < T
          · have hgv : (vecOf ([] : List (List Int)))[d]?.getD 0 = (cnt ([] : List (List Int)) d : Int) := by rw [vecOf_get _ d (by rw [HT.out]; exact hdT), Option.getD_some]
            obtain ⟨av, cv, ev, -, hcv⟩ := hIr.open_
            have hvl : (vecOf ([] : List (List Int))).length = T := by rw [vecOf_length]; exact HT.out
            rw [hvl] at ev hcv
            cases ev
            obtain ⟨bv, ov, rfl, -, hbv, cv⟩ := hcv (by omega)
            have g := cv d hdT
            rw [hgv] at g
            have hml : (ofDim ([] : List (List Int)) (d : Int)).length = cnt ([] : List (List Int)) d := cnt_filter ([] : List (List Int)) d
            have hm6 : cnt ([] : List (List Int)) d ≤ 1000 := by have := cnt_le ([] : List (List Int)) d; omega
            obtain ⟨m, hm⟩ : ∃ m, cnt ([] : List (List Int)) d = m := ⟨_, rfl⟩
            rw [hm] at g hml hm6
            have HM : Hid ((ofDim ([] : List (List Int)) (d : Int)).length = m) := hml
            have hn0 : (0 : Int) ≤ (d : Int) := by omega
            have hn1 : (d : Int) < (T : Int) := by omega
            clear hgv hvl hcv cv hml hm hIr hCr
            go_wp2_with fail
            go_region_held3 (fun W => W.cell? ⟨bv, ov + d, none⟩ = some (.int .i64 m)) (go_keep) ((go_at_call 13; refine (of_dim _ ([] : List (List Int)) (d : Int) _ ?_ ?_ ?_).mono ?_; exact HA.out.below HCr.out.drew; omega; exact (fun x hx => Nat.le_trans (HS7.out x hx) (by decide)); rintro e w13 ⟨v13, rfl, hr13, hB13⟩; obtain ⟨a13, c13, e13, -, -⟩ := hr13.open_; rw [HM.out] at e13; subst e13; have cb : w13.cell? ⟨bv, ov + d, none⟩ = some (.int .i64 m) := (hB13.cell (p := ⟨bv, ov + d, none⟩) hbv).trans g; have HB13 : Hid (Below wr.heap.size wr w13) := (show Below wr.heap.size wr w13 from (Below.refl wr.heap.size wr).drew.trans hB13); clear hr13 hB13))
            all_goals go_wp2
            all_goals go_roundw
            all_goals first
              | (go_light; exact ⟨d + 1, hdT, by go_num, HCr.out.trans (HB13.out.mono HCr.out.size), HIr.out.below HB13.out⟩)
              | (go_light; simp [intOf]; omega)
          · obtain rfl : d = T := by omega
            clear hIr hCr HC11 HI11
            have hcx := cx_ _ c _ (HRc.out.below HCr.out) hb1 hb2
            go_wp2_with fail
            refine hcx.mono ?_
            clear hcx
            rintro e w14 ⟨v14, rfl, hr14, hB14⟩
            have HC14 : Hid (Below w3.heap.size w3 w14) := HCr.out.trans (hB14.mono HCr.out.size)
            have heu := euler_k HK.out v14 w14 (hE0.below HC14.out) hr14 hb1 hb2
            clear hr14 hB14
            go_wp2_with fail
            refine heu.mono ?_
            clear heu
            rintro e w15 ⟨rfl, hB15⟩
            have HC15 : Hid (Below w3.heap.size w3 w15) := HC14.out.trans (hB15.mono HC14.out.size)
            have hco := coded_k HK.out w15 (hE0.below HC15.out)
            clear hB15 HC14
            go_wp2_with fail
            refine hco.mono ?_
            clear hco
            rintro e w16 ⟨rfl, hB16⟩
            have HC16 : Hid (Below w3.heap.size w3 w16) := HC15.out.trans (hB16.mono HC15.out.size)
            have heo := euler_of _ ([] : List (List Int)) w16 (HA.out.below HC16.out) (by omega) (fun x hx => by have := HS7.out x hx; omega)
            clear hB16 HC15
            go_wp2_with fail
            refine heo.mono ?_
            clear heo
            rintro e w17 ⟨rfl, hw17⟩
            have HC17 : Hid (Below w3.heap.size w3 w17) := by
              show Below w3.heap.size w3 w17
              rw [hw17]; exact HC16.out
            have hcx := cx_ _ c _ (HRc.out.below HC17.out) hb1 hb2
            clear hw17 HC16
            go_wp2_with fail
            refine hcx.mono ?_
            clear hcx
            rintro e w18 ⟨v18, rfl, hr18, hB18⟩
            have HC18 : Hid (Below w3.heap.size w3 w18) := HC17.out.trans (hB18.mono HC17.out.size)
            have HR18 : Hid (Rows w18 v18 c) := hr18
            have hIf : Ints (w18.alloc (.cells #[] 3)) (.slice af f.length cf) f := (HFf.out.below HC18.out).below ((Below.refl _ w18).alloc (Nat.le_refl _) _)
            clear hr18 hB18 HC17
            go_wp2_with (first
              | (at_builtin; refine wpList_append_slice rfl (.tmp 114) (.tmp 115) 23 rfl w18.heap.size 3 j0 (.int .i64 0) 8 Tryz.underlying23 hj0 hy0 hy1 hy2 rfl _ _ _ rfl (own_empty w18 3 w18.heap.size (Nat.le_refl _)) _ (f.map (Value.int .i64)) rfl hIf (ints_one f) (by simp; omega) (by unfold maxLen; simp; omega) (by simp) ?_; intro v19 w19 hown19 hg19 hl19)
              | fail)
            have HI19 : Hid (Ints w19 v19 f) := ints_put hown19
            have HB19 : Hid (Below w18.heap.size w18 w19) := ((Below.refl _ w18).alloc (Nat.le_refl _) _).grown hg19 (by simp) (fun j hj => by cases hj; exact Nat.le_refl _)
            have HC19 : Hid (Below w3.heap.size w3 w19) := HC18.out.trans (HB19.out.mono HC18.out.size)
            have hha := has_k HK.out v18 v19 f w19 (hE0.below HC19.out) (HR18.out.below HB19.out) hb1 hb2 HI19.out (by omega)
            clear hown19 hg19 hl19 hIf HR18 HC18 HI19 HB19
            go_wp2_with fail
            refine hha.mono ?_
            clear hha
            rintro e w20 ⟨rfl, hB20⟩
            have HC20 : Hid (Below w3.heap.size w3 w20) := HC19.out.trans (hB20.mono HC19.out.size)
            have hco := coded_k HK.out w20 (hE0.below HC20.out)
            clear hB20 HC19
            go_wp2_with fail
            refine hco.mono ?_
            clear hco
            rintro e w21 ⟨rfl, hB21⟩
            have HC21 : Hid (Below w3.heap.size w3 w21) := HC20.out.trans (hB21.mono HC20.out.size)
            have hio := index_of _ _ ([] : List (List Int)) f w21 (HA.out.below HC21.out) (HFf.out.below HC21.out) (by omega) (fun x hx => by have := HS7.out x hx; omega)
            clear hB21 HC20
            go_wp2_with fail
            refine hio.mono ?_
            clear hio
            rintro e w22 ⟨i, rfl, hi, -, q22, hw22⟩
            have HC22 : Hid (Below w3.heap.size w3 w22) := by
              show Below w3.heap.size w3 w22
              rw [hw22]
              exact HC21.out.trans ⟨rfl, rfl, rfl, Nat.le_refl _, fun _ _ => rfl⟩
            have hneg : i < 0 := by
              rcases Int.lt_or_le i 0 with h | h
              · exact h
              · exact absurd (hi.1 h) (by simp)
            clear hw22 HC21 hi
            go_wp2
            go_ret
            exact ⟨by simp [hneg], HB0.out.trans (HC22.out.mono HB0.out.size)⟩
      · have HB3 : Hid (Below w.heap.size w w3) := HB2.out.trans (hB3.mono HB2.out.size)
        have hcl := closed_g CL vc c all w3 (HR.out.below HB3.out) hb1 hb2 hg
        have HK : Hid (Kind a c ve 0 all) := hk
        clear hk hg hB1 hB2 hB3 HB2
        go_wp2_with fail
        refine hcl.mono ?_
        clear hcl
        rintro e w3 ⟨vall, rfl, hra, hBc⟩
        have HB0 : Hid (Below w.heap.size w w3) := HB3.out.trans (hBc.mono HB3.out.size)
        have HA : Hid (Rows w3 vall all) := hra
        clear hra hBc HB3
        have hE0 := hE.below HB0.out
        have HRc : Hid (Rows w3 vc c) := HR.out.below HB0.out
        have HFf : Hid (Ints w3 (.slice af f.length cf) f) := HF.out.below HB0.out
        have hl6 := HK.out.length
        have HS7 : Hid (∀ x ∈ all, x.length ≤ 7) := HK.out.short
        clear hE HR HF
        have hcx := cx_ _ c _ HRc.out hb1 hb2
        go_wp2_with fail
        refine hcx.mono ?_
        clear hcx
        rintro e w4 ⟨v4, rfl, hr4, hB4⟩
        have HC4 : Hid (Below w3.heap.size w3 w4) := hB4
        have hfa := faces_k HK.out v4 dim w4 (hE0.below HC4.out) hr4 hb1 hb2
        clear hr4 hB4
        go_wp2_with fail
        refine hfa.mono ?_
        clear hfa
        rintro e w5 ⟨v5, rfl, hr5, hB5⟩
        have HC5 : Hid (Below w3.heap.size w3 w5) := HC4.out.trans (hB5.mono HC4.out.size)
        have HR5 : Hid (Rows w5 v5 (ofDim all dim)) := hr5
        have hod := of_dim _ all dim w5 (HA.out.below HC5.out) (by omega) (fun x hx => by have := HS7.out x hx; omega)
        clear hr5 hB5 HC4
        go_wp2_with fail
        refine hod.mono ?_
        clear hod
        rintro e w6 ⟨v6, rfl, hr6, hB6⟩
        have HC6 : Hid (Below w3.heap.size w3 w6) := HC5.out.trans (hB6.mono HC5.out.size)
        have hsm := ofDim_small HK.out dim
        have hsl := same_lists v5 v6 _ _ w6 (HR5.out.below hB6) hr6 hsm.1 hsm.2
        rw [decide_eq_true rfl] at hsl
        clear hsm hr6 hB6 HR5 HC5
        go_wp2_with fail
        refine hsl.mono ?_
        clear hsl
        rintro e w7 ⟨rfl, q7, hw7⟩
        have HC7 : Hid (Below w3.heap.size w3 w7) := by
          show Below w3.heap.size w3 w7
          rw [hw7]
          exact HC6.out.trans ⟨rfl, rfl, rfl, Nat.le_refl _, fun _ _ => rfl⟩
        have hco := coded_k HK.out w7 (hE0.below HC7.out)
        clear hw7 HC6
        go_wp2_with fail
        refine hco.mono ?_
        clear hco
        rintro e w8 ⟨rfl, hB8⟩
        have HC8 : Hid (Below w3.heap.size w3 w8) := HC7.out.trans (hB8.mono HC7.out.size)
        have hcx := cx_ _ c _ (HRc.out.below HC8.out) hb1 hb2
        clear hB8 HC7
        go_wp2_with fail
        refine hcx.mono ?_
        clear hcx
        rintro e w9 ⟨v9, rfl, hr9, hB9⟩
        have HC9 : Hid (Below w3.heap.size w3 w9) := HC8.out.trans (hB9.mono HC8.out.size)
        have hve := vector_k HK.out v9 w9 (hE0.below HC9.out) hr9 hb1 hb2
        clear hr9 hB9 HC8
        go_wp2_with fail
        refine hve.mono ?_
        clear hve
        rintro e w10 ⟨v10, rfl, hi10, hB10⟩
        have HC10 : Hid (Below w3.heap.size w3 w10) := HC9.out.trans (hB10.mono HC9.out.size)
        have HI10 : Hid (Ints w10 v10 (vecOf all)) := hi10
        obtain ⟨a10, c10, e10, -, -⟩ := hi10.open_
        obtain ⟨T, hT⟩ : ∃ T, topN all = T := ⟨_, rfl⟩
        have hT7 : T ≤ 7 := by rw [← hT]; exact topN_upto HS7.out
        rw [vecOf_length, hT] at e10
        subst e10
        have HT : Hid (topN all = T) := hT
        have hco := coded_k HK.out w10 (hE0.below HC10.out)
        clear hi10 hB10 HC9 hT
        go_wp2_with fail
        refine hco.mono ?_
        clear hco
        rintro e w11 ⟨rfl, hB11⟩
        have HC11 : Hid (Below w3.heap.size w3 w11) := HC10.out.trans (hB11.mono HC10.out.size)
        have HI11 : Hid (Ints w11 (.slice a10 T c10) (vecOf all)) := HI10.out.below hB11
        have hto := top_of _ all w11 (HA.out.below HC11.out) (by omega) (fun x hx => by have := HS7.out x hx; omega)
        rw [HT.out] at hto
        clear hB11 HC10 HI10
        go_wp2_with fail
        refine hto.mono ?_
        clear hto
        rintro e w12 ⟨rfl, rfl⟩
        go_wp2
        go_loopw [15] (fun p W => ∃ d : Nat, d ≤ T ∧ p = .int .i64 d ∧ Below w3.heap.size w3 W ∧ Ints W (.slice a10 T c10) (vecOf all)) (fun p _ => T - (intOf p).toNat)
        case atStart => exact ⟨0, by omega, rfl, HC11.out, HI11.out⟩
        case round =>
          obtain ⟨d, hd, rfl, hCr, hIr⟩ := hrel
          have HCr : Hid (Below w3.heap.size w3 wr) := hCr
          have HIr : Hid (Ints wr (.slice a10 T c10) (vecOf all)) := hIr
          by_cases hdT : d < T
          · have hgv : (vecOf all)[d]?.getD 0 = (cnt all d : Int) := by rw [vecOf_get _ d (by rw [HT.out]; exact hdT), Option.getD_some]
            obtain ⟨av, cv, ev, -, hcv⟩ := hIr.open_
            have hvl : (vecOf all).length = T := by rw [vecOf_length]; exact HT.out
            rw [hvl] at ev hcv
            cases ev
            obtain ⟨bv, ov, rfl, -, hbv, cv⟩ := hcv (by omega)
            have g := cv d hdT
            rw [hgv] at g
            have hml : (ofDim all (d : Int)).length = cnt all d := cnt_filter all d
            have hm6 : cnt all d ≤ 1000 := by have := cnt_le all d; omega
            obtain ⟨m, hm⟩ : ∃ m, cnt all d = m := ⟨_, rfl⟩
            rw [hm] at g hml hm6
            have HM : Hid ((ofDim all (d : Int)).length = m) := hml
            have hn0 : (0 : Int) ≤ (d : Int) := by omega
            have hn1 : (d : Int) < (T : Int) := by omega
            clear hgv hvl hcv cv hml hm hIr hCr
            go_wp2_with fail
            go_region_held3 (fun W => W.cell? ⟨bv, ov + d, none⟩ = some (.int .i64 m)) (go_keep) ((go_at_call 13; refine (of_dim _ all (d : Int) _ ?_ ?_ ?_).mono ?_; exact HA.out.below HCr.out.drew; omega; exact (fun x hx => Nat.le_trans (HS7.out x hx) (by decide)); rintro e w13 ⟨v13, rfl, hr13, hB13⟩; obtain ⟨a13, c13, e13, -, -⟩ := hr13.open_; rw [HM.out] at e13; subst e13; have cb : w13.cell? ⟨bv, ov + d, none⟩ = some (.int .i64 m) := (hB13.cell (p := ⟨bv, ov + d, none⟩) hbv).trans g; have HB13 : Hid (Below wr.heap.size wr w13) := (show Below wr.heap.size wr w13 from (Below.refl wr.heap.size wr).drew.trans hB13); clear hr13 hB13))
            all_goals go_wp2
            all_goals go_roundw
            all_goals first
              | (go_light; exact ⟨d + 1, hdT, by go_num, HCr.out.trans (HB13.out.mono HCr.out.size), HIr.out.below HB13.out⟩)
              | (go_light; simp [intOf]; omega)
          · obtain rfl : d = T := by omega
            clear hIr hCr HC11 HI11
            have hcx := cx_ _ c _ (HRc.out.below HCr.out) hb1 hb2
            go_wp2_with fail
            refine hcx.mono ?_
            clear hcx
            rintro e w14 ⟨v14, rfl, hr14, hB14⟩
            have HC14 : Hid (Below w3.heap.size w3 w14) := HCr.out.trans (hB14.mono HCr.out.size)
            have heu := euler_k HK.out v14 w14 (hE0.below HC14.out) hr14 hb1 hb2
            clear hr14 hB14
            go_wp2_with fail
            refine heu.mono ?_
            clear heu
            rintro e w15 ⟨rfl, hB15⟩
            have HC15 : Hid (Below w3.heap.size w3 w15) := HC14.out.trans (hB15.mono HC14.out.size)
            have hco := coded_k HK.out w15 (hE0.below HC15.out)
            clear hB15 HC14
            go_wp2_with fail
            refine hco.mono ?_
            clear hco
            rintro e w16 ⟨rfl, hB16⟩
            have HC16 : Hid (Below w3.heap.size w3 w16) := HC15.out.trans (hB16.mono HC15.out.size)
            have heo := euler_of _ all w16 (HA.out.below HC16.out) (by omega) (fun x hx => by have := HS7.out x hx; omega)
            clear hB16 HC15
            go_wp2_with fail
            refine heo.mono ?_
            clear heo
            rintro e w17 ⟨rfl, hw17⟩
            have HC17 : Hid (Below w3.heap.size w3 w17) := by
              show Below w3.heap.size w3 w17
              rw [hw17]; exact HC16.out
            have hcx := cx_ _ c _ (HRc.out.below HC17.out) hb1 hb2
            clear hw17 HC16
            go_wp2_with fail
            refine hcx.mono ?_
            clear hcx
            rintro e w18 ⟨v18, rfl, hr18, hB18⟩
            have HC18 : Hid (Below w3.heap.size w3 w18) := HC17.out.trans (hB18.mono HC17.out.size)
            have HR18 : Hid (Rows w18 v18 c) := hr18
            have hIf : Ints (w18.alloc (.cells #[] 3)) (.slice af f.length cf) f := (HFf.out.below HC18.out).below ((Below.refl _ w18).alloc (Nat.le_refl _) _)
            clear hr18 hB18 HC17
            go_wp2_with (first
              | (at_builtin; refine wpList_append_slice rfl (.tmp 114) (.tmp 115) 23 rfl w18.heap.size 3 j0 (.int .i64 0) 8 Tryz.underlying23 hj0 hy0 hy1 hy2 rfl _ _ _ rfl (own_empty w18 3 w18.heap.size (Nat.le_refl _)) _ (f.map (Value.int .i64)) rfl hIf (ints_one f) (by simp; omega) (by unfold maxLen; simp; omega) (by simp) ?_; intro v19 w19 hown19 hg19 hl19)
              | fail)
            have HI19 : Hid (Ints w19 v19 f) := ints_put hown19
            have HB19 : Hid (Below w18.heap.size w18 w19) := ((Below.refl _ w18).alloc (Nat.le_refl _) _).grown hg19 (by simp) (fun j hj => by cases hj; exact Nat.le_refl _)
            have HC19 : Hid (Below w3.heap.size w3 w19) := HC18.out.trans (HB19.out.mono HC18.out.size)
            have hha := has_k HK.out v18 v19 f w19 (hE0.below HC19.out) (HR18.out.below HB19.out) hb1 hb2 HI19.out (by omega)
            clear hown19 hg19 hl19 hIf HR18 HC18 HI19 HB19
            go_wp2_with fail
            refine hha.mono ?_
            clear hha
            rintro e w20 ⟨rfl, hB20⟩
            have HC20 : Hid (Below w3.heap.size w3 w20) := HC19.out.trans (hB20.mono HC19.out.size)
            have hco := coded_k HK.out w20 (hE0.below HC20.out)
            clear hB20 HC19
            go_wp2_with fail
            refine hco.mono ?_
            clear hco
            rintro e w21 ⟨rfl, hB21⟩
            have HC21 : Hid (Below w3.heap.size w3 w21) := HC20.out.trans (hB21.mono HC20.out.size)
            have hio := index_of _ _ all f w21 (HA.out.below HC21.out) (HFf.out.below HC21.out) (by omega) (fun x hx => by have := HS7.out x hx; omega)
            clear hB21 HC20
            go_wp2_with fail
            refine hio.mono ?_
            clear hio
            rintro e w22 ⟨i, rfl, hi, -, q22, hw22⟩
            have HC22 : Hid (Below w3.heap.size w3 w22) := by
              show Below w3.heap.size w3 w22
              rw [hw22]
              exact HC21.out.trans ⟨rfl, rfl, rfl, Nat.le_refl _, fun _ _ => rfl⟩
            have hdq : (decide (f ∈ all) == decide (0 ≤ i)) = true := by
              by_cases hm : f ∈ all
              · rw [decide_eq_true hm, decide_eq_true (hi.2 hm)]; rfl
              · rw [decide_eq_false hm, decide_eq_false (fun h => hm (hi.1 h))]; rfl
            clear hw22 HC21 hi
            go_wp2
            go_ret
            exact ⟨by first | rfl | (simp [hdq]), HB0.out.trans (HC22.out.mono HB0.out.size)⟩

end Go.Proofs.YtmbolgalgidleaaGreatDoor
