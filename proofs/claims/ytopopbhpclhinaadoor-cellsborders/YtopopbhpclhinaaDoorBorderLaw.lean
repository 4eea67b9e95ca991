/- CellsBorders answers true of whatever sets and dimension. -/
import Derived.Test.YtopopbhpclhinaaDoorBoundary
import Derived.Test.YtopopbhpclhinaaDoorRefBorder
import Derived.Test.YtopopbhpclhinaaDoorRefProduct
import Derived.Test.YtopopbhpclhinaaDoorOfDim
import Derived.Test.YtopopbhpclhinaaDoorCircleWalk
namespace Go.Proofs.YtopopbhpclhinaaDoor
open Go.RowKit Go.Sort Go.Maps Go.Deep

theorem dim_none {l all : List (List Int)} (g : Good l all) : ofDim all (0 - 1) = [] := by
  unfold ofDim
  rw [List.filter_eq_nil_iff]
  intro x hx
  have := List.length_pos_iff.2 (face_ok_of g hx).1.1
  simp
  omega
theorem border_nil (C : List (List Int)) : borderI [] C = [] := rfl
theorem border_mem {R C : List (List Int)} {x : Int} (h : x ∈ borderI R C) : -1 ≤ x ∧ x ≤ 1 := by
  obtain ⟨r, _, h1⟩ := List.mem_flatMap.1 h
  obtain ⟨c, _, rfl⟩ := List.mem_map.1 h1
  exact entry_small r c
/-- A boundary has none. -/
theorem prod_zero {l all : List (List Int)} (g : Good l all) {dim : Int} (hd : 0 < dim) : ∀ x ∈ prodI (borderI (ofDim all (dim - 1 - 1)) (ofDim all (dim - 1))) (borderI (ofDim all (dim - 1)) (ofDim all dim)) (ofDim all (dim - 1 - 1)).length (ofDim all (dim - 1)).length (ofDim all dim).length, x = 0 := by
  intro x hx
  obtain ⟨i, hi, h1⟩ := List.mem_flatMap.1 hx
  obtain ⟨k, hk, rfl⟩ := List.mem_map.1 h1
  rw [List.mem_range] at hi hk
  unfold prodAt
  have hmR : (ofDim all (dim - 1 - 1))[i]?.getD [] ∈ ofDim all (dim - 1 - 1) := by rw [List.getElem?_eq_getElem hi]; exact List.getElem_mem hi
  have hmC : (ofDim all dim)[k]?.getD [] ∈ ofDim all dim := by rw [List.getElem?_eq_getElem hk]; exact List.getElem_mem hk
  obtain ⟨hc1, hc2⟩ := List.mem_filter.1 hmC
  have hc3 := of_decide_eq_true hc2
  rw [← border_none (E := ofDim all (dim - 1)) (r := (ofDim all (dim - 1 - 1))[i]?.getD []) (c := (ofDim all dim)[k]?.getD []) ((order_nodup g.isAll.order).sublist List.filter_sublist) (fun e he => g.rising e (List.mem_filter.1 he).1) (g.rising _ (List.mem_filter.1 hmR).1) (g.rising _ hc1) (fun j hj => ?_)]
  · refine sumTo_congr _ (fun j hj => ?_)
    rw [border_get hi hj, border_get hj hk]; rfl
  · have hlen := List.length_eraseIdx_of_lt hj
    refine List.mem_filter.2 ⟨g.sub hc1 (List.eraseIdx_sublist _ j) (fun e => by rw [e] at hlen; simp at hlen; omega), decide_eq_true ?_⟩
    rw [hlen]; omega

theorem dims_len {l all : List (List Int)} (g : Good l all) (dim : Int) : (ofDim all dim).length ≤ 600 := by have := ofDim_length all dim; have := g.length; omega
theorem dims_short {l all : List (List Int)} (g : Good l all) (dim : Int) : ∀ x ∈ ofDim all dim, x.length ≤ 7 := fun x hx => g.short x (List.mem_filter.1 hx).1

set_option maxRecDepth 100000 in
set_option maxHeartbeats 8000000 in
theorem borders_law (CL : ClosedHolds) {a : Nat → Addr} {s : Nat → ByteArray} (vc : Value) (c : List (List Int)) (dim : Int) (w : World) (hE : Errs a s w) (hc : Rows w vc c) :
    Calls Tryd.prog 4 #[vc, .int .i64 dim] w fun e w' => e = .returned (.bool true) ∧ Below w.heap.size w w' := by
  have hci := circle_ w hE
  have HR : Hid (Rows w vc c) := hc
  clear hc
  go_enter Tryd.func4, Tryd.ntmps4
  go_wp2_with fail
  refine hci.mono ?_
  clear hci
  rintro e w1 ⟨rfl, hB1⟩
  have hli := little_ CL vc c 150 w1 (HR.out.below hB1)
  go_wp2_with fail
  refine hli.mono ?_
  clear hli
  rintro e w2 ⟨q, rfl, hB2, hq⟩
  have HB2 : Hid (Below w.heap.size w w2) := hB1.trans (hB2.mono hB1.size)
  cases q with
  | false =>
    clear hq
    go_wp2
    go_ret
    exact ⟨rfl, HB2.out⟩
  | true =>
    have hb := hq rfl
    have hb1 : c.length ≤ 100000 := by omega
    have hb2 : ∀ x ∈ c, x.length ≤ 1000 := fun x hx => by have := hb.2 x hx; omega
    clear hq hb hB1 hB2
    have her := error_k2 CL a vc c w2 (HR.out.below HB2.out) hb1 hb2
    go_wp2_with fail
    refine her.mono ?_
    clear her
    rintro e w3 ⟨hB3, ve, n, all, -, rfl, ⟨hn0, hn1, -, i, hbad, hve, hni⟩ | ⟨rfl, hg⟩⟩
    · have HB3 : Hid (Below w.heap.size w w3) := HB2.out.trans (hB3.mono HB2.out.size)
      have HBD : Hid (BadAt c i) := hbad
      have HNI : Hid (n = (i : Int) + 1) := hni
      clear hbad hve hni hB3 HB2
      have hcx := cx_ vc c w3 (HR.out.below HB3.out) hb1 hb2
      go_wp2_with fail
      refine hcx.mono ?_
      clear hcx
      rintro e w4 ⟨v4, rfl, hr4, hB4⟩
      have HB4 : Hid (Below w.heap.size w w4) := HB3.out.trans (hB4.mono HB3.out.size)
      have hbo := boundary_call v4 c dim w4 (hE.below HB4.out) hr4 hb1 hb2
      clear hr4 hB4
      go_wp2_with fail
      refine hbo.mono ?_
      clear hbo
      rintro e w5 ⟨hB5, ⟨j, hj, rfl⟩ | ⟨all', g', -⟩⟩
      · obtain rfl := bad_one HBD.out hj
        have HB5 : Hid (Below w.heap.size w w5) := HB4.out.trans (hB5.mono HB4.out.size)
        have hBa : Below w5.heap.size w5 (w5.alloc (.cells #[.int .i64 0, .int .i64 0, .slice none 0 0] 41)) := (Below.refl _ w5).alloc (Nat.le_refl _) _
        have hmb := matBox_new w5 0 0 (.slice none 0 0) 41
        have HBA : Hid (Below w.heap.size w (w5.alloc (.cells #[.int .i64 0, .int .i64 0, .slice none 0 0] 41))) := HB5.out.trans (hBa.mono HB5.out.size)
        have hco := coded_es _ (hE.below HBA.out) i hj.lt n
        have hdn : decide (n = (i : Int) + 1) = true := decide_eq_true HNI.out
        rw [hdn] at hco
        clear hj hB5 hBa hdn
        go_wp2_with fail
        refine hco.mono ?_
        clear hco
        rintro e w6 ⟨rfl, hB6⟩
        have hm6 := hmb.below hB6
        have m0 := hm6.c0.1
        have m1 := hm6.c1.1
        have m2 := hm6.c2.1
        have HB6 : Hid (Below w.heap.size w w6) := HBA.out.trans (hB6.mono HBA.out.size)
        clear hm6 hmb hB6
        go_wp2
        go_ret
        exact ⟨rfl, HB6.out⟩
      · exact (bad_good HBD.out g').elim
    · have HGA : Hid (Good c all) := hg
      have HB3 : Hid (Below w.heap.size w w3) := HB2.out.trans (hB3.mono HB2.out.size)
      clear hg hB3 HB2
      by_cases hdim : dim < 0 ∨ 7 < dim
      · have HDM : Hid (dim < 0 ∨ 7 < dim) := hdim
        have hcx := cx_ vc c w3 (HR.out.below HB3.out) hb1 hb2
        rcases hdim with hdim | hdim
        all_goals
          go_wp2_with fail
          refine hcx.mono ?_
          clear hcx
          rintro e w4 ⟨v4, rfl, hr4, hB4⟩
          have HB4 : Hid (Below w.heap.size w w4) := HB3.out.trans (hB4.mono HB3.out.size)
          have hbo := boundary_call v4 c dim w4 (hE.below HB4.out) hr4 hb1 hb2
          clear hr4 hB4
          go_wp2_with fail
          refine hbo.mono ?_
          clear hbo
          rintro e w5 ⟨hB5, ⟨j, hj, rfl⟩ | ⟨all', g', ⟨-, rfl⟩ | ⟨hin, -⟩⟩⟩
          · exact (bad_good hj HGA.out).elim
          · have HB5 : Hid (Below w.heap.size w w5) := HB4.out.trans (hB5.mono HB4.out.size)
            have hBa : Below w5.heap.size w5 (w5.alloc (.cells #[.int .i64 0, .int .i64 0, .slice none 0 0] 41)) := (Below.refl _ w5).alloc (Nat.le_refl _) _
            have hmb := matBox_new w5 0 0 (.slice none 0 0) 41
            have HBA : Hid (Below w.heap.size w (w5.alloc (.cells #[.int .i64 0, .int .i64 0, .slice none 0 0] 41))) := HB5.out.trans (hBa.mono HB5.out.size)
            have hco := coded_es _ (hE.below HBA.out) 1 (by decide) 2
            clear hB5 hBa g'
            go_wp2_with fail
            refine hco.mono ?_
            clear hco
            rintro e w6 ⟨rfl, hB6⟩
            have hm6 := hmb.below hB6
            have m0 := hm6.c0.1
            have m1 := hm6.c1.1
            have m2 := hm6.c2.1
            have HB6 : Hid (Below w.heap.size w w6) := HBA.out.trans (hB6.mono HBA.out.size)
            clear hm6 hmb hB6
            go_wp2
            go_ret
            exact ⟨rfl, HB6.out⟩
          · exact absurd HDM.out (by omega)
      · have hd0 : 0 ≤ dim := by omega
        have hd7 : dim ≤ 7 := by omega
        have hcx := cx_ vc c w3 (HR.out.below HB3.out) hb1 hb2
        clear hdim
        go_wp2_with fail
        refine hcx.mono ?_
        clear hcx
        rintro e w4 ⟨v4, rfl, hr4, hB4⟩
        have HB4 : Hid (Below w.heap.size w w4) := HB3.out.trans (hB4.mono HB3.out.size)
        have hbo := boundary_call v4 c dim w4 (hE.below HB4.out) hr4 hb1 hb2
        clear hr4 hB4 HB3
        go_wp2_with fail
        refine hbo.mono ?_
        clear hbo
        rintro e w5 ⟨hB5, ⟨j, hj, rfl⟩ | ⟨all', g', ⟨hout, -⟩ | ⟨-, vm, rfl, him⟩⟩⟩
        · exact (bad_good hj HGA.out).elim
        · exact absurd hout (by omega)
        · obtain rfl := good_one HGA.out g'
          have HB5 : Hid (Below w.heap.size w w5) := HB4.out.trans (hB5.mono HB4.out.size)
          obtain ⟨R, hRe⟩ : ∃ R, ofDim all (dim - 1) = R := ⟨_, rfl⟩
          obtain ⟨C, hCe⟩ : ∃ C, ofDim all dim = C := ⟨_, rfl⟩
          have HRC : Hid (ofDim all (dim - 1) = R ∧ ofDim all dim = C) := ⟨hRe, hCe⟩
          rw [hRe, hCe] at him ⊢
          have hrl6 : R.length ≤ 600 := by rw [← hRe]; exact dims_len HGA.out _
          have hcl6 : C.length ≤ 600 := by rw [← hCe]; exact dims_len HGA.out _
          have HS7 : Hid ((∀ x ∈ R, x.length ≤ 7) ∧ ∀ x ∈ C, x.length ≤ 7) := by
            show (∀ x ∈ R, x.length ≤ 7) ∧ ∀ x ∈ C, x.length ≤ 7
            rw [← hRe, ← hCe]
            exact ⟨dims_short HGA.out _, dims_short HGA.out _⟩
          have hbl6 : (borderI R C).length ≤ 1000000 := by
            rw [border_length]
            have := Nat.mul_le_mul hrl6 hcl6
            omega
          obtain ⟨am, cm, rfl, -, -⟩ := him.open_
          have hBa : Below w5.heap.size w5 (w5.alloc (.cells #[.int .i64 R.length, .int .i64 C.length, .slice am (borderI R C).length cm] 41)) := (Below.refl _ w5).alloc (Nat.le_refl _) _
          have hmb := matBox_new w5 R.length C.length (.slice am (borderI R C).length cm) 41
          obtain ⟨w6, hw6⟩ : ∃ w6, w5.alloc (.cells #[.int .i64 R.length, .int .i64 C.length, .slice am (borderI R C).length cm] 41) = w6 := ⟨_, rfl⟩
          rw [hw6] at hBa hmb
          have HMB : Hid (MatBox w5.heap.size w6 R.length C.length (.slice am (borderI R C).length cm)) := hmb
          have HMI : Hid (Ints w6 (.slice am (borderI R C).length cm) (borderI R C)) := him.below hBa
          have HB6 : Hid (Below w.heap.size w w6) := HB5.out.trans (hBa.mono HB5.out.size)
          have HW6 : Hid (w5.alloc (.cells #[.int .i64 R.length, .int .i64 C.length, .slice am (borderI R C).length cm] 41) = w6) := hw6
          have hcl := closed_g CL vc c all w6 (HR.out.below HB6.out) hb1 hb2 HGA.out
          clear hRe hCe him hmb hBa hw6 g' hB5 HB4 HB5
          go_wp2_with fail
          rw [HW6.out]
          refine hcl.mono ?_
          clear hcl HW6
          rintro e w7 ⟨val, rfl, hra, hBX⟩
          have HC7 : Hid (Below w6.heap.size w6 w7) := hBX
          obtain ⟨al_, cl_, rfl, -, -⟩ := hra.open_
          have HAL7 : Hid (Rows w7 (.slice al_ all.length cl_) all) := hra
          clear hra hBX
          by_cases hdz : dim = 0
          · subst hdz
            have hRn : R = [] := by rw [← HRC.out.1]; exact dim_none HGA.out
            have HVR : Hid (Rows w7 (.slice none 0 0) R) := by
              show Rows w7 (.slice none 0 0) R
              rw [hRn]; exact rows_nil w7
            have HAL : Hid (Rows w7 (.slice al_ all.length cl_) all) := HAL7.out
            clear hRn HAL7
            have hmW := HMB.out.below HC7.out
            have m0 := hmW.c0.1
            have m1 := hmW.c1.1
            have m2 := hmW.c2.1
            have hrf := ref_ (.slice am (borderI R C).length cm) R.length C.length (borderI R C) w7 (HMI.out.below HC7.out)
            clear hmW
            go_wp2_with fail
            refine hrf.mono ?_
            clear hrf
            rintro e w10 ⟨rfl, hBX⟩
            have HC10 : Hid (Below w6.heap.size w6 w10) := HC7.out.trans (hBX.mono HC7.out.size)
            have HR10 : Hid (Rows w10 (.slice none 0 0) R) := HVR.out.below hBX
            have HA10 : Hid (Rows w10 (.slice al_ all.length cl_) all) := HAL.out.below hBX
            clear hBX m0 m1 m2 HC7 HVR
            have hod := of_dim (.slice al_ all.length cl_) all 0 w10 HA10.out (by have := HGA.out.length; omega) (fun x hx => by have := HGA.out.short x hx; omega)
            rw [HRC.out.2] at hod
            go_wp2_with fail
            refine hod.mono ?_
            clear hod
            rintro e w11 ⟨v11, rfl, hr11, hBX⟩
            have HC11 : Hid (Below w6.heap.size w6 w11) := HC10.out.trans (hBX.mono HC10.out.size)
            have hbo := border_of (.slice none 0 0) v11 R C w11 (HR10.out.below hBX) hr11 hrl6 hcl6 HS7.out.1 HS7.out.2
            obtain ⟨a11, c11, rfl, -, -⟩ := hr11.open_
            clear hr11 hBX HC10 HR10 HA10
            go_wp2_with fail
            refine hbo.mono ?_
            clear hbo
            rintro e w12 ⟨v12, rfl, hi12, hBX⟩
            have HC12 : Hid (Below w6.heap.size w6 w12) := HC11.out.trans (hBX.mono HC11.out.size)
            have hsm := same_matrix (.slice am (borderI R C).length cm) v12 R.length C.length (borderI R C) w12 (HMI.out.below HC12.out) hi12 hbl6
            clear hi12 hBX HC11
            go_wp2_with fail
            refine hsm.mono ?_
            clear hsm
            rintro e w13 ⟨rfl, hBX⟩
            have HC13 : Hid (Below w6.heap.size w6 w13) := HC12.out.trans (hBX.mono HC12.out.size)
            clear hBX HC12
            go_wp2
            go_ret
            exact ⟨rfl, HB6.out.trans (HC13.out.mono HB6.out.size)⟩
          · have hdp : 0 < dim := by omega
            have hod := of_dim (.slice al_ all.length cl_) all (dim - 1) w7 HAL7.out (by have := HGA.out.length; omega) (fun x hx => by have := HGA.out.short x hx; omega)
            rw [HRC.out.1] at hod
            have hdzb : (dim == 0) = false := beq_false_of_ne hdz
            go_wp2_with fail
            refine hod.mono ?_
            clear hod
            rintro e w8 ⟨v8, rfl, hr8, hBX⟩
            have HC8 : Hid (Below w6.heap.size w6 w8) := HC7.out.trans (hBX.mono HC7.out.size)
            obtain ⟨a8, c8, rfl, -, -⟩ := hr8.open_
            have HVR : Hid (Rows w8 (.slice a8 R.length c8) R) := hr8
            have HAL : Hid (Rows w8 (.slice al_ all.length cl_) all) := HAL7.out.below hBX
            clear hr8 hBX HC7 HAL7
            have hmW := HMB.out.below HC8.out
            have m0 := hmW.c0.1
            have m1 := hmW.c1.1
            have m2 := hmW.c2.1
            have hrf := ref_ (.slice am (borderI R C).length cm) R.length C.length (borderI R C) w8 (HMI.out.below HC8.out)
            clear hmW
            go_wp2_with fail
            refine hrf.mono ?_
            clear hrf
            rintro e w10 ⟨rfl, hBX⟩
            have HC10 : Hid (Below w6.heap.size w6 w10) := HC8.out.trans (hBX.mono HC8.out.size)
            have HR10 : Hid (Rows w10 (.slice a8 R.length c8) R) := HVR.out.below hBX
            have HA10 : Hid (Rows w10 (.slice al_ all.length cl_) all) := HAL.out.below hBX
            clear hBX m0 m1 m2 HC8 HVR
            have hod := of_dim (.slice al_ all.length cl_) all dim w10 HA10.out (by have := HGA.out.length; omega) (fun x hx => by have := HGA.out.short x hx; omega)
            rw [HRC.out.2] at hod
            go_wp2_with fail
            refine hod.mono ?_
            clear hod
            rintro e w11 ⟨v11, rfl, hr11, hBX⟩
            have HC11 : Hid (Below w6.heap.size w6 w11) := HC10.out.trans (hBX.mono HC10.out.size)
            have hbo := border_of (.slice a8 R.length c8) v11 R C w11 (HR10.out.below hBX) hr11 hrl6 hcl6 HS7.out.1 HS7.out.2
            obtain ⟨a11, c11, rfl, -, -⟩ := hr11.open_
            clear hr11 hBX HC10 HR10 HA10
            go_wp2_with fail
            refine hbo.mono ?_
            clear hbo
            rintro e w12 ⟨v12, rfl, hi12, hBX⟩
            have HC12 : Hid (Below w6.heap.size w6 w12) := HC11.out.trans (hBX.mono HC11.out.size)
            have hsm := same_matrix (.slice am (borderI R C).length cm) v12 R.length C.length (borderI R C) w12 (HMI.out.below HC12.out) hi12 hbl6
            clear hi12 hBX HC11
            go_wp2_with fail
            refine hsm.mono ?_
            clear hsm
            rintro e w13 ⟨rfl, hBX⟩
            have HC13 : Hid (Below w6.heap.size w6 w13) := HC12.out.trans (hBX.mono HC12.out.size)
            clear hBX HC12
            have HB13 : Hid (Below w.heap.size w w13) := HB6.out.trans (HC13.out.mono HB6.out.size)
            have hcx := cx_ vc c w13 (HR.out.below HB13.out) hb1 hb2
            go_wp2_with fail
            refine hcx.mono ?_
            clear hcx
            rintro e w14 ⟨v14, rfl, hr14, hBX⟩
            have HC14 : Hid (Below w6.heap.size w6 w14) := HC13.out.trans (hBX.mono HC13.out.size)
            have HB14 : Hid (Below w.heap.size w w14) := HB13.out.trans (hBX.mono HB13.out.size)
            have hbo := boundary_call v14 c (dim - 1) w14 (hE.below HB14.out) hr14 hb1 hb2
            clear hr14 hBX HC13 HB13
            go_wp2_with fail
            refine hbo.mono ?_
            clear hbo
            rintro e w15 ⟨hB15, ⟨j, hj, rfl⟩ | ⟨all', g', ⟨hout, -⟩ | ⟨-, vn, rfl, hin⟩⟩⟩
            · exact (bad_good hj HGA.out).elim
            · exact absurd hout (by omega)
            · obtain rfl := good_one HGA.out g'
              have HPZ := prod_zero HGA.out hdp
              obtain ⟨R2, hR2⟩ : ∃ R2, ofDim all (dim - 1 - 1) = R2 := ⟨_, rfl⟩
              have hr26 : R2.length ≤ 600 := by rw [← hR2]; exact dims_len HGA.out _
              rw [hR2, HRC.out.1] at hin ⊢
              rw [hR2, HRC.out.1, HRC.out.2] at HPZ
              have HPZ2 : Hid (∀ x ∈ prodI (borderI R2 R) (borderI R C) R2.length R.length C.length, x = 0) := HPZ
              obtain ⟨an, cn, rfl, -, -⟩ := hin.open_
              have hBa : Below w15.heap.size w15 (w15.alloc (.cells #[.int .i64 R2.length, .int .i64 R.length, .slice an (borderI R2 R).length cn] 41)) := (Below.refl _ w15).alloc (Nat.le_refl _) _
              have hnb := matBox_new w15 R2.length R.length (.slice an (borderI R2 R).length cn) 41
              have HC15 : Hid (Below w6.heap.size w6 w15) := HC14.out.trans (hB15.mono HC14.out.size)
              obtain ⟨wb, hwb⟩ : ∃ wb, w15.alloc (.cells #[.int .i64 R2.length, .int .i64 R.length, .slice an (borderI R2 R).length cn] 41) = wb := ⟨_, rfl⟩
              rw [hwb] at hBa hnb
              have HCb : Hid (Below w6.heap.size w6 wb) := HC15.out.trans (hBa.mono HC15.out.size)
              have HNB : Hid (MatBox w15.heap.size wb R2.length R.length (.slice an (borderI R2 R).length cn)) := hnb
              have HMBb : Hid (MatBox w5.heap.size wb R.length C.length (.slice am (borderI R C).length cm)) := HMB.out.below HCb.out
              have hIn : Ints wb (.slice an (borderI R2 R).length cn) (borderI R2 R) := hin.below hBa
              have hIm : Ints wb (.slice am (borderI R C).length cm) (borderI R C) := HMI.out.below HCb.out
              have HWB : Hid (w15.alloc (.cells #[.int .i64 R2.length, .int .i64 R.length, .slice an (borderI R2 R).length cn] 41) = wb) := hwb
              have HBb : Hid (Below w.heap.size w wb) := HB6.out.trans (HCb.out.mono HB6.out.size)
              have hrn : ∀ W, Below wb.heap.size wb W → Calls Tryd.prog 20 #[.agg #[.int .i64 R2.length, .int .i64 R.length, .slice an (borderI R2 R).length cn]] W fun e w' => e = .returned (.agg #[.int .i64 R2.length, .int .i64 R.length, .slice an (borderI R2 R).length cn]) ∧ Below W.heap.size W w' := fun W hW => ref_ _ _ _ (borderI R2 R) W (hIn.below hW)
              have hrm : ∀ W, Below wb.heap.size wb W → Calls Tryd.prog 20 #[.agg #[.int .i64 R.length, .int .i64 C.length, .slice am (borderI R C).length cm]] W fun e w' => e = .returned (.agg #[.int .i64 R.length, .int .i64 C.length, .slice am (borderI R C).length cm]) ∧ Below W.heap.size W w' := fun W hW => ref_ _ _ _ (borderI R C) W (hIm.below hW)
              have hpr : ∀ W, Below wb.heap.size wb W → Calls Tryd.prog 22 #[.agg #[.int .i64 R2.length, .int .i64 R.length, .slice an (borderI R2 R).length cn], .agg #[.int .i64 R.length, .int .i64 C.length, .slice am (borderI R C).length cm]] W fun e w' => ∃ v, e = .returned (.agg #[.int .i64 R2.length, .int .i64 C.length, v]) ∧ IntsIn (fun b => W.heap.size ≤ b) w' v (prodI (borderI R2 R) (borderI R C) R2.length R.length C.length) ∧ Below W.heap.size W w' :=
                fun W hW => product_of _ _ R2.length R.length C.length (borderI R2 R) (borderI R C) W (hIn.below hW) (hIm.below hW) (border_length _ _) (border_length _ _) hr26 hrl6 hcl6 (fun x hx => border_mem hx) (fun x hx => border_mem hx)
              have hx15 := HNB.out.lt
              have hx5 := HMBb.out.lt
              have hbd0 : Below wb.heap.size wb wb.drew := ⟨rfl, rfl, rfl, Nat.le_refl _, fun _ _ => rfl⟩
              have n0 := HNB.out.c0.1
              have n1 := HNB.out.c1.1
              have n2 := HNB.out.c2.1
              have m0 := HMBb.out.c0.1
              have m1 := HMBb.out.c1.1
              have m2 := HMBb.out.c2.1
              have hpl6 : (prodI (borderI R2 R) (borderI R C) R2.length R.length C.length).length ≤ 1000000 := by
                rw [prod_length]
                have := Nat.mul_le_mul hr26 hcl6
                omega
              obtain ⟨PR, hPR⟩ : ∃ PR, prodI (borderI R2 R) (borderI R C) R2.length R.length C.length = PR := ⟨_, rfl⟩
              rw [hPR] at hpr HPZ2 hpl6
              clear hR2 HPZ hBa hnb hin hwb hB15 g' HC14 HB14 HC15 hIn hIm hPR HMB HMI
              have n1e := n1
              have m0e := m0
              rw [← HWB.out] at n1e m0e
              go_wp2_with fail
              rw [HWB.out]
              clear n1e m0e
              go_region_held3 (fun W => (W.cell? ⟨w15.heap.size, 0, none⟩ = some (.int .i64 R2.length) ∧ W.cell? ⟨w15.heap.size, 1, none⟩ = some (.int .i64 R.length) ∧ W.cell? ⟨w15.heap.size, 2, none⟩ = some (.slice an (borderI R2 R).length cn)) ∧ W.cell? ⟨w5.heap.size, 0, none⟩ = some (.int .i64 R.length) ∧ W.cell? ⟨w5.heap.size, 1, none⟩ = some (.int .i64 C.length) ∧ W.cell? ⟨w5.heap.size, 2, none⟩ = some (.slice am (borderI R C).length cm)) (first | go_keep | (refine ⟨⟨?_, ?_, ?_⟩, ?_, ?_, ?_⟩ <;> (rw [World.cell?_setCell_other _ _ _ _ (addr_ne (.inl (by omega))), World.cell?_setCell_other _ _ _ _ (addr_ne (.inl (by omega))), World.cell?_setCell_other _ _ _ _ (addr_ne (.inl (by omega)))]; assumption))) (first
                | (go_at_call_of 20 an; refine (hrn _ ?_).mono ?_; (first | exact hbd1 | exact hbd0 | exact hbd1.alloc hbd1.size _ | exact hbd0.alloc hbd0.size _); rintro e wA ⟨rfl, hA⟩; have hbd2 : Below wb.heap.size wb wA := (by first | exact hbd1.trans (hA.mono hbd1.size) | exact hbd0.trans (hA.mono hbd0.size) | exact (hbd1.alloc hbd1.size _).trans (hA.mono (hbd1.alloc hbd1.size _).size) | exact (hbd0.alloc hbd0.size _).trans (hA.mono (hbd0.alloc hbd0.size _).size)); have hbd1 := hbd2; have hsz1 := hbd1.size; have hswA := hA.size; (try rw [World.size_alloc] at hswA); (try (have hsb : (wb.alloc (.cells #[.int .i64 0, .int .i64 0, .slice none 0 0] 47)).heap.size ≤ wA.heap.size := hA.size; rw [World.size_alloc] at hsb)); (try (have zb := zb.below hA; have z00 := zb.c0.1; have z01 := zb.c0.2; have z10 := zb.c1.1; have z11 := zb.c1.2; have z20 := zb.c2.1; have z21 := zb.c2.2)); (try (have zb := (matBox_new _ 0 0 (.slice none 0 0) 47).below hA; have z00 := zb.c0.1; have z01 := zb.c0.2; have z10 := zb.c1.1; have z11 := zb.c1.2; have z20 := zb.c2.1; have z21 := zb.c2.2)); (try (have zb : MatBox wb.heap.size _ 0 0 (.slice none 0 0) := (matBox_new wb.drew 0 0 (.slice none 0 0) 47).below hA; have z00 := zb.c0.1; have z01 := zb.c0.2; have z10 := zb.c1.1; have z11 := zb.c1.2; have z20 := zb.c2.1; have z21 := zb.c2.2)); clear hbd2 hA; have r0 := (HMBb.out.below hbd1).c0.1; have r1 := (HMBb.out.below hbd1).c1.1; have r2 := (HMBb.out.below hbd1).c2.1; have t0 := (HNB.out.below hbd1).c0.1; have t1 := (HNB.out.below hbd1).c1.1; have t2 := (HNB.out.below hbd1).c2.1)
                | (go_at_call_of 20 am; refine (hrm _ ?_).mono ?_; (first | exact hbd1 | exact hbd0 | exact hbd1.alloc hbd1.size _ | exact hbd0.alloc hbd0.size _); rintro e wB ⟨rfl, hA⟩; have hbd2 : Below wb.heap.size wb wB := (by first | exact hbd1.trans (hA.mono hbd1.size) | exact hbd0.trans (hA.mono hbd0.size) | exact (hbd1.alloc hbd1.size _).trans (hA.mono (hbd1.alloc hbd1.size _).size) | exact (hbd0.alloc hbd0.size _).trans (hA.mono (hbd0.alloc hbd0.size _).size)); have hbd1 := hbd2; have hsz1 := hbd1.size; have hswB := hA.size; (try rw [World.size_alloc] at hswB); (try (have hsb : (wb.alloc (.cells #[.int .i64 0, .int .i64 0, .slice none 0 0] 47)).heap.size ≤ wB.heap.size := hA.size; rw [World.size_alloc] at hsb)); (try (have zb := zb.below hA; have z00 := zb.c0.1; have z01 := zb.c0.2; have z10 := zb.c1.1; have z11 := zb.c1.2; have z20 := zb.c2.1; have z21 := zb.c2.2)); (try (have zb := (matBox_new _ 0 0 (.slice none 0 0) 47).below hA; have z00 := zb.c0.1; have z01 := zb.c0.2; have z10 := zb.c1.1; have z11 := zb.c1.2; have z20 := zb.c2.1; have z21 := zb.c2.2)); (try (have zb : MatBox wb.heap.size _ 0 0 (.slice none 0 0) := (matBox_new wb.drew 0 0 (.slice none 0 0) 47).below hA; have z00 := zb.c0.1; have z01 := zb.c0.2; have z10 := zb.c1.1; have z11 := zb.c1.2; have z20 := zb.c2.1; have z21 := zb.c2.2)); clear hbd2 hA; have r0 := (HMBb.out.below hbd1).c0.1; have r1 := (HMBb.out.below hbd1).c1.1; have r2 := (HMBb.out.below hbd1).c2.1; have t0 := (HNB.out.below hbd1).c0.1; have t1 := (HNB.out.below hbd1).c1.1; have t2 := (HNB.out.below hbd1).c2.1)
                | (go_at_call 22; refine (hpr _ ?_).mono ?_; (first | exact hbd1 | exact hbd1.alloc hbd1.size _); rintro e wC ⟨vp, rfl, hip, hCC⟩; have hbd3 : Below wb.heap.size wb wC := (by first | exact hbd1.trans (hCC.mono hbd1.size) | exact (hbd1.alloc hbd1.size _).trans (hCC.mono (hbd1.alloc hbd1.size _).size)); (try (have zb := zb.below hCC; have z00 := zb.c0.1; have z01 := zb.c0.2; have z10 := zb.c1.1; have z11 := zb.c1.2; have z20 := zb.c2.1; have z21 := zb.c2.2)); (try (have zb := (matBox_new _ 0 0 (.slice none 0 0) 47).below hCC; have z00 := zb.c0.1; have z01 := zb.c0.2; have z10 := zb.c1.1; have z11 := zb.c1.2; have z20 := zb.c2.1; have z21 := zb.c2.2)); (try (have zb : MatBox wb.heap.size _ 0 0 (.slice none 0 0) := (matBox_new wb.drew 0 0 (.slice none 0 0) 47).below hCC; have z00 := zb.c0.1; have z01 := zb.c0.2; have z10 := zb.c1.1; have z11 := zb.c1.2; have z20 := zb.c2.1; have z21 := zb.c2.2)); obtain ⟨ap, cp, rfl, -, hxp⟩ := hip.open_; clear hxp; have r0 := (HMBb.out.below hbd3).c0.1; have r1 := (HMBb.out.below hbd3).c1.1; have r2 := (HMBb.out.below hbd3).c2.1; have t0 := (HNB.out.below hbd3).c0.1; have t1 := (HNB.out.below hbd3).c1.1; have t2 := (HNB.out.below hbd3).c2.1))
              · have hQ := matBox_new wC R2.length C.length (.slice ap PR.length cp) 47
                have hBd : Below wC.heap.size wC (wC.alloc (.cells #[.int .i64 R2.length, .int .i64 C.length, .slice ap PR.length cp] 47)) := (Below.refl _ _).alloc (Nat.le_refl _) _
                have hI : Ints (wC.alloc (.cells #[.int .i64 R2.length, .int .i64 C.length, .slice ap PR.length cp] 47)) (.slice ap PR.length cp) PR := (hip.any).below hBd
                have hW : Below w.heap.size w (wC.alloc (.cells #[.int .i64 R2.length, .int .i64 C.length, .slice ap PR.length cp] 47)) := (HBb.out.trans (hbd3.mono HBb.out.size)).alloc (HBb.out.trans (hbd3.mono HBb.out.size)).size _
                obtain ⟨wD, hwD⟩ : ∃ wD, wC.alloc (.cells #[.int .i64 R2.length, .int .i64 C.length, .slice ap PR.length cp] 47) = wD := ⟨_, rfl⟩
                rw [hwD] at hQ hI hW ⊢
                have HQ : Hid (MatBox (wC.heap.size) wD R2.length C.length (.slice ap PR.length cp)) := hQ
                have HI : Hid (Ints wD (.slice ap PR.length cp) PR) := hI
                have HW : Hid (Below w.heap.size w wD) := hW
                have p2 := hQ.c2.1
                clear hQ hI hW hwD hip hbd3 hbd1 hrn hrm hpr r0 r1 r2 t0 t1 t2 n0 n1 n2 m0 m1 m2
                go_wp2
                go_loopw [16] (fun p wr => ∃ j : Nat, j ≤ PR.length ∧ p = .int .i64 j ∧ wr = wD) (fun p _ => PR.length - (intOf p).toNat)
                case atStart => exact ⟨0, by omega, rfl, rfl⟩
                case round =>
                  obtain ⟨j, hj, rfl, rfl⟩ := hrel
                  by_cases hjl : j < PR.length
                  · obtain ⟨ap', cp', eap, -, hxp⟩ := HI.out.open_
                    obtain ⟨rfl, rfl⟩ : ap = ap' ∧ cp = cp' := by simpa using eap
                    obtain ⟨bq, oq, rfl, -, -, kq⟩ := hxp (by omega)
                    have g := kq j hjl
                    rw [HPZ2.out (PR[j]?.getD 0) (by rw [List.getElem?_eq_getElem hjl]; exact List.getElem_mem hjl)] at g
                    clear kq hxp eap
                    go_wp2
                    go_roundw
                    case rel => exact ⟨j + 1, by omega, by go_num, (by first | trivial | rfl)⟩
                    case measure => simp [intOf]; omega
                  · obtain rfl : j = PR.length := by omega
                    go_wp2
                    go_ret
                    exact ⟨rfl, HW.out⟩
              · have hQ := zb.put R2.length C.length (.slice ap PR.length cp)
                have hnq : ∀ o : Nat, ¬ (fun b => (wB.alloc (.cells #[.int .i64 0, .int .i64 0, .slice none 0 0] 47)).heap.size ≤ b) (⟨wB.heap.size, o, none⟩ : Addr).block := fun o => by
                  show ¬ (wB.alloc (.cells #[.int .i64 0, .int .i64 0, .slice none 0 0] 47)).heap.size ≤ wB.heap.size
                  rw [World.size_alloc]
                  omega
                have hI := (ints_set (ints_set (ints_set hip (p := ⟨wB.heap.size, 0, none⟩) (hnq 0) (.int .i64 R2.length)) (p := ⟨wB.heap.size, 1, none⟩) (hnq 1) (.int .i64 C.length)) (p := ⟨wB.heap.size, 2, none⟩) (hnq 2) (.slice ap PR.length cp)).any
                have hW := mat_put_below (B := wB.heap.size) (HBb.out.trans (hbd3.mono HBb.out.size)) (.int .i64 R2.length) (.int .i64 C.length) (.slice ap PR.length cp) (by have := HBb.out.size; omega)
                obtain ⟨wD, hwD⟩ : ∃ wD, ((wC.setCell ⟨wB.heap.size, 0, none⟩ (.int .i64 R2.length)).setCell ⟨wB.heap.size, 1, none⟩ (.int .i64 C.length)).setCell ⟨wB.heap.size, 2, none⟩ (.slice ap PR.length cp) = wD := ⟨_, rfl⟩
                rw [hwD] at hQ hI hW ⊢
                have HQ : Hid (MatBox (wB.heap.size) wD R2.length C.length (.slice ap PR.length cp)) := hQ
                have HI : Hid (Ints wD (.slice ap PR.length cp) PR) := hI
                have HW : Hid (Below w.heap.size w wD) := hW
                have p2 := hQ.c2.1
                clear hQ hI hW hwD hip hbd3 hbd1 hrn hrm hpr r0 r1 r2 t0 t1 t2 n0 n1 n2 m0 m1 m2
                go_wp2
                go_loopw [16] (fun p wr => ∃ j : Nat, j ≤ PR.length ∧ p = .int .i64 j ∧ wr = wD) (fun p _ => PR.length - (intOf p).toNat)
                case atStart => exact ⟨0, by omega, rfl, rfl⟩
                case round =>
                  obtain ⟨j, hj, rfl, rfl⟩ := hrel
                  by_cases hjl : j < PR.length
                  · obtain ⟨ap', cp', eap, -, hxp⟩ := HI.out.open_
                    obtain ⟨rfl, rfl⟩ : ap = ap' ∧ cp = cp' := by simpa using eap
                    obtain ⟨bq, oq, rfl, -, -, kq⟩ := hxp (by omega)
                    have g := kq j hjl
                    rw [HPZ2.out (PR[j]?.getD 0) (by rw [List.getElem?_eq_getElem hjl]; exact List.getElem_mem hjl)] at g
                    clear kq hxp eap
                    go_wp2
                    go_roundw
                    case rel => exact ⟨j + 1, by omega, by go_num, (by first | trivial | rfl)⟩
                    case measure => simp [intOf]; omega
                  · obtain rfl : j = PR.length := by omega
                    go_wp2
                    go_ret
                    exact ⟨rfl, HW.out⟩
              · have hQ := zb.put R2.length C.length (.slice ap PR.length cp)
                have hnq : ∀ o : Nat, ¬ (fun b => wB.heap.size ≤ b) (⟨wA.heap.size, o, none⟩ : Addr).block := fun o => by
                  show ¬ wB.heap.size ≤ wA.heap.size
                  skip
                  omega
                have hI := (ints_set (ints_set (ints_set hip (p := ⟨wA.heap.size, 0, none⟩) (hnq 0) (.int .i64 R2.length)) (p := ⟨wA.heap.size, 1, none⟩) (hnq 1) (.int .i64 C.length)) (p := ⟨wA.heap.size, 2, none⟩) (hnq 2) (.slice ap PR.length cp)).any
                have hW := mat_put_below (B := wA.heap.size) (HBb.out.trans (hbd3.mono HBb.out.size)) (.int .i64 R2.length) (.int .i64 C.length) (.slice ap PR.length cp) (by have := HBb.out.size; omega)
                obtain ⟨wD, hwD⟩ : ∃ wD, ((wC.setCell ⟨wA.heap.size, 0, none⟩ (.int .i64 R2.length)).setCell ⟨wA.heap.size, 1, none⟩ (.int .i64 C.length)).setCell ⟨wA.heap.size, 2, none⟩ (.slice ap PR.length cp) = wD := ⟨_, rfl⟩
                rw [hwD] at hQ hI hW ⊢
                have HQ : Hid (MatBox (wA.heap.size) wD R2.length C.length (.slice ap PR.length cp)) := hQ
                have HI : Hid (Ints wD (.slice ap PR.length cp) PR) := hI
                have HW : Hid (Below w.heap.size w wD) := hW
                have p2 := hQ.c2.1
                clear hQ hI hW hwD hip hbd3 hbd1 hrn hrm hpr r0 r1 r2 t0 t1 t2 n0 n1 n2 m0 m1 m2
                go_wp2
                go_loopw [16] (fun p wr => ∃ j : Nat, j ≤ PR.length ∧ p = .int .i64 j ∧ wr = wD) (fun p _ => PR.length - (intOf p).toNat)
                case atStart => exact ⟨0, by omega, rfl, rfl⟩
                case round =>
                  obtain ⟨j, hj, rfl, rfl⟩ := hrel
                  by_cases hjl : j < PR.length
                  · obtain ⟨ap', cp', eap, -, hxp⟩ := HI.out.open_
                    obtain ⟨rfl, rfl⟩ : ap = ap' ∧ cp = cp' := by simpa using eap
                    obtain ⟨bq, oq, rfl, -, -, kq⟩ := hxp (by omega)
                    have g := kq j hjl
                    rw [HPZ2.out (PR[j]?.getD 0) (by rw [List.getElem?_eq_getElem hjl]; exact List.getElem_mem hjl)] at g
                    clear kq hxp eap
                    go_wp2
                    go_roundw
                    case rel => exact ⟨j + 1, by omega, by go_num, (by first | trivial | rfl)⟩
                    case measure => simp [intOf]; omega
                  · obtain rfl : j = PR.length := by omega
                    go_wp2
                    go_ret
                    exact ⟨rfl, HW.out⟩
              · have hQ := zb.put R2.length C.length (.slice ap PR.length cp)
                have hnq : ∀ o : Nat, ¬ (fun b => wB.heap.size ≤ b) (⟨wb.heap.size, o, none⟩ : Addr).block := fun o => by
                  show ¬ wB.heap.size ≤ wb.heap.size
                  skip
                  omega
                have hI := (ints_set (ints_set (ints_set hip (p := ⟨wb.heap.size, 0, none⟩) (hnq 0) (.int .i64 R2.length)) (p := ⟨wb.heap.size, 1, none⟩) (hnq 1) (.int .i64 C.length)) (p := ⟨wb.heap.size, 2, none⟩) (hnq 2) (.slice ap PR.length cp)).any
                have hW := mat_put_below (B := wb.heap.size) (HBb.out.trans (hbd3.mono HBb.out.size)) (.int .i64 R2.length) (.int .i64 C.length) (.slice ap PR.length cp) (by have := HBb.out.size; omega)
                obtain ⟨wD, hwD⟩ : ∃ wD, ((wC.setCell ⟨wb.heap.size, 0, none⟩ (.int .i64 R2.length)).setCell ⟨wb.heap.size, 1, none⟩ (.int .i64 C.length)).setCell ⟨wb.heap.size, 2, none⟩ (.slice ap PR.length cp) = wD := ⟨_, rfl⟩
                rw [hwD] at hQ hI hW ⊢
                have HQ : Hid (MatBox (wb.heap.size) wD R2.length C.length (.slice ap PR.length cp)) := hQ
                have HI : Hid (Ints wD (.slice ap PR.length cp) PR) := hI
                have HW : Hid (Below w.heap.size w wD) := hW
                have p2 := hQ.c2.1
                clear hQ hI hW hwD hip hbd3 hbd1 hrn hrm hpr r0 r1 r2 t0 t1 t2 n0 n1 n2 m0 m1 m2
                go_wp2
                go_loopw [16] (fun p wr => ∃ j : Nat, j ≤ PR.length ∧ p = .int .i64 j ∧ wr = wD) (fun p _ => PR.length - (intOf p).toNat)
                case atStart => exact ⟨0, by omega, rfl, rfl⟩
                case round =>
                  obtain ⟨j, hj, rfl, rfl⟩ := hrel
                  by_cases hjl : j < PR.length
                  · obtain ⟨ap', cp', eap, -, hxp⟩ := HI.out.open_
                    obtain ⟨rfl, rfl⟩ : ap = ap' ∧ cp = cp' := by simpa using eap
                    obtain ⟨bq, oq, rfl, -, -, kq⟩ := hxp (by omega)
                    have g := kq j hjl
                    rw [HPZ2.out (PR[j]?.getD 0) (by rw [List.getElem?_eq_getElem hjl]; exact List.getElem_mem hjl)] at g
                    clear kq hxp eap
                    go_wp2
                    go_roundw
                    case rel => exact ⟨j + 1, by omega, by go_num, (by first | trivial | rfl)⟩
                    case measure => simp [intOf]; omega
                  · obtain rfl : j = PR.length := by omega
                    go_wp2
                    go_ret
                    exact ⟨rfl, HW.out⟩

end Go.Proofs.YtopopbhpclhinaaDoor
