/- What reeb.open answers of a complex: which heights are none. -/
import Derived.Test.YtmndhclmhjmbpaaGreatDoorIdxLawW
import Derived.Test.YtmndhclmhjmbpaaGreatDoorFault0
namespace Go.Proofs.YtmndhclmhjmbpaaGreatDoor
open Go.RowKit Go.Sort Go.Lib

theorem Hid.mk9 {p : Prop} (h : p) : Hid p := h
theorem verts_len {l p : List (List Int)} (g : Good l p) : (vertI p).length ≤ 100 := by
  have h := nodup_le (rising_nodup (vertI_rising g.isAll.order)) (Y := (List.range 100).map fun k : Nat => (k : Int)) (fun v hv => by
    have := (face_ok_of g (vertI_mem.1 hv)).1.2.2 v (by simp)
    exact List.mem_map.2 ⟨v.toNat, List.mem_range.2 (by omega), by omega⟩)
  simpa using h

set_option maxRecDepth 100000 in
set_option maxHeartbeats 4000000 in
theorem open_len {a : Nat → Addr} {s : Nat → ByteArray} {l all : List (List Int)} (vl vh : Value) (V h : List Int) (w : World) (hE : Errs a s w) (hl : Rows w vl l) (hll : l.length ≤ 600) (hle : ∀ x ∈ l, x.length ≤ 1000) (hg : Good l all) (hV : vertI all = V) (hh : Ints w vh h) (hne : h.length ≠ V.length) :
    Calls Tryz.prog 54 #[.agg #[vl], vh] w fun e w' => (∃ a0 n0 c0 a1 n1 c1 a2 n2 c2, e = .returned (.tuple #[.agg #[.slice a0 n0 c0, .slice a1 n1 c1, .slice a2 n2 c2], .iface 233 (.pointer (some (a 2)))])) ∧ Below w.heap.size w w' := by
  have hl0 := hl
  have hh0 := hh
  obtain ⟨al, cl, rfl, -, -⟩ := hl.open_
  obtain ⟨ah, ch, rfl, -, -⟩ := hh.open_
  have hv99 : ∀ v ∈ V, 0 ≤ v ∧ v ≤ 99 := fun v hv => by
    rw [← hV] at hv
    have h1 := face_ok_of hg (vertI_mem.1 hv)
    have := h1.1.2.2 v (by simp)
    omega
  have hV1 : V.length ≤ 100 := by rw [← hV]; exact verts_len hg
  have HF0 : Hid (∀ (W : World), Below w.heap.size w W → Calls Tryz.prog 55 #[.agg #[.slice al l.length cl], .int .i64 0] W fun e w' => ∃ a0 c0, e = .returned (.tuple #[.slice a0 V.length c0, .nilIface]) ∧ Rows w' (.slice a0 V.length c0) (V.map fun v => [v]) ∧ Below W.heap.size W w') := fun W hB =>
    (faces_call _ l 0 W (hE.below hB) (hl0.below hB) (by omega) hle).mono fun e w' ⟨h1, h2⟩ => by
      rcases h2 with ⟨j, hb', _⟩ | ⟨all', v, hg', he, hr⟩
      · exact (bad_good hb' hg).elim
      · obtain rfl := good_one hg hg'
        rw [ofDim_zero, hV] at hr
        have hr0 := hr
        obtain ⟨av, cv, rfl, -, -⟩ := hr.open_
        rw [List.length_map] at he hr0
        exact ⟨av, cv, he, hr0, h1⟩
  obtain ⟨E, hEd⟩ : ∃ E, ofDim all 1 = E := ⟨_, rfl⟩
  have HF1 : Hid (∀ (W : World), Below w.heap.size w W → Calls Tryz.prog 55 #[.agg #[.slice al l.length cl], .int .i64 1] W fun e w' => ∃ a0 c0, e = .returned (.tuple #[.slice a0 E.length c0, .nilIface]) ∧ Rows w' (.slice a0 E.length c0) E ∧ Below W.heap.size W w') := fun W hB =>
    (faces_call _ l 1 W (hE.below hB) (hl0.below hB) (by omega) hle).mono fun e w' ⟨h1, h2⟩ => by
      rcases h2 with ⟨j, hb', _⟩ | ⟨all', v, hg', he, hr⟩
      · exact (bad_good hb' hg).elim
      · obtain rfl := good_one hg hg'
        rw [hEd] at hr
        have hr0 := hr
        obtain ⟨av, cv, rfl, -, -⟩ := hr.open_
        exact ⟨av, cv, he, hr0, h1⟩
  have HE : Hid (Errs a s w) := hE
  have HHI : Hid (Ints w (.slice ah h.length ch) h) := hh0
  obtain ⟨w1, hw1, hB1, hc1, hv1⟩ := land_start w (.slice al l.length cl)
  have HB1 : Hid (Below w.heap.size w w1) := hB1
  have HC1 : Hid (w1.cell? ⟨w.heap.size, 0, none⟩ = some (.slice al l.length cl)) := hc1
  have HV1 : Hid (VecAt 100 3 (w.heap.size + 1) w1 (fun _ => .slice none 0 0)) := hv1
  have HVL : Hid (V.length ≤ 100) := hV1
  obtain ⟨hn, hhn⟩ : ∃ hn, h.length = hn := ⟨_, rfl⟩
  obtain ⟨vn, hvn⟩ : ∃ vn, V.length = vn := ⟨_, rfl⟩
  obtain ⟨en, hen⟩ : ∃ en, E.length = en := ⟨_, rfl⟩
  have hbb : ((hn : Int) != (vn : Int)) = true := bne_iff_ne.2 (by omega)
  rw [hhn] at HHI ⊢
  rw [hvn] at HF0 HVL
  rw [hen] at HF1
  clear hl hl0 hh hh0 hll hle hg hB1 hv1 hE hv99 hV hEd hV1 hne hhn hvn hen
  go_enter Tryz.func54, Tryz.ntmps54
  go_wp2_with fail
  refine (HF0.out _ HB1.out).mono ?_
  rintro e V1 ⟨a0, c0, rfl, hr0, hV⟩
  have HB2 : Hid (Below w.heap.size w V1) := HB1.out.trans (hV.mono HB1.out.size)
  have HV2 : Hid (VecAt 100 3 (w.heap.size + 1) V1 (fun _ => .slice none 0 0)) := HV1.out.below hV
  have hc2 := (hV.cell (p := ⟨w.heap.size, 0, none⟩) (cell_lt HC1.out)).trans HC1.out
  have HR0 : Hid (Rows V1 (.slice a0 vn c0) (V.map fun v => [v])) := hr0
  clear hV hr0 hc1 HB1 HV1 HF0
  go_wp2_with fail
  refine (HF1.out _ HB2.out).mono ?_
  rintro e V2 ⟨a1, c1, rfl, hr1, hV⟩
  have HB3 : Hid (Below w.heap.size w V2) := HB2.out.trans (hV.mono HB2.out.size)
  have HV3 : Hid (VecAt 100 3 (w.heap.size + 1) V2 (fun _ => .slice none 0 0)) := HV2.out.below hV
  have HC3 : Hid (V2.cell? ⟨w.heap.size, 0, none⟩ = some (.slice al l.length cl)) := (hV.cell (p := ⟨w.heap.size, 0, none⟩) (cell_lt hc2)).trans hc2
  have HR1 : Hid (Rows V2 (.slice a0 vn c0) (V.map fun v => [v])) := HR0.out.below hV
  have HS1 : Hid (Rows V2 (.slice a1 en c1) E) := hr1
  clear hV hr1 hc2 HB2 HV2 HF1 HR0 HC1
  obtain ⟨e0, d0⟩ := HV3.out.cell (k := 0) (by omega)
  obtain ⟨e1, d1⟩ := HV3.out.cell (k := 1) (by omega)
  obtain ⟨e2, d2⟩ := HV3.out.cell (k := 2) (by omega)
  have gE : V2.cell? ⟨1, 0, none⟩ = some (.iface 233 (.pointer (some (a 2)))) := (HE.out.below HB3.out).glob 2 (by decide)
  have hgl : 1 < w.heap.size := cell_lt (HE.out.glob 2 (by decide))
  have gE1 : (V2.setCell ⟨w.heap.size + 1, 0, none⟩ (.slice none 0 0)).cell? ⟨1, 0, none⟩ = some (.iface 233 (.pointer (some (a 2)))) := (World.cell?_setCell_other _ _ _ _ (by intro e; have h2 : (1 : Nat) = w.heap.size + 1 := (by first | exact congrArg Addr.block e | exact (congrArg Addr.block e).symm); omega)).trans gE
  go_wp2_with fail
  go_region
  go_wp2_with fail
  obtain ⟨W9, hW9, hv9, hb9⟩ := land_put HV3.out (.slice none 0 0) (.slice none 0 0) (.slice none 0 0)
  rw [hW9]
  have hl2 := land_load (W := W9.drew) hv9
  refine bodyPost_ret (v := .tuple #[.agg #[.slice none 0 0, .slice none 0 0, .slice none 0 0], .iface 233 (.pointer (some (a 2)))]) ?_ rfl ⟨⟨_, _, _, _, _, _, _, _, _, rfl⟩, (hb9 w HB3.out (by omega)).drew⟩
  rw [results_cell_tmp rfl]
  simp [asAddr, Result.andThen, hl2]

set_option maxRecDepth 100000 in
set_option maxHeartbeats 4000000 in
theorem open_great {a : Nat → Addr} {s : Nat → ByteArray} {l all : List (List Int)} (vl vh : Value) (V h : List Int) (w : World) (hE : Errs a s w) (hl : Rows w vl l) (hll : l.length ≤ 600) (hle : ∀ x ∈ l, x.length ≤ 1000) (hg : Good l all) (hV : vertI all = V) (hh : Ints w vh h) (hhl : h.length ≤ 1000) (hne : h.length = V.length) (hgr : h.any greatB = true) :
    Calls Tryz.prog 54 #[.agg #[vl], vh] w fun e w' => (∃ a0 n0 c0 a1 n1 c1 a2 n2 c2, e = .returned (.tuple #[.agg #[.slice a0 n0 c0, .slice a1 n1 c1, .slice a2 n2 c2], .iface 233 (.pointer (some (a 2)))])) ∧ Below w.heap.size w w' := by
  have hl0 := hl
  have hh0 := hh
  obtain ⟨al, cl, rfl, -, -⟩ := hl.open_
  obtain ⟨ah, ch, rfl, -, -⟩ := hh.open_
  have hv99 : ∀ v ∈ V, 0 ≤ v ∧ v ≤ 99 := fun v hv => by
    rw [← hV] at hv
    have h1 := face_ok_of hg (vertI_mem.1 hv)
    have := h1.1.2.2 v (by simp)
    omega
  have hV1 : V.length ≤ 100 := by rw [← hV]; exact verts_len hg
  have HF0 : Hid (∀ (W : World), Below w.heap.size w W → Calls Tryz.prog 55 #[.agg #[.slice al l.length cl], .int .i64 0] W fun e w' => ∃ a0 c0, e = .returned (.tuple #[.slice a0 V.length c0, .nilIface]) ∧ Rows w' (.slice a0 V.length c0) (V.map fun v => [v]) ∧ Below W.heap.size W w') := fun W hB =>
    (faces_call _ l 0 W (hE.below hB) (hl0.below hB) (by omega) hle).mono fun e w' ⟨h1, h2⟩ => by
      rcases h2 with ⟨j, hb', _⟩ | ⟨all', v, hg', he, hr⟩
      · exact (bad_good hb' hg).elim
      · obtain rfl := good_one hg hg'
        rw [ofDim_zero, hV] at hr
        have hr0 := hr
        obtain ⟨av, cv, rfl, -, -⟩ := hr.open_
        rw [List.length_map] at he hr0
        exact ⟨av, cv, he, hr0, h1⟩
  obtain ⟨E, hEd⟩ : ∃ E, ofDim all 1 = E := ⟨_, rfl⟩
  have HF1 : Hid (∀ (W : World), Below w.heap.size w W → Calls Tryz.prog 55 #[.agg #[.slice al l.length cl], .int .i64 1] W fun e w' => ∃ a0 c0, e = .returned (.tuple #[.slice a0 E.length c0, .nilIface]) ∧ Rows w' (.slice a0 E.length c0) E ∧ Below W.heap.size W w') := fun W hB =>
    (faces_call _ l 1 W (hE.below hB) (hl0.below hB) (by omega) hle).mono fun e w' ⟨h1, h2⟩ => by
      rcases h2 with ⟨j, hb', _⟩ | ⟨all', v, hg', he, hr⟩
      · exact (bad_good hb' hg).elim
      · obtain rfl := good_one hg hg'
        rw [hEd] at hr
        have hr0 := hr
        obtain ⟨av, cv, rfl, -, -⟩ := hr.open_
        exact ⟨av, cv, he, hr0, h1⟩
  have HE : Hid (Errs a s w) := hE
  have HHI : Hid (Ints w (.slice ah h.length ch) h) := hh0
  obtain ⟨w1, hw1, hB1, hc1, hv1⟩ := land_start w (.slice al l.length cl)
  have HB1 : Hid (Below w.heap.size w w1) := hB1
  have HC1 : Hid (w1.cell? ⟨w.heap.size, 0, none⟩ = some (.slice al l.length cl)) := hc1
  have HV1 : Hid (VecAt 100 3 (w.heap.size + 1) w1 (fun _ => .slice none 0 0)) := hv1
  have HVL : Hid (V.length ≤ 100) := hV1
  obtain ⟨hn, hhn⟩ : ∃ hn, h.length = hn := ⟨_, rfl⟩
  obtain ⟨vn, hvn⟩ : ∃ vn, V.length = vn := ⟨_, rfl⟩
  obtain ⟨en, hen⟩ : ∃ en, E.length = en := ⟨_, rfl⟩
  obtain rfl : hn = vn := by omega
  have HG : Hid (∀ W, Below w.heap.size w W → Calls Tryz.prog 80 #[.slice ah hn ch, .func (.func 81) #[] #[]] W fun e w' => e = .returned (.bool true) ∧ Below W.heap.size W w') := fun W hB => by
    have := any_great ah ch h W (hh0.below hB) (by omega)
    rw [hgr, hhn] at this
    exact this
  rw [hhn] at HHI ⊢
  rw [hvn] at HF0 HVL
  rw [hen] at HF1
  clear hl hl0 hh hh0 hll hle hg hB1 hv1 hE hv99 hV hEd hV1 hhl hne hhn hvn hen hgr
  go_enter Tryz.func54, Tryz.ntmps54
  go_wp2_with fail
  refine (HF0.out _ HB1.out).mono ?_
  rintro e V1 ⟨a0, c0, rfl, hr0, hV⟩
  have HB2 : Hid (Below w.heap.size w V1) := HB1.out.trans (hV.mono HB1.out.size)
  have HV2 : Hid (VecAt 100 3 (w.heap.size + 1) V1 (fun _ => .slice none 0 0)) := HV1.out.below hV
  have hc2 := (hV.cell (p := ⟨w.heap.size, 0, none⟩) (cell_lt HC1.out)).trans HC1.out
  have HR0 : Hid (Rows V1 (.slice a0 hn c0) (V.map fun v => [v])) := hr0
  clear hV hr0 hc1 HB1 HV1 HF0
  go_wp2_with fail
  refine (HF1.out _ HB2.out).mono ?_
  rintro e V2 ⟨a1, c1, rfl, hr1, hV⟩
  have HB3 : Hid (Below w.heap.size w V2) := HB2.out.trans (hV.mono HB2.out.size)
  have HV3 : Hid (VecAt 100 3 (w.heap.size + 1) V2 (fun _ => .slice none 0 0)) := HV2.out.below hV
  have HC3 : Hid (V2.cell? ⟨w.heap.size, 0, none⟩ = some (.slice al l.length cl)) := (hV.cell (p := ⟨w.heap.size, 0, none⟩) (cell_lt hc2)).trans hc2
  have HR1 : Hid (Rows V2 (.slice a0 hn c0) (V.map fun v => [v])) := HR0.out.below hV
  have HS1 : Hid (Rows V2 (.slice a1 en c1) E) := hr1
  clear hV hr1 hc2 HB2 HV2 HF1 HR0 HC1
  go_wp2_with fail
  refine (HG.out _ HB3.out).mono ?_
  rintro e V3 ⟨rfl, hV⟩
  have HB4 : Hid (Below w.heap.size w V3) := HB3.out.trans (hV.mono HB3.out.size)
  have HV4 : Hid (VecAt 100 3 (w.heap.size + 1) V3 (fun _ => .slice none 0 0)) := HV3.out.below hV
  have HC4 : Hid (V3.cell? ⟨w.heap.size, 0, none⟩ = some (.slice al l.length cl)) := (hV.cell (p := ⟨w.heap.size, 0, none⟩) (cell_lt HC3.out)).trans HC3.out
  have HR2 : Hid (Rows V3 (.slice a0 hn c0) (V.map fun v => [v])) := HR1.out.below hV
  have HS2 : Hid (Rows V3 (.slice a1 en c1) E) := HS1.out.below hV
  clear hV HB3 HV3 HC3 HR1 HS1 HG
  obtain ⟨e0, d0⟩ := HV4.out.cell (k := 0) (by omega)
  obtain ⟨e1, d1⟩ := HV4.out.cell (k := 1) (by omega)
  obtain ⟨e2, d2⟩ := HV4.out.cell (k := 2) (by omega)
  have gE : V3.cell? ⟨1, 0, none⟩ = some (.iface 233 (.pointer (some (a 2)))) := (HE.out.below HB4.out).glob 2 (by decide)
  have hgl : 1 < w.heap.size := cell_lt (HE.out.glob 2 (by decide))
  have gE1 : (V3.setCell ⟨w.heap.size + 1, 0, none⟩ (.slice none 0 0)).cell? ⟨1, 0, none⟩ = some (.iface 233 (.pointer (some (a 2)))) := (World.cell?_setCell_other _ _ _ _ (by intro e; have h2 : (1 : Nat) = w.heap.size + 1 := (by first | exact congrArg Addr.block e | exact (congrArg Addr.block e).symm); omega)).trans gE
  go_wp2_with fail
  go_region
  go_wp2_with fail
  obtain ⟨W9, hW9, hv9, hb9⟩ := land_put HV4.out (.slice none 0 0) (.slice none 0 0) (.slice none 0 0)
  rw [hW9]
  have hl2 := land_load (W := W9.drew) hv9
  refine bodyPost_ret (v := .tuple #[.agg #[.slice none 0 0, .slice none 0 0, .slice none 0 0], .iface 233 (.pointer (some (a 2)))]) ?_ rfl ⟨⟨_, _, _, _, _, _, _, _, _, rfl⟩, (hb9 w HB4.out (by omega)).drew⟩
  rw [results_cell_tmp rfl]
  simp [asAddr, Result.andThen, hl2]

set_option maxRecDepth 100000 in
set_option maxHeartbeats 4000000 in
theorem open_alike {a : Nat → Addr} {s : Nat → ByteArray} {l all : List (List Int)} (vl vh : Value) (V h : List Int) (w : World) (hE : Errs a s w) (hl : Rows w vl l) (hll : l.length ≤ 600) (hle : ∀ x ∈ l, x.length ≤ 1000) (hg : Good l all) (hV : vertI all = V) (hh : Ints w vh h) (hhl : h.length ≤ 1000) (hne : h.length = V.length) (hgr : ∀ x ∈ h, -1048576 ≤ x ∧ x ≤ 1048576) (hnd : ¬ h.Nodup) :
    Calls Tryz.prog 54 #[.agg #[vl], vh] w fun e w' => (∃ a0 n0 c0 a1 n1 c1 a2 n2 c2, e = .returned (.tuple #[.agg #[.slice a0 n0 c0, .slice a1 n1 c1, .slice a2 n2 c2], .iface 233 (.pointer (some (a 2)))])) ∧ Below w.heap.size w w' := by
  have hl0 := hl
  have hh0 := hh
  obtain ⟨al, cl, rfl, -, -⟩ := hl.open_
  obtain ⟨ah, ch, rfl, -, -⟩ := hh.open_
  have hv99 : ∀ v ∈ V, 0 ≤ v ∧ v ≤ 99 := fun v hv => by
    rw [← hV] at hv
    have h1 := face_ok_of hg (vertI_mem.1 hv)
    have := h1.1.2.2 v (by simp)
    omega
  have hV1 : V.length ≤ 100 := by rw [← hV]; exact verts_len hg
  have HF0 : Hid (∀ (W : World), Below w.heap.size w W → Calls Tryz.prog 55 #[.agg #[.slice al l.length cl], .int .i64 0] W fun e w' => ∃ a0 c0, e = .returned (.tuple #[.slice a0 V.length c0, .nilIface]) ∧ Rows w' (.slice a0 V.length c0) (V.map fun v => [v]) ∧ Below W.heap.size W w') := fun W hB =>
    (faces_call _ l 0 W (hE.below hB) (hl0.below hB) (by omega) hle).mono fun e w' ⟨h1, h2⟩ => by
      rcases h2 with ⟨j, hb', _⟩ | ⟨all', v, hg', he, hr⟩
      · exact (bad_good hb' hg).elim
      · obtain rfl := good_one hg hg'
        rw [ofDim_zero, hV] at hr
        have hr0 := hr
        obtain ⟨av, cv, rfl, -, -⟩ := hr.open_
        rw [List.length_map] at he hr0
        exact ⟨av, cv, he, hr0, h1⟩
  obtain ⟨E, hEd⟩ : ∃ E, ofDim all 1 = E := ⟨_, rfl⟩
  have HF1 : Hid (∀ (W : World), Below w.heap.size w W → Calls Tryz.prog 55 #[.agg #[.slice al l.length cl], .int .i64 1] W fun e w' => ∃ a0 c0, e = .returned (.tuple #[.slice a0 E.length c0, .nilIface]) ∧ Rows w' (.slice a0 E.length c0) E ∧ Below W.heap.size W w') := fun W hB =>
    (faces_call _ l 1 W (hE.below hB) (hl0.below hB) (by omega) hle).mono fun e w' ⟨h1, h2⟩ => by
      rcases h2 with ⟨j, hb', _⟩ | ⟨all', v, hg', he, hr⟩
      · exact (bad_good hb' hg).elim
      · obtain rfl := good_one hg hg'
        rw [hEd] at hr
        have hr0 := hr
        obtain ⟨av, cv, rfl, -, -⟩ := hr.open_
        exact ⟨av, cv, he, hr0, h1⟩
  have HND : Hid (¬ h.Nodup) := hnd
  have HE : Hid (Errs a s w) := hE
  have HHI : Hid (Ints w (.slice ah h.length ch) h) := hh0
  obtain ⟨w1, hw1, hB1, hc1, hv1⟩ := land_start w (.slice al l.length cl)
  have HB1 : Hid (Below w.heap.size w w1) := hB1
  have HC1 : Hid (w1.cell? ⟨w.heap.size, 0, none⟩ = some (.slice al l.length cl)) := hc1
  have HV1 : Hid (VecAt 100 3 (w.heap.size + 1) w1 (fun _ => .slice none 0 0)) := hv1
  have HVL : Hid (V.length ≤ 100) := hV1
  obtain ⟨hn, hhn⟩ : ∃ hn, h.length = hn := ⟨_, rfl⟩
  obtain ⟨vn, hvn⟩ : ∃ vn, V.length = vn := ⟨_, rfl⟩
  obtain ⟨en, hen⟩ : ∃ en, E.length = en := ⟨_, rfl⟩
  obtain rfl : hn = vn := by omega
  have HG : Hid (∀ W, Below w.heap.size w W → Calls Tryz.prog 80 #[.slice ah hn ch, .func (.func 81) #[] #[]] W fun e w' => e = .returned (.bool false) ∧ Below W.heap.size W w') := fun W hB => by
    have := any_great ah ch h W (hh0.below hB) (by omega)
    rw [great_iff.2 hgr, hhn] at this
    exact this
  have HSO : Hid (∀ (W : World) (a0 : Option Addr) (c0 : Nat), Below w.heap.size w W → Rows W (.slice a0 hn c0) (V.map fun v => [v]) → Calls Tryz.prog 82 #[.slice a0 hn c0, .slice ah hn ch] W fun e w' => ∃ aS cS lS, e = .returned (.slice aS hn cS) ∧ lS.length = hn ∧ DuoIn anyBlock w' (.slice aS hn cS) lS ∧ (Alike lS ↔ ¬ h.Nodup) ∧ (∀ p ∈ lS, 0 ≤ p.1 ∧ p.1 ≤ 99) ∧ Below W.heap.size W w') := fun W a0 c0 hB hr => by
    have := spots_sorted a0 ah c0 ch V h W (by rw [hvn]; exact hr) (hh0.below hB) hne hV1
    rw [hvn, hhn] at this
    refine this.mono fun e w' ⟨v, lS, h1, h2, h3, h4, h5⟩ => ?_
    have h6 : lS.length = hn := by rw [h3.length_eq, List.length_zip]; omega
    have h7 := h2.reads (S := anyBlock) (fun _ _ _ => trivial)
    have h8 := h7
    obtain ⟨aS, cS, rfl, -⟩ := h7
    rw [h6] at h1 h8
    refine ⟨aS, cS, lS, h1, h6, h8, alike_iff hne h3 h4, fun p hp => ?_, h5⟩
    have := (h3.mem_iff).1 hp
    exact hv99 _ (List.of_mem_zip (show (p.1, p.2) ∈ V.zip h from this)).1
  rw [hhn] at HHI ⊢
  rw [hvn] at HF0 HVL
  rw [hen] at HF1
  clear hl hl0 hh hh0 hll hle hg hB1 hv1 hE hv99 hV hEd hV1 hhl hne hhn hvn hen hgr hnd
  go_enter Tryz.func54, Tryz.ntmps54
  go_wp2_with fail
  refine (HF0.out _ HB1.out).mono ?_
  rintro e V1 ⟨a0, c0, rfl, hr0, hV⟩
  have HB2 : Hid (Below w.heap.size w V1) := HB1.out.trans (hV.mono HB1.out.size)
  have HV2 : Hid (VecAt 100 3 (w.heap.size + 1) V1 (fun _ => .slice none 0 0)) := HV1.out.below hV
  have hc2 := (hV.cell (p := ⟨w.heap.size, 0, none⟩) (cell_lt HC1.out)).trans HC1.out
  have HR0 : Hid (Rows V1 (.slice a0 hn c0) (V.map fun v => [v])) := hr0
  clear hV hr0 hc1 HB1 HV1 HF0
  go_wp2_with fail
  refine (HF1.out _ HB2.out).mono ?_
  rintro e V2 ⟨a1, c1, rfl, hr1, hV⟩
  have HB3 : Hid (Below w.heap.size w V2) := HB2.out.trans (hV.mono HB2.out.size)
  have HV3 : Hid (VecAt 100 3 (w.heap.size + 1) V2 (fun _ => .slice none 0 0)) := HV2.out.below hV
  have HC3 : Hid (V2.cell? ⟨w.heap.size, 0, none⟩ = some (.slice al l.length cl)) := (hV.cell (p := ⟨w.heap.size, 0, none⟩) (cell_lt hc2)).trans hc2
  have HR1 : Hid (Rows V2 (.slice a0 hn c0) (V.map fun v => [v])) := HR0.out.below hV
  have HS1 : Hid (Rows V2 (.slice a1 en c1) E) := hr1
  clear hV hr1 hc2 HB2 HV2 HF1 HR0 HC1
  go_wp2_with fail
  refine (HG.out _ HB3.out).mono ?_
  rintro e V3 ⟨rfl, hV⟩
  have HB4 : Hid (Below w.heap.size w V3) := HB3.out.trans (hV.mono HB3.out.size)
  have HV4 : Hid (VecAt 100 3 (w.heap.size + 1) V3 (fun _ => .slice none 0 0)) := HV3.out.below hV
  have HC4 : Hid (V3.cell? ⟨w.heap.size, 0, none⟩ = some (.slice al l.length cl)) := (hV.cell (p := ⟨w.heap.size, 0, none⟩) (cell_lt HC3.out)).trans HC3.out
  have HR2 : Hid (Rows V3 (.slice a0 hn c0) (V.map fun v => [v])) := HR1.out.below hV
  have HS2 : Hid (Rows V3 (.slice a1 en c1) E) := HS1.out.below hV
  clear hV HB3 HV3 HC3 HR1 HS1 HG
  go_wp2_with fail
  refine (HSO.out _ _ _ HB4.out HR2.out).mono ?_
  rintro e V4 ⟨aS, cS, lS, rfl, hlS, hdS, hal, hpS, hV⟩
  have HB5 : Hid (Below w.heap.size w V4) := HB4.out.trans (hV.mono HB4.out.size)
  have HV5 : Hid (VecAt 100 3 (w.heap.size + 1) V4 (fun _ => .slice none 0 0)) := HV4.out.below hV
  have HC5 : Hid (V4.cell? ⟨w.heap.size, 0, none⟩ = some (.slice al l.length cl)) := (hV.cell (p := ⟨w.heap.size, 0, none⟩) (cell_lt HC4.out)).trans HC4.out
  have HR3 : Hid (Rows V4 (.slice a0 hn c0) (V.map fun v => [v])) := HR2.out.below hV
  have HS3 : Hid (Rows V4 (.slice a1 en c1) E) := HS2.out.below hV
  have HD3 : Hid (DuoIn anyBlock V4 (.slice aS hn cS) lS ∧ lS.length = hn ∧ ∀ p ∈ lS, 0 ≤ p.1 ∧ p.1 ≤ 99) := ⟨hdS, hlS, hpS⟩
  have htw := two_alike _ lS anyBlock V4 hdS (by have := HVL.out; omega) true (by rw [hal]; exact ⟨fun _ => HND.out, fun _ => rfl⟩)
  clear hV HB4 HV4 HC4 HR2 HS2 HSO hdS hlS hpS hal
  go_wp2_with fail
  refine htw.mono ?_
  clear htw
  rintro e V5 ⟨rfl, hV⟩
  have HB6 : Hid (Below w.heap.size w V5) := HB5.out.trans (hV.mono HB5.out.size)
  have HV6 : Hid (VecAt 100 3 (w.heap.size + 1) V5 (fun _ => .slice none 0 0)) := HV5.out.below hV
  have HC6 : Hid (V5.cell? ⟨w.heap.size, 0, none⟩ = some (.slice al l.length cl)) := (hV.cell (p := ⟨w.heap.size, 0, none⟩) (cell_lt HC5.out)).trans HC5.out
  have HR4 : Hid (Rows V5 (.slice a0 hn c0) (V.map fun v => [v])) := HR3.out.below hV
  have HS4 : Hid (Rows V5 (.slice a1 en c1) E) := HS3.out.below hV
  have HD4 : Hid (DuoIn anyBlock V5 (.slice aS hn cS) lS ∧ lS.length = hn ∧ ∀ p ∈ lS, 0 ≤ p.1 ∧ p.1 ≤ 99) := ⟨HD3.out.1.below hV, HD3.out.2⟩
  clear hV HB5 HV5 HC5 HR3 HS3 HD3
  obtain ⟨e0, d0⟩ := HV6.out.cell (k := 0) (by omega)
  obtain ⟨e1, d1⟩ := HV6.out.cell (k := 1) (by omega)
  obtain ⟨e2, d2⟩ := HV6.out.cell (k := 2) (by omega)
  have gE : V5.cell? ⟨1, 0, none⟩ = some (.iface 233 (.pointer (some (a 2)))) := (HE.out.below HB6.out).glob 2 (by decide)
  have hgl : 1 < w.heap.size := cell_lt (HE.out.glob 2 (by decide))
  have gE1 : (V5.setCell ⟨w.heap.size + 1, 0, none⟩ (.slice none 0 0)).cell? ⟨1, 0, none⟩ = some (.iface 233 (.pointer (some (a 2)))) := (World.cell?_setCell_other _ _ _ _ (by intro e; have h2 : (1 : Nat) = w.heap.size + 1 := (by first | exact congrArg Addr.block e | exact (congrArg Addr.block e).symm); omega)).trans gE
  go_wp2_with fail
  go_region
  go_wp2_with fail
  obtain ⟨W9, hW9, hv9, hb9⟩ := land_put HV6.out (.slice none 0 0) (.slice none 0 0) (.slice none 0 0)
  rw [hW9]
  have hl2 := land_load (W := W9.drew) hv9
  refine bodyPost_ret (v := .tuple #[.agg #[.slice none 0 0, .slice none 0 0, .slice none 0 0], .iface 233 (.pointer (some (a 2)))]) ?_ rfl ⟨⟨_, _, _, _, _, _, _, _, _, rfl⟩, (hb9 w HB6.out (by omega)).drew⟩
  rw [results_cell_tmp rfl]
  simp [asAddr, Result.andThen, hl2]

set_option maxRecDepth 100000 in
set_option maxHeartbeats 4000000 in
theorem open_ok {a : Nat → Addr} {s : Nat → ByteArray} {l all : List (List Int)} (vl vh : Value) (V h : List Int) (w : World) (hE : Errs a s w) (hl : Rows w vl l) (hll : l.length ≤ 600) (hle : ∀ x ∈ l, x.length ≤ 1000) (hg : Good l all) (hV : vertI all = V) (hh : Ints w vh h) (hhl : h.length ≤ 1000) (hne : h.length = V.length) (hgr : ∀ x ∈ h, -1048576 ≤ x ∧ x ≤ 1048576) (hnd : h.Nodup) :
    Calls Tryz.prog 54 #[.agg #[vl], vh] w fun e w' => (∃ a0 n0 c0 a1 n1 c1 a2 n2 c2, e = .returned (.tuple #[.agg #[.slice a0 n0 c0, .slice a1 n1 c1, .slice a2 n2 c2], .nilIface])) ∧ Below w.heap.size w w' := by
  have hl0 := hl
  have hh0 := hh
  obtain ⟨al, cl, rfl, -, -⟩ := hl.open_
  obtain ⟨ah, ch, rfl, -, -⟩ := hh.open_
  have hv99 : ∀ v ∈ V, 0 ≤ v ∧ v ≤ 99 := fun v hv => by
    rw [← hV] at hv
    have h1 := face_ok_of hg (vertI_mem.1 hv)
    have := h1.1.2.2 v (by simp)
    omega
  have hV1 : V.length ≤ 100 := by rw [← hV]; exact verts_len hg
  have HF0 : Hid (∀ (W : World), Below w.heap.size w W → Calls Tryz.prog 55 #[.agg #[.slice al l.length cl], .int .i64 0] W fun e w' => ∃ a0 c0, e = .returned (.tuple #[.slice a0 V.length c0, .nilIface]) ∧ Rows w' (.slice a0 V.length c0) (V.map fun v => [v]) ∧ Below W.heap.size W w') := fun W hB =>
    (faces_call _ l 0 W (hE.below hB) (hl0.below hB) (by omega) hle).mono fun e w' ⟨h1, h2⟩ => by
      rcases h2 with ⟨j, hb', _⟩ | ⟨all', v, hg', he, hr⟩
      · exact (bad_good hb' hg).elim
      · obtain rfl := good_one hg hg'
        rw [ofDim_zero, hV] at hr
        have hr0 := hr
        obtain ⟨av, cv, rfl, -, -⟩ := hr.open_
        rw [List.length_map] at he hr0
        exact ⟨av, cv, he, hr0, h1⟩
  obtain ⟨E, hEd⟩ : ∃ E, ofDim all 1 = E := ⟨_, rfl⟩
  have HF1 : Hid (∀ (W : World), Below w.heap.size w W → Calls Tryz.prog 55 #[.agg #[.slice al l.length cl], .int .i64 1] W fun e w' => ∃ a0 c0, e = .returned (.tuple #[.slice a0 E.length c0, .nilIface]) ∧ Rows w' (.slice a0 E.length c0) E ∧ Below W.heap.size W w') := fun W hB =>
    (faces_call _ l 1 W (hE.below hB) (hl0.below hB) (by omega) hle).mono fun e w' ⟨h1, h2⟩ => by
      rcases h2 with ⟨j, hb', _⟩ | ⟨all', v, hg', he, hr⟩
      · exact (bad_good hb' hg).elim
      · obtain rfl := good_one hg hg'
        rw [hEd] at hr
        have hr0 := hr
        obtain ⟨av, cv, rfl, -, -⟩ := hr.open_
        exact ⟨av, cv, he, hr0, h1⟩
  have HND : Hid (h.Nodup) := hnd
  have HE : Hid (Errs a s w) := hE
  have HHI : Hid (Ints w (.slice ah h.length ch) h) := hh0
  obtain ⟨w1, hw1, hB1, hc1, hv1⟩ := land_start w (.slice al l.length cl)
  have HB1 : Hid (Below w.heap.size w w1) := hB1
  have HC1 : Hid (w1.cell? ⟨w.heap.size, 0, none⟩ = some (.slice al l.length cl)) := hc1
  have HV1 : Hid (VecAt 100 3 (w.heap.size + 1) w1 (fun _ => .slice none 0 0)) := hv1
  have HVL : Hid (V.length ≤ 100) := hV1
  obtain ⟨hn, hhn⟩ : ∃ hn, h.length = hn := ⟨_, rfl⟩
  obtain ⟨vn, hvn⟩ : ∃ vn, V.length = vn := ⟨_, rfl⟩
  obtain ⟨en, hen⟩ : ∃ en, E.length = en := ⟨_, rfl⟩
  obtain rfl : hn = vn := by omega
  have HG : Hid (∀ W, Below w.heap.size w W → Calls Tryz.prog 80 #[.slice ah hn ch, .func (.func 81) #[] #[]] W fun e w' => e = .returned (.bool false) ∧ Below W.heap.size W w') := fun W hB => by
    have := any_great ah ch h W (hh0.below hB) (by omega)
    rw [great_iff.2 hgr, hhn] at this
    exact this
  have HSO : Hid (∀ (W : World) (a0 : Option Addr) (c0 : Nat), Below w.heap.size w W → Rows W (.slice a0 hn c0) (V.map fun v => [v]) → Calls Tryz.prog 82 #[.slice a0 hn c0, .slice ah hn ch] W fun e w' => ∃ aS cS lS, e = .returned (.slice aS hn cS) ∧ lS.length = hn ∧ DuoIn anyBlock w' (.slice aS hn cS) lS ∧ (Alike lS ↔ ¬ h.Nodup) ∧ (∀ p ∈ lS, 0 ≤ p.1 ∧ p.1 ≤ 99) ∧ Below W.heap.size W w') := fun W a0 c0 hB hr => by
    have := spots_sorted a0 ah c0 ch V h W (by rw [hvn]; exact hr) (hh0.below hB) hne hV1
    rw [hvn, hhn] at this
    refine this.mono fun e w' ⟨v, lS, h1, h2, h3, h4, h5⟩ => ?_
    have h6 : lS.length = hn := by rw [h3.length_eq, List.length_zip]; omega
    have h7 := h2.reads (S := anyBlock) (fun _ _ _ => trivial)
    have h8 := h7
    obtain ⟨aS, cS, rfl, -⟩ := h7
    rw [h6] at h1 h8
    refine ⟨aS, cS, lS, h1, h6, h8, alike_iff hne h3 h4, fun p hp => ?_, h5⟩
    have := (h3.mem_iff).1 hp
    exact hv99 _ (List.of_mem_zip (show (p.1, p.2) ∈ V.zip h from this)).1
  rw [hhn] at HHI ⊢
  rw [hvn] at HF0 HVL
  rw [hen] at HF1
  have hFok : FacesOk ((V.map fun v => [v]) ++ E) := fun x hx => by
    rcases List.mem_append.1 hx with h1 | h1
    · obtain ⟨v, hv, rfl⟩ := List.mem_map.1 h1
      exact ⟨by simp, by simp, fun u hu => by rw [List.mem_singleton.1 hu]; exact hv99 v hv⟩
    · rw [← hEd] at h1
      have hx' := (List.mem_filter.1 h1).1
      exact ⟨(face_ok_of hg hx').1.1, hg.short x hx', fun v hv => hv99 v (by rw [← hV]; exact vertI_mem.2 (hg.sub hx' (List.singleton_sublist.2 hv) (by simp)))⟩
  have hlok : FacesOk l := fun x hx => by
    have hx' : x ∈ all := by
      have h1 := hg.same
      rw [← h1] at hx
      exact (List.mem_filter.1 hx).1
    exact ⟨(face_ok_of hg hx').1.1, hg.short x hx', fun v hv => hv99 v (by rw [← hV]; exact vertI_mem.2 (hg.sub hx' (List.singleton_sublist.2 hv) (by simp)))⟩
  have hnel : l ≠ [] → (V.map fun v => [v]) ++ E ≠ [] := fun h1 => by
    obtain ⟨x, hx⟩ := List.exists_mem_of_ne_nil _ h1
    obtain ⟨h2, _, _⟩ := hlok x hx
    obtain ⟨v, hv⟩ := List.exists_mem_of_ne_nil _ h2
    have hx' : x ∈ all := by
      have h1 := hg.same
      rw [← h1] at hx
      exact (List.mem_filter.1 hx).1
    have hvV : v ∈ V := by rw [← hV]; exact vertI_mem.2 (hg.sub hx' (List.singleton_sublist.2 hv) (by simp))
    intro h3
    have h4 : [v] ∈ (V.map fun v => [v]) ++ E := List.mem_append_left _ (List.mem_map.2 ⟨v, hvV, rfl⟩)
    rw [h3] at h4; cases h4
  have hEl : E.length ≤ 600 := by rw [← hEd]; exact Nat.le_trans (List.length_filter_le _ _) hg.length
  have HFL : Hid (((V.map fun v => [v]) ++ E).length ≤ 1000) := by
    show _ ≤ _
    rw [List.length_append, List.length_map]; omega
  have HTH : Hid (∀ (W : World) (vf vs : Value) (lS : List Duo), lS.length ≤ 1000 → (∀ p ∈ lS, 0 ≤ p.1 ∧ p.1 ≤ 99) → Rows W vf ((V.map fun v => [v]) ++ E) → DuoIn anyBlock W vs lS → Calls Tryz.prog 85 #[vf, vs] W fun e w' => ∃ a n c, e = .returned (.slice a n c) ∧ Below W.heap.size W w') := fun W vf vs lS h1 h2 h3 h4 => things_ vf vs _ lS W hFok HFL.out h1 h2 h3 h4
  have HNR : Hid (∀ (W : World) (vl vf : Value), Rows W vl l → Rows W vf ((V.map fun v => [v]) ++ E) → Calls Tryz.prog 86 #[vl, vf] W fun e w' => ∃ a n c, e = .returned (.slice a n c) ∧ Below W.heap.size W w') := fun W vl vf h1 h2 => near_ vl vf l _ W hlok hll hFok HFL.out hnel h1 h2
  have HRL : Hid (Rows w (.slice al l.length cl) l) := hl0
  have HLN : Hid (V.length = hn ∧ E.length = en) := ⟨hvn, hen⟩
  clear hl hl0 hh hh0 hll hle hg hB1 hv1 hE hv99 hV hEd hV1 hhl hne hhn hvn hen hgr hnd hFok hlok hnel hEl
  go_enter Tryz.func54, Tryz.ntmps54
  go_wp2_with fail
  refine (HF0.out _ HB1.out).mono ?_
  rintro e V1 ⟨a0, c0, rfl, hr0, hV⟩
  have HB2 : Hid (Below w.heap.size w V1) := HB1.out.trans (hV.mono HB1.out.size)
  have HV2 : Hid (VecAt 100 3 (w.heap.size + 1) V1 (fun _ => .slice none 0 0)) := HV1.out.below hV
  have hc2 := (hV.cell (p := ⟨w.heap.size, 0, none⟩) (cell_lt HC1.out)).trans HC1.out
  have HR0 : Hid (Rows V1 (.slice a0 hn c0) (V.map fun v => [v])) := hr0
  clear hV hr0 hc1 HB1 HV1 HF0
  go_wp2_with fail
  refine (HF1.out _ HB2.out).mono ?_
  rintro e V2 ⟨a1, c1, rfl, hr1, hV⟩
  have HB3 : Hid (Below w.heap.size w V2) := HB2.out.trans (hV.mono HB2.out.size)
  have HV3 : Hid (VecAt 100 3 (w.heap.size + 1) V2 (fun _ => .slice none 0 0)) := HV2.out.below hV
  have HC3 : Hid (V2.cell? ⟨w.heap.size, 0, none⟩ = some (.slice al l.length cl)) := (hV.cell (p := ⟨w.heap.size, 0, none⟩) (cell_lt hc2)).trans hc2
  have HR1 : Hid (Rows V2 (.slice a0 hn c0) (V.map fun v => [v])) := HR0.out.below hV
  have HS1 : Hid (Rows V2 (.slice a1 en c1) E) := hr1
  clear hV hr1 hc2 HB2 HV2 HF1 HR0 HC1
  go_wp2_with fail
  refine (HG.out _ HB3.out).mono ?_
  rintro e V3 ⟨rfl, hV⟩
  have HB4 : Hid (Below w.heap.size w V3) := HB3.out.trans (hV.mono HB3.out.size)
  have HV4 : Hid (VecAt 100 3 (w.heap.size + 1) V3 (fun _ => .slice none 0 0)) := HV3.out.below hV
  have HC4 : Hid (V3.cell? ⟨w.heap.size, 0, none⟩ = some (.slice al l.length cl)) := (hV.cell (p := ⟨w.heap.size, 0, none⟩) (cell_lt HC3.out)).trans HC3.out
  have HR2 : Hid (Rows V3 (.slice a0 hn c0) (V.map fun v => [v])) := HR1.out.below hV
  have HS2 : Hid (Rows V3 (.slice a1 en c1) E) := HS1.out.below hV
  clear hV HB3 HV3 HC3 HR1 HS1 HG
  go_wp2_with fail
  refine (HSO.out _ _ _ HB4.out HR2.out).mono ?_
  rintro e V4 ⟨aS, cS, lS, rfl, hlS, hdS, hal, hpS, hV⟩
  have HB5 : Hid (Below w.heap.size w V4) := HB4.out.trans (hV.mono HB4.out.size)
  have HV5 : Hid (VecAt 100 3 (w.heap.size + 1) V4 (fun _ => .slice none 0 0)) := HV4.out.below hV
  have HC5 : Hid (V4.cell? ⟨w.heap.size, 0, none⟩ = some (.slice al l.length cl)) := (hV.cell (p := ⟨w.heap.size, 0, none⟩) (cell_lt HC4.out)).trans HC4.out
  have HR3 : Hid (Rows V4 (.slice a0 hn c0) (V.map fun v => [v])) := HR2.out.below hV
  have HS3 : Hid (Rows V4 (.slice a1 en c1) E) := HS2.out.below hV
  have HD3 : Hid (DuoIn anyBlock V4 (.slice aS hn cS) lS ∧ lS.length = hn ∧ ∀ p ∈ lS, 0 ≤ p.1 ∧ p.1 ≤ 99) := ⟨hdS, hlS, hpS⟩
  have htw := two_alike _ lS anyBlock V4 hdS (by have := HVL.out; omega) false (by rw [hal]; exact ⟨fun e => (by cases e), fun hc => absurd HND.out hc⟩)
  clear hV HB4 HV4 HC4 HR2 HS2 HSO hdS hlS hpS hal
  go_wp2_with fail
  refine htw.mono ?_
  clear htw
  rintro e V5 ⟨rfl, hV⟩
  have HB6 : Hid (Below w.heap.size w V5) := HB5.out.trans (hV.mono HB5.out.size)
  have HV6 : Hid (VecAt 100 3 (w.heap.size + 1) V5 (fun _ => .slice none 0 0)) := HV5.out.below hV
  have HC6 : Hid (V5.cell? ⟨w.heap.size, 0, none⟩ = some (.slice al l.length cl)) := (hV.cell (p := ⟨w.heap.size, 0, none⟩) (cell_lt HC5.out)).trans HC5.out
  have HR4 : Hid (Rows V5 (.slice a0 hn c0) (V.map fun v => [v])) := HR3.out.below hV
  have HS4 : Hid (Rows V5 (.slice a1 en c1) E) := HS3.out.below hV
  have HD4 : Hid (DuoIn anyBlock V5 (.slice aS hn cS) lS ∧ lS.length = hn ∧ ∀ p ∈ lS, 0 ≤ p.1 ∧ p.1 ≤ 99) := ⟨HD3.out.1.below hV, HD3.out.2⟩
  clear hV HB5 HV5 HC5 HR3 HS3 HD3
  obtain ⟨WA, hWA⟩ : ∃ WA, V5.alloc (.cells #[.slice a0 hn c0, .slice a1 en c1] 22) = WA := ⟨_, rfl⟩
  have hBA : Below V5.heap.size V5 WA := by rw [← hWA]; exact (Below.refl _ V5).alloc (Nat.le_refl _) _
  have hPA : PartsAt anyBlock WA V5.heap.size 0 [V.map fun v => [v], E] := fun j hj => by
    have hj2 : j < 2 := by simpa using hj
    rcases (show j = 0 ∨ j = 1 by omega) with rfl | rfl
    · refine ⟨a0, c0, ?_, ?_⟩
      · have h1 := (fault_cells V5 (.slice a0 hn c0) (.slice a1 en c1) 22).1
        rw [hWA] at h1
        show WA.cell? _ = some (.slice a0 (V.map fun v => [v]).length c0)
        rw [List.length_map, HLN.out.1]; exact h1
      · show Rows WA (.slice a0 (V.map fun v => [v]).length c0) (V.map fun v => [v])
        rw [List.length_map, HLN.out.1]; exact HR4.out.below hBA
    · refine ⟨a1, c1, ?_, ?_⟩
      · have h1 := (fault_cells V5 (.slice a0 hn c0) (.slice a1 en c1) 22).2
        rw [hWA] at h1
        show WA.cell? _ = some (.slice a1 E.length c1)
        rw [HLN.out.2]; exact h1
      · show Rows WA (.slice a1 E.length c1) E
        rw [HLN.out.2]; exact HS4.out.below hBA
  have hcon := concat_rows (S := anyBlock) V5.heap.size 0 2 [V.map fun v => [v], E] WA (fun _ _ => trivial) hPA (by rw [← hWA]; simp) (by have := HFL.out; simp only [List.flatten_cons, List.flatten_nil, List.append_nil]; omega) (by simp)
  have hfl : [V.map fun v => [v], E].flatten = (V.map fun v => [v]) ++ E := by simp
  rw [hfl] at hcon
  have HB7 : Hid (Below w.heap.size w WA) := HB6.out.trans (hBA.mono HB6.out.size)
  have HV7 : Hid (VecAt 100 3 (w.heap.size + 1) WA (fun _ => .slice none 0 0)) := HV6.out.below hBA
  have HC7 : Hid (WA.cell? ⟨w.heap.size, 0, none⟩ = some (.slice al l.length cl)) := (hBA.cell (p := ⟨w.heap.size, 0, none⟩) (cell_lt HC6.out)).trans HC6.out
  have HD7 : Hid (DuoIn anyBlock WA (.slice aS hn cS) lS) := HD4.out.1.below hBA
  have HLS : Hid (lS.length ≤ 1000 ∧ ∀ p ∈ lS, 0 ≤ p.1 ∧ p.1 ≤ 99) := ⟨by have := HD4.out.2.1; have := HVL.out; omega, HD4.out.2.2⟩
  clear hPA hBA hfl HB6 HV6 HC6 HD4 HR4 HS4
  go_wp2_with fail
  refine hcon.mono ?_
  clear hcon
  rintro e V6 ⟨vX, rfl, hX, hV⟩
  have HX : Hid (Rows V6.drew vX ((V.map fun v => [v]) ++ E)) := hX.below ((Below.refl _ V6).drew)
  obtain ⟨aX, cX, rfl, -, -⟩ := hX.open_
  have hVd : Below WA.heap.size WA V6.drew := hV.drew
  have HB8 : Hid (Below w.heap.size w V6.drew) := HB7.out.trans (hVd.mono HB7.out.size)
  have HV8 : Hid (VecAt 100 3 (w.heap.size + 1) V6.drew (fun _ => .slice none 0 0)) := HV7.out.below hVd
  have HC8 : Hid (V6.drew.cell? ⟨w.heap.size, 0, none⟩ = some (.slice al l.length cl)) := (hVd.cell (p := ⟨w.heap.size, 0, none⟩) (cell_lt HC7.out)).trans HC7.out
  have HD8 : Hid (DuoIn anyBlock V6.drew (.slice aS hn cS) lS) := HD7.out.below hVd
  have HL8 : Hid (Rows V6.drew (.slice al l.length cl) l) := HRL.out.below HB8.out
  have k0 := HC8.out
  obtain ⟨e0, d0⟩ := HV8.out.cell (k := 0) (by omega)
  obtain ⟨e1, d1⟩ := HV8.out.cell (k := 1) (by omega)
  obtain ⟨e2, d2⟩ := HV8.out.cell (k := 2) (by omega)
  clear hV hVd hX HB7 HV7 HC7 HD7 HRL
  generalize ((V.map fun v => [v]) ++ E).length = xn at HX ⊢
  go_wp2_with fail
  go_region_with (first
    | (go_at_call 85; refine (HTH.out _ _ _ lS HLS.out.1 HLS.out.2 HX.out HD8.out).mono ?_; rintro e W ⟨at1, nt1, ct1, rfl, hV⟩; replace HB8 := Hid.mk9 (HB8.out.trans (hV.mono HB8.out.size)); replace HV8 := Hid.mk9 (HV8.out.below hV); have HX := Hid.mk9 (HX.out.below hV); replace HD8 := Hid.mk9 (HD8.out.below hV); have HL8 := Hid.mk9 (HL8.out.below hV); replace HC8 := Hid.mk9 ((hV.cell (p := ⟨w.heap.size, 0, none⟩) (cell_lt HC8.out)).trans HC8.out); clear k0 e0 d0 e1 d1 e2 d2; have k0 := HC8.out; obtain ⟨e0, d0⟩ := HV8.out.cell (k := 0) (by omega); obtain ⟨e1, d1⟩ := HV8.out.cell (k := 1) (by omega); obtain ⟨e2, d2⟩ := HV8.out.cell (k := 2) (by omega); clear hV)
    | (go_at_call 86; refine (HNR.out _ _ _ HL8.out HX.out).mono ?_; rintro e W ⟨at2, nt2, ct2, rfl, hV⟩; replace HB8 := Hid.mk9 (HB8.out.trans (hV.mono HB8.out.size)); replace HV8 := Hid.mk9 (HV8.out.below hV); have HX := Hid.mk9 (HX.out.below hV); replace HD8 := Hid.mk9 (HD8.out.below hV); have HL8 := Hid.mk9 (HL8.out.below hV); replace HC8 := Hid.mk9 ((hV.cell (p := ⟨w.heap.size, 0, none⟩) (cell_lt HC8.out)).trans HC8.out); clear k0 e0 d0 e1 d1 e2 d2; have k0 := HC8.out; obtain ⟨e0, d0⟩ := HV8.out.cell (k := 0) (by omega); obtain ⟨e1, d1⟩ := HV8.out.cell (k := 1) (by omega); obtain ⟨e2, d2⟩ := HV8.out.cell (k := 2) (by omega); clear hV)
    | fail)
  all_goals (
    rename_i K0 hK0 W0 hX0 hL0
    refine hK0 _ _ ?_
    go_wp2_with fail
    obtain ⟨W9, hW9, hv9, hb9⟩ := land_put HV8.out (.slice aS hn cS) (.slice at1 nt1 ct1) (.slice at2 nt2 ct2)
    rw [hW9]
    have hl2 := land_load (W := W9) hv9
    refine bodyPost_ret (v := .tuple #[.agg #[.slice aS hn cS, .slice at1 nt1 ct1, .slice at2 nt2 ct2], .nilIface]) ?_ rfl ⟨⟨_, _, _, _, _, _, _, _, _, rfl⟩, (hb9 w HB8.out (by omega))⟩
    rw [results_cell_tmp rfl]
    simp [Act.put, asAddr, Result.andThen, hl2]
  )

end Go.Proofs.YtmndhclmhjmbpaaGreatDoor
