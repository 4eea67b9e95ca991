/- CellsMakes answers true of whatever sets. -/
import Derived.Test.YtgaikmkonjblfaaDoorCx
import Derived.Test.YtgaikmkonjblfaaDoorMade
import Derived.Test.YtgaikmkonjblfaaDoorCircleWalk
namespace Go.Proofs.YtgaikmkonjblfaaDoor
open Go.RowKit Go.Sort

theorem told_same {l : List (List Int)} {ts ss : List (List UInt8)} {all : List (List Int)} (hok : ∀ x ∈ l, SetOk x) (hts : ts.map ints = l.map srt) (hn : ss.Nodup) (hm : ∀ x, x ∈ ss ↔ FaceOf ts x ∧ ¬ InnerOf ts x)
    (hal : IsAll (l.map srt) all) : (srtS ss).map ints = facetsI all := by
  refine facets_same (ts := ts) (fun t ht => ?_) (by rw [hts]; exact hal) hn hm
  have : ints t ∈ l.map srt := by rw [← hts]; exact List.mem_map.2 ⟨t, ht, rfl⟩
  obtain ⟨x, hx, e⟩ := List.mem_map.1 this
  rw [← e]
  exact srt_rising (hok x hx).2.1
theorem over_told {l : List (List Int)} {ts : List (List UInt8)} (hts : ts.map ints = l.map srt) (h : Over (l.map srt)) : Over ts := over_ints.1 (by rw [hts]; exact h)
theorem over_back {l : List (List Int)} {ts : List (List UInt8)} (hts : ts.map ints = l.map srt) (h : Over ts) : Over (l.map srt) := by rw [← hts]; exact over_ints.2 h
theorem told_small {l : List (List Int)} {ss : List (List UInt8)} {all : List (List Int)} (h : ∀ all, IsAll (l.map srt) all → (srtS ss).map ints = facetsI all) (hal : IsAll (l.map srt) all) (hov : ¬ Over (l.map srt)) (h6 : all.length ≤ 600) :
    ((srtS ss).map ints).length ≤ 1000000 ∧ ∀ x ∈ (srtS ss).map ints, x.length ≤ 1000000 := by
  rw [h all hal]
  refine ⟨?_, fun x hx => ?_⟩
  · have : (facetsI all).length ≤ all.length := List.length_filter_le _ _
    omega
  · have := all_short hal hov x (List.mem_filter.1 hx).1
    omega

set_option maxRecDepth 100000 in
set_option maxHeartbeats 4000000 in
theorem makes_ (CL : ClosedHolds) {a : Nat → Addr} {s : Nat → ByteArray} (vl : Value) (l : List (List Int)) (w : World) (hE : Errs a s w) (hl : Rows w vl l) :
    Calls Tryd.prog 3 #[vl] w fun e w' => e = .returned (.bool true) ∧ Below w.heap.size w w' := by
  have hci := circle_ w hE
  have HR : Hid (Rows w vl l) := hl
  have hff := field_facets
  clear hl
  go_enter Tryd.func3, Tryd.ntmps3
  go_wp2_with fail
  refine hci.mono ?_
  rintro e w1 ⟨rfl, hB1⟩
  have hli := little_ CL vl l 250 w1 (HR.out.below hB1)
  clear hci
  go_wp2_with fail
  refine hli.mono ?_
  rintro e w2 ⟨q, rfl, hB2, hq⟩
  have HB2 : Hid (Below w.heap.size w w2) := hB1.trans (hB2.mono hB1.size)
  clear hli
  cases q with
  | false =>
    clear hq
    go_wp2
    go_ret
    exact ⟨rfl, HB2.out⟩
  | true =>
    have hb := hq rfl
    have hb100 : l.length ≤ 100000 := by omega
    have hb1000 : ∀ x ∈ l, x.length ≤ 1000 := fun x hx => by have := hb.2 x hx; omega
    clear hq hb
    have hcx := cx_ vl l w2 (HR.out.below HB2.out) hb100 hb1000
    go_wp2_with fail
    refine hcx.mono ?_
    rintro e w3 ⟨v3, rfl, hr3, hB3⟩
    have HB3 : Hid (Below w.heap.size w w3) := HB2.out.trans (hB3.mono HB2.out.size)
    have hmk := make_ v3 l w3 (hE.below HB3.out) hr3 hb100 hb1000
    obtain ⟨a3, c3, rfl, -, -⟩ := hr3.open_
    clear hcx hr3
    go_wp2_with fail
    refine hmk.mono ?_
    clear hmk
    rintro e w4 ⟨hB4, ⟨hno4, rfl⟩ | ⟨hok4, ts4, hts4, ⟨hov4, rfl⟩ | ⟨hov4, v4, ss4, rfl, hown4, hnd4, hm4⟩⟩⟩
    · have HN : Hid (¬ ∀ x ∈ l, SetOk x) := hno4
      clear hno4
      have HB4 : Hid (Below w.heap.size w w4) := HB3.out.trans (hB4.mono HB3.out.size)
      have hbx := box_new w4 (.slice none 0 0) 26
      have hBa4 : Below w4.heap.size w4 (w4.alloc (.cells #[.slice none 0 0] 26)) := (Below.refl _ w4).alloc (Nat.le_refl _) _
      have HB4a : Hid (Below w.heap.size w (w4.alloc (.cells #[.slice none 0 0] 26))) := HB4.out.trans (hBa4.mono HB4.out.size)
      have hmd := made_ CL _ l _ (HR.out.below HB4a.out) hb100 hb1000
      go_wp2_with fail
      refine hmd.mono ?_
      clear hmd
      rintro e w5 ⟨hB5, ⟨hno5, rfl⟩ | ⟨hok5, hov5, rfl⟩ | ⟨hok5, hov5, v5, all5, rfl, hr5, hal5, h65⟩⟩
      · clear hno5
        have HB5 : Hid (Below w.heap.size w w5) := HB4a.out.trans (hB5.mono HB4a.out.size)
        have hbc5 : w5.cell? ⟨w4.heap.size, 0, none⟩ = some (.slice none 0 0) := (hB5.cell (p := ⟨w4.heap.size, 0, none⟩) (by simp)).trans hbx.1
        have his := is_err 3 (by decide) (.slice none 0 0) w5 (hE.below HB5.out)
        go_wp2_with fail
        refine his.mono ?_
        rintro e W6 ⟨rfl, hB6⟩
        have HB6 : Hid (Below w.heap.size w W6) := HB5.out.trans (hB6.mono HB5.out.size)
        clear his
        have hcx2 := cx_ vl l W6 (HR.out.below HB6.out) hb100 hb1000
        go_wp2_with fail
        refine hcx2.mono ?_
        rintro e w7 ⟨v7, rfl, hr7, hB7⟩
        have HB7 : Hid (Below w.heap.size w w7) := HB6.out.trans (hB7.mono HB6.out.size)
        have hva := valid_ v7 l w7 (hE.below HB7.out) hr7 hb100 hb1000
        clear hcx2 hr7
        go_wp2_with fail
        refine hva.mono ?_
        clear hva
        rintro e w8 ⟨hB8, ⟨hno, rfl⟩ | ⟨hok8, ts8, hts8, ⟨hov8, rfl⟩ | ⟨hno8, ss8, hnd8, hm8, ⟨hne, rfl⟩ | ⟨heq, rfl⟩⟩⟩⟩
        · clear hno
          have HB8 : Hid (Below w.heap.size w w8) := HB7.out.trans (hB8.mono HB7.out.size)
          have hce := complex_error CL _ l w8 (HR.out.below HB8.out) hb100 hb1000
          go_wp2_with fail
          refine hce.mono ?_
          clear hce
          rintro e w9 ⟨hB9, ⟨hno9, rfl⟩ | ⟨hok9, hov9, rfl⟩ | ⟨hok9, hov9, all9, hal9, ⟨hne9, rfl⟩ | ⟨heq9, rfl⟩⟩⟩
          · have HB9 : Hid (Below w.heap.size w w9) := HB8.out.trans (hB9.mono HB8.out.size)
            have hco := coded_es w9 (hE.below HB9.out) 3 (by decide) 4
            rw [decide_eq_true (by decide)] at hco
            go_wp2_with fail
            refine hco.mono ?_
            rintro e w10 ⟨rfl, hB10⟩
            clear hco
            go_wp2
            go_ret
            exact ⟨rfl, HB9.out.trans (hB10.mono HB9.out.size)⟩
          · exact absurd hok9 HN.out
          · exact absurd hok9 HN.out
          · exact absurd hok9 HN.out
        · exact absurd hok8 HN.out
        · exact absurd hok8 HN.out
        · exact absurd hok8 HN.out
      · exact absurd hok5 HN.out
      · exact absurd hok5 HN.out
    · have HN : Hid ((∀ x ∈ l, SetOk x) ∧ Over (l.map srt)) := ⟨hok4, over_back hts4 hov4⟩
      clear hok4 hts4 hov4
      have HB4 : Hid (Below w.heap.size w w4) := HB3.out.trans (hB4.mono HB3.out.size)
      have hbx := box_new w4 (.slice none 0 0) 26
      have hBa4 : Below w4.heap.size w4 (w4.alloc (.cells #[.slice none 0 0] 26)) := (Below.refl _ w4).alloc (Nat.le_refl _) _
      have HB4a : Hid (Below w.heap.size w (w4.alloc (.cells #[.slice none 0 0] 26))) := HB4.out.trans (hBa4.mono HB4.out.size)
      have hmd := made_ CL _ l _ (HR.out.below HB4a.out) hb100 hb1000
      go_wp2_with fail
      refine hmd.mono ?_
      clear hmd
      rintro e w5 ⟨hB5, ⟨hno5, rfl⟩ | ⟨hok5, hov5, rfl⟩ | ⟨hok5, hov5, v5, all5, rfl, hr5, hal5, h65⟩⟩
      · exact absurd HN.out.1 hno5
      · clear hok5 hov5
        have HB5 : Hid (Below w.heap.size w w5) := HB4a.out.trans (hB5.mono HB4a.out.size)
        have hbc5 : w5.cell? ⟨w4.heap.size, 0, none⟩ = some (.slice none 0 0) := (hB5.cell (p := ⟨w4.heap.size, 0, none⟩) (by simp)).trans hbx.1
        have his := is_err 1 (by decide) (.slice none 0 0) w5 (hE.below HB5.out)
        go_wp2_with fail
        refine his.mono ?_
        rintro e W6 ⟨rfl, hB6⟩
        have HB6 : Hid (Below w.heap.size w W6) := HB5.out.trans (hB6.mono HB5.out.size)
        clear his
        have hcx2 := cx_ vl l W6 (HR.out.below HB6.out) hb100 hb1000
        go_wp2_with fail
        refine hcx2.mono ?_
        rintro e w7 ⟨v7, rfl, hr7, hB7⟩
        have HB7 : Hid (Below w.heap.size w w7) := HB6.out.trans (hB7.mono HB6.out.size)
        have hva := valid_ v7 l w7 (hE.below HB7.out) hr7 hb100 hb1000
        clear hcx2 hr7
        go_wp2_with fail
        refine hva.mono ?_
        clear hva
        rintro e w8 ⟨hB8, ⟨hno, rfl⟩ | ⟨hok8, ts8, hts8, ⟨hov8, rfl⟩ | ⟨hno8, ss8, hnd8, hm8, ⟨hne, rfl⟩ | ⟨heq, rfl⟩⟩⟩⟩
        · exact absurd HN.out.1 hno
        · clear hok8 hts8 hov8
          have HB8 : Hid (Below w.heap.size w w8) := HB7.out.trans (hB8.mono HB7.out.size)
          have hce := complex_error CL _ l w8 (HR.out.below HB8.out) hb100 hb1000
          go_wp2_with fail
          refine hce.mono ?_
          clear hce
          rintro e w9 ⟨hB9, ⟨hno9, rfl⟩ | ⟨hok9, hov9, rfl⟩ | ⟨hok9, hov9, all9, hal9, ⟨hne9, rfl⟩ | ⟨heq9, rfl⟩⟩⟩
          · exact absurd HN.out.1 hno9
          · have HB9 : Hid (Below w.heap.size w w9) := HB8.out.trans (hB9.mono HB8.out.size)
            have hco := coded_es w9 (hE.below HB9.out) 1 (by decide) 2
            rw [decide_eq_true (by decide)] at hco
            go_wp2_with fail
            refine hco.mono ?_
            rintro e w10 ⟨rfl, hB10⟩
            clear hco
            go_wp2
            go_ret
            exact ⟨rfl, HB9.out.trans (hB10.mono HB9.out.size)⟩
          · exact absurd HN.out.2 hov9
          · exact absurd HN.out.2 hov9
        · exact absurd (over_told hts8 HN.out.2) hno8
        · exact absurd (over_told hts8 HN.out.2) hno8
      · exact absurd HN.out.2 hov5
    · have HN : Hid ((∀ x ∈ l, SetOk x) ∧ ¬ Over (l.map srt)) := ⟨hok4, fun h => hov4 (over_told hts4 h)⟩
      have HT4 : Hid (∀ all, IsAll (l.map srt) all → (srtS ss4).map ints = facetsI all) := fun all hal => told_same hok4 hts4 hnd4 hm4 hal
      have hrow4 := hown4.rows
      obtain ⟨a4, c4, rfl, -, -⟩ := hrow4.open_
      rw [List.length_map] at hrow4
      have HR4 : Hid (Rows w4 (.slice a4 (srtS ss4).length c4) ((srtS ss4).map ints)) := hrow4
      clear hok4 hts4 hov4 hown4 hnd4 hm4 hrow4
      have HB4 : Hid (Below w.heap.size w w4) := HB3.out.trans (hB4.mono HB3.out.size)
      have hbx := box_new w4 (.slice a4 (srtS ss4).length c4) 26
      have hBa4 : Below w4.heap.size w4 (w4.alloc (.cells #[.slice a4 (srtS ss4).length c4] 26)) := (Below.refl _ w4).alloc (Nat.le_refl _) _
      have HB4a : Hid (Below w.heap.size w (w4.alloc (.cells #[.slice a4 (srtS ss4).length c4] 26))) := HB4.out.trans (hBa4.mono HB4.out.size)
      have hmd := made_ CL _ l _ (HR.out.below HB4a.out) hb100 hb1000
      go_wp2_with fail
      refine hmd.mono ?_
      clear hmd
      rintro e w5 ⟨hB5, ⟨hno5, rfl⟩ | ⟨hok5, hov5, rfl⟩ | ⟨hok5, hov5, v5, all5, rfl, hr5, hal5, h65⟩⟩
      · exact absurd HN.out.1 hno5
      · exact absurd hov5 HN.out.2
      · have HB5 : Hid (Below w.heap.size w w5) := HB4a.out.trans (hB5.mono HB4a.out.size)
        have hbc5 : w5.cell? ⟨w4.heap.size, 0, none⟩ = some (.slice a4 (srtS ss4).length c4) := (hB5.cell (p := ⟨w4.heap.size, 0, none⟩) (by simp)).trans hbx.1
        have hsame := HT4.out all5 hal5
        have hr5' : Rows w5 v5 ((srtS ss4).map ints) := by rw [hsame]; exact hr5
        have hsz := told_small HT4.out hal5 hov5 h65
        have his := is_ok (.slice a4 (srtS ss4).length c4) v5 _ w5 ((HR4.out.below hBa4).below hB5) hr5' hsz.1 hsz.2
        clear hr5 hr5' hal5 hok5 hov5 hsame hsz
        go_wp2_with fail
        refine his.mono ?_
        rintro e W6 ⟨rfl, hB6⟩
        have HB6 : Hid (Below w.heap.size w W6) := HB5.out.trans (hB6.mono HB5.out.size)
        clear his
        have hcx2 := cx_ vl l W6 (HR.out.below HB6.out) hb100 hb1000
        go_wp2_with fail
        refine hcx2.mono ?_
        rintro e w7 ⟨v7, rfl, hr7, hB7⟩
        have HB7 : Hid (Below w.heap.size w w7) := HB6.out.trans (hB7.mono HB6.out.size)
        have hva := valid_ v7 l w7 (hE.below HB7.out) hr7 hb100 hb1000
        clear hcx2 hr7
        go_wp2_with fail
        refine hva.mono ?_
        clear hva
        rintro e w8 ⟨hB8, ⟨hno, rfl⟩ | ⟨hok8, ts8, hts8, ⟨hov8, rfl⟩ | ⟨hno8, ss8, hnd8, hm8, ⟨hne, rfl⟩ | ⟨heq, rfl⟩⟩⟩⟩
        · exact absurd HN.out.1 hno
        · exact absurd (over_back hts8 hov8) HN.out.2
        · have HT : Hid (∀ all, IsAll (l.map srt) all → (srtS ss8).map ints = facetsI all) := fun all hal => told_same hok8 hts8 hnd8 hm8 hal
          have HQ : Hid (¬ (srtS ss8).map ints = l) := hne
          clear hne
          clear hok8 hts8 hno8 hnd8 hm8
          have HB8 : Hid (Below w.heap.size w w8) := HB7.out.trans (hB8.mono HB7.out.size)
          have hce := complex_error CL _ l w8 (HR.out.below HB8.out) hb100 hb1000
          go_wp2_with fail
          refine hce.mono ?_
          clear hce
          rintro e w9 ⟨hB9, ⟨hno9, rfl⟩ | ⟨hok9, hov9, rfl⟩ | ⟨hok9, hov9, all9, hal9, ⟨hne9, rfl⟩ | ⟨heq9, rfl⟩⟩⟩
          · exact absurd HN.out.1 hno9
          · exact absurd hov9 HN.out.2
          · clear hok9 hov9 hal9 hne9
            have HB9 : Hid (Below w.heap.size w w9) := HB8.out.trans (hB9.mono HB8.out.size)
            have hco := coded_es w9 (hE.below HB9.out) 2 (by decide) 3
            rw [decide_eq_true (by decide)] at hco
            go_wp2_with fail
            refine hco.mono ?_
            rintro e w10 ⟨rfl, hB10⟩
            clear hco
            go_wp2
            go_ret
            exact ⟨rfl, HB9.out.trans (hB10.mono HB9.out.size)⟩
          · exact absurd ((HT.out all9 hal9).trans heq9.symm) HQ.out
        · have HT : Hid (∀ all, IsAll (l.map srt) all → (srtS ss8).map ints = facetsI all) := fun all hal => told_same hok8 hts8 hnd8 hm8 hal
          have HQ : Hid ((srtS ss8).map ints = l) := heq
          clear heq
          clear hok8 hts8 hno8 hnd8 hm8
          have HB8 : Hid (Below w.heap.size w w8) := HB7.out.trans (hB8.mono HB7.out.size)
          have hce := complex_error CL _ l w8 (HR.out.below HB8.out) hb100 hb1000
          go_wp2_with fail
          refine hce.mono ?_
          clear hce
          rintro e w9 ⟨hB9, ⟨hno9, rfl⟩ | ⟨hok9, hov9, rfl⟩ | ⟨hok9, hov9, all9, hal9, ⟨hne9, rfl⟩ | ⟨heq9, rfl⟩⟩⟩
          · exact absurd HN.out.1 hno9
          · exact absurd hov9 HN.out.2
          · exact absurd (HQ.out.symm.trans (HT.out all9 hal9)) hne9
          · clear hok9 hov9 hal9 heq9
            have HB9 : Hid (Below w.heap.size w w9) := HB8.out.trans (hB9.mono HB8.out.size)
            have hco := coded_nil 0 w9
            rw [decide_eq_true (by decide)] at hco
            go_wp2_with fail
            refine hco.mono ?_
            rintro e w10 ⟨rfl, rfl⟩
            clear hco
            go_wp2
            go_ret
            exact ⟨rfl, HB9.out⟩

end Go.Proofs.YtgaikmkonjblfaaDoor
