/- What Join answers. -/
import Derived.Test.YtkmecdgnoemimaaDoorJoinCalls
namespace Go.Proofs.YtkmecdgnoemimaaDoor
open Go.RowKit Go.Shelf Go.Sort Go.Maps Go.Deep

theorem glob_ne {g n m : Nat} (h : g < n) (hm : n ≤ m) : (⟨g, 0, none⟩ : Addr) ≠ ⟨m, 0, none⟩ := fun e => by
  have h1 : g = m := congrArg Addr.block e
  omega
theorem raise_texts {f2 : List (List UInt8)} {U : Nat} (h : ∀ x ∈ f2, ∀ c ∈ x, c.toNat + U ≤ 255) : (f2.map (raiseU U)).map ints = (f2.map ints).map (raise U) := by
  rw [List.map_map, List.map_map]
  refine List.map_congr_left (fun x hx => ?_)
  exact raiseU_ints (fun v hv => by
    obtain ⟨c, hc, rfl⟩ := List.mem_map.1 hv
    have := h x hx c hc
    omega)
theorem join_texts {a b p q : List (List Int)} (ga : Good a p) (gb : Good b q) {f1 f2 : List (List UInt8)} {U : Nat} (hU : topV p + 1 = (U : Int)) (h1 : ∀ t, t ∈ f1.map ints ↔ t ∈ facetsI p) (h2 : ∀ t, t ∈ f2.map ints ↔ t ∈ facetsI q)
    (hc : ∀ x ∈ f2, ∀ c ∈ x, c.toNat + U ≤ 255) (y : List Int) : FaceOf ((stepU f1 (f2.map (raiseU U))).map ints) y ↔ FaceOf (joinS p q) y := by
  have e1 : ∀ y, FaceOf (f1.map ints) y ↔ FaceOf (facetsI p) y := face_members h1
  have e2 := raise_faces (up := (U : Int)) (face_members h2)
  unfold joinS
  rw [hU, ← join_same ga gb, stepU_ints, raise_texts hc, step_faces, step_faces]
  simp only [e1, e2]
theorem bytes_small {b q : List (List Int)} (gb : Good b q) {f2 : List (List UInt8)} {U : Nat} (hu : U ≤ 100) (h2 : ∀ t, t ∈ f2.map ints ↔ t ∈ facetsI q) : ∀ x ∈ f2, ∀ c ∈ x, c.toNat + U ≤ 255 := fun x hx c hc => by
  have hm := (List.mem_filter.1 ((h2 (ints x)).1 (List.mem_map.2 ⟨x, hx, rfl⟩))).1
  have := ((face_ok_of gb hm).1.2.2 (c.toNat : Int) (List.mem_map.2 ⟨c, hc, rfl⟩)).2
  omega
theorem step_sizes {f g : List (List UInt8)} (hf : ∀ x ∈ f, x ≠ [] ∧ x.length ≤ 7) (hg : ∀ x ∈ g, x ≠ [] ∧ x.length ≤ 7) : ∀ t ∈ stepU f g, 0 < t.length ∧ t.length ≤ 1000 := by
  intro t ht
  unfold stepU at ht
  rcases List.mem_append.1 ht with h | h
  · rcases List.mem_append.1 h with h | h
    · have := hf t h; exact ⟨List.length_pos_iff.2 this.1, by omega⟩
    · have := hg t h; exact ⟨List.length_pos_iff.2 this.1, by omega⟩
  · obtain ⟨x, hx, h⟩ := List.mem_flatMap.1 h
    obtain ⟨y, hy, rfl⟩ := List.mem_map.1 h
    have h1 := hf x hx
    have h2 := hg y hy
    have := List.length_pos_iff.2 h1.1
    rw [List.length_append]
    omega
theorem raise_sizes {U : Nat} {f : List (List UInt8)} (hf : ∀ x ∈ f, x ≠ [] ∧ x.length ≤ 7) : ∀ x ∈ f.map (raiseU U), x ≠ [] ∧ x.length ≤ 7 := fun x hx => by
  obtain ⟨y, hy, rfl⟩ := List.mem_map.1 hx
  have := hf y hy
  exact ⟨fun e => this.1 (by simpa [raiseU] using e), by rw [raiseU_length]; exact this.2⟩

set_option maxRecDepth 100000 in
set_option maxHeartbeats 4000000 in
theorem join_call {a : Nat → Addr} {s : Nat → ByteArray} (vl vm : Value) (l m : List (List Int)) (w : World) (hE : Errs a s w) (hl : Rows w vl l) (hm : Rows w vm m) (hll : l.length ≤ 100000) (hle : ∀ x ∈ l, x.length ≤ 1000) (hml : m.length ≤ 100000) (hme : ∀ x ∈ m, x.length ≤ 1000) :
    Calls Tryd.prog 16 #[.agg #[vl], .agg #[vm]] w fun e w' => TwoG a l m joinS w e w' := by
  obtain ⟨al, cl, rfl, -, -⟩ := hl.open_
  obtain ⟨am, cm, rfl, -, -⟩ := hm.open_
  have hBa := three_below w (.slice al l.length cl) (.slice am m.length cm) (.slice none 0 0) 27 27 27
  have hbx := three_boxes w (.slice al l.length cl) (.slice am m.length cm) (.slice none 0 0) 27 27 27
  have hop := both_g _ _ l m _ (hE.below hBa) (hl.below hBa) (hm.below hBa) hll hle hml hme
  have hbc := hbx.1
  have hbd := hbx.2.1
  clear hl hm
  go_enter Tryd.func16, Tryd.ntmps16
  go_wp2_with fail
  refine hop.mono ?_
  clear hop
  rintro e w2 ⟨hB2, ⟨i, v1, v2, hbad, rfl⟩ | ⟨p, q, b1, b2, F1, G1, F2, G2, hg, ht, rfl, hP, hG1, hG2⟩⟩
  · rw [three_size] at hB2
    have c1 : w2.cell? ⟨w.heap.size + 1 + 1, 0, none⟩ = some (.slice none 0 0) := (hB2.cell (p := ⟨w.heap.size + 1 + 1, 0, none⟩) (by show w.heap.size + 1 + 1 < w.heap.size + 3; omega)).trans hbx.2.2.1
    have z1 : w2.frozen? ⟨w.heap.size + 1 + 1, 0, none⟩ = false := (hB2.frozen (p := ⟨w.heap.size + 1 + 1, 0, none⟩) (by show w.heap.size + 1 + 1 < w.heap.size + 3; omega)).trans hbx.2.2.2
    have c2 := World.cell?_setCell_same' w2 ⟨w.heap.size + 1 + 1, 0, none⟩ (.slice none 0 0) (by rw [c1]; rfl)
    have HBD : Hid (JErr l m i) := hbad
    clear hbad
    go_wp2
    refine bodyPost_ret (v := .tuple #[.agg #[.slice none 0 0], .iface 165 (.pointer (some (a i)))]) ?_ rfl ?_
    · simp [results, Tryd.f16, go_sem, c2]
    · exact ⟨(hBa.trans (hB2.mono (by omega))).setCell (p := ⟨w.heap.size + 1 + 1, 0, none⟩) (by show w.heap.size ≤ w.heap.size + 1 + 1; omega) _, .inl ⟨i, HBD.out, rfl⟩⟩
  · have hgr1 := greatest_ b1 F1 G1 w2 hP.1 (by have := ht.1.few; omega) ht.1.nodup (fun x hx => by have := ht.1.short x hx; omega) ht.1.some_
    rw [topV_perm ht.1.perm] at hgr1
    have HG : Hid ((Good l p ∧ Good m q) ∧ (Told F1 p ∧ Told F2 q) ∧ ((∀ x ∈ F1, G1 x ↔ innerB p (ints x) = true) ∧ ∀ x ∈ F2, G2 x ↔ innerB q (ints x) = true) ∧ PileAt w2 b1 F1 G1 ∧ PileAt w2 b2 F2 G2) := ⟨hg, ht, ⟨hG1, hG2⟩, hP⟩
    have hp1 := topV_ge (l := p)
    have hp2 := hg.1.top
    have hq1 := topV_ge (l := q)
    have hq2 := hg.2.top
    obtain ⟨U, hU⟩ : ∃ U : Nat, topV p + 1 = (U : Int) := ⟨(topV p + 1).toNat, by omega⟩
    have hU1 : U ≤ 100 := by omega
    have HU : Hid (topV p + 1 = (U : Int)) := hU
    obtain ⟨P, hPe⟩ : ∃ P, topV p = P := ⟨_, rfl⟩
    obtain ⟨Q, hQe⟩ : ∃ Q, topV q = Q := ⟨_, rfl⟩
    have HPQ : Hid (topV p = P ∧ topV q = Q) := ⟨hPe, hQe⟩
    rw [hPe] at hp1 hp2 hgr1
    rw [hQe] at hq1 hq2
    have HB2 : Hid (Below (w.heap.size + 3) (((w.alloc (.cells #[.slice al l.length cl] 27)).alloc (.cells #[.slice am m.length cm] 27)).alloc (.cells #[.slice none 0 0] 27)) w2) := by
      rw [three_size] at hB2; exact hB2
    clear hg ht hP hG1 hG2 hU hPe hQe hB2
    go_wp2_with fail
    refine hgr1.mono ?_
    clear hgr1
    rintro e w3 ⟨rfl, hB3⟩
    have hgr2 := greatest_ b2 F2 G2 w3 (HG.out.2.2.2.2.below hB3) (by have := HG.out.2.1.2.few; omega) HG.out.2.1.2.nodup (fun x hx => by have := HG.out.2.1.2.short x hx; omega) HG.out.2.1.2.some_
    rw [topV_perm HG.out.2.1.2.perm, HPQ.out.2] at hgr2
    go_wp2_with fail
    refine hgr2.mono ?_
    clear hgr2
    rintro e w4 ⟨rfl, hB4⟩
    have HB24 : Hid (Below w2.heap.size w2 w4) := hB3.trans (hB4.mono hB3.size)
    have HB04 : Hid (Below (w.heap.size + 3) (((w.alloc (.cells #[.slice al l.length cl] 27)).alloc (.cells #[.slice am m.length cm] 27)).alloc (.cells #[.slice none 0 0] 27)) w4) := HB2.out.trans (HB24.out.mono (by have := HB2.out.size; rw [three_size] at this; exact this))
    have hsz4 : w.heap.size + 3 ≤ w4.heap.size := by have := HB04.out.size; rw [three_size] at this; exact this
    have HBw4 : Hid (Below w.heap.size w w4) := hBa.trans (HB04.out.mono (by omega))
    clear hB3 hB4
    by_cases h99 : 99 < P + 1 + Q
    · have c1 : w4.cell? ⟨w.heap.size + 1 + 1, 0, none⟩ = some (.slice none 0 0) := (HB04.out.cell (p := ⟨w.heap.size + 1 + 1, 0, none⟩) (by show w.heap.size + 1 + 1 < w.heap.size + 3; omega)).trans hbx.2.2.1
      have z1 : w4.frozen? ⟨w.heap.size + 1 + 1, 0, none⟩ = false := (HB04.out.frozen (p := ⟨w.heap.size + 1 + 1, 0, none⟩) (by show w.heap.size + 1 + 1 < w.heap.size + 3; omega)).trans hbx.2.2.2
      have c2 := World.cell?_setCell_same' w4 ⟨w.heap.size + 1 + 1, 0, none⟩ (.slice none 0 0) (by rw [c1]; rfl)
      have hgl : w4.cell? ⟨0, 0, none⟩ = some (.iface 165 (.pointer (some (a 3)))) := (hE.below HBw4.out).glob 3 (by decide)
      have hgl2 : (w4.setCell ⟨w.heap.size + 1 + 1, 0, none⟩ (.slice none 0 0)).cell? ⟨0, 0, none⟩ = some (.iface 165 (.pointer (some (a 3)))) := by
        rw [World.cell?_setCell_other w4 ⟨w.heap.size + 1 + 1, 0, none⟩ ⟨0, 0, none⟩ (.slice none 0 0) (glob_ne (g := 0) (n := w.heap.size) (m := w.heap.size + 1 + 1) (cell_lt (hE.glob 3 (by decide))) (by omega)).symm]; exact hgl
      have HNK : Hid (¬ ∀ x ∈ joinS p q, SetOk x) := fun h => by
        have := (join_ok HG.out.1.1 HG.out.1.2).1 h
        rw [HPQ.out.1, HPQ.out.2] at this
        omega
      go_wp2_with fail
      go_region
      all_goals go_wp2
      all_goals
        refine bodyPost_ret (v := .tuple #[.agg #[.slice none 0 0], .iface 165 (.pointer (some (a 3)))]) ?_ rfl ?_
        · simp [results, Tryd.f16, go_sem, c2]
        · exact ⟨((hBa.trans (HB04.out.mono (Nat.le_add_right _ _))).setCell (p := ⟨w.heap.size + 1 + 1, 0, none⟩) (by show w.heap.size ≤ w.heap.size + 1 + 1; omega) (.slice none 0 0)).drew, .inr ⟨p, q, HG.out.1, .inl ⟨HNK.out, rfl⟩⟩⟩
    · have HOK : Hid (∀ x ∈ joinS p q, SetOk x) := (join_ok HG.out.1.1 HG.out.1.2).2 (by rw [HPQ.out.1, HPQ.out.2]; omega)
      have hf1 := facets_g b1 F1 G1 w4 (HG.out.2.2.2.1.below HB24.out) HG.out.2.1.1 HG.out.2.2.1.1
      go_wp2_with fail
      refine hf1.mono ?_
      clear hf1
      rintro e w5 ⟨v5, f1, rfl, hs1, hm1, hl1, hx1, hB5⟩
      have hf2 := facets_g b2 F2 G2 w5 ((HG.out.2.2.2.2.below HB24.out).below hB5) HG.out.2.1.2 HG.out.2.2.1.2
      have HS1 : Hid (StrsIn (fun b => w4.heap.size ≤ b) w5 v5 f1) := hs1
      have HM1 : Hid ((∀ t, t ∈ f1.map ints ↔ t ∈ facetsI p) ∧ ∀ x ∈ f1, x ≠ [] ∧ x.length ≤ 7) := ⟨hm1, hx1⟩
      obtain ⟨a5, c5, rfl, -, -⟩ := hs1.open_
      clear hs1 hm1 hx1
      go_wp2_with fail
      refine hf2.mono ?_
      clear hf2
      rintro e w6 ⟨v6, f2, rfl, hs2, hm2, hl2, hx2, hB6⟩
      have HM2 : Hid ((∀ t, t ∈ f2.map ints ↔ t ∈ facetsI q) ∧ ∀ x ∈ f2, x ≠ [] ∧ x.length ≤ 7) := ⟨hm2, hx2⟩
      have HBY : Hid (∀ x ∈ f2, ∀ c ∈ x, c.toNat + U ≤ 255) := bytes_small HG.out.1.2 hU1 hm2
      have hra := raised_ v6 f2 U w6 (SliceIn.mono hs2 (fun _ _ _ => trivial)) (by omega) (fun x hx => by have := (hx2 x hx).2; omega) hU1 HBY.out
      rw [← HU.out, HPQ.out.1] at hra
      obtain ⟨a6, c6, rfl, -, -⟩ := hs2.open_
      have HB46 : Hid (Below w4.heap.size w4 w6) := hB5.trans (hB6.mono hB5.size)
      have HS16 : Hid (StrsIn (fun b => w4.heap.size ≤ b) w6 (.slice a5 f1.length c5) f1) := HS1.out.below hB6
      clear hs2 hm2 hx2 hB5 hB6
      go_wp2_with fail
      refine hra.mono ?_
      clear hra
      rintro e w7 ⟨v7, rfl, hs7, hB7⟩
      obtain ⟨h7, hh7⟩ : ∃ h7, f2.map (raiseU U) = h7 := ⟨_, rfl⟩
      rw [hh7] at hs7
      have hl7 : h7.length = f2.length := by rw [← hh7]; simp
      have HH7 : Hid (f2.map (raiseU U) = h7) := hh7
      obtain ⟨a7, c7, rfl, -, -⟩ := hs7.open_
      have HB47 : Hid (Below w4.heap.size w4 w7) := HB46.out.trans (hB7.mono HB46.out.size)
      have hun := unions_made a5 a7 f1.length h7.length c5 c7 w7
      have hB78 := two_below w7 (.slice a5 f1.length c5) (.slice a7 h7.length c7) 52 52
      have hsz := step_sizes HM1.out.2 (by rw [← hh7]; exact raise_sizes HM2.out.2 : ∀ x ∈ h7, x ≠ [] ∧ x.length ≤ 7)
      obtain ⟨xs, hxs⟩ := faces_of (stepU f1 h7) hsz
      have hseq := unions_seq w7 a5 a7 c5 c7 f1 h7 xs hxs (by omega) (by omega) (SliceIn.mono (HS16.out.below hB7) (fun _ _ _ => trivial)) (SliceIn.mono hs7 (fun _ _ _ => trivial))
      have hbu := builtC_ 61 (unionArgs w7.heap.size) xs _ ((hE.below HBw4.out).below (HB47.out.trans (hB78.mono HB47.out.size))) (enters_of Tryd.func61 (by kernel_rfl) rfl) hseq
      rw [hxs] at hbu
      have HSA : Hid (∀ y, FaceOf ((stepU f1 h7).map ints) y ↔ FaceOf (joinS p q) y) := fun y => by
        rw [← HH7.out]; exact join_texts HG.out.1.1 HG.out.1.2 HU.out HM1.out.1 HM2.out.1 HBY.out y
      obtain ⟨W8, hW8⟩ : ∃ W8, (w7.alloc (.cells #[.slice a5 f1.length c5] 52)).alloc (.cells #[.slice a7 h7.length c7] 52) = W8 := ⟨_, rfl⟩
      rw [hW8] at hbu hB78 hun
      obtain ⟨ts, hts⟩ : ∃ ts, stepU f1 h7 = ts := ⟨_, rfl⟩
      rw [hts] at hbu HSA
      have HB48 : Hid (Below w4.heap.size w4 W8) := HB47.out.trans (hB78.mono HB47.out.size)
      clear hs7 hh7 hl7 hB7 hB78 hsz hxs hseq hts hW8
      go_wp2_with (go_at_call 39; refine hun.mono ?_; rintro e w8 ⟨rfl, rfl⟩)
      refine hbu.mono ?_
      clear hbu hun
      rintro e w9 ⟨hB9, hcase⟩
      have hB49 : Below w4.heap.size w4 w9 := HB48.out.trans (hB9.mono HB48.out.size)
      have hB09 := HB04.out.trans (hB49.mono hsz4)
      have c1 : w9.cell? ⟨w.heap.size + 1 + 1, 0, none⟩ = some (.slice none 0 0) := (hB09.cell (p := ⟨w.heap.size + 1 + 1, 0, none⟩) (by show w.heap.size + 1 + 1 < w.heap.size + 3; omega)).trans hbx.2.2.1
      have z1 : w9.frozen? ⟨w.heap.size + 1 + 1, 0, none⟩ = false := (hB09.frozen (p := ⟨w.heap.size + 1 + 1, 0, none⟩) (by show w.heap.size + 1 + 1 < w.heap.size + 3; omega)).trans hbx.2.2.2
      have hs8 : w.heap.size + 3 ≤ w8.heap.size := by have := HB48.out.size; omega
      rcases hcase with ⟨hov, rfl⟩ | ⟨hno, v9, ss, rfl, hown, hnd, hmm⟩
      · have c2 := World.cell?_setCell_same' w9 ⟨w.heap.size + 1 + 1, 0, none⟩ (.slice none 0 0) (by rw [c1]; rfl)
        have HOV : Hid (Over (joinS p q)) := (over_same HSA.out).1 (over_ints.2 hov)
        clear hov
        go_wp2
        refine bodyPost_ret (v := .tuple #[.agg #[.slice none 0 0], .iface 165 (.pointer (some (a 1)))]) ?_ rfl ?_
        · simp [results, Tryd.f16, go_sem, c2]
        · exact ⟨(hBa.trans (hB09.mono (by omega))).setCell (p := ⟨w.heap.size + 1 + 1, 0, none⟩) (by show w.heap.size ≤ w.heap.size + 1 + 1; omega) _, .inr ⟨p, q, HG.out.1, .inr (.inl ⟨HOK.out, HOV.out, rfl⟩)⟩⟩
      · have HL : Hid (IsFacets (joinS p q) ((srtS ss).map ints)) := isFacets_of HSA.out (facets_built hnd hmm)
        have HNO : Hid (¬ Over (joinS p q)) := fun ho => hno (over_ints.1 ((over_same HSA.out).2 ho))
        have H1 : Hid (OwnRows w8.heap.size w9 v9 ((srtS ss).map ints)) := hown
        obtain ⟨a9, c9, rfl, -, -⟩ := hown.rows.open_
        have c2 := World.cell?_setCell_same' w9 ⟨w.heap.size + 1 + 1, 0, none⟩ (.slice a9 ((srtS ss).map ints).length c9) (by rw [c1]; rfl)
        rw [List.length_map] at c2
        clear hown hnd hmm hB9 hB49 hno
        go_wp2
        refine bodyPost_ret (v := .tuple #[.agg #[.slice a9 (srtS ss).length c9], .nilIface]) ?_ rfl ?_
        · simp [results, Tryd.f16, go_sem, c2]
        · have h1 := H1.out
          rw [List.length_map] at h1
          refine ⟨(hBa.trans (hB09.mono (by omega))).setCell (p := ⟨w.heap.size + 1 + 1, 0, none⟩) (by show w.heap.size ≤ w.heap.size + 1 + 1; omega) _, .inr ⟨p, q, HG.out.1, .inr (.inr ⟨HOK.out, HNO.out, _, _, HL.out, rfl, ?_⟩)⟩⟩
          exact (h1.setCell (p := ⟨w.heap.size + 1 + 1, 0, none⟩) (by show w.heap.size + 1 + 1 < w8.heap.size; omega) _).lower (by omega)

end Go.Proofs.YtkmecdgnoemimaaDoor
