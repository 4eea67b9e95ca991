/- What Product answers. -/
import Derived.Test.YtkmecdgnoemimaaDoorProductGood
import Derived.Test.YtkmecdgnoemimaaDoorHeapB
namespace Go.Proofs.YtkmecdgnoemimaaDoor
open Go.RowKit Go.Shelf Go.Sort Go.Maps Go.Deep

theorem glob_far {g n m : Nat} (h : g < n) (hm : n ≤ m) : (⟨g, 0, none⟩ : Addr) ≠ ⟨m, 0, none⟩ := fun e => by
  have h1 : g = m := congrArg Addr.block e
  omega

/-- The error or the facets of a product. -/
def ProdG (a : Nat → Addr) (l m : List (List Int)) (w : World) (e : Ending) (w' : World) : Prop :=
  Below w.heap.size w w' ∧ ((∃ i, JErr l m i ∧ e = .returned (.tuple #[.agg #[.slice none 0 0], .iface 165 (.pointer (some (a i)))])) ∨
    ∃ p q, (Good l p ∧ Good m q) ∧ ((¬ (vertI p).length * (vertI q).length ≤ 100 ∧ e = .returned (.tuple #[.agg #[.slice none 0 0], .iface 165 (.pointer (some (a 3)))])) ∨
      ((vertI p).length * (vertI q).length ≤ 100 ∧ Over (prodS p q) ∧ e = .returned (.tuple #[.agg #[.slice none 0 0], .iface 165 (.pointer (some (a 1)))])) ∨
      ((vertI p).length * (vertI q).length ≤ 100 ∧ ¬ Over (prodS p q) ∧ ∃ v L, IsFacets (prodS p q) L ∧ e = .returned (.tuple #[.agg #[v], .nilIface]) ∧ OwnRows w.heap.size w' v L)))

set_option maxRecDepth 100000 in
set_option maxHeartbeats 4000000 in
theorem product_call {a : Nat → Addr} {s : Nat → ByteArray} (vl vm : Value) (l m : List (List Int)) (w : World) (hE : Errs a s w) (hl : Rows w vl l) (hm : Rows w vm m) (hll : l.length ≤ 100000) (hle : ∀ x ∈ l, x.length ≤ 1000) (hml : m.length ≤ 100000) (hme : ∀ x ∈ m, x.length ≤ 1000) :
    Calls Tryd.prog 8 #[.agg #[vl], .agg #[vm]] w fun e w' => ProdG a l m w e w' := by
  obtain ⟨al, cl, rfl, -, -⟩ := hl.open_
  obtain ⟨am, cm, rfl, -, -⟩ := hm.open_
  have hBa := three_below w (.slice al l.length cl) (.slice am m.length cm) (.slice none 0 0) 27 27 27
  have hbx := three_boxes w (.slice al l.length cl) (.slice am m.length cm) (.slice none 0 0) 27 27 27
  have hop := both_g _ _ l m _ (hE.below hBa) (hl.below hBa) (hm.below hBa) hll hle hml hme
  have hbc := hbx.1
  have hbd := hbx.2.1
  clear hl hm
  go_enter Tryd.func8, Tryd.ntmps8
  go_wp2_with fail
  refine hop.mono ?_
  clear hop
  rintro e w2 ⟨hB2, ⟨i, v1, v2, hbad, rfl⟩ | ⟨p, q, b1, b2, F1, G1, F2, G2, hg, ht, rfl, hP, hG1, hG2⟩⟩
  · rw [three_size] at hB2
    have c1 : w2.cell? ⟨w.heap.size + 1 + 1, 0, none⟩ = some (.slice none 0 0) := (hB2.cell (p := ⟨w.heap.size + 1 + 1, 0, none⟩) (by show w.heap.size + 1 + 1 < w.heap.size + 3; omega)).trans hbx.2.2.1
    have z1 : w2.frozen? ⟨w.heap.size + 1 + 1, 0, none⟩ = false := (hB2.frozen (p := ⟨w.heap.size + 1 + 1, 0, none⟩) (by show w.heap.size + 1 + 1 < w.heap.size + 3; omega)).trans hbx.2.2.2
    have c2 := World.cell?_setCell_same' w2 ⟨w.heap.size + 1 + 1, 0, none⟩ (.slice none 0 0) (by rw [c1]; rfl)
    have HBD : Hid (JErr l m i) := hbad
    clear hbad
    go_wp2
    refine bodyPost_ret (v := .tuple #[.agg #[.slice none 0 0], .iface 165 (.pointer (some (a i)))]) ?_ rfl ?_
    · simp [results, Tryd.f8, go_sem, c2]
    · exact ⟨(hBa.trans (hB2.mono (by omega))).setCell (p := ⟨w.heap.size + 1 + 1, 0, none⟩) (by show w.heap.size ≤ w.heap.size + 1 + 1; omega) _, .inl ⟨i, HBD.out, rfl⟩⟩
  · have HG : Hid ((Good l p ∧ Good m q) ∧ (Told F1 p ∧ Told F2 q) ∧ ((∀ x ∈ F1, G1 x ↔ innerB p (ints x) = true) ∧ ∀ x ∈ F2, G2 x ↔ innerB q (ints x) = true) ∧ PileAt w2 b1 F1 G1 ∧ PileAt w2 b2 F2 G2) := ⟨hg, ht, ⟨hG1, hG2⟩, hP⟩
    have hfq := faces_ b2 F2 G2 0 w2 hP.2 (by have := ht.2.few; omega) (fun x hx => by have := ht.2.short x hx; omega)
    have HB2 : Hid (Below (w.heap.size + 3) (((w.alloc (.cells #[.slice al l.length cl] 27)).alloc (.cells #[.slice am m.length cm] 27)).alloc (.cells #[.slice none 0 0] 27)) w2) := by
      rw [three_size] at hB2; exact hB2
    clear hg ht hP hG1 hG2 hB2
    go_wp2_with fail
    refine hfq.mono ?_
    clear hfq
    rintro e w3 ⟨v3, us2, rfl, hs3, hn3, hm3, hB3⟩
    have hlen3 := verts_count HG.out.1.2 HG.out.2.1.2 hn3 (fun x => by rw [hm3]; exact and_congr_right (fun _ => by omega))
    obtain ⟨a3, c3, rfl, -, -⟩ := hs3.open_
    rw [hlen3]
    have hfp := faces_ b1 F1 G1 0 w3 (HG.out.2.2.2.1.below hB3) (by have := HG.out.2.1.1.few; omega) (fun x hx => by have := HG.out.2.1.1.short x hx; omega)
    have hv1 := HG.out.1.1.vlen
    have hv2 := HG.out.1.2.vlen
    obtain ⟨P, hPe⟩ : ∃ P, (vertI p).length = P := ⟨_, rfl⟩
    obtain ⟨Q, hQe⟩ : ∃ Q, (vertI q).length = Q := ⟨_, rfl⟩
    have HPQ : Hid ((vertI p).length = P ∧ (vertI q).length = Q) := ⟨hPe, hQe⟩
    rw [hQe] at hv2 ⊢
    rw [hPe] at hv1
    clear hs3 hn3 hm3 hlen3 hPe hQe
    go_wp2_with fail
    refine hfp.mono ?_
    clear hfp
    rintro e w4 ⟨v4, us1, rfl, hs4, hn4, hm4, hB4⟩
    have hlen4 := verts_count HG.out.1.1 HG.out.2.1.1 hn4 (fun x => by rw [hm4]; exact and_congr_right (fun _ => by omega))
    obtain ⟨a4, c4, rfl, -, -⟩ := hs4.open_
    rw [hlen4, HPQ.out.1]
    have HB24 : Hid (Below w2.heap.size w2 w4) := hB3.trans (hB4.mono hB3.size)
    have HB04 : Hid (Below (w.heap.size + 3) (((w.alloc (.cells #[.slice al l.length cl] 27)).alloc (.cells #[.slice am m.length cm] 27)).alloc (.cells #[.slice none 0 0] 27)) w4) := HB2.out.trans (HB24.out.mono (by have := HB2.out.size; rw [three_size] at this; exact this))
    have hsz4 : w.heap.size + 3 ≤ w4.heap.size := by have := HB04.out.size; rw [three_size] at this; exact this
    have HBw4 : Hid (Below w.heap.size w w4) := hBa.trans (HB04.out.mono (by omega))
    have hmm : P * Q ≤ 10000 := Nat.mul_le_mul hv1 hv2
    have hmi : ((P : Int) * (Q : Int)) = ((P * Q : Nat) : Int) := (Int.natCast_mul P Q).symm
    obtain ⟨M, hM⟩ : ∃ M, P * Q = M := ⟨_, rfl⟩
    rw [hM] at hmm hmi
    have HM : Hid ((vertI p).length * (vertI q).length = M) := by show _ = _; rw [HPQ.out.1, HPQ.out.2]; exact hM
    clear hB3 hB4 hs4 hn4 hm4 hlen4 hM
    by_cases h99 : 100 < M
    · have c1 : w4.cell? ⟨w.heap.size + 1 + 1, 0, none⟩ = some (.slice none 0 0) := (HB04.out.cell (p := ⟨w.heap.size + 1 + 1, 0, none⟩) (by show w.heap.size + 1 + 1 < w.heap.size + 3; omega)).trans hbx.2.2.1
      have z1 : w4.frozen? ⟨w.heap.size + 1 + 1, 0, none⟩ = false := (HB04.out.frozen (p := ⟨w.heap.size + 1 + 1, 0, none⟩) (by show w.heap.size + 1 + 1 < w.heap.size + 3; omega)).trans hbx.2.2.2
      have c2 := World.cell?_setCell_same' w4 ⟨w.heap.size + 1 + 1, 0, none⟩ (.slice none 0 0) (by rw [c1]; rfl)
      have hgl : w4.cell? ⟨0, 0, none⟩ = some (.iface 165 (.pointer (some (a 3)))) := (hE.below HBw4.out).glob 3 (by decide)
      have hgl2 : (w4.setCell ⟨w.heap.size + 1 + 1, 0, none⟩ (.slice none 0 0)).cell? ⟨0, 0, none⟩ = some (.iface 165 (.pointer (some (a 3)))) := by
        rw [World.cell?_setCell_other w4 ⟨w.heap.size + 1 + 1, 0, none⟩ ⟨0, 0, none⟩ (.slice none 0 0) (glob_far (g := 0) (n := w.heap.size) (m := w.heap.size + 1 + 1) (cell_lt (hE.glob 3 (by decide))) (by omega)).symm]; exact hgl
      have HNK : Hid (¬ (vertI p).length * (vertI q).length ≤ 100) := fun h => by
        rw [HM.out] at h
        omega
      go_wp2_with fail
      go_region
      all_goals go_wp2
      all_goals
        refine bodyPost_ret (v := .tuple #[.agg #[.slice none 0 0], .iface 165 (.pointer (some (a 3)))]) ?_ rfl ?_
        · simp [results, Tryd.f8, go_sem, c2]
        · exact ⟨((hBa.trans (HB04.out.mono (Nat.le_add_right _ _))).setCell (p := ⟨w.heap.size + 1 + 1, 0, none⟩) (by show w.heap.size ≤ w.heap.size + 1 + 1; omega) (.slice none 0 0)).drew, .inr ⟨p, q, HG.out.1, .inl ⟨HNK.out, rfl⟩⟩⟩
    · have HOK : Hid ((vertI p).length * (vertI q).length ≤ 100) := by show _ ≤ _; rw [HM.out]; omega
      have hf1 := counted_g b1 F1 G1 w4 (HG.out.2.2.2.1.below HB24.out) HG.out.1.1 HG.out.2.1.1 HG.out.2.2.1.1
      go_wp2_with fail
      refine hf1.mono ?_
      clear hf1
      rintro e w5 ⟨v5, us3, ss3, rfl, hs1, hct1, hB5⟩
      have hf2 := counted_g b2 F2 G2 w5 ((HG.out.2.2.2.2.below HB24.out).below hB5) HG.out.1.2 HG.out.2.1.2 HG.out.2.2.1.2
      obtain ⟨f1, hf1e⟩ : ∃ f1, (srtS ss3).map (placeU (srtS us3)) = f1 := ⟨_, rfl⟩
      have hl1 : f1.length ≤ 600 := by rw [← hf1e, List.length_map]; exact hct1.few
      have HF1 : Hid (∀ x ∈ f1, x ≠ [] ∧ x.length ≤ 10) := by rw [← hf1e]; exact hct1.sizes
      rw [hf1e] at hs1
      have HC1 : Hid (CountTold p us3 ss3 ∧ (srtS ss3).map (placeU (srtS us3)) = f1) := ⟨hct1, hf1e⟩
      have HS1 : Hid (StrsIn (fun b => w4.heap.size ≤ b) w5 v5 f1) := hs1
      obtain ⟨a5, c5, rfl, -, -⟩ := hs1.open_
      clear hs1 hct1 hf1e
      go_wp2_with fail
      refine hf2.mono ?_
      clear hf2
      rintro e w6 ⟨v6, us4, ss4, rfl, hs2, hct2, hB6⟩
      obtain ⟨f2, hf2e⟩ : ∃ f2, (srtS ss4).map (placeU (srtS us4)) = f2 := ⟨_, rfl⟩
      have hl2 : f2.length ≤ 600 := by rw [← hf2e, List.length_map]; exact hct2.few
      have HF2 : Hid (∀ x ∈ f2, x ≠ [] ∧ x.length ≤ 10) := by rw [← hf2e]; exact hct2.sizes
      rw [hf2e] at hs2
      have HB46 : Hid (Below w4.heap.size w4 w6) := hB5.trans (hB6.mono hB5.size)
      have HS16 : Hid (StrsIn (fun b => w4.heap.size ≤ b) w6 (.slice a5 f1.length c5) f1) := HS1.out.below hB6
      have HSA : Hid (∀ y, FaceOf ((stairsU Q f1 f2).map ints) y ↔ FaceOf (prodS p q) y) := fun y => by
        rw [← HC1.out.2, ← hf2e, ← HPQ.out.2]; exact prod_same HG.out.1.1 HG.out.1.2 HC1.out.1 hct2 HOK.out y
      obtain ⟨a6, c6, rfl, -, -⟩ := hs2.open_
      have hun := stairs_made a5 a6 f1.length f2.length c5 c6 Q w6
      have hB78 := stairs_below w6 (.slice a5 f1.length c5) (.slice a6 f2.length c6) Q
      obtain ⟨xs, hxs⟩ := faces_of (stairsU Q f1 f2) stairs_sizes
      have hseq := stairs_seq w6 a5 a6 c5 c6 Q f1 f2 xs hxs hl1 hl2 HF1.out HF2.out (SliceIn.mono HS16.out (fun _ _ _ => trivial)) (SliceIn.mono hs2 (fun _ _ _ => trivial))
      have hbu := builtB_ 53 (stairArgs w6.heap.size) xs _ ((hE.below HBw4.out).below (HB46.out.trans (hB78.mono HB46.out.size))) (enters_of Tryd.func53 (by kernel_rfl) rfl) hseq
      rw [hxs] at hbu
      obtain ⟨W8, hW8⟩ : ∃ W8, stairWorld w6 (.slice a5 f1.length c5) (.slice a6 f2.length c6) Q = W8 := ⟨_, rfl⟩
      rw [hW8] at hbu hB78 hun
      obtain ⟨ts, hts⟩ : ∃ ts, stairsU Q f1 f2 = ts := ⟨_, rfl⟩
      rw [hts] at hbu HSA
      have HB48 : Hid (Below w4.heap.size w4 W8) := HB46.out.trans (hB78.mono HB46.out.size)
      clear hs2 hct2 hf2e hB5 hB6 hB78 hxs hseq hts hW8
      go_wp2_with (go_at_call 28; refine hun.mono ?_; rintro e w8 ⟨rfl, rfl⟩)
      refine hbu.mono ?_
      clear hbu hun
      rintro e w9 ⟨hB9, hcase⟩
      have hB49 : Below w4.heap.size w4 w9 := HB48.out.trans (hB9.mono HB48.out.size)
      have hB09 := HB04.out.trans (hB49.mono hsz4)
      have c1 : w9.cell? ⟨w.heap.size + 1 + 1, 0, none⟩ = some (.slice none 0 0) := (hB09.cell (p := ⟨w.heap.size + 1 + 1, 0, none⟩) (by show w.heap.size + 1 + 1 < w.heap.size + 3; omega)).trans hbx.2.2.1
      have z1 : w9.frozen? ⟨w.heap.size + 1 + 1, 0, none⟩ = false := (hB09.frozen (p := ⟨w.heap.size + 1 + 1, 0, none⟩) (by show w.heap.size + 1 + 1 < w.heap.size + 3; omega)).trans hbx.2.2.2
      have hs8 : w.heap.size + 3 ≤ w8.heap.size := by have := HB48.out.size; omega
      rcases hcase with ⟨hov, rfl⟩ | ⟨hno, v9, ss, rfl, hown, hnd, hmm⟩
      · have c2 := World.cell?_setCell_same' w9 ⟨w.heap.size + 1 + 1, 0, none⟩ (.slice none 0 0) (by rw [c1]; rfl)
        have HOV : Hid (Over (prodS p q)) := (over_same HSA.out).1 (over_ints.2 hov)
        clear hov
        go_wp2
        refine bodyPost_ret (v := .tuple #[.agg #[.slice none 0 0], .iface 165 (.pointer (some (a 1)))]) ?_ rfl ?_
        · simp [results, Tryd.f8, go_sem, c2]
        · exact ⟨(hBa.trans (hB09.mono (by omega))).setCell (p := ⟨w.heap.size + 1 + 1, 0, none⟩) (by show w.heap.size ≤ w.heap.size + 1 + 1; omega) _, .inr ⟨p, q, HG.out.1, .inr (.inl ⟨HOK.out, HOV.out, rfl⟩)⟩⟩
      · have HL : Hid (IsFacets (prodS p q) ((srtS ss).map ints)) := isFacets_of HSA.out (facets_built hnd hmm)
        have HNO : Hid (¬ Over (prodS p q)) := fun ho => hno (over_ints.1 ((over_same HSA.out).2 ho))
        have H1 : Hid (OwnRows w8.heap.size w9 v9 ((srtS ss).map ints)) := hown
        obtain ⟨a9, c9, rfl, -, -⟩ := hown.rows.open_
        have c2 := World.cell?_setCell_same' w9 ⟨w.heap.size + 1 + 1, 0, none⟩ (.slice a9 ((srtS ss).map ints).length c9) (by rw [c1]; rfl)
        rw [List.length_map] at c2
        clear hown hnd hmm hB9 hB49 hno
        go_wp2
        refine bodyPost_ret (v := .tuple #[.agg #[.slice a9 (srtS ss).length c9], .nilIface]) ?_ rfl ?_
        · simp [results, Tryd.f8, go_sem, c2]
        · have h1 := H1.out
          rw [List.length_map] at h1
          refine ⟨(hBa.trans (hB09.mono (by omega))).setCell (p := ⟨w.heap.size + 1 + 1, 0, none⟩) (by show w.heap.size ≤ w.heap.size + 1 + 1; omega) _, .inr ⟨p, q, HG.out.1, .inr (.inr ⟨HOK.out, HNO.out, _, _, HL.out, rfl, ?_⟩)⟩⟩
          exact (h1.setCell (p := ⟨w.heap.size + 1 + 1, 0, none⟩) (by show w.heap.size + 1 + 1 < w8.heap.size; omega) _).lower (by omega)

end Go.Proofs.YtkmecdgnoemimaaDoor
