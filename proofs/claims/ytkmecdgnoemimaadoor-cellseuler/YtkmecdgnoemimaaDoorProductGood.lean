/- What openBoth answers, and Meet and Union. Products: what counted tells of two complexes, and the product's sets. -/
import Derived.Test.YtkmecdgnoemimaaDoorKept2
import Derived.Test.YtkmecdgnoemimaaDoorJoinMath
import Derived.Test.YtkmecdgnoemimaaDoorProductTexts
import Derived.Test.YtkmecdgnoemimaaDoorCountedWalk
import Derived.Test.YtkmecdgnoemimaaDoorRefJoin
namespace Go.Proofs.YtkmecdgnoemimaaDoor
open Go.RowKit Go.Shelf Go.Sort Go.Maps Go.Deep

/-- The error of a call on two complexes. -/
def JErr (l m : List (List Int)) (i : Nat) : Prop := BadAt l i ∨ ((∃ p, Good l p) ∧ BadAt m i)

/-- What openBoth answers. -/
def BothG (a : Nat → Addr) (l m : List (List Int)) (w : World) (e : Ending) (w' : World) : Prop :=
  Below w.heap.size w w' ∧ ((∃ i v1 v2, JErr l m i ∧ e = .returned (.tuple #[v1, v2, .iface 165 (.pointer (some (a i)))])) ∨
    ∃ p q b1 b2 F1 G1 F2 G2, (Good l p ∧ Good m q) ∧ (Told F1 p ∧ Told F2 q) ∧ e = .returned (.tuple #[.map (some b1), .map (some b2), .nilIface]) ∧ (PileAt w' b1 F1 G1 ∧ PileAt w' b2 F2 G2) ∧
      (∀ x ∈ F1, G1 x ↔ innerB p (ints x) = true) ∧ ∀ x ∈ F2, G2 x ↔ innerB q (ints x) = true)

set_option maxRecDepth 100000 in
set_option maxHeartbeats 1000000 in
theorem both_g {a : Nat → Addr} {s : Nat → ByteArray} (vl vm : Value) (l m : List (List Int)) (w : World) (hE : Errs a s w) (hl : Rows w vl l) (hm : Rows w vm m) (hll : l.length ≤ 100000) (hle : ∀ x ∈ l, x.length ≤ 1000) (hml : m.length ≤ 100000) (hme : ∀ x ∈ m, x.length ≤ 1000) :
    Calls Tryd.prog 25 #[.agg #[vl], .agg #[vm]] w fun e w' => BothG a l m w e w' := by
  obtain ⟨al, cl, rfl, -, -⟩ := hl.open_
  obtain ⟨am, cm, rfl, -, -⟩ := hm.open_
  have hBa := two_below w (.slice al l.length cl) (.slice am m.length cm) 27 27
  have hbx := two_boxes w (.slice al l.length cl) (.slice am m.length cm) 27 27
  have hop := open_g _ l _ (hE.below hBa) (hl.below hBa) hll hle
  have hbc := hbx.1.1
  have hbd := hbx.2.1
  have HM : Hid (Rows w (.slice am m.length cm) m) := hm
  clear hl hm
  go_enter Tryd.func25, Tryd.ntmps25
  go_wp2_with fail
  refine hop.mono ?_
  clear hop
  rintro e w2 ⟨hB2, ⟨i, hbad, rfl⟩ | ⟨p, b1, F1, G1, hg, ht, rfl, hP, hG⟩⟩
  · have HBD : Hid (BadAt l i) := hbad
    clear hbad
    go_wp2
    go_ret3
    exact ⟨hBa.trans (hB2.mono (by rw [two_size]; omega)), .inl ⟨i, _, _, .inl HBD.out, rfl⟩⟩
  · have HG : Hid ((Good l p ∧ Told F1 p) ∧ ∀ x ∈ F1, G1 x ↔ innerB p (ints x) = true) := ⟨⟨hg, ht⟩, hG⟩
    have HP : Hid (PileAt w2 b1 F1 G1) := hP
    have HB2 : Hid (Below w.heap.size w w2) := hBa.trans (hB2.mono (by rw [two_size]; omega))
    have c2 : w2.cell? ⟨w.heap.size + 1, 0, none⟩ = some (.slice am m.length cm) := (hB2.cell (p := ⟨w.heap.size + 1, 0, none⟩) (by rw [two_size]; show w.heap.size + 1 < w.heap.size + 2; omega)).trans hbd
    have hop := open_g _ m w2 (hE.below HB2.out) (HM.out.below HB2.out) hml hme
    clear hg ht hP hG hbc hbd
    go_wp2_with fail
    refine hop.mono ?_
    clear hop
    rintro e w3 ⟨hB3, ⟨i, hbad, rfl⟩ | ⟨q, b2, F2, G2, hg2, ht2, rfl, hP2, hG2⟩⟩
    · have HBD : Hid (BadAt m i) := hbad
      clear hbad
      go_wp2
      go_ret3
      exact ⟨HB2.out.trans (hB3.mono HB2.out.size), .inl ⟨i, _, _, .inr ⟨⟨p, HG.out.1.1⟩, HBD.out⟩, rfl⟩⟩
    · have H2 : Hid ((Good m q ∧ Told F2 q) ∧ (∀ x ∈ F2, G2 x ↔ innerB q (ints x) = true) ∧ PileAt w3 b2 F2 G2) := ⟨⟨hg2, ht2⟩, hG2, hP2⟩
      clear hg2 ht2 hP2 hG2
      go_wp2
      go_ret3
      exact ⟨HB2.out.trans (hB3.mono HB2.out.size), .inr ⟨p, q, b1, b2, F1, G1, F2, G2, ⟨HG.out.1.1, H2.out.1.1⟩, ⟨HG.out.1.2, H2.out.1.2⟩, rfl, ⟨HP.out.below hB3, H2.out.2.2⟩, HG.out.2, H2.out.2.1⟩⟩

/-- The faces that both have. -/
def bothI (p q : List (List Int)) : List (List Int) := p.filter (fun x => decide (x ∈ q))

set_option maxRecDepth 100000 in
set_option maxHeartbeats 2000000 in
theorem meet_call {a : Nat → Addr} {s : Nat → ByteArray} (vl vm : Value) (l m : List (List Int)) (w : World) (hE : Errs a s w) (hl : Rows w vl l) (hm : Rows w vm m) (hll : l.length ≤ 100000) (hle : ∀ x ∈ l, x.length ≤ 1000) (hml : m.length ≤ 100000) (hme : ∀ x ∈ m, x.length ≤ 1000) :
    Calls Tryd.prog 18 #[.agg #[vl], .agg #[vm]] w fun e w' => PartG a (JErr l m) (fun L => ∃ p q, Good l p ∧ Good m q ∧ IsFacets (bothI p q) L) w e w' := by
  obtain ⟨al, cl, rfl, -, -⟩ := hl.open_
  obtain ⟨am, cm, rfl, -, -⟩ := hm.open_
  have hBa := three_below w (.slice al l.length cl) (.slice am m.length cm) (.slice none 0 0) 27 27 27
  have hbx := three_boxes w (.slice al l.length cl) (.slice am m.length cm) (.slice none 0 0) 27 27 27
  have hop := both_g _ _ l m _ (hE.below hBa) (hl.below hBa) (hm.below hBa) hll hle hml hme
  have hbc := hbx.1
  have hbd := hbx.2.1
  clear hl hm
  go_enter Tryd.func18, Tryd.ntmps18
  go_wp2_with fail
  refine hop.mono ?_
  clear hop
  rintro e w2 ⟨hB2, ⟨i, v1, v2, hbad, rfl⟩ | ⟨p, q, b1, b2, F1, G1, F2, G2, hg, ht, rfl, hP, -, -⟩⟩
  · rw [three_size] at hB2
    have c1 : w2.cell? ⟨w.heap.size + 1 + 1, 0, none⟩ = some (.slice none 0 0) := (hB2.cell (p := ⟨w.heap.size + 1 + 1, 0, none⟩) (by show w.heap.size + 1 + 1 < w.heap.size + 3; omega)).trans hbx.2.2.1
    have z1 : w2.frozen? ⟨w.heap.size + 1 + 1, 0, none⟩ = false := (hB2.frozen (p := ⟨w.heap.size + 1 + 1, 0, none⟩) (by show w.heap.size + 1 + 1 < w.heap.size + 3; omega)).trans hbx.2.2.2
    have c2 := World.cell?_setCell_same' w2 ⟨w.heap.size + 1 + 1, 0, none⟩ (.slice none 0 0) (by rw [c1]; rfl)
    have HBD : Hid (JErr l m i) := hbad
    clear hbad
    go_wp2
    refine bodyPost_ret (v := .tuple #[.agg #[.slice none 0 0], .iface 165 (.pointer (some (a i)))]) ?_ rfl ?_
    · simp [results, Tryd.f18, go_sem, c2]
    · exact ⟨(hBa.trans (hB2.mono (by omega))).setCell (p := ⟨w.heap.size + 1 + 1, 0, none⟩) (by show w.heap.size ≤ w.heap.size + 1 + 1; omega) _, .inl ⟨i, HBD.out, rfl⟩⟩
  · have hBw2 : Below w.heap.size w w2 := hBa.trans (hB2.mono (by rw [three_size]; omega))
    have hkept := kept_b b1 F1 G1 45 #[.map (some b2)] #[] (fun x => decide (x ∈ F2)) w2 hP.1 (by have := ht.1.few; omega) (fun x hx => by have := ht.1.short x hx; omega) (enters_of Tryd.func45 (by kernel_rfl) rfl)
      (fun x hxF W hW => by
        have := holds_ b2 F2 G2 x W (hP.2.below hW) (by have := ht.1.short x hxF; omega)
        simpa using this)
    have HG : Hid ((Good l p ∧ Good m q) ∧ Told F1 p ∧ Told F2 q) := ⟨hg, ht⟩
    clear hg ht hP
    go_wp2_with fail
    refine hkept.mono ?_
    clear hkept
    rintro e w3 ⟨v, ks, rfl, hs, hkn, hkm, hB3⟩
    obtain ⟨fs, hfs⟩ : ∃ fs, srtS ks = fs := ⟨_, rfl⟩
    rw [hfs] at hs
    have HM : Hid (∀ x, x ∈ fs ↔ x ∈ F1 ∧ x ∈ F2) := fun x => by
      rw [← hfs]
      have e1 : x ∈ srtS ks ↔ x ∈ ks := (List.mergeSort_perm ks _).mem_iff
      rw [e1, hkm]; simp
    have hfl : fs.length ≤ 600 := by
      have e1 : (srtS ks).length = ks.length := (List.mergeSort_perm ks _).length_eq
      have := nodup_le hkn (fun x hx => ((hkm x).1 hx).1)
      have := HG.out.2.1.few
      rw [← hfs]; omega
    have hsame : ∀ t, t ∈ fs.map ints ↔ t ∈ bothI p q := fun t => by
      unfold bothI
      rw [List.mem_filter, List.mem_map]
      constructor
      · rintro ⟨x, hx, rfl⟩
        have := (HM.out x).1 hx
        exact ⟨(mem_told HG.out.2.1 x).1 this.1, decide_eq_true ((mem_told HG.out.2.2 x).1 this.2)⟩
      · rintro ⟨h1, h2⟩
        obtain ⟨x, hx, rfl⟩ := List.mem_map.1 (HG.out.2.1.perm.mem_iff.2 h1)
        exact ⟨x, (HM.out x).2 ⟨hx, (mem_told HG.out.2.2 x).2 (of_decide_eq_true h2)⟩, rfl⟩
    have HSA : Hid (∀ t, t ∈ fs.map ints ↔ t ∈ bothI p q) := hsame
    have HNO : Hid (¬ Over fs) := sub_over HG.out.1.1 (fun t ht => (List.mem_filter.1 ((hsame t).1 ht)).1)
    obtain ⟨av, cv, rfl, -, -⟩ := hs.open_
    have hBw3 : Below w.heap.size w w3 := hBw2.trans (hB3.mono hBw2.size)
    have hval := (callsIn_wide (n := 10)).1 (values_made Fence.wide 10 trivial rfl av fs.length cv w3)
    have hbu := built_values w3 av fs.length cv fs rfl (by omega) (fun x hx => by
      have h1 := ((HM.out x).1 hx).1
      exact ⟨List.length_pos_iff.2 (HG.out.2.1.some_ x h1), by have := HG.out.2.1.short x h1; omega⟩) (SliceIn.mono hs (fun _ _ _ => trivial)) (hE.below hBw3)
    clear hs hkn hkm hfs hsame
    go_wp2_with (go_at_call 42; refine hval.mono ?_; rintro e w5 ⟨rfl, rfl⟩)
    refine hbu.mono ?_
    clear hbu hval
    rintro e w4 ⟨hB4, ⟨hov, rfl⟩ | ⟨-, v4, ss, rfl, hown, hnd, hmm⟩⟩
    · exact absurd hov HNO.out
    · have HL : Hid (IsFacets (bothI p q) ((srtS ss).map ints)) := isFacets_of (face_members HSA.out) (facets_built hnd hmm)
      have hB24 : Below w2.heap.size w2 w4 := hB3.trans ((((Below.refl _ w3).alloc (Nat.le_refl _) _).trans (hB4.mono (by simp))).mono hB3.size)
      have hB04 := hB2.trans (hB24.mono hB2.size)
      rw [three_size] at hB04
      have c1 : w4.cell? ⟨w.heap.size + 1 + 1, 0, none⟩ = some (.slice none 0 0) := (hB04.cell (p := ⟨w.heap.size + 1 + 1, 0, none⟩) (by show w.heap.size + 1 + 1 < w.heap.size + 3; omega)).trans hbx.2.2.1
      have z1 : w4.frozen? ⟨w.heap.size + 1 + 1, 0, none⟩ = false := (hB04.frozen (p := ⟨w.heap.size + 1 + 1, 0, none⟩) (by show w.heap.size + 1 + 1 < w.heap.size + 3; omega)).trans hbx.2.2.2
      have hs2 : w.heap.size + 3 ≤ w3.heap.size := by have h1 := hB2.size; have h2 := hB3.size; rw [three_size] at h1; omega
      have H1 : Hid (OwnRows (w3.alloc (.cells #[.slice av fs.length cv] 52)).heap.size w4 v4 ((srtS ss).map ints)) := hown
      obtain ⟨a4, c4, rfl, -, -⟩ := hown.rows.open_
      have c2 := World.cell?_setCell_same' w4 ⟨w.heap.size + 1 + 1, 0, none⟩ (.slice a4 ((srtS ss).map ints).length c4) (by rw [c1]; rfl)
      rw [List.length_map] at c2
      clear hown hnd hmm hB4 hB24
      go_wp2
      refine bodyPost_ret (v := .tuple #[.agg #[.slice a4 (srtS ss).length c4], .nilIface]) ?_ rfl ?_
      · simp [results, Tryd.f18, go_sem, c2]
      · have h1 := H1.out
        rw [List.length_map, World.size_alloc] at h1
        refine ⟨(hBa.trans (hB04.mono (by omega))).setCell (p := ⟨w.heap.size + 1 + 1, 0, none⟩) (by show w.heap.size ≤ w.heap.size + 1 + 1; omega) _, .inr ⟨_, _, ⟨p, q, HG.out.1.1, HG.out.1.2, HL.out⟩, rfl, ?_⟩⟩
        exact (h1.setCell (p := ⟨w.heap.size + 1 + 1, 0, none⟩) (by show w.heap.size + 1 + 1 < w3.heap.size + 1; omega) _).lower (by omega)

end Go.Proofs.YtkmecdgnoemimaaDoor

namespace Go.Proofs.YtkmecdgnoemimaaDoor
open Go.RowKit Go.Shelf Go.Sort Go.Maps Go.Deep

/-- The product's sets. -/
def prodS (p q : List (List Int)) : List (List Int) := growAll p q (vertI p) (vertI q)
theorem Good.whole {l p : List (List Int)} (g : Good l p) : WholeL p := fun f hf => ⟨g.rising f hf, fun _ hs hn => g.sub hf hs hn⟩
theorem Good.vrise {l p : List (List Int)} (g : Good l p) : Rising (vertI p) := vertI_rising g.isAll.order
theorem Good.vlen {l p : List (List Int)} (g : Good l p) : (vertI p).length ≤ 100 := range_len g.vrise (a := 0) (fun v hv => by
  have := (face_ok_of g (vertI_mem.1 hv)).1.2.2 v (by simp)
  omega)
theorem ahead_lt {u v : Int} (h : u < v) : ahead [u] [v] = true := by
  rcases ahead_total [u] [v] (fun e => by simp at e; omega) with h1 | h1
  · exact h1
  · have := ahead_one h1; omega
theorem verts_texts {l p : List (List Int)} (g : Good l p) {F us : List (List UInt8)} (ht : Told F p) (hn : us.Nodup) (hm : ∀ x, x ∈ us ↔ x ∈ F ∧ x.length = 1) : (srtS us).map ints = (vertI p).map (fun v => [v]) := by
  refine order_told (sorted_order hn) ?_ (fun t => ?_)
  · unfold Order
    rw [List.pairwise_map]
    exact g.vrise.imp (fun h => ahead_lt h)
  · rw [List.mem_map, List.mem_map]
    constructor
    · rintro ⟨x, hx, rfl⟩
      have hx' := (hm x).1 ((List.mergeSort_perm us _).mem_iff.1 hx)
      obtain ⟨c, rfl⟩ := List.length_eq_one_iff.1 hx'.2
      exact ⟨(c.toNat : Int), vertI_mem.2 ((mem_told ht [c]).1 hx'.1), rfl⟩
    · rintro ⟨v, hv, rfl⟩
      obtain ⟨x, hx, e⟩ := List.mem_map.1 (ht.perm.mem_iff.2 (vertI_mem.1 hv))
      refine ⟨x, (List.mergeSort_perm us _).mem_iff.2 ((hm x).2 ⟨hx, ?_⟩), e⟩
      rw [← ints_length, e]; rfl
theorem verts_count {l p : List (List Int)} (g : Good l p) {F us : List (List UInt8)} (ht : Told F p) (hn : us.Nodup) (hm : ∀ x, x ∈ us ↔ x ∈ F ∧ x.length = 1) : (srtS us).length = (vertI p).length := by
  have := congrArg List.length (verts_texts g ht hn hm)
  simpa using this

/-- What counted tells of a complex. -/
structure CountTold (p : List (List Int)) (us ss : List (List UInt8)) : Prop where
  verts : (srtS us).map ints = (vertI p).map (fun v => [v])
  each : ∀ x ∈ srtS ss, (Rising (ints x) ∧ x ≠ []) ∧ x.length ≤ 7 ∧ ∀ c ∈ x, (c.toNat : Int) ∈ vertI p
  all : ∀ t, t ∈ (srtS ss).map ints ↔ t ∈ facetsI p
  few : (srtS ss).length ≤ 600
theorem count_told {l p : List (List Int)} (g : Good l p) {F us ss : List (List UInt8)} {G : List UInt8 → Prop} (ht : Told F p) (hG : ∀ x ∈ F, G x ↔ innerB p (ints x) = true) (hu : us.Nodup ∧ ∀ x, x ∈ us ↔ x ∈ F ∧ x.length = 1) (hs : ss.Nodup ∧ ∀ x, x ∈ ss ↔ x ∈ F ∧ ¬ G x) : CountTold p us ss := by
  have hm : ∀ x, x ∈ srtS ss ↔ x ∈ ss := fun x => (List.mergeSort_perm ss _).mem_iff
  have hF : ∀ x ∈ srtS ss, x ∈ F := fun x hx => ((hs.2 x).1 ((hm x).1 hx)).1
  refine ⟨verts_texts g ht hu.1 hu.2, fun x hx => ⟨⟨g.rising _ ((mem_told ht x).1 (hF x hx)), ht.some_ x (hF x hx)⟩, ht.short x (hF x hx), fun c hc => ?_⟩, fun t => ?_, ?_⟩
  · exact vertI_mem.2 (g.sub ((mem_told ht x).1 (hF x hx)) (List.singleton_sublist.2 (List.mem_map.2 ⟨c, hc, rfl⟩)) (by simp))
  · unfold facetsI
    rw [List.mem_filter, List.mem_map]
    constructor
    · rintro ⟨x, hx, rfl⟩
      have h5 := (hs.2 x).1 ((hm x).1 hx)
      refine ⟨(mem_told ht x).1 h5.1, ?_⟩
      cases h6 : innerB p (ints x)
      · rfl
      · exact absurd ((hG x h5.1).2 h6) h5.2
    · rintro ⟨h5, h6⟩
      obtain ⟨x, hx, rfl⟩ := List.mem_map.1 (ht.perm.mem_iff.2 h5)
      refine ⟨x, (hm x).2 ((hs.2 x).2 ⟨hx, fun hg => ?_⟩), rfl⟩
      rw [(hG x hx).1 hg] at h6; cases h6
  · have e1 : (srtS ss).length = ss.length := (List.mergeSort_perm ss _).length_eq
    have := nodup_le hs.1 (fun x hx => ((hs.2 x).1 hx).1)
    have := ht.few
    omega
theorem CountTold.sizes {p : List (List Int)} {us ss : List (List UInt8)} (h : CountTold p us ss) : ∀ x ∈ (srtS ss).map (placeU (srtS us)), x ≠ [] ∧ x.length ≤ 10 := fun x hx => by
  obtain ⟨y, hy, rfl⟩ := List.mem_map.1 hx
  have := h.each y hy
  refine ⟨fun e => this.1.2 (by simpa [placeU] using e), ?_⟩
  simp only [placeU, List.length_map]
  omega

theorem counted_g {l p : List (List Int)} (b : Nat) (F : List (List UInt8)) (G : List UInt8 → Prop) (w : World) (hP : PileAt w b F G) (g : Good l p) (ht : Told F p) (hG : ∀ x ∈ F, G x ↔ innerB p (ints x) = true) :
    Calls Tryd.prog 29 #[.map (some b)] w fun e w' => ∃ v us ss, e = .returned v ∧ StrsIn (fun b => w.heap.size ≤ b) w' v ((srtS ss).map (placeU (srtS us))) ∧ CountTold p us ss ∧ Below w.heap.size w w' := by
  refine (counted_ b F G w hP ht.few ht.short (fun x hx c hc => ?_)).mono ?_
  · have := ((face_ok_of g ((mem_told ht x).1 hx)).1.2.2 (c.toNat : Int) (List.mem_map.2 ⟨c, hc, rfl⟩)).2
    omega
  · rintro e w' ⟨v, us, ss, rfl, h1, h2, h3, h4⟩
    exact ⟨v, us, ss, rfl, h1, count_told g ht hG h2 h3, h4⟩

theorem prod_same {l m p q : List (List Int)} (g1 : Good l p) (g2 : Good m q) {us1 ss1 us2 ss2 : List (List UInt8)} (h1 : CountTold p us1 ss1) (h2 : CountTold q us2 ss2) (hm : (vertI p).length * (vertI q).length ≤ 100) (y : List Int) :
    FaceOf ((stairsU (vertI q).length ((srtS ss1).map (placeU (srtS us1))) ((srtS ss2).map (placeU (srtS us2)))).map ints) y ↔ FaceOf (prodS p q) y := by
  unfold prodS
  rw [growAll_faces g1.whole g2.whole]
  refine texts_faces g1.vrise g2.vrise g1.vlen g2.vlen hm h1.verts h2.verts h1.each h2.each h1.all h2.all (fun x hx => (List.mem_filter.1 hx).1) (fun x hx => (List.mem_filter.1 hx).1) (fun x hx => ?_) (fun x hx => ?_) y
  · obtain ⟨t, t1, t2, t3⟩ := g1.facet hx
    exact ⟨t, List.mem_filter.2 ⟨t1, by rw [t2]; rfl⟩, t3⟩
  · obtain ⟨t, t1, t2, t3⟩ := g2.facet hx
    exact ⟨t, List.mem_filter.2 ⟨t1, by rw [t2]; rfl⟩, t3⟩

end Go.Proofs.YtkmecdgnoemimaaDoor
