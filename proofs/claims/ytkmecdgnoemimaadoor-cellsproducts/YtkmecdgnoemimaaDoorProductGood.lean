/- Products: what counted tells of two complexes, and the product's sets. -/
import Derived.Test.YtkmecdgnoemimaaDoorProductTexts
import Derived.Test.YtkmecdgnoemimaaDoorCountedWalk
import Derived.Test.YtkmecdgnoemimaaDoorRefJoin
import Derived.Test.YtkmecdgnoemimaaDoorBoth
namespace Go.Proofs.YtkmecdgnoemimaaDoor
open Go.RowKit Go.Shelf Go.Sort Go.Maps Go.Deep

/-- The product's sets. -/
def prodS (p q : List (List Int)) : List (List Int) := growAll p q (vertI p) (vertI q)
theorem Good.whole {l p : List (List Int)} (g : Good l p) : WholeL p := fun f hf => ⟨g.rising f hf, fun _ hs hn => g.sub hf hs hn⟩
theorem Good.vrise {l p : List (List Int)} (g : Good l p) : Rising (vertI p) := vertI_rising g.isAll.order
theorem Good.vlen {l p : List (List Int)} (g : Good l p) : (vertI p).length ≤ 100 := range_len g.vrise (a := 0) (fun v hv => by
  have := (face_ok_of g (vertI_mem.1 hv)).1.2.2 v (by simp)
  omega)
theorem ahead_lt {u v : Int} (h : u < v) : ahead [u] [v] = true := by
  rcases ahead_total [u] [v] (fun e => by simp at e; omega) with h1 | h1
  · exact h1
  · have := ahead_one h1; omega
theorem verts_texts {l p : List (List Int)} (g : Good l p) {F us : List (List UInt8)} (ht : Told F p) (hn : us.Nodup) (hm : ∀ x, x ∈ us ↔ x ∈ F ∧ x.length = 1) : (srtS us).map ints = (vertI p).map (fun v => [v]) := by
  refine order_told (sorted_order hn) ?_ (fun t => ?_)
  · unfold Order
    rw [List.pairwise_map]
    exact g.vrise.imp (fun h => ahead_lt h)
  · rw [List.mem_map, List.mem_map]
    constructor
    · rintro ⟨x, hx, rfl⟩
      have hx' := (hm x).1 ((List.mergeSort_perm us _).mem_iff.1 hx)
      obtain ⟨c, rfl⟩ := List.length_eq_one_iff.1 hx'.2
      exact ⟨(c.toNat : Int), vertI_mem.2 ((mem_told ht [c]).1 hx'.1), rfl⟩
    · rintro ⟨v, hv, rfl⟩
      obtain ⟨x, hx, e⟩ := List.mem_map.1 (ht.perm.mem_iff.2 (vertI_mem.1 hv))
      refine ⟨x, (List.mergeSort_perm us _).mem_iff.2 ((hm x).2 ⟨hx, ?_⟩), e⟩
      rw [← ints_length, e]; rfl
theorem verts_count {l p : List (List Int)} (g : Good l p) {F us : List (List UInt8)} (ht : Told F p) (hn : us.Nodup) (hm : ∀ x, x ∈ us ↔ x ∈ F ∧ x.length = 1) : (srtS us).length = (vertI p).length := by
  have := congrArg List.length (verts_texts g ht hn hm)
  simpa using this

/-- What counted tells of a complex. -/
structure CountTold (p : List (List Int)) (us ss : List (List UInt8)) : Prop where
  verts : (srtS us).map ints = (vertI p).map (fun v => [v])
  each : ∀ x ∈ srtS ss, (Rising (ints x) ∧ x ≠ []) ∧ x.length ≤ 7 ∧ ∀ c ∈ x, (c.toNat : Int) ∈ vertI p
  all : ∀ t, t ∈ (srtS ss).map ints ↔ t ∈ facetsI p
  few : (srtS ss).length ≤ 600
theorem count_told {l p : List (List Int)} (g : Good l p) {F us ss : List (List UInt8)} {G : List UInt8 → Prop} (ht : Told F p) (hG : ∀ x ∈ F, G x ↔ innerB p (ints x) = true) (hu : us.Nodup ∧ ∀ x, x ∈ us ↔ x ∈ F ∧ x.length = 1) (hs : ss.Nodup ∧ ∀ x, x ∈ ss ↔ x ∈ F ∧ ¬ G x) : CountTold p us ss := by
  have hm : ∀ x, x ∈ srtS ss ↔ x ∈ ss := fun x => (List.mergeSort_perm ss _).mem_iff
  have hF : ∀ x ∈ srtS ss, x ∈ F := fun x hx => ((hs.2 x).1 ((hm x).1 hx)).1
  refine ⟨verts_texts g ht hu.1 hu.2, fun x hx => ⟨⟨g.rising _ ((mem_told ht x).1 (hF x hx)), ht.some_ x (hF x hx)⟩, ht.short x (hF x hx), fun c hc => ?_⟩, fun t => ?_, ?_⟩
  · exact vertI_mem.2 (g.sub ((mem_told ht x).1 (hF x hx)) (List.singleton_sublist.2 (List.mem_map.2 ⟨c, hc, rfl⟩)) (by simp))
  · unfold facetsI
    rw [List.mem_filter, List.mem_map]
    constructor
    · rintro ⟨x, hx, rfl⟩
      have h5 := (hs.2 x).1 ((hm x).1 hx)
      refine ⟨(mem_told ht x).1 h5.1, ?_⟩
      cases h6 : innerB p (ints x)
      · rfl
      · exact absurd ((hG x h5.1).2 h6) h5.2
    · rintro ⟨h5, h6⟩
      obtain ⟨x, hx, rfl⟩ := List.mem_map.1 (ht.perm.mem_iff.2 h5)
      refine ⟨x, (hm x).2 ((hs.2 x).2 ⟨hx, fun hg => ?_⟩), rfl⟩
      rw [(hG x hx).1 hg] at h6; cases h6
  · have e1 : (srtS ss).length = ss.length := (List.mergeSort_perm ss _).length_eq
    have := nodup_le hs.1 (fun x hx => ((hs.2 x).1 hx).1)
    have := ht.few
    omega
theorem CountTold.sizes {p : List (List Int)} {us ss : List (List UInt8)} (h : CountTold p us ss) : ∀ x ∈ (srtS ss).map (placeU (srtS us)), x ≠ [] ∧ x.length ≤ 10 := fun x hx => by
  obtain ⟨y, hy, rfl⟩ := List.mem_map.1 hx
  have := h.each y hy
  refine ⟨fun e => this.1.2 (by simpa [placeU] using e), ?_⟩
  simp only [placeU, List.length_map]
  omega

theorem counted_g {l p : List (List Int)} (b : Nat) (F : List (List UInt8)) (G : List UInt8 → Prop) (w : World) (hP : PileAt w b F G) (g : Good l p) (ht : Told F p) (hG : ∀ x ∈ F, G x ↔ innerB p (ints x) = true) :
    Calls Tryd.prog 29 #[.map (some b)] w fun e w' => ∃ v us ss, e = .returned v ∧ StrsIn (fun b => w.heap.size ≤ b) w' v ((srtS ss).map (placeU (srtS us))) ∧ CountTold p us ss ∧ Below w.heap.size w w' := by
  refine (counted_ b F G w hP ht.few ht.short (fun x hx c hc => ?_)).mono ?_
  · have := ((face_ok_of g ((mem_told ht x).1 hx)).1.2.2 (c.toNat : Int) (List.mem_map.2 ⟨c, hc, rfl⟩)).2
    omega
  · rintro e w' ⟨v, us, ss, rfl, h1, h2, h3, h4⟩
    exact ⟨v, us, ss, rfl, h1, count_told g ht hG h2 h3, h4⟩

theorem prod_same {l m p q : List (List Int)} (g1 : Good l p) (g2 : Good m q) {us1 ss1 us2 ss2 : List (List UInt8)} (h1 : CountTold p us1 ss1) (h2 : CountTold q us2 ss2) (hm : (vertI p).length * (vertI q).length ≤ 100) (y : List Int) :
    FaceOf ((stairsU (vertI q).length ((srtS ss1).map (placeU (srtS us1))) ((srtS ss2).map (placeU (srtS us2)))).map ints) y ↔ FaceOf (prodS p q) y := by
  unfold prodS
  rw [growAll_faces g1.whole g2.whole]
  refine texts_faces g1.vrise g2.vrise g1.vlen g2.vlen hm h1.verts h2.verts h1.each h2.each h1.all h2.all (fun x hx => (List.mem_filter.1 hx).1) (fun x hx => (List.mem_filter.1 hx).1) (fun x hx => ?_) (fun x hx => ?_) y
  · obtain ⟨t, t1, t2, t3⟩ := g1.facet hx
    exact ⟨t, List.mem_filter.2 ⟨t1, by rw [t2]; rfl⟩, t3⟩
  · obtain ⟨t, t1, t2, t3⟩ := g2.facet hx
    exact ⟨t, List.mem_filter.2 ⟨t1, by rw [t2]; rfl⟩, t3⟩

end Go.Proofs.YtkmecdgnoemimaaDoor
