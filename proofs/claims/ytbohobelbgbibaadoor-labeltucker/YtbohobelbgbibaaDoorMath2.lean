/- Plain facts: the faces of sets told as texts and as lists of numbers are the same ones, and so are the facets. -/
import Derived.Test.YtbohobelbgbibaaDoorMath1
namespace Go.Proofs.YtbohobelbgbibaaDoor

theorem face_ints {ts : List (List UInt8)} {x : List UInt8} : FaceOf (ts.map ints) (ints x) ↔ FaceOf ts x := by
  unfold FaceOf
  constructor
  · rintro ⟨h, t, ht, hs⟩
    obtain ⟨u, hu, rfl⟩ := List.mem_map.1 ht
    exact ⟨fun e => h (by rw [e]; rfl), u, hu, ints_sub.1 hs⟩
  · rintro ⟨h, t, ht, hs⟩
    exact ⟨fun e => h (ints_inj e), ints t, List.mem_map.2 ⟨t, ht, rfl⟩, ints_sub.2 hs⟩

theorem inner_ints {ts : List (List UInt8)} {x : List UInt8} : InnerOf (ts.map ints) (ints x) ↔ InnerOf ts x := by
  unfold InnerOf
  constructor
  · rintro ⟨h, t, ht, hs, hl⟩
    obtain ⟨u, hu, rfl⟩ := List.mem_map.1 ht
    exact ⟨fun e => h (by rw [e]; rfl), u, hu, ints_sub.1 hs, by simpa [ints_length] using hl⟩
  · rintro ⟨h, t, ht, hs, hl⟩
    exact ⟨fun e => h (ints_inj e), ints t, List.mem_map.2 ⟨t, ht, rfl⟩, ints_sub.2 hs, by simpa [ints_length] using hl⟩

theorem face_from {ts : List (List UInt8)} {y : List Int} (h : FaceOf (ts.map ints) y) : ∃ x, y = ints x := by
  obtain ⟨_, t, ht, hs⟩ := h
  obtain ⟨u, _, rfl⟩ := List.mem_map.1 ht
  obtain ⟨l, _, e⟩ := List.sublist_map_iff.1 hs
  exact ⟨l, e⟩

theorem over_ints {ts : List (List UInt8)} : Over (ts.map ints) ↔ Over ts := by
  constructor
  · rintro (⟨t, ht, hl⟩ | ⟨X, hn, hl, hx⟩)
    · obtain ⟨u, hu, rfl⟩ := List.mem_map.1 ht
      exact .inl ⟨u, hu, by simpa [ints_length] using hl⟩
    · have : ∀ Y : List (List Int), (∀ y ∈ Y, FaceOf (ts.map ints) y) → ∃ Z : List (List UInt8), Y = Z.map ints := by
        intro Y
        induction Y with
        | nil => intro _; exact ⟨[], rfl⟩
        | cons y Y ih =>
          intro h
          obtain ⟨Z, e⟩ := ih (fun z hz => h z (by simp [hz]))
          obtain ⟨x, ex⟩ := face_from (h y (by simp))
          exact ⟨x :: Z, by simp [e, ex]⟩
      obtain ⟨Z, rfl⟩ := this X hx
      refine .inr ⟨Z, ?_, by simpa using hl, fun x hx' => face_ints.1 (hx _ (List.mem_map.2 ⟨x, hx', rfl⟩))⟩
      exact (List.pairwise_map.1 hn).imp (fun h e => h (by rw [e]))
  · rintro (⟨t, ht, hl⟩ | ⟨X, hn, hl, hx⟩)
    · exact .inl ⟨ints t, List.mem_map.2 ⟨t, ht, rfl⟩, by simpa [ints_length] using hl⟩
    · refine .inr ⟨X.map ints, ?_, by simpa using hl, fun y hy => ?_⟩
      · exact List.pairwise_map.2 (hn.imp (fun h e => h (ints_inj e)))
      · obtain ⟨x, hx', rfl⟩ := List.mem_map.1 hy
        exact face_ints.2 (hx x hx')

/-- Is a face a part of a greater one of these? -/
def innerB (all : List (List Int)) (x : List Int) : Bool := all.any (fun y => decide (x.length < y.length) && x.all (fun v => y.contains v))
def facetsI (all : List (List Int)) : List (List Int) := all.filter (fun x => !innerB all x)

/-- All faces of sets, in order. -/
structure IsAll (ts all : List (List Int)) : Prop where
  order : Order all
  mem : ∀ x, x ∈ all ↔ FaceOf ts x

theorem face_rising {ts : List (List Int)} (hr : ∀ t ∈ ts, Rising t) {x : List Int} (h : FaceOf ts x) : Rising x := by
  obtain ⟨_, t, ht, hs⟩ := h
  exact (hr t ht).sublist hs

theorem innerB_iff {ts all : List (List Int)} (hr : ∀ t ∈ ts, Rising t) (h : IsAll ts all) {x : List Int} (hx : x ∈ all) : innerB all x = true ↔ InnerOf ts x := by
  have hfx := (h.mem x).1 hx
  unfold innerB
  rw [List.any_eq_true]
  constructor
  · rintro ⟨y, hy, hc⟩
    simp only [Bool.and_eq_true, decide_eq_true_eq, List.all_eq_true] at hc
    have hfy := (h.mem y).1 hy
    have hs := rising_sub (face_rising hr hfx) (face_rising hr hfy) (fun v hv => by simpa using hc.2 v hv)
    obtain ⟨_, t, ht, hst⟩ := hfy
    have := hst.length_le
    exact ⟨hfx.1, t, ht, hs.trans hst, by omega⟩
  · rintro ⟨_, t, ht, hs, hl⟩
    refine ⟨t, (h.mem t).2 ⟨fun e => by subst e; simp at hl, t, ht, List.Sublist.refl _⟩, ?_⟩
    simp only [Bool.and_eq_true, decide_eq_true_eq, List.all_eq_true]
    exact ⟨hl, fun v hv => by simpa using hs.subset hv⟩

theorem facets_mem {ts all : List (List Int)} (hr : ∀ t ∈ ts, Rising t) (h : IsAll ts all) (x : List Int) : x ∈ facetsI all ↔ FaceOf ts x ∧ ¬ InnerOf ts x := by
  unfold facetsI
  rw [List.mem_filter]
  constructor
  · rintro ⟨a, b⟩
    refine ⟨(h.mem x).1 a, fun hi => ?_⟩
    rw [(innerB_iff hr h a).2 hi] at b; cases b
  · rintro ⟨a, b⟩
    have hx := (h.mem x).2 a
    refine ⟨hx, ?_⟩
    have : innerB all x = false := by
      cases e : innerB all x
      · rfl
      · exact absurd ((innerB_iff hr h hx).1 e) b
    rw [this]; rfl

theorem facets_order {all : List (List Int)} (h : Order all) : Order (facetsI all) := h.filter _

/-- The facets that the map tells, sorted, are those of the list of all faces. -/
theorem facets_same {ts ss : List (List UInt8)} {all : List (List Int)} (hr : ∀ t ∈ ts, Rising (ints t)) (h : IsAll (ts.map ints) all) (hn : ss.Nodup)
    (hm : ∀ x, x ∈ ss ↔ FaceOf ts x ∧ ¬ InnerOf ts x) : (ss.mergeSort (fun x y => decide (x ≤ y))).map ints = facetsI all := by
  have hr' : ∀ t ∈ ts.map ints, Rising t := fun t ht => by obtain ⟨u, hu, rfl⟩ := List.mem_map.1 ht; exact hr u hu
  refine order_told (sorted_order hn) (facets_order h.order) (fun y => ?_)
  rw [facets_mem hr' h, List.mem_map]
  constructor
  · rintro ⟨x, hx, rfl⟩
    have := (hm x).1 ((List.mergeSort_perm ss _).mem_iff.1 hx)
    exact ⟨face_ints.2 this.1, fun hi => this.2 (inner_ints.1 hi)⟩
  · rintro ⟨a, b⟩
    obtain ⟨x, rfl⟩ := face_from a
    exact ⟨x, (List.mergeSort_perm ss _).mem_iff.2 ((hm x).2 ⟨face_ints.1 a, fun hi => b (inner_ints.2 hi)⟩), rfl⟩

/-- A set of vertices, in any order. -/
def SetOk (l : List Int) : Prop := l ≠ [] ∧ l.Nodup ∧ ∀ v ∈ l, 0 ≤ v ∧ v ≤ 99

/-- The text of a set: its vertices, rising. -/
def TextOf (l : List Int) (t : List UInt8) : Prop := Rising (ints t) ∧ ∀ v : Int, v ∈ ints t ↔ v ∈ l

theorem text_sorted {l s : List Int} {t : List UInt8} (ht : TextOf l t) (hs : Rising s) (hm : ∀ v, v ∈ s ↔ v ∈ l) : ints t = s :=
  rising_told ht.1 hs (fun v => by rw [ht.2, hm])

end Go.Proofs.YtbohobelbgbibaaDoor
