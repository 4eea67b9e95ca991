/- Unions, meets and joins: what the facets tell and what the reference tells are the same. -/
import Derived.Test.YtopopbhpclhinaaGreatDoorPartsMath
namespace Go.Proofs.YtopopbhpclhinaaGreatDoor
open Go.RowKit Go.Sort

theorem over_same {α : Type} {g g' : List (List α)} (h : ∀ y, FaceOf g y ↔ FaceOf g' y) : Over g ↔ Over g' := by
  have key : ∀ {g g' : List (List α)}, (∀ y, FaceOf g y ↔ FaceOf g' y) → Over g → Over g' := by
    rintro g g' h (⟨t, ht, hl⟩ | ⟨X, hn, hl, hx⟩)
    · obtain ⟨_, t', ht', hs⟩ := (h t).1 ⟨fun e => by subst e; simp at hl, t, ht, List.Sublist.refl _⟩
      have := hs.length_le
      exact .inl ⟨t', ht', by omega⟩
    · exact .inr ⟨X, hn, hl, fun x hx' => (h x).1 (hx x hx')⟩
  exact ⟨key h, key (fun y => (h y).symm)⟩

/-- The facets of a complex tell its faces. -/
theorem facets_faces {l all : List (List Int)} (g : Good l all) (y : List Int) : FaceOf (facetsI all) y ↔ y ∈ all := by
  constructor
  · rintro ⟨h1, t, ht, hs⟩
    exact g.sub (List.mem_filter.1 ht).1 hs h1
  · intro hy
    obtain ⟨t, t1, t2, t3⟩ := g.facet hy
    exact ⟨(face_ok_of g hy).1.1, t, List.mem_filter.2 ⟨t1, by rw [t2]; rfl⟩, t3⟩
theorem all_faces {l all : List (List Int)} (g : Good l all) (y : List Int) : FaceOf all y ↔ y ∈ all :=
  ⟨fun ⟨h1, _, ht, hs⟩ => g.sub ht hs h1, fun h => ⟨(face_ok_of g h).1.1, y, h, List.Sublist.refl _⟩⟩
theorem face_append {α : Type} {g h : List (List α)} {y : List α} : FaceOf (g ++ h) y ↔ FaceOf g y ∨ FaceOf h y := by
  constructor
  · rintro ⟨h1, t, ht, hs⟩
    rcases List.mem_append.1 ht with ht | ht
    · exact .inl ⟨h1, t, ht, hs⟩
    · exact .inr ⟨h1, t, ht, hs⟩
  · rintro (⟨h1, t, ht, hs⟩ | ⟨h1, t, ht, hs⟩)
    · exact ⟨h1, t, List.mem_append.2 (.inl ht), hs⟩
    · exact ⟨h1, t, List.mem_append.2 (.inr ht), hs⟩
theorem union_same {a b p q : List (List Int)} (ga : Good a p) (gb : Good b q) (y : List Int) : FaceOf (facetsI p ++ facetsI q) y ↔ FaceOf (p ++ q) y := by
  rw [face_append, face_append, facets_faces ga, facets_faces gb, all_faces ga, all_faces gb]

/-- The greatest vertex; -1, if there is none. -/
def topV : List (List Int) → Int
  | [] => -1
  | x :: l => max (x.getLast?.getD (-1)) (topV l)
theorem topV_ge {l : List (List Int)} : -1 ≤ topV l := by
  induction l with
  | nil => simp [topV]
  | cons x l ih => simp only [topV]; omega
theorem last_max {x : List Int} (h : Rising x) {v : Int} (hv : v ∈ x) : v ≤ x.getLast?.getD (-1) := by
  induction x generalizing v with
  | nil => cases hv
  | cons a x ih =>
    cases x with
    | nil => simp at hv; subst hv; simp
    | cons b x =>
      have h' := List.pairwise_cons.1 h
      rw [List.getLast?_cons_cons]
      rcases List.mem_cons.1 hv with rfl | hv
      · have h1 := h'.1 b (by simp)
        have h2 := ih h'.2 (List.mem_cons_self ..)
        omega
      · exact ih h'.2 hv
theorem topV_max {l : List (List Int)} (h : ∀ x ∈ l, Rising x) {x : List Int} (hx : x ∈ l) {v : Int} (hv : v ∈ x) : v ≤ topV l := by
  induction l with
  | nil => cases hx
  | cons y l ih =>
    simp only [topV]
    rcases List.mem_cons.1 hx with rfl | hx
    · have := last_max (h x (by simp)) hv; omega
    · have := ih (fun z hz => h z (by simp [hz])) hx; omega
theorem topV_perm {l m : List (List Int)} (h : l.Perm m) : topV l = topV m := by
  induction h with
  | nil => rfl
  | cons x _ ih => simp only [topV]; omega
  | swap x y l => simp only [topV]; omega
  | trans _ _ h1 h2 => omega
theorem topV_snoc (l : List (List Int)) (x : List Int) : topV (l ++ [x]) = max (topV l) (x.getLast?.getD (-1)) := by
  induction l with
  | nil => simp only [List.nil_append, topV]; omega
  | cons y l ih => simp only [List.cons_append, topV, ih]; omega
/-- It is a vertex, if there is any. -/
theorem topV_in {l : List (List Int)} (h0 : ∀ x ∈ l, ∀ v ∈ x, 0 ≤ v) : topV l = -1 ∨ ∃ x ∈ l, topV l ∈ x := by
  induction l with
  | nil => exact .inl rfl
  | cons y l ih =>
    have ih' := ih (fun x hx => h0 x (by simp [hx]))
    simp only [topV]
    cases e : y.getLast? with
    | none =>
      have hge := topV_ge (l := l)
      simp only [Option.getD_none]
      rw [show max (-1) (topV l) = topV l by omega]
      rcases ih' with h | ⟨x, hx, hv⟩
      · exact .inl h
      · exact .inr ⟨x, by simp [hx], hv⟩
    | some v =>
      have hv : v ∈ y := List.mem_of_getLast? e
      simp only [Option.getD_some]
      by_cases hm : topV l ≤ v
      · rw [show max v (topV l) = v by omega]
        exact .inr ⟨y, by simp, hv⟩
      · rw [show max v (topV l) = topV l by omega]
        rcases ih' with h | ⟨x, hx, hv'⟩
        · have := h0 y (by simp) v hv
          omega
        · exact .inr ⟨x, by simp [hx], hv'⟩

/-- A face with each vertex raised. -/
def raise (up : Int) (x : List Int) : List Int := x.map (· + up)
theorem raise_rising {up : Int} {x : List Int} (h : Rising x) : Rising (raise up x) := by
  unfold raise Rising
  rw [List.pairwise_map]
  exact h.imp (fun h => by omega)
theorem raise_sub {up : Int} {x y : List Int} (h : x.Sublist y) : (raise up x).Sublist (raise up y) := h.map _
theorem sub_raise {up : Int} {y z : List Int} (h : z.Sublist (raise up y)) : ∃ x, z = raise up x ∧ x.Sublist y := by
  unfold raise at h
  obtain ⟨x, hx, rfl⟩ := List.sublist_map_iff.1 h
  exact ⟨x, rfl, hx⟩

/-- The sets of a join: of the faces of two. -/
def joinI (p q : List (List Int)) (up : Int) : List (List Int) := p ++ q.map (raise up) ++ p.flatMap (fun x => q.map (fun y => x ++ raise up y))
/-- The same of any faces that tell them. -/
def stepI (f g : List (List Int)) : List (List Int) := f ++ g ++ f.flatMap (fun x => g.map (fun y => x ++ y))

theorem step_mem {f g : List (List Int)} {t : List Int} : t ∈ stepI f g ↔ t ∈ f ∨ t ∈ g ∨ ∃ x ∈ f, ∃ y ∈ g, t = x ++ y := by
  unfold stepI
  rw [List.mem_append, List.mem_append, List.mem_flatMap, or_assoc]
  refine or_congr Iff.rfl (or_congr Iff.rfl ⟨?_, ?_⟩)
  · rintro ⟨x, hx, ht⟩
    obtain ⟨y, hy, rfl⟩ := List.mem_map.1 ht
    exact ⟨x, hx, y, hy, rfl⟩
  · rintro ⟨x, hx, y, hy, rfl⟩
    exact ⟨x, hx, List.mem_map.2 ⟨y, hy, rfl⟩⟩
theorem step_faces {f g : List (List Int)} {y : List Int} : FaceOf (stepI f g) y ↔ FaceOf f y ∨ FaceOf g y ∨ ∃ u v, y = u ++ v ∧ FaceOf f u ∧ FaceOf g v := by
  constructor
  · rintro ⟨h1, t, ht, hs⟩
    rcases step_mem.1 ht with h | h | ⟨x, hx, z, hz, rfl⟩
    · exact .inl ⟨h1, t, h, hs⟩
    · exact .inr (.inl ⟨h1, t, h, hs⟩)
    · obtain ⟨u, v, rfl, hu, hv⟩ := List.sublist_append_iff.1 hs
      by_cases eu : u = []
      · subst eu
        exact .inr (.inl ⟨by simpa using h1, z, hz, by simpa using hv⟩)
      · by_cases ev : v = []
        · subst ev
          exact .inl ⟨by simpa using h1, x, hx, by simpa using hu⟩
        · exact .inr (.inr ⟨u, v, rfl, ⟨eu, x, hx, hu⟩, ⟨ev, z, hz, hv⟩⟩)
  · rintro (⟨h1, t, ht, hs⟩ | ⟨h1, t, ht, hs⟩ | ⟨u, v, rfl, ⟨eu, x, hx, hu⟩, ⟨ev, z, hz, hv⟩⟩)
    · exact ⟨h1, t, step_mem.2 (.inl ht), hs⟩
    · exact ⟨h1, t, step_mem.2 (.inr (.inl ht)), hs⟩
    · exact ⟨by simp [eu], x ++ z, step_mem.2 (.inr (.inr ⟨x, hx, z, hz, rfl⟩)), hu.append hv⟩
theorem raise_faces {g h : List (List Int)} {up : Int} (he : ∀ y, FaceOf g y ↔ FaceOf h y) (y : List Int) : FaceOf (g.map (raise up)) y ↔ FaceOf (h.map (raise up)) y := by
  have key : ∀ {g h : List (List Int)}, (∀ y, FaceOf g y ↔ FaceOf h y) → FaceOf (g.map (raise up)) y → FaceOf (h.map (raise up)) y := by
    rintro g h he ⟨h1, t, ht, hs⟩
    obtain ⟨t0, ht0, rfl⟩ := List.mem_map.1 ht
    obtain ⟨x, rfl, hx⟩ := sub_raise hs
    obtain ⟨_, t', ht', hs'⟩ := (he x).1 ⟨fun e => h1 (by rw [e]; rfl), t0, ht0, hx⟩
    exact ⟨h1, raise up t', List.mem_map.2 ⟨t', ht', rfl⟩, raise_sub hs'⟩
  exact ⟨key he, key (fun y => (he y).symm)⟩
theorem join_same {a b p q : List (List Int)} (ga : Good a p) (gb : Good b q) (up : Int) (y : List Int) : FaceOf (stepI (facetsI p) ((facetsI q).map (raise up))) y ↔ FaceOf (stepI p (q.map (raise up))) y := by
  have h1 : ∀ y, FaceOf (facetsI p) y ↔ FaceOf p y := fun y => by rw [facets_faces ga, all_faces ga]
  have h2 : ∀ y, FaceOf (facetsI q) y ↔ FaceOf q y := fun y => by rw [facets_faces gb, all_faces gb]
  have h3 := raise_faces (up := up) h2
  rw [step_faces, step_faces]
  simp only [h1, h3]

end Go.Proofs.YtopopbhpclhinaaGreatDoor
