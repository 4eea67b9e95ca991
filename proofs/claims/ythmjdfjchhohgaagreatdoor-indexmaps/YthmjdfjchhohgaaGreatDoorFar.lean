/- Stars, links and skeletons: what the facets around a face tell and what the reference tells are the same. Unions, meets and joins: what the facets tell and what the reference tells are the same. A text with each byte raised. Joins: which sets are wrong; what texts are raised and put together; the verdict on any sets. A slice is appended onto a row of the call's own, as a step of a region that draws its order. What lies far from a row that grows is kept. -/
import Derived.Test.YthmjdfjchhohgaaGreatDoorFaces
import Derived.Test.YthmjdfjchhohgaaGreatDoorMath2
import Derived.Test.YthmjdfjchhohgaaGreatDoorBase
import Derived.Deep.RegionLaw
import Derived.Deep.AppendLies
import Derived.Test.YthmjdfjchhohgaaGreatDoorIdxNums
namespace Go.Proofs.YthmjdfjchhohgaaGreatDoor
open Go.RowKit Go.Sort

/-- The facets of the complex of some sets, in order. -/
structure IsFacets (g L : List (List Int)) : Prop where
  order : Order L
  mem : ∀ x, x ∈ L ↔ FaceOf g x ∧ ¬ InnerOf g x
theorem inner_face {α : Type} {ts : List (List α)} {x : List α} : InnerOf ts x ↔ x ≠ [] ∧ ∃ y, FaceOf ts y ∧ x.Sublist y ∧ x.length < y.length := by
  constructor
  · rintro ⟨h, t, ht, hs, hl⟩
    exact ⟨h, t, ⟨fun e => by subst e; simp at hl, t, ht, List.Sublist.refl _⟩, hs, hl⟩
  · rintro ⟨h, y, ⟨_, t, ht, hy⟩, hs, hl⟩
    have := hy.length_le
    exact ⟨h, t, ht, hs.trans hy, by omega⟩
theorem facets_one {g g' L L' : List (List Int)} (h : ∀ x, FaceOf g x ↔ FaceOf g' x) (hL : IsFacets g L) (hL' : IsFacets g' L') : L = L' := by
  refine order_told hL.order hL'.order (fun x => ?_)
  rw [hL.mem, hL'.mem, inner_face, inner_face, h]
  simp only [h]
theorem facets_built {ts ss : List (List UInt8)} (hn : ss.Nodup) (hm : ∀ x, x ∈ ss ↔ FaceOf ts x ∧ ¬ InnerOf ts x) : IsFacets (ts.map ints) ((srtS ss).map ints) where
  order := sorted_order hn
  mem := fun y => by
    rw [List.mem_map]
    constructor
    · rintro ⟨x, hx, rfl⟩
      have := (hm x).1 ((List.mergeSort_perm ss _).mem_iff.1 hx)
      exact ⟨face_ints.2 this.1, fun hi => this.2 (inner_ints.1 hi)⟩
    · rintro ⟨a, b⟩
      obtain ⟨x, rfl⟩ := face_from a
      exact ⟨x, (List.mergeSort_perm ss _).mem_iff.2 ((hm x).2 ⟨face_ints.1 a, fun hi => b (inner_ints.2 hi)⟩), rfl⟩
theorem facets_made {g all : List (List Int)} (hr : ∀ t ∈ g, Rising t) (h : IsAll g all) : IsFacets g (facetsI all) where
  order := facets_order h.order
  mem := facets_mem hr h

theorem rising_srt {x : List Int} (h : Rising x) : srt x = x := (srt_told (h.imp (fun h => Int.ne_of_lt h)) h (fun _ => Iff.rfl)).symm
theorem map_srt {g : List (List Int)} (h : ∀ x ∈ g, Rising x) : g.map srt = g := by
  induction g with
  | nil => rfl
  | cons x g ih => rw [List.map_cons, rising_srt (h x (by simp)), ih (fun y hy => h y (by simp [hy]))]

theorem Good.rising {l all : List (List Int)} (g : Good l all) : ∀ x ∈ all, Rising x := fun _ hx => (face_ok_of g hx).2
theorem Good.sub {l all : List (List Int)} (g : Good l all) {x y : List Int} (hx : x ∈ all) (hs : y.Sublist x) (hy : y ≠ []) : y ∈ all := by
  obtain ⟨_, t, ht, hxt⟩ := (g.isAll.mem x).1 hx
  exact (g.isAll.mem y).2 ⟨hy, t, ht, hs.trans hxt⟩
theorem Good.facet {l all : List (List Int)} (g : Good l all) {x : List Int} (hx : x ∈ all) : ∃ t ∈ all, innerB all t = false ∧ x.Sublist t := by
  obtain ⟨_, t, ht, hs⟩ := (g.isAll.mem x).1 hx
  obtain ⟨y, hy, rfl⟩ := List.mem_map.1 ht
  have hy' : y ∈ facetsI all := by rw [g.same]; exact hy
  obtain ⟨h1, h2⟩ := List.mem_filter.1 hy'
  rw [rising_srt (g.rising y h1)] at hs
  exact ⟨y, h1, by simpa using h2, hs⟩
theorem Good.notOver {l all g' : List (List Int)} (g : Good l all) (h : ∀ t ∈ g', t ∈ all) : ¬ Over g' := by
  have hf : ∀ x, FaceOf g' x → x ∈ all := fun x ⟨h1, t, ht, hs⟩ => g.sub (h t ht) hs h1
  rintro (⟨t, ht, hl⟩ | ⟨X, hn, hl, hx⟩)
  · have := g.short t (h t ht); omega
  · have := nodup_le hn (fun x hx' => hf x (hx x hx'))
    have := g.length
    omega

/-- Is the union of two faces one of these? -/
def uniB (all : List (List Int)) (x f : List Int) : Bool := all.any (fun o => (o.all fun v => x.contains v || f.contains v) && (x.all fun v => o.contains v) && f.all fun v => o.contains v)
theorem uniB_iff {all : List (List Int)} {x f : List Int} : uniB all x f = true ↔ ∃ o ∈ all, ∀ v, v ∈ o ↔ v ∈ x ∨ v ∈ f := by
  unfold uniB
  rw [List.any_eq_true]
  constructor
  · rintro ⟨o, ho, h⟩
    simp only [Bool.and_eq_true, List.all_eq_true, Bool.or_eq_true, List.contains_iff_mem] at h
    exact ⟨o, ho, fun v => ⟨fun hv => h.1.1 v hv, fun hv => hv.elim (h.1.2 v) (h.2 v)⟩⟩
  · rintro ⟨o, ho, h⟩
    refine ⟨o, ho, ?_⟩
    simp only [Bool.and_eq_true, List.all_eq_true, Bool.or_eq_true, List.contains_iff_mem]
    exact ⟨⟨fun v hv => (h v).1 hv, fun v hv => (h v).2 (.inl hv)⟩, fun v hv => (h v).2 (.inr hv)⟩
theorem uniB_told {all : List (List Int)} {x f out : List Int} (hr : ∀ o ∈ all, Rising o) (ho : Rising out) (hm : ∀ v, v ∈ out ↔ v ∈ x ∨ v ∈ f) : uniB all x f = true ↔ out ∈ all := by
  rw [uniB_iff]
  constructor
  · rintro ⟨o, h1, h2⟩
    rw [rising_told ho (hr o h1) (fun v => by rw [hm, h2])]; exact h1
  · exact fun h => ⟨out, h, hm⟩

def starI (all : List (List Int)) (f : List Int) : List (List Int) := all.filter (fun x => uniB all x f)
def minusI (x f : List Int) : List Int := x.filter (fun v => !f.contains v)
def linkB (all : List (List Int)) (f x : List Int) : Bool := decide (x ≠ []) && decide (minusI x f = x) && uniB all x f
def linkI (all : List (List Int)) (f : List Int) : List (List Int) := all.filter (linkB all f)
def lowI (all : List (List Int)) (dim : Int) : List (List Int) := all.filter (fun x => decide ((x.length : Int) - 1 ≤ dim))

/-- The facets around a face. -/
def AroundOf (all : List (List Int)) (f : List Int) (fs : List (List Int)) : Prop := ∀ t, t ∈ fs ↔ t ∈ all ∧ innerB all t = false ∧ ∀ v ∈ f, v ∈ t

theorem star_same {l all fs : List (List Int)} {f : List Int} (g : Good l all) (h : AroundOf all f fs) (y : List Int) : FaceOf fs y ↔ FaceOf (starI all f) y := by
  constructor
  · rintro ⟨h1, t, ht, hs⟩
    obtain ⟨a1, a2, a3⟩ := (h t).1 ht
    exact ⟨h1, t, List.mem_filter.2 ⟨a1, uniB_iff.2 ⟨t, a1, fun v => ⟨.inl, fun hv => hv.elim id (a3 v)⟩⟩⟩, hs⟩
  · rintro ⟨h1, x, hx, hs⟩
    obtain ⟨b1, b2⟩ := List.mem_filter.1 hx
    obtain ⟨o, ho, hm⟩ := uniB_iff.1 b2
    obtain ⟨t, t1, t2, t3⟩ := g.facet ho
    have hxo : x.Sublist o := rising_sub (g.rising x b1) (g.rising o ho) (fun v hv => (hm v).2 (.inl hv))
    exact ⟨h1, t, (h t).2 ⟨t1, t2, fun v hv => t3.subset ((hm v).2 (.inr hv))⟩, hs.trans (hxo.trans t3)⟩

theorem minus_mem {x f : List Int} {v : Int} : v ∈ minusI x f ↔ v ∈ x ∧ v ∉ f := by
  unfold minusI
  rw [List.mem_filter]
  simp
theorem minus_self {x f : List Int} : minusI x f = x ↔ ∀ v ∈ x, v ∉ f := by
  unfold minusI
  rw [List.filter_eq_self]
  simp

theorem link_same {l all fs rs : List (List Int)} {f : List Int} (g : Good l all) (h : AroundOf all f fs) (hr : ∀ r, r ∈ rs ↔ r ≠ [] ∧ ∃ t ∈ fs, r = minusI t f) (y : List Int) : FaceOf rs y ↔ FaceOf (linkI all f) y := by
  constructor
  · rintro ⟨h1, r, hr1, hs⟩
    obtain ⟨_, t, ht, rfl⟩ := (hr r).1 hr1
    obtain ⟨a1, a2, a3⟩ := (h t).1 ht
    have hyt : y.Sublist t := hs.trans List.filter_sublist
    have hya := g.sub a1 hyt h1
    have hyf : ∀ v ∈ y, v ∉ f := fun v hv => (minus_mem.1 (hs.subset hv)).2
    refine ⟨h1, y, List.mem_filter.2 ⟨hya, ?_⟩, List.Sublist.refl _⟩
    unfold linkB
    rw [decide_eq_true h1, decide_eq_true (minus_self.2 hyf), Bool.true_and, Bool.true_and, uniB_iff]
    refine ⟨t.filter (fun v => y.contains v || f.contains v), g.sub a1 List.filter_sublist (fun e => ?_), fun v => ?_⟩
    · obtain ⟨v, hv⟩ := List.exists_mem_of_ne_nil _ h1
      have : v ∈ t.filter (fun v => y.contains v || f.contains v) := List.mem_filter.2 ⟨hyt.subset hv, by simp [hv]⟩
      rw [e] at this; cases this
    · rw [List.mem_filter]
      simp only [Bool.or_eq_true, List.contains_iff_mem]
      exact ⟨fun hv => hv.2, fun hv => ⟨hv.elim (fun a => hyt.subset a) (a3 v), hv⟩⟩
  · rintro ⟨h1, x, hx, hs⟩
    obtain ⟨b1, b2⟩ := List.mem_filter.1 hx
    unfold linkB at b2
    simp only [Bool.and_eq_true, decide_eq_true_eq] at b2
    obtain ⟨⟨b3, b4⟩, b5⟩ := b2
    obtain ⟨o, ho, hm⟩ := uniB_iff.1 b5
    obtain ⟨t, t1, t2, t3⟩ := g.facet ho
    have hxf := minus_self.1 b4
    have hxm : x.Sublist (minusI t f) := rising_sub (g.rising x b1) ((g.rising t t1).sublist List.filter_sublist) (fun v hv => minus_mem.2 ⟨t3.subset ((hm v).2 (.inl hv)), hxf v hv⟩)
    have hne : minusI t f ≠ [] := fun e => by rw [e] at hxm; exact b3 (List.sublist_nil.1 hxm)
    exact ⟨h1, minusI t f, (hr _).2 ⟨hne, t, (h t).2 ⟨t1, t2, fun v hv => t3.subset ((hm v).2 (.inr hv))⟩, rfl⟩, hs.trans hxm⟩

theorem face_members {α : Type} {g g' : List (List α)} (h : ∀ t, t ∈ g ↔ t ∈ g') (y : List α) : FaceOf g y ↔ FaceOf g' y :=
  ⟨fun ⟨h1, t, ht, hs⟩ => ⟨h1, t, (h t).1 ht, hs⟩, fun ⟨h1, t, ht, hs⟩ => ⟨h1, t, (h t).2 ht, hs⟩⟩

/-- How many are left of a face tells whether the other one is a part. -/
theorem minus_count {t f : List Int} (ht : t.Nodup) (hf : f.Nodup) : ((minusI t f).length : Int) = (t.length : Int) - (f.length : Int) ↔ ∀ v ∈ f, v ∈ t := by
  have hsum : ∀ (l : List Int), (l.filter (fun v => !f.contains v)).length + (l.filter (fun v => f.contains v)).length = l.length := by
    intro l
    induction l with
    | nil => rfl
    | cons a l ih =>
      cases h : f.contains a
      · simp only [List.filter_cons, h, Bool.not_false, if_true, List.length_cons, Bool.false_eq_true, if_false]; omega
      · simp only [List.filter_cons, h, Bool.not_true, Bool.false_eq_true, if_false, if_true, List.length_cons]; omega
  have h1 := hsum t
  have hn : (t.filter (fun v => f.contains v)).Nodup := ht.sublist List.filter_sublist
  have hle := nodup_le hn (Y := f) (fun v hv => by simpa using (List.mem_filter.1 hv).2)
  constructor
  · intro e v hv
    have e2 : (t.filter (fun v => f.contains v)).length = f.length := by unfold minusI at e; omega
    rcases Classical.em (v ∈ t) with h | h
    · exact h
    · have h3 := nodup_le hn (Y := f.erase v) (fun u hu => (List.mem_erase_of_ne (fun e => by subst e; exact h (List.mem_filter.1 hu).1)).2 (by simpa using (List.mem_filter.1 hu).2))
      have h4 := List.length_erase_of_mem hv
      have h5 := List.length_pos_of_mem hv
      omega
  · intro hall
    have h2 := nodup_le hf (Y := t.filter (fun v => f.contains v)) (fun v hv => List.mem_filter.2 ⟨hall v hv, by simpa using hv⟩)
    unfold minusI
    omega

end Go.Proofs.YthmjdfjchhohgaaGreatDoor

namespace Go.Proofs.YthmjdfjchhohgaaGreatDoor
open Go.RowKit Go.Sort

theorem over_same {α : Type} {g g' : List (List α)} (h : ∀ y, FaceOf g y ↔ FaceOf g' y) : Over g ↔ Over g' := by
  have key : ∀ {g g' : List (List α)}, (∀ y, FaceOf g y ↔ FaceOf g' y) → Over g → Over g' := by
    rintro g g' h (⟨t, ht, hl⟩ | ⟨X, hn, hl, hx⟩)
    · obtain ⟨_, t', ht', hs⟩ := (h t).1 ⟨fun e => by subst e; simp at hl, t, ht, List.Sublist.refl _⟩
      have := hs.length_le
      exact .inl ⟨t', ht', by omega⟩
    · exact .inr ⟨X, hn, hl, fun x hx' => (h x).1 (hx x hx')⟩
  exact ⟨key h, key (fun y => (h y).symm)⟩

/-- The facets of a complex tell its faces. -/
theorem facets_faces {l all : List (List Int)} (g : Good l all) (y : List Int) : FaceOf (facetsI all) y ↔ y ∈ all := by
  constructor
  · rintro ⟨h1, t, ht, hs⟩
    exact g.sub (List.mem_filter.1 ht).1 hs h1
  · intro hy
    obtain ⟨t, t1, t2, t3⟩ := g.facet hy
    exact ⟨(face_ok_of g hy).1.1, t, List.mem_filter.2 ⟨t1, by rw [t2]; rfl⟩, t3⟩
theorem all_faces {l all : List (List Int)} (g : Good l all) (y : List Int) : FaceOf all y ↔ y ∈ all :=
  ⟨fun ⟨h1, _, ht, hs⟩ => g.sub ht hs h1, fun h => ⟨(face_ok_of g h).1.1, y, h, List.Sublist.refl _⟩⟩
theorem face_append {α : Type} {g h : List (List α)} {y : List α} : FaceOf (g ++ h) y ↔ FaceOf g y ∨ FaceOf h y := by
  constructor
  · rintro ⟨h1, t, ht, hs⟩
    rcases List.mem_append.1 ht with ht | ht
    · exact .inl ⟨h1, t, ht, hs⟩
    · exact .inr ⟨h1, t, ht, hs⟩
  · rintro (⟨h1, t, ht, hs⟩ | ⟨h1, t, ht, hs⟩)
    · exact ⟨h1, t, List.mem_append.2 (.inl ht), hs⟩
    · exact ⟨h1, t, List.mem_append.2 (.inr ht), hs⟩
theorem union_same {a b p q : List (List Int)} (ga : Good a p) (gb : Good b q) (y : List Int) : FaceOf (facetsI p ++ facetsI q) y ↔ FaceOf (p ++ q) y := by
  rw [face_append, face_append, facets_faces ga, facets_faces gb, all_faces ga, all_faces gb]

/-- The greatest vertex; -1, if there is none. -/
def topV : List (List Int) → Int
  | [] => -1
  | x :: l => max (x.getLast?.getD (-1)) (topV l)
theorem topV_ge {l : List (List Int)} : -1 ≤ topV l := by
  induction l with
  | nil => simp [topV]
  | cons x l ih => simp only [topV]; omega
theorem last_max {x : List Int} (h : Rising x) {v : Int} (hv : v ∈ x) : v ≤ x.getLast?.getD (-1) := by
  induction x generalizing v with
  | nil => cases hv
  | cons a x ih =>
    cases x with
    | nil => simp at hv; subst hv; simp
    | cons b x =>
      have h' := List.pairwise_cons.1 h
      rw [List.getLast?_cons_cons]
      rcases List.mem_cons.1 hv with rfl | hv
      · have h1 := h'.1 b (by simp)
        have h2 := ih h'.2 (List.mem_cons_self ..)
        omega
      · exact ih h'.2 hv
theorem topV_max {l : List (List Int)} (h : ∀ x ∈ l, Rising x) {x : List Int} (hx : x ∈ l) {v : Int} (hv : v ∈ x) : v ≤ topV l := by
  induction l with
  | nil => cases hx
  | cons y l ih =>
    simp only [topV]
    rcases List.mem_cons.1 hx with rfl | hx
    · have := last_max (h x (by simp)) hv; omega
    · have := ih (fun z hz => h z (by simp [hz])) hx; omega
theorem topV_perm {l m : List (List Int)} (h : l.Perm m) : topV l = topV m := by
  induction h with
  | nil => rfl
  | cons x _ ih => simp only [topV]; omega
  | swap x y l => simp only [topV]; omega
  | trans _ _ h1 h2 => omega
theorem topV_snoc (l : List (List Int)) (x : List Int) : topV (l ++ [x]) = max (topV l) (x.getLast?.getD (-1)) := by
  induction l with
  | nil => simp only [List.nil_append, topV]; omega
  | cons y l ih => simp only [List.cons_append, topV, ih]; omega
/-- It is a vertex, if there is any. -/
theorem topV_in {l : List (List Int)} (h0 : ∀ x ∈ l, ∀ v ∈ x, 0 ≤ v) : topV l = -1 ∨ ∃ x ∈ l, topV l ∈ x := by
  induction l with
  | nil => exact .inl rfl
  | cons y l ih =>
    have ih' := ih (fun x hx => h0 x (by simp [hx]))
    simp only [topV]
    cases e : y.getLast? with
    | none =>
      have hge := topV_ge (l := l)
      simp only [Option.getD_none]
      rw [show max (-1) (topV l) = topV l by omega]
      rcases ih' with h | ⟨x, hx, hv⟩
      · exact .inl h
      · exact .inr ⟨x, by simp [hx], hv⟩
    | some v =>
      have hv : v ∈ y := List.mem_of_getLast? e
      simp only [Option.getD_some]
      by_cases hm : topV l ≤ v
      · rw [show max v (topV l) = v by omega]
        exact .inr ⟨y, by simp, hv⟩
      · rw [show max v (topV l) = topV l by omega]
        rcases ih' with h | ⟨x, hx, hv'⟩
        · have := h0 y (by simp) v hv
          omega
        · exact .inr ⟨x, by simp [hx], hv'⟩

/-- A face with each vertex raised. -/
def raise (up : Int) (x : List Int) : List Int := x.map (· + up)
theorem raise_rising {up : Int} {x : List Int} (h : Rising x) : Rising (raise up x) := by
  unfold raise Rising
  rw [List.pairwise_map]
  exact h.imp (fun h => by omega)
theorem raise_sub {up : Int} {x y : List Int} (h : x.Sublist y) : (raise up x).Sublist (raise up y) := h.map _
theorem sub_raise {up : Int} {y z : List Int} (h : z.Sublist (raise up y)) : ∃ x, z = raise up x ∧ x.Sublist y := by
  unfold raise at h
  obtain ⟨x, hx, rfl⟩ := List.sublist_map_iff.1 h
  exact ⟨x, rfl, hx⟩

/-- The sets of a join: of the faces of two. -/
def joinI (p q : List (List Int)) (up : Int) : List (List Int) := p ++ q.map (raise up) ++ p.flatMap (fun x => q.map (fun y => x ++ raise up y))
/-- The same of any faces that tell them. -/
def stepI (f g : List (List Int)) : List (List Int) := f ++ g ++ f.flatMap (fun x => g.map (fun y => x ++ y))

theorem step_mem {f g : List (List Int)} {t : List Int} : t ∈ stepI f g ↔ t ∈ f ∨ t ∈ g ∨ ∃ x ∈ f, ∃ y ∈ g, t = x ++ y := by
  unfold stepI
  rw [List.mem_append, List.mem_append, List.mem_flatMap, or_assoc]
  refine or_congr Iff.rfl (or_congr Iff.rfl ⟨?_, ?_⟩)
  · rintro ⟨x, hx, ht⟩
    obtain ⟨y, hy, rfl⟩ := List.mem_map.1 ht
    exact ⟨x, hx, y, hy, rfl⟩
  · rintro ⟨x, hx, y, hy, rfl⟩
    exact ⟨x, hx, List.mem_map.2 ⟨y, hy, rfl⟩⟩
theorem step_faces {f g : List (List Int)} {y : List Int} : FaceOf (stepI f g) y ↔ FaceOf f y ∨ FaceOf g y ∨ ∃ u v, y = u ++ v ∧ FaceOf f u ∧ FaceOf g v := by
  constructor
  · rintro ⟨h1, t, ht, hs⟩
    rcases step_mem.1 ht with h | h | ⟨x, hx, z, hz, rfl⟩
    · exact .inl ⟨h1, t, h, hs⟩
    · exact .inr (.inl ⟨h1, t, h, hs⟩)
    · obtain ⟨u, v, rfl, hu, hv⟩ := List.sublist_append_iff.1 hs
      by_cases eu : u = []
      · subst eu
        exact .inr (.inl ⟨by simpa using h1, z, hz, by simpa using hv⟩)
      · by_cases ev : v = []
        · subst ev
          exact .inl ⟨by simpa using h1, x, hx, by simpa using hu⟩
        · exact .inr (.inr ⟨u, v, rfl, ⟨eu, x, hx, hu⟩, ⟨ev, z, hz, hv⟩⟩)
  · rintro (⟨h1, t, ht, hs⟩ | ⟨h1, t, ht, hs⟩ | ⟨u, v, rfl, ⟨eu, x, hx, hu⟩, ⟨ev, z, hz, hv⟩⟩)
    · exact ⟨h1, t, step_mem.2 (.inl ht), hs⟩
    · exact ⟨h1, t, step_mem.2 (.inr (.inl ht)), hs⟩
    · exact ⟨by simp [eu], x ++ z, step_mem.2 (.inr (.inr ⟨x, hx, z, hz, rfl⟩)), hu.append hv⟩
theorem raise_faces {g h : List (List Int)} {up : Int} (he : ∀ y, FaceOf g y ↔ FaceOf h y) (y : List Int) : FaceOf (g.map (raise up)) y ↔ FaceOf (h.map (raise up)) y := by
  have key : ∀ {g h : List (List Int)}, (∀ y, FaceOf g y ↔ FaceOf h y) → FaceOf (g.map (raise up)) y → FaceOf (h.map (raise up)) y := by
    rintro g h he ⟨h1, t, ht, hs⟩
    obtain ⟨t0, ht0, rfl⟩ := List.mem_map.1 ht
    obtain ⟨x, rfl, hx⟩ := sub_raise hs
    obtain ⟨_, t', ht', hs'⟩ := (he x).1 ⟨fun e => h1 (by rw [e]; rfl), t0, ht0, hx⟩
    exact ⟨h1, raise up t', List.mem_map.2 ⟨t', ht', rfl⟩, raise_sub hs'⟩
  exact ⟨key he, key (fun y => (he y).symm)⟩
theorem join_same {a b p q : List (List Int)} (ga : Good a p) (gb : Good b q) (up : Int) (y : List Int) : FaceOf (stepI (facetsI p) ((facetsI q).map (raise up))) y ↔ FaceOf (stepI p (q.map (raise up))) y := by
  have h1 : ∀ y, FaceOf (facetsI p) y ↔ FaceOf p y := fun y => by rw [facets_faces ga, all_faces ga]
  have h2 : ∀ y, FaceOf (facetsI q) y ↔ FaceOf q y := fun y => by rw [facets_faces gb, all_faces gb]
  have h3 := raise_faces (up := up) h2
  rw [step_faces, step_faces]
  simp only [h1, h3]

end Go.Proofs.YthmjdfjchhohgaaGreatDoor

namespace Go.Proofs.YthmjdfjchhohgaaGreatDoor

/-- A text with each byte raised. -/
def raiseU (up : Nat) (t : List UInt8) : List UInt8 := t.map (fun b => b + UInt8.ofNat up)
theorem raiseU_length (up : Nat) (t : List UInt8) : (raiseU up t).length = t.length := by simp [raiseU]

end Go.Proofs.YthmjdfjchhohgaaGreatDoor

namespace Go.Proofs.YthmjdfjchhohgaaGreatDoor
open Go.RowKit Go.Sort

theorem good_nil : Good [] [] where
  ok := fun x hx => by cases hx
  few := by
    rintro (⟨t, ht, _⟩ | ⟨X, _, hl, hx⟩)
    · cases ht
    · cases X with
      | nil => simp at hl
      | cons x X => obtain ⟨_, t, ht, _⟩ := hx x (by simp); cases ht
  isAll := ⟨List.Pairwise.nil, fun x => ⟨fun h => by simp at h, fun h => by obtain ⟨_, t, ht, _⟩ := h; simp at ht⟩⟩
  same := rfl

theorem Good.nonneg {l p : List (List Int)} (g : Good l p) : ∀ x ∈ p, ∀ v ∈ x, 0 ≤ v := fun _ hx v hv => ((face_ok_of g hx).1.2.2 v hv).1
theorem Good.top {l p : List (List Int)} (g : Good l p) : topV p ≤ 99 := by
  rcases topV_in g.nonneg with h | ⟨x, hx, hv⟩
  · omega
  · exact ((face_ok_of g hx).1.2.2 _ hv).2
/-- The join's sets. -/
def joinS (p q : List (List Int)) : List (List Int) := stepI p (q.map (raise (topV p + 1)))

theorem cat_rising {x y : List Int} (hx : Rising x) (hy : Rising y) (h : ∀ u ∈ x, ∀ v ∈ y, u < v) : Rising (x ++ y) := List.pairwise_append.2 ⟨hx, hy, h⟩
theorem join_low {a b p q : List (List Int)} (ga : Good a p) (gb : Good b q) {x y : List Int} (hx : x ∈ p) (hy : y ∈ q) : ∀ u ∈ x, ∀ v ∈ raise (topV p + 1) y, u < v := by
  intro u hu v hv
  obtain ⟨v', hv', rfl⟩ := List.mem_map.1 hv
  have h1 := topV_max ga.rising hx hu
  have h2 := gb.nonneg y hy v' hv'
  omega
theorem join_rising {a b p q : List (List Int)} (ga : Good a p) (gb : Good b q) : ∀ t ∈ joinS p q, Rising t := by
  intro t ht
  rcases step_mem.1 ht with h | h | ⟨x, hx, z, hz, rfl⟩
  · exact ga.rising t h
  · obtain ⟨y, hy, rfl⟩ := List.mem_map.1 h
    exact raise_rising (gb.rising y hy)
  · obtain ⟨y, hy, rfl⟩ := List.mem_map.1 hz
    exact cat_rising (ga.rising x hx) (raise_rising (gb.rising y hy)) (join_low ga gb hx hy)
theorem raise_ok {b q : List (List Int)} (gb : Good b q) {up : Int} (h0 : 0 ≤ up) (h : up + topV q ≤ 99) {y : List Int} (hy : y ∈ q) : SetOk (raise up y) := by
  have hf := face_ok_of gb hy
  refine ⟨fun e => hf.1.1 (by simpa [raise] using e), (raise_rising hf.2).imp (fun h => Int.ne_of_lt h), fun v hv => ?_⟩
  obtain ⟨v', hv', rfl⟩ := List.mem_map.1 hv
  have h1 := topV_max gb.rising hy hv'
  have h2 := (hf.1.2.2 v' hv').1
  omega
theorem join_ok {a b p q : List (List Int)} (ga : Good a p) (gb : Good b q) : (∀ t ∈ joinS p q, SetOk t) ↔ topV p + 1 + topV q ≤ 99 := by
  have hup : 0 ≤ topV p + 1 := by have := topV_ge (l := p); omega
  constructor
  · intro h
    rcases topV_in gb.nonneg with e | ⟨x, hx, hv⟩
    · have := ga.top; omega
    · have h1 := h (raise (topV p + 1) x) (step_mem.2 (.inr (.inl (List.mem_map.2 ⟨x, hx, rfl⟩))))
      have h2 := h1.2.2 (topV q + (topV p + 1)) (List.mem_map.2 ⟨_, hv, rfl⟩)
      omega
  · intro h t ht
    rcases step_mem.1 ht with h' | h' | ⟨x, hx, z, hz, rfl⟩
    · exact (face_ok_of ga h').1
    · obtain ⟨y, hy, rfl⟩ := List.mem_map.1 h'
      exact raise_ok gb hup h hy
    · obtain ⟨y, hy, rfl⟩ := List.mem_map.1 hz
      have h1 := (face_ok_of ga hx).1
      have h2 := raise_ok gb hup h hy
      refine ⟨fun e => h1.1 (List.append_eq_nil_iff.1 e).1, (cat_rising (ga.rising x hx) (raise_rising (gb.rising y hy)) (join_low ga gb hx hy)).imp (fun h => Int.ne_of_lt h), fun v hv => ?_⟩
      rcases List.mem_append.1 hv with hv | hv
      · exact h1.2.2 v hv
      · exact h2.2.2 v hv

theorem raiseU_ints {up : Nat} {t : List UInt8} (h : ∀ v ∈ ints t, v + up ≤ 255) : ints (raiseU up t) = raise up (ints t) := by
  unfold raiseU raise ints
  rw [List.map_map, List.map_map]
  refine List.map_congr_left (fun b hb => ?_)
  have h1 := h (b.toNat : Int) (List.mem_map.2 ⟨b, hb, rfl⟩)
  simp only [Function.comp, UInt8.toNat_add, UInt8.toNat_ofNat']
  have : (b.toNat + up % 2 ^ 8) % 2 ^ 8 = b.toNat + up := by omega
  rw [this]; simp
/-- Texts of one of each. -/
def stepU (f g : List (List UInt8)) : List (List UInt8) := f ++ g ++ f.flatMap (fun x => g.map (fun y => x ++ y))
theorem ints_append (x y : List UInt8) : ints (x ++ y) = ints x ++ ints y := by simp [ints]
theorem stepU_ints (f g : List (List UInt8)) : (stepU f g).map ints = stepI (f.map ints) (g.map ints) := by
  unfold stepU stepI
  rw [List.map_append, List.map_append]
  congr 1
  induction f with
  | nil => rfl
  | cons x f ih =>
    simp only [List.flatMap_cons, List.map_append, List.map_cons, List.map_map] at ih ⊢
    rw [ih]
    congr 1
    refine List.map_congr_left (fun y _ => ?_)
    simp [Function.comp, ints_append]

end Go.Proofs.YthmjdfjchhohgaaGreatDoor

namespace Go.Proofs.YthmjdfjchhohgaaGreatDoor
open Go.RowKit Go.Sort

/-- A slice is appended onto a row of the call's own, as a run. -/
theorem run_append_slice {P : Program} (w : World) (t ty : TypeId) (base : Nat) (e : TypeId) (i : TypeInfo) (z : Value) (bytes : Nat) (ht : P.underlying t = some (.slice e)) (hi : P.info? e = some i) (hz : i.zero = some z)
    (hsize : i.size = 1) (hby : i.bytes = bytes) (hzs : z.cells.size = 1) (v : Value) (n : Nat) (xs : List Value) (hown : w.ownsRow base e 1 v n xs)
    {S : Nat → Prop} (u : Value) (news : List Value) (hu : SliceIn S w u news) (h1 : ∀ c ∈ news, c.oneCell' = true)
    (hbytes : (n + news.length) * bytes ≤ 140737488355328) (h63 : n + news.length ≤ maxLen) (hbase : base ≤ w.heap.size) :
    ∃ v' w', (Builtin.append_ #[t, t] ty #[v, u]).run P w = .ok v' w' ∧ w'.ownsRow base e 1 v' (n + news.length) (xs ++ news) ∧ w.grownBy w' v.ownBlock ∧ (v'.ownBlock = v.ownBlock ∨ v'.ownBlock = some w.heap.size) := by
  obtain ⟨ao, cap, rfl, ⟨hc, hn⟩, hcs⟩ := hu
  cases ao with
  | none =>
    obtain rfl := hn rfl
    have hnil : news = [] := List.eq_nil_of_length_eq_zero (by omega)
    subst hnil
    exact ⟨v, w, run_append_owned_none (P := P) (w := w) base t ty e i 1 ht hi v n xs hown, by simpa using hown, ⟨rfl, rfl, rfl, Nat.le_refl _, fun _ _ _ => rfl⟩, .inl rfl⟩
  | some ad =>
    obtain ⟨v', w', hr, h2, h3, _, h5⟩ := run_append_own_at (P := P) w base t ty e i z 1 bytes ht hi hz hsize hby hzs (by decide) v n xs hown ad news.length cap news (by simp) (fun j c hj => by
      have hl : 0 < news.length := by
        have := (List.getElem?_eq_some_iff.1 hj).1
        omega
      obtain ⟨b, off, e1, _, e3⟩ := hcs hl
      cases e1
      rw [Addr.add_lit]
      exact e3 j c hj) h1 h63 hbytes hbase
    exact ⟨v', w', hr, h2, h3, h5⟩

/-- The same at a step of a region that draws its order. -/
theorem step_append_slice {P : Program} {w : World} {ops : Array Oper} {o : Oper} {a : Act} {K : Act → World → Prop} {Q : Exit → Act → World → Prop} {E : Prop} (hgd : o.guard = none) (s x : Operand) (t : TypeId)
    (ho : o.op = .call { callee := .builtin .append, args := #[s, x], argTypes := #[t, t] })
    (base : Nat) (e : TypeId) (i : TypeInfo) (z : Value) (bytes : Nat) (ht : P.underlying t = some (.slice e)) (hi : P.info? e = some i) (hz : i.zero = some z)
    (hsize : i.size = 1) (hby : i.bytes = bytes) (hzs : z.cells.size = 1) (v : Value) (n : Nat) (xs : List Value) (hs : a.eval s = v) (hown : w.ownsRow base e 1 v n xs)
    {S : Nat → Prop} (u : Value) (news : List Value) (hx : a.eval x = u) (hu : SliceIn S w u news) (h1 : ∀ c ∈ news, c.oneCell' = true)
    (hbytes : (n + news.length) * bytes ≤ 140737488355328) (h63 : n + news.length ≤ maxLen) (hbase : base ≤ w.heap.size)
    (h : ∀ v' w', w'.ownsRow base e 1 v' (n + news.length) (xs ++ news) → w.grownBy w' v.ownBlock → (v'.ownBlock = v.ownBlock ∨ v'.ownBlock = some w.heap.size) → K (a.put o.dst v') w') :
    if Region.wanted o (yielded ops a.tmps) = true then Oper.wp P o a w K Q else E := by
  have hw : Region.wanted o (yielded ops a.tmps) = true := by simp [Region.wanted, hgd]
  rw [if_pos hw]
  obtain ⟨v', w', hr, h2, h3, h4⟩ := run_append_slice (P := P) w t o.type base e i z bytes ht hi hz hsize hby hzs v n xs hown u news hu h1 hbytes h63 hbase
  unfold Oper.wp execOp
  simp only [ho, resolve, invoke, builtin, Sem.run_bind, Sem.run_pure, Result.andThen_ok, List.map_toArray, List.map_cons, List.map_nil, hs, hx, hr]
  exact h v' w' h2 h3 h4

end Go.Proofs.YthmjdfjchhohgaaGreatDoor

namespace Go.Proofs.YthmjdfjchhohgaaGreatDoor
open Go.RowKit Go.Sort

theorem below_nil {W W' : World} (h : W.drew.grownBy W' (Value.slice none 0 0).ownBlock) : Below W.heap.size W W' := ⟨h.os, h.tape, h.output, h.size, fun k hk => h.block k hk (by simp [Value.ownBlock])⟩
theorem far_kept {w1 w2 : World} {o : Obj} {row : Option Nat} (hg : (w1.alloc o).grownBy w2 row) {p : Addr} {v : Value} (h : w1.cell? p = some v ∧ w1.frozen? p = false) (hne : some p.block ≠ row) : w2.cell? p = some v ∧ w2.frozen? p = false := by
  have hb := box_alloc o h
  have hlt := cell_lt hb.1
  exact ⟨(hg.cell_far p hlt hne).trans hb.1, (hg.frozen_far p hlt hne).trans hb.2⟩
theorem far_cell {w1 w2 : World} {o : Obj} {row : Option Nat} (hg : (w1.alloc o).grownBy w2 row) {p : Addr} {v : Value} (h : w1.cell? p = some v) (hne : some p.block ≠ row) : w2.cell? p = some v := by
  have hlt := cell_lt h
  exact (hg.cell_far p (by simp; omega) hne).trans (cell_kept h (World.grownBy_alloc w1 o none) (fun r e => by cases e))
theorem ints_made {W : World} {base : Nat} {t : TypeId} {v : Value} {x : List Int} (h : W.ownsRow base t 1 v (0 + (x.map (Value.int .i64)).length) ([] ++ x.map (Value.int .i64))) : IntsIn (fun b => base ≤ b) W v x := by
  have := slice_of_owns (S := fun b => base ≤ b) h (fun b hb _ => hb)
  rw [List.nil_append] at this
  exact this

end Go.Proofs.YthmjdfjchhohgaaGreatDoor
