/- Stars, links and skeletons: what the facets around a face tell and what the reference tells are the same. Variables laid one behind the other; what is told of a part of a complex. What sign answers. -/
import Derived.Test.YthdmfeidcldafaaGreatDoorKind0
import Derived.Test.YthdmfeidcldafaaGreatDoorHeap
import Derived.Test.YthdmfeidcldafaaGreatDoorCode
import Derived.Test.YthdmfeidcldafaaGreatDoorDimDef
import Derived.WalkKit
namespace Go.Proofs.YthdmfeidcldafaaGreatDoor
open Go.RowKit Go.Sort

/-- The facets of the complex of some sets, in order. -/
structure IsFacets (g L : List (List Int)) : Prop where
  order : Order L
  mem : ∀ x, x ∈ L ↔ FaceOf g x ∧ ¬ InnerOf g x
theorem inner_face {α : Type} {ts : List (List α)} {x : List α} : InnerOf ts x ↔ x ≠ [] ∧ ∃ y, FaceOf ts y ∧ x.Sublist y ∧ x.length < y.length := by
  constructor
  · rintro ⟨h, t, ht, hs, hl⟩
    exact ⟨h, t, ⟨fun e => by subst e; simp at hl, t, ht, List.Sublist.refl _⟩, hs, hl⟩
  · rintro ⟨h, y, ⟨_, t, ht, hy⟩, hs, hl⟩
    have := hy.length_le
    exact ⟨h, t, ht, hs.trans hy, by omega⟩
theorem facets_one {g g' L L' : List (List Int)} (h : ∀ x, FaceOf g x ↔ FaceOf g' x) (hL : IsFacets g L) (hL' : IsFacets g' L') : L = L' := by
  refine order_told hL.order hL'.order (fun x => ?_)
  rw [hL.mem, hL'.mem, inner_face, inner_face, h]
  simp only [h]
theorem facets_built {ts ss : List (List UInt8)} (hn : ss.Nodup) (hm : ∀ x, x ∈ ss ↔ FaceOf ts x ∧ ¬ InnerOf ts x) : IsFacets (ts.map ints) ((srtS ss).map ints) where
  order := sorted_order hn
  mem := fun y => by
    rw [List.mem_map]
    constructor
    · rintro ⟨x, hx, rfl⟩
      have := (hm x).1 ((List.mergeSort_perm ss _).mem_iff.1 hx)
      exact ⟨face_ints.2 this.1, fun hi => this.2 (inner_ints.1 hi)⟩
    · rintro ⟨a, b⟩
      obtain ⟨x, rfl⟩ := face_from a
      exact ⟨x, (List.mergeSort_perm ss _).mem_iff.2 ((hm x).2 ⟨face_ints.1 a, fun hi => b (inner_ints.2 hi)⟩), rfl⟩
theorem facets_made {g all : List (List Int)} (hr : ∀ t ∈ g, Rising t) (h : IsAll g all) : IsFacets g (facetsI all) where
  order := facets_order h.order
  mem := facets_mem hr h

theorem rising_srt {x : List Int} (h : Rising x) : srt x = x := (srt_told (h.imp (fun h => Int.ne_of_lt h)) h (fun _ => Iff.rfl)).symm
theorem map_srt {g : List (List Int)} (h : ∀ x ∈ g, Rising x) : g.map srt = g := by
  induction g with
  | nil => rfl
  | cons x g ih => rw [List.map_cons, rising_srt (h x (by simp)), ih (fun y hy => h y (by simp [hy]))]

theorem Good.rising {l all : List (List Int)} (g : Good l all) : ∀ x ∈ all, Rising x := fun _ hx => (face_ok_of g hx).2
theorem Good.sub {l all : List (List Int)} (g : Good l all) {x y : List Int} (hx : x ∈ all) (hs : y.Sublist x) (hy : y ≠ []) : y ∈ all := by
  obtain ⟨_, t, ht, hxt⟩ := (g.isAll.mem x).1 hx
  exact (g.isAll.mem y).2 ⟨hy, t, ht, hs.trans hxt⟩
theorem Good.facet {l all : List (List Int)} (g : Good l all) {x : List Int} (hx : x ∈ all) : ∃ t ∈ all, innerB all t = false ∧ x.Sublist t := by
  obtain ⟨_, t, ht, hs⟩ := (g.isAll.mem x).1 hx
  obtain ⟨y, hy, rfl⟩ := List.mem_map.1 ht
  have hy' : y ∈ facetsI all := by rw [g.same]; exact hy
  obtain ⟨h1, h2⟩ := List.mem_filter.1 hy'
  rw [rising_srt (g.rising y h1)] at hs
  exact ⟨y, h1, by simpa using h2, hs⟩
theorem Good.notOver {l all g' : List (List Int)} (g : Good l all) (h : ∀ t ∈ g', t ∈ all) : ¬ Over g' := by
  have hf : ∀ x, FaceOf g' x → x ∈ all := fun x ⟨h1, t, ht, hs⟩ => g.sub (h t ht) hs h1
  rintro (⟨t, ht, hl⟩ | ⟨X, hn, hl, hx⟩)
  · have := g.short t (h t ht); omega
  · have := nodup_le hn (fun x hx' => hf x (hx x hx'))
    have := g.length
    omega

/-- Is the union of two faces one of these? -/
def uniB (all : List (List Int)) (x f : List Int) : Bool := all.any (fun o => (o.all fun v => x.contains v || f.contains v) && (x.all fun v => o.contains v) && f.all fun v => o.contains v)
theorem uniB_iff {all : List (List Int)} {x f : List Int} : uniB all x f = true ↔ ∃ o ∈ all, ∀ v, v ∈ o ↔ v ∈ x ∨ v ∈ f := by
  unfold uniB
  rw [List.any_eq_true]
  constructor
  · rintro ⟨o, ho, h⟩
    simp only [Bool.and_eq_true, List.all_eq_true, Bool.or_eq_true, List.contains_iff_mem] at h
    exact ⟨o, ho, fun v => ⟨fun hv => h.1.1 v hv, fun hv => hv.elim (h.1.2 v) (h.2 v)⟩⟩
  · rintro ⟨o, ho, h⟩
    refine ⟨o, ho, ?_⟩
    simp only [Bool.and_eq_true, List.all_eq_true, Bool.or_eq_true, List.contains_iff_mem]
    exact ⟨⟨fun v hv => (h v).1 hv, fun v hv => (h v).2 (.inl hv)⟩, fun v hv => (h v).2 (.inr hv)⟩
theorem uniB_told {all : List (List Int)} {x f out : List Int} (hr : ∀ o ∈ all, Rising o) (ho : Rising out) (hm : ∀ v, v ∈ out ↔ v ∈ x ∨ v ∈ f) : uniB all x f = true ↔ out ∈ all := by
  rw [uniB_iff]
  constructor
  · rintro ⟨o, h1, h2⟩
    rw [rising_told ho (hr o h1) (fun v => by rw [hm, h2])]; exact h1
  · exact fun h => ⟨out, h, hm⟩

def starI (all : List (List Int)) (f : List Int) : List (List Int) := all.filter (fun x => uniB all x f)
def minusI (x f : List Int) : List Int := x.filter (fun v => !f.contains v)
def linkB (all : List (List Int)) (f x : List Int) : Bool := decide (x ≠ []) && decide (minusI x f = x) && uniB all x f
def linkI (all : List (List Int)) (f : List Int) : List (List Int) := all.filter (linkB all f)
def lowI (all : List (List Int)) (dim : Int) : List (List Int) := all.filter (fun x => decide ((x.length : Int) - 1 ≤ dim))

/-- The facets around a face. -/
def AroundOf (all : List (List Int)) (f : List Int) (fs : List (List Int)) : Prop := ∀ t, t ∈ fs ↔ t ∈ all ∧ innerB all t = false ∧ ∀ v ∈ f, v ∈ t

theorem star_same {l all fs : List (List Int)} {f : List Int} (g : Good l all) (h : AroundOf all f fs) (y : List Int) : FaceOf fs y ↔ FaceOf (starI all f) y := by
  constructor
  · rintro ⟨h1, t, ht, hs⟩
    obtain ⟨a1, a2, a3⟩ := (h t).1 ht
    exact ⟨h1, t, List.mem_filter.2 ⟨a1, uniB_iff.2 ⟨t, a1, fun v => ⟨.inl, fun hv => hv.elim id (a3 v)⟩⟩⟩, hs⟩
  · rintro ⟨h1, x, hx, hs⟩
    obtain ⟨b1, b2⟩ := List.mem_filter.1 hx
    obtain ⟨o, ho, hm⟩ := uniB_iff.1 b2
    obtain ⟨t, t1, t2, t3⟩ := g.facet ho
    have hxo : x.Sublist o := rising_sub (g.rising x b1) (g.rising o ho) (fun v hv => (hm v).2 (.inl hv))
    exact ⟨h1, t, (h t).2 ⟨t1, t2, fun v hv => t3.subset ((hm v).2 (.inr hv))⟩, hs.trans (hxo.trans t3)⟩

theorem minus_mem {x f : List Int} {v : Int} : v ∈ minusI x f ↔ v ∈ x ∧ v ∉ f := by
  unfold minusI
  rw [List.mem_filter]
  simp
theorem minus_self {x f : List Int} : minusI x f = x ↔ ∀ v ∈ x, v ∉ f := by
  unfold minusI
  rw [List.filter_eq_self]
  simp

theorem link_same {l all fs rs : List (List Int)} {f : List Int} (g : Good l all) (h : AroundOf all f fs) (hr : ∀ r, r ∈ rs ↔ r ≠ [] ∧ ∃ t ∈ fs, r = minusI t f) (y : List Int) : FaceOf rs y ↔ FaceOf (linkI all f) y := by
  constructor
  · rintro ⟨h1, r, hr1, hs⟩
    obtain ⟨_, t, ht, rfl⟩ := (hr r).1 hr1
    obtain ⟨a1, a2, a3⟩ := (h t).1 ht
    have hyt : y.Sublist t := hs.trans List.filter_sublist
    have hya := g.sub a1 hyt h1
    have hyf : ∀ v ∈ y, v ∉ f := fun v hv => (minus_mem.1 (hs.subset hv)).2
    refine ⟨h1, y, List.mem_filter.2 ⟨hya, ?_⟩, List.Sublist.refl _⟩
    unfold linkB
    rw [decide_eq_true h1, decide_eq_true (minus_self.2 hyf), Bool.true_and, Bool.true_and, uniB_iff]
    refine ⟨t.filter (fun v => y.contains v || f.contains v), g.sub a1 List.filter_sublist (fun e => ?_), fun v => ?_⟩
    · obtain ⟨v, hv⟩ := List.exists_mem_of_ne_nil _ h1
      have : v ∈ t.filter (fun v => y.contains v || f.contains v) := List.mem_filter.2 ⟨hyt.subset hv, by simp [hv]⟩
      rw [e] at this; cases this
    · rw [List.mem_filter]
      simp only [Bool.or_eq_true, List.contains_iff_mem]
      exact ⟨fun hv => hv.2, fun hv => ⟨hv.elim (fun a => hyt.subset a) (a3 v), hv⟩⟩
  · rintro ⟨h1, x, hx, hs⟩
    obtain ⟨b1, b2⟩ := List.mem_filter.1 hx
    unfold linkB at b2
    simp only [Bool.and_eq_true, decide_eq_true_eq] at b2
    obtain ⟨⟨b3, b4⟩, b5⟩ := b2
    obtain ⟨o, ho, hm⟩ := uniB_iff.1 b5
    obtain ⟨t, t1, t2, t3⟩ := g.facet ho
    have hxf := minus_self.1 b4
    have hxm : x.Sublist (minusI t f) := rising_sub (g.rising x b1) ((g.rising t t1).sublist List.filter_sublist) (fun v hv => minus_mem.2 ⟨t3.subset ((hm v).2 (.inl hv)), hxf v hv⟩)
    have hne : minusI t f ≠ [] := fun e => by rw [e] at hxm; exact b3 (List.sublist_nil.1 hxm)
    exact ⟨h1, minusI t f, (hr _).2 ⟨hne, t, (h t).2 ⟨t1, t2, fun v hv => t3.subset ((hm v).2 (.inr hv))⟩, rfl⟩, hs.trans hxm⟩

theorem face_members {α : Type} {g g' : List (List α)} (h : ∀ t, t ∈ g ↔ t ∈ g') (y : List α) : FaceOf g y ↔ FaceOf g' y :=
  ⟨fun ⟨h1, t, ht, hs⟩ => ⟨h1, t, (h t).1 ht, hs⟩, fun ⟨h1, t, ht, hs⟩ => ⟨h1, t, (h t).2 ht, hs⟩⟩

/-- How many are left of a face tells whether the other one is a part. -/
theorem minus_count {t f : List Int} (ht : t.Nodup) (hf : f.Nodup) : ((minusI t f).length : Int) = (t.length : Int) - (f.length : Int) ↔ ∀ v ∈ f, v ∈ t := by
  have hsum : ∀ (l : List Int), (l.filter (fun v => !f.contains v)).length + (l.filter (fun v => f.contains v)).length = l.length := by
    intro l
    induction l with
    | nil => rfl
    | cons a l ih =>
      cases h : f.contains a
      · simp only [List.filter_cons, h, Bool.not_false, if_true, List.length_cons, Bool.false_eq_true, if_false]; omega
      · simp only [List.filter_cons, h, Bool.not_true, Bool.false_eq_true, if_false, if_true, List.length_cons]; omega
  have h1 := hsum t
  have hn : (t.filter (fun v => f.contains v)).Nodup := ht.sublist List.filter_sublist
  have hle := nodup_le hn (Y := f) (fun v hv => by simpa using (List.mem_filter.1 hv).2)
  constructor
  · intro e v hv
    have e2 : (t.filter (fun v => f.contains v)).length = f.length := by unfold minusI at e; omega
    rcases Classical.em (v ∈ t) with h | h
    · exact h
    · have h3 := nodup_le hn (Y := f.erase v) (fun u hu => (List.mem_erase_of_ne (fun e => by subst e; exact h (List.mem_filter.1 hu).1)).2 (by simpa using (List.mem_filter.1 hu).2))
      have h4 := List.length_erase_of_mem hv
      have h5 := List.length_pos_of_mem hv
      omega
  · intro hall
    have h2 := nodup_le hf (Y := t.filter (fun v => f.contains v)) (fun v hv => List.mem_filter.2 ⟨hall v hv, by simpa using hv⟩)
    unfold minusI
    omega

end Go.Proofs.YthdmfeidcldafaaGreatDoor

namespace Go.Proofs.YthdmfeidcldafaaGreatDoor
open Go.RowKit Go.Shelf Go.Sort Go.Maps Go.Deep

theorem isFacets_of {g g' L : List (List Int)} (h : ∀ x, FaceOf g x ↔ FaceOf g' x) (hL : IsFacets g L) : IsFacets g' L where
  order := hL.order
  mem := fun x => by
    rw [hL.mem, inner_face, inner_face, h]
    simp only [h]

/-- What a call answers that makes a complex: an error, or the facets of one. -/
def PartG (a : Nat → Addr) (bad : Nat → Prop) (good : List (List Int) → Prop) (w : World) (e : Ending) (w' : World) : Prop :=
  Below w.heap.size w w' ∧ ((∃ i, bad i ∧ e = .returned (.tuple #[.agg #[.slice none 0 0], .iface 176 (.pointer (some (a i)))])) ∨
    ∃ v L, good L ∧ e = .returned (.tuple #[.agg #[v], .nilIface]) ∧ OwnRows w.heap.size w' v L)

/-- Two variables, laid one behind the other. -/
theorem two_boxes (w : World) (v u : Value) (t t' : TypeId) : (((w.alloc (.cells #[v] t)).alloc (.cells #[u] t')).cell? ⟨w.heap.size, 0, none⟩ = some v ∧ ((w.alloc (.cells #[v] t)).alloc (.cells #[u] t')).frozen? ⟨w.heap.size, 0, none⟩ = false) ∧
    (((w.alloc (.cells #[v] t)).alloc (.cells #[u] t')).cell? ⟨w.heap.size + 1, 0, none⟩ = some u ∧ ((w.alloc (.cells #[v] t)).alloc (.cells #[u] t')).frozen? ⟨w.heap.size + 1, 0, none⟩ = false) := by
  refine ⟨box_alloc _ (box_new w v t), ?_⟩
  have := box_new (w.alloc (.cells #[v] t)) u t'
  rwa [World.size_alloc] at this
theorem two_below (w : World) (v u : Value) (t t' : TypeId) : Below w.heap.size w ((w.alloc (.cells #[v] t)).alloc (.cells #[u] t')) := ((Below.refl _ w).alloc (Nat.le_refl _) _).alloc (by simp) _
theorem two_size (w : World) (o o' : Obj) : ((w.alloc o).alloc o').heap.size = w.heap.size + 2 := by simp

theorem sub_over {l all : List (List Int)} {fs : List (List UInt8)} (g : Good l all) (h : ∀ t ∈ fs.map ints, t ∈ all) : ¬ Over fs := fun ho => g.notOver h (over_ints.2 ho)

theorem three_size (w : World) (o o' o'' : Obj) : (((w.alloc o).alloc o').alloc o'').heap.size = w.heap.size + 3 := by simp
theorem three_boxes (w : World) (v u z : Value) (t t' t'' : TypeId) : (((w.alloc (.cells #[v] t)).alloc (.cells #[u] t')).alloc (.cells #[z] t'')).cell? ⟨w.heap.size, 0, none⟩ = some v ∧
    (((w.alloc (.cells #[v] t)).alloc (.cells #[u] t')).alloc (.cells #[z] t'')).cell? ⟨w.heap.size + 1, 0, none⟩ = some u ∧
    ((((w.alloc (.cells #[v] t)).alloc (.cells #[u] t')).alloc (.cells #[z] t'')).cell? ⟨w.heap.size + 1 + 1, 0, none⟩ = some z ∧ (((w.alloc (.cells #[v] t)).alloc (.cells #[u] t')).alloc (.cells #[z] t'')).frozen? ⟨w.heap.size + 1 + 1, 0, none⟩ = false) := by
  have h2 := two_boxes w v u t t'
  refine ⟨(box_alloc _ h2.1).1, (box_alloc _ h2.2).1, ?_⟩
  have := box_new ((w.alloc (.cells #[v] t)).alloc (.cells #[u] t')) z t''
  rwa [World.size_alloc, World.size_alloc] at this
theorem three_below (w : World) (v u z : Value) (t t' t'' : TypeId) : Below w.heap.size w (((w.alloc (.cells #[v] t)).alloc (.cells #[u] t')).alloc (.cells #[z] t'')) := (two_below w v u t t').alloc (by simp; omega) _

end Go.Proofs.YthdmfeidcldafaaGreatDoor

namespace Go.Proofs.YthdmfeidcldafaaGreatDoor
open Go.RowKit

theorem sign_ (d : Nat) (w : World) (hd : d ≤ 1000) : Calls Tryz.prog 51 #[.int .i64 d] w fun e w' => e = .returned (.int .i64 (sg d)) ∧ w' = w := by
  have hs : sg d = 1 - 2 * ((d : Int) % 2) := by unfold sg; omega
  rw [hs]
  go_enter Tryz.func51, Tryz.ntmps51
  go_wp2
  go_ret
  exact ⟨by rfl, by rfl⟩

end Go.Proofs.YthdmfeidcldafaaGreatDoor
