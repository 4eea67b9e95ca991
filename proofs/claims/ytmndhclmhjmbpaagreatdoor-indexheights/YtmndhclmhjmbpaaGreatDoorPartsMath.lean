/- What is told of sets in one way, with an error or none. What Faces answers of a complex, whichever it is. What slices.ContainsFunc answers at numbers: the shelf laid over this program. Stars, links and skeletons: what the facets around a face tell and what the reference tells are the same. -/
import Derived.Test.YtmndhclmhjmbpaaGreatDoorGate
import Derived.Test.YtmndhclmhjmbpaaGreatDoorVector
import Derived.Test.YtmndhclmhjmbpaaGreatDoorFaces
import Derived.Shelf.SlicesE.IndexFunc
import Derived.Test.YtmndhclmhjmbpaaGreatDoorProg
namespace Go.Proofs.YtmndhclmhjmbpaaGreatDoor
open Go.RowKit Go.Sort Go.Maps Go.Deep

/-- A face as it is told: a set whose numbers rise. -/
def FaceOk (f : List Int) : Prop := SetOk f ∧ Rising f

theorem face_ok_of {l all : List (List Int)} {f : List Int} (g : Good l all) (hf : f ∈ all) : FaceOk f := by
  obtain ⟨h1, t, ht, hs⟩ := (g.isAll.mem f).1 hf
  obtain ⟨y, hy, rfl⟩ := List.mem_map.1 ht
  have hok := g.ok y hy
  have hr := (srt_rising hok.2.1).sublist hs
  exact ⟨⟨h1, hr.imp (fun h => Int.ne_of_lt h), fun v hv => hok.2.2 v ((srt_mem y v).1 (hs.subset hv))⟩, hr⟩
theorem mem_told {F : List (List UInt8)} {all : List (List Int)} (h : Told F all) (t : List UInt8) : t ∈ F ↔ ints t ∈ all := by
  rw [← h.perm.mem_iff, List.mem_map]
  exact ⟨fun hm => ⟨t, hm, rfl⟩, fun ⟨x, hx, e⟩ => by rw [← ints_inj e]; exact hx⟩

/-- What is told of sets: the error's value and number, and all faces (none where there is an error). -/
def Kind (a : Nat → Addr) (l : List (List Int)) (ve : Value) (n : Int) (all : List (List Int)) : Prop :=
  (∃ i : Nat, BadAt l i ∧ ve = .iface 233 (.pointer (some (a i))) ∧ n = (i : Int) + 1 ∧ all = []) ∨ (Good l all ∧ ve = .nilIface ∧ n = 0)

theorem Kind.length {a : Nat → Addr} {l all : List (List Int)} {ve : Value} {n : Int} (h : Kind a l ve n all) : all.length ≤ 600 := by
  rcases h with ⟨i, _, _, _, rfl⟩ | ⟨g, _, _⟩
  · simp
  · exact g.length
theorem Kind.short {a : Nat → Addr} {l all : List (List Int)} {ve : Value} {n : Int} (h : Kind a l ve n all) : ∀ x ∈ all, x.length ≤ 7 := by
  rcases h with ⟨i, _, _, _, rfl⟩ | ⟨g, _, _⟩
  · intro x hx; cases hx
  · exact g.short
theorem rows_nil (w : World) : Rows w (.slice none 0 0) [] := ⟨[], SliceIn.nil _ _, rfl, fun k u x hu => by simp at hu⟩

/-- A slice of no elements in a block of its own. -/
theorem own_empty (w : World) (t : TypeId) (base : Nat) (hb : base ≤ w.heap.size) : (w.alloc (.cells #[] t)).ownsRow base t 1 (.slice (some ⟨w.heap.size, 0, none⟩) 0 0) 0 [] :=
  ⟨rfl, .inr ⟨w.heap.size, 0, #[], rfl, hb, World.alloc_heap_new w _, Nat.le_refl _, Nat.zero_le _, rfl, rfl⟩⟩

end Go.Proofs.YtmndhclmhjmbpaaGreatDoor

namespace Go.Proofs.YtmndhclmhjmbpaaGreatDoor
open Go.RowKit Go.Sort Go.Maps Go.Deep

theorem told_small_dim {F ss : List (List UInt8)} {all : List (List Int)} (h : Told F all) (h2 : ss.Nodup) {dim : Int} (h3 : ∀ x, x ∈ ss ↔ x ∈ F ∧ (x.length : Int) - 1 = dim) : (srtS ss).length ≤ 100000 ∧ ∀ t ∈ srtS ss, t.length ≤ 1000 := by
  have e1 : (srtS ss).length = ss.length := (List.mergeSort_perm ss _).length_eq
  have := nodup_le h2 (fun x hx => ((h3 x).1 hx).1)
  have hf := h.few
  refine ⟨by omega, fun t ht => ?_⟩
  have := h.short t ((h3 t).1 ((List.mergeSort_perm ss _).mem_iff.1 ht)).1
  omega

/-- What Faces answers. -/
def FacesG (a : Nat → Addr) (l : List (List Int)) (dim : Int) (w : World) (e : Ending) (w' : World) : Prop :=
  Below w.heap.size w w' ∧ ((∃ i, BadAt l i ∧ e = .returned (.tuple #[.slice none 0 0, .iface 233 (.pointer (some (a i)))])) ∨
    ∃ all v, Good l all ∧ e = .returned (.tuple #[v, .nilIface]) ∧ Rows w' v (ofDim all dim))

set_option maxRecDepth 100000 in
set_option maxHeartbeats 1000000 in
theorem faces_call {a : Nat → Addr} {s : Nat → ByteArray} (vl : Value) (l : List (List Int)) (dim : Int) (w : World) (hE : Errs a s w) (hl : Rows w vl l) (hll : l.length ≤ 100000) (hle : ∀ x ∈ l, x.length ≤ 1000) :
    Calls Tryz.prog 55 #[.agg #[vl], .int .i64 dim] w fun e w' => FacesG a l dim w e w' := by
  obtain ⟨al, cl, rfl, -, -⟩ := hl.open_
  have hBa : Below w.heap.size w (w.alloc (.cells #[.slice al l.length cl] 33)) := (Below.refl _ w).alloc (Nat.le_refl _) _
  have hop := open_g _ l (w.alloc (.cells #[.slice al l.length cl] 33)) (hE.below hBa) (hl.below hBa) hll hle
  have hbc := (box_new w (.slice al l.length cl) 33).1
  clear hl
  go_enter Tryz.func55, Tryz.ntmps55
  go_wp2_with fail
  refine hop.mono ?_
  clear hop
  rintro e w2 ⟨hB2, ⟨i, hbad, rfl⟩ | ⟨all, b, F, G, hg, ht, rfl, hP, -⟩⟩
  · have HBD : Hid (BadAt l i) := hbad
    clear hbad
    go_wp2
    go_ret2
    exact ⟨below_out (below_after hB2 (Below.refl _ w2)), .inl ⟨i, HBD.out, rfl⟩⟩
  · have hfa := faces_ b F G dim w2 hP (by have := ht.few; omega) (fun x hx => by have := ht.short x hx; omega)
    have HG : Hid (Good l all ∧ Told F all) := ⟨hg, ht⟩
    clear hg ht hP
    go_wp2_with fail
    refine hfa.mono ?_
    clear hfa
    rintro e w3 ⟨v3, ss, rfl, h1, h2, h3, h4⟩
    have hsm := told_small_dim HG.out.2 h2 h3
    have hli := lists_ v3 (srtS ss) w3 (SliceIn.mono h1 (fun _ _ _ => trivial)) hsm.1 hsm.2
    have HD : Hid ((srtS ss).map ints = ofDim all dim) := told_dim HG.out.2 h2 h3
    have HB3 : Hid (Below w.heap.size w w3) := below_out (below_after hB2 h4)
    clear h1 h2 h3 h4 hsm
    go_wp2_with fail
    refine hli.mono ?_
    clear hli
    rintro e w4 ⟨v4, rfl, h5, h6⟩
    have hr := h5.rows
    rw [HD.out] at hr
    have HR : Hid (Rows w4 v4 (ofDim all dim)) := hr
    clear hr h5
    go_wp2
    go_ret2
    exact ⟨HB3.out.trans (h6.mono HB3.out.size), .inr ⟨all, v4, HG.out.1, rfl, HR.out⟩⟩

end Go.Proofs.YtmndhclmhjmbpaaGreatDoor

namespace Go.Proofs
open Go.Shelf
def Tryz.laysSlH8_f80_ren : Go.Shelf.Ren := ⟨fun | 8 => 80 | 6 => 107 | n => n, fun | 22 => 23 | 23 => 3 | 25 => 122 | 4 => 4 | 3 => 3 | 0 => 0 | n => n, fun | n => n⟩
theorem Tryz.laysSlH8_f80 : Go.Proofs.SlLaysH.n8 Tryz.prog Tryz.laysSlH8_f80_ren := {
  mixed := by kernel_rfl
  f6 := ⟨Tryz.f107.name, by decide, Tryz.func107.trans (congrArg some (by kernel_rfl))⟩
  f8 := ⟨Tryz.f80.name, by decide, Tryz.func80.trans (congrArg some (by kernel_rfl))⟩
  t0 := Tryz.underlying0
  a0 := Tryz.isAgg0
  z0 := Tryz.sizeOf0
  v0 := Tryz.zeroValue0
  t3 := Tryz.underlying3
  a3 := Tryz.isAgg3
  z3 := Tryz.sizeOf3
  v3 := Tryz.zeroValue3
  t4 := Tryz.underlying4
  a4 := Tryz.isAgg4
  z4 := Tryz.sizeOf4
  v4 := Tryz.zeroValue4
  t22 := Tryz.underlying23
  a22 := Tryz.isAgg23
  z22 := Tryz.sizeOf23
  v22 := Tryz.zeroValue23
  a23 := Tryz.isAgg3
  z23 := Tryz.sizeOf3
  t25 := Tryz.underlying122
  a25 := Tryz.isAgg122
  z25 := Tryz.sizeOf122
  v25 := Tryz.zeroValue122 }
open Go.RowKit Go.Lib in
theorem Tryz.slices_ContainsFunc {α : Type} [Inhabited α] (enc : α → Value) (p : α → Bool) (g : Nat) (lb : Array Value) (eg : ∀ args w, (callFunc g args).run Tryz.prog w = .ok (.enter g args) w) (b off n c : Nat) (zs : List α) (w : World) (hp : PredAt Tryz.prog g lb enc p w) (hz : n ≤ zs.length) (hbig : n ≤ 9223372036854775807) (hc : ∀ j, j < zs.length → w.cell? ⟨b, off + j, none⟩ = some (enc zs[j]!)) :
    Calls Tryz.prog 80 #[.slice (some ⟨b, off, none⟩) n c, .func (.func g) #[] lb] w fun e w' => e = .returned (.bool ((zs.take n).any p)) ∧ ∃ q, w' = w.drewN q := AnyE.slices_ContainsFunc Tryz.laysSlH8_f80 enc p g lb eg b off n c zs w hp hz hbig hc
open Go.RowKit Go.Lib in
theorem Tryz.slices_ContainsFunc_empty {α : Type} [Inhabited α] (a : Option Addr) (c : Nat) (fv : Value) (w : World) :
    Calls Tryz.prog 80 #[.slice a 0 c, fv] w fun e w' => e = .returned (.bool false) ∧ w' = w := AnyE.slices_ContainsFunc_empty Tryz.laysSlH8_f80 a c fv w
end Go.Proofs

namespace Go.Proofs.YtmndhclmhjmbpaaGreatDoor
open Go.RowKit Go.Sort

/-- The facets of the complex of some sets, in order. -/
structure IsFacets (g L : List (List Int)) : Prop where
  order : Order L
  mem : ∀ x, x ∈ L ↔ FaceOf g x ∧ ¬ InnerOf g x
theorem inner_face {α : Type} {ts : List (List α)} {x : List α} : InnerOf ts x ↔ x ≠ [] ∧ ∃ y, FaceOf ts y ∧ x.Sublist y ∧ x.length < y.length := by
  constructor
  · rintro ⟨h, t, ht, hs, hl⟩
    exact ⟨h, t, ⟨fun e => by subst e; simp at hl, t, ht, List.Sublist.refl _⟩, hs, hl⟩
  · rintro ⟨h, y, ⟨_, t, ht, hy⟩, hs, hl⟩
    have := hy.length_le
    exact ⟨h, t, ht, hs.trans hy, by omega⟩
theorem facets_one {g g' L L' : List (List Int)} (h : ∀ x, FaceOf g x ↔ FaceOf g' x) (hL : IsFacets g L) (hL' : IsFacets g' L') : L = L' := by
  refine order_told hL.order hL'.order (fun x => ?_)
  rw [hL.mem, hL'.mem, inner_face, inner_face, h]
  simp only [h]
theorem facets_built {ts ss : List (List UInt8)} (hn : ss.Nodup) (hm : ∀ x, x ∈ ss ↔ FaceOf ts x ∧ ¬ InnerOf ts x) : IsFacets (ts.map ints) ((srtS ss).map ints) where
  order := sorted_order hn
  mem := fun y => by
    rw [List.mem_map]
    constructor
    · rintro ⟨x, hx, rfl⟩
      have := (hm x).1 ((List.mergeSort_perm ss _).mem_iff.1 hx)
      exact ⟨face_ints.2 this.1, fun hi => this.2 (inner_ints.1 hi)⟩
    · rintro ⟨a, b⟩
      obtain ⟨x, rfl⟩ := face_from a
      exact ⟨x, (List.mergeSort_perm ss _).mem_iff.2 ((hm x).2 ⟨face_ints.1 a, fun hi => b (inner_ints.2 hi)⟩), rfl⟩
theorem facets_made {g all : List (List Int)} (hr : ∀ t ∈ g, Rising t) (h : IsAll g all) : IsFacets g (facetsI all) where
  order := facets_order h.order
  mem := facets_mem hr h

theorem rising_srt {x : List Int} (h : Rising x) : srt x = x := (srt_told (h.imp (fun h => Int.ne_of_lt h)) h (fun _ => Iff.rfl)).symm
theorem map_srt {g : List (List Int)} (h : ∀ x ∈ g, Rising x) : g.map srt = g := by
  induction g with
  | nil => rfl
  | cons x g ih => rw [List.map_cons, rising_srt (h x (by simp)), ih (fun y hy => h y (by simp [hy]))]

theorem Good.rising {l all : List (List Int)} (g : Good l all) : ∀ x ∈ all, Rising x := fun _ hx => (face_ok_of g hx).2
theorem Good.sub {l all : List (List Int)} (g : Good l all) {x y : List Int} (hx : x ∈ all) (hs : y.Sublist x) (hy : y ≠ []) : y ∈ all := by
  obtain ⟨_, t, ht, hxt⟩ := (g.isAll.mem x).1 hx
  exact (g.isAll.mem y).2 ⟨hy, t, ht, hs.trans hxt⟩
theorem Good.facet {l all : List (List Int)} (g : Good l all) {x : List Int} (hx : x ∈ all) : ∃ t ∈ all, innerB all t = false ∧ x.Sublist t := by
  obtain ⟨_, t, ht, hs⟩ := (g.isAll.mem x).1 hx
  obtain ⟨y, hy, rfl⟩ := List.mem_map.1 ht
  have hy' : y ∈ facetsI all := by rw [g.same]; exact hy
  obtain ⟨h1, h2⟩ := List.mem_filter.1 hy'
  rw [rising_srt (g.rising y h1)] at hs
  exact ⟨y, h1, by simpa using h2, hs⟩
theorem Good.notOver {l all g' : List (List Int)} (g : Good l all) (h : ∀ t ∈ g', t ∈ all) : ¬ Over g' := by
  have hf : ∀ x, FaceOf g' x → x ∈ all := fun x ⟨h1, t, ht, hs⟩ => g.sub (h t ht) hs h1
  rintro (⟨t, ht, hl⟩ | ⟨X, hn, hl, hx⟩)
  · have := g.short t (h t ht); omega
  · have := nodup_le hn (fun x hx' => hf x (hx x hx'))
    have := g.length
    omega

/-- Is the union of two faces one of these? -/
def uniB (all : List (List Int)) (x f : List Int) : Bool := all.any (fun o => (o.all fun v => x.contains v || f.contains v) && (x.all fun v => o.contains v) && f.all fun v => o.contains v)
theorem uniB_iff {all : List (List Int)} {x f : List Int} : uniB all x f = true ↔ ∃ o ∈ all, ∀ v, v ∈ o ↔ v ∈ x ∨ v ∈ f := by
  unfold uniB
  rw [List.any_eq_true]
  constructor
  · rintro ⟨o, ho, h⟩
    simp only [Bool.and_eq_true, List.all_eq_true, Bool.or_eq_true, List.contains_iff_mem] at h
    exact ⟨o, ho, fun v => ⟨fun hv => h.1.1 v hv, fun hv => hv.elim (h.1.2 v) (h.2 v)⟩⟩
  · rintro ⟨o, ho, h⟩
    refine ⟨o, ho, ?_⟩
    simp only [Bool.and_eq_true, List.all_eq_true, Bool.or_eq_true, List.contains_iff_mem]
    exact ⟨⟨fun v hv => (h v).1 hv, fun v hv => (h v).2 (.inl hv)⟩, fun v hv => (h v).2 (.inr hv)⟩
theorem uniB_told {all : List (List Int)} {x f out : List Int} (hr : ∀ o ∈ all, Rising o) (ho : Rising out) (hm : ∀ v, v ∈ out ↔ v ∈ x ∨ v ∈ f) : uniB all x f = true ↔ out ∈ all := by
  rw [uniB_iff]
  constructor
  · rintro ⟨o, h1, h2⟩
    rw [rising_told ho (hr o h1) (fun v => by rw [hm, h2])]; exact h1
  · exact fun h => ⟨out, h, hm⟩

def starI (all : List (List Int)) (f : List Int) : List (List Int) := all.filter (fun x => uniB all x f)
def minusI (x f : List Int) : List Int := x.filter (fun v => !f.contains v)
def linkB (all : List (List Int)) (f x : List Int) : Bool := decide (x ≠ []) && decide (minusI x f = x) && uniB all x f
def linkI (all : List (List Int)) (f : List Int) : List (List Int) := all.filter (linkB all f)
def lowI (all : List (List Int)) (dim : Int) : List (List Int) := all.filter (fun x => decide ((x.length : Int) - 1 ≤ dim))

/-- The facets around a face. -/
def AroundOf (all : List (List Int)) (f : List Int) (fs : List (List Int)) : Prop := ∀ t, t ∈ fs ↔ t ∈ all ∧ innerB all t = false ∧ ∀ v ∈ f, v ∈ t

theorem star_same {l all fs : List (List Int)} {f : List Int} (g : Good l all) (h : AroundOf all f fs) (y : List Int) : FaceOf fs y ↔ FaceOf (starI all f) y := by
  constructor
  · rintro ⟨h1, t, ht, hs⟩
    obtain ⟨a1, a2, a3⟩ := (h t).1 ht
    exact ⟨h1, t, List.mem_filter.2 ⟨a1, uniB_iff.2 ⟨t, a1, fun v => ⟨.inl, fun hv => hv.elim id (a3 v)⟩⟩⟩, hs⟩
  · rintro ⟨h1, x, hx, hs⟩
    obtain ⟨b1, b2⟩ := List.mem_filter.1 hx
    obtain ⟨o, ho, hm⟩ := uniB_iff.1 b2
    obtain ⟨t, t1, t2, t3⟩ := g.facet ho
    have hxo : x.Sublist o := rising_sub (g.rising x b1) (g.rising o ho) (fun v hv => (hm v).2 (.inl hv))
    exact ⟨h1, t, (h t).2 ⟨t1, t2, fun v hv => t3.subset ((hm v).2 (.inr hv))⟩, hs.trans (hxo.trans t3)⟩

theorem minus_mem {x f : List Int} {v : Int} : v ∈ minusI x f ↔ v ∈ x ∧ v ∉ f := by
  unfold minusI
  rw [List.mem_filter]
  simp
theorem minus_self {x f : List Int} : minusI x f = x ↔ ∀ v ∈ x, v ∉ f := by
  unfold minusI
  rw [List.filter_eq_self]
  simp

theorem link_same {l all fs rs : List (List Int)} {f : List Int} (g : Good l all) (h : AroundOf all f fs) (hr : ∀ r, r ∈ rs ↔ r ≠ [] ∧ ∃ t ∈ fs, r = minusI t f) (y : List Int) : FaceOf rs y ↔ FaceOf (linkI all f) y := by
  constructor
  · rintro ⟨h1, r, hr1, hs⟩
    obtain ⟨_, t, ht, rfl⟩ := (hr r).1 hr1
    obtain ⟨a1, a2, a3⟩ := (h t).1 ht
    have hyt : y.Sublist t := hs.trans List.filter_sublist
    have hya := g.sub a1 hyt h1
    have hyf : ∀ v ∈ y, v ∉ f := fun v hv => (minus_mem.1 (hs.subset hv)).2
    refine ⟨h1, y, List.mem_filter.2 ⟨hya, ?_⟩, List.Sublist.refl _⟩
    unfold linkB
    rw [decide_eq_true h1, decide_eq_true (minus_self.2 hyf), Bool.true_and, Bool.true_and, uniB_iff]
    refine ⟨t.filter (fun v => y.contains v || f.contains v), g.sub a1 List.filter_sublist (fun e => ?_), fun v => ?_⟩
    · obtain ⟨v, hv⟩ := List.exists_mem_of_ne_nil _ h1
      have : v ∈ t.filter (fun v => y.contains v || f.contains v) := List.mem_filter.2 ⟨hyt.subset hv, by simp [hv]⟩
      rw [e] at this; cases this
    · rw [List.mem_filter]
      simp only [Bool.or_eq_true, List.contains_iff_mem]
      exact ⟨fun hv => hv.2, fun hv => ⟨hv.elim (fun a => hyt.subset a) (a3 v), hv⟩⟩
  · rintro ⟨h1, x, hx, hs⟩
    obtain ⟨b1, b2⟩ := List.mem_filter.1 hx
    unfold linkB at b2
    simp only [Bool.and_eq_true, decide_eq_true_eq] at b2
    obtain ⟨⟨b3, b4⟩, b5⟩ := b2
    obtain ⟨o, ho, hm⟩ := uniB_iff.1 b5
    obtain ⟨t, t1, t2, t3⟩ := g.facet ho
    have hxf := minus_self.1 b4
    have hxm : x.Sublist (minusI t f) := rising_sub (g.rising x b1) ((g.rising t t1).sublist List.filter_sublist) (fun v hv => minus_mem.2 ⟨t3.subset ((hm v).2 (.inl hv)), hxf v hv⟩)
    have hne : minusI t f ≠ [] := fun e => by rw [e] at hxm; exact b3 (List.sublist_nil.1 hxm)
    exact ⟨h1, minusI t f, (hr _).2 ⟨hne, t, (h t).2 ⟨t1, t2, fun v hv => t3.subset ((hm v).2 (.inr hv))⟩, rfl⟩, hs.trans hxm⟩

theorem face_members {α : Type} {g g' : List (List α)} (h : ∀ t, t ∈ g ↔ t ∈ g') (y : List α) : FaceOf g y ↔ FaceOf g' y :=
  ⟨fun ⟨h1, t, ht, hs⟩ => ⟨h1, t, (h t).1 ht, hs⟩, fun ⟨h1, t, ht, hs⟩ => ⟨h1, t, (h t).2 ht, hs⟩⟩

/-- How many are left of a face tells whether the other one is a part. -/
theorem minus_count {t f : List Int} (ht : t.Nodup) (hf : f.Nodup) : ((minusI t f).length : Int) = (t.length : Int) - (f.length : Int) ↔ ∀ v ∈ f, v ∈ t := by
  have hsum : ∀ (l : List Int), (l.filter (fun v => !f.contains v)).length + (l.filter (fun v => f.contains v)).length = l.length := by
    intro l
    induction l with
    | nil => rfl
    | cons a l ih =>
      cases h : f.contains a
      · simp only [List.filter_cons, h, Bool.not_false, if_true, List.length_cons, Bool.false_eq_true, if_false]; omega
      · simp only [List.filter_cons, h, Bool.not_true, Bool.false_eq_true, if_false, if_true, List.length_cons]; omega
  have h1 := hsum t
  have hn : (t.filter (fun v => f.contains v)).Nodup := ht.sublist List.filter_sublist
  have hle := nodup_le hn (Y := f) (fun v hv => by simpa using (List.mem_filter.1 hv).2)
  constructor
  · intro e v hv
    have e2 : (t.filter (fun v => f.contains v)).length = f.length := by unfold minusI at e; omega
    rcases Classical.em (v ∈ t) with h | h
    · exact h
    · have h3 := nodup_le hn (Y := f.erase v) (fun u hu => (List.mem_erase_of_ne (fun e => by subst e; exact h (List.mem_filter.1 hu).1)).2 (by simpa using (List.mem_filter.1 hu).2))
      have h4 := List.length_erase_of_mem hv
      have h5 := List.length_pos_of_mem hv
      omega
  · intro hall
    have h2 := nodup_le hf (Y := t.filter (fun v => f.contains v)) (fun v hv => List.mem_filter.2 ⟨hall v hv, by simpa using hv⟩)
    unfold minusI
    omega

end Go.Proofs.YtmndhclmhjmbpaaGreatDoor
