/- A complex that was handed in: which error it has, or all its faces: what open, ComplexError and Closed answer of it, in one way. What is told of sets in one way, with an error or none. What faces answers: the faces of a dimension, in order. -/
import Derived.Test.YthmjdfjchhohgaaGreatDoorOpen
import Derived.Test.YthmjdfjchhohgaaGreatDoorMade
namespace Go.Proofs.YthmjdfjchhohgaaGreatDoor
open Go.RowKit Go.Sort Go.Maps Go.Deep

/-- The faces of the map are all faces. -/
structure Told (F : List (List UInt8)) (all : List (List Int)) : Prop where
  nodup : F.Nodup
  some_ : ∀ x ∈ F, x ≠ []
  short : ∀ x ∈ F, x.length ≤ 7
  few : F.length ≤ 600
  perm : (F.map ints).Perm all
  order : Order all

/-- A complex, and all its faces. -/
structure Good (l all : List (List Int)) : Prop where
  ok : ∀ x ∈ l, SetOk x
  few : ¬ Over (l.map srt)
  isAll : IsAll (l.map srt) all
  same : facetsI all = l
/-- No complex: the number of its error. -/
def BadAt (l : List (List Int)) (i : Nat) : Prop :=
  (i = 3 ∧ ¬ ∀ x ∈ l, SetOk x) ∨ (i = 1 ∧ (∀ x ∈ l, SetOk x) ∧ Over (l.map srt)) ∨ (i = 2 ∧ (∀ x ∈ l, SetOk x) ∧ ¬ Over (l.map srt) ∧ ∀ all, IsAll (l.map srt) all → ¬ facetsI all = l)

theorem BadAt.lt {l : List (List Int)} {i : Nat} (h : BadAt l i) : i < 8 := by
  rcases h with ⟨e, _⟩ | ⟨e, _⟩ | ⟨e, _⟩ <;> omega
theorem bad_one {l : List (List Int)} {i j : Nat} (h : BadAt l i) (h' : BadAt l j) : i = j := by
  rcases h with ⟨e, h1⟩ | ⟨e, h1, h2⟩ | ⟨e, h1, h2, _⟩ <;> rcases h' with ⟨e', h1'⟩ | ⟨e', h1', h2'⟩ | ⟨e', h1', h2', _⟩
  · omega
  · exact absurd h1' h1
  · exact absurd h1' h1
  · exact absurd h1 h1'
  · omega
  · exact absurd h2 h2'
  · exact absurd h1 h1'
  · exact absurd h2' h2
  · omega
theorem bad_good {l all : List (List Int)} {i : Nat} (h : BadAt l i) (g : Good l all) : False := by
  rcases h with ⟨_, h1⟩ | ⟨_, _, h2⟩ | ⟨_, _, _, h3⟩
  · exact h1 g.ok
  · exact g.few h2
  · exact h3 all g.isAll g.same
theorem all_one {ts all all' : List (List Int)} (h : IsAll ts all) (h' : IsAll ts all') : all = all' := order_told h.order h'.order (fun x => by rw [h.mem, h'.mem])
theorem good_one {l all all' : List (List Int)} (g : Good l all) (g' : Good l all') : all = all' := all_one g.isAll g'.isAll
theorem Good.length {l all : List (List Int)} (g : Good l all) : all.length ≤ 600 := by
  rcases Nat.lt_or_ge 600 all.length with h | h
  · exact absurd (.inr ⟨all, order_nodup g.isAll.order, h, fun x hx => (g.isAll.mem x).1 hx⟩) g.few
  · exact h
theorem Good.short {l all : List (List Int)} (g : Good l all) : ∀ x ∈ all, x.length ≤ 7 := all_short g.isAll g.few

theorem told_of {l all : List (List Int)} {ts F : List (List UInt8)} {G : List UInt8 → Prop} (hts : ts.map ints = l.map srt) (hH : Heaped ts F G) (hal : IsAll (l.map srt) all) : Told F all where
  nodup := (hH.pile 0).nodup
  some_ := (hH.pile 0).some_
  short := (hH.pile 0).short
  few := (hH.pile 0).few
  perm := perm_all (hH.pile 0).nodup hH.mem (by rw [hts]; exact hal)
  order := hal.order
theorem all_of {l : List (List Int)} {ts F : List (List UInt8)} {G : List UInt8 → Prop} (hts : ts.map ints = l.map srt) (hH : Heaped ts F G) : IsAll (l.map srt) ((srtS F).map ints) where
  order := sorted_order (hH.pile 0).nodup
  mem := fun y => by
    rw [← hts, List.mem_map]
    constructor
    · rintro ⟨x, hx, rfl⟩
      exact face_ints.2 ((hH.mem x).1 ((List.mergeSort_perm F _).mem_iff.1 hx))
    · intro hy
      obtain ⟨x, rfl⟩ := face_from hy
      exact ⟨x, (List.mergeSort_perm F _).mem_iff.2 ((hH.mem x).2 (face_ints.1 hy)), rfl⟩
theorem inner_of {l all : List (List Int)} {ts F : List (List UInt8)} {G : List UInt8 → Prop} (hok : ∀ x ∈ l, SetOk x) (hts : ts.map ints = l.map srt) (hH : Heaped ts F G) (hal : IsAll (l.map srt) all) :
    ∀ x ∈ F, G x ↔ innerB all (ints x) = true := fun x hx => by
  have hr : ∀ t ∈ l.map srt, Rising t := fun t ht => by obtain ⟨y, hy, rfl⟩ := List.mem_map.1 ht; exact srt_rising (hok y hy).2.1
  have hm : ints x ∈ all := by rw [hal.mem, ← hts]; exact face_ints.2 ((hH.mem x).1 hx)
  rw [innerB_iff hr hal hm, hH.memG, ← hts, inner_ints]

/-- What open answers, in one way. -/
def OpenG (a : Nat → Addr) (l : List (List Int)) (w : World) (e : Ending) (w' : World) : Prop :=
  Below w.heap.size w w' ∧ ((∃ i, BadAt l i ∧ e = .returned (.tuple #[.map none, .iface 233 (.pointer (some (a i)))])) ∨
    ∃ all b F G, Good l all ∧ Told F all ∧ e = .returned (.tuple #[.map (some b), .nilIface]) ∧ PileAt w' b F G ∧ ∀ x ∈ F, G x ↔ innerB all (ints x) = true)

theorem open_g {a : Nat → Addr} {s : Nat → ByteArray} (vl : Value) (l : List (List Int)) (w : World) (hE : Errs a s w) (hl : Rows w vl l) (hll : l.length ≤ 100000) (hle : ∀ x ∈ l, x.length ≤ 1000) :
    Calls Tryz.prog 36 #[.agg #[vl]] w fun e w' => OpenG a l w e w' := by
  refine (open_c vl l w hE hl hll hle).mono ?_
  rintro e w' ⟨hB, ⟨hno, rfl⟩ | ⟨hok, ts, hts, ⟨hov, rfl⟩ | ⟨hno, ss, h2, h3, ⟨hne, rfl⟩ | ⟨heq, b, F, G, rfl, hP, hH⟩⟩⟩⟩
  · exact ⟨hB, .inl ⟨3, .inl ⟨rfl, hno⟩, rfl⟩⟩
  · exact ⟨hB, .inl ⟨1, .inr (.inl ⟨rfl, hok, over_back hts hov⟩), rfl⟩⟩
  · exact ⟨hB, .inl ⟨2, .inr (.inr ⟨rfl, hok, fun h => hno (over_told hts h), fun all hal h => hne ((told_same hok hts h2 h3 hal).trans h)⟩), rfl⟩⟩
  · have hal := all_of hts hH
    exact ⟨hB, .inr ⟨_, b, F, G, ⟨hok, fun h => hno (over_told hts h), hal, (told_same hok hts h2 h3 hal).symm.trans heq⟩, told_of hts hH hal, rfl, hP, inner_of hok hts hH hal⟩⟩

/-- What ComplexError answers, in one way. -/
def ErrorG (l : List (List Int)) (w : World) (e : Ending) (w' : World) : Prop :=
  Below w.heap.size w w' ∧ ((∃ i : Nat, BadAt l i ∧ e = .returned (.int .i64 ((i : Int) + 1))) ∨ ∃ all, Good l all ∧ e = .returned (.int .i64 0))
theorem error_g (CL : ClosedHolds) (vl : Value) (l : List (List Int)) (w : World) (hl : Rows w vl l) (hll : l.length ≤ 100000) (hle : ∀ x ∈ l, x.length ≤ 1000) :
    Calls Tryz.prog 15 #[vl] w fun e w' => ErrorG l w e w' := by
  refine (complex_error CL vl l w hl hll hle).mono ?_
  rintro e w' ⟨hB, ⟨hno, rfl⟩ | ⟨hok, hov, rfl⟩ | ⟨hok, hov, all, hal, ⟨hne, rfl⟩ | ⟨heq, rfl⟩⟩⟩
  · exact ⟨hB, .inl ⟨3, .inl ⟨rfl, hno⟩, rfl⟩⟩
  · exact ⟨hB, .inl ⟨1, .inr (.inl ⟨rfl, hok, hov⟩), rfl⟩⟩
  · exact ⟨hB, .inl ⟨2, .inr (.inr ⟨rfl, hok, hov, fun all' hal' h => hne (by rw [all_one hal hal']; exact h.symm)⟩), rfl⟩⟩
  · exact ⟨hB, .inr ⟨all, ⟨hok, hov, hal, heq.symm⟩, rfl⟩⟩

theorem closed_g (CL : ClosedHolds) (vl : Value) (l all : List (List Int)) (w : World) (hl : Rows w vl l) (hll : l.length ≤ 100000) (hle : ∀ x ∈ l, x.length ≤ 1000) (hg : Good l all) :
    Calls Tryz.prog 16 #[vl] w fun e w' => ∃ v, e = .returned (.tuple #[v, .int .i64 0]) ∧ Rows w' v all ∧ Below w.heap.size w w' := by
  refine (CL vl l w hl hll hle).mono ?_
  rintro e w' ⟨hB, ⟨hno, rfl⟩ | ⟨hok, hov, rfl⟩ | ⟨hok, hov, v, all', rfl, hr0, hal, h6⟩⟩
  · exact absurd hg.ok hno
  · exact absurd hov hg.few
  · have hr := hr0.any
    rw [all_one hal hg.isAll] at hr
    exact ⟨v, rfl, hr, hB⟩

theorem told_dim {F : List (List UInt8)} {all : List (List Int)} (h : Told F all) {ss : List (List UInt8)} (hn : ss.Nodup) {dim : Int} (hm : ∀ x, x ∈ ss ↔ x ∈ F ∧ (x.length : Int) - 1 = dim) : (srtS ss).map ints = ofDim all dim := by
  refine order_told (sorted_order hn) (h.order.filter _) (fun y => ?_)
  rw [ofDim, List.mem_filter, ← h.perm.mem_iff, List.mem_map, List.mem_map]
  constructor
  · rintro ⟨x, hx, rfl⟩
    have := (hm x).1 ((List.mergeSort_perm ss _).mem_iff.1 hx)
    exact ⟨⟨x, this.1, rfl⟩, by rw [ints_length]; exact decide_eq_true this.2⟩
  · rintro ⟨⟨x, hx, rfl⟩, b⟩
    rw [ints_length] at b
    exact ⟨x, (List.mergeSort_perm ss _).mem_iff.2 ((hm x).2 ⟨hx, of_decide_eq_true b⟩), rfl⟩
theorem Told.vec {F : List (List UInt8)} {all : List (List Int)} (h : Told F all) : vecOf F = vecOf all := by rw [← vecOf_perm h.perm, vecOf_ints]
theorem Told.top {F : List (List UInt8)} {all : List (List Int)} (h : Told F all) : topN F = topN all := by rw [← topN_perm h.perm, topN_ints]
theorem Told.euler {F : List (List UInt8)} {all : List (List Int)} (h : Told F all) : altTo (vecOf F) (vecOf F).length = eulerOf all := by rw [alt_euler h.some_, ← eulerOf_perm h.perm, eulerOf_ints]

end Go.Proofs.YthmjdfjchhohgaaGreatDoor

namespace Go.Proofs.YthmjdfjchhohgaaGreatDoor
open Go.RowKit Go.Sort Go.Maps Go.Deep

/-- A face as it is told: a set whose numbers rise. -/
def FaceOk (f : List Int) : Prop := SetOk f ∧ Rising f

theorem face_ok_of {l all : List (List Int)} {f : List Int} (g : Good l all) (hf : f ∈ all) : FaceOk f := by
  obtain ⟨h1, t, ht, hs⟩ := (g.isAll.mem f).1 hf
  obtain ⟨y, hy, rfl⟩ := List.mem_map.1 ht
  have hok := g.ok y hy
  have hr := (srt_rising hok.2.1).sublist hs
  exact ⟨⟨h1, hr.imp (fun h => Int.ne_of_lt h), fun v hv => hok.2.2 v ((srt_mem y v).1 (hs.subset hv))⟩, hr⟩
theorem mem_told {F : List (List UInt8)} {all : List (List Int)} (h : Told F all) (t : List UInt8) : t ∈ F ↔ ints t ∈ all := by
  rw [← h.perm.mem_iff, List.mem_map]
  exact ⟨fun hm => ⟨t, hm, rfl⟩, fun ⟨x, hx, e⟩ => by rw [← ints_inj e]; exact hx⟩

/-- What is told of sets: the error's value and number, and all faces (none where there is an error). -/
def Kind (a : Nat → Addr) (l : List (List Int)) (ve : Value) (n : Int) (all : List (List Int)) : Prop :=
  (∃ i : Nat, BadAt l i ∧ ve = .iface 233 (.pointer (some (a i))) ∧ n = (i : Int) + 1 ∧ all = []) ∨ (Good l all ∧ ve = .nilIface ∧ n = 0)

theorem Kind.length {a : Nat → Addr} {l all : List (List Int)} {ve : Value} {n : Int} (h : Kind a l ve n all) : all.length ≤ 600 := by
  rcases h with ⟨i, _, _, _, rfl⟩ | ⟨g, _, _⟩
  · simp
  · exact g.length
theorem Kind.short {a : Nat → Addr} {l all : List (List Int)} {ve : Value} {n : Int} (h : Kind a l ve n all) : ∀ x ∈ all, x.length ≤ 7 := by
  rcases h with ⟨i, _, _, _, rfl⟩ | ⟨g, _, _⟩
  · intro x hx; cases hx
  · exact g.short
theorem rows_nil (w : World) : Rows w (.slice none 0 0) [] := ⟨[], SliceIn.nil _ _, rfl, fun k u x hu => by simp at hu⟩

/-- A slice of no elements in a block of its own. -/
theorem own_empty (w : World) (t : TypeId) (base : Nat) (hb : base ≤ w.heap.size) : (w.alloc (.cells #[] t)).ownsRow base t 1 (.slice (some ⟨w.heap.size, 0, none⟩) 0 0) 0 [] :=
  ⟨rfl, .inr ⟨w.heap.size, 0, #[], rfl, hb, World.alloc_heap_new w _, Nat.le_refl _, Nat.zero_le _, rfl, rfl⟩⟩

end Go.Proofs.YthmjdfjchhohgaaGreatDoor

namespace Go.Proofs.YthmjdfjchhohgaaGreatDoor
open Go.RowKit Go.Sort Go.Maps

theorem beq_decide (a b : Int) : (a == b) = decide (a = b) := by
  by_cases h : a = b
  · subst h; simp
  · rw [decide_eq_false h, beq_false_of_ne h]

theorem of_dim_ (x : List UInt8) (dim : Int) (Bx : Nat) (w : World) (hB : w.cell? ⟨Bx, 0, none⟩ = some (.int .i64 dim)) (hl : x.length ≤ 1000) :
    Calls Tryz.prog 113 #[encStr x, .pointer (some ⟨Bx, 0, none⟩)] w fun e w' => e = .returned (.bool (decide ((x.length : Int) - 1 = dim))) ∧ w' = w := by
  have hsz : (⟨x.toArray⟩ : ByteArray).size = x.length := by simp [ByteArray.size]
  show Calls Tryz.prog 113 #[.string ⟨x.toArray⟩, .pointer (some ⟨Bx, 0, none⟩)] w _
  go_enter Tryz.func113, Tryz.ntmps113
  go_wp2
  go_ret
  exact ⟨by show Ending.returned (.bool ((x.length : Int) - 1 == dim)) = _; rw [beq_decide], rfl⟩

/-- What faces answers. -/
def FacesSays (F : List (List UInt8)) (dim : Int) (w : World) (e : Ending) (w' : World) : Prop :=
  ∃ v ss, e = .returned v ∧ StrsIn (fun b => w.heap.size ≤ b) w' v (srtS ss) ∧ ss.Nodup ∧ (∀ x, x ∈ ss ↔ x ∈ F ∧ (x.length : Int) - 1 = dim) ∧ Below w.heap.size w w'

set_option maxRecDepth 100000 in
theorem faces_ (b : Nat) (F : List (List UInt8)) (G : List UInt8 → Prop) (dim : Int) (w : World) (hP : PileAt w b F G) (hF : F.length ≤ 100000) (hx : ∀ x ∈ F, x.length ≤ 1000) :
    Calls Tryz.prog 88 #[.map (some b), .int .i64 dim] w fun e w' => FacesSays F dim w e w' := by
  have hP1 := hP.below ((Below.refl _ w).alloc (Nat.le_refl _) (.cells #[.int .i64 dim] 3))
  have hbox := box_new w (.int .i64 dim) 3
  have hkept := kept_ b F G 113 #[.pointer (some ⟨w.heap.size, 0, none⟩)] (fun x => decide ((x.length : Int) - 1 = dim)) (w.alloc (.cells #[.int .i64 dim] 3)) hP1 hF hx (enters_of Tryz.func113 (by kernel_rfl) rfl)
    (fun x hxF W hW => of_dim_ x dim w.heap.size W ((hW.cell (p := ⟨w.heap.size, 0, none⟩) (by simp)).trans hbox.1) (hx x hxF))
  clear hP1
  have hb := hbox.1
  clear hbox
  go_enter Tryz.func88, Tryz.ntmps88
  go_wp2_with fail
  refine hkept.mono ?_
  rintro e w2 ⟨v, ss, rfl, h1, h2, h3, h4⟩
  go_wp2
  go_ret
  refine ⟨_, ss, rfl, h1.mono (fun b _ h => by simp at h; omega), h2, fun x => by rw [h3]; simp, ((Below.refl _ w).alloc (Nat.le_refl _) _).trans (h4.mono (by simp))⟩

end Go.Proofs.YthmjdfjchhohgaaGreatDoor
