/- What open answers of a complex that was handed in: the map of its faces, or which error it has. A complex that was handed in: which error it has, or all its faces: what open, ComplexError and Closed answer of it, in one way. -/
import Derived.Test.YtmndhclmhjmbpaaGreatDoorEqual
import Derived.Deep.RegionHeld3
import Derived.Test.YtmndhclmhjmbpaaGreatDoorLists
import Derived.Test.YtmndhclmhjmbpaaGreatDoorMade
namespace Go.Proofs.YtmndhclmhjmbpaaGreatDoor
open Go.RowKit Go.Sort Go.Maps Go.Deep

/-- What open answers. -/
def OpenSays (a : Nat → Addr) (l : List (List Int)) (w : World) (e : Ending) (w' : World) : Prop :=
  Below w.heap.size w w' ∧ ((¬ (∀ x ∈ l, SetOk x) ∧ e = .returned (.tuple #[.map none, .iface 233 (.pointer (some (a 3)))])) ∨
    ((∀ x ∈ l, SetOk x) ∧ ∃ ts : List (List UInt8), ts.map ints = l.map srt ∧
      ((Over ts ∧ e = .returned (.tuple #[.map none, .iface 233 (.pointer (some (a 1)))])) ∨
       (¬ Over ts ∧ ∃ ss : List (List UInt8), ss.Nodup ∧ (∀ x, x ∈ ss ↔ FaceOf ts x ∧ ¬ InnerOf ts x) ∧
         ((¬ (srtS ss).map ints = l ∧ e = .returned (.tuple #[.map none, .iface 233 (.pointer (some (a 2)))])) ∨
          ((srtS ss).map ints = l ∧ ∃ b F G, e = .returned (.tuple #[.map (some b), .nilIface]) ∧ PileAt w' b F G ∧ Heaped ts F G))))))

theorem told_sizes {F ss : List (List UInt8)} {G : List UInt8 → Prop} (h2 : ss.Nodup) (h3 : ∀ x, x ∈ ss ↔ x ∈ F ∧ ¬ G x) (hF : F.length ≤ 100000) (hx : ∀ x ∈ F, x.length ≤ 1000) :
    ((srtS ss).map ints).length ≤ 1000000 ∧ ∀ x ∈ (srtS ss).map ints, x.length ≤ 1000000 := by
  have e1 : (srtS ss).length = ss.length := (List.mergeSort_perm ss _).length_eq
  have := nodup_le h2 (fun x hx => ((h3 x).1 hx).1)
  refine ⟨by rw [List.length_map]; omega, fun x hm => ?_⟩
  obtain ⟨t, ht, rfl⟩ := List.mem_map.1 hm
  have := hx t ((h3 t).1 ((List.mergeSort_perm ss _).mem_iff.1 ht)).1
  rw [ints_length]; omega

theorem field_facets (a : Option Addr) (n c : Nat) (W : World) : (Instr.field 33 (.agg #[.slice a n c]) 0).run Tryz.prog W = .ok (.slice a n c) W := by kernel_rfl

set_option maxRecDepth 100000 in
set_option maxHeartbeats 2000000 in
theorem open_c {a : Nat → Addr} {s : Nat → ByteArray} (vl : Value) (l : List (List Int)) (w : World) (hE : Errs a s w) (hl : Rows w vl l) (hll : l.length ≤ 100000) (hle : ∀ x ∈ l, x.length ≤ 1000) :
    Calls Tryz.prog 36 #[.agg #[vl]] w fun e w' => OpenSays a l w e w' := by
  have HR : Hid (Rows w vl l) := hl
  obtain ⟨al, cl, rfl, -, -⟩ := hl.open_
  have hBa : Below w.heap.size w (w.alloc (.cells #[.slice al l.length cl] 33)) := (Below.refl _ w).alloc (Nat.le_refl _) _
  have hgat := gather_ _ l (w.alloc (.cells #[.slice al l.length cl] 33)) (hE.below hBa) (hl.below hBa) hll hle
  have hbox := box_new w (.slice al l.length cl) 33
  have hbc := hbox.1
  clear hl
  go_enter Tryz.func36, Tryz.ntmps36
  go_wp2_with fail
  refine hgat.mono ?_
  rintro e w2 ⟨hB2, ⟨hno, rfl⟩ | ⟨hok, ts, hts, ⟨b, F, G, rfl, hP, hH⟩ | ⟨hov, rfl⟩⟩⟩
  · clear hgat
    go_wp2
    go_ret2
    exact ⟨below_out (below_after hB2 (Below.refl _ w2)), .inl ⟨hno, rfl⟩⟩
  · have hfew := (hH.pile 0).few
    have hsh := (hH.pile 0).short
    have HH : Hid (Heaped ts F G) := hH
    have HOK : Hid ((∀ x ∈ l, SetOk x) ∧ ts.map ints = l.map srt) := ⟨hok, hts⟩
    have HPP : Hid (PileAt w2 b F G) := hP
    have hx7 : ∀ x ∈ F, x.length ≤ 1000 := fun x hx => by have := hsh x hx; omega
    have hF6 : F.length ≤ 100000 := by omega
    have hB3 := below_after hB2 (Below.refl _ w2)
    have c1 : w2.cell? ⟨w.heap.size, 0, none⟩ = some (.slice al l.length cl) := (hB3.cell (p := ⟨w.heap.size, 0, none⟩) (by simp)).trans hbox.1
    have HLL : Hid (l.length ≤ 100000 ∧ ∀ x ∈ l, x.length ≤ 1000) := ⟨hll, hle⟩
    clear hgat hP hH hsh hok hts hfew hle hbc hbox
    have HBw : Hid (Below w.heap.size w w2) := below_out hB3
    have hlt1 := cell_lt c1
    have hff := field_facets
    go_wp2_with fail
    go_region_held3 (fun W => W.cell? ⟨w.heap.size, 0, none⟩ = some (.slice al l.length cl)) (go_keep) (first
      | (go_at_call 67; refine (told_ b F G _ ?_ hF6 hx7).mono ?_; exact HPP.out; rintro e w3 ⟨v, ss, rfl, h1, h2, h3, h4⟩; obtain ⟨a3, c3, rfl, -, -⟩ := h1.rows.open_; have R1 := h1.rows; rw [List.length_map] at R1; have hBt : Below w.heap.size w w3 := (by first | exact HBw.out.drew.trans (h4.mono HBw.out.size) | exact HBw.out.trans (h4.mono HBw.out.size)); have hP3 : PileAt w3 b F G := (by exact PileAt.below (by exact HPP.out) h4); have cb : w3.cell? ⟨w.heap.size, 0, none⟩ = some (.slice al l.length cl) := (h4.cell (p := ⟨w.heap.size, 0, none⟩) hlt1).trans c1)
      | (go_at_call 66; refine (equal_lists _ _ ((srtS ss).map ints) l _ ?_ ?_ ?_ ?_).mono ?_; exact R1; exact HR.out.below hBt; exact (told_sizes h2 h3 hF6 hx7).1; exact (told_sizes h2 h3 hF6 hx7).2; rintro e w4 ⟨rfl, q, rfl⟩))
    have HIN : Hid (ss.Nodup ∧ ∀ x, x ∈ ss ↔ FaceOf ts x ∧ ¬ InnerOf ts x) := ⟨h2, fun x => by rw [h3, HH.out.mem, HH.out.memG]⟩
    have hBq : Below w.heap.size w (w3.drewN q) := hBt.trans ⟨rfl, rfl, rfl, Nat.le_refl _, fun _ _ => rfl⟩
    have hPq : PileAt (w3.drewN q) b F G := hP3
    have hgl : (w3.drewN q).cell? ⟨1, 0, none⟩ = some (.iface 233 (.pointer (some (a 2)))) := (hE.below hBq).glob 2 (by decide)
    generalize w3.drewN q = W4 at hBq hPq hgl ⊢
    clear h2 h3 h1 R1 hx7
    by_cases hq : (srtS ss).map ints = l
    · rw [decide_eq_true hq]
      have HQ : Hid ((srtS ss).map ints = l) := hq
      clear hq
      go_wp2
      go_ret2
      exact ⟨hBq, .inr ⟨HOK.out.1, ts, HOK.out.2, .inr ⟨HH.out.notOver, ss, HIN.out.1, HIN.out.2, .inr ⟨HQ.out, b, F, G, rfl, hPq, HH.out⟩⟩⟩⟩
    · rw [decide_eq_false hq]
      have HQ : Hid (¬ (srtS ss).map ints = l) := hq
      clear hq
      go_wp2_with fail
      go_quiet (fail)
      go_wp2
      go_ret2
      exact ⟨hBq.trans ⟨rfl, rfl, rfl, Nat.le_refl _, fun _ _ => rfl⟩, .inr ⟨HOK.out.1, ts, HOK.out.2, .inr ⟨HH.out.notOver, ss, HIN.out.1, HIN.out.2, .inl ⟨HQ.out, rfl⟩⟩⟩⟩
  · have HOK : Hid (((∀ x ∈ l, SetOk x) ∧ ts.map ints = l.map srt) ∧ Over ts) := ⟨⟨hok, hts⟩, hov⟩
    clear hgat hok hts hov
    go_wp2
    go_ret2
    exact ⟨below_out (below_after hB2 (Below.refl _ w2)), .inr ⟨HOK.out.1.1, ts, HOK.out.1.2, .inl ⟨HOK.out.2, rfl⟩⟩⟩

end Go.Proofs.YtmndhclmhjmbpaaGreatDoor

namespace Go.Proofs.YtmndhclmhjmbpaaGreatDoor
open Go.RowKit Go.Sort Go.Maps Go.Deep

/-- The faces of the map are all faces. -/
structure Told (F : List (List UInt8)) (all : List (List Int)) : Prop where
  nodup : F.Nodup
  some_ : ∀ x ∈ F, x ≠ []
  short : ∀ x ∈ F, x.length ≤ 7
  few : F.length ≤ 600
  perm : (F.map ints).Perm all
  order : Order all

/-- A complex, and all its faces. -/
structure Good (l all : List (List Int)) : Prop where
  ok : ∀ x ∈ l, SetOk x
  few : ¬ Over (l.map srt)
  isAll : IsAll (l.map srt) all
  same : facetsI all = l
/-- No complex: the number of its error. -/
def BadAt (l : List (List Int)) (i : Nat) : Prop :=
  (i = 3 ∧ ¬ ∀ x ∈ l, SetOk x) ∨ (i = 1 ∧ (∀ x ∈ l, SetOk x) ∧ Over (l.map srt)) ∨ (i = 2 ∧ (∀ x ∈ l, SetOk x) ∧ ¬ Over (l.map srt) ∧ ∀ all, IsAll (l.map srt) all → ¬ facetsI all = l)

theorem BadAt.lt {l : List (List Int)} {i : Nat} (h : BadAt l i) : i < 8 := by
  rcases h with ⟨e, _⟩ | ⟨e, _⟩ | ⟨e, _⟩ <;> omega
theorem bad_one {l : List (List Int)} {i j : Nat} (h : BadAt l i) (h' : BadAt l j) : i = j := by
  rcases h with ⟨e, h1⟩ | ⟨e, h1, h2⟩ | ⟨e, h1, h2, _⟩ <;> rcases h' with ⟨e', h1'⟩ | ⟨e', h1', h2'⟩ | ⟨e', h1', h2', _⟩
  · omega
  · exact absurd h1' h1
  · exact absurd h1' h1
  · exact absurd h1 h1'
  · omega
  · exact absurd h2 h2'
  · exact absurd h1 h1'
  · exact absurd h2' h2
  · omega
theorem bad_good {l all : List (List Int)} {i : Nat} (h : BadAt l i) (g : Good l all) : False := by
  rcases h with ⟨_, h1⟩ | ⟨_, _, h2⟩ | ⟨_, _, _, h3⟩
  · exact h1 g.ok
  · exact g.few h2
  · exact h3 all g.isAll g.same
theorem all_one {ts all all' : List (List Int)} (h : IsAll ts all) (h' : IsAll ts all') : all = all' := order_told h.order h'.order (fun x => by rw [h.mem, h'.mem])
theorem good_one {l all all' : List (List Int)} (g : Good l all) (g' : Good l all') : all = all' := all_one g.isAll g'.isAll
theorem Good.length {l all : List (List Int)} (g : Good l all) : all.length ≤ 600 := by
  rcases Nat.lt_or_ge 600 all.length with h | h
  · exact absurd (.inr ⟨all, order_nodup g.isAll.order, h, fun x hx => (g.isAll.mem x).1 hx⟩) g.few
  · exact h
theorem Good.short {l all : List (List Int)} (g : Good l all) : ∀ x ∈ all, x.length ≤ 7 := all_short g.isAll g.few

theorem told_of {l all : List (List Int)} {ts F : List (List UInt8)} {G : List UInt8 → Prop} (hts : ts.map ints = l.map srt) (hH : Heaped ts F G) (hal : IsAll (l.map srt) all) : Told F all where
  nodup := (hH.pile 0).nodup
  some_ := (hH.pile 0).some_
  short := (hH.pile 0).short
  few := (hH.pile 0).few
  perm := perm_all (hH.pile 0).nodup hH.mem (by rw [hts]; exact hal)
  order := hal.order
theorem all_of {l : List (List Int)} {ts F : List (List UInt8)} {G : List UInt8 → Prop} (hts : ts.map ints = l.map srt) (hH : Heaped ts F G) : IsAll (l.map srt) ((srtS F).map ints) where
  order := sorted_order (hH.pile 0).nodup
  mem := fun y => by
    rw [← hts, List.mem_map]
    constructor
    · rintro ⟨x, hx, rfl⟩
      exact face_ints.2 ((hH.mem x).1 ((List.mergeSort_perm F _).mem_iff.1 hx))
    · intro hy
      obtain ⟨x, rfl⟩ := face_from hy
      exact ⟨x, (List.mergeSort_perm F _).mem_iff.2 ((hH.mem x).2 (face_ints.1 hy)), rfl⟩
theorem inner_of {l all : List (List Int)} {ts F : List (List UInt8)} {G : List UInt8 → Prop} (hok : ∀ x ∈ l, SetOk x) (hts : ts.map ints = l.map srt) (hH : Heaped ts F G) (hal : IsAll (l.map srt) all) :
    ∀ x ∈ F, G x ↔ innerB all (ints x) = true := fun x hx => by
  have hr : ∀ t ∈ l.map srt, Rising t := fun t ht => by obtain ⟨y, hy, rfl⟩ := List.mem_map.1 ht; exact srt_rising (hok y hy).2.1
  have hm : ints x ∈ all := by rw [hal.mem, ← hts]; exact face_ints.2 ((hH.mem x).1 hx)
  rw [innerB_iff hr hal hm, hH.memG, ← hts, inner_ints]

/-- What open answers, in one way. -/
def OpenG (a : Nat → Addr) (l : List (List Int)) (w : World) (e : Ending) (w' : World) : Prop :=
  Below w.heap.size w w' ∧ ((∃ i, BadAt l i ∧ e = .returned (.tuple #[.map none, .iface 233 (.pointer (some (a i)))])) ∨
    ∃ all b F G, Good l all ∧ Told F all ∧ e = .returned (.tuple #[.map (some b), .nilIface]) ∧ PileAt w' b F G ∧ ∀ x ∈ F, G x ↔ innerB all (ints x) = true)

theorem open_g {a : Nat → Addr} {s : Nat → ByteArray} (vl : Value) (l : List (List Int)) (w : World) (hE : Errs a s w) (hl : Rows w vl l) (hll : l.length ≤ 100000) (hle : ∀ x ∈ l, x.length ≤ 1000) :
    Calls Tryz.prog 36 #[.agg #[vl]] w fun e w' => OpenG a l w e w' := by
  refine (open_c vl l w hE hl hll hle).mono ?_
  rintro e w' ⟨hB, ⟨hno, rfl⟩ | ⟨hok, ts, hts, ⟨hov, rfl⟩ | ⟨hno, ss, h2, h3, ⟨hne, rfl⟩ | ⟨heq, b, F, G, rfl, hP, hH⟩⟩⟩⟩
  · exact ⟨hB, .inl ⟨3, .inl ⟨rfl, hno⟩, rfl⟩⟩
  · exact ⟨hB, .inl ⟨1, .inr (.inl ⟨rfl, hok, over_back hts hov⟩), rfl⟩⟩
  · exact ⟨hB, .inl ⟨2, .inr (.inr ⟨rfl, hok, fun h => hno (over_told hts h), fun all hal h => hne ((told_same hok hts h2 h3 hal).trans h)⟩), rfl⟩⟩
  · have hal := all_of hts hH
    exact ⟨hB, .inr ⟨_, b, F, G, ⟨hok, fun h => hno (over_told hts h), hal, (told_same hok hts h2 h3 hal).symm.trans heq⟩, told_of hts hH hal, rfl, hP, inner_of hok hts hH hal⟩⟩

/-- What ComplexError answers, in one way. -/
def ErrorG (l : List (List Int)) (w : World) (e : Ending) (w' : World) : Prop :=
  Below w.heap.size w w' ∧ ((∃ i : Nat, BadAt l i ∧ e = .returned (.int .i64 ((i : Int) + 1))) ∨ ∃ all, Good l all ∧ e = .returned (.int .i64 0))
theorem error_g (CL : ClosedHolds) (vl : Value) (l : List (List Int)) (w : World) (hl : Rows w vl l) (hll : l.length ≤ 100000) (hle : ∀ x ∈ l, x.length ≤ 1000) :
    Calls Tryz.prog 15 #[vl] w fun e w' => ErrorG l w e w' := by
  refine (complex_error CL vl l w hl hll hle).mono ?_
  rintro e w' ⟨hB, ⟨hno, rfl⟩ | ⟨hok, hov, rfl⟩ | ⟨hok, hov, all, hal, ⟨hne, rfl⟩ | ⟨heq, rfl⟩⟩⟩
  · exact ⟨hB, .inl ⟨3, .inl ⟨rfl, hno⟩, rfl⟩⟩
  · exact ⟨hB, .inl ⟨1, .inr (.inl ⟨rfl, hok, hov⟩), rfl⟩⟩
  · exact ⟨hB, .inl ⟨2, .inr (.inr ⟨rfl, hok, hov, fun all' hal' h => hne (by rw [all_one hal hal']; exact h.symm)⟩), rfl⟩⟩
  · exact ⟨hB, .inr ⟨all, ⟨hok, hov, hal, heq.symm⟩, rfl⟩⟩

theorem closed_g (CL : ClosedHolds) (vl : Value) (l all : List (List Int)) (w : World) (hl : Rows w vl l) (hll : l.length ≤ 100000) (hle : ∀ x ∈ l, x.length ≤ 1000) (hg : Good l all) :
    Calls Tryz.prog 16 #[vl] w fun e w' => ∃ v, e = .returned (.tuple #[v, .int .i64 0]) ∧ Rows w' v all ∧ Below w.heap.size w w' := by
  refine (CL vl l w hl hll hle).mono ?_
  rintro e w' ⟨hB, ⟨hno, rfl⟩ | ⟨hok, hov, rfl⟩ | ⟨hok, hov, v, all', rfl, hr0, hal, h6⟩⟩
  · exact absurd hg.ok hno
  · exact absurd hov hg.few
  · have hr := hr0.any
    rw [all_one hal hg.isAll] at hr
    exact ⟨v, rfl, hr, hB⟩

theorem told_dim {F : List (List UInt8)} {all : List (List Int)} (h : Told F all) {ss : List (List UInt8)} (hn : ss.Nodup) {dim : Int} (hm : ∀ x, x ∈ ss ↔ x ∈ F ∧ (x.length : Int) - 1 = dim) : (srtS ss).map ints = ofDim all dim := by
  refine order_told (sorted_order hn) (h.order.filter _) (fun y => ?_)
  rw [ofDim, List.mem_filter, ← h.perm.mem_iff, List.mem_map, List.mem_map]
  constructor
  · rintro ⟨x, hx, rfl⟩
    have := (hm x).1 ((List.mergeSort_perm ss _).mem_iff.1 hx)
    exact ⟨⟨x, this.1, rfl⟩, by rw [ints_length]; exact decide_eq_true this.2⟩
  · rintro ⟨⟨x, hx, rfl⟩, b⟩
    rw [ints_length] at b
    exact ⟨x, (List.mergeSort_perm ss _).mem_iff.2 ((hm x).2 ⟨hx, of_decide_eq_true b⟩), rfl⟩
theorem Told.vec {F : List (List UInt8)} {all : List (List Int)} (h : Told F all) : vecOf F = vecOf all := by rw [← vecOf_perm h.perm, vecOf_ints]
theorem Told.top {F : List (List UInt8)} {all : List (List Int)} (h : Told F all) : topN F = topN all := by rw [← topN_perm h.perm, topN_ints]
theorem Told.euler {F : List (List UInt8)} {all : List (List Int)} (h : Told F all) : altTo (vecOf F) (vecOf F).length = eulerOf all := by rw [alt_euler h.some_, ← eulerOf_perm h.perm, eulerOf_ints]

end Go.Proofs.YtmndhclmhjmbpaaGreatDoor
