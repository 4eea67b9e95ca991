/- A complex that was handed in: which error it has, or all its faces: what open, ComplexError and Closed answer of it, in one way. What is told of sets in one way, with an error or none. Small numbers are not wrapped. Rows of the field of two elements: one word at most. -/
import Derived.Test.YtldknhganoiajaaGreatDoorOpen
import Derived.Test.YtldknhganoiajaaGreatDoorMade
import Derived.Test.YtldknhganoiajaaGreatDoorBase
import Derived.Test.YtldknhganoiajaaGreatDoorCupLaid
import Derived.Deep.OwnRows
import Derived.Laws.Bits64
import Derived.Laws.Bits64b
namespace Go.Proofs.YtldknhganoiajaaGreatDoor
open Go.RowKit Go.Sort Go.Maps Go.Deep

/-- The faces of the map are all faces. -/
structure Told (F : List (List UInt8)) (all : List (List Int)) : Prop where
  nodup : F.Nodup
  some_ : ∀ x ∈ F, x ≠ []
  short : ∀ x ∈ F, x.length ≤ 7
  few : F.length ≤ 600
  perm : (F.map ints).Perm all
  order : Order all

/-- A complex, and all its faces. -/
structure Good (l all : List (List Int)) : Prop where
  ok : ∀ x ∈ l, SetOk x
  few : ¬ Over (l.map srt)
  isAll : IsAll (l.map srt) all
  same : facetsI all = l
/-- No complex: the number of its error. -/
def BadAt (l : List (List Int)) (i : Nat) : Prop :=
  (i = 3 ∧ ¬ ∀ x ∈ l, SetOk x) ∨ (i = 1 ∧ (∀ x ∈ l, SetOk x) ∧ Over (l.map srt)) ∨ (i = 2 ∧ (∀ x ∈ l, SetOk x) ∧ ¬ Over (l.map srt) ∧ ∀ all, IsAll (l.map srt) all → ¬ facetsI all = l)

theorem BadAt.lt {l : List (List Int)} {i : Nat} (h : BadAt l i) : i < 8 := by
  rcases h with ⟨e, _⟩ | ⟨e, _⟩ | ⟨e, _⟩ <;> omega
theorem bad_one {l : List (List Int)} {i j : Nat} (h : BadAt l i) (h' : BadAt l j) : i = j := by
  rcases h with ⟨e, h1⟩ | ⟨e, h1, h2⟩ | ⟨e, h1, h2, _⟩ <;> rcases h' with ⟨e', h1'⟩ | ⟨e', h1', h2'⟩ | ⟨e', h1', h2', _⟩
  · omega
  · exact absurd h1' h1
  · exact absurd h1' h1
  · exact absurd h1 h1'
  · omega
  · exact absurd h2 h2'
  · exact absurd h1 h1'
  · exact absurd h2' h2
  · omega
theorem bad_good {l all : List (List Int)} {i : Nat} (h : BadAt l i) (g : Good l all) : False := by
  rcases h with ⟨_, h1⟩ | ⟨_, _, h2⟩ | ⟨_, _, _, h3⟩
  · exact h1 g.ok
  · exact g.few h2
  · exact h3 all g.isAll g.same
theorem all_one {ts all all' : List (List Int)} (h : IsAll ts all) (h' : IsAll ts all') : all = all' := order_told h.order h'.order (fun x => by rw [h.mem, h'.mem])
theorem good_one {l all all' : List (List Int)} (g : Good l all) (g' : Good l all') : all = all' := all_one g.isAll g'.isAll
theorem Good.length {l all : List (List Int)} (g : Good l all) : all.length ≤ 600 := by
  rcases Nat.lt_or_ge 600 all.length with h | h
  · exact absurd (.inr ⟨all, order_nodup g.isAll.order, h, fun x hx => (g.isAll.mem x).1 hx⟩) g.few
  · exact h
theorem Good.short {l all : List (List Int)} (g : Good l all) : ∀ x ∈ all, x.length ≤ 7 := all_short g.isAll g.few

theorem told_of {l all : List (List Int)} {ts F : List (List UInt8)} {G : List UInt8 → Prop} (hts : ts.map ints = l.map srt) (hH : Heaped ts F G) (hal : IsAll (l.map srt) all) : Told F all where
  nodup := (hH.pile 0).nodup
  some_ := (hH.pile 0).some_
  short := (hH.pile 0).short
  few := (hH.pile 0).few
  perm := perm_all (hH.pile 0).nodup hH.mem (by rw [hts]; exact hal)
  order := hal.order
theorem all_of {l : List (List Int)} {ts F : List (List UInt8)} {G : List UInt8 → Prop} (hts : ts.map ints = l.map srt) (hH : Heaped ts F G) : IsAll (l.map srt) ((srtS F).map ints) where
  order := sorted_order (hH.pile 0).nodup
  mem := fun y => by
    rw [← hts, List.mem_map]
    constructor
    · rintro ⟨x, hx, rfl⟩
      exact face_ints.2 ((hH.mem x).1 ((List.mergeSort_perm F _).mem_iff.1 hx))
    · intro hy
      obtain ⟨x, rfl⟩ := face_from hy
      exact ⟨x, (List.mergeSort_perm F _).mem_iff.2 ((hH.mem x).2 (face_ints.1 hy)), rfl⟩
theorem inner_of {l all : List (List Int)} {ts F : List (List UInt8)} {G : List UInt8 → Prop} (hok : ∀ x ∈ l, SetOk x) (hts : ts.map ints = l.map srt) (hH : Heaped ts F G) (hal : IsAll (l.map srt) all) :
    ∀ x ∈ F, G x ↔ innerB all (ints x) = true := fun x hx => by
  have hr : ∀ t ∈ l.map srt, Rising t := fun t ht => by obtain ⟨y, hy, rfl⟩ := List.mem_map.1 ht; exact srt_rising (hok y hy).2.1
  have hm : ints x ∈ all := by rw [hal.mem, ← hts]; exact face_ints.2 ((hH.mem x).1 hx)
  rw [innerB_iff hr hal hm, hH.memG, ← hts, inner_ints]

/-- What open answers, in one way. -/
def OpenG (a : Nat → Addr) (l : List (List Int)) (w : World) (e : Ending) (w' : World) : Prop :=
  Below w.heap.size w w' ∧ ((∃ i, BadAt l i ∧ e = .returned (.tuple #[.map none, .iface 179 (.pointer (some (a i)))])) ∨
    ∃ all b F G, Good l all ∧ Told F all ∧ e = .returned (.tuple #[.map (some b), .nilIface]) ∧ PileAt w' b F G ∧ ∀ x ∈ F, G x ↔ innerB all (ints x) = true)

theorem open_g {a : Nat → Addr} {s : Nat → ByteArray} (vl : Value) (l : List (List Int)) (w : World) (hE : Errs a s w) (hl : Rows w vl l) (hll : l.length ≤ 100000) (hle : ∀ x ∈ l, x.length ≤ 1000) :
    Calls Tryz.prog 56 #[.agg #[vl]] w fun e w' => OpenG a l w e w' := by
  refine (open_c vl l w hE hl hll hle).mono ?_
  rintro e w' ⟨hB, ⟨hno, rfl⟩ | ⟨hok, ts, hts, ⟨hov, rfl⟩ | ⟨hno, ss, h2, h3, ⟨hne, rfl⟩ | ⟨heq, b, F, G, rfl, hP, hH⟩⟩⟩⟩
  · exact ⟨hB, .inl ⟨3, .inl ⟨rfl, hno⟩, rfl⟩⟩
  · exact ⟨hB, .inl ⟨1, .inr (.inl ⟨rfl, hok, over_back hts hov⟩), rfl⟩⟩
  · exact ⟨hB, .inl ⟨2, .inr (.inr ⟨rfl, hok, fun h => hno (over_told hts h), fun all hal h => hne ((told_same hok hts h2 h3 hal).trans h)⟩), rfl⟩⟩
  · have hal := all_of hts hH
    exact ⟨hB, .inr ⟨_, b, F, G, ⟨hok, fun h => hno (over_told hts h), hal, (told_same hok hts h2 h3 hal).symm.trans heq⟩, told_of hts hH hal, rfl, hP, inner_of hok hts hH hal⟩⟩

/-- What ComplexError answers, in one way. -/
def ErrorG (l : List (List Int)) (w : World) (e : Ending) (w' : World) : Prop :=
  Below w.heap.size w w' ∧ ((∃ i : Nat, BadAt l i ∧ e = .returned (.int .i64 ((i : Int) + 1))) ∨ ∃ all, Good l all ∧ e = .returned (.int .i64 0))
theorem error_g (CL : ClosedHolds) (vl : Value) (l : List (List Int)) (w : World) (hl : Rows w vl l) (hll : l.length ≤ 100000) (hle : ∀ x ∈ l, x.length ≤ 1000) :
    Calls Tryz.prog 6 #[vl] w fun e w' => ErrorG l w e w' := by
  refine (complex_error CL vl l w hl hll hle).mono ?_
  rintro e w' ⟨hB, ⟨hno, rfl⟩ | ⟨hok, hov, rfl⟩ | ⟨hok, hov, all, hal, ⟨hne, rfl⟩ | ⟨heq, rfl⟩⟩⟩
  · exact ⟨hB, .inl ⟨3, .inl ⟨rfl, hno⟩, rfl⟩⟩
  · exact ⟨hB, .inl ⟨1, .inr (.inl ⟨rfl, hok, hov⟩), rfl⟩⟩
  · exact ⟨hB, .inl ⟨2, .inr (.inr ⟨rfl, hok, hov, fun all' hal' h => hne (by rw [all_one hal hal']; exact h.symm)⟩), rfl⟩⟩
  · exact ⟨hB, .inr ⟨all, ⟨hok, hov, hal, heq.symm⟩, rfl⟩⟩

theorem closed_g (CL : ClosedHolds) (vl : Value) (l all : List (List Int)) (w : World) (hl : Rows w vl l) (hll : l.length ≤ 100000) (hle : ∀ x ∈ l, x.length ≤ 1000) (hg : Good l all) :
    Calls Tryz.prog 10 #[vl] w fun e w' => ∃ v, e = .returned (.tuple #[v, .int .i64 0]) ∧ Rows w' v all ∧ Below w.heap.size w w' := by
  refine (CL vl l w hl hll hle).mono ?_
  rintro e w' ⟨hB, ⟨hno, rfl⟩ | ⟨hok, hov, rfl⟩ | ⟨hok, hov, v, all', rfl, hr0, hal, h6⟩⟩
  · exact absurd hg.ok hno
  · exact absurd hov hg.few
  · have hr := hr0.any
    rw [all_one hal hg.isAll] at hr
    exact ⟨v, rfl, hr, hB⟩

theorem told_dim {F : List (List UInt8)} {all : List (List Int)} (h : Told F all) {ss : List (List UInt8)} (hn : ss.Nodup) {dim : Int} (hm : ∀ x, x ∈ ss ↔ x ∈ F ∧ (x.length : Int) - 1 = dim) : (srtS ss).map ints = ofDim all dim := by
  refine order_told (sorted_order hn) (h.order.filter _) (fun y => ?_)
  rw [ofDim, List.mem_filter, ← h.perm.mem_iff, List.mem_map, List.mem_map]
  constructor
  · rintro ⟨x, hx, rfl⟩
    have := (hm x).1 ((List.mergeSort_perm ss _).mem_iff.1 hx)
    exact ⟨⟨x, this.1, rfl⟩, by rw [ints_length]; exact decide_eq_true this.2⟩
  · rintro ⟨⟨x, hx, rfl⟩, b⟩
    rw [ints_length] at b
    exact ⟨x, (List.mergeSort_perm ss _).mem_iff.2 ((hm x).2 ⟨hx, of_decide_eq_true b⟩), rfl⟩
theorem Told.vec {F : List (List UInt8)} {all : List (List Int)} (h : Told F all) : vecOf F = vecOf all := by rw [← vecOf_perm h.perm, vecOf_ints]
theorem Told.top {F : List (List UInt8)} {all : List (List Int)} (h : Told F all) : topN F = topN all := by rw [← topN_perm h.perm, topN_ints]
theorem Told.euler {F : List (List UInt8)} {all : List (List Int)} (h : Told F all) : altTo (vecOf F) (vecOf F).length = eulerOf all := by rw [alt_euler h.some_, ← eulerOf_perm h.perm, eulerOf_ints]

end Go.Proofs.YtldknhganoiajaaGreatDoor

namespace Go.Proofs.YtldknhganoiajaaGreatDoor
open Go.RowKit Go.Sort Go.Maps Go.Deep

/-- A face as it is told: a set whose numbers rise. -/
def FaceOk (f : List Int) : Prop := SetOk f ∧ Rising f

theorem face_ok_of {l all : List (List Int)} {f : List Int} (g : Good l all) (hf : f ∈ all) : FaceOk f := by
  obtain ⟨h1, t, ht, hs⟩ := (g.isAll.mem f).1 hf
  obtain ⟨y, hy, rfl⟩ := List.mem_map.1 ht
  have hok := g.ok y hy
  have hr := (srt_rising hok.2.1).sublist hs
  exact ⟨⟨h1, hr.imp (fun h => Int.ne_of_lt h), fun v hv => hok.2.2 v ((srt_mem y v).1 (hs.subset hv))⟩, hr⟩
theorem mem_told {F : List (List UInt8)} {all : List (List Int)} (h : Told F all) (t : List UInt8) : t ∈ F ↔ ints t ∈ all := by
  rw [← h.perm.mem_iff, List.mem_map]
  exact ⟨fun hm => ⟨t, hm, rfl⟩, fun ⟨x, hx, e⟩ => by rw [← ints_inj e]; exact hx⟩

/-- What is told of sets: the error's value and number, and all faces (none where there is an error). -/
def Kind (a : Nat → Addr) (l : List (List Int)) (ve : Value) (n : Int) (all : List (List Int)) : Prop :=
  (∃ i : Nat, BadAt l i ∧ ve = .iface 179 (.pointer (some (a i))) ∧ n = (i : Int) + 1 ∧ all = []) ∨ (Good l all ∧ ve = .nilIface ∧ n = 0)

theorem Kind.length {a : Nat → Addr} {l all : List (List Int)} {ve : Value} {n : Int} (h : Kind a l ve n all) : all.length ≤ 600 := by
  rcases h with ⟨i, _, _, _, rfl⟩ | ⟨g, _, _⟩
  · simp
  · exact g.length
theorem Kind.short {a : Nat → Addr} {l all : List (List Int)} {ve : Value} {n : Int} (h : Kind a l ve n all) : ∀ x ∈ all, x.length ≤ 7 := by
  rcases h with ⟨i, _, _, _, rfl⟩ | ⟨g, _, _⟩
  · intro x hx; cases hx
  · exact g.short
theorem rows_nil (w : World) : Rows w (.slice none 0 0) [] := ⟨[], SliceIn.nil _ _, rfl, fun k u x hu => by simp at hu⟩

/-- A slice of no elements in a block of its own. -/
theorem own_empty (w : World) (t : TypeId) (base : Nat) (hb : base ≤ w.heap.size) : (w.alloc (.cells #[] t)).ownsRow base t 1 (.slice (some ⟨w.heap.size, 0, none⟩) 0 0) 0 [] :=
  ⟨rfl, .inr ⟨w.heap.size, 0, #[], rfl, hb, World.alloc_heap_new w _, Nat.le_refl _, Nat.zero_le _, rfl, rfl⟩⟩

end Go.Proofs.YtldknhganoiajaaGreatDoor

namespace Go.Proofs.YtldknhganoiajaaGreatDoor
open Go.RowKit

theorem wrapI {x : Int} (h0 : -10000000 ≤ x) (h1 : x ≤ 10000000) : IntKind.i64.wrap x = x := by rw [IntKind.wrap_i64]; omega
theorem Hid.mk' {p : Prop} (h : p) : Hid p := h

end Go.Proofs.YtldknhganoiajaaGreatDoor

namespace Go.Proofs.YtldknhganoiajaaGreatDoor
open Go.RowKit Go.Sort

/-- A row of n numbers as a word, in a block of S that may be written. -/
def WordIn (S : Nat → Prop) (W : World) (v : Value) (n x : Nat) : Prop :=
  x < 2 ^ n ∧ n ≤ 64 ∧ ((n = 0 ∧ ∃ a c, v = .slice a 0 c) ∨ (0 < n ∧ ∃ b c, v = .slice (some ⟨b, 0, none⟩) 1 c ∧ 1 ≤ c ∧ S b ∧ b < W.heap.size ∧ W.cell? ⟨b, 0, none⟩ = some (.int .u64 (x : Int)) ∧ W.frozen? ⟨b, 0, none⟩ = false))
theorem WordIn.lt {S : Nat → Prop} {W : World} {v : Value} {n x : Nat} (h : WordIn S W v n x) : x < 2 ^ 64 := Nat.lt_of_lt_of_le h.1 (Nat.pow_le_pow_right (by decide) h.2.1)
theorem WordIn.mono {S S' : Nat → Prop} {W : World} {v : Value} {n x : Nat} (h : WordIn S W v n x) (hs : ∀ b, b < W.heap.size → S b → S' b) : WordIn S' W v n x := by
  obtain ⟨h1, h2, h3 | ⟨h3, b, c, e, hc, hb, hl, h4⟩⟩ := h
  · exact ⟨h1, h2, .inl h3⟩
  · exact ⟨h1, h2, .inr ⟨h3, b, c, e, hc, hs b hl hb, hl, h4⟩⟩
theorem WordIn.any {S : Nat → Prop} {W : World} {v : Value} {n x : Nat} (h : WordIn S W v n x) : WordIn anyBlock W v n x := h.mono fun _ _ _ => trivial
theorem WordIn.keep {S : Nat → Prop} {W W' : World} {v : Value} {n x : Nat} (h : WordIn S W v n x) (hz : W.heap.size ≤ W'.heap.size) (hk : ∀ b, b < W.heap.size → S b → W'.heap[b]? = W.heap[b]?) : WordIn S W' v n x := by
  obtain ⟨h1, h2, h3 | ⟨h3, b, c, e, hc, hb, hl, h4, h5⟩⟩ := h
  · exact ⟨h1, h2, .inl h3⟩
  · exact ⟨h1, h2, .inr ⟨h3, b, c, e, hc, hb, by omega, by rw [World.cell?_of_block (hk b hl hb)]; exact h4, by rw [World.frozen?_of_block (hk b hl hb)]; exact h5⟩⟩
theorem WordIn.below {S : Nat → Prop} {W W' : World} {v : Value} {n x : Nat} (h : WordIn S W v n x) (hB : Below W.heap.size W W') : WordIn S W' v n x := h.keep hB.size (fun b hl _ => hB.block b hl)
theorem WordIn.form {S : Nat → Prop} {W : World} {v : Value} {n x : Nat} (h : WordIn S W v n x) : ∃ a m c, v = .slice a m c := by
  obtain ⟨-, -, ⟨-, a, c, e⟩ | ⟨-, b, c, e, -⟩⟩ := h
  · exact ⟨a, 0, c, e⟩
  · exact ⟨_, 1, c, e⟩
theorem WordIn.zero {S : Nat → Prop} {W : World} {v : Value} {x : Nat} (h : WordIn S W v 0 x) : x = 0 := by have := h.1; simpa using this

theorem Tryz.infow : (Tryz.prog.info? 99).map (fun i => (i.zero, i.size, i.bytes)) = some (some (.int .u64 0), 1, 8) := by kernel_rfl

set_option maxRecDepth 100000 in
theorem newRow_ (n : Nat) (hn : n ≤ 60) (w : World) :
    Calls Tryz.prog 51 #[.int .i64 (n : Int)] w fun e w' => ∃ v, e = .returned v ∧ WordIn (fun b => w.heap.size ≤ b) w' v n 0 ∧ Below w.heap.size w w' := by
  have hB : ∀ o, Below w.heap.size w (w.alloc o) := fun o => (Below.refl _ w).alloc (Nat.le_refl _) o
  have hm0 : ∀ V, (Instr.makeSlice 68 (.int .i64 0) (.int .i64 0)).run Tryz.prog V = .ok (.slice (some ⟨V.heap.size, 0, none⟩) 0 0) (V.alloc (.cells (madeCells #[.int .u64 0] 0) 99)) := fun V => run_make_row' (P := Tryz.prog) 68 99 (.int .u64 0) 8 Tryz.underlying68 Tryz.infow rfl .i64 .i64 0 (by omega) (by omega) V
  have hm1 : ∀ V, (Instr.makeSlice 68 (.int .i64 1) (.int .i64 1)).run Tryz.prog V = .ok (.slice (some ⟨V.heap.size, 0, none⟩) 1 1) (V.alloc (.cells (madeCells #[.int .u64 0] 1) 99)) := fun V => run_make_row' (P := Tryz.prog) 68 99 (.int .u64 0) 8 Tryz.underlying68 Tryz.infow rfl .i64 .i64 1 (by omega) (by omega) V
  have hr0 : (w.alloc (.cells (madeCells #[.int .u64 0] 1) 99)).rowIs w.heap.size 99 1 (fun _ => .int .u64 0) := World.rowIs_made w (.int .u64 0) 1 99
  have c1 := hr0.cell (show 0 < 1 by omega)
  have c2 := hr0.frozen 0
  have HC := Hid.mk' (And.intro c1 c2)
  clear hr0 c1 c2
  rcases Nat.eq_zero_or_pos n with h0 | h0
  · subst h0
    go_enter Tryz.func51, Tryz.ntmps51
    go_wp2_with fail
    go_ret
    exact ⟨_, rfl, ⟨by simp, by omega, .inl ⟨rfl, _, _, rfl⟩⟩, hB _⟩
  · have e1 : ((n : Int) + 63) / 64 = 1 := by omega
    have e2 : ((n : Int) + 63).tdiv 64 = 1 := by rw [Int.tdiv_eq_ediv_of_nonneg (by omega)]; exact e1
    go_enter Tryz.func51, Tryz.ntmps51
    go_wp2_with fail
    go_ret
    exact ⟨_, rfl, ⟨Nat.pow_pos (by decide), by omega, .inr ⟨h0, _, _, rfl, Nat.le_refl _, Nat.le_refl _, by simp, HC.out.1, HC.out.2⟩⟩, hB _⟩

end Go.Proofs.YtldknhganoiajaaGreatDoor
