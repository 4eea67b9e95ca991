/- What the reference's Made answers, where Closed answers as it should. What the statements' Few answers: true only of few sets of few numbers each; nothing is written. What the reference's Made, ComplexError and the statements' Little answer, where Closed answers as it should. A complex that was handed in: which error it has, or all its faces: what open, ComplexError and Closed answer of it, in one way. What is told of sets in one way, with an error or none. Stars, links and skeletons: what the facets around a face tell and what the reference tells are the same. Variables laid one behind the other; what is told of a part of a complex. What sign answers. -/
import Derived.Test.YtnnkmkhamipfiaaGreatDoorFacetsOf
import Derived.Test.YtnnkmkhamipfiaaGreatDoorParts
import Derived.Test.YtnnkmkhamipfiaaGreatDoorLists
import Derived.Test.YtnnkmkhamipfiaaGreatDoorPut
import Derived.Test.YtnnkmkhamipfiaaGreatDoorHeap
import Derived.Test.YtnnkmkhamipfiaaGreatDoorCode
import Derived.Test.YtnnkmkhamipfiaaGreatDoorMorseMath
import Derived.WalkKit
namespace Go.Proofs.YtnnkmkhamipfiaaGreatDoor
open Go.RowKit Go.Sort

/-- What Made answers. -/
def MadeSays (l : List (List Int)) (w : World) (e : Ending) (w' : World) : Prop :=
  Below w.heap.size w w' ∧
    ((¬ (∀ x ∈ l, SetOk x) ∧ e = .returned (.tuple #[.slice none 0 0, .int .i64 4])) ∨
     ((∀ x ∈ l, SetOk x) ∧ Over (l.map srt) ∧ e = .returned (.tuple #[.slice none 0 0, .int .i64 2])) ∨
     ((∀ x ∈ l, SetOk x) ∧ ¬ Over (l.map srt) ∧ ∃ v all, e = .returned (.tuple #[v, .int .i64 0]) ∧ Rows w' v (facetsI all) ∧ IsAll (l.map srt) all ∧ all.length ≤ 600))

theorem all_short {ts all : List (List Int)} (h : IsAll ts all) (hn : ¬ Over ts) : ∀ x ∈ all, x.length ≤ 7 := fun x hx => by
  obtain ⟨_, t, ht, hs⟩ := (h.mem x).1 hx
  have := hs.length_le
  rcases Nat.lt_or_ge 7 t.length with h7 | h7
  · exact absurd (.inl ⟨t, ht, h7⟩) hn
  · omega

set_option maxRecDepth 100000 in
theorem made_ (CL : ClosedHolds) (vl : Value) (l : List (List Int)) (w : World) (hl : Rows w vl l) (hll : l.length ≤ 100000) (hle : ∀ x ∈ l, x.length ≤ 1000) :
    Calls Tryz.prog 30 #[vl] w fun e w' => MadeSays l w e w' := by
  have hcl := CL vl l w hl hll hle
  clear CL hl
  go_enter Tryz.func30, Tryz.ntmps30
  go_wp2_with fail
  refine hcl.mono ?_
  rintro e w2 ⟨hB, ⟨hno, rfl⟩ | ⟨hok, hov, rfl⟩ | ⟨hok, hov, v, all, rfl, hr0, hal, h6⟩⟩
  · clear hcl
    go_wp2
    go_ret2
    exact ⟨hB, .inl ⟨hno, rfl⟩⟩
  · clear hcl
    go_wp2
    go_ret2
    exact ⟨hB, .inr (.inl ⟨hok, hov, rfl⟩)⟩
  · have hr := hr0.any
    have hsh := all_short hal hov
    have hfo := facets_of v all w2 hr (by omega) (fun x hx => by have := hsh x hx; omega)
    have H : Hid ((∀ x ∈ l, SetOk x) ∧ ¬ Over (l.map srt) ∧ IsAll (l.map srt) all) := ⟨hok, hov, hal⟩
    clear hcl hok hov hal hsh hr
    go_wp2_with fail
    refine hfo.mono ?_
    rintro e w3 ⟨v3, rfl, h3, hB3⟩
    clear hfo
    go_wp2
    go_ret2
    exact ⟨hB.trans (hB3.mono hB.size), .inr (.inr ⟨H.out.1, H.out.2.1, v3, all, rfl, h3, H.out.2.2, h6⟩)⟩

end Go.Proofs.YtnnkmkhamipfiaaGreatDoor

namespace Go.Proofs.YtnnkmkhamipfiaaGreatDoor
open Go.RowKit Go.Sort

theorem take_all {l : List (List Int)} {k m : Nat} (hk : k < l.length) (h : ∀ x ∈ l.take k, x.length ≤ m) (hx : (l[k]?.getD []).length ≤ m) : ∀ x ∈ l.take (k + 1), x.length ≤ m := by
  rw [List.getElem?_eq_getElem hk, Option.getD_some] at hx
  rw [List.take_add_one, List.getElem?_eq_getElem hk]
  intro x hm
  rcases List.mem_append.1 hm with a | a
  · exact h x a
  · simp at a; subst a; exact hx

set_option maxRecDepth 100000 in
theorem few_ (vl : Value) (l : List (List Int)) (w : World) (hl : Rows w vl l) :
    Calls Tryz.prog 29 #[vl] w fun e w' => ∃ q : Bool, e = .returned (.bool q) ∧ w' = w ∧ (q = true → l.length ≤ 40 ∧ ∀ x ∈ l, x.length ≤ 12) := by
  obtain ⟨a, ca, rfl, -, ha⟩ := hl.open_
  by_cases h40 : 40 < l.length
  · clear ha
    go_enter Tryz.func29, Tryz.ntmps29
    go_wp2
    go_ret
    exact ⟨false, rfl, rfl, fun h => by cases h⟩
  · go_enter Tryz.func29, Tryz.ntmps29
    go_wp2
    go_loopw [3, 4] (fun v p W => ∃ k n : Nat, k ≤ l.length ∧ p = .int .i64 k ∧ v = .int .i64 n ∧ n ≤ 12 * k ∧ W = w ∧ ∀ x ∈ l.take k, x.length ≤ 12) (fun _ p _ => l.length - (intOf p).toNat)
    case atStart => exact ⟨0, 0, by omega, rfl, rfl, by omega, rfl, by simp⟩
    case round =>
      obtain ⟨k, n, hk, rfl, rfl, hn, rfl, hall⟩ := hrel
      have HA : Hid (∀ x ∈ l.take k, x.length ≤ 12) := hall
      clear hall
      by_cases hlt : k < l.length
      · obtain ⟨b, o, rfl, -, -, c⟩ := ha (by omega)
        obtain ⟨a1, p1, g1, i1⟩ := c k hlt
        obtain ⟨x, hxe⟩ : ∃ x, l[k]?.getD [] = x := ⟨_, rfl⟩
        rw [hxe] at g1
        have HX : Hid (l[k]?.getD [] = x) := hxe
        clear c i1 hxe ha
        by_cases h12 : 12 < x.length
        · go_wp2
          go_ret
          exact ⟨false, rfl, rfl, fun h => by cases h⟩
        · go_wp2
          go_roundw
          case rel => exact ⟨k + 1, n + x.length, by omega, by go_num, by go_num, by omega, (by first | trivial | rfl), take_all hlt HA.out (by rw [HX.out]; omega)⟩
          case measure => simp [intOf]; omega
      · obtain rfl : k = l.length := by omega
        have hall := HA.out
        rw [List.take_length] at hall
        have HF : Hid (∀ x ∈ l, x.length ≤ 12) := hall
        clear ha hall
        go_wp2
        go_ret
        exact ⟨_, rfl, rfl, fun _ => ⟨by omega, HF.out⟩⟩

end Go.Proofs.YtnnkmkhamipfiaaGreatDoor

namespace Go.Proofs.YtnnkmkhamipfiaaGreatDoor
open Go.RowKit Go.Sort

/-- What ComplexError answers. -/
def ErrorSays (l : List (List Int)) (w : World) (e : Ending) (w' : World) : Prop :=
  Below w.heap.size w w' ∧
    ((¬ (∀ x ∈ l, SetOk x) ∧ e = .returned (.int .i64 4)) ∨ ((∀ x ∈ l, SetOk x) ∧ Over (l.map srt) ∧ e = .returned (.int .i64 2)) ∨
     ((∀ x ∈ l, SetOk x) ∧ ¬ Over (l.map srt) ∧ ∃ all, IsAll (l.map srt) all ∧ ((¬ l = facetsI all ∧ e = .returned (.int .i64 3)) ∨ (l = facetsI all ∧ e = .returned (.int .i64 0)))))

set_option maxRecDepth 100000 in
theorem complex_error (CL : ClosedHolds) (vl : Value) (l : List (List Int)) (w : World) (hl : Rows w vl l) (hll : l.length ≤ 100000) (hle : ∀ x ∈ l, x.length ≤ 1000) :
    Calls Tryz.prog 7 #[vl] w fun e w' => ErrorSays l w e w' := by
  have hma := made_ CL vl l w hl hll hle
  have HR : Hid (Rows w vl l) := hl
  clear CL hl
  go_enter Tryz.func7, Tryz.ntmps7
  go_wp2_with fail
  refine hma.mono ?_
  rintro e w2 ⟨hB, ⟨hno, rfl⟩ | ⟨hok, hov, rfl⟩ | ⟨hok, hov, v, all, rfl, hr0, hal, h6⟩⟩
  · clear hma
    go_wp2
    go_ret
    exact ⟨hB, .inl ⟨hno, rfl⟩⟩
  · clear hma
    go_wp2
    go_ret
    exact ⟨hB, .inr (.inl ⟨hok, hov, rfl⟩)⟩
  · have hr := hr0.any
    have hsl := same_lists vl v l (facetsI all) w2 (HR.out.below hB) hr (by omega) (fun x hx => by have := hle x hx; omega)
    have H : Hid ((∀ x ∈ l, SetOk x) ∧ ¬ Over (l.map srt) ∧ IsAll (l.map srt) all) := ⟨hok, hov, hal⟩
    clear hma hok hov hal hr
    by_cases hq : l = facetsI all
    · rw [decide_eq_true hq] at hsl
      have HQ : Hid (l = facetsI all) := hq
      clear hq
      go_wp2_with (go_at_call 31; refine hsl.mono ?_; rintro e w3 ⟨rfl, q, rfl⟩)
      go_ret
      exact ⟨hB.trans ⟨rfl, rfl, rfl, Nat.le_refl _, fun _ _ => rfl⟩, .inr (.inr ⟨H.out.1, H.out.2.1, all, H.out.2.2, .inr ⟨HQ.out, rfl⟩⟩)⟩
    · rw [decide_eq_false hq] at hsl
      have HQ : Hid (¬ l = facetsI all) := hq
      clear hq
      go_wp2_with (go_at_call 31; refine hsl.mono ?_; rintro e w3 ⟨rfl, q, rfl⟩)
      go_ret
      exact ⟨hB.trans ⟨rfl, rfl, rfl, Nat.le_refl _, fun _ _ => rfl⟩, .inr (.inr ⟨H.out.1, H.out.2.1, all, H.out.2.2, .inl ⟨HQ.out, rfl⟩⟩)⟩

set_option maxRecDepth 100000 in
theorem little_ (CL : ClosedHolds) (vl : Value) (l : List (List Int)) (m : Int) (w : World) (hl : Rows w vl l) :
    Calls Tryz.prog 6 #[vl, .int .i64 m] w fun e w' => ∃ q : Bool, e = .returned (.bool q) ∧ Below w.heap.size w w' ∧ (q = true → l.length ≤ 40 ∧ ∀ x ∈ l, x.length ≤ 12) := by
  have hfw := few_ vl l w hl
  have HR : Hid (Rows w vl l) := hl
  have HC : Hid ClosedHolds := CL
  clear CL hl
  go_enter Tryz.func6, Tryz.ntmps6
  go_wp2_with fail
  refine hfw.mono ?_
  rintro e w2 ⟨q, rfl, rfl, hq⟩
  cases q with
  | false =>
    clear hfw hq
    go_wp2
    go_ret
    exact ⟨false, rfl, Below.refl _ _, fun h => by cases h⟩
  | true =>
    have hb := hq rfl
    have hcl := HC.out vl l w2 HR.out (by omega) (fun x hx => by have := hb.2 x hx; omega)
    have HB : Hid (l.length ≤ 40 ∧ ∀ x ∈ l, x.length ≤ 12) := hb
    clear hfw hq hb
    go_wp2_with fail
    refine hcl.mono ?_
    rintro e w3 ⟨hB, ⟨hno, rfl⟩ | ⟨hok, hov, rfl⟩ | ⟨hok, hov, v, all, rfl, hr0, hal, h6⟩⟩
    · clear hcl
      go_wp2
      go_ret
      exact ⟨_, rfl, hB, fun _ => HB.out⟩
    · clear hcl
      go_wp2
      go_ret
      exact ⟨_, rfl, hB, fun _ => HB.out⟩
    · have hr := hr0.any
      obtain ⟨ar, cr, rfl, -, -⟩ := hr.open_
      clear hcl hr hal hok hov
      go_wp2
      go_ret
      exact ⟨_, rfl, hB, fun _ => HB.out⟩

end Go.Proofs.YtnnkmkhamipfiaaGreatDoor

namespace Go.Proofs.YtnnkmkhamipfiaaGreatDoor
open Go.RowKit Go.Sort Go.Maps Go.Deep

/-- The faces of the map are all faces. -/
structure Told (F : List (List UInt8)) (all : List (List Int)) : Prop where
  nodup : F.Nodup
  some_ : ∀ x ∈ F, x ≠ []
  short : ∀ x ∈ F, x.length ≤ 7
  few : F.length ≤ 600
  perm : (F.map ints).Perm all
  order : Order all

/-- A complex, and all its faces. -/
structure Good (l all : List (List Int)) : Prop where
  ok : ∀ x ∈ l, SetOk x
  few : ¬ Over (l.map srt)
  isAll : IsAll (l.map srt) all
  same : facetsI all = l
/-- No complex: the number of its error. -/
def BadAt (l : List (List Int)) (i : Nat) : Prop :=
  (i = 3 ∧ ¬ ∀ x ∈ l, SetOk x) ∨ (i = 1 ∧ (∀ x ∈ l, SetOk x) ∧ Over (l.map srt)) ∨ (i = 2 ∧ (∀ x ∈ l, SetOk x) ∧ ¬ Over (l.map srt) ∧ ∀ all, IsAll (l.map srt) all → ¬ facetsI all = l)

theorem BadAt.lt {l : List (List Int)} {i : Nat} (h : BadAt l i) : i < 8 := by
  rcases h with ⟨e, _⟩ | ⟨e, _⟩ | ⟨e, _⟩ <;> omega
theorem bad_one {l : List (List Int)} {i j : Nat} (h : BadAt l i) (h' : BadAt l j) : i = j := by
  rcases h with ⟨e, h1⟩ | ⟨e, h1, h2⟩ | ⟨e, h1, h2, _⟩ <;> rcases h' with ⟨e', h1'⟩ | ⟨e', h1', h2'⟩ | ⟨e', h1', h2', _⟩
  · omega
  · exact absurd h1' h1
  · exact absurd h1' h1
  · exact absurd h1 h1'
  · omega
  · exact absurd h2 h2'
  · exact absurd h1 h1'
  · exact absurd h2' h2
  · omega
theorem bad_good {l all : List (List Int)} {i : Nat} (h : BadAt l i) (g : Good l all) : False := by
  rcases h with ⟨_, h1⟩ | ⟨_, _, h2⟩ | ⟨_, _, _, h3⟩
  · exact h1 g.ok
  · exact g.few h2
  · exact h3 all g.isAll g.same
theorem all_one {ts all all' : List (List Int)} (h : IsAll ts all) (h' : IsAll ts all') : all = all' := order_told h.order h'.order (fun x => by rw [h.mem, h'.mem])
theorem good_one {l all all' : List (List Int)} (g : Good l all) (g' : Good l all') : all = all' := all_one g.isAll g'.isAll
theorem Good.length {l all : List (List Int)} (g : Good l all) : all.length ≤ 600 := by
  rcases Nat.lt_or_ge 600 all.length with h | h
  · exact absurd (.inr ⟨all, order_nodup g.isAll.order, h, fun x hx => (g.isAll.mem x).1 hx⟩) g.few
  · exact h
theorem Good.short {l all : List (List Int)} (g : Good l all) : ∀ x ∈ all, x.length ≤ 7 := all_short g.isAll g.few

theorem told_of {l all : List (List Int)} {ts F : List (List UInt8)} {G : List UInt8 → Prop} (hts : ts.map ints = l.map srt) (hH : Heaped ts F G) (hal : IsAll (l.map srt) all) : Told F all where
  nodup := (hH.pile 0).nodup
  some_ := (hH.pile 0).some_
  short := (hH.pile 0).short
  few := (hH.pile 0).few
  perm := perm_all (hH.pile 0).nodup hH.mem (by rw [hts]; exact hal)
  order := hal.order
theorem all_of {l : List (List Int)} {ts F : List (List UInt8)} {G : List UInt8 → Prop} (hts : ts.map ints = l.map srt) (hH : Heaped ts F G) : IsAll (l.map srt) ((srtS F).map ints) where
  order := sorted_order (hH.pile 0).nodup
  mem := fun y => by
    rw [← hts, List.mem_map]
    constructor
    · rintro ⟨x, hx, rfl⟩
      exact face_ints.2 ((hH.mem x).1 ((List.mergeSort_perm F _).mem_iff.1 hx))
    · intro hy
      obtain ⟨x, rfl⟩ := face_from hy
      exact ⟨x, (List.mergeSort_perm F _).mem_iff.2 ((hH.mem x).2 (face_ints.1 hy)), rfl⟩
theorem inner_of {l all : List (List Int)} {ts F : List (List UInt8)} {G : List UInt8 → Prop} (hok : ∀ x ∈ l, SetOk x) (hts : ts.map ints = l.map srt) (hH : Heaped ts F G) (hal : IsAll (l.map srt) all) :
    ∀ x ∈ F, G x ↔ innerB all (ints x) = true := fun x hx => by
  have hr : ∀ t ∈ l.map srt, Rising t := fun t ht => by obtain ⟨y, hy, rfl⟩ := List.mem_map.1 ht; exact srt_rising (hok y hy).2.1
  have hm : ints x ∈ all := by rw [hal.mem, ← hts]; exact face_ints.2 ((hH.mem x).1 hx)
  rw [innerB_iff hr hal hm, hH.memG, ← hts, inner_ints]

/-- What open answers, in one way. -/
def OpenG (a : Nat → Addr) (l : List (List Int)) (w : World) (e : Ending) (w' : World) : Prop :=
  Below w.heap.size w w' ∧ ((∃ i, BadAt l i ∧ e = .returned (.tuple #[.map none, .iface 250 (.pointer (some (a i)))])) ∨
    ∃ all b F G, Good l all ∧ Told F all ∧ e = .returned (.tuple #[.map (some b), .nilIface]) ∧ PileAt w' b F G ∧ ∀ x ∈ F, G x ↔ innerB all (ints x) = true)

theorem open_g {a : Nat → Addr} {s : Nat → ByteArray} (vl : Value) (l : List (List Int)) (w : World) (hE : Errs a s w) (hl : Rows w vl l) (hll : l.length ≤ 100000) (hle : ∀ x ∈ l, x.length ≤ 1000) :
    Calls Tryz.prog 108 #[.agg #[vl]] w fun e w' => OpenG a l w e w' := by
  refine (open_c vl l w hE hl hll hle).mono ?_
  rintro e w' ⟨hB, ⟨hno, rfl⟩ | ⟨hok, ts, hts, ⟨hov, rfl⟩ | ⟨hno, ss, h2, h3, ⟨hne, rfl⟩ | ⟨heq, b, F, G, rfl, hP, hH⟩⟩⟩⟩
  · exact ⟨hB, .inl ⟨3, .inl ⟨rfl, hno⟩, rfl⟩⟩
  · exact ⟨hB, .inl ⟨1, .inr (.inl ⟨rfl, hok, over_back hts hov⟩), rfl⟩⟩
  · exact ⟨hB, .inl ⟨2, .inr (.inr ⟨rfl, hok, fun h => hno (over_told hts h), fun all hal h => hne ((told_same hok hts h2 h3 hal).trans h)⟩), rfl⟩⟩
  · have hal := all_of hts hH
    exact ⟨hB, .inr ⟨_, b, F, G, ⟨hok, fun h => hno (over_told hts h), hal, (told_same hok hts h2 h3 hal).symm.trans heq⟩, told_of hts hH hal, rfl, hP, inner_of hok hts hH hal⟩⟩

/-- What ComplexError answers, in one way. -/
def ErrorG (l : List (List Int)) (w : World) (e : Ending) (w' : World) : Prop :=
  Below w.heap.size w w' ∧ ((∃ i : Nat, BadAt l i ∧ e = .returned (.int .i64 ((i : Int) + 1))) ∨ ∃ all, Good l all ∧ e = .returned (.int .i64 0))
theorem error_g (CL : ClosedHolds) (vl : Value) (l : List (List Int)) (w : World) (hl : Rows w vl l) (hll : l.length ≤ 100000) (hle : ∀ x ∈ l, x.length ≤ 1000) :
    Calls Tryz.prog 7 #[vl] w fun e w' => ErrorG l w e w' := by
  refine (complex_error CL vl l w hl hll hle).mono ?_
  rintro e w' ⟨hB, ⟨hno, rfl⟩ | ⟨hok, hov, rfl⟩ | ⟨hok, hov, all, hal, ⟨hne, rfl⟩ | ⟨heq, rfl⟩⟩⟩
  · exact ⟨hB, .inl ⟨3, .inl ⟨rfl, hno⟩, rfl⟩⟩
  · exact ⟨hB, .inl ⟨1, .inr (.inl ⟨rfl, hok, hov⟩), rfl⟩⟩
  · exact ⟨hB, .inl ⟨2, .inr (.inr ⟨rfl, hok, hov, fun all' hal' h => hne (by rw [all_one hal hal']; exact h.symm)⟩), rfl⟩⟩
  · exact ⟨hB, .inr ⟨all, ⟨hok, hov, hal, heq.symm⟩, rfl⟩⟩

theorem closed_g (CL : ClosedHolds) (vl : Value) (l all : List (List Int)) (w : World) (hl : Rows w vl l) (hll : l.length ≤ 100000) (hle : ∀ x ∈ l, x.length ≤ 1000) (hg : Good l all) :
    Calls Tryz.prog 8 #[vl] w fun e w' => ∃ v, e = .returned (.tuple #[v, .int .i64 0]) ∧ Rows w' v all ∧ Below w.heap.size w w' := by
  refine (CL vl l w hl hll hle).mono ?_
  rintro e w' ⟨hB, ⟨hno, rfl⟩ | ⟨hok, hov, rfl⟩ | ⟨hok, hov, v, all', rfl, hr0, hal, h6⟩⟩
  · exact absurd hg.ok hno
  · exact absurd hov hg.few
  · have hr := hr0.any
    rw [all_one hal hg.isAll] at hr
    exact ⟨v, rfl, hr, hB⟩

theorem told_dim {F : List (List UInt8)} {all : List (List Int)} (h : Told F all) {ss : List (List UInt8)} (hn : ss.Nodup) {dim : Int} (hm : ∀ x, x ∈ ss ↔ x ∈ F ∧ (x.length : Int) - 1 = dim) : (srtS ss).map ints = ofDim all dim := by
  refine order_told (sorted_order hn) (h.order.filter _) (fun y => ?_)
  rw [ofDim, List.mem_filter, ← h.perm.mem_iff, List.mem_map, List.mem_map]
  constructor
  · rintro ⟨x, hx, rfl⟩
    have := (hm x).1 ((List.mergeSort_perm ss _).mem_iff.1 hx)
    exact ⟨⟨x, this.1, rfl⟩, by rw [ints_length]; exact decide_eq_true this.2⟩
  · rintro ⟨⟨x, hx, rfl⟩, b⟩
    rw [ints_length] at b
    exact ⟨x, (List.mergeSort_perm ss _).mem_iff.2 ((hm x).2 ⟨hx, of_decide_eq_true b⟩), rfl⟩
theorem Told.vec {F : List (List UInt8)} {all : List (List Int)} (h : Told F all) : vecOf F = vecOf all := by rw [← vecOf_perm h.perm, vecOf_ints]
theorem Told.top {F : List (List UInt8)} {all : List (List Int)} (h : Told F all) : topN F = topN all := by rw [← topN_perm h.perm, topN_ints]
theorem Told.euler {F : List (List UInt8)} {all : List (List Int)} (h : Told F all) : altTo (vecOf F) (vecOf F).length = eulerOf all := by rw [alt_euler h.some_, ← eulerOf_perm h.perm, eulerOf_ints]

end Go.Proofs.YtnnkmkhamipfiaaGreatDoor

namespace Go.Proofs.YtnnkmkhamipfiaaGreatDoor
open Go.RowKit Go.Sort Go.Maps Go.Deep

/-- A face as it is told: a set whose numbers rise. -/
def FaceOk (f : List Int) : Prop := SetOk f ∧ Rising f

theorem face_ok_of {l all : List (List Int)} {f : List Int} (g : Good l all) (hf : f ∈ all) : FaceOk f := by
  obtain ⟨h1, t, ht, hs⟩ := (g.isAll.mem f).1 hf
  obtain ⟨y, hy, rfl⟩ := List.mem_map.1 ht
  have hok := g.ok y hy
  have hr := (srt_rising hok.2.1).sublist hs
  exact ⟨⟨h1, hr.imp (fun h => Int.ne_of_lt h), fun v hv => hok.2.2 v ((srt_mem y v).1 (hs.subset hv))⟩, hr⟩
theorem mem_told {F : List (List UInt8)} {all : List (List Int)} (h : Told F all) (t : List UInt8) : t ∈ F ↔ ints t ∈ all := by
  rw [← h.perm.mem_iff, List.mem_map]
  exact ⟨fun hm => ⟨t, hm, rfl⟩, fun ⟨x, hx, e⟩ => by rw [← ints_inj e]; exact hx⟩

/-- What is told of sets: the error's value and number, and all faces (none where there is an error). -/
def Kind (a : Nat → Addr) (l : List (List Int)) (ve : Value) (n : Int) (all : List (List Int)) : Prop :=
  (∃ i : Nat, BadAt l i ∧ ve = .iface 250 (.pointer (some (a i))) ∧ n = (i : Int) + 1 ∧ all = []) ∨ (Good l all ∧ ve = .nilIface ∧ n = 0)

theorem Kind.length {a : Nat → Addr} {l all : List (List Int)} {ve : Value} {n : Int} (h : Kind a l ve n all) : all.length ≤ 600 := by
  rcases h with ⟨i, _, _, _, rfl⟩ | ⟨g, _, _⟩
  · simp
  · exact g.length
theorem Kind.short {a : Nat → Addr} {l all : List (List Int)} {ve : Value} {n : Int} (h : Kind a l ve n all) : ∀ x ∈ all, x.length ≤ 7 := by
  rcases h with ⟨i, _, _, _, rfl⟩ | ⟨g, _, _⟩
  · intro x hx; cases hx
  · exact g.short
theorem rows_nil (w : World) : Rows w (.slice none 0 0) [] := ⟨[], SliceIn.nil _ _, rfl, fun k u x hu => by simp at hu⟩

/-- A slice of no elements in a block of its own. -/
theorem own_empty (w : World) (t : TypeId) (base : Nat) (hb : base ≤ w.heap.size) : (w.alloc (.cells #[] t)).ownsRow base t 1 (.slice (some ⟨w.heap.size, 0, none⟩) 0 0) 0 [] :=
  ⟨rfl, .inr ⟨w.heap.size, 0, #[], rfl, hb, World.alloc_heap_new w _, Nat.le_refl _, Nat.zero_le _, rfl, rfl⟩⟩

end Go.Proofs.YtnnkmkhamipfiaaGreatDoor

namespace Go.Proofs.YtnnkmkhamipfiaaGreatDoor
open Go.RowKit Go.Sort

/-- The facets of the complex of some sets, in order. -/
structure IsFacets (g L : List (List Int)) : Prop where
  order : Order L
  mem : ∀ x, x ∈ L ↔ FaceOf g x ∧ ¬ InnerOf g x
theorem inner_face {α : Type} {ts : List (List α)} {x : List α} : InnerOf ts x ↔ x ≠ [] ∧ ∃ y, FaceOf ts y ∧ x.Sublist y ∧ x.length < y.length := by
  constructor
  · rintro ⟨h, t, ht, hs, hl⟩
    exact ⟨h, t, ⟨fun e => by subst e; simp at hl, t, ht, List.Sublist.refl _⟩, hs, hl⟩
  · rintro ⟨h, y, ⟨_, t, ht, hy⟩, hs, hl⟩
    have := hy.length_le
    exact ⟨h, t, ht, hs.trans hy, by omega⟩
theorem facets_one {g g' L L' : List (List Int)} (h : ∀ x, FaceOf g x ↔ FaceOf g' x) (hL : IsFacets g L) (hL' : IsFacets g' L') : L = L' := by
  refine order_told hL.order hL'.order (fun x => ?_)
  rw [hL.mem, hL'.mem, inner_face, inner_face, h]
  simp only [h]
theorem facets_built {ts ss : List (List UInt8)} (hn : ss.Nodup) (hm : ∀ x, x ∈ ss ↔ FaceOf ts x ∧ ¬ InnerOf ts x) : IsFacets (ts.map ints) ((srtS ss).map ints) where
  order := sorted_order hn
  mem := fun y => by
    rw [List.mem_map]
    constructor
    · rintro ⟨x, hx, rfl⟩
      have := (hm x).1 ((List.mergeSort_perm ss _).mem_iff.1 hx)
      exact ⟨face_ints.2 this.1, fun hi => this.2 (inner_ints.1 hi)⟩
    · rintro ⟨a, b⟩
      obtain ⟨x, rfl⟩ := face_from a
      exact ⟨x, (List.mergeSort_perm ss _).mem_iff.2 ((hm x).2 ⟨face_ints.1 a, fun hi => b (inner_ints.2 hi)⟩), rfl⟩
theorem facets_made {g all : List (List Int)} (hr : ∀ t ∈ g, Rising t) (h : IsAll g all) : IsFacets g (facetsI all) where
  order := facets_order h.order
  mem := facets_mem hr h

theorem rising_srt {x : List Int} (h : Rising x) : srt x = x := (srt_told (h.imp (fun h => Int.ne_of_lt h)) h (fun _ => Iff.rfl)).symm
theorem map_srt {g : List (List Int)} (h : ∀ x ∈ g, Rising x) : g.map srt = g := by
  induction g with
  | nil => rfl
  | cons x g ih => rw [List.map_cons, rising_srt (h x (by simp)), ih (fun y hy => h y (by simp [hy]))]

theorem Good.rising {l all : List (List Int)} (g : Good l all) : ∀ x ∈ all, Rising x := fun _ hx => (face_ok_of g hx).2
theorem Good.sub {l all : List (List Int)} (g : Good l all) {x y : List Int} (hx : x ∈ all) (hs : y.Sublist x) (hy : y ≠ []) : y ∈ all := by
  obtain ⟨_, t, ht, hxt⟩ := (g.isAll.mem x).1 hx
  exact (g.isAll.mem y).2 ⟨hy, t, ht, hs.trans hxt⟩
theorem Good.facet {l all : List (List Int)} (g : Good l all) {x : List Int} (hx : x ∈ all) : ∃ t ∈ all, innerB all t = false ∧ x.Sublist t := by
  obtain ⟨_, t, ht, hs⟩ := (g.isAll.mem x).1 hx
  obtain ⟨y, hy, rfl⟩ := List.mem_map.1 ht
  have hy' : y ∈ facetsI all := by rw [g.same]; exact hy
  obtain ⟨h1, h2⟩ := List.mem_filter.1 hy'
  rw [rising_srt (g.rising y h1)] at hs
  exact ⟨y, h1, by simpa using h2, hs⟩
theorem Good.notOver {l all g' : List (List Int)} (g : Good l all) (h : ∀ t ∈ g', t ∈ all) : ¬ Over g' := by
  have hf : ∀ x, FaceOf g' x → x ∈ all := fun x ⟨h1, t, ht, hs⟩ => g.sub (h t ht) hs h1
  rintro (⟨t, ht, hl⟩ | ⟨X, hn, hl, hx⟩)
  · have := g.short t (h t ht); omega
  · have := nodup_le hn (fun x hx' => hf x (hx x hx'))
    have := g.length
    omega

/-- Is the union of two faces one of these? -/
def uniB (all : List (List Int)) (x f : List Int) : Bool := all.any (fun o => (o.all fun v => x.contains v || f.contains v) && (x.all fun v => o.contains v) && f.all fun v => o.contains v)
theorem uniB_iff {all : List (List Int)} {x f : List Int} : uniB all x f = true ↔ ∃ o ∈ all, ∀ v, v ∈ o ↔ v ∈ x ∨ v ∈ f := by
  unfold uniB
  rw [List.any_eq_true]
  constructor
  · rintro ⟨o, ho, h⟩
    simp only [Bool.and_eq_true, List.all_eq_true, Bool.or_eq_true, List.contains_iff_mem] at h
    exact ⟨o, ho, fun v => ⟨fun hv => h.1.1 v hv, fun hv => hv.elim (h.1.2 v) (h.2 v)⟩⟩
  · rintro ⟨o, ho, h⟩
    refine ⟨o, ho, ?_⟩
    simp only [Bool.and_eq_true, List.all_eq_true, Bool.or_eq_true, List.contains_iff_mem]
    exact ⟨⟨fun v hv => (h v).1 hv, fun v hv => (h v).2 (.inl hv)⟩, fun v hv => (h v).2 (.inr hv)⟩
theorem uniB_told {all : List (List Int)} {x f out : List Int} (hr : ∀ o ∈ all, Rising o) (ho : Rising out) (hm : ∀ v, v ∈ out ↔ v ∈ x ∨ v ∈ f) : uniB all x f = true ↔ out ∈ all := by
  rw [uniB_iff]
  constructor
  · rintro ⟨o, h1, h2⟩
    rw [rising_told ho (hr o h1) (fun v => by rw [hm, h2])]; exact h1
  · exact fun h => ⟨out, h, hm⟩

def starI (all : List (List Int)) (f : List Int) : List (List Int) := all.filter (fun x => uniB all x f)
def minusI (x f : List Int) : List Int := x.filter (fun v => !f.contains v)
def linkB (all : List (List Int)) (f x : List Int) : Bool := decide (x ≠ []) && decide (minusI x f = x) && uniB all x f
def linkI (all : List (List Int)) (f : List Int) : List (List Int) := all.filter (linkB all f)
def lowI (all : List (List Int)) (dim : Int) : List (List Int) := all.filter (fun x => decide ((x.length : Int) - 1 ≤ dim))

/-- The facets around a face. -/
def AroundOf (all : List (List Int)) (f : List Int) (fs : List (List Int)) : Prop := ∀ t, t ∈ fs ↔ t ∈ all ∧ innerB all t = false ∧ ∀ v ∈ f, v ∈ t

theorem star_same {l all fs : List (List Int)} {f : List Int} (g : Good l all) (h : AroundOf all f fs) (y : List Int) : FaceOf fs y ↔ FaceOf (starI all f) y := by
  constructor
  · rintro ⟨h1, t, ht, hs⟩
    obtain ⟨a1, a2, a3⟩ := (h t).1 ht
    exact ⟨h1, t, List.mem_filter.2 ⟨a1, uniB_iff.2 ⟨t, a1, fun v => ⟨.inl, fun hv => hv.elim id (a3 v)⟩⟩⟩, hs⟩
  · rintro ⟨h1, x, hx, hs⟩
    obtain ⟨b1, b2⟩ := List.mem_filter.1 hx
    obtain ⟨o, ho, hm⟩ := uniB_iff.1 b2
    obtain ⟨t, t1, t2, t3⟩ := g.facet ho
    have hxo : x.Sublist o := rising_sub (g.rising x b1) (g.rising o ho) (fun v hv => (hm v).2 (.inl hv))
    exact ⟨h1, t, (h t).2 ⟨t1, t2, fun v hv => t3.subset ((hm v).2 (.inr hv))⟩, hs.trans (hxo.trans t3)⟩

theorem minus_mem {x f : List Int} {v : Int} : v ∈ minusI x f ↔ v ∈ x ∧ v ∉ f := by
  unfold minusI
  rw [List.mem_filter]
  simp
theorem minus_self {x f : List Int} : minusI x f = x ↔ ∀ v ∈ x, v ∉ f := by
  unfold minusI
  rw [List.filter_eq_self]
  simp

theorem link_same {l all fs rs : List (List Int)} {f : List Int} (g : Good l all) (h : AroundOf all f fs) (hr : ∀ r, r ∈ rs ↔ r ≠ [] ∧ ∃ t ∈ fs, r = minusI t f) (y : List Int) : FaceOf rs y ↔ FaceOf (linkI all f) y := by
  constructor
  · rintro ⟨h1, r, hr1, hs⟩
    obtain ⟨_, t, ht, rfl⟩ := (hr r).1 hr1
    obtain ⟨a1, a2, a3⟩ := (h t).1 ht
    have hyt : y.Sublist t := hs.trans List.filter_sublist
    have hya := g.sub a1 hyt h1
    have hyf : ∀ v ∈ y, v ∉ f := fun v hv => (minus_mem.1 (hs.subset hv)).2
    refine ⟨h1, y, List.mem_filter.2 ⟨hya, ?_⟩, List.Sublist.refl _⟩
    unfold linkB
    rw [decide_eq_true h1, decide_eq_true (minus_self.2 hyf), Bool.true_and, Bool.true_and, uniB_iff]
    refine ⟨t.filter (fun v => y.contains v || f.contains v), g.sub a1 List.filter_sublist (fun e => ?_), fun v => ?_⟩
    · obtain ⟨v, hv⟩ := List.exists_mem_of_ne_nil _ h1
      have : v ∈ t.filter (fun v => y.contains v || f.contains v) := List.mem_filter.2 ⟨hyt.subset hv, by simp [hv]⟩
      rw [e] at this; cases this
    · rw [List.mem_filter]
      simp only [Bool.or_eq_true, List.contains_iff_mem]
      exact ⟨fun hv => hv.2, fun hv => ⟨hv.elim (fun a => hyt.subset a) (a3 v), hv⟩⟩
  · rintro ⟨h1, x, hx, hs⟩
    obtain ⟨b1, b2⟩ := List.mem_filter.1 hx
    unfold linkB at b2
    simp only [Bool.and_eq_true, decide_eq_true_eq] at b2
    obtain ⟨⟨b3, b4⟩, b5⟩ := b2
    obtain ⟨o, ho, hm⟩ := uniB_iff.1 b5
    obtain ⟨t, t1, t2, t3⟩ := g.facet ho
    have hxf := minus_self.1 b4
    have hxm : x.Sublist (minusI t f) := rising_sub (g.rising x b1) ((g.rising t t1).sublist List.filter_sublist) (fun v hv => minus_mem.2 ⟨t3.subset ((hm v).2 (.inl hv)), hxf v hv⟩)
    have hne : minusI t f ≠ [] := fun e => by rw [e] at hxm; exact b3 (List.sublist_nil.1 hxm)
    exact ⟨h1, minusI t f, (hr _).2 ⟨hne, t, (h t).2 ⟨t1, t2, fun v hv => t3.subset ((hm v).2 (.inr hv))⟩, rfl⟩, hs.trans hxm⟩

theorem face_members {α : Type} {g g' : List (List α)} (h : ∀ t, t ∈ g ↔ t ∈ g') (y : List α) : FaceOf g y ↔ FaceOf g' y :=
  ⟨fun ⟨h1, t, ht, hs⟩ => ⟨h1, t, (h t).1 ht, hs⟩, fun ⟨h1, t, ht, hs⟩ => ⟨h1, t, (h t).2 ht, hs⟩⟩

/-- How many are left of a face tells whether the other one is a part. -/
theorem minus_count {t f : List Int} (ht : t.Nodup) (hf : f.Nodup) : ((minusI t f).length : Int) = (t.length : Int) - (f.length : Int) ↔ ∀ v ∈ f, v ∈ t := by
  have hsum : ∀ (l : List Int), (l.filter (fun v => !f.contains v)).length + (l.filter (fun v => f.contains v)).length = l.length := by
    intro l
    induction l with
    | nil => rfl
    | cons a l ih =>
      cases h : f.contains a
      · simp only [List.filter_cons, h, Bool.not_false, if_true, List.length_cons, Bool.false_eq_true, if_false]; omega
      · simp only [List.filter_cons, h, Bool.not_true, Bool.false_eq_true, if_false, if_true, List.length_cons]; omega
  have h1 := hsum t
  have hn : (t.filter (fun v => f.contains v)).Nodup := ht.sublist List.filter_sublist
  have hle := nodup_le hn (Y := f) (fun v hv => by simpa using (List.mem_filter.1 hv).2)
  constructor
  · intro e v hv
    have e2 : (t.filter (fun v => f.contains v)).length = f.length := by unfold minusI at e; omega
    rcases Classical.em (v ∈ t) with h | h
    · exact h
    · have h3 := nodup_le hn (Y := f.erase v) (fun u hu => (List.mem_erase_of_ne (fun e => by subst e; exact h (List.mem_filter.1 hu).1)).2 (by simpa using (List.mem_filter.1 hu).2))
      have h4 := List.length_erase_of_mem hv
      have h5 := List.length_pos_of_mem hv
      omega
  · intro hall
    have h2 := nodup_le hf (Y := t.filter (fun v => f.contains v)) (fun v hv => List.mem_filter.2 ⟨hall v hv, by simpa using hv⟩)
    unfold minusI
    omega

end Go.Proofs.YtnnkmkhamipfiaaGreatDoor

namespace Go.Proofs.YtnnkmkhamipfiaaGreatDoor
open Go.RowKit Go.Shelf Go.Sort Go.Maps Go.Deep

theorem isFacets_of {g g' L : List (List Int)} (h : ∀ x, FaceOf g x ↔ FaceOf g' x) (hL : IsFacets g L) : IsFacets g' L where
  order := hL.order
  mem := fun x => by
    rw [hL.mem, inner_face, inner_face, h]
    simp only [h]

/-- What a call answers that makes a complex: an error, or the facets of one. -/
def PartG (a : Nat → Addr) (bad : Nat → Prop) (good : List (List Int) → Prop) (w : World) (e : Ending) (w' : World) : Prop :=
  Below w.heap.size w w' ∧ ((∃ i, bad i ∧ e = .returned (.tuple #[.agg #[.slice none 0 0], .iface 250 (.pointer (some (a i)))])) ∨
    ∃ v L, good L ∧ e = .returned (.tuple #[.agg #[v], .nilIface]) ∧ OwnRows w.heap.size w' v L)

/-- Two variables, laid one behind the other. -/
theorem two_boxes (w : World) (v u : Value) (t t' : TypeId) : (((w.alloc (.cells #[v] t)).alloc (.cells #[u] t')).cell? ⟨w.heap.size, 0, none⟩ = some v ∧ ((w.alloc (.cells #[v] t)).alloc (.cells #[u] t')).frozen? ⟨w.heap.size, 0, none⟩ = false) ∧
    (((w.alloc (.cells #[v] t)).alloc (.cells #[u] t')).cell? ⟨w.heap.size + 1, 0, none⟩ = some u ∧ ((w.alloc (.cells #[v] t)).alloc (.cells #[u] t')).frozen? ⟨w.heap.size + 1, 0, none⟩ = false) := by
  refine ⟨box_alloc _ (box_new w v t), ?_⟩
  have := box_new (w.alloc (.cells #[v] t)) u t'
  rwa [World.size_alloc] at this
theorem two_below (w : World) (v u : Value) (t t' : TypeId) : Below w.heap.size w ((w.alloc (.cells #[v] t)).alloc (.cells #[u] t')) := ((Below.refl _ w).alloc (Nat.le_refl _) _).alloc (by simp) _
theorem two_size (w : World) (o o' : Obj) : ((w.alloc o).alloc o').heap.size = w.heap.size + 2 := by simp

theorem sub_over {l all : List (List Int)} {fs : List (List UInt8)} (g : Good l all) (h : ∀ t ∈ fs.map ints, t ∈ all) : ¬ Over fs := fun ho => g.notOver h (over_ints.2 ho)

theorem three_size (w : World) (o o' o'' : Obj) : (((w.alloc o).alloc o').alloc o'').heap.size = w.heap.size + 3 := by simp
theorem three_boxes (w : World) (v u z : Value) (t t' t'' : TypeId) : (((w.alloc (.cells #[v] t)).alloc (.cells #[u] t')).alloc (.cells #[z] t'')).cell? ⟨w.heap.size, 0, none⟩ = some v ∧
    (((w.alloc (.cells #[v] t)).alloc (.cells #[u] t')).alloc (.cells #[z] t'')).cell? ⟨w.heap.size + 1, 0, none⟩ = some u ∧
    ((((w.alloc (.cells #[v] t)).alloc (.cells #[u] t')).alloc (.cells #[z] t'')).cell? ⟨w.heap.size + 1 + 1, 0, none⟩ = some z ∧ (((w.alloc (.cells #[v] t)).alloc (.cells #[u] t')).alloc (.cells #[z] t'')).frozen? ⟨w.heap.size + 1 + 1, 0, none⟩ = false) := by
  have h2 := two_boxes w v u t t'
  refine ⟨(box_alloc _ h2.1).1, (box_alloc _ h2.2).1, ?_⟩
  have := box_new ((w.alloc (.cells #[v] t)).alloc (.cells #[u] t')) z t''
  rwa [World.size_alloc, World.size_alloc] at this
theorem three_below (w : World) (v u z : Value) (t t' t'' : TypeId) : Below w.heap.size w (((w.alloc (.cells #[v] t)).alloc (.cells #[u] t')).alloc (.cells #[z] t'')) := (two_below w v u t t').alloc (by simp; omega) _

end Go.Proofs.YtnnkmkhamipfiaaGreatDoor

namespace Go.Proofs.YtnnkmkhamipfiaaGreatDoor
open Go.RowKit

theorem sign_ (d : Nat) (w : World) (hd : d ≤ 1000) : Calls Tryz.prog 112 #[.int .i64 d] w fun e w' => e = .returned (.int .i64 (sg d)) ∧ w' = w := by
  have hs : sg d = 1 - 2 * ((d : Int) % 2) := by unfold sg; omega
  rw [hs]
  go_enter Tryz.func112, Tryz.ntmps112
  go_wp2
  go_ret
  exact ⟨by rfl, by rfl⟩

end Go.Proofs.YtnnkmkhamipfiaaGreatDoor
