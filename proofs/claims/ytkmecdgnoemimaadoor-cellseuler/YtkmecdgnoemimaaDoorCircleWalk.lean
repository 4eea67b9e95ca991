/- What ComplexError answers, with the error's value. What the statements on two complexes begin with. Plain facts on the four closed sets of the statements' circle: their faces, their facets. What the statements' circle answers: true. -/
import Derived.Test.YtkmecdgnoemimaaDoorKind0
import Derived.Test.YtkmecdgnoemimaaDoorProductGood
import Derived.Test.YtkmecdgnoemimaaDoorClosedDefs
import Derived.Test.YtkmecdgnoemimaaDoorOpen
namespace Go.Proofs.YtkmecdgnoemimaaDoor
open Go.RowKit Go.Sort Go.Maps Go.Deep

/-- What ComplexError answers, with the error's value. -/
theorem error_k2 (CL : ClosedHolds) (a : Nat → Addr) (vl : Value) (l : List (List Int)) (w : World) (hl : Rows w vl l) (hll : l.length ≤ 100000) (hle : ∀ x ∈ l, x.length ≤ 1000) :
    Calls Tryd.prog 7 #[vl] w fun e w' => Below w.heap.size w w' ∧ ∃ ve n all, Kind a l ve n all ∧ e = .returned (.int .i64 n) ∧ (((n == 0) = false ∧ 0 < n ∧ all = [] ∧ ∃ i : Nat, BadAt l i ∧ ve = .iface 165 (.pointer (some (a i))) ∧ n = (i : Int) + 1) ∨ (n = 0 ∧ Good l all)) := by
  refine (error_g CL vl l w hl hll hle).mono ?_
  rintro e w' ⟨hB, ⟨i, hb, rfl⟩ | ⟨all, g, rfl⟩⟩
  · exact ⟨hB, _, _, [], .inl ⟨i, hb, rfl, rfl, rfl⟩, rfl, .inl ⟨beq_false_of_ne (by omega), by omega, rfl, i, hb, rfl, rfl⟩⟩
  · exact ⟨hB, _, _, all, .inr ⟨g, rfl, rfl⟩, rfl, .inr ⟨rfl, g⟩⟩

end Go.Proofs.YtkmecdgnoemimaaDoor

namespace Go.Proofs.YtkmecdgnoemimaaDoor
open Go.RowKit Go.Sort Go.Maps Go.Deep

theorem JErr.lt {l m : List (List Int)} {i : Nat} (h : JErr l m i) : i < 8 := by
  rcases h with h | ⟨_, h⟩
  · exact h.lt
  · exact h.lt
theorem jerr_not {l m p q : List (List Int)} {i : Nat} (h : JErr l m i) (g : Good l p ∧ Good m q) : False := by
  rcases h with h | ⟨_, h⟩
  · exact bad_good h g.1
  · exact bad_good h g.2
theorem jerr_one {l m : List (List Int)} {i j : Nat} (h : JErr l m i) (h' : JErr l m j) : i = j := by
  rcases h with h | ⟨⟨p, g⟩, h⟩ <;> rcases h' with h' | ⟨⟨p', g'⟩, h'⟩
  · exact bad_one h h'
  · exact (bad_good h g').elim
  · exact (bad_good h' g).elim
  · exact bad_one h h'

set_option maxRecDepth 100000 in
theorem little_few (CL : ClosedHolds) (vl : Value) (l : List (List Int)) (m : Nat) (w : World) (hl : Rows w vl l) :
    Calls Tryd.prog 6 #[vl, .int .i64 m] w fun e w' => ∃ q : Bool, e = .returned (.bool q) ∧ Below w.heap.size w w' ∧ (q = true → l.length ≤ 40 ∧ (∀ x ∈ l, x.length ≤ 12) ∧ ∀ all, Good l all → all.length ≤ m) := by
  have hfw := few_ vl l w hl
  have HR : Hid (Rows w vl l) := hl
  have HC : Hid ClosedHolds := CL
  clear CL hl
  go_enter Tryd.func6, Tryd.ntmps6
  go_wp2_with fail
  refine hfw.mono ?_
  rintro e w2 ⟨q, rfl, rfl, hq⟩
  cases q with
  | false =>
    clear hfw hq
    go_wp2
    go_ret
    exact ⟨false, rfl, Below.refl _ _, fun h => by cases h⟩
  | true =>
    have hb := hq rfl
    have hcl := HC.out vl l w2 HR.out (by omega) (fun x hx => by have := hb.2 x hx; omega)
    have HB : Hid (l.length ≤ 40 ∧ ∀ x ∈ l, x.length ≤ 12) := hb
    clear hfw hq hb
    go_wp2_with fail
    refine hcl.mono ?_
    rintro e w3 ⟨hB, ⟨hno, rfl⟩ | ⟨hok, hov, rfl⟩ | ⟨hok, hov, v, all, rfl, hr, hal, h6⟩⟩
    · have HN : Hid (¬ ∀ x ∈ l, SetOk x) := hno
      clear hcl hno
      go_wp2
      go_ret
      exact ⟨_, rfl, hB, fun _ => ⟨HB.out.1, HB.out.2, fun all g => absurd g.ok HN.out⟩⟩
    · have HN : Hid (Over (l.map srt)) := hov
      clear hcl hok hov
      go_wp2
      go_ret
      exact ⟨_, rfl, hB, fun _ => ⟨HB.out.1, HB.out.2, fun all g => absurd HN.out g.few⟩⟩
    · obtain ⟨ar, cr, rfl, -, -⟩ := hr.open_
      have HN : Hid (IsAll (l.map srt) all) := hal
      clear hcl hr hal hok hov
      by_cases hm : all.length ≤ m
      · go_wp2
        go_ret
        exact ⟨_, rfl, hB, fun _ => ⟨HB.out.1, HB.out.2, fun all' g => by rw [all_one g.isAll HN.out]; exact hm⟩⟩
      · have hmb : decide ((all.length : Int) ≤ (m : Int)) = false := decide_eq_false (by omega)
        go_wp2
        go_ret
        exact ⟨false, by simp, hB, fun h => by cases h⟩

end Go.Proofs.YtkmecdgnoemimaaDoor

namespace Go.Proofs.YtkmecdgnoemimaaDoor
open Go.RowKit Go.Sort

/-- The four sets, and what they come to. -/
def cirL : List (List Int) := [[1, 0], [1, 2], [2, 0], [1]]
def cirT : List (List Int) := [[0, 1], [1, 2], [0, 2], [1]]
def cirA : List (List Int) := [[0], [0, 1], [0, 2], [1], [1, 2], [2]]
def cirF : List (List Int) := [[0, 1], [0, 2], [1, 2]]

theorem cir_ok : ∀ x ∈ cirL, SetOk x := by
  intro x hx
  unfold cirL at hx
  simp only [List.mem_cons, List.not_mem_nil, or_false] at hx
  rcases hx with rfl | rfl | rfl | rfl <;> (unfold SetOk; decide)
theorem cir_srt : cirL.map srt = cirT := by
  have h1 : srt [1, 0] = [0, 1] := (srt_told (by decide) (by decide) (fun v => by simp; omega)).symm
  have h2 : srt [1, 2] = [1, 2] := (srt_told (by decide) (by decide) (fun v => by simp)).symm
  have h3 : srt [2, 0] = [0, 2] := (srt_told (by decide) (by decide) (fun v => by simp; omega)).symm
  have h4 : srt [1] = [1] := (srt_told (by decide) (by decide) (fun v => by simp)).symm
  simp [cirL, cirT, h1, h2, h3, h4]
theorem cir_sub {x t : List Int} (ht : t ∈ cirT) (h : x.Sublist t) (hx : x ≠ []) : x ∈ cirA := by
  obtain ⟨b, hb, rfl⟩ := pick_all h
  unfold cirT at ht
  simp only [List.mem_cons, List.not_mem_nil, or_false] at ht
  rcases ht with rfl | rfl | rfl | rfl
  · have hb4 : b < 4 := hb
    rcases (show b = 0 ∨ b = 1 ∨ b = 2 ∨ b = 3 by omega) with rfl | rfl | rfl | rfl
    · exact absurd (by decide) hx
    · decide
    · decide
    · decide
  · have hb4 : b < 4 := hb
    rcases (show b = 0 ∨ b = 1 ∨ b = 2 ∨ b = 3 by omega) with rfl | rfl | rfl | rfl
    · exact absurd (by decide) hx
    · decide
    · decide
    · decide
  · have hb4 : b < 4 := hb
    rcases (show b = 0 ∨ b = 1 ∨ b = 2 ∨ b = 3 by omega) with rfl | rfl | rfl | rfl
    · exact absurd (by decide) hx
    · decide
    · decide
    · decide
  · have hb4 : b < 2 := hb
    rcases (show b = 0 ∨ b = 1 by omega) with rfl | rfl
    · exact absurd (by decide) hx
    · decide
theorem cir_all : IsAll cirT cirA where
  order := by decide
  mem := fun x => by
    constructor
    · intro hx
      unfold cirA at hx
      simp only [List.mem_cons, List.not_mem_nil, or_false] at hx
      rcases hx with rfl | rfl | rfl | rfl | rfl | rfl
      · exact ⟨by decide, [0, 1], by decide, by decide⟩
      · exact ⟨by decide, [0, 1], by decide, by decide⟩
      · exact ⟨by decide, [0, 2], by decide, by decide⟩
      · exact ⟨by decide, [0, 1], by decide, by decide⟩
      · exact ⟨by decide, [1, 2], by decide, by decide⟩
      · exact ⟨by decide, [1, 2], by decide, by decide⟩
    · rintro ⟨h, t, ht, hs⟩
      exact cir_sub ht hs h
theorem cir_facets : facetsI cirA = cirF := by decide
theorem cir_not_over : ¬ Over cirT := not_over cir_all (by decide) (by decide)
theorem cir_rising : ∀ t ∈ cirT, Rising t := by decide

/-- What the map tells of them. -/
theorem cir_told {ts ss : List (List UInt8)} (ht : ts.map ints = cirL.map srt) (hn : ss.Nodup) (hm : ∀ x, x ∈ ss ↔ FaceOf ts x ∧ ¬ InnerOf ts x) : (srtS ss).map ints = cirF := by
  rw [cir_srt] at ht
  have := facets_same (ts := ts) (ss := ss) (all := cirA) (fun t h => cir_rising _ (by rw [← ht]; exact List.mem_map.2 ⟨t, h, rfl⟩)) (by rw [ht]; exact cir_all) hn hm
  rw [cir_facets] at this
  exact this
theorem cir_few {ts : List (List UInt8)} (ht : ts.map ints = cirL.map srt) : ¬ Over ts := fun h => cir_not_over (by rw [← cir_srt, ← ht]; exact over_ints.2 h)

end Go.Proofs.YtkmecdgnoemimaaDoor

namespace Go.Proofs.YtkmecdgnoemimaaDoor
open Go.RowKit Go.Sort

theorem slice_new (w : World) (cs : List Value) (t : TypeId) : SliceIn anyBlock (w.alloc (.cells cs.toArray t)) (.slice (some ⟨w.heap.size, 0, none⟩) cs.length cs.length) cs := by
  refine ⟨_, _, rfl, ⟨Nat.le_refl _, fun h => by cases h⟩, fun _ => ⟨w.heap.size, 0, rfl, trivial, fun k u hu => ?_⟩⟩
  rw [Nat.zero_add, World.cell?_alloc_new]
  simpa using hu
theorem ints_new (w : World) (xs : List Int) : Ints (w.alloc (.cells (xs.map (Value.int .i64)).toArray 3)) (.slice (some ⟨w.heap.size, 0, none⟩) xs.length xs.length) xs := by
  have := slice_new w (xs.map (Value.int .i64)) 3
  simpa [Ints, IntsIn] using this

/-- Four rows, laid one behind the other, and the row of them. -/
theorem rows_four (w : World) (x0 x1 x2 x3 : List Int) :
    Rows (((((w.alloc (.cells (x0.map (Value.int .i64)).toArray 3)).alloc (.cells (x1.map (Value.int .i64)).toArray 3)).alloc (.cells (x2.map (Value.int .i64)).toArray 3)).alloc (.cells (x3.map (Value.int .i64)).toArray 3)).alloc
      (.cells #[.slice (some ⟨w.heap.size, 0, none⟩) x0.length x0.length, .slice (some ⟨w.heap.size + 1, 0, none⟩) x1.length x1.length, .slice (some ⟨w.heap.size + 1 + 1, 0, none⟩) x2.length x2.length, .slice (some ⟨w.heap.size + 1 + 1 + 1, 0, none⟩) x3.length x3.length] 37))
      (.slice (some ⟨w.heap.size + 1 + 1 + 1 + 1, 0, none⟩) 4 4) [x0, x1, x2, x3] := by
  have g : ∀ (W : World) (o : Obj), Below W.heap.size W (W.alloc o) := fun W o => (Below.refl _ W).alloc (Nat.le_refl _) o
  have i0 := ((((ints_new w x0).below (g _ (.cells (x1.map (Value.int .i64)).toArray 3))).below (g _ (.cells (x2.map (Value.int .i64)).toArray 3))).below (g _ (.cells (x3.map (Value.int .i64)).toArray 3))).below (g _ (.cells #[.slice (some ⟨w.heap.size, 0, none⟩) x0.length x0.length, .slice (some ⟨w.heap.size + 1, 0, none⟩) x1.length x1.length, .slice (some ⟨w.heap.size + 1 + 1, 0, none⟩) x2.length x2.length, .slice (some ⟨w.heap.size + 1 + 1 + 1, 0, none⟩) x3.length x3.length] 37))
  have i1 := (((ints_new (w.alloc (.cells (x0.map (Value.int .i64)).toArray 3)) x1).below (g _ (.cells (x2.map (Value.int .i64)).toArray 3))).below (g _ (.cells (x3.map (Value.int .i64)).toArray 3))).below (g _ (.cells #[.slice (some ⟨w.heap.size, 0, none⟩) x0.length x0.length, .slice (some ⟨w.heap.size + 1, 0, none⟩) x1.length x1.length, .slice (some ⟨w.heap.size + 1 + 1, 0, none⟩) x2.length x2.length, .slice (some ⟨w.heap.size + 1 + 1 + 1, 0, none⟩) x3.length x3.length] 37))
  have i2 := ((ints_new ((w.alloc (.cells (x0.map (Value.int .i64)).toArray 3)).alloc (.cells (x1.map (Value.int .i64)).toArray 3)) x2).below (g _ (.cells (x3.map (Value.int .i64)).toArray 3))).below (g _ (.cells #[.slice (some ⟨w.heap.size, 0, none⟩) x0.length x0.length, .slice (some ⟨w.heap.size + 1, 0, none⟩) x1.length x1.length, .slice (some ⟨w.heap.size + 1 + 1, 0, none⟩) x2.length x2.length, .slice (some ⟨w.heap.size + 1 + 1 + 1, 0, none⟩) x3.length x3.length] 37))
  have i3 := (ints_new (((w.alloc (.cells (x0.map (Value.int .i64)).toArray 3)).alloc (.cells (x1.map (Value.int .i64)).toArray 3)).alloc (.cells (x2.map (Value.int .i64)).toArray 3)) x3).below (g _ (.cells #[.slice (some ⟨w.heap.size, 0, none⟩) x0.length x0.length, .slice (some ⟨w.heap.size + 1, 0, none⟩) x1.length x1.length, .slice (some ⟨w.heap.size + 1 + 1, 0, none⟩) x2.length x2.length, .slice (some ⟨w.heap.size + 1 + 1 + 1, 0, none⟩) x3.length x3.length] 37))
  have hs := slice_new ((((w.alloc (.cells (x0.map (Value.int .i64)).toArray 3)).alloc (.cells (x1.map (Value.int .i64)).toArray 3)).alloc (.cells (x2.map (Value.int .i64)).toArray 3)).alloc (.cells (x3.map (Value.int .i64)).toArray 3)) [.slice (some ⟨w.heap.size, 0, none⟩) x0.length x0.length, .slice (some ⟨w.heap.size + 1, 0, none⟩) x1.length x1.length, .slice (some ⟨w.heap.size + 1 + 1, 0, none⟩) x2.length x2.length, .slice (some ⟨w.heap.size + 1 + 1 + 1, 0, none⟩) x3.length x3.length] 37
  simp only [World.size_alloc] at i1 i2 i3 hs
  refine ⟨_, hs, rfl, fun k u x hu hx => ?_⟩
  match k, hu, hx with
  | 0, hu, hx => simp at hu hx; subst hu; subst hx; exact i0
  | 1, hu, hx => simp at hu hx; subst hu; subst hx; exact i1
  | 2, hu, hx => simp at hu hx; subst hu; subst hx; exact i2
  | 3, hu, hx => simp at hu hx; subst hu; subst hx; exact i3
  | n + 4, hu, hx => simp at hu

theorem rows_three (w : World) (x0 x1 x2 : List Int) :
    Rows ((((w.alloc (.cells (x0.map (Value.int .i64)).toArray 3)).alloc (.cells (x1.map (Value.int .i64)).toArray 3)).alloc (.cells (x2.map (Value.int .i64)).toArray 3)).alloc (.cells #[.slice (some ⟨w.heap.size, 0, none⟩) x0.length x0.length, .slice (some ⟨w.heap.size + 1, 0, none⟩) x1.length x1.length, .slice (some ⟨w.heap.size + 1 + 1, 0, none⟩) x2.length x2.length] 37)) (.slice (some ⟨w.heap.size + 1 + 1 + 1, 0, none⟩) 3 3) [x0, x1, x2] := by
  have g : ∀ (W : World) (o : Obj), Below W.heap.size W (W.alloc o) := fun W o => (Below.refl _ W).alloc (Nat.le_refl _) o
  have i0 := (((ints_new w x0).below (g _ (.cells (x1.map (Value.int .i64)).toArray 3))).below (g _ (.cells (x2.map (Value.int .i64)).toArray 3))).below (g _ (.cells #[.slice (some ⟨w.heap.size, 0, none⟩) x0.length x0.length, .slice (some ⟨w.heap.size + 1, 0, none⟩) x1.length x1.length, .slice (some ⟨w.heap.size + 1 + 1, 0, none⟩) x2.length x2.length] 37))
  have i1 := ((ints_new (w.alloc (.cells (x0.map (Value.int .i64)).toArray 3)) x1).below (g _ (.cells (x2.map (Value.int .i64)).toArray 3))).below (g _ (.cells #[.slice (some ⟨w.heap.size, 0, none⟩) x0.length x0.length, .slice (some ⟨w.heap.size + 1, 0, none⟩) x1.length x1.length, .slice (some ⟨w.heap.size + 1 + 1, 0, none⟩) x2.length x2.length] 37))
  have i2 := (ints_new ((w.alloc (.cells (x0.map (Value.int .i64)).toArray 3)).alloc (.cells (x1.map (Value.int .i64)).toArray 3)) x2).below (g _ (.cells #[.slice (some ⟨w.heap.size, 0, none⟩) x0.length x0.length, .slice (some ⟨w.heap.size + 1, 0, none⟩) x1.length x1.length, .slice (some ⟨w.heap.size + 1 + 1, 0, none⟩) x2.length x2.length] 37))
  have hs := slice_new (((w.alloc (.cells (x0.map (Value.int .i64)).toArray 3)).alloc (.cells (x1.map (Value.int .i64)).toArray 3)).alloc (.cells (x2.map (Value.int .i64)).toArray 3)) [.slice (some ⟨w.heap.size, 0, none⟩) x0.length x0.length, .slice (some ⟨w.heap.size + 1, 0, none⟩) x1.length x1.length, .slice (some ⟨w.heap.size + 1 + 1, 0, none⟩) x2.length x2.length] 37
  simp only [World.size_alloc] at i1 i2 hs
  refine ⟨_, hs, rfl, fun k u x hu hx => ?_⟩
  match k, hu, hx with
  | 0, hu, hx => simp at hu hx; subst hu; subst hx; exact i0
  | 1, hu, hx => simp at hu hx; subst hu; subst hx; exact i1
  | 2, hu, hx => simp at hu hx; subst hu; subst hx; exact i2
  | n + 3, hu, hx => simp at hu

set_option maxRecDepth 100000 in
set_option maxHeartbeats 1000000 in
theorem circle_ {a : Nat → Addr} {s : Nat → ByteArray} (w : World) (hE : Errs a s w) :
    Calls Tryd.prog 5 #[] w fun e w' => e = .returned (.bool true) ∧ Below w.heap.size w w' := by
  have hR := rows_four w [1, 0] [1, 2] [2, 0] [1]
  have hB5 : Below w.heap.size w _ := (((((Below.refl _ w).alloc (Nat.le_refl _) (.cells (([1, 0] : List Int).map (Value.int .i64)).toArray 3)).alloc (by simp) (.cells (([1, 2] : List Int).map (Value.int .i64)).toArray 3)).alloc (by simp; omega) (.cells (([2, 0] : List Int).map (Value.int .i64)).toArray 3)).alloc (by simp; omega) (.cells (([1] : List Int).map (Value.int .i64)).toArray 3)).alloc (by simp; omega)
    (.cells #[.slice (some ⟨w.heap.size, 0, none⟩) 2 2, .slice (some ⟨w.heap.size + 1, 0, none⟩) 2 2, .slice (some ⟨w.heap.size + 1 + 1, 0, none⟩) 2 2, .slice (some ⟨w.heap.size + 1 + 1 + 1, 0, none⟩) 1 1] 37)
  have hmk := make_ _ cirL _ (hE.below hB5) hR (by decide) (by decide)
  clear hR
  go_enter Tryd.func5, Tryd.ntmps5
  go_wp2_with fail
  refine hmk.mono ?_
  clear hmk
  rintro e w2 ⟨hB2, ⟨hno, rfl⟩ | ⟨hok, ts, hts, ⟨hov, rfl⟩ | ⟨hov, v, ss, rfl, hown, hnd, hm⟩⟩⟩
  · exact absurd cir_ok hno
  · exact absurd hov (cir_few hts)
  · have hrow := hown.rows
    rw [cir_told hts hnd hm] at hrow
    have hBw2 : Below w.heap.size w w2 := hB5.trans (hB2.mono hB5.size)
    obtain ⟨av, cv, rfl, -, -⟩ := hrow.open_
    have HRW : Hid (Rows w2 (.slice av cirF.length cv) cirF) := hrow
    clear hrow hown hm hts hok hov hnd hB2
    have hR3 := rows_three (w2.alloc (.cells #[.slice av cirF.length cv] 27)) [0, 1] [0, 2] [1, 2]
    simp only [World.size_alloc] at hR3
    have hB3 : Below w2.heap.size w2 (((((w2.alloc (.cells #[.slice av cirF.length cv] 27)).alloc (.cells (([0, 1] : List Int).map (Value.int .i64)).toArray 3)).alloc (.cells (([0, 2] : List Int).map (Value.int .i64)).toArray 3)).alloc (.cells (([1, 2] : List Int).map (Value.int .i64)).toArray 3)).alloc
        (.cells #[.slice (some ⟨w2.heap.size + 1, 0, none⟩) 2 2, .slice (some ⟨w2.heap.size + 1 + 1, 0, none⟩) 2 2, .slice (some ⟨w2.heap.size + 1 + 1 + 1, 0, none⟩) 2 2] 37)) :=
      (((((Below.refl _ w2).alloc (Nat.le_refl _) _).alloc (by simp) _).alloc (by simp; omega) _).alloc (by simp; omega) _).alloc (by simp; omega) _
    have hsl := same_lists _ _ cirF cirF _ (HRW.out.below hB3) hR3 (by decide) (by decide)
    rw [decide_eq_true rfl] at hsl
    clear hR3
    go_wp2_with fail
    refine hsl.mono ?_
    clear hsl
    rintro e w3 ⟨rfl, q, rfl⟩
    go_wp2
    go_ret
    exact ⟨rfl, (hBw2.trans (hB3.mono hBw2.size)).trans ⟨rfl, rfl, rfl, Nat.le_refl _, fun _ _ => rfl⟩⟩

end Go.Proofs.YtkmecdgnoemimaaDoor
