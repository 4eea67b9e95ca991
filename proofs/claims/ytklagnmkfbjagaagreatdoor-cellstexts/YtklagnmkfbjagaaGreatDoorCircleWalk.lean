/- What the statements' circle answers: true. -/
import Derived.Test.YtklagnmkfbjagaaGreatDoorCircle
namespace Go.Proofs.YtklagnmkfbjagaaGreatDoor
open Go.RowKit Go.Sort

theorem slice_new (w : World) (cs : List Value) (t : TypeId) : SliceIn anyBlock (w.alloc (.cells cs.toArray t)) (.slice (some ⟨w.heap.size, 0, none⟩) cs.length cs.length) cs := by
  refine ⟨_, _, rfl, ⟨Nat.le_refl _, fun h => by cases h⟩, fun _ => ⟨w.heap.size, 0, rfl, trivial, fun k u hu => ?_⟩⟩
  rw [Nat.zero_add, World.cell?_alloc_new]
  simpa using hu
theorem ints_new (w : World) (xs : List Int) : Ints (w.alloc (.cells (xs.map (Value.int .i64)).toArray 3)) (.slice (some ⟨w.heap.size, 0, none⟩) xs.length xs.length) xs := by
  have := slice_new w (xs.map (Value.int .i64)) 3
  simpa [Ints, IntsIn] using this

/-- Four rows, laid one behind the other, and the row of them. -/
theorem rows_four (w : World) (x0 x1 x2 x3 : List Int) :
    Rows (((((w.alloc (.cells (x0.map (Value.int .i64)).toArray 3)).alloc (.cells (x1.map (Value.int .i64)).toArray 3)).alloc (.cells (x2.map (Value.int .i64)).toArray 3)).alloc (.cells (x3.map (Value.int .i64)).toArray 3)).alloc
      (.cells #[.slice (some ⟨w.heap.size, 0, none⟩) x0.length x0.length, .slice (some ⟨w.heap.size + 1, 0, none⟩) x1.length x1.length, .slice (some ⟨w.heap.size + 1 + 1, 0, none⟩) x2.length x2.length, .slice (some ⟨w.heap.size + 1 + 1 + 1, 0, none⟩) x3.length x3.length] 45))
      (.slice (some ⟨w.heap.size + 1 + 1 + 1 + 1, 0, none⟩) 4 4) [x0, x1, x2, x3] := by
  have g : ∀ (W : World) (o : Obj), Below W.heap.size W (W.alloc o) := fun W o => (Below.refl _ W).alloc (Nat.le_refl _) o
  have i0 := ((((ints_new w x0).below (g _ (.cells (x1.map (Value.int .i64)).toArray 3))).below (g _ (.cells (x2.map (Value.int .i64)).toArray 3))).below (g _ (.cells (x3.map (Value.int .i64)).toArray 3))).below (g _ (.cells #[.slice (some ⟨w.heap.size, 0, none⟩) x0.length x0.length, .slice (some ⟨w.heap.size + 1, 0, none⟩) x1.length x1.length, .slice (some ⟨w.heap.size + 1 + 1, 0, none⟩) x2.length x2.length, .slice (some ⟨w.heap.size + 1 + 1 + 1, 0, none⟩) x3.length x3.length] 45))
  have i1 := (((ints_new (w.alloc (.cells (x0.map (Value.int .i64)).toArray 3)) x1).below (g _ (.cells (x2.map (Value.int .i64)).toArray 3))).below (g _ (.cells (x3.map (Value.int .i64)).toArray 3))).below (g _ (.cells #[.slice (some ⟨w.heap.size, 0, none⟩) x0.length x0.length, .slice (some ⟨w.heap.size + 1, 0, none⟩) x1.length x1.length, .slice (some ⟨w.heap.size + 1 + 1, 0, none⟩) x2.length x2.length, .slice (some ⟨w.heap.size + 1 + 1 + 1, 0, none⟩) x3.length x3.length] 45))
  have i2 := ((ints_new ((w.alloc (.cells (x0.map (Value.int .i64)).toArray 3)).alloc (.cells (x1.map (Value.int .i64)).toArray 3)) x2).below (g _ (.cells (x3.map (Value.int .i64)).toArray 3))).below (g _ (.cells #[.slice (some ⟨w.heap.size, 0, none⟩) x0.length x0.length, .slice (some ⟨w.heap.size + 1, 0, none⟩) x1.length x1.length, .slice (some ⟨w.heap.size + 1 + 1, 0, none⟩) x2.length x2.length, .slice (some ⟨w.heap.size + 1 + 1 + 1, 0, none⟩) x3.length x3.length] 45))
  have i3 := (ints_new (((w.alloc (.cells (x0.map (Value.int .i64)).toArray 3)).alloc (.cells (x1.map (Value.int .i64)).toArray 3)).alloc (.cells (x2.map (Value.int .i64)).toArray 3)) x3).below (g _ (.cells #[.slice (some ⟨w.heap.size, 0, none⟩) x0.length x0.length, .slice (some ⟨w.heap.size + 1, 0, none⟩) x1.length x1.length, .slice (some ⟨w.heap.size + 1 + 1, 0, none⟩) x2.length x2.length, .slice (some ⟨w.heap.size + 1 + 1 + 1, 0, none⟩) x3.length x3.length] 45))
  have hs := slice_new ((((w.alloc (.cells (x0.map (Value.int .i64)).toArray 3)).alloc (.cells (x1.map (Value.int .i64)).toArray 3)).alloc (.cells (x2.map (Value.int .i64)).toArray 3)).alloc (.cells (x3.map (Value.int .i64)).toArray 3)) [.slice (some ⟨w.heap.size, 0, none⟩) x0.length x0.length, .slice (some ⟨w.heap.size + 1, 0, none⟩) x1.length x1.length, .slice (some ⟨w.heap.size + 1 + 1, 0, none⟩) x2.length x2.length, .slice (some ⟨w.heap.size + 1 + 1 + 1, 0, none⟩) x3.length x3.length] 45
  simp only [World.size_alloc] at i1 i2 i3 hs
  refine ⟨_, hs, rfl, fun k u x hu hx => ?_⟩
  match k, hu, hx with
  | 0, hu, hx => simp at hu hx; subst hu; subst hx; exact i0
  | 1, hu, hx => simp at hu hx; subst hu; subst hx; exact i1
  | 2, hu, hx => simp at hu hx; subst hu; subst hx; exact i2
  | 3, hu, hx => simp at hu hx; subst hu; subst hx; exact i3
  | n + 4, hu, hx => simp at hu

theorem rows_three (w : World) (x0 x1 x2 : List Int) :
    Rows ((((w.alloc (.cells (x0.map (Value.int .i64)).toArray 3)).alloc (.cells (x1.map (Value.int .i64)).toArray 3)).alloc (.cells (x2.map (Value.int .i64)).toArray 3)).alloc (.cells #[.slice (some ⟨w.heap.size, 0, none⟩) x0.length x0.length, .slice (some ⟨w.heap.size + 1, 0, none⟩) x1.length x1.length, .slice (some ⟨w.heap.size + 1 + 1, 0, none⟩) x2.length x2.length] 45)) (.slice (some ⟨w.heap.size + 1 + 1 + 1, 0, none⟩) 3 3) [x0, x1, x2] := by
  have g : ∀ (W : World) (o : Obj), Below W.heap.size W (W.alloc o) := fun W o => (Below.refl _ W).alloc (Nat.le_refl _) o
  have i0 := (((ints_new w x0).below (g _ (.cells (x1.map (Value.int .i64)).toArray 3))).below (g _ (.cells (x2.map (Value.int .i64)).toArray 3))).below (g _ (.cells #[.slice (some ⟨w.heap.size, 0, none⟩) x0.length x0.length, .slice (some ⟨w.heap.size + 1, 0, none⟩) x1.length x1.length, .slice (some ⟨w.heap.size + 1 + 1, 0, none⟩) x2.length x2.length] 45))
  have i1 := ((ints_new (w.alloc (.cells (x0.map (Value.int .i64)).toArray 3)) x1).below (g _ (.cells (x2.map (Value.int .i64)).toArray 3))).below (g _ (.cells #[.slice (some ⟨w.heap.size, 0, none⟩) x0.length x0.length, .slice (some ⟨w.heap.size + 1, 0, none⟩) x1.length x1.length, .slice (some ⟨w.heap.size + 1 + 1, 0, none⟩) x2.length x2.length] 45))
  have i2 := (ints_new ((w.alloc (.cells (x0.map (Value.int .i64)).toArray 3)).alloc (.cells (x1.map (Value.int .i64)).toArray 3)) x2).below (g _ (.cells #[.slice (some ⟨w.heap.size, 0, none⟩) x0.length x0.length, .slice (some ⟨w.heap.size + 1, 0, none⟩) x1.length x1.length, .slice (some ⟨w.heap.size + 1 + 1, 0, none⟩) x2.length x2.length] 45))
  have hs := slice_new (((w.alloc (.cells (x0.map (Value.int .i64)).toArray 3)).alloc (.cells (x1.map (Value.int .i64)).toArray 3)).alloc (.cells (x2.map (Value.int .i64)).toArray 3)) [.slice (some ⟨w.heap.size, 0, none⟩) x0.length x0.length, .slice (some ⟨w.heap.size + 1, 0, none⟩) x1.length x1.length, .slice (some ⟨w.heap.size + 1 + 1, 0, none⟩) x2.length x2.length] 45
  simp only [World.size_alloc] at i1 i2 hs
  refine ⟨_, hs, rfl, fun k u x hu hx => ?_⟩
  match k, hu, hx with
  | 0, hu, hx => simp at hu hx; subst hu; subst hx; exact i0
  | 1, hu, hx => simp at hu hx; subst hu; subst hx; exact i1
  | 2, hu, hx => simp at hu hx; subst hu; subst hx; exact i2
  | n + 3, hu, hx => simp at hu

set_option maxRecDepth 100000 in
set_option maxHeartbeats 1000000 in
theorem circle_ {a : Nat → Addr} {s : Nat → ByteArray} (w : World) (hE : Errs a s w) :
    Calls Tryz.prog 4 #[] w fun e w' => e = .returned (.bool true) ∧ Below w.heap.size w w' := by
  have hR := rows_four w [1, 0] [1, 2] [2, 0] [1]
  have hB5 : Below w.heap.size w _ := (((((Below.refl _ w).alloc (Nat.le_refl _) (.cells (([1, 0] : List Int).map (Value.int .i64)).toArray 3)).alloc (by simp) (.cells (([1, 2] : List Int).map (Value.int .i64)).toArray 3)).alloc (by simp; omega) (.cells (([2, 0] : List Int).map (Value.int .i64)).toArray 3)).alloc (by simp; omega) (.cells (([1] : List Int).map (Value.int .i64)).toArray 3)).alloc (by simp; omega)
    (.cells #[.slice (some ⟨w.heap.size, 0, none⟩) 2 2, .slice (some ⟨w.heap.size + 1, 0, none⟩) 2 2, .slice (some ⟨w.heap.size + 1 + 1, 0, none⟩) 2 2, .slice (some ⟨w.heap.size + 1 + 1 + 1, 0, none⟩) 1 1] 45)
  have hmk := make_ _ cirL _ (hE.below hB5) hR (by decide) (by decide)
  clear hR
  go_enter Tryz.func4, Tryz.ntmps4
  go_wp2_with fail
  refine hmk.mono ?_
  clear hmk
  rintro e w2 ⟨hB2, ⟨hno, rfl⟩ | ⟨hok, ts, hts, ⟨hov, rfl⟩ | ⟨hov, v, ss, rfl, hown, hnd, hm⟩⟩⟩
  · exact absurd cir_ok hno
  · exact absurd hov (cir_few hts)
  · have hrow := hown.rows
    rw [cir_told hts hnd hm] at hrow
    have hBw2 : Below w.heap.size w w2 := hB5.trans (hB2.mono hB5.size)
    obtain ⟨av, cv, rfl, -, -⟩ := hrow.open_
    have HRW : Hid (Rows w2 (.slice av cirF.length cv) cirF) := hrow
    clear hrow hown hm hts hok hov hnd hB2
    have hR3 := rows_three (w2.alloc (.cells #[.slice av cirF.length cv] 31)) [0, 1] [0, 2] [1, 2]
    simp only [World.size_alloc] at hR3
    have hB3 : Below w2.heap.size w2 (((((w2.alloc (.cells #[.slice av cirF.length cv] 31)).alloc (.cells (([0, 1] : List Int).map (Value.int .i64)).toArray 3)).alloc (.cells (([0, 2] : List Int).map (Value.int .i64)).toArray 3)).alloc (.cells (([1, 2] : List Int).map (Value.int .i64)).toArray 3)).alloc
        (.cells #[.slice (some ⟨w2.heap.size + 1, 0, none⟩) 2 2, .slice (some ⟨w2.heap.size + 1 + 1, 0, none⟩) 2 2, .slice (some ⟨w2.heap.size + 1 + 1 + 1, 0, none⟩) 2 2] 45)) :=
      (((((Below.refl _ w2).alloc (Nat.le_refl _) _).alloc (by simp) _).alloc (by simp; omega) _).alloc (by simp; omega) _).alloc (by simp; omega) _
    have hsl := same_lists _ _ cirF cirF _ (HRW.out.below hB3) hR3 (by decide) (by decide)
    rw [decide_eq_true rfl] at hsl
    clear hR3
    go_wp2_with fail
    refine hsl.mono ?_
    clear hsl
    rintro e w3 ⟨rfl, q, rfl⟩
    go_wp2
    go_ret
    exact ⟨rfl, (hBw2.trans (hB3.mono hBw2.size)).trans ⟨rfl, rfl, rfl, Nat.le_refl _, fun _ _ => rfl⟩⟩

end Go.Proofs.YtklagnmkfbjagaaGreatDoor
