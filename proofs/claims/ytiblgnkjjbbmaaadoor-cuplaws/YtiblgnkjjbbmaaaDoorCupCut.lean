/- Plain facts on the four closed sets of the statements' circle: their faces, their facets. Worlds that have drawn; the numbers below n of which something holds, one more. The statements' closed fact on cochains: of three edges each sum of two is a delta. -/
import Derived.Test.YtiblgnkjjbbmaaaDoorClosedDefs
import Derived.Test.YtiblgnkjjbbmaaaDoorOpen
import Derived.Test.YtiblgnkjjbbmaaaDoorCupRefMath
import Derived.Test.YtiblgnkjjbbmaaaDoorRefC
import Derived.Test.YtiblgnkjjbbmaaaDoorCupFaces1
namespace Go.Proofs.YtiblgnkjjbbmaaaDoor
open Go.RowKit Go.Sort

/-- The four sets, and what they come to. -/
def cirL : List (List Int) := [[1, 0], [1, 2], [2, 0], [1]]
def cirT : List (List Int) := [[0, 1], [1, 2], [0, 2], [1]]
def cirA : List (List Int) := [[0], [0, 1], [0, 2], [1], [1, 2], [2]]
def cirF : List (List Int) := [[0, 1], [0, 2], [1, 2]]

theorem cir_ok : ∀ x ∈ cirL, SetOk x := by
  intro x hx
  unfold cirL at hx
  simp only [List.mem_cons, List.not_mem_nil, or_false] at hx
  rcases hx with rfl | rfl | rfl | rfl <;> (unfold SetOk; decide)
theorem cir_srt : cirL.map srt = cirT := by
  have h1 : srt [1, 0] = [0, 1] := (srt_told (by decide) (by decide) (fun v => by simp; omega)).symm
  have h2 : srt [1, 2] = [1, 2] := (srt_told (by decide) (by decide) (fun v => by simp)).symm
  have h3 : srt [2, 0] = [0, 2] := (srt_told (by decide) (by decide) (fun v => by simp; omega)).symm
  have h4 : srt [1] = [1] := (srt_told (by decide) (by decide) (fun v => by simp)).symm
  simp [cirL, cirT, h1, h2, h3, h4]
theorem cir_sub {x t : List Int} (ht : t ∈ cirT) (h : x.Sublist t) (hx : x ≠ []) : x ∈ cirA := by
  obtain ⟨b, hb, rfl⟩ := pick_all h
  unfold cirT at ht
  simp only [List.mem_cons, List.not_mem_nil, or_false] at ht
  rcases ht with rfl | rfl | rfl | rfl
  · have hb4 : b < 4 := hb
    rcases (show b = 0 ∨ b = 1 ∨ b = 2 ∨ b = 3 by omega) with rfl | rfl | rfl | rfl
    · exact absurd (by decide) hx
    · decide
    · decide
    · decide
  · have hb4 : b < 4 := hb
    rcases (show b = 0 ∨ b = 1 ∨ b = 2 ∨ b = 3 by omega) with rfl | rfl | rfl | rfl
    · exact absurd (by decide) hx
    · decide
    · decide
    · decide
  · have hb4 : b < 4 := hb
    rcases (show b = 0 ∨ b = 1 ∨ b = 2 ∨ b = 3 by omega) with rfl | rfl | rfl | rfl
    · exact absurd (by decide) hx
    · decide
    · decide
    · decide
  · have hb4 : b < 2 := hb
    rcases (show b = 0 ∨ b = 1 by omega) with rfl | rfl
    · exact absurd (by decide) hx
    · decide
theorem cir_all : IsAll cirT cirA where
  order := by decide
  mem := fun x => by
    constructor
    · intro hx
      unfold cirA at hx
      simp only [List.mem_cons, List.not_mem_nil, or_false] at hx
      rcases hx with rfl | rfl | rfl | rfl | rfl | rfl
      · exact ⟨by decide, [0, 1], by decide, by decide⟩
      · exact ⟨by decide, [0, 1], by decide, by decide⟩
      · exact ⟨by decide, [0, 2], by decide, by decide⟩
      · exact ⟨by decide, [0, 1], by decide, by decide⟩
      · exact ⟨by decide, [1, 2], by decide, by decide⟩
      · exact ⟨by decide, [1, 2], by decide, by decide⟩
    · rintro ⟨h, t, ht, hs⟩
      exact cir_sub ht hs h
theorem cir_facets : facetsI cirA = cirF := by decide
theorem cir_not_over : ¬ Over cirT := not_over cir_all (by decide) (by decide)
theorem cir_rising : ∀ t ∈ cirT, Rising t := by decide

/-- What the map tells of them. -/
theorem cir_told {ts ss : List (List UInt8)} (ht : ts.map ints = cirL.map srt) (hn : ss.Nodup) (hm : ∀ x, x ∈ ss ↔ FaceOf ts x ∧ ¬ InnerOf ts x) : (srtS ss).map ints = cirF := by
  rw [cir_srt] at ht
  have := facets_same (ts := ts) (ss := ss) (all := cirA) (fun t h => cir_rising _ (by rw [← ht]; exact List.mem_map.2 ⟨t, h, rfl⟩)) (by rw [ht]; exact cir_all) hn hm
  rw [cir_facets] at this
  exact this
theorem cir_few {ts : List (List UInt8)} (ht : ts.map ints = cirL.map srt) : ¬ Over ts := fun h => cir_not_over (by rw [← cir_srt, ← ht]; exact over_ints.2 h)

end Go.Proofs.YtiblgnkjjbbmaaaDoor

namespace Go.Proofs.YtiblgnkjjbbmaaaDoor
open Go.RowKit Go.Sort

theorem filter_next (p : Nat → Bool) (k : Nat) : (List.range (k + 1)).filter p = if p k = true then (List.range k).filter p ++ [k] else (List.range k).filter p := by
  rw [List.range_succ, List.filter_append]
  cases h : p k <;> simp [h]
theorem drew_cell (w : World) (n : Nat) (p : Addr) : (w.drewN n).cell? p = w.cell? p := rfl
theorem drew_below {m : Nat} (w : World) (n : Nat) : Below m w (w.drewN n) := ⟨rfl, rfl, rfl, Nat.le_refl _, fun _ _ => rfl⟩

end Go.Proofs.YtiblgnkjjbbmaaaDoor

namespace Go.Proofs.YtiblgnkjjbbmaaaDoor
open Go.RowKit Go.Sort

theorem slice_new (w : World) (cs : List Value) (t : TypeId) : SliceIn anyBlock (w.alloc (.cells cs.toArray t)) (.slice (some ⟨w.heap.size, 0, none⟩) cs.length cs.length) cs := by
  refine ⟨_, _, rfl, ⟨Nat.le_refl _, fun h => by cases h⟩, fun _ => ⟨w.heap.size, 0, rfl, trivial, fun k u hu => ?_⟩⟩
  rw [Nat.zero_add, World.cell?_alloc_new]
  simpa using hu
theorem ints_new (w : World) (xs : List Int) : Ints (w.alloc (.cells (xs.map (Value.int .i64)).toArray 3)) (.slice (some ⟨w.heap.size, 0, none⟩) xs.length xs.length) xs := by
  have := slice_new w (xs.map (Value.int .i64)) 3
  simpa [Ints, IntsIn] using this

theorem rows_three (w : World) (x0 x1 x2 : List Int) :
    Rows ((((w.alloc (.cells (x0.map (Value.int .i64)).toArray 3)).alloc (.cells (x1.map (Value.int .i64)).toArray 3)).alloc (.cells (x2.map (Value.int .i64)).toArray 3)).alloc (.cells #[.slice (some ⟨w.heap.size, 0, none⟩) x0.length x0.length, .slice (some ⟨w.heap.size + 1, 0, none⟩) x1.length x1.length, .slice (some ⟨w.heap.size + 1 + 1, 0, none⟩) x2.length x2.length] 23)) (.slice (some ⟨w.heap.size + 1 + 1 + 1, 0, none⟩) 3 3) [x0, x1, x2] := by
  have g : ∀ (W : World) (o : Obj), Below W.heap.size W (W.alloc o) := fun W o => (Below.refl _ W).alloc (Nat.le_refl _) o
  have i0 := (((ints_new w x0).below (g _ (.cells (x1.map (Value.int .i64)).toArray 3))).below (g _ (.cells (x2.map (Value.int .i64)).toArray 3))).below (g _ (.cells #[.slice (some ⟨w.heap.size, 0, none⟩) x0.length x0.length, .slice (some ⟨w.heap.size + 1, 0, none⟩) x1.length x1.length, .slice (some ⟨w.heap.size + 1 + 1, 0, none⟩) x2.length x2.length] 23))
  have i1 := ((ints_new (w.alloc (.cells (x0.map (Value.int .i64)).toArray 3)) x1).below (g _ (.cells (x2.map (Value.int .i64)).toArray 3))).below (g _ (.cells #[.slice (some ⟨w.heap.size, 0, none⟩) x0.length x0.length, .slice (some ⟨w.heap.size + 1, 0, none⟩) x1.length x1.length, .slice (some ⟨w.heap.size + 1 + 1, 0, none⟩) x2.length x2.length] 23))
  have i2 := (ints_new ((w.alloc (.cells (x0.map (Value.int .i64)).toArray 3)).alloc (.cells (x1.map (Value.int .i64)).toArray 3)) x2).below (g _ (.cells #[.slice (some ⟨w.heap.size, 0, none⟩) x0.length x0.length, .slice (some ⟨w.heap.size + 1, 0, none⟩) x1.length x1.length, .slice (some ⟨w.heap.size + 1 + 1, 0, none⟩) x2.length x2.length] 23))
  have hs := slice_new (((w.alloc (.cells (x0.map (Value.int .i64)).toArray 3)).alloc (.cells (x1.map (Value.int .i64)).toArray 3)).alloc (.cells (x2.map (Value.int .i64)).toArray 3)) [.slice (some ⟨w.heap.size, 0, none⟩) x0.length x0.length, .slice (some ⟨w.heap.size + 1, 0, none⟩) x1.length x1.length, .slice (some ⟨w.heap.size + 1 + 1, 0, none⟩) x2.length x2.length] 23
  simp only [World.size_alloc] at i1 i2 hs
  refine ⟨_, hs, rfl, fun k u x hu hx => ?_⟩
  match k, hu, hx with
  | 0, hu, hx => simp at hu hx; subst hu; subst hx; exact i0
  | 1, hu, hx => simp at hu hx; subst hu; subst hx; exact i1
  | 2, hu, hx => simp at hu hx; subst hu; subst hx; exact i2
  | n + 3, hu, hx => simp at hu

theorem srt_same {x : List Int} (h : Rising x) : srt x = x := (srt_told (h.imp (fun hab e => by omega)) h (fun _ => Iff.rfl)).symm
theorem cirF_srt : cirF.map srt = cirF := by
  show [srt [0, 1], srt [0, 2], srt [1, 2]] = [[0, 1], [0, 2], [1, 2]]
  rw [srt_same (by simp [Rising]), srt_same (by simp [Rising]), srt_same (by simp [Rising])]
theorem cirF_all : IsAll cirF cirA where
  order := cir_all.order
  mem x := by
    rw [cir_all.mem x]
    constructor
    · rintro ⟨h0, t, ht, hs⟩
      refine ⟨h0, ?_⟩
      simp only [cirT, List.mem_cons, List.not_mem_nil, or_false] at ht
      rcases ht with rfl | rfl | rfl | rfl
      · exact ⟨_, by simp [cirF], hs⟩
      · exact ⟨_, by simp [cirF], hs⟩
      · exact ⟨_, by simp [cirF], hs⟩
      · exact ⟨[0, 1], by simp [cirF], hs.trans (List.sublist_cons_self _ _)⟩
    · rintro ⟨h0, t, ht, hs⟩
      refine ⟨h0, t, ?_, hs⟩
      simp only [cirF, List.mem_cons, List.not_mem_nil, or_false] at ht
      rcases ht with rfl | rfl | rfl <;> simp [cirT]
theorem good_cir : Good cirF cirA where
  ok := fun x hx => by
    simp only [cirF, List.mem_cons, List.not_mem_nil, or_false] at hx
    rcases hx with rfl | rfl | rfl <;> exact ⟨by simp, by simp, by simp⟩
  few := by rw [cirF_srt]; exact not_over cirF_all (by decide) (by decide)
  isAll := by rw [cirF_srt]; exact cirF_all
  same := cir_facets
theorem cir_delta : bitsI (deltaW cirA 0 (maskN [0])) = [0, 1] := by decide +kernel

set_option maxRecDepth 100000 in
set_option maxHeartbeats 1000000 in
theorem cut_ {a : Nat → Addr} {s : Nat → ByteArray} (w : World) (hE : Errs a s w) (hT : TabOk w) :
    Calls Tryd.prog 4 #[] w fun e w' => e = .returned (.bool true) ∧ Below w.heap.size w w' := by
  have hR := rows_three w [0, 1] [0, 2] [1, 2]
  have hB4 : Below w.heap.size w _ := ((((Below.refl _ w).alloc (Nat.le_refl _) (.cells (([0, 1] : List Int).map (Value.int .i64)).toArray 3)).alloc (by simp) (.cells (([0, 2] : List Int).map (Value.int .i64)).toArray 3)).alloc (by simp; omega) (.cells (([1, 2] : List Int).map (Value.int .i64)).toArray 3)).alloc (by simp; omega) (.cells #[.slice (some ⟨w.heap.size, 0, none⟩) 2 2, .slice (some ⟨w.heap.size + 1, 0, none⟩) 2 2, .slice (some ⟨w.heap.size + 1 + 1, 0, none⟩) 2 2] 23)
  obtain ⟨W4, hW4⟩ : ∃ W4, (((w.alloc (.cells (([0, 1] : List Int).map (Value.int .i64)).toArray 3)).alloc (.cells (([0, 2] : List Int).map (Value.int .i64)).toArray 3)).alloc (.cells (([1, 2] : List Int).map (Value.int .i64)).toArray 3)).alloc (.cells #[.slice (some ⟨w.heap.size, 0, none⟩) 2 2, .slice (some ⟨w.heap.size + 1, 0, none⟩) 2 2, .slice (some ⟨w.heap.size + 1 + 1, 0, none⟩) 2 2] 23) = W4 := ⟨_, rfl⟩
  have HW4 := Hid.mk' hW4
  have hz4 : W4.heap.size = w.heap.size + 1 + 1 + 1 + 1 := by rw [← hW4]; simp
  replace hR : Rows W4 (.slice (some ⟨w.heap.size + 1 + 1 + 1, 0, none⟩) 3 3) cirF := by rw [← hW4]; exact hR
  rw [hW4] at hB4
  have b5 : Below W4.heap.size W4 (W4.alloc (.cells #[.slice (some ⟨w.heap.size + 1 + 1 + 1, 0, none⟩) 3 3] 30)) := (Below.refl _ W4).alloc (Nat.le_refl _) _
  have q5 := (box_new W4 (.slice (some ⟨w.heap.size + 1 + 1 + 1, 0, none⟩) 3 3) 30).1
  obtain ⟨W5, hW5⟩ : ∃ W5, W4.alloc (.cells #[.slice (some ⟨w.heap.size + 1 + 1 + 1, 0, none⟩) 3 3] 30) = W5 := ⟨_, rfl⟩
  have HW5 := Hid.mk' hW5
  have hz5 : W5.heap.size = W4.heap.size + 1 := by rw [← hW5]; simp
  rw [hW5] at b5 q5
  have hB5 : Below w.heap.size w W5 := hB4.trans (b5.mono hB4.size)
  have i6 := ints_new W5 [0]
  have b6 : Below W5.heap.size W5 (W5.alloc (.cells #[.int .i64 0] 3)) := (Below.refl _ W5).alloc (Nat.le_refl _) _
  have hB6 : Below w.heap.size w (W5.alloc (.cells #[.int .i64 0] 3)) := hB5.trans (b6.mono hB5.size)
  have hde : Calls Tryd.prog 9 #[.agg #[.slice (some ⟨w.heap.size + 1 + 1 + 1, 0, none⟩) 3 3], .int .i64 0, .slice (some ⟨W5.heap.size, 0, none⟩) 1 1] (W5.alloc (.cells #[.int .i64 0] 3)) fun e w' => ∃ u, e = .returned (.tuple #[u, .nilIface]) ∧ IntsIn (fun b => (W5.alloc (.cells #[.int .i64 0] 3)).heap.size ≤ b) w' u [0, 1] ∧ Below (W5.alloc (.cells #[.int .i64 0] 3)).heap.size (W5.alloc (.cells #[.int .i64 0] 3)) w' := by
    have h := cupDelta_ok (d := 0) (f := [0]) good_cir (by decide) (by decide) ⟨by simp, by decide⟩ (.slice (some ⟨w.heap.size + 1 + 1 + 1, 0, none⟩) 3 3) (.slice (some ⟨W5.heap.size, 0, none⟩) 1 1) (W5.alloc (.cells #[.int .i64 0] 3)) (hE.below hB6) (hT.below hB6) ((hR.below b5).below b6) (by decide) (by decide) i6 (by decide)
    rw [cir_delta] at h
    exact h
  have q6 : (W5.alloc (.cells #[.int .i64 0] 3)).cell? ⟨W4.heap.size, 0, none⟩ = some (.slice (some ⟨w.heap.size + 1 + 1 + 1, 0, none⟩) 3 3) := (b6.cell (p := ⟨W4.heap.size, 0, none⟩) (by show W4.heap.size < W5.heap.size; omega)).trans q5
  have HB6 := Hid.mk' hB6
  clear hE hT hR hB4 hW4 hW5 b5 hB5 i6 b6 hB6 hz5
  go_enter Tryd.func4, Tryd.ntmps4
  go_upto_region 2 with fail
  rw [show (((w.alloc (.cells #[.int .i64 0, .int .i64 1] 3)).alloc (.cells #[.int .i64 0, .int .i64 2] 3)).alloc (.cells #[.int .i64 1, .int .i64 2] 3)).alloc (.cells #[.slice (some ⟨w.heap.size, 0, none⟩) 2 2, .slice (some ⟨w.heap.size + 1, 0, none⟩) 2 2, .slice (some ⟨w.heap.size + 1 + 1, 0, none⟩) 2 2] 23) = W4 from HW4.out, HW5.out, ← hz4]
  clear hz4
  go_wp2_with fail
  refine hde.mono ?_
  clear hde
  rintro e V ⟨u, rfl, hu, hV⟩
  have HBV : Hid (Below w.heap.size w V) := HB6.out.trans (hV.mono HB6.out.size)
  have i8 := ints_new V [0, 1]
  have b8 : Below V.heap.size V (V.alloc (.cells #[.int .i64 0, .int .i64 1] 3)) := (Below.refl _ V).alloc (Nat.le_refl _) _
  have hsi := same_ints u (.slice (some ⟨V.heap.size, 0, none⟩) 2 2) [0, 1] [0, 1] (V.alloc (.cells #[.int .i64 0, .int .i64 1] 3)) (hu.any.below b8) i8 (by decide)
  rw [decide_eq_true rfl] at hsi
  have HB8 : Hid (Below w.heap.size w (V.alloc (.cells #[.int .i64 0, .int .i64 1] 3))) := HBV.out.trans (b8.mono HBV.out.size)
  obtain ⟨au, cu, rfl, -, -⟩ := hu.open_
  clear hu hV i8 b8 q6
  go_wp2_with fail
  refine hsi.mono ?_
  clear hsi
  rintro e V2 ⟨rfl, q, rfl⟩
  go_wp2_with fail
  go_ret
  exact ⟨rfl, HB8.out.trans (drew_below _ _)⟩

end Go.Proofs.YtiblgnkjjbbmaaaDoor
