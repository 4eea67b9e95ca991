/- Normal's errors; and the document's answer on normal forms. -/
import Derived.Test.YtkaplnjknobdpaaDoorSurfNormal2
namespace Go.Proofs.YtkaplnjknobdpaaDoor
open Go.RowKit Go.Sort

theorem box3_new (w : World) (x0 x1 x2 : Value) (t : TypeId) : (w.alloc (.cells #[x0, x1, x2] t)).cell? ⟨w.heap.size, 0, none⟩ = some x0 ∧ (w.alloc (.cells #[x0, x1, x2] t)).cell? ⟨w.heap.size, 1, none⟩ = some x1 ∧ (w.alloc (.cells #[x0, x1, x2] t)).cell? ⟨w.heap.size, 2, none⟩ = some x2 := by
  have q := cells_new w [x0, x1, x2] t
  have q0 := q 0 _ rfl
  have q1 := q 1 _ rfl
  have q2 := q 2 _ rfl
  rw [Addr.add_lit, Nat.zero_add] at q0 q1 q2
  exact ⟨q0, q1, q2⟩

set_option maxRecDepth 100000 in
set_option maxHeartbeats 1000000 in
theorem normal_shape {a : Nat → Addr} {s : Nat → ByteArray} (t : Bool) (g r : Int) (w : World) (hE : Errs a s w) (h : ShapeBad t g r) :
    Calls Tryd.prog 5 #[.agg #[.bool t, .int .i64 g, .int .i64 r]] w fun e w' => e = .returned (.tuple #[.slice none 0 0, .iface 137 (.pointer (some (a 2)))]) ∧ Below w.heap.size w w' := by
  have hB : Below w.heap.size w (w.alloc (.cells #[.bool t, .int .i64 g, .int .i64 r] 30)) := (Below.refl _ w).alloc (Nat.le_refl _) _
  have hgl : (w.alloc (.cells #[.bool t, .int .i64 g, .int .i64 r] 30)).cell? ⟨0, 0, none⟩ = some (.iface 137 (.pointer (some (a 2)))) := (hE.below hB).glob 2 (by decide)
  obtain ⟨x0, x1, x2⟩ := box3_new w (.bool t) (.int .i64 g) (.int .i64 r) 30
  obtain ⟨X, hX⟩ : ∃ X, w.alloc (.cells #[.bool t, .int .i64 g, .int .i64 r] 30) = X := ⟨_, rfl⟩
  have HX : Hid (w.alloc (.cells #[.bool t, .int .i64 g, .int .i64 r] 30) = X ∧ Below w.heap.size w X) := ⟨hX, by rw [← hX]; exact hB⟩
  rw [hX] at hgl x0 x1 x2
  clear hE hB hX
  by_cases hg : g < 0
  · clear h
    go_enter Tryd.func5, Tryd.ntmps5
    go_upto_region 1 with fail
    rw [HX.out.1]
    go_wp2_with fail
    go_region
    all_goals go_wp2_with fail
    all_goals go_ret2
    all_goals exact ⟨rfl, HX.out.2.drew⟩
  · have hgb : decide (g < 0) = false := decide_eq_false hg
    by_cases hr : r < 0
    · clear h
      go_enter Tryd.func5, Tryd.ntmps5
      go_upto_region 1 with fail
      rw [HX.out.1]
      go_wp2_with fail
      go_region
      all_goals go_wp2_with fail
      all_goals go_ret2
      all_goals exact ⟨rfl, HX.out.2.drew⟩
    · have hrb : decide (r < 0) = false := decide_eq_false hr
      obtain ⟨rfl, rfl⟩ : t = false ∧ g = 0 := by rcases h with h | h | h; exact absurd h hg; exact absurd h hr; exact h
      clear h
      go_enter Tryd.func5, Tryd.ntmps5
      go_upto_region 1 with fail
      rw [HX.out.1]
      go_wp2_with fail
      go_region
      all_goals go_wp2_with fail
      all_goals go_ret2
      all_goals exact ⟨rfl, HX.out.2.drew⟩

set_option maxRecDepth 100000 in
set_option maxHeartbeats 1000000 in
theorem normal_bound {a : Nat → Addr} {s : Nat → ByteArray} (t : Bool) (g r : Int) (w : World) (hE : Errs a s w) (h : ¬ ShapeBad t g r) (hf : fitsB t g r = false) :
    Calls Tryd.prog 5 #[.agg #[.bool t, .int .i64 g, .int .i64 r]] w fun e w' => e = .returned (.tuple #[.slice none 0 0, .iface 137 (.pointer (some (a 1)))]) ∧ Below w.heap.size w w' := by
  have hB : Below w.heap.size w (w.alloc (.cells #[.bool t, .int .i64 g, .int .i64 r] 30)) := (Below.refl _ w).alloc (Nat.le_refl _) _
  have hfi := fits_ t g r (w.alloc (.cells #[.bool t, .int .i64 g, .int .i64 r] 30)) h
  rw [hf] at hfi
  obtain ⟨x0, x1, x2⟩ := box3_new w (.bool t) (.int .i64 g) (.int .i64 r) 30
  obtain ⟨X, hX⟩ : ∃ X, w.alloc (.cells #[.bool t, .int .i64 g, .int .i64 r] 30) = X := ⟨_, rfl⟩
  have HX : Hid (w.alloc (.cells #[.bool t, .int .i64 g, .int .i64 r] 30) = X ∧ Below w.heap.size w X ∧ Errs a s w) := ⟨hX, by rw [← hX]; exact hB, hE⟩
  rw [hX] at hfi x0 x1 x2
  have hg : ¬ g < 0 := fun h' => h (.inl h')
  have hr : ¬ r < 0 := fun h' => h (.inr (.inl h'))
  have hgb : decide (g < 0) = false := decide_eq_false hg
  have hrb : decide (r < 0) = false := decide_eq_false hr
  clear hE hB hX hf
  cases t with
  | true =>
    go_enter Tryd.func5, Tryd.ntmps5
    go_upto_region 1 with fail
    rw [HX.out.1]
    go_wp2_with (first
      | (go_at_call 12; refine hfi.mono ?_; rintro e V ⟨rfl, hV⟩; have hgl : V.cell? ⟨1, 0, none⟩ = some (.iface 137 (.pointer (some (a 1)))) := (HX.out.2.2.below (HX.out.2.1.trans (hV.mono HX.out.2.1.size))).glob 1 (by decide); have HV := Hid.mk' (HX.out.2.1.trans (hV.mono HX.out.2.1.size)); clear hV hfi)
      | fail)
    go_region
    all_goals go_wp2_with fail
    all_goals go_ret2
    all_goals exact ⟨rfl, HV.out.drew⟩
  | false =>
    have hg1 : (g == 0) = false := beq_false_of_ne (fun e => h (.inr (.inr ⟨rfl, e⟩)))
    go_enter Tryd.func5, Tryd.ntmps5
    go_upto_region 1 with fail
    rw [HX.out.1]
    go_wp2_with (first
      | (go_at_call 12; refine hfi.mono ?_; rintro e V ⟨rfl, hV⟩; have hgl : V.cell? ⟨1, 0, none⟩ = some (.iface 137 (.pointer (some (a 1)))) := (HX.out.2.2.below (HX.out.2.1.trans (hV.mono HX.out.2.1.size))).glob 1 (by decide); have HV := Hid.mk' (HX.out.2.1.trans (hV.mono HX.out.2.1.size)); clear hV hfi)
      | fail)
    go_region
    all_goals go_wp2_with fail
    all_goals go_ret2
    all_goals exact ⟨rfl, HV.out.drew⟩

end Go.Proofs.YtkaplnjknobdpaaDoor
