/- One piece is sorted as it stands. -/
import Derived.Test.YtkaplnjknobdpaaDoorSurfRims
namespace Go.Proofs.YtkaplnjknobdpaaDoor
open Go.RowKit Go.Sort

set_option maxRecDepth 100000 in
theorem len64_one (w : World) : Calls Tryd.prog 55 #[.int .u64 1] w fun e w' => e = .returned (.int .i64 1) ∧ w' = w := by
  go_enter Tryd.func55, Tryd.ntmps55
  go_wp2_with fail
  go_ret
  exact ⟨by kernel_rfl, rfl⟩

set_option maxRecDepth 100000 in
theorem len_one (w : World) : Calls Tryd.prog 39 #[.int .u64 1] w fun e w' => e = .returned (.int .i64 1) ∧ w' = w := by
  have h := len64_one w
  go_enter Tryd.func39, Tryd.ntmps39
  go_wp2_with (first
    | (refine h.mono ?_; rintro e V ⟨rfl, rfl⟩; clear h)
    | fail)
  go_ret
  exact ⟨rfl, rfl⟩

set_option maxRecDepth 100000 in
theorem insertion_one (v f : Value) (w : World) : Calls Tryd.prog 46 #[v, .int .i64 0, .int .i64 1, f] w fun e w' => e = .returned (.tuple #[]) ∧ w' = w := by
  go_enter Tryd.func46, Tryd.ntmps46
  go_wp2_with fail
  go_loopw [8] (fun q W => q = .int .i64 1 ∧ W = w) (fun _ _ => 0)
  case atStart => exact ⟨rfl, rfl⟩
  case round =>
    obtain ⟨rfl, rfl⟩ := hrel
    go_wp2_with fail
    refine bodyPost_end (v := .tuple #[]) ?_ rfl ⟨rfl, rfl⟩
    simp [results, Tryd.f46, go_sem]

set_option maxRecDepth 100000 in
set_option maxHeartbeats 4000000 in
theorem pdq_one (v f : Value) (w : World) : Calls Tryd.prog 38 #[v, .int .i64 0, .int .i64 1, .int .i64 1, f] w fun e w' => e = .returned (.tuple #[]) ∧ w' = w := by
  have h := insertion_one v f w
  go_enter Tryd.func38, Tryd.ntmps38
  go_wp2_with fail
  go_loopw [1, 2] (fun q r W => q = .int .i64 0 ∧ r = .int .i64 1 ∧ W = w) (fun _ _ _ => 0)
  case atStart => exact ⟨rfl, rfl, rfl⟩
  case round =>
    obtain ⟨rfl, rfl, rfl⟩ := hrel
    go_wp2_with (first
      | (refine h.mono ?_; rintro e V ⟨rfl, rfl⟩; clear h)
      | fail)
    refine bodyPost_ret (v := .tuple #[]) ?_ rfl ⟨rfl, rfl⟩
    simp [results, Tryd.f38, go_sem]

set_option maxRecDepth 100000 in
theorem sort_one (a : Option Addr) (c : Nat) (f : Value) (w : World) : Calls Tryd.prog 26 #[.slice a 1 c, f] w fun e w' => e = .returned (.tuple #[]) ∧ w' = w := by
  have h1 := len_one w
  have h2 := pdq_one (.slice a 1 c) f w
  go_enter Tryd.func26, Tryd.ntmps26
  go_wp2_with (first
    | (go_at_call 39; refine h1.mono ?_; rintro e V ⟨rfl, rfl⟩; clear h1)
    | (go_at_call 38; refine h2.mono ?_; rintro e V ⟨rfl, rfl⟩; clear h2)
    | fail)
  refine bodyPost_end (v := .tuple #[]) ?_ rfl ⟨rfl, rfl⟩
  simp [results, Tryd.f26, go_sem]

/-- The genus of a piece. -/
def genusI (t : Bool) (e r : Int) : Int := if t then (2 - r - e).tdiv 2 else 2 - r - e

set_option maxRecDepth 100000 in
theorem by_euler (t : Bool) (e r : Int) (he : -1000 ≤ e ∧ e ≤ 1000) (hr : -1000 ≤ r ∧ r ≤ 1000) (w : World) :
    Calls Tryd.prog 25 #[.bool t, .int .i64 e, .int .i64 r] w fun x w' => x = .returned (.agg #[.bool t, .int .i64 (genusI t e r), .int .i64 r]) ∧ Below w.heap.size w w' := by
  cases t with
  | true =>
    have hB : Below w.heap.size w (w.alloc (.cells #[.bool true, .int .i64 ((2 - r - e).tdiv 2), .int .i64 r] 30)) := (Below.refl _ w).alloc (Nat.le_refl _) _
    have q := cells_new w [.bool true, .int .i64 ((2 - r - e).tdiv 2), .int .i64 r] 30
    go_enter Tryd.func25, Tryd.ntmps25
    go_wp2_with fail
    have q0 := q 0 _ rfl
    have q1 := q 1 _ rfl
    have q2 := q 2 _ rfl
    rw [Addr.add_lit, Nat.zero_add] at q0 q1 q2
    refine bodyPost_ret (v := .agg #[.bool true, .int .i64 ((2 - r - e).tdiv 2), .int .i64 r]) ?_ rfl ⟨rfl, hB⟩
    simp [results, Tryd.f25, go_sem, q0, q1, q2]
  | false =>
    have hB : Below w.heap.size w (w.alloc (.cells #[.bool false, .int .i64 (2 - r - e), .int .i64 r] 30)) := (Below.refl _ w).alloc (Nat.le_refl _) _
    have q := cells_new w [.bool false, .int .i64 (2 - r - e), .int .i64 r] 30
    go_enter Tryd.func25, Tryd.ntmps25
    go_wp2_with fail
    have q0 := q 0 _ rfl
    have q1 := q 1 _ rfl
    have q2 := q 2 _ rfl
    rw [Addr.add_lit, Nat.zero_add] at q0 q1 q2
    refine bodyPost_ret (v := .agg #[.bool false, .int .i64 (2 - r - e), .int .i64 r]) ?_ rfl ⟨rfl, hB⟩
    simp [results, Tryd.f25, go_sem, q0, q1, q2]

end Go.Proofs.YtkaplnjknobdpaaDoor
