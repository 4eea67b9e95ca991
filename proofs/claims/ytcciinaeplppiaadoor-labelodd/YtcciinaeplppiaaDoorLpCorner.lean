/- The closed fact ahead of each of the three statements: the smallest triangle. -/
import Derived.Test.YtcciinaeplppiaaDoorLpFull
namespace Go.Proofs.YtcciinaeplppiaaDoor
open Go.RowKit Go.Sort
attribute [local go_sem] tri_equal

theorem tries_one : triesL 1 = [(0, 1, 2)] := by decide

set_option maxRecDepth 100000 in
theorem corner_ (w : World) :
    Calls Tryd.prog 6 #[] w fun e w' => e = .returned (.bool true) ∧ Below w.heap.size w w' := by
  have hs := smallX_ok 1 (by omega) (by omega) w
  rw [tries_one] at hs
  go_enter Tryd.func6, Tryd.ntmps6
  go_wp2_with (first
    | (go_at_call 8; refine hs.mono ?_; rintro e W1 ⟨v, rfl, hr, hb⟩; have HB := Hid.mk' hb; obtain ⟨a, cap, hv, hx⟩ := hr.reads; subst hv; obtain ⟨g, rfl, hc⟩ := hx (by simp); obtain ⟨d0, d1, d2⟩ := hc 0 (0, 1, 2) rfl; clear hr hb hs hx hc)
    | fail)
  go_ret
  exact ⟨rfl, HB.out⟩

end Go.Proofs.YtcciinaeplppiaaDoor
