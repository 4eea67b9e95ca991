/- What Normal answers of a piece, and what the document's answer says. -/
import Derived.Test.YtkaplnjknobdpaaDoorRefA0
import Derived.Test.YtkaplnjknobdpaaDoorSurfPieces
namespace Go.Proofs.YtkaplnjknobdpaaDoor
open Go.RowKit Go.Sort

/-- The letters of the first k handles, or crosscaps; the next letter behind; the letters of the first k rims. -/
def gW (t : Bool) : Nat → List Int
  | 0 => []
  | k + 1 => gW t k ++ (if t then [2 * (k : Int) + 1, 2 * (k : Int) + 2, -(2 * (k : Int) + 1), -(2 * (k : Int) + 2)] else [(k : Int) + 1, (k : Int) + 1])
def gN (t : Bool) (k : Nat) : Int := if t then 2 * (k : Int) + 1 else (k : Int) + 1
def rW (b : Int) : Nat → List Int
  | 0 => []
  | k + 1 => rW b k ++ [b + 2 * (k : Int), b + 2 * (k : Int) + 1, -(b + 2 * (k : Int))]
/-- The normal form. -/
def normW (t : Bool) (g r : Nat) : List Int := if g = 0 ∧ r = 0 then [1, -1] else gW t g ++ rW (gN t g) r
def ShapeBad (t : Bool) (g r : Int) : Prop := g < 0 ∨ r < 0 ∨ (t = false ∧ g = 0)
def fitsB (t : Bool) (g r : Int) : Bool := decide (g ≤ 60 ∧ r ≤ 60 ∧ (if t then 2 * g else g) + 2 * r ≤ 60)

theorem gW_len (t : Bool) (k : Nat) : (gW t k).length = if t then 4 * k else 2 * k := by
  induction k with
  | zero => cases t <;> rfl
  | succ k ih => cases t <;> simp [gW] at ih ⊢ <;> omega
theorem rW_len (b : Int) (k : Nat) : (rW b k).length = 3 * k := by
  induction k with
  | zero => rfl
  | succ k ih => simp [rW, ih]; omega

set_option maxRecDepth 100000 in
theorem fits_ (t : Bool) (g r : Int) (w : World) (h : ¬ ShapeBad t g r) :
    Calls Tryd.prog 12 #[.agg #[.bool t, .int .i64 g, .int .i64 r]] w fun e w' => e = .returned (.bool (fitsB t g r)) ∧ Below w.heap.size w w' := by
  have hB : Below w.heap.size w (w.alloc (.cells #[.bool t, .int .i64 g, .int .i64 r] 30)) := (Below.refl _ w).alloc (Nat.le_refl _) _
  have HH : Hid (Below w.heap.size w (w.alloc (.cells #[.bool t, .int .i64 g, .int .i64 r] 30))) := hB
  have hg0 : 0 ≤ g := by have := h; unfold ShapeBad at this; omega
  have hr0 : 0 ≤ r := by have := h; unfold ShapeBad at this; omega
  clear h hB
  obtain ⟨q, hq⟩ : ∃ q, fitsB t g r = q := ⟨_, rfl⟩
  have HQ : Hid (fitsB t g r = q) := hq
  rw [hq]
  clear hq
  by_cases hg : 60 < g
  · obtain rfl : q = false := by rw [← HQ.out]; exact decide_eq_false (by omega)
    go_enter Tryd.func12, Tryd.ntmps12
    go_wp2_with fail
    go_ret
    exact ⟨rfl, HH.out⟩
  · have hgb : decide ((60 : Int) < g) = false := decide_eq_false hg
    by_cases hr : 60 < r
    · obtain rfl : q = false := by rw [← HQ.out]; exact decide_eq_false (by omega)
      go_enter Tryd.func12, Tryd.ntmps12
      go_wp2_with fail
      go_ret
      exact ⟨rfl, HH.out⟩
    · have hrb : decide ((60 : Int) < r) = false := decide_eq_false hr
      cases t with
      | true =>
        have HQ2 : Hid (decide (g + 2 * r + g ≤ 60) = q) := by
          show decide (g + 2 * r + g ≤ 60) = q
          rw [← HQ.out]
          unfold fitsB
          rw [decide_eq_decide]
          simp only [if_true]
          omega
        go_enter Tryd.func12, Tryd.ntmps12
        go_wp2_with fail
        go_ret
        exact ⟨by rw [← HQ2.out]; rfl, HH.out⟩
      | false =>
        have HQ2 : Hid (decide (g + 2 * r ≤ 60) = q) := by
          show decide (g + 2 * r ≤ 60) = q
          rw [← HQ.out]
          unfold fitsB
          rw [decide_eq_decide]
          simp only [Bool.false_eq_true, if_false]
          omega
        go_enter Tryd.func12, Tryd.ntmps12
        go_wp2_with fail
        go_ret
        exact ⟨by rw [← HQ2.out]; rfl, HH.out⟩

end Go.Proofs.YtkaplnjknobdpaaDoor
