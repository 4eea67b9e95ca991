/- Does a side join two points: by the reference. -/
import Derived.Test.YtbohobelbgbibaaDoorLabSmall
namespace Go.Proofs.YtbohobelbgbibaaDoor
open Go.RowKit Go.Sort

/-- Does a side join two points? -/
def sidedB (x y u v : Int) : Bool := ((u - x) * (u - x) + (v - y) * (v - y) == 1) || (((v - y == 1) && ((u - x) * (u - x) == 1)) && (decide ((x + u) * (y + v) > 0) == (u - x == 1)))
theorem sq_le (a : Int) (h : -12 ≤ a ∧ a ≤ 12) : 0 ≤ a * a ∧ a * a ≤ 144 := by
  obtain ⟨k, hk | hk⟩ : ∃ k : Nat, a = k ∨ a = -k := ⟨a.natAbs, by omega⟩
  · subst hk
    have := Nat.mul_le_mul (show k ≤ 12 by omega) (show k ≤ 12 by omega)
    have e : (k : Int) * (k : Int) = ((k * k : Nat) : Int) := by rw [Int.natCast_mul]
    omega
  · subst hk
    have := Nat.mul_le_mul (show k ≤ 12 by omega) (show k ≤ 12 by omega)
    have e : -(k : Int) * -(k : Int) = ((k * k : Nat) : Int) := by rw [Int.neg_mul_neg, Int.natCast_mul]
    omega
theorem pr_le (a b : Int) (h : -12 ≤ a ∧ a ≤ 12) (k : -12 ≤ b ∧ b ≤ 12) : -144 ≤ a * b ∧ a * b ≤ 144 := by
  have h2 : (a * b).natAbs ≤ 144 := by
    rw [Int.natAbs_mul]
    exact Nat.mul_le_mul (show a.natAbs ≤ 12 by omega) (show b.natAbs ≤ 12 by omega)
  omega

set_option maxRecDepth 100000 in
set_option maxHeartbeats 1000000 in
theorem sided_ (x y u v : Int) (hx : -6 ≤ x ∧ x ≤ 6) (hy : -6 ≤ y ∧ y ≤ 6) (hu : -6 ≤ u ∧ u ≤ 6) (hv : -6 ≤ v ∧ v ≤ 6) (w : World) :
    Calls Tryd.prog 45 #[.int .i64 x, .int .i64 y, .int .i64 u, .int .i64 v] w fun e w' => e = .returned (.bool (sidedB x y u v)) ∧ ∃ q, w' = w.drewN q := by
  have q1 := sq_le (u - x) (by omega)
  have q2 := sq_le (v - y) (by omega)
  have q3 := pr_le (x + u) (y + v) (by omega) (by omega)
  unfold sidedB
  obtain ⟨dx, hdx⟩ : ∃ d, u - x = d := ⟨_, rfl⟩
  obtain ⟨dy, hdy⟩ : ∃ d, v - y = d := ⟨_, rfl⟩
  rw [hdx] at q1 ⊢
  rw [hdy] at q2 ⊢
  obtain ⟨s1, hs1⟩ : ∃ d, dx * dx = d := ⟨_, rfl⟩
  obtain ⟨s2, hs2⟩ : ∃ d, dy * dy = d := ⟨_, rfl⟩
  rw [hs1] at q1 ⊢
  rw [hs2] at q2 ⊢
  obtain ⟨s3, hs3⟩ : ∃ d, (x + u) * (y + v) = d := ⟨_, rfl⟩
  rw [hs3] at q3 ⊢
  by_cases c1 : s1 + s2 = 1
  · have b1 : (s1 + s2 == 1) = true := by rw [beq_iff_eq]; exact c1
    rw [b1, Bool.true_or]
    go_enter Tryd.func45, Tryd.ntmps45
    go_wp2_with fail
    go_ret
    exact ⟨rfl, 0, rfl⟩
  · have b1 : (s1 + s2 == 1) = false := beq_false_of_ne c1
    rw [b1, Bool.false_or]
    by_cases c2 : dy = 1
    · have b2 : (dy == 1) = true := by rw [beq_iff_eq]; exact c2
      have e2 : s2 = 1 := by rw [← hs2, c2]; rfl
      have b4 : (s1 + 1 == 1) = false := beq_false_of_ne (by rw [e2] at c1; exact c1)
      by_cases c3 : s1 = 1
      · have b3 : (s1 == 1) = true := by rw [beq_iff_eq]; exact c3
        rw [b2, b3, Bool.true_and, Bool.true_and]
        go_enter Tryd.func45, Tryd.ntmps45
        go_wp2_with fail
        go_ret
        refine ⟨?_, 0, rfl⟩
        show Ending.returned (Value.bool _) = _
        by_cases c4 : 0 < s3 <;> by_cases c5 : dx = 1 <;> simp [c4, c5]
      · have b3 : (s1 == 1) = false := beq_false_of_ne c3
        rw [b3, Bool.and_false, Bool.false_and]
        go_enter Tryd.func45, Tryd.ntmps45
        go_wp2_with fail
        go_ret
        exact ⟨rfl, 0, rfl⟩
    · have b2 : (dy == 1) = false := beq_false_of_ne c2
      rw [b2, Bool.false_and, Bool.false_and]
      go_enter Tryd.func45, Tryd.ntmps45
      go_wp2_with fail
      go_ret
      exact ⟨rfl, 0, rfl⟩

end Go.Proofs.YtbohobelbgbibaaDoor
