/- TUCKER's lemma, for labels on a grid: sums without carries. No Go here. -/
import Derived.Test.YtbohobelbgbibaaDoorLabOdd3
namespace Go.Proofs.YtbohobelbgbibaaDoor

def lab4 (x : Int) : Prop := x = 1 ∨ x = -1 ∨ x = 2 ∨ x = -2
def f12 (x y : Int) : Bool := ((x == 1) && (y == 2)) || ((x == 2) && (y == 1))
def fN (x y : Int) : Bool := ((x == -1) && (y == -2)) || ((x == -2) && (y == -1))
def fS (x : Int) : Bool := (x == 2) || (x == -1)
theorem tri_even {x y z : Int} (hx : lab4 x) (hy : lab4 y) (hz : lab4 z) (h1 : x + y ≠ 0) (h2 : x + z ≠ 0) (h3 : y + z ≠ 0) : xor (f12 x y) (xor (f12 x z) (f12 y z)) = false := by
  rcases hx with rfl | rfl | rfl | rfl <;> rcases hy with rfl | rfl | rfl | rfl <;> rcases hz with rfl | rfl | rfl | rfl <;> first | rfl | (exact absurd rfl h1) | (exact absurd rfl h2) | (exact absurd rfl h3)
theorem step_f {x y : Int} (hx : lab4 x) (hy : lab4 y) (h1 : x + y ≠ 0) : xor (f12 x y) (fN x y) = xor (fS x) (fS y) := by
  rcases hx with rfl | rfl | rfl | rfl <;> rcases hy with rfl | rfl | rfl | rfl <;> first | rfl | (exact absurd rfl h1)
theorem neg_f (x y : Int) (hx : lab4 x) (hy : lab4 y) : f12 (-y) (-x) = fN x y := by
  rcases hx with rfl | rfl | rfl | rfl <;> rcases hy with rfl | rfl | rfl | rfl <;> rfl
theorem end_f (x : Int) (hx : lab4 x) : fS (-x) = !fS x := by
  rcases hx with rfl | rfl | rfl | rfl <;> rfl
theorem bool5 : ∀ a b c d e : Bool, xor a (xor e d) = false → xor c (xor e b) = false → xor (xor a b) (xor c d) = false := by decide
theorem bool6 : ∀ a b c d e : Bool, xor a (xor c e) = false → xor e (xor d b) = false → xor (xor a b) (xor c d) = false := by decide
/-- A small square, whichever way it is cut. -/
theorem square_even {A B C D : Int} (hA : lab4 A) (hB : lab4 B) (hC : lab4 C) (hD : lab4 D) (h1 : A + B ≠ 0) (h2 : C + D ≠ 0) (h3 : A + C ≠ 0) (h4 : B + D ≠ 0) (h5 : A + D ≠ 0 ∨ B + C ≠ 0) : xor (xor (f12 A B) (f12 C D)) (xor (f12 A C) (f12 B D)) = false := by
  rcases h5 with h5 | h5
  · exact bool5 _ _ _ _ _ (tri_even hA hB hD h1 h5 h4) (tri_even hA hC hD h3 h5 h2)
  · exact bool6 _ _ _ _ _ (tri_even hA hB hC h1 h3 h5) (tri_even hB hC hD h5 h4 h2)
theorem xs_rev (g : Nat → Bool) : ∀ m, xs (List.range m) (fun x => g (m - 1 - x)) = xs (List.range m) g
  | 0 => rfl
  | m + 1 => by
    rw [List.range_succ_eq_map, xs_cons, xs_map]
    have e : xs (List.range m) (fun a => g (m + 1 - 1 - Nat.succ a)) = xs (List.range m) fun a => g (m - 1 - a) := xs_congr fun a ha => by
      have := List.mem_range.1 ha
      rw [show m + 1 - 1 - Nat.succ a = m - 1 - a by omega]
    rw [e, xs_rev g m, ← List.range_succ_eq_map, List.range_succ, xs_append]
    have e2 : xs [m] g = g m := by simp [xs]
    rw [e2, show m + 1 - 1 - 0 = m by omega, Bool.xor_comm]
/-- TUCKER, on a grid of m times m squares. -/
theorem tucker_grid {m : Nat} (h0 : 0 < m) (L : Nat → Nat → Int) (hl : ∀ x y, x ≤ m → y ≤ m → lab4 (L x y)) (hr : ∀ x y, x ≤ m → y ≤ m → (x = 0 ∨ x = m ∨ y = 0 ∨ y = m) → L (m - x) (m - y) = -L x y)
    (hh : ∀ x y, x < m → y ≤ m → L x y + L (x + 1) y ≠ 0) (hv : ∀ x y, x ≤ m → y < m → L x y + L x (y + 1) ≠ 0) (hd : ∀ x y, x < m → y < m → L x y + L (x + 1) (y + 1) ≠ 0 ∨ L (x + 1) y + L x (y + 1) ≠ 0) : False := by
  have hsum : xs (List.range m) (fun x => xs (List.range m) fun y => xor (xor (f12 (L x y) (L (x + 1) y)) (f12 (L x (y + 1)) (L (x + 1) (y + 1)))) (xor (f12 (L x y) (L x (y + 1))) (f12 (L (x + 1) y) (L (x + 1) (y + 1))))) = false := by
    rw [← xs_false (List.range m)]
    refine xs_congr fun x hx => ?_
    rw [← xs_false (List.range m)]
    refine xs_congr fun y hy => ?_
    have hx' := List.mem_range.1 hx
    have hy' := List.mem_range.1 hy
    exact square_even (hl _ _ (by omega) (by omega)) (hl _ _ (by omega) (by omega)) (hl _ _ (by omega) (by omega)) (hl _ _ (by omega) (by omega)) (hh x y hx' (by omega)) (hh x (y + 1) hx' (by omega)) (hv x y (by omega) hy') (hv (x + 1) y (by omega) hy') (hd x y hx' hy')
  have h1 : xs (List.range m) (fun x => xs (List.range m) fun y => xor (f12 (L x y) (L (x + 1) y)) (f12 (L x (y + 1)) (L (x + 1) (y + 1)))) = xs (List.range m) fun x => xor (f12 (L x 0) (L (x + 1) 0)) (f12 (L x m) (L (x + 1) m)) := xs_congr fun x _ => xs_steps (fun y => f12 (L x y) (L (x + 1) y)) m
  have h2 : xs (List.range m) (fun x => xs (List.range m) fun y => xor (f12 (L x y) (L x (y + 1))) (f12 (L (x + 1) y) (L (x + 1) (y + 1)))) = xs (List.range m) fun y => xor (f12 (L 0 y) (L 0 (y + 1))) (f12 (L m y) (L m (y + 1))) := by
    rw [xs_swap]
    exact xs_congr fun y _ => xs_steps (fun x => f12 (L x y) (L x (y + 1))) m
  have hs2 : xor (xs (List.range m) fun x => xor (f12 (L x 0) (L (x + 1) 0)) (f12 (L x m) (L (x + 1) m))) (xs (List.range m) fun y => xor (f12 (L 0 y) (L 0 (y + 1))) (f12 (L m y) (L m (y + 1)))) = false := by
    rw [← h1, ← h2, ← xs_xor, ← hsum]
    exact xs_congr fun x _ => (xs_xor _ _ _).symm
  -- the upper side is the lower one's opposite, the left side the right one's
  have htop : xs (List.range m) (fun x => f12 (L x m) (L (x + 1) m)) = xs (List.range m) fun x => fN (L x 0) (L (x + 1) 0) := by
    rw [← xs_rev (fun x => f12 (L x m) (L (x + 1) m)) m]
    refine xs_congr fun x hx => ?_
    have hx' := List.mem_range.1 hx
    have a1 := hr x 0 (by omega) (by omega) (.inr (.inr (.inl rfl)))
    have a2 := hr (x + 1) 0 (by omega) (by omega) (.inr (.inr (.inl rfl)))
    rw [Nat.sub_zero] at a1 a2
    rw [show m - 1 - x = m - (x + 1) by omega, show m - (x + 1) + 1 = m - x by omega, a1, a2]
    exact neg_f _ _ (hl _ _ (by omega) (by omega)) (hl _ _ (by omega) (by omega))
  have hleft : xs (List.range m) (fun y => f12 (L 0 y) (L 0 (y + 1))) = xs (List.range m) fun y => fN (L m y) (L m (y + 1)) := by
    rw [← xs_rev (fun y => f12 (L 0 y) (L 0 (y + 1))) m]
    refine xs_congr fun y hy => ?_
    have hy' := List.mem_range.1 hy
    have a1 := hr m y (by omega) (by omega) (.inr (.inl rfl))
    have a2 := hr m (y + 1) (by omega) (by omega) (.inr (.inl rfl))
    rw [Nat.sub_self] at a1 a2
    rw [show m - 1 - y = m - (y + 1) by omega, show m - (y + 1) + 1 = m - y by omega, a1, a2]
    exact neg_f _ _ (hl _ _ (by omega) (by omega)) (hl _ _ (by omega) (by omega))
  rw [xs_xor, xs_xor, htop, hleft, ← xs_xor, Bool.xor_comm (xs (List.range m) fun y => fN (L m y) (L m (y + 1))), ← xs_xor] at hs2
  have e1 : xs (List.range m) (fun x => xor (f12 (L x 0) (L (x + 1) 0)) (fN (L x 0) (L (x + 1) 0))) = xor (fS (L 0 0)) (fS (L m 0)) := by
    rw [← xs_steps (fun x => fS (L x 0)) m]
    exact xs_congr fun x hx => step_f (hl _ _ (by have := List.mem_range.1 hx; omega) (by omega)) (hl _ _ (by have := List.mem_range.1 hx; omega) (by omega)) (hh x 0 (List.mem_range.1 hx) (by omega))
  have e2 : xs (List.range m) (fun y => xor (f12 (L m y) (L m (y + 1))) (fN (L m y) (L m (y + 1)))) = xor (fS (L m 0)) (fS (L m m)) := by
    rw [← xs_steps (fun y => fS (L m y)) m]
    exact xs_congr fun y hy => step_f (hl _ _ (by omega) (by have := List.mem_range.1 hy; omega)) (hl _ _ (by omega) (by have := List.mem_range.1 hy; omega)) (hv m y (by omega) (List.mem_range.1 hy))
  rw [e1, e2] at hs2
  have hend := hr 0 0 (by omega) (by omega) (.inl rfl)
  rw [Nat.sub_zero] at hend
  rw [hend, end_f _ (hl 0 0 (by omega) (by omega))] at hs2
  cases a : fS (L 0 0) <;> cases b : fS (L m 0) <;> rw [a, b] at hs2 <;> cases hs2

end Go.Proofs.YtbohobelbgbibaaDoor
