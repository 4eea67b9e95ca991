/- The number of a point, by the program. -/
import Derived.Test.YtbohobelbgbibaaDoorLabSpots
namespace Go.Proofs.YtbohobelbgbibaaDoor
open Go.RowKit Go.Sort

/-- The number of the point (i, j, n - i - j). -/
def numN (n i j : Nat) : Nat := i * (n + 1) - i * (i - 1) / 2 + j
theorem numN_le {n i j : Nat} (hn : n ≤ 13) (hi : i ≤ 13) (hj : j ≤ 13) : numN n i j ≤ 200 := by
  have h : i * (n + 1) ≤ 13 * 14 := Nat.mul_le_mul hi (by omega)
  unfold numN
  omega

set_option maxRecDepth 100000 in
theorem number_ (n i j : Nat) (hn : n ≤ 13) (hi : i ≤ n + 1) (hj : j ≤ 13) (w : World) :
    Calls Tryd.prog 32 #[.int .i64 (n : Int), .int .i64 (i : Int), .int .i64 (j : Int)] w fun e w' => e = .returned (.int .i64 (numN n i j : Int)) ∧ w' = w := by
  have e1 : (i : Int) * ((n : Int) + 1) = ((i * (n + 1) : Nat) : Int) := by rw [Int.natCast_mul]; rfl
  have e2 : (i : Int) * ((i : Int) - 1) = ((i * (i - 1) : Nat) : Int) := by
    rcases Nat.eq_zero_or_pos i with h | h
    · subst h; rfl
    · rw [Int.natCast_mul]
      congr 1
      omega
  have l1 : i * (n + 1) ≤ 14 * 14 := Nat.mul_le_mul (by omega) (by omega)
  have l2 : i * (i - 1) ≤ i * (n + 1) := Nat.mul_le_mul (Nat.le_refl _) (by omega)
  unfold numN
  obtain ⟨p, hp⟩ : ∃ p, i * (n + 1) = p := ⟨_, rfl⟩
  obtain ⟨q, hq⟩ : ∃ q, i * (i - 1) = q := ⟨_, rfl⟩
  rw [hp] at e1 l1 l2 ⊢
  rw [hq] at e2 l2 ⊢
  have e3 : ((p - q / 2 + j : Nat) : Int) = (p : Int) - ((q / 2 : Nat) : Int) + (j : Int) := by omega
  rw [e3]
  have e4 : Int.tdiv (q : Int) 2 = ((q / 2 : Nat) : Int) := by rw [Int.tdiv_eq_ediv_of_nonneg (by omega)]; rfl
  have l3 : q / 2 ≤ 98 := by omega
  obtain ⟨h, hh⟩ : ∃ h, q / 2 = h := ⟨_, rfl⟩
  rw [hh] at e4 l3 ⊢
  clear hp hq hh e3
  go_enter Tryd.func32, Tryd.ntmps32
  go_wp2_with fail
  go_ret
  exact ⟨rfl, rfl⟩

/-- The same, of whatever numbers. -/
def numI (n : Nat) (i j : Int) : Int := (numN n i.toNat j.toNat : Int)
theorem numI_nat (n i j : Nat) : numI n (i : Int) (j : Int) = (numN n i j : Int) := rfl
theorem numI_right (n i j : Nat) : numI n (i : Int) ((j : Int) + 1) = (numN n i (j + 1) : Int) := rfl
theorem numI_up (n i j : Nat) : numI n ((i : Int) + 1) (j : Int) = (numN n (i + 1) j : Int) := rfl
theorem numI_both (n i j : Nat) : numI n ((i : Int) + 1) ((j : Int) + 1) = (numN n (i + 1) (j + 1) : Int) := rfl
theorem numberI_ (n : Nat) (i j : Int) (hn : n ≤ 13) (h0 : 0 ≤ i) (hi : i ≤ (n : Int) + 1) (h1 : 0 ≤ j) (hj : j ≤ 13) (w : World) :
    Calls Tryd.prog 32 #[.int .i64 (n : Int), .int .i64 i, .int .i64 j] w fun e w' => e = .returned (.int .i64 (numI n i j)) ∧ w' = w := by
  have h := number_ n i.toNat j.toNat hn (by omega) (by omega) w
  rw [Int.toNat_of_nonneg h0, Int.toNat_of_nonneg h1] at h
  exact h

end Go.Proofs.YtbohobelbgbibaaDoor
