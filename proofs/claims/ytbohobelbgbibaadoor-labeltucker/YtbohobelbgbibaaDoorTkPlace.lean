/- Points of a square, by the program: how many a row has, places, the rim. -/
import Derived.Test.YtbohobelbgbibaaDoorLpTri
import Derived.BigQuiet
namespace Go.Proofs.YtbohobelbgbibaaDoor
open Go.RowKit Go.Sort

def sdN (n : Nat) : Nat := 2 * n + 1
theorem sdN_le {n : Nat} (hn : n ≤ 6) : sdN n ≤ 13 := by unfold sdN; omega
/-- Is a point of the rim? -/
def rimB4 (n p : Nat) : Bool := (p % sdN n == 0) || ((p % sdN n == 2 * n) || ((p / sdN n == 0) || (p / sdN n == 2 * n)))

set_option maxRecDepth 100000 in
theorem width_ (n : Nat) (hn : n ≤ 6) (w : World) : Calls Tryd.prog 37 #[.int .i64 (n : Int)] w fun e w' => e = .returned (.int .i64 (sdN n : Int)) ∧ w' = w := by
  have e1 : (sdN n : Int) = 2 * (n : Int) + 1 := by unfold sdN; omega
  rw [e1]
  clear e1
  go_enter Tryd.func37, Tryd.ntmps37
  go_wp2_with fail
  go_ret
  exact ⟨rfl, rfl⟩

set_option maxRecDepth 100000 in
set_option maxHeartbeats 1000000 in
theorem place_ (n p : Nat) (hn : n ≤ 6) (hp : p ≤ 1000) (w : World) : Calls Tryd.prog 55 #[.int .i64 (n : Int), .int .i64 (p : Int)] w fun e w' => e = .returned (.tuple #[.int .i64 (((p % sdN n : Nat) : Int) - (n : Int)), .int .i64 (((p / sdN n : Nat) : Int) - (n : Int))]) ∧ ∃ q, w' = w.drewN q := by
  have hw : ∀ q, Calls Tryd.prog 37 #[.int .i64 (n : Int)] (w.drewN q) fun e w' => e = .returned (.int .i64 (sdN n : Int)) ∧ ∃ r, w' = w.drewN r := fun q => (width_ n hn (w.drewN q)).mono fun e w' h => ⟨h.1, q, h.2⟩
  have e1 : Int.tmod (p : Int) (sdN n : Int) = ((p % sdN n : Nat) : Int) := rfl
  have e2 : Int.tdiv (p : Int) (sdN n : Int) = ((p / sdN n : Nat) : Int) := rfl
  have l1 : p % sdN n ≤ p := Nat.mod_le _ _
  have l2 : p / sdN n ≤ p := Nat.div_le_self _ _
  have hs0 : ¬ ((sdN n : Int) = 0) := by unfold sdN; omega
  have hs1 : ((sdN n : Int) == 0) = false := beq_false_of_ne hs0
  obtain ⟨s, hs⟩ : ∃ s, sdN n = s := ⟨_, rfl⟩
  rw [hs] at hw e1 e2 l1 l2 hs0 hs1 ⊢
  obtain ⟨r, hr⟩ : ∃ r, p % s = r := ⟨_, rfl⟩
  obtain ⟨q, hq⟩ : ∃ q, p / s = q := ⟨_, rfl⟩
  rw [hr] at e1 l1 ⊢
  rw [hq] at e2 l2 ⊢
  clear hs hr hq
  go_enter Tryd.func55, Tryd.ntmps55
  go_upto_region 1 with fail
  go_quiet (exact hw _)
  go_wp2_with fail
  go_ret2
  exact ⟨rfl, _, rfl⟩

end Go.Proofs.YtbohobelbgbibaaDoor
