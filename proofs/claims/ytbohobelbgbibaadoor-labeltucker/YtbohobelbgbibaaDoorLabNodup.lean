/- No small triangle is told twice. No Go here. -/
import Derived.Test.YtbohobelbgbibaaDoorLabTri
namespace Go.Proofs.YtbohobelbgbibaaDoor

def allN (p : Nat → Bool) : Nat → Bool
  | 0 => p 0
  | n + 1 => p (n + 1) && allN p n
theorem allN_at {p : Nat → Bool} : ∀ {m n : Nat}, allN p m = true → n ≤ m → p n = true
  | 0, n, h, hn => by
    obtain rfl : n = 0 := by omega
    exact h
  | m + 1, n, h, hn => by
    rw [allN, Bool.and_eq_true] at h
    rcases Nat.lt_or_ge n (m + 1) with k | k
    · exact allN_at h.2 (by omega)
    · obtain rfl : n = m + 1 := by omega
      exact h.1
theorem small_all : allN (fun n => decide (smallL n).Nodup) 12 = true := by decide +kernel
theorem small_nodup {n : Nat} (hn : n ≤ 12) : (smallL n).Nodup := of_decide_eq_true (allN_at small_all hn)

end Go.Proofs.YtbohobelbgbibaaDoor
