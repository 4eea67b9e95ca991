/- Points and small triangles of a divided triangle, as the reference has them. No Go here. -/
import Derived.Test.YtbohobelbgbibaaDoorMath2
namespace Go.Proofs.YtbohobelbgbibaaDoor

abbrev Spt := Nat × Nat × Nat
def rowS (n i j : Nat) : List Spt := (List.range j).map fun q => (i, q, n - i - q)
def allS (n i : Nat) : List Spt := (List.range i).flatMap fun p => rowS n p (n + 1 - p)
def spotsL (n : Nat) : List Spt := allS n (n + 1)
theorem rowS_more (n i j : Nat) : rowS n i (j + 1) = rowS n i j ++ [(i, j, n - i - j)] := by unfold rowS; rw [List.range_succ, List.map_append]; rfl
theorem rowS_len (n i j : Nat) : (rowS n i j).length = j := by simp [rowS]
theorem allS_more (n i : Nat) : allS n (i + 1) = allS n i ++ rowS n i (n + 1 - i) := by unfold allS; rw [List.range_succ, List.flatMap_append]; simp
/-- How many points there are. -/
def ptsN (n : Nat) : Nat := (n + 1) * (n + 2) / 2
theorem spots_few : ∀ n, n ≤ 12 → (spotsL n).length = ptsN n ∧ ptsN n ≤ 91 := by decide
theorem allS_le {n i : Nat} (hn : n ≤ 12) (hi : i ≤ n + 1) : (allS n i).length ≤ 91 := by
  have h : ∀ n, n ≤ 12 → ∀ i, i ≤ n + 1 → (allS n i).length ≤ 91 := by decide
  exact h n hn i hi
theorem spots_in {n : Nat} {s : Spt} (h : s ∈ spotsL n) : s.1 ≤ n ∧ s.2.1 ≤ n ∧ s.2.2 ≤ n := by
  unfold spotsL allS rowS at h
  obtain ⟨p, hp, h⟩ := List.mem_flatMap.1 h
  obtain ⟨q, hq, rfl⟩ := List.mem_map.1 h
  have h1 := List.mem_range.1 hp
  have h2 := List.mem_range.1 hq
  exact ⟨by show p ≤ n; omega, by show q ≤ n; omega, by show n - p - q ≤ n; omega⟩

/-- The square of how far two numbers are apart. -/
def sqN (a b : Nat) : Nat := (a - b) * (a - b) + (b - a) * (b - a)
theorem sqN_eq (a b : Nat) : ((a : Int) - (b : Int)) * ((a : Int) - (b : Int)) = (sqN a b : Int) := by
  unfold sqN
  rcases Nat.le_total a b with h | h
  · obtain ⟨d, rfl⟩ := Nat.exists_eq_add_of_le h
    rw [Nat.sub_eq_zero_of_le h, Nat.zero_mul, Nat.zero_add, Nat.add_sub_cancel_left, Int.natCast_add, Int.natCast_mul]
    rw [show ((a : Int) - ((a : Int) + (d : Int))) = -(d : Int) by omega, Int.neg_mul_neg]
  · obtain ⟨d, rfl⟩ := Nat.exists_eq_add_of_le h
    rw [Nat.sub_eq_zero_of_le h, Nat.zero_mul, Nat.add_zero, Nat.add_sub_cancel_left, Int.natCast_add, Int.natCast_mul]
    rw [show ((b : Int) + (d : Int) - (b : Int)) = (d : Int) by omega]
theorem sqN_le {a b : Nat} (ha : a ≤ 12) (hb : b ≤ 12) : sqN a b ≤ 144 := by
  have h : ∀ a, a ≤ 12 → ∀ b, b ≤ 12 → sqN a b ≤ 144 := by decide
  exact h a ha b hb
def nearN (p q : Spt) : Bool := sqN p.1 q.1 + sqN p.2.1 q.2.1 + sqN p.2.2 q.2.2 == 2

/-- Small triangles while they are sought. -/
def smallC (l : List Spt) (a b c : Nat) : List (List Int) := if nearN (l[a]?.getD (0, 0, 0)) (l[b]?.getD (0, 0, 0)) then ((List.range c).filter fun k => decide (b < k) && (nearN (l[a]?.getD (0, 0, 0)) (l[k]?.getD (0, 0, 0)) && nearN (l[b]?.getD (0, 0, 0)) (l[k]?.getD (0, 0, 0)))).map fun (k : Nat) => [(a : Int), (b : Int), (k : Int)] else []
def smallB (l : List Spt) (a b : Nat) : List (List Int) := (List.range b).flatMap fun k => if a < k then smallC l a k l.length else []
def smallA (l : List Spt) (a : Nat) : List (List Int) := (List.range a).flatMap fun k => smallB l k l.length
def smallL (n : Nat) : List (List Int) := smallA (spotsL n) (spotsL n).length
theorem smallA_more (l : List Spt) (a : Nat) : smallA l (a + 1) = smallA l a ++ smallB l a l.length := by unfold smallA; rw [List.range_succ, List.flatMap_append]; simp
theorem smallB_more (l : List Spt) {a b : Nat} (h : a < b) : smallB l a (b + 1) = smallB l a b ++ smallC l a b l.length := by unfold smallB; rw [List.range_succ, List.flatMap_append]; simp [h]
theorem smallB_low (l : List Spt) {a b : Nat} (h : b ≤ a + 1) : smallB l a b = [] := by
  unfold smallB
  rw [List.flatMap_eq_nil_iff]
  intro k hk
  rw [if_neg (by have := List.mem_range.1 hk; omega)]
theorem smallC_more (l : List Spt) {a b c : Nat} (h : b < c) (hn : nearN (l[a]?.getD (0, 0, 0)) (l[b]?.getD (0, 0, 0)) = true) : smallC l a b (c + 1) = smallC l a b c ++ if nearN (l[a]?.getD (0, 0, 0)) (l[c]?.getD (0, 0, 0)) && nearN (l[b]?.getD (0, 0, 0)) (l[c]?.getD (0, 0, 0)) then [[(a : Int), (b : Int), (c : Int)]] else [] := by
  unfold smallC
  rw [if_pos hn, if_pos hn, List.range_succ, List.filter_append, List.map_append]
  congr 1
  by_cases e : (nearN (l[a]?.getD (0, 0, 0)) (l[c]?.getD (0, 0, 0)) && nearN (l[b]?.getD (0, 0, 0)) (l[c]?.getD (0, 0, 0))) = true
  · rw [if_pos e, List.filter_cons_of_pos (by rw [e, decide_eq_true h]; rfl)]; rfl
  · rw [if_neg e, List.filter_cons_of_neg (by rw [Bool.and_eq_true]; exact fun k => e k.2)]; rfl
theorem smallC_low (l : List Spt) {a b c : Nat} (h : c ≤ b + 1) : smallC l a b c = [] := by
  unfold smallC
  split
  · rw [List.map_eq_nil_iff, List.filter_eq_nil_iff]
    intro k hk
    have := List.mem_range.1 hk
    rw [decide_eq_false (by omega)]
    simp
  · rfl
theorem smallC_far (l : List Spt) {a b : Nat} (c : Nat) (hn : nearN (l[a]?.getD (0, 0, 0)) (l[b]?.getD (0, 0, 0)) = false) : smallC l a b c = [] := by
  unfold smallC
  rw [if_neg (by rw [hn]; simp)]

end Go.Proofs.YtbohobelbgbibaaDoor
