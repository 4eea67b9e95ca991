/- The doors of the side k = 0, and the walk. No Go here. -/
import Derived.Test.YtcciinaeplppiaaDoorLabThru2
namespace Go.Proofs.YtcciinaeplppiaaDoor

def onSide (s : Spt) (i : Nat) : Bool := (s.2.2 == 0) && ((s.1 == i) || (s.1 + 1 == i))
/-- The two points of a door's place, while they are sought. -/
def sideTo (l : List Spt) (i k : Nat) : List Int := ((List.range k).filter fun j => onSide (spA l j) i).map fun (j : Nat) => (j : Int)
def sideD (n i : Nat) : List Int := sideTo (spotsL n) i (spotsL n).length
theorem sideTo_yes {l : List Spt} {i k : Nat} (h : onSide (spA l k) i = true) : sideTo l i (k + 1) = sideTo l i k ++ [(k : Int)] := by
  unfold sideTo
  rw [List.range_succ, List.filter_append, List.map_append, List.filter_cons_of_pos (p := fun j => onSide (spA l j) i) h]; rfl
theorem sideTo_no {l : List Spt} {i k : Nat} (h : onSide (spA l k) i = false) : sideTo l i (k + 1) = sideTo l i k := by
  unfold sideTo
  rw [List.range_succ, List.filter_append, List.filter_cons_of_neg (p := fun j => onSide (spA l j) i) (by rw [h]; simp)]; simp
theorem sideTo_few (l : List Spt) (i k : Nat) : (sideTo l i k).length ≤ k := by
  unfold sideTo
  rw [List.length_map]
  have := List.length_filter_le (fun j => onSide (spA l j) i) (List.range k)
  rwa [List.length_range] at this
/-- Two points of the side, and one triangle alone. -/
def sideOk (n i : Nat) : Bool := match sideD n i with
  | [a, b] => decide (0 ≤ a) && (decide (a < b) && (decide (b < ((spotsL n).length : Int)) && decide (((smallL n).filter fun r => partB (sideD n i) r).length ≤ 1)))
  | _ => false
theorem side_all : allN (fun n => (List.range n).all fun i => sideOk n (i + 1)) 12 = true := by decide +kernel
theorem side_is {n i : Nat} (hn : n ≤ 12) (h0 : 0 < i) (hi : i ≤ n) : (∃ x y : Nat, x < y ∧ y < (spotsL n).length ∧ sideD n i = [(x : Int), (y : Int)]) ∧ ∀ r s, r ∈ smallL n → s ∈ smallL n → partB (sideD n i) r = true → partB (sideD n i) s = true → r = s := by
  have h1 := List.all_eq_true.1 (allN_at side_all hn) (i - 1) (List.mem_range.2 (by omega))
  rw [show i - 1 + 1 = i by omega] at h1
  unfold sideOk at h1
  split at h1
  · rename_i a b e
    simp only [Bool.and_eq_true, decide_eq_true_eq] at h1
    obtain ⟨k1, k2, k3, k4⟩ := h1
    refine ⟨⟨a.toNat, b.toNat, by omega, by omega, by rw [e, Int.toNat_of_nonneg k1, Int.toNat_of_nonneg (by omega)]⟩, fun r s hr hs pr ps => ?_⟩
    have hr' : r ∈ (smallL n).filter fun r => partB (sideD n i) r := List.mem_filter.2 ⟨hr, pr⟩
    have hs' : s ∈ (smallL n).filter fun r => partB (sideD n i) r := List.mem_filter.2 ⟨hs, ps⟩
    generalize (smallL n).filter (fun r => partB (sideD n i) r) = F at hr' hs' k4
    match F, hr', hs', k4 with
    | [z], hr', hs', _ => rw [List.mem_singleton.1 hr', List.mem_singleton.1 hs']
  · cases h1
/-- The walk, door after door. -/
def goB (ls e : List Int) : Bool := (labA ls (numR e 0) + labA ls (numR e 1) == 1) && (labA ls (numR e 0) != labA ls (numR e 1))
def walkTo (n : Nat) (ls : List Int) : Nat → List Int
  | 0 => []
  | i + 1 => if goB ls (sideD n (i + 1)) && (thru (smallL n) ls ((smallL n).length + 1) (sideD n (i + 1)) (-1) []).2 then (thru (smallL n) ls ((smallL n).length + 1) (sideD n (i + 1)) (-1) []).1 else walkTo n ls i
def walkL (n : Nat) (ls : List Int) : List Int := walkTo n ls n
theorem go_door {ls : List Int} {x y : Nat} (hxy : x < y) (h1 : 0 ≤ labA ls x ∧ labA ls x ≤ 2) (h2 : 0 ≤ labA ls y ∧ labA ls y ≤ 2) (h : goB ls [(x : Int), (y : Int)] = true) : DoorOk ls [(x : Int), (y : Int)] := by
  refine ⟨x, y, hxy, rfl, ?_⟩
  unfold goB at h
  have n0 : numR [(x : Int), (y : Int)] 0 = x := by simp [numR]
  have n1 : numR [(x : Int), (y : Int)] 1 = y := by simp [numR]
  rw [n0, n1, Bool.and_eq_true, beq_iff_eq, bne_iff_ne] at h
  unfold isDoor
  simp only [Bool.or_eq_true, Bool.and_eq_true, beq_iff_eq]
  omega

end Go.Proofs.YtcciinaeplppiaaDoor
