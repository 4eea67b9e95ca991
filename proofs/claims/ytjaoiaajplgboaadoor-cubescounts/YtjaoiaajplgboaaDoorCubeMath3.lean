/- The four cells that a corner is the first of, told by a number; how many of a dimension there are; how far neighbours are; no program is spoken of. -/
import Derived.Test.YtjaoiaajplgboaaDoorCubeMath2
namespace Go.Proofs.YtjaoiaajplgboaaDoor

/-- The four cells at a corner: the corner, the edge to the right, the edge downward, the square; a cell's dimension. -/
def kindB (f : Int → Int → Bool) (k : Nat) : Sq → Bool := if k = 0 then cornerB f else if k = 1 then rightB f else if k = 2 then downB f else hereB f
def kindD (k : Nat) : Nat := k % 2 + k / 2

theorem hit_kind {f : Int → Int → Bool} (hf : Fenced f) {x y : Int} (hx : 0 ≤ x) (hy : 0 ≤ y) {k : Nat} (hk : k < 4) : HitAny f (2 * x + ((k % 2 : Nat) : Int)) (2 * y + ((k / 2 : Nat) : Int)) ↔ kindB f k (x, y) = true := by
  obtain rfl | rfl | rfl | rfl : k = 0 ∨ k = 1 ∨ k = 2 ∨ k = 3 := by omega
  · simpa [kindB] using hit_corner hf hx hy
  · simpa [kindB] using hit_right hf hx hy
  · simpa [kindB] using hit_down hf hx hy
  · simpa [kindB] using hit_here (f := f) hx hy

/-- How many of the first k cells at a corner are of the dimension and there. -/
def cellsAt (f : Int → Int → Bool) (d : Int) (a : Sq) : Nat → Nat
  | 0 => 0
  | k + 1 => cellsAt f d a k + (if (kindD k : Int) = d ∧ kindB f k a = true then 1 else 0)

/-- How many those of a list have. -/
def cellsN (f : Int → Int → Bool) (d : Int) : List Sq → Nat
  | [] => 0
  | a :: l => cellsAt f d a 4 + cellsN f d l

theorem cellsN_append (f : Int → Int → Bool) (d : Int) (l r : List Sq) : cellsN f d (l ++ r) = cellsN f d l + cellsN f d r := by
  induction l with
  | nil => simp [cellsN]
  | cons a l ih => simp only [List.cons_append, cellsN, ih]; omega

theorem cellsAt_le (f : Int → Int → Bool) (d : Int) (a : Sq) (k : Nat) : cellsAt f d a k ≤ k := by
  induction k with
  | zero => simp [cellsAt]
  | succ k ih => unfold cellsAt; split <;> omega

theorem cellsN_le (f : Int → Int → Bool) (d : Int) (l : List Sq) : cellsN f d l ≤ 4 * l.length := by
  induction l with
  | nil => simp [cellsN]
  | cons a l ih => have := cellsAt_le f d a 4; simp only [cellsN, List.length_cons]; omega

theorem cellsN_zero (f : Int → Int → Bool) (l : List Sq) : cellsN f 0 l = cornersN f l := by
  induction l with
  | nil => rfl
  | cons a l ih =>
    unfold cellsN cornersN
    rw [List.countP_cons, ih]
    unfold cornersN
    simp only [cellsAt, kindD, kindB]
    simp
    split <;> omega

theorem cellsN_one (f : Int → Int → Bool) (l : List Sq) : cellsN f 1 l = edgesN f l := by
  induction l with
  | nil => rfl
  | cons a l ih =>
    unfold cellsN edgesN
    rw [List.countP_cons, List.countP_cons, ih]
    unfold edgesN
    simp only [cellsAt, kindD, kindB]
    simp
    split <;> split <;> omega

theorem cellsN_two (f : Int → Int → Bool) (l : List Sq) : cellsN f 2 l = squaresN f l := by
  induction l with
  | nil => rfl
  | cons a l ih =>
    unfold cellsN squaresN
    rw [List.countP_cons, ih]
    unfold squaresN
    simp only [cellsAt, kindD, kindB]
    simp
    split <;> omega

/-- The corners, edges and squares of a list's corners, each told by what it is. -/
def cornersL (f : Int → Int → Bool) (l : List Sq) : List Sq := l.filter (cornerB f)
def edgesL (f : Int → Int → Bool) (l : List Sq) : List (Sq × Sq) := l.flatMap fun a => (if rightB f a then [(a, (a.1 + 1, a.2))] else []) ++ (if downB f a then [(a, (a.1, a.2 + 1))] else [])

theorem cornersL_len (f : Int → Int → Bool) (l : List Sq) : (cornersL f l).length = cornersN f l := by unfold cornersL cornersN; rw [List.countP_eq_length_filter]
theorem edgesL_len (f : Int → Int → Bool) (l : List Sq) : (edgesL f l).length = edgesN f l := by
  unfold edgesL edgesN
  induction l with
  | nil => rfl
  | cons a l ih =>
    rw [List.flatMap_cons, List.length_append, ih, List.countP_cons, List.countP_cons]
    cases rightB f a <;> cases downB f a <;> simp <;> omega
theorem cornersL_mem {f : Int → Int → Bool} {l : List Sq} {a : Sq} (h : a ∈ cornersL f l) : a ∈ l := (List.mem_filter.1 h).1
theorem edgesL_mem {f : Int → Int → Bool} {l : List Sq} {e : Sq × Sq} (h : e ∈ edgesL f l) : e.1 ∈ l ∧ (e.2 = (e.1.1 + 1, e.1.2) ∨ e.2 = (e.1.1, e.1.2 + 1)) := by
  unfold edgesL at h
  obtain ⟨a, ha, h⟩ := List.mem_flatMap.1 h
  rcases List.mem_append.1 h with h | h
  · split at h
    · cases List.mem_singleton.1 h; exact ⟨ha, .inl rfl⟩
    · cases h
  · split at h
    · cases List.mem_singleton.1 h; exact ⟨ha, .inr rfl⟩
    · cases h
theorem cornersL_snoc (f : Int → Int → Bool) (l : List Sq) (a : Sq) : cornersL f (l ++ [a]) = cornersL f l ++ (if cornerB f a then [a] else []) := by
  unfold cornersL
  rw [List.filter_append]
  cases h : cornerB f a <;> simp [h]
theorem edgesL_snoc (f : Int → Int → Bool) (l : List Sq) (a : Sq) : edgesL f (l ++ [a]) = edgesL f l ++ (if rightB f a then [(a, (a.1 + 1, a.2))] else []) ++ (if downB f a then [(a, (a.1, a.2 + 1))] else []) := by
  unfold edgesL
  rw [List.flatMap_append]
  simp

end Go.Proofs.YtjaoiaajplgboaaDoor
