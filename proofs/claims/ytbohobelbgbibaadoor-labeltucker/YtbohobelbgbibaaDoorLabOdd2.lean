/- SPERNER: of labels that may stand an odd number of small triangles is full. No Go here. -/
import Derived.Test.YtbohobelbgbibaaDoorLabOdd
import Derived.Test.YtbohobelbgbibaaDoorLabFault
namespace Go.Proofs.YtbohobelbgbibaaDoor

def triN (r : List Int) : List Nat := [numR r 0, numR r 1, numR r 2]
def inN (x : Nat) (r : List Nat) : Bool := r.any fun y => Nat.beq y x
def rimB (p q : Spt) : Bool := nearN p q && ((Nat.beq p.1 0 && Nat.beq q.1 0) || ((Nat.beq p.2.1 0 && Nat.beq q.2.1 0) || (Nat.beq p.2.2 0 && Nat.beq q.2.2 0)))
def parRow (l : List Spt) (x : Nat) (p : Spt) (F : List (List Nat)) : Nat → Bool
  | 0 => true
  | y + 1 => (Nat.ble (y + 1) x || Nat.beq y x || (xs F (inN y) == rimB p (spA l y))) && parRow l x p F y
def parAll (l : List Spt) (T : List (List Nat)) : Bool := (List.range l.length).all fun x => parRow l x (spA l x) (T.filter (inN x)) l.length
theorem par_all : allN (fun n => parAll (spotsL n) ((smallL n).map triN)) 12 = true := by decide +kernel
theorem beqN (a b : Nat) : Nat.beq a b = decide (a = b) := by
  by_cases h : a = b
  · subst h; simp
  · rw [decide_eq_false h]
    cases e : Nat.beq a b with
    | false => rfl
    | true => exact absurd (Nat.eq_of_beq_eq_true e) h
theorem inN_mem (x : Nat) (r : List Nat) : inN x r = decide (x ∈ r) := by
  unfold inN
  induction r with
  | nil => simp
  | cons a r ih => rw [List.any_cons, ih, beqN]; by_cases e : x = a <;> simp [e, eq_comm]
theorem parRow_at {l : List Spt} {x : Nat} {p : Spt} {F : List (List Nat)} : ∀ {m y : Nat}, parRow l x p F m = true → y < m → x < y → xs F (inN y) = rimB p (spA l y)
  | m + 1, y, h, hy, hxy => by
    rw [parRow, Bool.and_eq_true] at h
    rcases Nat.lt_or_ge y m with k | k
    · exact parRow_at h.2 k hxy
    · obtain rfl : y = m := by omega
      have h1 := h.1
      rw [Bool.or_eq_true, Bool.or_eq_true, beq_iff_eq] at h1
      rcases h1 with (h1 | h1) | h1
      · have := Nat.le_of_ble_eq_true h1; omega
      · have := Nat.eq_of_beq_eq_true h1; omega
      · exact h1
theorem xs_filter {α : Type} (l : List α) (p f : α → Bool) : xs (l.filter p) f = xs l (fun a => p a && f a) := by
  induction l with
  | nil => rfl
  | cons a l ih =>
    rw [xs_cons, ← ih]
    cases e : p a with
    | true => rw [List.filter_cons_of_pos e, xs_cons]; rfl
    | false => rw [List.filter_cons_of_neg (by rw [e]; simp)]; simp
theorem xs_map {α β : Type} (l : List α) (g : α → β) (f : β → Bool) : xs (l.map g) f = xs l (fun a => f (g a)) := by
  induction l with
  | nil => rfl
  | cons a l ih => rw [List.map_cons, xs_cons, xs_cons, ih]
theorem par_at {n x y : Nat} (hn : n ≤ 12) (hxy : x < y) (hy : y < (spotsL n).length) : xs (smallL n) (fun r => inN x (triN r) && inN y (triN r)) = rimB (spA (spotsL n) x) (spA (spotsL n) y) := by
  have h1 := allN_at par_all hn
  unfold parAll at h1
  have h2 := List.all_eq_true.1 h1 x (List.mem_range.2 (by omega))
  have h3 := parRow_at h2 hy hxy
  rw [xs_filter, xs_map] at h3
  exact h3
/-- The full ones, by their doors. -/
theorem full_sum {n : Nat} {ls : List Int} (hg : ∀ j, j < (spotsL n).length → 0 ≤ labA ls j ∧ labA ls j ≤ 2) (hn : n ≤ 12) : xs (smallL n) (fullR ls) = xs (List.range (spotsL n).length) fun x => xs (List.range (spotsL n).length) fun y => (decide (x < y) && isDoor (labA ls x) (labA ls y)) && rimB (spA (spotsL n) x) (spA (spotsL n) y) := by
  have h1 : xs (smallL n) (fullR ls) = xs (smallL n) fun r => xs (List.range (spotsL n).length) fun x => xs (List.range (spotsL n).length) fun y => (decide (x < y) && isDoor (labA ls x) (labA ls y)) && (inN x (triN r) && inN y (triN r)) := xs_congr fun r hr => by
    obtain ⟨a, b, c, rfl, k1, k2, k3, -⟩ := smallL_of hr
    have e0 : triN [(a : Int), (b : Int), (c : Int)] = [a, b, c] := by simp [triN, numR]
    have e1 : fullR ls [(a : Int), (b : Int), (c : Int)] = fullB ls a b c := by simp [fullR, numR]
    rw [e1, ← sides_full k1 k2 k3 (hg a (by omega)) (hg b (by omega)) (hg c k3)]
    unfold sidesX
    refine xs_congr fun x _ => ?_
    rw [← xs_and]
    refine xs_congr fun y _ => ?_
    rw [e0, inN_mem, inN_mem]
    cases decide (x ∈ [a, b, c]) <;> cases decide (y ∈ [a, b, c]) <;> simp
  rw [h1, xs_swap]
  refine xs_congr fun x hx => ?_
  rw [xs_swap]
  refine xs_congr fun y hy => ?_
  rw [xs_and]
  by_cases hxy : x < y
  · rw [par_at hn hxy (List.mem_range.1 hy)]
  · rw [decide_eq_false hxy]; simp

end Go.Proofs.YtbohobelbgbibaaDoor
