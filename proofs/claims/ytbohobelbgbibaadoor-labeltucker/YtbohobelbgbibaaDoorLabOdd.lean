/- Sums without carries: whether a number is odd; the doors of a triangle are an odd number just if it is full. No Go here. -/
import Derived.Test.YtbohobelbgbibaaDoorLabThru
namespace Go.Proofs.YtbohobelbgbibaaDoor

/-- The sum of truths, without carries. -/
def xs {α : Type} (l : List α) (f : α → Bool) : Bool := l.foldr (fun a b => xor (f a) b) false
section
variable {α β : Type}
theorem xs_cons (a : α) (l : List α) (f : α → Bool) : xs (a :: l) f = xor (f a) (xs l f) := rfl
theorem xs_append (l m : List α) (f : α → Bool) : xs (l ++ m) f = xor (xs l f) (xs m f) := by
  induction l with
  | nil => simp [xs]
  | cons a l ih => rw [List.cons_append, xs_cons, xs_cons, ih, Bool.xor_assoc]
theorem xs_congr {l : List α} {f g : α → Bool} (h : ∀ a ∈ l, f a = g a) : xs l f = xs l g := by
  induction l with
  | nil => rfl
  | cons a l ih => rw [xs_cons, xs_cons, h a (List.mem_cons_self ..), ih fun b hb => h b (List.mem_cons_of_mem _ hb)]
theorem xs_xor (l : List α) (f g : α → Bool) : xs l (fun a => xor (f a) (g a)) = xor (xs l f) (xs l g) := by
  induction l with
  | nil => rfl
  | cons a l ih =>
    rw [xs_cons, xs_cons, xs_cons, ih]
    cases f a <;> cases g a <;> cases xs l f <;> cases xs l g <;> rfl
theorem xs_false (l : List α) : xs l (fun _ => false) = false := by
  induction l with
  | nil => rfl
  | cons a l ih => rw [xs_cons, ih]; rfl
theorem xs_swap (l : List α) (m : List β) (f : α → β → Bool) : xs l (fun a => xs m (fun b => f a b)) = xs m (fun b => xs l (fun a => f a b)) := by
  induction l with
  | nil => exact (xs_false m).symm
  | cons a l ih =>
    rw [xs_cons, ih, ← xs_xor]
    rfl
theorem xs_and (c : Bool) (l : List α) (f : α → Bool) : xs l (fun a => c && f a) = (c && xs l f) := by
  cases c with
  | false => exact xs_false l
  | true => rfl
theorem xs_count (l : List α) (f : α → Bool) : xs l f = decide (l.countP f % 2 = 1) := by
  induction l with
  | nil => rfl
  | cons a l ih =>
    rw [xs_cons, ih, List.countP_cons]
    cases f a with
    | false => simp
    | true =>
      simp only [if_true]
      rcases Nat.mod_two_eq_zero_or_one (l.countP f) with h | h
      · rw [h, show (l.countP f + 1) % 2 = 1 by omega]; rfl
      · rw [h, show (l.countP f + 1) % 2 = 0 by omega]; rfl
end
theorem xs_one {N a : Nat} (h : a < N) (f : Nat → Bool) : xs (List.range N) (fun x => (x == a) && f x) = f a := by
  induction N with
  | zero => omega
  | succ N ih =>
    rw [List.range_succ, xs_append]
    have e1 : xs [N] (fun x => (x == a) && f x) = ((N == a) && f N) := by simp [xs]
    rw [e1]
    rcases Nat.lt_or_ge a N with k | k
    · rw [ih k, show (N == a) = false from beq_false_of_ne (by omega)]; simp
    · obtain rfl : a = N := by omega
      have e2 : xs (List.range a) (fun x => (x == a) && f x) = false := (xs_congr fun x hx => by
        have := List.mem_range.1 hx
        rw [show (x == a) = false from beq_false_of_ne (by omega)]; rfl).trans (xs_false _)
      rw [e2]; simp
/-- A sum over numbers of which some are meant. -/
theorem xs_mem {N : Nat} (f : Nat → Bool) : ∀ {r : List Nat}, r.Nodup → (∀ x ∈ r, x < N) → xs (List.range N) (fun x => decide (x ∈ r) && f x) = xs r f
  | [], _, _ => xs_false _
  | a :: r, hnd, hr => by
    rw [List.nodup_cons] at hnd
    have h1 : xs (List.range N) (fun x => decide (x ∈ a :: r) && f x) = xs (List.range N) (fun x => xor ((x == a) && f x) (decide (x ∈ r) && f x)) := xs_congr fun x _ => by
      by_cases e : x = a
      · subst e; simp [hnd.1]
      · rw [show (x == a) = false from beq_false_of_ne e]; simp [e]
    rw [h1, xs_xor, xs_one (hr a (List.mem_cons_self ..)), xs_mem f hnd.2 fun x hx => hr x (List.mem_cons_of_mem _ hx), xs_cons]
/-- A small triangle's sides that are doors: an odd number just if it is full. -/
def sidesX (N : Nat) (ls : List Int) (r : List Nat) : Bool := xs (List.range N) fun x => decide (x ∈ r) && xs (List.range N) fun y => decide (y ∈ r) && (decide (x < y) && isDoor (labA ls x) (labA ls y))
theorem sides_full {N : Nat} {ls : List Int} {a b c : Nat} (h1 : a < b) (h2 : b < c) (h3 : c < N) (la : 0 ≤ labA ls a ∧ labA ls a ≤ 2) (lb : 0 ≤ labA ls b ∧ labA ls b ≤ 2) (lc : 0 ≤ labA ls c ∧ labA ls c ≤ 2) : sidesX N ls [a, b, c] = fullB ls a b c := by
  have hnd : [a, b, c].Nodup := by simp; omega
  have hlt : ∀ x ∈ [a, b, c], x < N := fun x hx => by simp at hx; omega
  have e1 : sidesX N ls [a, b, c] = xs [a, b, c] fun x => xs [a, b, c] fun y => decide (x < y) && isDoor (labA ls x) (labA ls y) := by
    unfold sidesX
    rw [xs_mem _ hnd hlt]
    exact xs_congr fun x _ => xs_mem _ hnd hlt
  rw [e1]
  simp only [xs, List.foldr_cons, List.foldr_nil]
  rw [decide_eq_false (show ¬ a < a by omega), decide_eq_true h1, decide_eq_true (show a < c by omega), decide_eq_false (show ¬ b < a by omega), decide_eq_false (show ¬ b < b by omega), decide_eq_true h2, decide_eq_false (show ¬ c < a by omega), decide_eq_false (show ¬ c < b by omega), decide_eq_false (show ¬ c < c by omega)]
  unfold fullB isDoor
  have k : ∀ x : Int, 0 ≤ x ∧ x ≤ 2 → x = 0 ∨ x = 1 ∨ x = 2 := fun x h => by omega
  rcases k _ la with e | e | e <;> rcases k _ lb with f | f | f <;> rcases k _ lc with g | g | g <;> rw [e, f, g] <;> rfl

end Go.Proofs.YtbohobelbgbibaaDoor
