/- The normal forms' letters, names and places. No program is spoken of. -/
import Derived.Test.YtkaplnjknobdpaaDoorSurfNormal
namespace Go.Proofs.YtkaplnjknobdpaaDoor

theorem filter_two {n i j : Nat} {p : Nat → Bool} (hij : i < j) (hj : j < n) (hi' : p i = true) (hj' : p j = true) (h : ∀ k, k < n → p k = true → k = i ∨ k = j) : (List.range n).filter p = [i, j] := by
  have key : ∀ m, m ≤ n → (List.range m).filter p = (if i < m then [i] else []) ++ (if j < m then [j] else []) := by
    intro m
    induction m with
    | zero => intro _; simp
    | succ m ih =>
      intro hm
      rw [List.range_succ, List.filter_append, ih (by omega)]
      by_cases e1 : m = i
      · subst e1
        rw [if_neg (by omega), if_neg (by omega), if_pos (by omega), if_neg (by omega)]
        simp [hi']
      · by_cases e2 : m = j
        · subst e2
          rw [if_pos (by omega), if_neg (by omega), if_pos (by omega), if_pos (by omega)]
          simp [hj']
        · have hf : p m = false := by
            cases hp : p m with
            | false => rfl
            | true => rcases h m (by omega) hp with e | e; exact absurd e e1; exact absurd e e2
          have a1 : (i < m + 1) = (i < m) := by apply propext; omega
          have a2 : (j < m + 1) = (j < m) := by apply propext; omega
          simp only [a1, a2]
          simp [hf]
  have := key n (Nat.le_refl _)
  rw [if_pos (by omega), if_pos hj] at this
  exact this
theorem filter_one {n i : Nat} {p : Nat → Bool} (hi : i < n) (hi' : p i = true) (h : ∀ k, k < n → p k = true → k = i) : (List.range n).filter p = [i] := by
  have key : ∀ m, m ≤ n → (List.range m).filter p = if i < m then [i] else [] := by
    intro m
    induction m with
    | zero => intro _; simp
    | succ m ih =>
      intro hm
      rw [List.range_succ, List.filter_append, ih (by omega)]
      by_cases e1 : m = i
      · subst e1
        rw [if_neg (by omega), if_pos (by omega)]
        simp [hi']
      · have hf : p m = false := by
          cases hp : p m with
          | false => rfl
          | true => exact absurd (h m (by omega) hp) e1
        have a1 : (i < m + 1) = (i < m) := by apply propext; omega
        simp only [a1]
        simp [hf]
  have := key n (Nat.le_refl _)
  rw [if_pos hi] at this
  exact this
theorem filter_names {N : Nat} {p : Nat → Bool} (hN : N ≤ 60) (h : ∀ j, j < 61 → (p j = true ↔ 1 ≤ j ∧ j ≤ N)) : (List.range 61).filter p = (List.range N).map (· + 1) := by
  have key : ∀ m, m ≤ 60 → (List.range (m + 1)).filter p = (List.range (min m N)).map (· + 1) := by
    intro m
    induction m with
    | zero =>
      intro _
      have h0 : p 0 = false := by
        cases hp : p 0 with
        | false => rfl
        | true => have := (h 0 (by omega)).1 hp; omega
      rw [Nat.zero_min]
      simp [List.range_succ, h0]
    | succ m ih =>
      intro hm
      rw [List.range_succ, List.filter_append, ih (by omega)]
      by_cases e : m + 1 ≤ N
      · have hp : p (m + 1) = true := (h _ (by omega)).2 ⟨by omega, e⟩
        rw [Nat.min_eq_left (by omega), Nat.min_eq_left e, List.range_succ, List.map_append]
        simp [hp]
      · have hp : p (m + 1) = false := by
          cases hp : p (m + 1) with
          | false => rfl
          | true => have := (h _ (by omega)).1 hp; omega
        rw [Nat.min_eq_right (by omega), Nat.min_eq_right (by omega)]
        simp [hp]
  have := key 60 (by omega)
  rw [Nat.min_eq_right hN] at this
  exact this

theorem gW_at_true : ∀ {g q : Nat}, q < g → (gW true g)[4 * q]? = some (2 * (q : Int) + 1) ∧ (gW true g)[4 * q + 1]? = some (2 * (q : Int) + 2) ∧ (gW true g)[4 * q + 2]? = some (-(2 * (q : Int) + 1)) ∧ (gW true g)[4 * q + 3]? = some (-(2 * (q : Int) + 2))
  | 0, q, h => by omega
  | g + 1, q, h => by
    have hl : (gW true g).length = 4 * g := by rw [gW_len]; rfl
    have e : gW true (g + 1) = gW true g ++ [2 * (g : Int) + 1, 2 * (g : Int) + 2, -(2 * (g : Int) + 1), -(2 * (g : Int) + 2)] := rfl
    rw [e]
    by_cases hq : q < g
    · have ih := gW_at_true hq
      refine ⟨?_, ?_, ?_, ?_⟩
      · rw [List.getElem?_append_left (by omega)]; exact ih.1
      · rw [List.getElem?_append_left (by omega)]; exact ih.2.1
      · rw [List.getElem?_append_left (by omega)]; exact ih.2.2.1
      · rw [List.getElem?_append_left (by omega)]; exact ih.2.2.2
    · obtain rfl : q = g := by omega
      refine ⟨?_, ?_, ?_, ?_⟩
      · rw [List.getElem?_append_right (by omega), hl, Nat.sub_self]; rfl
      · rw [List.getElem?_append_right (by omega), hl, show 4 * q + 1 - 4 * q = 1 by omega]; rfl
      · rw [List.getElem?_append_right (by omega), hl, show 4 * q + 2 - 4 * q = 2 by omega]; rfl
      · rw [List.getElem?_append_right (by omega), hl, show 4 * q + 3 - 4 * q = 3 by omega]; rfl
theorem gW_at_false : ∀ {g q : Nat}, q < g → (gW false g)[2 * q]? = some ((q : Int) + 1) ∧ (gW false g)[2 * q + 1]? = some ((q : Int) + 1)
  | 0, q, h => by omega
  | g + 1, q, h => by
    have hl : (gW false g).length = 2 * g := by rw [gW_len]; rfl
    have e : gW false (g + 1) = gW false g ++ [(g : Int) + 1, (g : Int) + 1] := rfl
    rw [e]
    by_cases hq : q < g
    · have ih := gW_at_false hq
      refine ⟨?_, ?_⟩
      · rw [List.getElem?_append_left (by omega)]; exact ih.1
      · rw [List.getElem?_append_left (by omega)]; exact ih.2
    · obtain rfl : q = g := by omega
      refine ⟨?_, ?_⟩
      · rw [List.getElem?_append_right (by omega), hl, Nat.sub_self]; rfl
      · rw [List.getElem?_append_right (by omega), hl, show 2 * q + 1 - 2 * q = 1 by omega]; rfl
theorem rW_at (b : Int) : ∀ {r q : Nat}, q < r → (rW b r)[3 * q]? = some (b + 2 * (q : Int)) ∧ (rW b r)[3 * q + 1]? = some (b + 2 * (q : Int) + 1) ∧ (rW b r)[3 * q + 2]? = some (-(b + 2 * (q : Int)))
  | 0, q, h => by omega
  | r + 1, q, h => by
    have hl := rW_len b r
    have e : rW b (r + 1) = rW b r ++ [b + 2 * (r : Int), b + 2 * (r : Int) + 1, -(b + 2 * (r : Int))] := rfl
    rw [e]
    by_cases hq : q < r
    · have ih := rW_at b hq
      refine ⟨?_, ?_, ?_⟩
      · rw [List.getElem?_append_left (by omega)]; exact ih.1
      · rw [List.getElem?_append_left (by omega)]; exact ih.2.1
      · rw [List.getElem?_append_left (by omega)]; exact ih.2.2
    · obtain rfl : q = r := by omega
      refine ⟨?_, ?_, ?_⟩
      · rw [List.getElem?_append_right (by omega), hl, Nat.sub_self]; rfl
      · rw [List.getElem?_append_right (by omega), hl, show 3 * q + 1 - 3 * q = 1 by omega]; rfl
      · rw [List.getElem?_append_right (by omega), hl, show 3 * q + 2 - 3 * q = 2 by omega]; rfl

/-- A word in normal form, by what it is made of: G letters ahead of the rims, M names among them. -/
structure NormAt (ws : List Int) (t : Bool) (g r G M : Nat) : Prop where
  len : ws.length = G + 3 * r
  size : (t = true ∧ G = 4 * g ∧ M = 2 * g) ∨ (t = false ∧ G = 2 * g ∧ M = g ∧ 0 < g)
  some : 0 < g ∨ 0 < r
  few : M + 2 * r ≤ 60
  turn : t = true → ∀ q, q < g → ltI ws (4 * q) = 2 * (q : Int) + 1 ∧ ltI ws (4 * q + 1) = 2 * (q : Int) + 2 ∧ ltI ws (4 * q + 2) = -(2 * (q : Int) + 1) ∧ ltI ws (4 * q + 3) = -(2 * (q : Int) + 2)
  plain : t = false → ∀ q, q < g → ltI ws (2 * q) = (q : Int) + 1 ∧ ltI ws (2 * q + 1) = (q : Int) + 1
  rims : ∀ q, q < r → ltI ws (G + 3 * q) = (M : Int) + 1 + 2 * (q : Int) ∧ ltI ws (G + 3 * q + 1) = (M : Int) + 2 + 2 * (q : Int) ∧ ltI ws (G + 3 * q + 2) = -((M : Int) + 1 + 2 * (q : Int))

theorem lt_left {l m : List Int} {k : Nat} {x : Int} (h : l[k]? = some x) : ltI (l ++ m) k = x := by
  unfold ltI
  rw [List.getElem?_append_left (List.getElem?_eq_some_iff.1 h).1, h]; rfl
theorem lt_right {l m : List Int} {k j : Nat} {x : Int} (hj : k = l.length + j) (h : m[j]? = some x) : ltI (l ++ m) k = x := by
  unfold ltI
  rw [List.getElem?_append_right (by omega), show k - l.length = j by omega, h]; rfl

theorem norm_at {t : Bool} {g r : Nat} (hs : ¬ ShapeBad t (g : Int) (r : Int)) (hf : fitsB t (g : Int) (r : Int) = true) (hz : ¬ (g = 0 ∧ r = 0)) : NormAt (normW t g r) t g r (if t then 4 * g else 2 * g) (if t then 2 * g else g) := by
  have hfb := of_decide_eq_true hf
  have hw : normW t g r = gW t g ++ rW (gN t g) r := by unfold normW; rw [if_neg hz]
  rw [hw]
  cases t with
  | true =>
    simp only [if_true] at hfb ⊢
    have hl : (gW true g).length = 4 * g := by rw [gW_len]; rfl
    have hb : gN true g = 2 * (g : Int) + 1 := rfl
    refine ⟨by rw [List.length_append, hl, rW_len], .inl ⟨rfl, rfl, rfl⟩, by omega, by omega, fun _ q hq => ?_, (fun h => by cases h), fun q hq => ?_⟩
    · have h := gW_at_true hq
      exact ⟨lt_left h.1, lt_left h.2.1, lt_left h.2.2.1, lt_left h.2.2.2⟩
    · have h := rW_at (gN true g) hq
      rw [hb] at h ⊢
      refine ⟨?_, ?_, ?_⟩
      · rw [lt_right (j := 3 * q) (by omega) h.1] <;> omega
      · rw [lt_right (j := 3 * q + 1) (by omega) h.2.1] <;> omega
      · rw [lt_right (j := 3 * q + 2) (by omega) h.2.2] <;> omega
  | false =>
    simp only [Bool.false_eq_true, if_false] at hfb ⊢
    have hg : 0 < g := by
      rcases Nat.eq_zero_or_pos g with e | e
      · exact absurd (.inr (.inr ⟨rfl, by omega⟩)) hs
      · exact e
    have hl : (gW false g).length = 2 * g := by rw [gW_len]; rfl
    have hb : gN false g = (g : Int) + 1 := rfl
    refine ⟨by rw [List.length_append, hl, rW_len], .inr ⟨rfl, rfl, rfl, hg⟩, .inl hg, by omega, (fun h => by cases h), fun _ q hq => ?_, fun q hq => ?_⟩
    · have h := gW_at_false hq
      exact ⟨lt_left h.1, lt_left h.2⟩
    · have h := rW_at (gN false g) hq
      rw [hb] at h ⊢
      refine ⟨?_, ?_, ?_⟩
      · rw [lt_right (j := 3 * q) (by omega) h.1] <;> omega
      · rw [lt_right (j := 3 * q + 1) (by omega) h.2.1] <;> omega
      · rw [lt_right (j := 3 * q + 2) (by omega) h.2.2] <;> omega

end Go.Proofs.YtkaplnjknobdpaaDoor
