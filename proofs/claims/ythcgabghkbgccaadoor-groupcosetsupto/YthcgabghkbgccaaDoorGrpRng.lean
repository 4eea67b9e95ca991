/- Ranges of what stands in the rows; how often pairs are made the same. No Go here. -/
import Derived.Test.YthcgabghkbgccaaDoorGrpTake
namespace Go.Proofs.YthcgabghkbgccaaDoor

/-- Each place of the rows leads nowhere, or to a coset. -/
def Rng (R : List (List Int)) : Prop := ∀ c x, ent R c x = -1 ∨ (0 ≤ ent R c x ∧ ent R c x < (R.length : Int))
def PairsIn (N : Nat) (ps : List (Int × Int)) : Prop := ∀ p ∈ ps, (0 ≤ p.1 ∧ p.1 < (N : Int)) ∧ (0 ≤ p.2 ∧ p.2 < (N : Int))

theorem takeP_pairs {a b k : Nat} {R : List (List Int)} : ∀ p ∈ (takeP a b k R).2, ∃ x, x < k ∧ p = (ent R a x, ent R b x) ∧ ent R a x ≠ -1 ∧ ent R b x ≠ -1 := by
  induction k with
  | zero => intro p hp; cases hp
  | succ k ih =>
    intro p hp
    by_cases e1 : ent R b k = -1
    · rw [takeP_skip e1] at hp
      obtain ⟨x, h1, h2⟩ := ih p hp
      exact ⟨x, by omega, h2⟩
    · by_cases e2 : ent R a k = -1
      · rw [takeP_put e1 e2] at hp
        obtain ⟨x, h1, h2⟩ := ih p hp
        exact ⟨x, by omega, h2⟩
      · rw [takeP_pair e1 e2] at hp
        rcases List.mem_append.1 hp with hp | hp
        · obtain ⟨x, h1, h2⟩ := ih p hp
          exact ⟨x, by omega, h2⟩
        · exact ⟨k, by omega, List.mem_singleton.1 hp, e2, e1⟩
/-- Each pair that both lead to is told. -/
theorem takeP_told {a b k : Nat} {R : List (List Int)} {x : Nat} (hx : x < k) (h1 : ent R a x ≠ -1) (h2 : ent R b x ≠ -1) : (ent R a x, ent R b x) ∈ (takeP a b k R).2 := by
  induction k with
  | zero => omega
  | succ k ih =>
    by_cases e1 : ent R b k = -1
    · rw [takeP_skip e1]
      exact ih (Nat.lt_of_le_of_ne (by omega) fun e => h2 (by rw [e]; exact e1))
    · by_cases e2 : ent R a k = -1
      · rw [takeP_put e1 e2]
        exact ih (Nat.lt_of_le_of_ne (by omega) fun e => h1 (by rw [e]; exact e2))
      · rw [takeP_pair e1 e2]
        refine List.mem_append.2 ?_
        rcases Nat.lt_or_ge x k with h | h
        · exact .inl (ih h)
        · obtain rfl : x = k := by omega
          exact .inr (List.mem_singleton.2 rfl)
theorem Rng.take {n : Nat} {R : List (List Int)} (hw : Wide n R) (h : Rng R) {a b : Nat} (ha : a < R.length) : Rng (takeP a b (2 * n) R).1 := by
  intro c x
  rw [takeP_len, takeP_ent hw ha _ (Nat.le_refl _)]
  split
  · exact h b x
  · exact h c x
theorem Rng.pairs {R : List (List Int)} (h : Rng R) {a b k : Nat} : PairsIn R.length (takeP a b k R).2 := by
  intro p hp
  obtain ⟨x, _, rfl, h1, h2⟩ := takeP_pairs p hp
  exact ⟨(h a x).resolve_left h1, (h b x).resolve_left h2⟩

theorem countLe {α : Type} {p q : α → Bool} : ∀ {l : List α}, (∀ a ∈ l, p a = true → q a = true) → l.countP p ≤ l.countP q
  | [], _ => Nat.le_refl _
  | a :: l, h => by
    have ih := countLe (l := l) fun b hb => h b (List.mem_cons_of_mem _ hb)
    have ha := h a (List.mem_cons_self ..)
    rw [List.countP_cons, List.countP_cons]
    by_cases hp : p a = true
    · rw [if_pos hp, if_pos (ha hp)]; omega
    · rw [if_neg hp]; omega
theorem countLt {α : Type} {p q : α → Bool} : ∀ {l : List α}, (∀ a ∈ l, p a = true → q a = true) → (∃ b ∈ l, q b = true ∧ p b = false) → l.countP p < l.countP q
  | [], _, ⟨b, hb, _⟩ => by cases hb
  | a :: l, h, ⟨b, hb, hq, hp⟩ => by
    rw [List.countP_cons, List.countP_cons]
    have hl : ∀ b ∈ l, p b = true → q b = true := fun b hb => h b (List.mem_cons_of_mem _ hb)
    rcases List.mem_cons.1 hb with rfl | hb
    · rw [if_neg (by simp [hp]), if_pos hq]
      have := countLe hl
      omega
    · have := countLt hl ⟨b, hb, hq, hp⟩
      have ha := h a (List.mem_cons_self ..)
      by_cases hpa : p a = true
      · rw [if_pos hpa, if_pos (ha hpa)]; omega
      · rw [if_neg hpa]; omega

/-- A coset less stands for itself. -/
theorem roots_lt {N : Nat} {cls : Nat → Nat} (hc : Cls cls) {p : Nat × Nat} (h1 : p.1 < N) (h2 : p.2 < N) (hne : cls p.1 ≠ cls p.2) : rootsN N (joinC cls p) < rootsN N cls := by
  have l1 := hc.le p.1
  have l2 := hc.le p.2
  have i1 := hc.idem p.1
  have i2 := hc.idem p.2
  have hM : cls (max (cls p.1) (cls p.2)) = max (cls p.1) (cls p.2) := by rcases Nat.le_total (cls p.1) (cls p.2) with hl | hl <;> simp [Nat.max_eq_left, Nat.max_eq_right, hl, i1, i2]
  refine countLt (fun i _ hi => ?_) ⟨max (cls p.1) (cls p.2), List.mem_range.2 (by omega), by rw [beq_iff_eq]; exact hM, ?_⟩
  · rw [beq_iff_eq] at hi ⊢
    unfold joinC at hi
    split at hi
    · have := hc.le i
      omega
    · exact hi
  · refine beq_false_of_ne ?_
    rw [joinC_max _ hM]
    omega
theorem roots_le (N : Nat) (cls : Nat → Nat) : rootsN N cls ≤ N := by
  unfold rootsN
  have := List.countP_le_length (p := fun i => cls i == i) (l := List.range N)
  rwa [List.length_range] at this

theorem uniteF_nil (n m : Nat) (s : Cos) : uniteF n m s [] = s := by cases m <;> rfl
theorem uniteF_skip {n m : Nat} {s : Cos} {ps : List (Int × Int)} {p : Int × Int} (h : s.cls p.1.toNat = s.cls p.2.toNat) : uniteF n (m + 1) s (ps ++ [p]) = uniteF n m s ps := by
  rw [uniteF]
  simp only [List.getLast?_append, List.getLast?_singleton, Option.some_or, List.dropLast_concat]
  rw [if_pos h]
theorem uniteF_take {n m : Nat} {s : Cos} {ps : List (Int × Int)} {p : Int × Int} (h : s.cls p.1.toNat ≠ s.cls p.2.toNat) : uniteF n (m + 1) s (ps ++ [p]) =
    uniteF n m ⟨(takeP (min (s.cls p.1.toNat) (s.cls p.2.toNat)) (max (s.cls p.1.toNat) (s.cls p.2.toNat)) (2 * n) s.R).1, joinC s.cls (p.1.toNat, p.2.toNat)⟩ (ps ++ (takeP (min (s.cls p.1.toNat) (s.cls p.2.toNat)) (max (s.cls p.1.toNat) (s.cls p.2.toNat)) (2 * n) s.R).2) := by
  rw [uniteF]
  simp only [List.getLast?_append, List.getLast?_singleton, Option.some_or, List.dropLast_concat]
  rw [if_neg h]

end Go.Proofs.YthcgabghkbgccaaDoor
