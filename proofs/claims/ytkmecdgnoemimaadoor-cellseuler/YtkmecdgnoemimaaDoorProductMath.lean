/- Products: rows of pairs that rise, and the longest ones over two faces. -/
import Derived.Test.YtkmecdgnoemimaaDoorMath2
namespace Go.Proofs.YtkmecdgnoemimaaDoor

/-- A pair stands ahead of another one. -/
def pairLt (a b : Nat × Nat) : Prop := a.1 ≤ b.1 ∧ a.2 ≤ b.2 ∧ a ≠ b
/-- Pairs that rise or stay, each once. -/
abbrev Climbs (s : List (Nat × Nat)) : Prop := s.Pairwise pairLt
theorem pairLt_trans {a b c : Nat × Nat} (h : pairLt a b) (k : pairLt b c) : pairLt a c := by
  refine ⟨Nat.le_trans h.1 k.1, Nat.le_trans h.2.1 k.2.1, fun e => ?_⟩
  subst e
  have h1 : a.1 = b.1 := Nat.le_antisymm h.1 k.1
  have h2 : a.2 = b.2 := Nat.le_antisymm h.2.1 k.2.1
  exact h.2.2 (Prod.ext h1 h2)
/-- Two pairs of a row, one in the first column and one in the first line, are no two. -/
theorem climbs_two {s : List (Nat × Nat)} (h : Climbs s) {p q : Nat × Nat} (hp : p ∈ s) (hq : q ∈ s) : p = q ∨ pairLt p q ∨ pairLt q p := by
  induction s with
  | nil => cases hp
  | cons x s ih =>
    have h' := List.pairwise_cons.1 h
    rcases List.mem_cons.1 hp with rfl | hp' <;> rcases List.mem_cons.1 hq with rfl | hq'
    · exact .inl rfl
    · exact .inr (.inl (h'.1 q hq'))
    · exact .inr (.inr (h'.1 p hp'))
    · exact ih h'.2 hp' hq'

/-- All stairs over two faces, in the order in which they are climbed. -/
def stairs : Nat → List Nat → List Nat → List (List (Nat × Nat))
  | 0, _, _ => []
  | _ + 1, [], _ => []
  | _ + 1, _, [] => []
  | n + 1, a :: f, b :: g =>
    if f = [] ∧ g = [] then [[(a, b)]]
    else ((if f = [] then [] else stairs n f (b :: g)) ++ (if g = [] then [] else stairs n (a :: f) g)).map (fun t => (a, b) :: t)

theorem stairs_some : ∀ (n : Nat) (f g : List Nat), f ≠ [] → g ≠ [] → f.length + g.length ≤ n + 1 → stairs n f g ≠ []
  | 0, f, g, hf, hg, h => by
    have h1 := List.length_pos_iff.2 hf
    have h2 := List.length_pos_iff.2 hg
    omega
  | n + 1, [], _, hf, _, _ => absurd rfl hf
  | n + 1, _ :: _, [], _, hg, _ => absurd rfl hg
  | n + 1, a :: f, b :: g, _, _, h => by
    simp only [stairs]
    split
    · simp
    · rename_i hne
      simp only [List.length_cons] at h
      by_cases hf : f = []
      · have hg : g ≠ [] := fun e => hne ⟨hf, e⟩
        have := stairs_some n (a :: f) g (by simp) hg (by simp only [List.length_cons]; omega)
        simp [hf] at this ⊢
        simp [hg, this]
      · have := stairs_some n f (b :: g) hf (by simp) (by simp only [List.length_cons]; omega)
        simp [hf, this]

/-- What stairs are: they climb, over vertices of the two faces. -/
theorem stairs_are : ∀ (n : Nat) (f g : List Nat), f.Pairwise (· < ·) → g.Pairwise (· < ·) → ∀ t ∈ stairs n f g, Climbs t ∧ ∀ p ∈ t, p.1 ∈ f ∧ p.2 ∈ g
  | 0, _, _, _, _, t, h => by simp [stairs] at h
  | _ + 1, [], _, _, _, t, h => by simp [stairs] at h
  | _ + 1, _ :: _, [], _, _, t, h => by simp [stairs] at h
  | n + 1, a :: f, b :: g, hf, hg, t, h => by
    have hf' := List.pairwise_cons.1 hf
    have hg' := List.pairwise_cons.1 hg
    simp only [stairs] at h
    split at h
    · simp at h
      subst h
      exact ⟨List.pairwise_singleton _ _, fun p hp => by simp at hp; subst hp; simp⟩
    · obtain ⟨t', ht', rfl⟩ := List.mem_map.1 h
      rcases List.mem_append.1 ht' with h1 | h1
      · by_cases e : f = []
        · rw [if_pos e] at h1; cases h1
        · rw [if_neg e] at h1
          have ih := stairs_are n f (b :: g) hf'.2 hg t' h1
          refine ⟨List.pairwise_cons.2 ⟨fun p hp => ?_, ih.1⟩, fun p hp => ?_⟩
          · have h2 := ih.2 p hp
            have h3 := hf'.1 p.1 h2.1
            refine ⟨Nat.le_of_lt h3, ?_, fun e => by rw [← e] at h3; exact Nat.lt_irrefl _ h3⟩
            rcases List.mem_cons.1 h2.2 with h4 | h4
            · rw [h4]; exact Nat.le_refl _
            · exact Nat.le_of_lt (hg'.1 _ h4)
          · rcases List.mem_cons.1 hp with rfl | hp
            · simp
            · exact ⟨List.mem_cons_of_mem _ (ih.2 p hp).1, (ih.2 p hp).2⟩
      · by_cases e : g = []
        · rw [if_pos e] at h1; cases h1
        · rw [if_neg e] at h1
          have ih := stairs_are n (a :: f) g hf hg'.2 t' h1
          refine ⟨List.pairwise_cons.2 ⟨fun p hp => ?_, ih.1⟩, fun p hp => ?_⟩
          · have h2 := ih.2 p hp
            have h3 := hg'.1 p.2 h2.2
            refine ⟨?_, Nat.le_of_lt h3, fun e => by rw [← e] at h3; exact Nat.lt_irrefl _ h3⟩
            rcases List.mem_cons.1 h2.1 with h4 | h4
            · rw [h4]; exact Nat.le_refl _
            · exact Nat.le_of_lt (hf'.1 _ h4)
          · rcases List.mem_cons.1 hp with rfl | hp
            · simp
            · exact ⟨(ih.2 p hp).1, List.mem_cons_of_mem _ (ih.2 p hp).2⟩

/-- A row over two faces leaves the first line or the first column behind its first pair. -/
theorem climbs_leave {s : List (Nat × Nat)} {a b : Nat} {f g : List Nat} (hf : (a :: f).Pairwise (· < ·)) (hg : (b :: g).Pairwise (· < ·)) (h : Climbs s) (hs : ∀ p ∈ s, p.1 ∈ a :: f ∧ p.2 ∈ b :: g) (hn : (a, b) ∉ s) :
    (∀ p ∈ s, p.1 ∈ f ∧ p.2 ∈ b :: g) ∨ (∀ p ∈ s, p.1 ∈ a :: f ∧ p.2 ∈ g) := by
  have hf' := List.pairwise_cons.1 hf
  have hg' := List.pairwise_cons.1 hg
  rcases Classical.em (∃ p ∈ s, p.1 = a) with ⟨p, hp, hpa⟩ | h1
  · refine .inr (fun q hq => ⟨(hs q hq).1, ?_⟩)
    rcases List.mem_cons.1 (hs q hq).2 with hqb | hqb
    · exfalso
      have hpb : p.2 ∈ g := by
        rcases List.mem_cons.1 (hs p hp).2 with e | e
        · exact absurd (show (a, b) ∈ s by rw [← hpa, ← e]; exact hp) hn
        · exact e
      have hqf : q.1 ∈ f := by
        rcases List.mem_cons.1 (hs q hq).1 with e | e
        · exact absurd (show (a, b) ∈ s by rw [← e, ← hqb]; exact hq) hn
        · exact e
      have h2 := hg'.1 _ hpb
      have h3 := hf'.1 _ hqf
      rcases climbs_two h hp hq with e | e | e
      · rw [← e] at hqb; omega
      · have := e.2.1; omega
      · have := e.1; omega
    · exact hqb
  · refine .inl (fun p hp => ⟨?_, (hs p hp).2⟩)
    rcases List.mem_cons.1 (hs p hp).1 with e | e
    · exact absurd ⟨p, hp, e⟩ h1
    · exact e

/-- Each row over two faces is part of one of their stairs. -/
theorem climbs_stairs : ∀ (n : Nat) (f g : List Nat), f.Pairwise (· < ·) → g.Pairwise (· < ·) → f ≠ [] → g ≠ [] → f.length + g.length ≤ n + 1 → ∀ s, Climbs s → (∀ p ∈ s, p.1 ∈ f ∧ p.2 ∈ g) → ∃ t ∈ stairs n f g, s.Sublist t
  | 0, f, g, _, _, hf, hg, h, _, _, _ => by
    have h1 := List.length_pos_iff.2 hf
    have h2 := List.length_pos_iff.2 hg
    omega
  | n + 1, [], _, _, _, hf, _, _, _, _, _ => absurd rfl hf
  | n + 1, _ :: _, [], _, _, _, hg, _, _, _, _ => absurd rfl hg
  | n + 1, a :: f, b :: g, hf, hg, _, _, hl, s, hs, hm => by
    have hf' := List.pairwise_cons.1 hf
    have hg' := List.pairwise_cons.1 hg
    simp only [List.length_cons] at hl
    -- what is behind the first pair
    have key : ∀ s', Climbs s' → (∀ p ∈ s', p.1 ∈ a :: f ∧ p.2 ∈ b :: g) → (a, b) ∉ s' → ∃ t ∈ stairs (n + 1) (a :: f) (b :: g), ((a, b) :: s').Sublist t := by
      intro s' hs' hm' hn'
      by_cases hboth : f = [] ∧ g = []
      · obtain ⟨rfl, rfl⟩ := hboth
        cases s' with
        | nil => exact ⟨[(a, b)], by simp [stairs], List.Sublist.refl _⟩
        | cons p s' =>
          have := hm' p (by simp)
          simp at this
          exact absurd (show (a, b) ∈ p :: s' by rw [← this.1, ← this.2]; simp) hn'
      · have fin1 : f ≠ [] → (∀ p ∈ s', p.1 ∈ f ∧ p.2 ∈ b :: g) → ∃ t ∈ stairs (n + 1) (a :: f) (b :: g), ((a, b) :: s').Sublist t := by
          intro hf0 h1
          obtain ⟨t', ht', hsub⟩ := climbs_stairs n f (b :: g) hf'.2 hg hf0 (by simp) (by simp only [List.length_cons]; omega) s' hs' h1
          refine ⟨(a, b) :: t', ?_, hsub.cons_cons _⟩
          simp only [stairs]
          rw [if_neg hboth]
          exact List.mem_map.2 ⟨t', List.mem_append.2 (.inl (by rw [if_neg hf0]; exact ht')), rfl⟩
        have fin2 : g ≠ [] → (∀ p ∈ s', p.1 ∈ a :: f ∧ p.2 ∈ g) → ∃ t ∈ stairs (n + 1) (a :: f) (b :: g), ((a, b) :: s').Sublist t := by
          intro hg0 h1
          obtain ⟨t', ht', hsub⟩ := climbs_stairs n (a :: f) g hf hg'.2 (by simp) hg0 (by simp only [List.length_cons]; omega) s' hs' h1
          refine ⟨(a, b) :: t', ?_, hsub.cons_cons _⟩
          simp only [stairs]
          rw [if_neg hboth]
          exact List.mem_map.2 ⟨t', List.mem_append.2 (.inr (by rw [if_neg hg0]; exact ht')), rfl⟩
        cases s' with
        | nil =>
          by_cases hf0 : f = []
          · exact fin2 (fun e => hboth ⟨hf0, e⟩) (fun p hp => by cases hp)
          · exact fin1 hf0 (fun p hp => by cases hp)
        | cons p s' =>
          rcases climbs_leave hf hg hs' hm' hn' with h1 | h1
          · exact fin1 (fun e => by have := (h1 p (by simp)).1; rw [e] at this; cases this) h1
          · exact fin2 (fun e => by have := (h1 p (by simp)).2; rw [e] at this; cases this) h1
    by_cases hab : (a, b) ∈ s
    · cases s with
      | nil => cases hab
      | cons p s' =>
        have hs' := List.pairwise_cons.1 hs
        have hp : p = (a, b) := by
          rcases List.mem_cons.1 hab with e | e
          · exact e.symm
          · exfalso
            have h1 := hs'.1 _ e
            have h2 := hm p (by simp)
            have h3 : a ≤ p.1 := by
              rcases List.mem_cons.1 h2.1 with e | e
              · rw [e]; exact Nat.le_refl _
              · exact Nat.le_of_lt (hf'.1 _ e)
            have h4 : b ≤ p.2 := by
              rcases List.mem_cons.1 h2.2 with e | e
              · rw [e]; exact Nat.le_refl _
              · exact Nat.le_of_lt (hg'.1 _ e)
            exact h1.2.2 (Prod.ext (Nat.le_antisymm h1.1 h3) (Nat.le_antisymm h1.2.1 h4))
        subst hp
        exact key s' hs'.2 (fun p hp => hm p (by simp [hp])) (fun e => (hs'.1 _ e).2.2 rfl)
    · obtain ⟨t, ht, hsub⟩ := key s hs hm hab
      exact ⟨t, ht, (List.sublist_cons_self _ _).trans hsub⟩

/-- A pair's number. -/
def code (n : Nat) (p : Nat × Nat) : Int := ((p.1 * n + p.2 : Nat) : Int)
theorem code_lt {n : Nat} {a b : Nat × Nat} (hn : 0 < n) (h : pairLt a b) : code n a < code n b := by
  have h1 := Nat.mul_le_mul_right n h.1
  have h2 := h.2.1
  unfold code
  rcases Nat.lt_or_ge a.2 b.2 with h3 | h3
  · omega
  · have e2 : a.2 = b.2 := Nat.le_antisymm h2 h3
    have h4 : a.1 < b.1 := by
      rcases Nat.lt_or_ge a.1 b.1 with h4 | h4
      · exact h4
      · exact absurd (Prod.ext (Nat.le_antisymm h.1 h4) e2) h.2.2
    have h5 : a.1 * n + n ≤ b.1 * n := by
      have := Nat.mul_le_mul_right n (show a.1 + 1 ≤ b.1 from h4)
      rwa [Nat.succ_mul] at this
    omega
theorem code_inj {n : Nat} {a b : Nat × Nat} (ha : a.2 < n) (hb : b.2 < n) (h : code n a = code n b) : a = b := by
  have h1 : a.1 * n + a.2 = b.1 * n + b.2 := by unfold code at h; omega
  have e1 : a.1 = b.1 := by
    have h2 : (a.1 * n + a.2) / n = a.1 := by rw [Nat.mul_comm, Nat.mul_add_div (by omega), Nat.div_eq_of_lt ha]; rfl
    have h3 : (b.1 * n + b.2) / n = b.1 := by rw [Nat.mul_comm, Nat.mul_add_div (by omega), Nat.div_eq_of_lt hb]; rfl
    rw [← h2, ← h3, h1]
  exact Prod.ext e1 (by rw [e1] at h1; omega)

end Go.Proofs.YtkmecdgnoemimaaDoor
