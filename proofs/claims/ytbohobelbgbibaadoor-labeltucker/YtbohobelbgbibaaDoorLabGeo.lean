/- A side of a small triangle lies in two of them at most. No Go here. -/
import Derived.Test.YtbohobelbgbibaaDoorLabWalk
namespace Go.Proofs.YtbohobelbgbibaaDoor

theorem sqN_cases {a b : Nat} (h : sqN a b ≤ 2) : (a = b ∧ sqN a b = 0) ∨ (a = b + 1 ∧ sqN a b = 1) ∨ (b = a + 1 ∧ sqN a b = 1) := by
  unfold sqN at *
  rcases Nat.lt_trichotomy a b with k | k | k
  · have h1 : a - b = 0 := by omega
    rw [h1] at h ⊢
    rcases Nat.lt_or_ge (b - a) 2 with k2 | k2
    · have h2 : b - a = 1 := by omega
      rw [h2]; right; right; omega
    · have := Nat.mul_le_mul k2 k2; omega
  · subst k
    left; simp
  · have h1 : b - a = 0 := by omega
    rw [h1] at h ⊢
    rcases Nat.lt_or_ge (a - b) 2 with k2 | k2
    · have h2 : a - b = 1 := by omega
      rw [h2]; right; left; omega
    · have := Nat.mul_le_mul k2 k2; omega
/-- The six steps. -/
def Unit6 (x y z : Int) : Prop := (x = 1 ∧ y = -1 ∧ z = 0) ∨ (x = 1 ∧ y = 0 ∧ z = -1) ∨ (x = 0 ∧ y = 1 ∧ z = -1) ∨ (x = -1 ∧ y = 1 ∧ z = 0) ∨ (x = -1 ∧ y = 0 ∧ z = 1) ∨ (x = 0 ∧ y = -1 ∧ z = 1)
def sumS (p : Spt) : Nat := p.1 + p.2.1 + p.2.2
theorem near_unit {p q : Spt} (hs : sumS p = sumS q) (h : nearN p q = true) : Unit6 ((q.1 : Int) - p.1) ((q.2.1 : Int) - p.2.1) ((q.2.2 : Int) - p.2.2) := by
  obtain ⟨a, b, c⟩ := p
  obtain ⟨x, y, z⟩ := q
  unfold nearN at h
  rw [beq_iff_eq] at h
  unfold sumS at hs
  dsimp only at h hs ⊢
  have h1 := sqN_cases (a := a) (b := x) (by omega)
  have h2 := sqN_cases (a := b) (b := y) (by omega)
  have h3 := sqN_cases (a := c) (b := z) (by omega)
  unfold Unit6
  rcases h1 with ⟨e1, f1⟩ | ⟨e1, f1⟩ | ⟨e1, f1⟩ <;> rcases h2 with ⟨e2, f2⟩ | ⟨e2, f2⟩ | ⟨e2, f2⟩ <;> rcases h3 with ⟨e3, f3⟩ | ⟨e3, f3⟩ | ⟨e3, f3⟩ <;> omega
/-- Near to both ends of a side: one of two points. -/
theorem third_of {dx dy dz x y z : Int} (hd : Unit6 dx dy dz) (h1 : Unit6 x y z) (h2 : Unit6 (x - dx) (y - dy) (z - dz)) : (x = -dz ∧ y = -dx ∧ z = -dy) ∨ (x = -dy ∧ y = -dz ∧ z = -dx) := by
  unfold Unit6 at *
  rcases hd with ⟨rfl, rfl, rfl⟩ | ⟨rfl, rfl, rfl⟩ | ⟨rfl, rfl, rfl⟩ | ⟨rfl, rfl, rfl⟩ | ⟨rfl, rfl, rfl⟩ | ⟨rfl, rfl, rfl⟩ <;> omega
theorem two_thirds {p q a b c : Spt} (hpq : nearN p q = true) (hpa : nearN p a = true) (hqa : nearN q a = true) (hpb : nearN p b = true) (hqb : nearN q b = true) (hpc : nearN p c = true) (hqc : nearN q c = true)
    (sq : sumS p = sumS q) (sa : sumS p = sumS a) (sb : sumS p = sumS b) (sc : sumS p = sumS c) : a = b ∨ b = c ∨ a = c := by
  have key : ∀ s : Spt, sumS p = sumS s → nearN p s = true → nearN q s = true → ((s.1 : Int) - p.1 = -((q.2.2 : Int) - p.2.2) ∧ (s.2.1 : Int) - p.2.1 = -((q.1 : Int) - p.1) ∧ (s.2.2 : Int) - p.2.2 = -((q.2.1 : Int) - p.2.1)) ∨ ((s.1 : Int) - p.1 = -((q.2.1 : Int) - p.2.1) ∧ (s.2.1 : Int) - p.2.1 = -((q.2.2 : Int) - p.2.2) ∧ (s.2.2 : Int) - p.2.2 = -((q.1 : Int) - p.1)) := fun s hs h1 h2 => by
    refine third_of (near_unit sq hpq) (near_unit hs h1) ?_
    have := near_unit (by rw [← sq, ← hs]) h2
    rw [show (s.1 : Int) - p.1 - ((q.1 : Int) - p.1) = (s.1 : Int) - q.1 by omega, show (s.2.1 : Int) - p.2.1 - ((q.2.1 : Int) - p.2.1) = (s.2.1 : Int) - q.2.1 by omega, show (s.2.2 : Int) - p.2.2 - ((q.2.2 : Int) - p.2.2) = (s.2.2 : Int) - q.2.2 by omega]
    exact this
  have ka := key a sa hpa hqa
  have kb := key b sb hpb hqb
  have kc := key c sc hpc hqc
  have ext : ∀ s t : Spt, s.1 = t.1 → s.2.1 = t.2.1 → s.2.2 = t.2.2 → s = t := fun s t h1 h2 h3 => by
    obtain ⟨s1, s2, s3⟩ := s
    obtain ⟨t1, t2, t3⟩ := t
    dsimp only at h1 h2 h3
    rw [h1, h2, h3]
  rcases ka with ka | ka <;> rcases kb with kb | kb <;> rcases kc with kc | kc
  · exact .inl (ext a b (by omega) (by omega) (by omega))
  · exact .inl (ext a b (by omega) (by omega) (by omega))
  · exact .inr (.inr (ext a c (by omega) (by omega) (by omega)))
  · exact .inr (.inl (ext b c (by omega) (by omega) (by omega)))
  · exact .inr (.inl (ext b c (by omega) (by omega) (by omega)))
  · exact .inr (.inr (ext a c (by omega) (by omega) (by omega)))
  · exact .inl (ext a b (by omega) (by omega) (by omega))
  · exact .inl (ext a b (by omega) (by omega) (by omega))
theorem near_comm (p q : Spt) : nearN p q = nearN q p := by
  have h : ∀ a b, sqN a b = sqN b a := fun a b => by unfold sqN; omega
  unfold nearN
  rw [h p.1, h p.2.1, h p.2.2]
theorem spots_sum {n : Nat} {s : Spt} (h : s ∈ spotsL n) : sumS s = n := by
  unfold spotsL allS rowS at h
  obtain ⟨p, hp, h⟩ := List.mem_flatMap.1 h
  obtain ⟨q, hq, rfl⟩ := List.mem_map.1 h
  have h1 := List.mem_range.1 hp
  have h2 := List.mem_range.1 hq
  show p + q + (n - p - q) = n
  omega
/-- The points have numbers of their own. -/
theorem spots_nodup : ∀ n, n ≤ 12 → (spotsL n).Nodup := by decide

end Go.Proofs.YtbohobelbgbibaaDoor
