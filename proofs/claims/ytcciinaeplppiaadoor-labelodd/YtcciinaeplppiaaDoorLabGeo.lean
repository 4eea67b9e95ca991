/- A walk through doors comes to no triangle twice. No Go here. A side of a small triangle lies in two of them at most. No Go here. -/
import Derived.Test.YtcciinaeplppiaaDoorLabMath
namespace Go.Proofs.YtcciinaeplppiaaDoor

/-- A way: places and the doors between them; door k leads into place k, door k + 1 out of it. -/
structure Way {P E : Type} (D : P → E → Prop) (m : Nat) (v : Nat → P) (d : Nat → E) : Prop where
  into : ∀ k, k < m → D (v k) (d k)
  out : ∀ k, k + 1 < m → D (v k) (d (k + 1))
  turn : ∀ k, k + 1 < m → d (k + 1) ≠ d k
  on : ∀ k, k + 1 < m → v (k + 1) ≠ v k
/-- Where each place has at most two doors and each door at most two places, the first one but one, no place is come to twice. -/
theorem way_once {P E : Type} {D : P → E → Prop} (hd : ∀ i a b c, D i a → D i b → D i c → a = b ∨ b = c ∨ a = c) (hv : ∀ e i j k, D i e → D j e → D k e → i = j ∨ j = k ∨ i = k) {m : Nat} {v : Nat → P} {d : Nat → E} (h : Way D m v d) (h0 : ∀ j, D j (d 0) → j = v 0) : ∀ j, j < m → ∀ i, i < j → v i ≠ v j := by
  intro j
  induction j using Nat.strongRecOn with
  | ind j ih =>
    intro hj i hi e
    obtain ⟨p, rfl⟩ : ∃ p, j = p + 1 := ⟨j - 1, by omega⟩
    have hin := h.into (p + 1) hj
    rw [← e] at hin
    have hout := h.out p hj
    by_cases hip : i = p
    · subst hip
      exact h.on i hj e.symm
    · have hlt : i < p := by omega
      have hi1 := h.into i (by omega)
      have hi2 := h.out i (by omega)
      rcases hd (v i) (d i) (d (i + 1)) (d (p + 1)) hi1 hi2 hin with k | k | k
      · exact h.turn i (by omega) k.symm
      · have hi3 := h.into (i + 1) (by omega)
        rw [k] at hi2 hi3
        rcases hv (d (p + 1)) (v i) (v (i + 1)) (v p) hi2 hi3 hout with q | q | q
        · exact h.on i (by omega) q.symm
        · by_cases hq : i + 1 = p
          · rw [hq] at k
            exact h.turn p hj k.symm
          · exact ih p (by omega) (by omega) (i + 1) (by omega) q
        · exact ih p (by omega) (by omega) i hlt q
      · rw [← k] at hout
        cases i with
        | zero => exact ih p (by omega) (by omega) 0 hlt (h0 (v p) hout).symm
        | succ q =>
          have hq1 := h.out q (by omega)
          rcases hv (d (q + 1)) (v q) (v (q + 1)) (v p) hq1 hi1 hout with r | r | r
          · exact h.on q (by omega) r.symm
          · exact ih p (by omega) (by omega) (q + 1) hlt r
          · exact ih p (by omega) (by omega) q (by omega) r

end Go.Proofs.YtcciinaeplppiaaDoor

namespace Go.Proofs.YtcciinaeplppiaaDoor

theorem sqN_cases {a b : Nat} (h : sqN a b ≤ 2) : (a = b ∧ sqN a b = 0) ∨ (a = b + 1 ∧ sqN a b = 1) ∨ (b = a + 1 ∧ sqN a b = 1) := by
  unfold sqN at *
  rcases Nat.lt_trichotomy a b with k | k | k
  · have h1 : a - b = 0 := by omega
    rw [h1] at h ⊢
    rcases Nat.lt_or_ge (b - a) 2 with k2 | k2
    · have h2 : b - a = 1 := by omega
      rw [h2]; right; right; omega
    · have := Nat.mul_le_mul k2 k2; omega
  · subst k
    left; simp
  · have h1 : b - a = 0 := by omega
    rw [h1] at h ⊢
    rcases Nat.lt_or_ge (a - b) 2 with k2 | k2
    · have h2 : a - b = 1 := by omega
      rw [h2]; right; left; omega
    · have := Nat.mul_le_mul k2 k2; omega
/-- The six steps. -/
def Unit6 (x y z : Int) : Prop := (x = 1 ∧ y = -1 ∧ z = 0) ∨ (x = 1 ∧ y = 0 ∧ z = -1) ∨ (x = 0 ∧ y = 1 ∧ z = -1) ∨ (x = -1 ∧ y = 1 ∧ z = 0) ∨ (x = -1 ∧ y = 0 ∧ z = 1) ∨ (x = 0 ∧ y = -1 ∧ z = 1)
def sumS (p : Spt) : Nat := p.1 + p.2.1 + p.2.2
theorem near_unit {p q : Spt} (hs : sumS p = sumS q) (h : nearN p q = true) : Unit6 ((q.1 : Int) - p.1) ((q.2.1 : Int) - p.2.1) ((q.2.2 : Int) - p.2.2) := by
  obtain ⟨a, b, c⟩ := p
  obtain ⟨x, y, z⟩ := q
  unfold nearN at h
  rw [beq_iff_eq] at h
  unfold sumS at hs
  dsimp only at h hs ⊢
  have h1 := sqN_cases (a := a) (b := x) (by omega)
  have h2 := sqN_cases (a := b) (b := y) (by omega)
  have h3 := sqN_cases (a := c) (b := z) (by omega)
  unfold Unit6
  rcases h1 with ⟨e1, f1⟩ | ⟨e1, f1⟩ | ⟨e1, f1⟩ <;> rcases h2 with ⟨e2, f2⟩ | ⟨e2, f2⟩ | ⟨e2, f2⟩ <;> rcases h3 with ⟨e3, f3⟩ | ⟨e3, f3⟩ | ⟨e3, f3⟩ <;> omega
/-- Near to both ends of a side: one of two points. -/
theorem third_of {dx dy dz x y z : Int} (hd : Unit6 dx dy dz) (h1 : Unit6 x y z) (h2 : Unit6 (x - dx) (y - dy) (z - dz)) : (x = -dz ∧ y = -dx ∧ z = -dy) ∨ (x = -dy ∧ y = -dz ∧ z = -dx) := by
  unfold Unit6 at *
  rcases hd with ⟨rfl, rfl, rfl⟩ | ⟨rfl, rfl, rfl⟩ | ⟨rfl, rfl, rfl⟩ | ⟨rfl, rfl, rfl⟩ | ⟨rfl, rfl, rfl⟩ | ⟨rfl, rfl, rfl⟩ <;> omega
theorem two_thirds {p q a b c : Spt} (hpq : nearN p q = true) (hpa : nearN p a = true) (hqa : nearN q a = true) (hpb : nearN p b = true) (hqb : nearN q b = true) (hpc : nearN p c = true) (hqc : nearN q c = true)
    (sq : sumS p = sumS q) (sa : sumS p = sumS a) (sb : sumS p = sumS b) (sc : sumS p = sumS c) : a = b ∨ b = c ∨ a = c := by
  have key : ∀ s : Spt, sumS p = sumS s → nearN p s = true → nearN q s = true → ((s.1 : Int) - p.1 = -((q.2.2 : Int) - p.2.2) ∧ (s.2.1 : Int) - p.2.1 = -((q.1 : Int) - p.1) ∧ (s.2.2 : Int) - p.2.2 = -((q.2.1 : Int) - p.2.1)) ∨ ((s.1 : Int) - p.1 = -((q.2.1 : Int) - p.2.1) ∧ (s.2.1 : Int) - p.2.1 = -((q.2.2 : Int) - p.2.2) ∧ (s.2.2 : Int) - p.2.2 = -((q.1 : Int) - p.1)) := fun s hs h1 h2 => by
    refine third_of (near_unit sq hpq) (near_unit hs h1) ?_
    have := near_unit (by rw [← sq, ← hs]) h2
    rw [show (s.1 : Int) - p.1 - ((q.1 : Int) - p.1) = (s.1 : Int) - q.1 by omega, show (s.2.1 : Int) - p.2.1 - ((q.2.1 : Int) - p.2.1) = (s.2.1 : Int) - q.2.1 by omega, show (s.2.2 : Int) - p.2.2 - ((q.2.2 : Int) - p.2.2) = (s.2.2 : Int) - q.2.2 by omega]
    exact this
  have ka := key a sa hpa hqa
  have kb := key b sb hpb hqb
  have kc := key c sc hpc hqc
  have ext : ∀ s t : Spt, s.1 = t.1 → s.2.1 = t.2.1 → s.2.2 = t.2.2 → s = t := fun s t h1 h2 h3 => by
    obtain ⟨s1, s2, s3⟩ := s
    obtain ⟨t1, t2, t3⟩ := t
    dsimp only at h1 h2 h3
    rw [h1, h2, h3]
  rcases ka with ka | ka <;> rcases kb with kb | kb <;> rcases kc with kc | kc
  · exact .inl (ext a b (by omega) (by omega) (by omega))
  · exact .inl (ext a b (by omega) (by omega) (by omega))
  · exact .inr (.inr (ext a c (by omega) (by omega) (by omega)))
  · exact .inr (.inl (ext b c (by omega) (by omega) (by omega)))
  · exact .inr (.inl (ext b c (by omega) (by omega) (by omega)))
  · exact .inr (.inr (ext a c (by omega) (by omega) (by omega)))
  · exact .inl (ext a b (by omega) (by omega) (by omega))
  · exact .inl (ext a b (by omega) (by omega) (by omega))
theorem near_comm (p q : Spt) : nearN p q = nearN q p := by
  have h : ∀ a b, sqN a b = sqN b a := fun a b => by unfold sqN; omega
  unfold nearN
  rw [h p.1, h p.2.1, h p.2.2]
theorem spots_sum {n : Nat} {s : Spt} (h : s ∈ spotsL n) : sumS s = n := by
  unfold spotsL allS rowS at h
  obtain ⟨p, hp, h⟩ := List.mem_flatMap.1 h
  obtain ⟨q, hq, rfl⟩ := List.mem_map.1 h
  have h1 := List.mem_range.1 hp
  have h2 := List.mem_range.1 hq
  show p + q + (n - p - q) = n
  omega
/-- The points have numbers of their own. -/
theorem spots_nodup : ∀ n, n ≤ 12 → (spotsL n).Nodup := by decide

end Go.Proofs.YtcciinaeplppiaaDoor
