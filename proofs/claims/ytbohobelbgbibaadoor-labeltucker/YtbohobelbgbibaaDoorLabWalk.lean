/- A walk through doors comes to no triangle twice. No Go here. -/
import Derived.Test.YtbohobelbgbibaaDoorLabMath
namespace Go.Proofs.YtbohobelbgbibaaDoor

/-- A way: places and the doors between them; door k leads into place k, door k + 1 out of it. -/
structure Way {P E : Type} (D : P → E → Prop) (m : Nat) (v : Nat → P) (d : Nat → E) : Prop where
  into : ∀ k, k < m → D (v k) (d k)
  out : ∀ k, k + 1 < m → D (v k) (d (k + 1))
  turn : ∀ k, k + 1 < m → d (k + 1) ≠ d k
  on : ∀ k, k + 1 < m → v (k + 1) ≠ v k
/-- Where each place has at most two doors and each door at most two places, the first one but one, no place is come to twice. -/
theorem way_once {P E : Type} {D : P → E → Prop} (hd : ∀ i a b c, D i a → D i b → D i c → a = b ∨ b = c ∨ a = c) (hv : ∀ e i j k, D i e → D j e → D k e → i = j ∨ j = k ∨ i = k) {m : Nat} {v : Nat → P} {d : Nat → E} (h : Way D m v d) (h0 : ∀ j, D j (d 0) → j = v 0) : ∀ j, j < m → ∀ i, i < j → v i ≠ v j := by
  intro j
  induction j using Nat.strongRecOn with
  | ind j ih =>
    intro hj i hi e
    obtain ⟨p, rfl⟩ : ∃ p, j = p + 1 := ⟨j - 1, by omega⟩
    have hin := h.into (p + 1) hj
    rw [← e] at hin
    have hout := h.out p hj
    by_cases hip : i = p
    · subst hip
      exact h.on i hj e.symm
    · have hlt : i < p := by omega
      have hi1 := h.into i (by omega)
      have hi2 := h.out i (by omega)
      rcases hd (v i) (d i) (d (i + 1)) (d (p + 1)) hi1 hi2 hin with k | k | k
      · exact h.turn i (by omega) k.symm
      · have hi3 := h.into (i + 1) (by omega)
        rw [k] at hi2 hi3
        rcases hv (d (p + 1)) (v i) (v (i + 1)) (v p) hi2 hi3 hout with q | q | q
        · exact h.on i (by omega) q.symm
        · by_cases hq : i + 1 = p
          · rw [hq] at k
            exact h.turn p hj k.symm
          · exact ih p (by omega) (by omega) (i + 1) (by omega) q
        · exact ih p (by omega) (by omega) i hlt q
      · rw [← k] at hout
        cases i with
        | zero => exact ih p (by omega) (by omega) 0 hlt (h0 (v p) hout).symm
        | succ q =>
          have hq1 := h.out q (by omega)
          rcases hv (d (q + 1)) (v q) (v (q + 1)) (v p) hq1 hi1 hout with r | r | r
          · exact h.on q (by omega) r.symm
          · exact ih p (by omega) (by omega) (q + 1) hlt r
          · exact ih p (by omega) (by omega) q (by omega) r

end Go.Proofs.YtbohobelbgbibaaDoor
