/- Tables are completed from several beginnings; how many there are. No Go here. -/
import Derived.Test.YtmaopnbnbiediaaDoorGrpHole
namespace Go.Proofs.YtmaopnbnbiediaaDoor

/-- What comes of one hole. -/
def childs (s : List (List Int) × Nat) : List (List (List Int) × Nat) := match holeT 0 s.1 with
  | none => []
  | some (c, x) => if s.2 ≤ c then [] else
    (List.range (min (s.2 + 1) s.1.length)).flatMap fun t => if ent s.1 t (backN x) = -1 then [(setP s.1 c x t, max s.2 (t + 1))] else []
def cntL (m : Nat) (l : List (List (List Int) × Nat)) : Nat := (l.map fun s => (compF m s.1 s.2).length).sum
theorem cntL_app (m : Nat) (l l' : List (List (List Int) × Nat)) : cntL m (l ++ l') = cntL m l + cntL m l' := by
  unfold cntL
  rw [List.map_append, List.sum_append]
theorem cnt_one (m : Nat) (s : List (List Int) × Nat) (h : holeT 0 s.1 ≠ none) : (compF (m + 1) s.1 s.2).length = cntL m (childs s) := by
  unfold childs
  rw [compF]
  cases e : holeT 0 s.1 with
  | none => exact absurd e h
  | some p =>
    obtain ⟨c, x⟩ := p
    simp only
    by_cases hc : s.2 ≤ c
    · rw [if_pos hc, if_pos hc]; rfl
    · rw [if_neg hc, if_neg hc]
      induction (List.range (min (s.2 + 1) s.1.length)) with
      | nil => rfl
      | cons t ts ih =>
        rw [List.flatMap_cons, List.flatMap_cons, List.length_append, cntL_app, ih]
        congr 1
        split
        · simp [cntL]
        · rfl
theorem cnt_step (m : Nat) : ∀ (l : List (List (List Int) × Nat)), (∀ s ∈ l, holeT 0 s.1 ≠ none) → cntL (m + 1) l = cntL m (l.flatMap childs)
  | [], _ => rfl
  | s :: l, h => by
    have h1 := cnt_one m s (h s (by simp))
    have h2 := cnt_step m l fun q hq => h q (by simp [hq])
    rw [List.flatMap_cons, cntL_app, ← h1, ← h2]
    unfold cntL
    rw [List.map_cons, List.sum_cons]
/-- The beginnings behind so many holes. -/
def front (N n : Nat) : Nat → List (List (List Int) × Nat)
  | 0 => [(blankP N n, 1)]
  | d + 1 => (front N n d).flatMap childs
theorem cnt_front {N n : Nat} : ∀ {d : Nat} {m : Nat}, (∀ e, e < d → ∀ s ∈ front N n e, holeT 0 s.1 ≠ none) → (compF (d + m) (blankP N n) 1).length = cntL m (front N n d)
  | 0, m, _ => by simp [front, cntL]
  | d + 1, m, h => by
    rw [show d + 1 + m = d + (m + 1) by omega, cnt_front (d := d) (m := m + 1) fun e he => h e (by omega), cnt_step m _ (h d (by omega))]
    rfl
theorem cnt_split (m k : Nat) (l : List (List (List Int) × Nat)) : cntL m l = cntL m (l.take k) + cntL m (l.drop k) := by rw [← cntL_app, List.take_append_drop]

end Go.Proofs.YtmaopnbnbiediaaDoor
