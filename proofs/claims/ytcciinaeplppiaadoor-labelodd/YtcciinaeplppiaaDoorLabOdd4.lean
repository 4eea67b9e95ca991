/- SPERNER: triangles that are closed under doors, with all those at the side, have a full one among them. No Go here. -/
import Derived.Test.YtcciinaeplppiaaDoorLabOdd3
import Derived.Test.YtcciinaeplppiaaDoorLabWalkL
namespace Go.Proofs.YtcciinaeplppiaaDoor

theorem rim_side {n : Nat} (hn : n ≤ 12) {ls : List Int} (hg : ∀ j, j < (spotsL n).length → goodAt (spotsL n) ls j) {x y : Nat} (hxy : x < y) (hy : y < (spotsL n).length) (hd : isDoor (labA ls x) (labA ls y) = true) (hr : rimB (spA (spotsL n) x) (spA (spotsL n) y) = true) : (x, y) ∈ sideL n := by
  have hA := allN_at sideL_all hn
  rw [Bool.and_eq_true] at hA
  have hA1 := hA.1
  unfold sideAll at hA1
  have hrow := sideRow_at (List.all_eq_true.1 hA1 x (List.mem_range.2 (by omega))) hy
  have ox := hg x (by omega)
  have oy := hg y hy
  unfold goodAt labOk at ox oy
  unfold isDoor at hd
  simp only [Bool.or_eq_true, Bool.and_eq_true, beq_iff_eq] at hd
  have key : side0 (spA (spotsL n) x) (spA (spotsL n) y) = true := by
    unfold rimB at hr
    unfold side0
    rw [Bool.and_eq_true] at hr ⊢
    refine ⟨hr.1, ?_⟩
    have h2 := hr.2
    unfold spA at h2 ⊢
    simp only [Bool.or_eq_true, Bool.and_eq_true, beqN, decide_eq_true_eq] at h2 ⊢
    omega
  rw [decide_eq_true hxy, key] at hrow
  exact of_decide_eq_true hrow.symm
theorem inN_tri {l : List Spt} {r : List Int} (h : TriOf l r) (x : Nat) : inN x (triN r) = true ↔ (x : Int) ∈ r := by
  obtain ⟨a, b, c, rfl, -⟩ := h
  have e0 : triN [(a : Int), (b : Int), (c : Int)] = [a, b, c] := by simp [triN, numR]
  rw [e0, inN_mem, decide_eq_true_eq]
  simp only [List.mem_cons, List.not_mem_nil, or_false]
  omega
theorem both_door {l : List Spt} {ls r : List Int} (h : TriOf l r) {x y : Nat} (hxy : x < y) (hd : isDoor (labA ls x) (labA ls y) = true) : (inN x (triN r) && inN y (triN r)) = true ↔ [(x : Int), (y : Int)] ∈ doorsL ls r := by
  rw [Bool.and_eq_true, inN_tri h, inN_tri h, mem_doors h]
  simp only [partB, List.all_cons, List.all_nil, Bool.and_true, Bool.and_eq_true, List.contains_iff_mem]
  exact ⟨fun k => ⟨⟨x, y, hxy, rfl, hd⟩, k⟩, fun k => k.2⟩
theorem xs_some {α : Type} {l : List α} {f : α → Bool} (h : xs l f = true) : ∃ a ∈ l, f a = true := by
  induction l with
  | nil => cases h
  | cons a l ih =>
    cases e : f a with
    | true => exact ⟨a, List.mem_cons_self .., e⟩
    | false =>
      rw [xs_cons, e, Bool.false_xor] at h
      obtain ⟨b, hb, hf⟩ := ih h
      exact ⟨b, List.mem_cons_of_mem _ hb, hf⟩
/-- Triangles that are closed under doors, and hold all at doors of the side: one of them is full. -/
theorem closed_full {n : Nat} (h1 : 1 ≤ n) (hn : n ≤ 12) {ls : List Int} (hg : ∀ j, j < (spotsL n).length → goodAt (spotsL n) ls j) (S : List Int → Bool)
    (hc : ∀ r t e, r ∈ smallL n → t ∈ smallL n → e ∈ doorsL ls r → e ∈ doorsL ls t → S r = true → S t = true)
    (hs : ∀ x y r, (x, y) ∈ sideL n → isDoor (labA ls x) (labA ls y) = true → r ∈ smallL n → [(x : Int), (y : Int)] ∈ doorsL ls r → S r = true) : ∃ r ∈ smallL n, S r = true ∧ fullR ls r = true := by
  have hl : ∀ j, j < (spotsL n).length → 0 ≤ labA ls j ∧ labA ls j ≤ 2 := fun j hj => by
    have := hg j hj
    unfold goodAt labOk at this
    omega
  have hsum : xs (smallL n) (fun r => S r && fullR ls r) = xs (List.range (spotsL n).length) fun x => xs (List.range (spotsL n).length) fun y => (decide (x < y) && isDoor (labA ls x) (labA ls y)) && rimB (spA (spotsL n) x) (spA (spotsL n) y) := by
    have e1 : xs (smallL n) (fun r => S r && fullR ls r) = xs (smallL n) fun r => xs (List.range (spotsL n).length) fun x => xs (List.range (spotsL n).length) fun y => (decide (x < y) && isDoor (labA ls x) (labA ls y)) && (S r && (inN x (triN r) && inN y (triN r))) := xs_congr fun r hr => by
      obtain ⟨a, b, c, rfl, k1, k2, k3, -⟩ := smallL_of hr
      have e0 : triN [(a : Int), (b : Int), (c : Int)] = [a, b, c] := by simp [triN, numR]
      have e1 : fullR ls [(a : Int), (b : Int), (c : Int)] = fullB ls a b c := by simp [fullR, numR]
      rw [e1, ← sides_full k1 k2 k3 (hl a (by omega)) (hl b (by omega)) (hl c k3)]
      unfold sidesX
      rw [← xs_and]
      refine xs_congr fun x _ => ?_
      rw [← xs_and, ← xs_and]
      refine xs_congr fun y _ => ?_
      rw [e0, inN_mem, inN_mem]
      cases S [(a : Int), (b : Int), (c : Int)] <;> cases decide (x ∈ [a, b, c]) <;> cases decide (y ∈ [a, b, c]) <;> simp
    rw [e1, xs_swap]
    refine xs_congr fun x hx => ?_
    rw [xs_swap]
    refine xs_congr fun y hy => ?_
    rw [xs_and]
    by_cases hxy : x < y
    · cases hd : isDoor (labA ls x) (labA ls y) with
      | false => simp
      | true =>
        congr 1
        have hy' := List.mem_range.1 hy
        rw [← par_at hn hxy hy']
        by_cases ha : ∃ r ∈ smallL n, S r = true ∧ (inN x (triN r) && inN y (triN r)) = true
        · obtain ⟨r, hr, hS, hin⟩ := ha
          refine xs_congr fun t ht => ?_
          cases ht2 : (inN x (triN t) && inN y (triN t)) with
          | false => simp
          | true =>
            have := hc r t _ hr ht ((both_door (smallL_of hr) hxy hd).1 hin) ((both_door (smallL_of ht) hxy hd).1 ht2) hS
            rw [this]; rfl
        · have z : xs (smallL n) (fun r => S r && (inN x (triN r) && inN y (triN r))) = false := (xs_congr (g := fun _ => false) fun r hr => by
            cases hS : S r with
            | false => rfl
            | true =>
              cases hin : (inN x (triN r) && inN y (triN r)) with
              | false => rfl
              | true => exact absurd ⟨r, hr, hS, hin⟩ ha).trans (xs_false _)
          rw [z]
          cases hp : xs (smallL n) (fun r => inN x (triN r) && inN y (triN r)) with
          | false => rfl
          | true =>
            obtain ⟨r, hr, hin⟩ := xs_some hp
            rw [par_at hn hxy hy'] at hp
            exact absurd ⟨r, hr, hs x y r (rim_side hn hg hxy hy' hd hp) hd hr ((both_door (smallL_of hr) hxy hd).1 hin), hin⟩ ha
    · rw [decide_eq_false hxy]; simp
  have hfin : xs (smallL n) (fun r => S r && fullR ls r) = true := by
    rw [hsum, ← full_sum hl hn]
    exact sperner h1 hn hg
  obtain ⟨r, hr, hf⟩ := xs_some hfin
  rw [Bool.and_eq_true] at hf
  exact ⟨r, hr, hf.1, hf.2⟩

end Go.Proofs.YtcciinaeplppiaaDoor
