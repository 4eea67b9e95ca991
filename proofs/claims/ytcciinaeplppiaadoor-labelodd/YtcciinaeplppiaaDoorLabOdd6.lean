/- SPERNER: what the walk is; the number of full ones. No Go here. -/
import Derived.Test.YtcciinaeplppiaaDoorLabOdd5
import Derived.Test.YtcciinaeplppiaaDoorRefMinus
namespace Go.Proofs.YtcciinaeplppiaaDoor

theorem walkTo_some {n : Nat} {ls : List Int} : ∀ {m : Nat}, (∃ i, i < m ∧ goB ls (sideD n (i + 1)) = true ∧ (wayD n ls i).2 = true) → ∃ i, i < m ∧ goB ls (sideD n (i + 1)) = true ∧ (wayD n ls i).2 = true ∧ walkTo n ls m = (wayD n ls i).1
  | 0, ⟨i, hi, _⟩ => by omega
  | m + 1, ⟨i, hi, h1, h2⟩ => by
    rw [walkTo]
    split
    · rename_i h
      rw [Bool.and_eq_true] at h
      exact ⟨m, by omega, h.1, h.2, rfl⟩
    · rename_i h
      have hne : i ≠ m := fun e => by
        subst e
        exact h (by rw [Bool.and_eq_true]; exact ⟨h1, h2⟩)
      obtain ⟨j, hj, k1, k2, k3⟩ := walkTo_some (m := m) ⟨i, by omega, h1, h2⟩
      exact ⟨j, by omega, k1, k2, k3⟩
theorem tri_same {l : List Spt} {r s : List Int} (hr : TriOf l r) (hs : TriOf l s) (h : ∀ v ∈ r, v ∈ s) : r = s := by
  obtain ⟨a, b, c, rfl, h1, h2, -⟩ := hr
  obtain ⟨a', b', c', rfl, h3, h4, -⟩ := hs
  have ha := h (a : Int) (by simp)
  have hb := h (b : Int) (by simp)
  have hc := h (c : Int) (by simp)
  simp only [List.mem_cons, List.not_mem_nil, or_false] at ha hb hc
  have e1 : a = a' := by omega
  have e2 : b = b' := by omega
  have e3 : c = c' := by omega
  rw [e1, e2, e3]
/-- Two different triangles with one side: one number of the one is not of the other. -/
theorem minus_one {l : List Spt} {r s : List Int} (hr : TriOf l r) (hs : TriOf l s) (hne : r ≠ s) {x y : Nat} (hxy : x < y) (xr : (x : Int) ∈ r) (yr : (y : Int) ∈ r) (xs' : (x : Int) ∈ s) (ys : (y : Int) ∈ s) : (minusQ r s).length = 1 := by
  have hsub : ¬ ∀ v ∈ r, v ∈ s := fun h => hne (tri_same hr hs h)
  obtain ⟨a, b, c, rfl, h1, h2, -⟩ := hr
  simp only [List.mem_cons, List.not_mem_nil, or_false] at xr yr
  have conv : ∀ {p q : Nat}, (p : Int) = (q : Int) → p = q := fun h => by omega
  unfold minusQ
  by_cases ia : (a : Int) ∈ s
  · by_cases ib : (b : Int) ∈ s
    · have ic : ¬ (c : Int) ∈ s := fun ic => hsub fun v hv => by
        simp only [List.mem_cons, List.not_mem_nil, or_false] at hv
        rcases hv with rfl | rfl | rfl <;> assumption
      simp [ia, ib, ic]
    · have ic : (c : Int) ∈ s := by
        rcases xr with e | e | e <;> rcases yr with g | g | g <;> (have e' := conv e; have g' := conv g; subst e'; subst g') <;> first | omega | assumption | (exfalso; exact ib (by assumption))
      simp [ia, ib, ic]
  · have ib : (b : Int) ∈ s := by
      rcases xr with e | e | e <;> rcases yr with g | g | g <;> (have e' := conv e; have g' := conv g; subst e'; subst g') <;> first | omega | assumption | (exfalso; exact ia (by assumption))
    have ic : (c : Int) ∈ s := by
      rcases xr with e | e | e <;> rcases yr with g | g | g <;> (have e' := conv e; have g' := conv g; subst e'; subst g') <;> first | omega | assumption | (exfalso; exact ia (by assumption))
    simp [ia, ib, ic]
theorem mem_full {ls : List Int} {T : List (List Int)} {k : Nat} (hk : k < T.length) (h : fullR ls (T[k]?.getD []) = true) : (k : Int) ∈ fullL ls T := by
  unfold fullL fullTo
  exact List.mem_map.2 ⟨k, List.mem_filter.2 ⟨List.mem_range.2 hk, h⟩, rfl⟩
theorem fullTo_len (ls : List Int) (T : List (List Int)) : ∀ k, k ≤ T.length → (fullTo ls T k).length = (T.take k).countP (fullR ls)
  | 0, _ => by simp [fullTo]
  | k + 1, hk => by
    have ih := fullTo_len ls T k (by omega)
    have e : T.take (k + 1) = T.take k ++ [T[k]?.getD []] := by rw [List.take_add_one, List.getElem?_eq_getElem (by omega)]; rfl
    rw [e, List.countP_append, ← ih]
    cases h : fullR ls (T[k]?.getD []) with
    | true => rw [fullTo_yes h, List.length_append]; simp [h]
    | false => rw [fullTo_no h]; simp [h]
theorem full_odd {n : Nat} (h1 : 1 ≤ n) (hn : n ≤ 12) {ls : List Int} (hg : ∀ j, j < (spotsL n).length → goodAt (spotsL n) ls j) : (fullL ls (smallL n)).length % 2 = 1 := by
  unfold fullL
  rw [fullTo_len ls _ _ (Nat.le_refl _), List.take_length]
  exact sperner_odd h1 hn hg
theorem full_three {x y z : Int} (hx : 0 ≤ x ∧ x ≤ 2) (hy : 0 ≤ y ∧ y ≤ 2) (hz : 0 ≤ z ∧ z ≤ 2) (h : (isDoor x y = true ∧ isDoor x z = false ∧ isDoor y z = false) ∨ (isDoor x y = false ∧ isDoor x z = true ∧ isDoor y z = false) ∨ (isDoor x y = false ∧ isDoor x z = false ∧ isDoor y z = true)) : ((x != y) && ((y != z) && (x != z))) = true := by
  have k : ∀ x : Int, 0 ≤ x ∧ x ≤ 2 → x = 0 ∨ x = 1 ∨ x = 2 := fun x h => by omega
  rcases k _ hx with rfl | rfl | rfl <;> rcases k _ hy with rfl | rfl | rfl <;> rcases k _ hz with rfl | rfl | rfl <;> first | rfl | (revert h; decide)
/-- One door alone: a full triangle. -/
theorem one_door {l : List Spt} {ls r e : List Int} (ht : TriOf l r) (hl : ∀ j, j < l.length → 0 ≤ labA ls j ∧ labA ls j ≤ 2) (he : e ∈ doorsL ls r) (ha : ∀ d ∈ doorsL ls r, d = e) : fullR ls r = true := by
  obtain ⟨a, b, c, rfl, h1, h2, h3, -⟩ := ht
  have n0 : numR [(a : Int), (b : Int), (c : Int)] 0 = a := by simp [numR]
  have n1 : numR [(a : Int), (b : Int), (c : Int)] 1 = b := by simp [numR]
  have n2 : numR [(a : Int), (b : Int), (c : Int)] 2 = c := by simp [numR]
  have mem : ∀ d, d ∈ doorsL ls [(a : Int), (b : Int), (c : Int)] ↔ ((isDoor (labA ls a) (labA ls b) = true ∧ d = [(a : Int), (b : Int)]) ∨ (isDoor (labA ls a) (labA ls c) = true ∧ d = [(a : Int), (c : Int)])) ∨ (isDoor (labA ls b) (labA ls c) = true ∧ d = [(b : Int), (c : Int)]) := fun d => by
    rw [doorsL_three, List.mem_append, List.mem_append, mem_doorOf, mem_doorOf, mem_doorOf, n0, n1, n2]
  have f01 : isDoor (labA ls a) (labA ls b) = true → [(a : Int), (b : Int)] = e := fun h => ha _ ((mem _).2 (.inl (.inl ⟨h, rfl⟩)))
  have f02 : isDoor (labA ls a) (labA ls c) = true → [(a : Int), (c : Int)] = e := fun h => ha _ ((mem _).2 (.inl (.inr ⟨h, rfl⟩)))
  have f12 : isDoor (labA ls b) (labA ls c) = true → [(b : Int), (c : Int)] = e := fun h => ha _ ((mem _).2 (.inr ⟨h, rfl⟩))
  have q1 : [(a : Int), (b : Int)] ≠ [(a : Int), (c : Int)] := fun h => by injection h with _ h; injection h with h; omega
  have q2 : [(a : Int), (b : Int)] ≠ [(b : Int), (c : Int)] := fun h => by injection h with h; omega
  have q3 : [(a : Int), (c : Int)] ≠ [(b : Int), (c : Int)] := fun h => by injection h with h; omega
  have no : ∀ {p : Bool}, ¬ p = true → p = false := fun h => Bool.eq_false_iff.2 h
  unfold fullR fullB
  rw [n0, n1, n2]
  refine full_three (hl a (by omega)) (hl b (by omega)) (hl c h3) ?_
  rcases (mem e).1 he with (⟨g, rfl⟩ | ⟨g, rfl⟩) | ⟨g, rfl⟩
  · exact .inl ⟨g, no fun h => q1 (f02 h).symm, no fun h => q2 (f12 h).symm⟩
  · exact .inr (.inl ⟨no fun h => q1 (f01 h), g, no fun h => q3 (f12 h).symm⟩)
  · exact .inr (.inr ⟨no fun h => q2 (f01 h), no fun h => q3 (f02 h), g⟩)
/-- What the walk is. -/
structure WalkOk (n : Nat) (ls : List Int) (W : List Int) : Prop where
  some : W ≠ []
  once : W.Nodup
  rng : ∀ k ∈ W, 0 ≤ k ∧ k < ((smallL n).length : Int)
  next : ∀ i, i + 1 < W.length → (minusQ (placeA n W (i + 1)) (placeA n W i)).length = 1
  last : W[W.length - 1]?.getD 0 ∈ fullL ls (smallL n)
theorem walk_ok {n : Nat} (h1 : 1 ≤ n) (hn : n ≤ 12) {ls : List Int} (hg : ∀ j, j < (spotsL n).length → goodAt (spotsL n) ls j) : WalkOk n ls (walkL n ls) := by
  have hl : ∀ j, j < (spotsL n).length → 0 ≤ labA ls j ∧ labA ls j ≤ 2 := fun j hj => by
    have := hg j hj
    unfold goodAt labOk at this
    omega
  obtain ⟨i, hi, hd, hst, hwalk⟩ := walkTo_some (way_stays h1 hn hg)
  unfold walkL
  rw [hwalk]
  rcases wayD_ends hn hi hg hd with ⟨h, _⟩ | ⟨_, e', out', frm', k, hres, hw, hk, hall⟩
  · rw [hst] at h; cases h
  rw [hres]
  have hk0 : (0 : Int) ≤ (k : Int) := by omega
  have hk1 : (k : Int) < ((smallL n).length : Int) := by have := hk.1; omega
  obtain ⟨hr, d, hd0, hdm, hway⟩ := hw.step hn hk0 hk1 hk.2.1 hk.2.2
  have hone := (side_door hn hi hg hd).2
  have tri : ∀ {r e}, DR n ls r e → TriOf (spotsL n) r := fun h => smallL_of h.1
  have once := way_once (D := DR n ls) (fun i a b c ha hb hc => doors_two (tri ha) ha.2 hb.2 hc.2) (fun e i j k hi hj hk => door_in hn (tri hi) (tri hj) (tri hk) hi.2 hj.2 hk.2) hway (fun j hj => by
    have h2 := hway.into 0 (by omega)
    exact hone j _ hj.1 h2.1 (by rw [← hd0]; exact ((mem_doors (tri hj)).1 hj.2).2) (by rw [← hd0]; exact ((mem_doors (tri h2)).1 h2.2).2))
  have hlen : (out' ++ [(k : Int)]).length = out'.length + 1 := by simp
  have hmem := rowA_mem (T := smallL n) hk0 hk1
  refine ⟨by simp, ?_, hr, fun i hi => ?_, ?_⟩
  · rw [List.nodup_iff_pairwise_ne, List.pairwise_iff_getElem]
    intro i j hi hj hij e2
    rw [hlen] at hj
    refine once j hj i hij ?_
    unfold placeA
    rw [List.getElem?_eq_getElem hi, List.getElem?_eq_getElem (by rw [hlen]; exact hj), e2]
  · rw [hlen] at hi
    have a1 := hway.into (i + 1) hi
    have a2 := hway.out i hi
    obtain ⟨⟨x, y, hxy, he, -⟩, p1⟩ := (mem_doors (tri a1)).1 a1.2
    obtain ⟨-, p2⟩ := (mem_doors (tri a2)).1 a2.2
    rw [he] at p1 p2
    simp only [partB, List.all_cons, List.all_nil, Bool.and_true, Bool.and_eq_true, List.contains_iff_mem] at p1 p2
    exact minus_one (tri a1) (tri a2) (hway.on i hi) hxy p1.1 p1.2 p2.1 p2.2
  · rw [hlen, Nat.add_sub_cancel, List.getElem?_append_right (Nat.le_refl _), Nat.sub_self]
    show (k : Int) ∈ _
    refine mem_full hk.1 ?_
    have hrow : (smallL n)[k]?.getD [] = rowA (smallL n) (k : Int) := by unfold rowA; rw [Int.toNat_natCast]
    rw [hrow]
    exact one_door (smallL_of hmem) hl ((mem_doors (smallL_of hmem)).2 ⟨hw.ok, hk.2.1⟩) hall

end Go.Proofs.YtcciinaeplppiaaDoor
