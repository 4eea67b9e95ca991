/- SPERNER: a way by a door of the side stays inside; what such a way is. No Go here. -/
import Derived.Test.YtcciinaeplppiaaDoorLabOdd4
import Derived.Test.YtcciinaeplppiaaDoorLpWalk
namespace Go.Proofs.YtcciinaeplppiaaDoor

theorem otherTo_none {ds : List (List Int)} {e : List Int} (hne : ∀ d ∈ ds, d ≠ []) : ∀ {k : Nat}, k ≤ ds.length → otherTo ds e k = [] → ∀ j, j < k → ds[j]?.getD [] = e
  | 0, _, _, j, hj => by omega
  | k + 1, hk, h, j, hj => by
    rw [otherTo] at h
    split at h
    · rename_i h1
      rcases Nat.lt_or_ge j k with g | g
      · exact otherTo_none hne (by omega) h j g
      · obtain rfl : j = k := by omega
        exact h1
    · exfalso
      rw [List.getElem?_eq_getElem (by omega)] at h
      exact hne _ (List.getElem_mem _) h
theorem doors_all {l : List Spt} {ls r e : List Int} (ht : TriOf l r) (h : otherTo (doorsL ls r) e (doorsL ls r).length = []) : ∀ d ∈ doorsL ls r, d = e := fun d hd => by
  obtain ⟨j, hj, rfl⟩ := List.getElem_of_mem hd
  have := otherTo_none (fun d hd hn => by
    obtain ⟨⟨x, y, -, e2, -⟩, -⟩ := (mem_doors ht).1 hd
    rw [hn] at e2; cases e2) (Nat.le_refl _) h j hj
  rw [List.getElem?_eq_getElem hj] at this
  exact this
/-- How a way ends. -/
theorem thru_ends {n : Nat} (hn : n ≤ 12) {ls e0 : List Int} (hb : ∀ r s, r ∈ smallL n → s ∈ smallL n → partB e0 r = true → partB e0 s = true → r = s) : ∀ (f : Nat) (e out : List Int) (frm : Int), WayInv n ls e0 e out frm → f + out.length = (smallL n).length + 1 → out.length ≤ (smallL n).length →
    ((thru (smallL n) ls f e frm out).2 = false ∧ ∃ e' frm', WayInv n ls e0 e' (thru (smallL n) ls f e frm out).1 frm' ∧ ∀ k, ¬ NextIs n e' frm' k) ∨ ((thru (smallL n) ls f e frm out).2 = true ∧ ∃ (e' out' : List Int) (frm' : Int) (k : Nat), (thru (smallL n) ls f e frm out).1 = out' ++ [(k : Int)] ∧ WayInv n ls e0 e' out' frm' ∧ NextIs n e' frm' k ∧ ∀ d ∈ doorsL ls (rowA (smallL n) (k : Int)), d = e')
  | 0, e, out, frm, _, h1, h2 => by omega
  | f + 1, e, out, frm, hw, h1, h2 => by
    rw [thru]
    split
    · rename_i hlt
      refine .inl ⟨rfl, e, frm, hw, fun k hk => ?_⟩
      rw [next_is hn hw hb hk] at hlt
      omega
    · rename_i hlt
      obtain ⟨k, hk, hkn⟩ : ∃ k : Nat, nextTo (smallL n) e frm (smallL n).length = (k : Int) ∧ NextIs n e frm k := by
        rcases nextTo_is (T := smallL n) (e := e) (frm := frm) (k := (smallL n).length) with h | ⟨g1, g2, g3, g4⟩
        · rw [h] at hlt; omega
        · obtain ⟨q, hq⟩ : ∃ q : Nat, nextTo (smallL n) e frm (smallL n).length = (q : Int) := ⟨_, (Int.toNat_of_nonneg g1).symm⟩
          rw [hq] at g2 g3 g4
          exact ⟨q, hq, by omega, g3, g4⟩
      rw [hk]
      have hmem := rowA_mem (T := smallL n) (i := (k : Int)) (by omega) (by have := hkn.1; omega)
      split
      · rename_i ho
        exact .inr ⟨rfl, e, out, frm, k, rfl, hw, hkn, doors_all (smallL_of hmem) ho⟩
      · rename_i ho
        rcases otherTo_is (ds := doorsL ls (rowA (smallL n) (k : Int))) (e := e) (Nat.le_refl _) with h | ⟨g1, g2⟩
        · exact absurd h ho
        · have hfew := hw.few hn hb (nx := (k : Int)) (by omega) (by have := hkn.1; omega) hkn.2.1 hkn.2.2
          exact thru_ends hn hb f _ _ _ (hw.next hn (by omega) (by have := hkn.1; omega) hkn.2.1 hkn.2.2 g1 g2) (by rw [List.length_append]; simp only [List.length_cons, List.length_nil]; omega) (by rw [List.length_append]; exact hfew)
theorem sideI_all : allN (fun n => (List.range n).all fun i => sideD n (i + 1) == [(idxS n i : Int), (idxS n (i + 1) : Int)]) 12 = true := by decide +kernel
theorem sideI {n i : Nat} (hn : n ≤ 12) (hi : i < n) : sideD n (i + 1) = [(idxS n i : Int), (idxS n (i + 1) : Int)] := eq_of_beq (List.all_eq_true.1 (allN_at sideI_all hn) i (List.mem_range.2 hi))
/-- The way by door i of the side. -/
def wayD (n : Nat) (ls : List Int) (i : Nat) : List Int × Bool := thru (smallL n) ls ((smallL n).length + 1) (sideD n (i + 1)) (-1) []
/-- What holds of such a door. -/
theorem side_door {n i : Nat} (hn : n ≤ 12) (hi : i < n) {ls : List Int} (hg : ∀ j, j < (spotsL n).length → goodAt (spotsL n) ls j) (hd : goB ls (sideD n (i + 1)) = true) : DoorOk ls (sideD n (i + 1)) ∧ ∀ r s, r ∈ smallL n → s ∈ smallL n → partB (sideD n (i + 1)) r = true → partB (sideD n (i + 1)) s = true → r = s := by
  obtain ⟨⟨x, y, h1, h2, h3⟩, h4⟩ := side_is hn (i := i + 1) (by omega) (by omega)
  have hl : ∀ j, j < (spotsL n).length → 0 ≤ labA ls j ∧ labA ls j ≤ 2 := fun j hj => by
    have := hg j hj
    unfold goodAt labOk at this
    omega
  refine ⟨?_, h4⟩
  rw [h3] at hd ⊢
  exact go_door h1 (hl x (by omega)) (hl y h2) hd
theorem wayD_ends {n i : Nat} (hn : n ≤ 12) (hi : i < n) {ls : List Int} (hg : ∀ j, j < (spotsL n).length → goodAt (spotsL n) ls j) (hd : goB ls (sideD n (i + 1)) = true) :
    ((wayD n ls i).2 = false ∧ ∃ e' frm', WayInv n ls (sideD n (i + 1)) e' (wayD n ls i).1 frm' ∧ ∀ k, ¬ NextIs n e' frm' k) ∨ ((wayD n ls i).2 = true ∧ ∃ (e' out' : List Int) (frm' : Int) (k : Nat), (wayD n ls i).1 = out' ++ [(k : Int)] ∧ WayInv n ls (sideD n (i + 1)) e' out' frm' ∧ NextIs n e' frm' k ∧ ∀ d ∈ doorsL ls (rowA (smallL n) (k : Int)), d = e') := by
  obtain ⟨h1, h2⟩ := side_door hn hi hg hd
  exact thru_ends hn h2 _ _ _ _ (WayInv.start h1) rfl (Nat.zero_le _)
/-- The triangles of all ways. -/
def onWay (n : Nat) (ls : List Int) (r : List Int) : Bool := (List.range n).any fun i => goB ls (sideD n (i + 1)) && (wayD n ls i).1.any fun k => rowA (smallL n) k == r
theorem onWay_iff {n : Nat} {ls r : List Int} : onWay n ls r = true ↔ ∃ i, i < n ∧ goB ls (sideD n (i + 1)) = true ∧ ∃ k ∈ (wayD n ls i).1, rowA (smallL n) k = r := by
  unfold onWay
  rw [List.any_eq_true]
  constructor
  · rintro ⟨i, hi, h⟩
    rw [Bool.and_eq_true, List.any_eq_true] at h
    obtain ⟨h1, k, hk, h2⟩ := h
    exact ⟨i, List.mem_range.1 hi, h1, k, hk, eq_of_beq h2⟩
  · rintro ⟨i, hi, h1, k, hk, h2⟩
    refine ⟨i, List.mem_range.2 hi, ?_⟩
    rw [Bool.and_eq_true, List.any_eq_true]
    exact ⟨h1, k, hk, by rw [h2]; exact beq_self_eq_true _⟩
/-- What a way that comes out is: each of its triangles has two doors, and what is beyond them is of the way. -/
theorem out_closed {n : Nat} (hn : n ≤ 12) {ls e0 e' res : List Int} {frm' : Int} (hb : ∀ r s, r ∈ smallL n → s ∈ smallL n → partB e0 r = true → partB e0 s = true → r = s) (hw : WayInv n ls e0 e' res frm') (hno : ∀ k, ¬ NextIs n e' frm' k) {j : Nat} (hj : j < res.length) :
    (∃ a b, a ≠ b ∧ a ∈ doorsL ls (placeA n res j) ∧ b ∈ doorsL ls (placeA n res j)) ∧ ∀ e t, e ∈ doorsL ls (placeA n res j) → t ∈ smallL n → e ∈ doorsL ls t → ∃ i, i < res.length ∧ placeA n res i = t := by
  obtain ⟨hr, ⟨d, hd0, hdm, hway, hl⟩, hf, hok⟩ := hw
  have hlast := hl (by omega)
  have hin := hway.into j hj
  have hout : d (j + 1) ∈ doorsL ls (placeA n res j) ∧ d (j + 1) ≠ d j := by
    rcases Nat.lt_or_ge (j + 1) res.length with g | g
    · exact ⟨(hway.out j g).2, hway.turn j g⟩
    · have e1 : j + 1 = res.length := by omega
      have e2 : res.length - 1 = j := by omega
      rw [e2] at hlast
      rw [e1, hdm]
      exact hlast
  have tri : ∀ {r}, r ∈ smallL n → TriOf (spotsL n) r := fun h => smallL_of h
  refine ⟨⟨d (j + 1), d j, hout.2, hout.1, hin.2⟩, fun e t he ht het => ?_⟩
  rcases doors_two (tri hin.1) he hin.2 hout.1 with h | h | h
  · -- by the door that one came in
    subst h
    cases j with
    | zero =>
      rw [hd0] at het hin
      exact ⟨0, hj, (hb _ _ hin.1 ht ((mem_doors (tri hin.1)).1 hin.2).2 ((mem_doors (tri ht)).1 het).2)⟩
    | succ i =>
      have h1 := hway.out i hj
      rcases door_in hn (tri h1.1) (tri hin.1) (tri ht) h1.2 hin.2 het with g | g | g
      · exact absurd g.symm (hway.on i hj)
      · exact ⟨i + 1, hj, g⟩
      · exact ⟨i, by omega, g⟩
  · exact absurd h.symm hout.2
  · -- by the door that one goes out
    subst h
    rcases Nat.lt_or_ge (j + 1) res.length with g | g
    · have h1 := hway.into (j + 1) g
      rcases door_in hn (tri hin.1) (tri h1.1) (tri ht) hout.1 h1.2 het with k | k | k
      · exact absurd k.symm (hway.on j g)
      · exact ⟨j + 1, g, k⟩
      · exact ⟨j, hj, k⟩
    · have e1 : j + 1 = res.length := by omega
      rw [e1, hdm] at het
      obtain ⟨q, hq, rfl⟩ := List.getElem_of_mem ht
      have hrow : rowA (smallL n) (q : Int) = (smallL n)[q] := by unfold rowA; rw [Int.toNat_natCast, List.getElem?_eq_getElem hq]; rfl
      rcases hf with ⟨f1, _⟩ | ⟨f1, f2⟩
      · rw [f1] at hj; simp at hj
      · have : (q : Int) = frm' := Classical.not_not.1 fun hne => hno q ⟨hq, by rw [hrow]; exact ((mem_doors (tri ht)).1 het).2, hne⟩
        refine ⟨j, hj, ?_⟩
        unfold placeA
        rw [show j = res.length - 1 by omega, f2, Option.getD_some, ← this, hrow]
/-- There is a door by which one does not come out again. -/
theorem way_stays {n : Nat} (h1 : 1 ≤ n) (hn : n ≤ 12) {ls : List Int} (hg : ∀ j, j < (spotsL n).length → goodAt (spotsL n) ls j) : ∃ i, i < n ∧ goB ls (sideD n (i + 1)) = true ∧ (wayD n ls i).2 = true := by
  refine Classical.not_not.1 fun hno => ?_
  have hout : ∀ i, i < n → goB ls (sideD n (i + 1)) = true → ∃ e' frm', WayInv n ls (sideD n (i + 1)) e' (wayD n ls i).1 frm' ∧ ∀ k, ¬ NextIs n e' frm' k := fun i hi hd => by
    rcases wayD_ends hn hi hg hd with ⟨_, h⟩ | ⟨h, _⟩
    · exact h
    · exact absurd ⟨i, hi, hd, h⟩ hno
  have hl : ∀ j, j < (spotsL n).length → 0 ≤ labA ls j ∧ labA ls j ≤ 2 := fun j hj => by
    have := hg j hj
    unfold goodAt labOk at this
    omega
  have place : ∀ {res : List Int} {k : Int}, k ∈ res → ∃ j, j < res.length ∧ placeA n res j = rowA (smallL n) k := fun {res k} hk => by
    obtain ⟨j, hj, rfl⟩ := List.getElem_of_mem hk
    exact ⟨j, hj, by unfold placeA; rw [List.getElem?_eq_getElem hj]; rfl⟩
  have placed : ∀ {res : List Int} {j : Nat}, j < res.length → ∃ k ∈ res, rowA (smallL n) k = placeA n res j := fun {res j} hj => ⟨res[j], List.getElem_mem _, by unfold placeA; rw [List.getElem?_eq_getElem hj]; rfl⟩
  obtain ⟨r, hr, hS, hfull⟩ := closed_full h1 hn hg (onWay n ls) (fun r t e hr ht her het hS => by
    obtain ⟨i, hi, hd, k, hk, rfl⟩ := onWay_iff.1 hS
    obtain ⟨e', frm', hw, hnx⟩ := hout i hi hd
    obtain ⟨j, hj, hp⟩ := place hk
    rw [← hp] at her
    obtain ⟨q, hq, hqt⟩ := (out_closed hn (side_door hn hi hg hd).2 hw hnx hj).2 e t her ht het
    obtain ⟨k', hk', hrow⟩ := placed hq
    exact onWay_iff.2 ⟨i, hi, hd, k', hk', by rw [hrow, hqt]⟩) (fun x y r hxy hd hr her => by
    unfold sideL at hxy
    obtain ⟨i, hi, he⟩ := List.mem_map.1 hxy
    have hi' := List.mem_range.1 hi
    have hsd : sideD n (i + 1) = [(x : Int), (y : Int)] := by
      rw [sideI hn hi']
      injection he with e1 e2
      rw [e1, e2]
    have hx2 := ((mem_doors (smallL_of hr)).1 her).1
    have hgo : goB ls (sideD n (i + 1)) = true := by
      obtain ⟨⟨x', y', g1, g2, g3⟩, -⟩ := side_is hn (i := i + 1) (by omega) (by omega)
      rw [hsd] at g3
      simp only [List.cons.injEq, and_true] at g3
      rw [hsd, goB_dB]
      unfold dB
      rw [← isDoor_sum (hl x (by omega)) (hl y (by omega))]
      exact hd
    obtain ⟨e', frm', hw, hnx⟩ := hout i hi' hgo
    have hone := (side_door hn hi' hg hgo).2
    have hpr := ((mem_doors (smallL_of hr)).1 her).2
    obtain ⟨q, hq, rfl⟩ := List.getElem_of_mem hr
    have hrow : rowA (smallL n) (q : Int) = (smallL n)[q] := by unfold rowA; rw [Int.toNat_natCast, List.getElem?_eq_getElem hq]; rfl
    refine onWay_iff.2 ⟨i, hi', hgo, ?_⟩
    rcases Nat.eq_zero_or_pos (wayD n ls i).1.length with h0 | h0
    · have hnil : (wayD n ls i).1 = [] := List.eq_nil_of_length_eq_zero h0
      rw [hnil] at hw
      obtain ⟨-, ⟨d, hd0, hdm, -, -⟩, hf, -⟩ := hw
      have he' : e' = sideD n (i + 1) := by rw [← hdm, ← hd0]; rfl
      rcases hf with ⟨-, f2⟩ | ⟨f1, -⟩
      · exact absurd ⟨hq, by rw [hrow, he', hsd]; exact hpr, by rw [f2]; omega⟩ (hnx q)
      · simp at f1
    · obtain ⟨-, ⟨d, hd0, -, hway, -⟩, -, -⟩ := hw
      have hin := hway.into 0 h0
      obtain ⟨k', hk', hk2⟩ := placed h0
      refine ⟨k', hk', ?_⟩
      rw [hk2]
      refine hone _ _ hin.1 hr ?_ (by rw [hsd]; exact hpr)
      have := ((mem_doors (smallL_of hin.1)).1 hin.2).2
      rw [hd0] at this
      exact this)
  obtain ⟨i, hi, hd, k, hk, rfl⟩ := onWay_iff.1 hS
  obtain ⟨e', frm', hw, hnx⟩ := hout i hi hd
  obtain ⟨j, hj, hp⟩ := place hk
  obtain ⟨⟨a, b, hab, ha, hb⟩, -⟩ := out_closed hn (side_door hn hi hg hd).2 hw hnx hj
  rw [hp] at ha hb
  -- a full triangle has one door
  have ht := smallL_of hr
  obtain ⟨x, y, z, hxyz, k1, k2, k3, -⟩ := ht
  rw [hxyz] at ha hb hfull
  rw [doorsL_three, List.mem_append, List.mem_append, mem_doorOf, mem_doorOf, mem_doorOf] at ha hb
  have n0 : numR [(x : Int), (y : Int), (z : Int)] 0 = x := by simp [numR]
  have n1 : numR [(x : Int), (y : Int), (z : Int)] 1 = y := by simp [numR]
  have n2 : numR [(x : Int), (y : Int), (z : Int)] 2 = z := by simp [numR]
  unfold fullR fullB at hfull
  rw [n0, n1, n2] at ha hb hfull
  simp only [Bool.and_eq_true, bne_iff_ne] at hfull
  unfold isDoor at ha hb
  simp only [Bool.or_eq_true, Bool.and_eq_true, beq_iff_eq] at ha hb
  rcases ha with (⟨d1, rfl⟩ | ⟨d1, rfl⟩) | ⟨d1, rfl⟩ <;> rcases hb with (⟨d2, rfl⟩ | ⟨d2, rfl⟩) | ⟨d2, rfl⟩ <;> first | exact hab rfl | omega

end Go.Proofs.YtcciinaeplppiaaDoor
