/- The program's way through doors is the reference's. No Go here. -/
import Derived.Test.YtcciinaeplppiaaDoorLabWalkL
import Derived.Test.YtcciinaeplppiaaDoorLpBeyond
import Derived.Test.YtcciinaeplppiaaDoorLpOther
import Derived.Test.YtcciinaeplppiaaDoorLpPre
namespace Go.Proofs.YtcciinaeplppiaaDoor

theorem has_part {l : List Spt} {r : List Int} (h : TriOf l r) {x y : Nat} (hxy : x < y) : hasB (triL r) (sN x y) = partB [(x : Int), (y : Int)] r := by
  obtain ⟨a, b, c, rfl, h1, h2, -⟩ := h
  rw [Bool.eq_iff_iff]
  simp only [hasB, Bool.or_eq_true, eqS_iff, sN, triL, List.getElem?_cons_zero, List.getElem?_cons_succ, Option.getD_some, Prod.mk.injEq, partB, List.all_cons, List.all_nil, Bool.and_true, Bool.and_eq_true, List.contains_iff_mem, List.mem_cons, List.not_mem_nil, or_false]
  omega
theorem triL_inj {l : List Spt} {r s : List Int} (hr : TriOf l r) (hs : TriOf l s) (e : triL r = triL s) : r = s := by
  obtain ⟨a, b, c, rfl, -⟩ := hr
  obtain ⟨a', b', c', rfl, -⟩ := hs
  simp only [triL, List.getElem?_cons_zero, List.getElem?_cons_succ, Option.getD_some, Prod.mk.injEq] at e
  obtain ⟨e1, e2, e3⟩ := e
  rw [e1, e2, e3]
theorem triL_zero {l : List Spt} {r : List Int} (hr : TriOf l r) : triL r ≠ (0, 0, 0) := by
  obtain ⟨a, b, c, rfl, h1, h2, -⟩ := hr
  simp only [triL, List.getElem?_cons_zero, List.getElem?_cons_succ, Option.getD_some, ne_eq, Prod.mk.injEq]
  omega
/-- The room that is left. -/
def leftT (n : Nat) (frm : Int) : T3 := if frm = -1 then (0, 0, 0) else triL (rowA (smallL n) frm)
/-- Where one goes on. -/
def NextIs (n : Nat) (e : List Int) (frm : Int) (k : Nat) : Prop := k < (smallL n).length ∧ partB e (rowA (smallL n) (k : Int)) = true ∧ (k : Int) ≠ frm
theorem bey_next {n : Nat} (hn : n ≤ 12) {frm : Int} (hf : frm = -1 ∨ (0 ≤ frm ∧ frm < ((smallL n).length : Int))) {x y : Nat} (hxy : x < y) (k : Nat) : BeyAt (triesL n) (leftT n frm) (sN x y) k ↔ NextIs n [(x : Int), (y : Int)] frm k := by
  unfold BeyAt NextIs
  by_cases hk : k < (smallL n).length
  · have hrow : rowA (smallL n) (k : Int) = (smallL n)[k] := by unfold rowA; rw [Int.toNat_natCast, List.getElem?_eq_getElem hk]; rfl
    have hmem : (smallL n)[k] ∈ smallL n := List.getElem_mem _
    have e1 : (triesL n)[k]? = some (triL (smallL n)[k]) := by unfold triesL; rw [List.getElem?_map, List.getElem?_eq_getElem hk]; rfl
    have key : beyB (triL (smallL n)[k]) (leftT n frm) (sN x y) = true ↔ (partB [(x : Int), (y : Int)] (smallL n)[k] = true ∧ (k : Int) ≠ frm) := by
      unfold beyB
      rw [Bool.and_eq_true, has_part (smallL_of hmem) hxy, Bool.not_eq_true', ← Bool.not_eq_true, eqT_iff, and_comm]
      refine and_congr_right fun _ => not_congr ?_
      unfold leftT
      rcases hf with hf | ⟨h0, h1⟩
      · rw [if_pos hf]
        exact ⟨fun e => absurd e (triL_zero (smallL_of hmem)), fun e => by omega⟩
      · rw [if_neg (by omega)]
        constructor
        · intro e
          have h2 := triL_inj (smallL_of hmem) (smallL_of (rowA_mem h0 h1)) e
          exact rowA_inj hn (by omega) (by omega) h0 h1 (by rw [hrow]; exact h2)
        · intro e
          rw [← e, hrow]
    rw [hrow, e1]
    constructor
    · rintro ⟨t, h1, h2⟩
      rw [← Option.some.inj h1] at h2
      exact ⟨hk, key.1 h2⟩
    · rintro ⟨_, h1⟩
      exact ⟨_, rfl, key.2 h1⟩
  · constructor
    · rintro ⟨t, h1, _⟩
      unfold triesL at h1
      rw [List.getElem?_eq_none (by rw [List.length_map]; omega)] at h1
      cases h1
    · rintro ⟨h1, _⟩
      exact absurd h1 hk
theorem next_one {n : Nat} (hn : n ≤ 12) {ls e0 e out : List Int} {frm : Int} (h : WayInv n ls e0 e out frm) (hb : ∀ r s, r ∈ smallL n → s ∈ smallL n → partB e0 r = true → partB e0 s = true → r = s) {j k : Nat} (hj : NextIs n e frm j) (hk : NextIs n e frm k) : j = k := by
  obtain ⟨j1, j2, j3⟩ := hj
  obtain ⟨k1, k2, k3⟩ := hk
  have mj := rowA_mem (T := smallL n) (i := (j : Int)) (by omega) (by omega)
  have mk := rowA_mem (T := smallL n) (i := (k : Int)) (by omega) (by omega)
  have inj : rowA (smallL n) (j : Int) = rowA (smallL n) (k : Int) → j = k := fun e => by
    have := rowA_inj hn (i := (j : Int)) (j := (k : Int)) (by omega) (by omega) (by omega) (by omega) e
    omega
  obtain ⟨hr, ⟨d, hd0, hdm, hw, hl⟩, hf, hok⟩ := h
  rcases hf with ⟨f1, f2⟩ | ⟨f1, f2⟩
  · subst f1
    have : e = e0 := by rw [← hdm, ← hd0]; rfl
    subst this
    exact inj (hb _ _ mj mk j2 k2)
  · have hl2 := (hl f1).1
    have hpl : placeA n out (out.length - 1) = rowA (smallL n) frm := by unfold placeA; rw [f2]; rfl
    rw [hpl] at hl2
    have hfr := hr frm (List.mem_of_getElem? f2)
    have mf := rowA_mem (T := smallL n) (i := frm) hfr.1 hfr.2
    rcases door_in hn (smallL_of mj) (smallL_of mk) (smallL_of mf) ((mem_doors (smallL_of mj)).2 ⟨hok, j2⟩) ((mem_doors (smallL_of mk)).2 ⟨hok, k2⟩) hl2 with e1 | e1 | e1
    · exact inj e1
    · exact absurd (rowA_inj hn (by omega) (by omega) hfr.1 hfr.2 e1) k3
    · exact absurd (rowA_inj hn (by omega) (by omega) hfr.1 hfr.2 e1) j3
theorem nextTo_none {T : List (List Int)} {e : List Int} {frm : Int} : ∀ {m : Nat}, (∀ k, k < m → ¬ (partB e (rowA T (k : Int)) = true ∧ (k : Int) ≠ frm)) → nextTo T e frm m = -1
  | 0, _ => rfl
  | m + 1, h => by
    rw [nextTo, if_neg]
    · exact nextTo_none fun k hk => h k (by omega)
    · have h1 := h m (by omega)
      unfold rowA at h1
      rw [Int.toNat_natCast] at h1
      rw [Bool.and_eq_true, bne_iff_ne]
      exact h1
theorem next_is {n : Nat} (hn : n ≤ 12) {ls e0 e out : List Int} {frm : Int} (h : WayInv n ls e0 e out frm) (hb : ∀ r s, r ∈ smallL n → s ∈ smallL n → partB e0 r = true → partB e0 s = true → r = s) {k : Nat} (hk : NextIs n e frm k) : nextTo (smallL n) e frm (smallL n).length = (k : Int) := by
  rcases nextTo_is (T := smallL n) (e := e) (frm := frm) (k := (smallL n).length) with h1 | ⟨h1, h2, h3, h4⟩
  · exfalso
    obtain ⟨k1, k2, k3⟩ := hk
    have : ∀ m, k < m → nextTo (smallL n) e frm m ≠ -1 := fun m => by
      induction m with
      | zero => intro h; omega
      | succ m ih =>
        intro hm
        rw [nextTo]
        split
        · omega
        · rename_i hc
          rcases Nat.lt_or_ge k m with g | g
          · exact ih g
          · obtain rfl : k = m := by omega
            refine absurd ?_ hc
            unfold rowA at k2
            rw [Int.toNat_natCast] at k2
            rw [Bool.and_eq_true, bne_iff_ne]
            exact ⟨k2, k3⟩
    exact this _ k1 h1
  · obtain ⟨q, hq⟩ : ∃ q : Nat, nextTo (smallL n) e frm (smallL n).length = (q : Int) := ⟨_, (Int.toNat_of_nonneg h1).symm⟩
    rw [hq] at h2 h3 h4 ⊢
    have := next_one hn h hb (j := q) (k := k) ⟨by omega, h3, h4⟩ hk
    rw [this]
theorem isDoor_sum {x y : Int} (h1 : 0 ≤ x ∧ x ≤ 2) (h2 : 0 ≤ y ∧ y ≤ 2) : isDoor x y = (x + y == 1) := by
  rw [Bool.eq_iff_iff]
  unfold isDoor
  simp only [Bool.or_eq_true, Bool.and_eq_true, beq_iff_eq]
  omega
/-- The other door, both ways. -/
theorem other_is {ls : List Int} {a b c u v : Nat} (hab : a < b) (hbc : b < c) (hlab : ∀ k, k = a ∨ k = b ∨ k = c → 0 ≤ labA ls k ∧ labA ls k ≤ 2) (he : [(u : Int), (v : Int)] ∈ doorsL ls [(a : Int), (b : Int), (c : Int)]) :
    (otherTo (doorsL ls [(a : Int), (b : Int), (c : Int)]) [(u : Int), (v : Int)] (doorsL ls [(a : Int), (b : Int), (c : Int)]).length = [] ∧ otherF ls a b c (sN u v) = ((0, 0), false)) ∨ (∃ u' v' : Nat, otherTo (doorsL ls [(a : Int), (b : Int), (c : Int)]) [(u : Int), (v : Int)] (doorsL ls [(a : Int), (b : Int), (c : Int)]).length = [(u' : Int), (v' : Int)] ∧ otherF ls a b c (sN u v) = (sN u' v', true) ∧ u' < v' ∧ [(u' : Int), (v' : Int)] ∈ doorsL ls [(a : Int), (b : Int), (c : Int)] ∧ [(u' : Int), (v' : Int)] ≠ [(u : Int), (v : Int)]) := by
  have n0 : numR [(a : Int), (b : Int), (c : Int)] 0 = a := by simp [numR]
  have n1 : numR [(a : Int), (b : Int), (c : Int)] 1 = b := by simp [numR]
  have n2 : numR [(a : Int), (b : Int), (c : Int)] 2 = c := by simp [numR]
  have d01 : dB ls a b = isDoor (labA ls a) (labA ls b) := (isDoor_sum (hlab a (by omega)) (hlab b (by omega))).symm
  have d02 : dB ls a c = isDoor (labA ls a) (labA ls c) := (isDoor_sum (hlab a (by omega)) (hlab c (by omega))).symm
  have d12 : dB ls b c = isDoor (labA ls b) (labA ls c) := (isDoor_sum (hlab b (by omega)) (hlab c (by omega))).symm
  have h3 := @isDoor_three (labA ls a) (labA ls b) (labA ls c)
  rw [doorsL_three] at he ⊢
  unfold doorOf at he ⊢
  rw [n0, n1, n2] at he ⊢
  unfold otherF
  rw [d01, d02, d12]
  have ne1 : ¬ (b : Int) = (c : Int) := by omega
  have ne2 : ¬ (a : Int) = (b : Int) := by omega
  have ne3 : ¬ (a : Int) = (c : Int) := by omega
  have ne4 : ¬ (c : Int) = (b : Int) := by omega
  have ne5 : ¬ (b : Int) = (a : Int) := by omega
  have ne6 : ¬ (c : Int) = (a : Int) := by omega
  have cs : ∀ {p q : Nat}, [(u : Int), (v : Int)] = [(p : Int), (q : Int)] → u = p ∧ v = q := fun h => by
    simp only [List.cons.injEq, and_true] at h
    omega
  cases e1 : isDoor (labA ls a) (labA ls b)
  · cases e2 : isDoor (labA ls a) (labA ls c)
    · cases e3 : isDoor (labA ls b) (labA ls c)
      · rw [e1, e2, e3] at he; simp at he
      · rw [e1, e2, e3] at he
        obtain ⟨rfl, rfl⟩ := cs (p := b) (q := c) (by simpa using he)
        left
        simp [otherTo, eqS, sN]
    · cases e3 : isDoor (labA ls b) (labA ls c)
      · rw [e1, e2, e3] at he
        obtain ⟨rfl, rfl⟩ := cs (p := a) (q := c) (by simpa using he)
        left
        simp [otherTo, eqS, sN]
      · rw [e1, e2, e3] at he
        right
        rcases (show [(u : Int), (v : Int)] = [(a : Int), (c : Int)] ∨ [(u : Int), (v : Int)] = [(b : Int), (c : Int)] by simpa using he) with h | h
        · obtain ⟨rfl, rfl⟩ := cs h
          exact ⟨b, v, by simp [otherTo, ne5], by simp [eqS, sN, ne5], hbc, by simp, by simp [ne5]⟩
        · obtain ⟨rfl, rfl⟩ := cs h
          exact ⟨a, v, by simp [otherTo, ne2], by simp [eqS, sN, ne2], by omega, by simp, by simp [ne2]⟩
  · cases e2 : isDoor (labA ls a) (labA ls c)
    · cases e3 : isDoor (labA ls b) (labA ls c)
      · rw [e1, e2, e3] at he
        obtain ⟨rfl, rfl⟩ := cs (p := a) (q := b) (by simpa using he)
        left
        simp [otherTo, eqS, sN]
      · rw [e1, e2, e3] at he
        right
        rcases (show [(u : Int), (v : Int)] = [(a : Int), (b : Int)] ∨ [(u : Int), (v : Int)] = [(b : Int), (c : Int)] by simpa using he) with h | h
        · obtain ⟨rfl, rfl⟩ := cs h
          exact ⟨v, c, by simp [otherTo, ne5, ne4], by simp [eqS, sN, ne4, ne5], hbc, by simp, by simp [ne5]⟩
        · obtain ⟨rfl, rfl⟩ := cs h
          exact ⟨a, u, by simp [otherTo, ne2], by simp [eqS, sN, ne1, ne2], hab, by simp, by simp [ne2]⟩
    · cases e3 : isDoor (labA ls b) (labA ls c)
      · rw [e1, e2, e3] at he
        right
        rcases (show [(u : Int), (v : Int)] = [(a : Int), (b : Int)] ∨ [(u : Int), (v : Int)] = [(a : Int), (c : Int)] by simpa using he) with h | h
        · obtain ⟨rfl, rfl⟩ := cs h
          exact ⟨u, c, by simp [otherTo, ne4], by simp [eqS, sN, ne4], by omega, by simp, by simp [ne4]⟩
        · obtain ⟨rfl, rfl⟩ := cs h
          exact ⟨u, b, by simp [otherTo, ne1], by simp [eqS, sN, ne1], hab, by simp, by simp [ne1]⟩
      · exact (h3 e1 e2 e3).elim

end Go.Proofs.YtcciinaeplppiaaDoor
