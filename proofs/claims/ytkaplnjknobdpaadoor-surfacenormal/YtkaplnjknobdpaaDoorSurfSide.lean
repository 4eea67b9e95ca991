/- The sides of one word, by their names; their cells in memory. No program is spoken of but the cells' values. -/
import Derived.Test.YtkaplnjknobdpaaDoorSurfValid
import Derived.Test.YtkaplnjknobdpaaDoorTab
namespace Go.Proofs.YtkaplnjknobdpaaDoor
open Go.RowKit Go.Sort

/-- The k-th letter, the side's letter and its corners along the arrow. -/
def ltI (ws : List Int) (k : Nat) : Int := ws[k]?.getD 0
def frI (ws : List Int) (k : Nat) : Nat := if ltI ws k < 0 then (k + 1) % ws.length else k
def toI (ws : List Int) (k : Nat) : Nat := if ltI ws k < 0 then k else (k + 1) % ws.length
/-- A side's cells. -/
def sideC (ws : List Int) (k : Nat) : List Value := [.int .i64 (ltI ws k), .int .i64 0, .int .i64 (frI ws k : Int), .int .i64 (toI ws k : Int)]
def sidesOf (ws : List Int) (l : List Nat) : List Value := l.flatMap (sideC ws)
theorem sidesOf_snoc (ws : List Int) (l : List Nat) (k : Nat) : sidesOf ws (l ++ [k]) = sidesOf ws l ++ sideC ws k := by simp [sidesOf]
theorem sidesOf_len (ws : List Int) (l : List Nat) : (sidesOf ws l).length = l.length * 4 := by
  induction l with
  | nil => rfl
  | cons a l ih => unfold sidesOf at ih ⊢; rw [List.flatMap_cons, List.length_append, ih]; simp [sideC]; omega
/-- Where a name stands among the first m letters. -/
def placesI (ws : List Int) (m name : Nat) : List Nat := (List.range m).filter fun k => (ltI ws k).natAbs == name
theorem placesI_len (ws : List Int) (m name : Nat) : (placesI ws m name).length ≤ m := by
  unfold placesI
  refine Nat.le_trans (List.length_filter_le _ _) ?_
  rw [List.length_range]; exact Nat.le_refl _
theorem placesI_succ (ws : List Int) (m name : Nat) : placesI ws (m + 1) name = if (ltI ws m).natAbs = name then placesI ws m name ++ [m] else placesI ws m name := by
  unfold placesI
  rw [List.range_succ, List.filter_append]
  by_cases e : (ltI ws m).natAbs = name
  · rw [if_pos e, List.filter_cons_of_pos (by simp [e])]; rfl
  · rw [if_neg e, List.filter_cons_of_neg (by simpa using e)]; simp
/-- The table of the first m sides. -/
def tabE (ws : List Int) (m : Nat) : List (List Value) := (List.range 61).map fun name => sidesOf ws (placesI ws m name)
theorem tabE_len (ws : List Int) (m : Nat) : (tabE ws m).length = 61 := by simp [tabE]
theorem tabE_at {ws : List Int} {m name : Nat} (h : name < 61) : (tabE ws m)[name]? = some (sidesOf ws (placesI ws m name)) := by unfold tabE; rw [List.getElem?_map, List.getElem?_range h]; rfl
theorem tabE_zero (ws : List Int) : tabE ws 0 = List.replicate 61 [] := by
  refine List.ext_getElem? fun i => ?_
  rw [List.getElem?_replicate]
  by_cases h : i < 61
  · rw [tabE_at h, if_pos h]; rfl
  · rw [if_neg h, List.getElem?_eq_none (by rw [tabE_len]; omega)]
theorem tabE_succ {ws : List Int} {m name : Nat} (e : (ltI ws m).natAbs = name) : tabE ws (m + 1) = (tabE ws m).set name (sidesOf ws (placesI ws m name) ++ sideC ws m) := by
  refine List.ext_getElem? fun i => ?_
  rw [List.getElem?_set]
  by_cases h : i < 61
  · rw [tabE_at h, placesI_succ]
    by_cases e2 : name = i
    · rw [if_pos (e.trans e2), if_pos e2, if_pos (by rw [tabE_len]; omega), sidesOf_snoc, e2]
    · rw [if_neg e2, if_neg (fun h => e2 (e.symm.trans h)), tabE_at h]
  · rw [List.getElem?_eq_none (by rw [tabE_len]; omega)]
    split
    · rw [if_neg (by rw [tabE_len]; omega)]
    · rw [List.getElem?_eq_none (by rw [tabE_len]; omega)]

theorem far2_kept {w1 w2 : World} {o : Obj} {row : Option Nat} (hg : (w1.alloc o).grownBy w2 row) {p : Addr} {v : Value} (h : w1.cell? p = some v ∧ w1.frozen? p = false) (hne : some p.block ≠ row) : w2.cell? p = some v ∧ w2.frozen? p = false := by
  have hlt0 := cell_lt h.1
  have hb : (w1.alloc o).cell? p = some v ∧ (w1.alloc o).frozen? p = false := ⟨(World.cell?_alloc_lt w1 o p hlt0).trans h.1, (World.frozen?_of_block (Go.Deep.blk_alloc_lt _ _ _ hlt0)).trans h.2⟩
  have hlt := cell_lt hb.1
  exact ⟨(hg.cell_far p hlt hne).trans hb.1, (hg.frozen_far p hlt hne).trans hb.2⟩

/-- nameOf, as one step of a region that draws. -/
theorem step_name {ops : Array Oper} {o : Oper} {a : Act} {w : World} {K : Act → World → Prop} {Q : Exit → Act → World → Prop} {E : Prop} (hgd : o.guard = none) (t : Tmp) (ats : Array TypeId)
    (ho : o.op = .call { callee := .value (.func 19), args := #[.tmp t], argTypes := ats }) (l : Int) (m : Nat) (he : a.eval (.tmp t) = .int .i64 l) (h1 : -60 ≤ l ∧ l ≤ 60) (hm : l.natAbs = m) (h : K (a.put o.dst (.int .i64 (m : Int))) w) :
    if Region.wanted o (yielded ops a.tmps) = true then Oper.wp Tryd.prog o a w K Q else E := by
  have hw : Region.wanted o (yielded ops a.tmps) = true := by simp [Region.wanted, hgd]
  rw [if_pos hw]
  have hr : (execOp a.eval o).run Tryd.prog w = .ok (.enter 19 #[.int .i64 l]) w := by
    have he' : a.tmps[t]?.getD undef = .int .i64 l := by simpa [Act.eval] using he
    unfold execOp
    simp [ho, he', go_sem]
  unfold Oper.wp
  rw [hr]
  refine Calls.mono (name_of l (by omega) (by omega) w) fun e w' hw' => ?_
  obtain ⟨rfl, rfl⟩ := hw'
  rw [hm]
  exact h

end Go.Proofs.YtkaplnjknobdpaaDoor
