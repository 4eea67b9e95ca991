/- The way through doors: it comes to an end. No Go here. -/
import Derived.Test.YtbohobelbgbibaaDoorLabNodup
import Derived.Test.YtbohobelbgbibaaDoorLabDoors
namespace Go.Proofs.YtbohobelbgbibaaDoor

def partB (e r : List Int) : Bool := e.all fun v => r.contains v
def nextTo (T : List (List Int)) (e : List Int) (frm : Int) : Nat → Int
  | 0 => -1
  | k + 1 => if partB e (T[k]?.getD []) && ((k : Int) != frm) then (k : Int) else nextTo T e frm k
def otherTo (ds : List (List Int)) (e : List Int) : Nat → List Int
  | 0 => []
  | k + 1 => if ds[k]?.getD [] = e then otherTo ds e k else ds[k]?.getD []
def rowA (T : List (List Int)) (i : Int) : List Int := T[i.toNat]?.getD []
/-- The way, with fuel. -/
def thru (T : List (List Int)) (ls : List Int) : Nat → List Int → Int → List Int → List Int × Bool
  | 0, _, _, out => (out, false)
  | f + 1, e, frm, out =>
    if nextTo T e frm T.length < 0 then (out, false)
    else if otherTo (doorsL ls (rowA T (nextTo T e frm T.length))) e (doorsL ls (rowA T (nextTo T e frm T.length))).length = [] then (out ++ [nextTo T e frm T.length], true)
    else thru T ls f (otherTo (doorsL ls (rowA T (nextTo T e frm T.length))) e (doorsL ls (rowA T (nextTo T e frm T.length))).length) (nextTo T e frm T.length) (out ++ [nextTo T e frm T.length])

/-- A side whose ends have the labels 0 and 1. -/
def DoorOk (ls e : List Int) : Prop := ∃ x y : Nat, x < y ∧ e = [(x : Int), (y : Int)] ∧ isDoor (labA ls x) (labA ls y) = true
theorem doorsL_three (ls : List Int) (a b c : Nat) : doorsL ls [(a : Int), (b : Int), (c : Int)] = doorOf ls [(a : Int), (b : Int), (c : Int)] 0 1 ++ doorOf ls [(a : Int), (b : Int), (c : Int)] 0 2 ++ doorOf ls [(a : Int), (b : Int), (c : Int)] 1 2 := by
  simp [doorsL, doorsA, doorsB, List.range_succ]
theorem mem_doorOf {ls : List Int} {a b c i j : Nat} {e : List Int} : e ∈ doorOf ls [(a : Int), (b : Int), (c : Int)] i j ↔ isDoor (labA ls (numR [(a : Int), (b : Int), (c : Int)] i)) (labA ls (numR [(a : Int), (b : Int), (c : Int)] j)) = true ∧ e = [(numR [(a : Int), (b : Int), (c : Int)] i : Int), (numR [(a : Int), (b : Int), (c : Int)] j : Int)] := by
  unfold doorOf
  split
  · rename_i h; simp [h]
  · rename_i h; simp [h]
theorem mem_doors {l : List Spt} {ls r e : List Int} (h : TriOf l r) : e ∈ doorsL ls r ↔ DoorOk ls e ∧ partB e r = true := by
  obtain ⟨a, b, c, rfl, h1, h2, -⟩ := h
  rw [doorsL_three, List.mem_append, List.mem_append, mem_doorOf, mem_doorOf, mem_doorOf]
  have n0 : numR [(a : Int), (b : Int), (c : Int)] 0 = a := by simp [numR]
  have n1 : numR [(a : Int), (b : Int), (c : Int)] 1 = b := by simp [numR]
  have n2 : numR [(a : Int), (b : Int), (c : Int)] 2 = c := by simp [numR]
  rw [n0, n1, n2]
  constructor
  · rintro ((⟨hd, rfl⟩ | ⟨hd, rfl⟩) | ⟨hd, rfl⟩)
    · exact ⟨⟨a, b, h1, rfl, hd⟩, by simp [partB]⟩
    · exact ⟨⟨a, c, by omega, rfl, hd⟩, by simp [partB]⟩
    · exact ⟨⟨b, c, h2, rfl, hd⟩, by simp [partB]⟩
  · rintro ⟨⟨x, y, hxy, rfl, hd⟩, hp⟩
    simp only [partB, List.all_cons, List.all_nil, Bool.and_true, Bool.and_eq_true, List.contains_iff_mem, List.mem_cons, List.not_mem_nil, or_false] at hp
    obtain ⟨hx, hy⟩ := hp
    have e : ∀ {u v : Nat}, (u : Int) = (v : Int) → u = v := fun h => by omega
    rcases hx with hx | hx | hx <;> rcases hy with hy | hy | hy <;> (have ex := e hx; have ey := e hy; subst ex; subst ey) <;> first
      | omega
      | exact .inl (.inl ⟨hd, rfl⟩)
      | exact .inl (.inr ⟨hd, rfl⟩)
      | exact .inr ⟨hd, rfl⟩
theorem isDoor_three {x y z : Int} (h1 : isDoor x y = true) (h2 : isDoor x z = true) (h3 : isDoor y z = true) : False := by
  unfold isDoor at *
  simp only [Bool.or_eq_true, Bool.and_eq_true, beq_iff_eq] at h1 h2 h3
  omega
/-- A triangle has two doors at most. -/
theorem doors_two {l : List Spt} {ls r e f g : List Int} (h : TriOf l r) (he : e ∈ doorsL ls r) (hf : f ∈ doorsL ls r) (hg : g ∈ doorsL ls r) : e = f ∨ f = g ∨ e = g := by
  obtain ⟨a, b, c, rfl, h1, h2, -⟩ := h
  rw [doorsL_three, List.mem_append, List.mem_append, mem_doorOf, mem_doorOf, mem_doorOf] at he hf hg
  rcases he with (⟨d1, rfl⟩ | ⟨d1, rfl⟩) | ⟨d1, rfl⟩ <;> rcases hf with (⟨d2, rfl⟩ | ⟨d2, rfl⟩) | ⟨d2, rfl⟩ <;> rcases hg with (⟨d3, rfl⟩ | ⟨d3, rfl⟩) | ⟨d3, rfl⟩ <;> first
    | exact .inl rfl
    | exact .inr (.inl rfl)
    | exact .inr (.inr rfl)
    | exact (isDoor_three d1 d2 d3).elim
    | exact (isDoor_three d1 d3 d2).elim
    | exact (isDoor_three d2 d1 d3).elim
    | exact (isDoor_three d2 d3 d1).elim
    | exact (isDoor_three d3 d1 d2).elim
    | exact (isDoor_three d3 d2 d1).elim
/-- A door lies in two triangles at most. -/
theorem door_in {n : Nat} (hn : n ≤ 12) {ls e r s t : List Int} (hr : TriOf (spotsL n) r) (hs : TriOf (spotsL n) s) (ht : TriOf (spotsL n) t) (er : e ∈ doorsL ls r) (es : e ∈ doorsL ls s) (et : e ∈ doorsL ls t) : r = s ∨ s = t ∨ r = t := by
  obtain ⟨⟨x, y, hxy, rfl, -⟩, pr⟩ := (mem_doors hr).1 er
  obtain ⟨-, ps⟩ := (mem_doors hs).1 es
  obtain ⟨-, pt⟩ := (mem_doors ht).1 et
  simp only [partB, List.all_cons, List.all_nil, Bool.and_true, Bool.and_eq_true, List.contains_iff_mem] at pr ps pt
  exact edge_two hn hxy hr hs ht pr.1 pr.2 ps.1 ps.2 pt.1 pt.2

end Go.Proofs.YtbohobelbgbibaaDoor
