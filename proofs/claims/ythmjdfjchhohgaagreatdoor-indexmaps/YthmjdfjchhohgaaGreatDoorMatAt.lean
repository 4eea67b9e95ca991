/- The sides of each face and the faces over it, told by the pairs that are done; no program is spoken of but the cells' values. A matrix that is made: its struct, and the numbers so far. -/
import Derived.Test.YthmjdfjchhohgaaGreatDoorIdxCompact
import Derived.Test.YthmjdfjchhohgaaGreatDoorBorderMath
import Derived.Test.YthmjdfjchhohgaaGreatDoorTab
import Derived.Test.YthmjdfjchhohgaaGreatDoorFar
namespace Go.Proofs.YthmjdfjchhohgaaGreatDoor
open Go.RowKit Go.Sort

/-- Those over a face, the sides of a face, of the pairs that are done. -/
def ovD (P : List (List Int)) (D : Nat → Nat → Bool) (i : Nat) : List Nat := (List.range P.length).filter fun k => underB (faceAt P i) (faceAt P k) && D i k
def sidD (P : List (List Int)) (D : Nat → Nat → Bool) (k : Nat) : List Nat := (List.range P.length).filter fun i => underB (faceAt P i) (faceAt P k) && D i k
/-- Their cells. -/
def ovC (P : List (List Int)) (D : Nat → Nat → Bool) (i : Nat) : List Value := ((ovD P D i).map fun (k : Nat) => (k : Int)).map (Value.int .i64)
def sideP (P : List (List Int)) (k i : Nat) : Duo := ((i : Int), entryI (faceAt P i) (faceAt P k))
def sidC (P : List (List Int)) (D : Nat → Nat → Bool) (k : Nat) : List Value := duoCells ((sidD P D k).map (sideP P k))
def oversC (P : List (List Int)) (D : Nat → Nat → Bool) : List (List Value) := (List.range P.length).map (ovC P D)
def sidesC (P : List (List Int)) (D : Nat → Nat → Bool) : List (List Value) := (List.range P.length).map (sidC P D)

theorem oversC_len (P : List (List Int)) (D : Nat → Nat → Bool) : (oversC P D).length = P.length := by simp [oversC]
theorem sidesC_len (P : List (List Int)) (D : Nat → Nat → Bool) : (sidesC P D).length = P.length := by simp [sidesC]
theorem oversC_at {P : List (List Int)} {D : Nat → Nat → Bool} {i : Nat} (h : i < P.length) : (oversC P D)[i]? = some (ovC P D i) := by unfold oversC; rw [List.getElem?_map, List.getElem?_range h]; rfl
theorem sidesC_at {P : List (List Int)} {D : Nat → Nat → Bool} {i : Nat} (h : i < P.length) : (sidesC P D)[i]? = some (sidC P D i) := by unfold sidesC; rw [List.getElem?_map, List.getElem?_range h]; rfl

/-- Only pairs that are under each other count. -/
theorem ovD_congr {P : List (List Int)} {D D' : Nat → Nat → Bool} {i : Nat} (h : ∀ k, k < P.length → underB (faceAt P i) (faceAt P k) = true → D i k = D' i k) : ovD P D i = ovD P D' i := by
  refine List.filter_congr fun k hk => ?_
  cases e : underB (faceAt P i) (faceAt P k) with
  | false => rfl
  | true => rw [h k (List.mem_range.1 hk) e]
theorem sidD_congr {P : List (List Int)} {D D' : Nat → Nat → Bool} {k : Nat} (h : ∀ i, i < P.length → underB (faceAt P i) (faceAt P k) = true → D i k = D' i k) : sidD P D k = sidD P D' k := by
  refine List.filter_congr fun i hi => ?_
  cases e : underB (faceAt P i) (faceAt P k) with
  | false => rfl
  | true => rw [h i (List.mem_range.1 hi) e]
theorem oversC_congr {P : List (List Int)} {D D' : Nat → Nat → Bool} (h : ∀ i k, i < P.length → k < P.length → underB (faceAt P i) (faceAt P k) = true → D i k = D' i k) : oversC P D = oversC P D' := by
  unfold oversC
  refine List.map_congr_left fun i hi => ?_
  unfold ovC
  rw [ovD_congr fun k hk hu => h i k (List.mem_range.1 hi) hk hu]
theorem sidesC_congr {P : List (List Int)} {D D' : Nat → Nat → Bool} (h : ∀ i k, i < P.length → k < P.length → underB (faceAt P i) (faceAt P k) = true → D i k = D' i k) : sidesC P D = sidesC P D' := by
  unfold sidesC
  refine List.map_congr_left fun k hk => ?_
  unfold sidC
  rw [sidD_congr fun i hi hu => h i k hi (List.mem_range.1 hk) hu]

/-- One more that is greater than all before. -/
theorem filter_more {p p' : Nat → Bool} {n h : Nat} (hh : h < n) (e1 : ∀ j, j < n → j ≠ h → p' j = p j) (e2 : p h = false) (e3 : p' h = true) (e4 : ∀ j, h < j → j < n → p j = false) : (List.range n).filter p' = (List.range n).filter p ++ [h] := by
  have key : ∀ m, m ≤ n → (List.range m).filter p' = (List.range m).filter p ++ (if h < m then [h] else []) := by
    intro m
    induction m with
    | zero => intro _; simp
    | succ m ih =>
      intro hm
      rw [List.range_succ, List.filter_append, List.filter_append, ih (by omega)]
      by_cases c : m = h
      · subst c
        rw [if_neg (by omega), if_pos (by omega), List.append_nil]
        simp [e2, e3]
      · by_cases c2 : h < m
        · rw [if_pos c2, if_pos (by omega)]
          have h1 := e4 m c2 (by omega)
          have h2 := (e1 m (by omega) c).trans h1
          simp [h1, h2]
        · rw [if_neg c2, if_neg (by omega)]
          have h1 := e1 m (by omega) c
          simp [List.filter_cons, h1]
  have := key n (Nat.le_refl _)
  rw [if_pos hh] at this
  exact this

/-- The pairs that are done when some rows are, and some columns of the next one. -/
def doneP (first lo row col : Nat) (i k : Nat) : Bool := decide (k < first) || (decide (i < lo + row) || (decide (i = lo + row) && decide (k < first + col)))

theorem doneP_row (first lo row n : Nat) (i k : Nat) (hk : k < first + n) : doneP first lo row n i k = doneP first lo (row + 1) 0 i k := by
  unfold doneP
  rw [Bool.eq_iff_iff]
  simp only [Bool.or_eq_true, Bool.and_eq_true, decide_eq_true_eq]
  omega
theorem doneP_col {first lo row col i k : Nat} (h : ¬ (i = lo + row ∧ k = first + col)) : doneP first lo row (col + 1) i k = doneP first lo row col i k := by
  unfold doneP
  rw [Bool.eq_iff_iff]
  simp only [Bool.or_eq_true, Bool.and_eq_true, decide_eq_true_eq]
  omega
theorem doneP_no {first lo row col : Nat} : doneP first lo row col (lo + row) (first + col) = false := by
  unfold doneP
  rw [Bool.eq_false_iff]
  intro h
  simp only [Bool.or_eq_true, Bool.and_eq_true, decide_eq_true_eq] at h
  omega
theorem doneP_yes {first lo row col : Nat} : doneP first lo row (col + 1) (lo + row) (first + col) = true := by
  unfold doneP
  simp

/-- A pair more. -/
theorem ovD_step {P : List (List Int)} {first lo row col : Nat} (hk : first + col < P.length) (hu : underB (faceAt P (lo + row)) (faceAt P (first + col)) = true) : ovD P (doneP first lo row (col + 1)) (lo + row) = ovD P (doneP first lo row col) (lo + row) ++ [first + col] := by
  refine filter_more hk (fun j _ hne => ?_) ?_ ?_ (fun j hj _ => ?_)
  · rw [doneP_col fun h => hne h.2]
  · rw [doneP_no, Bool.and_false]
  · rw [hu, doneP_yes]; rfl
  · have : doneP first lo row col (lo + row) j = false := by
      unfold doneP
      rw [Bool.eq_false_iff]
      intro h
      simp only [Bool.or_eq_true, Bool.and_eq_true, decide_eq_true_eq] at h
      omega
    rw [this, Bool.and_false]
theorem sidD_step {P : List (List Int)} {first lo row col : Nat} (hi : lo + row < P.length) (hu : underB (faceAt P (lo + row)) (faceAt P (first + col)) = true) : sidD P (doneP first lo row (col + 1)) (first + col) = sidD P (doneP first lo row col) (first + col) ++ [lo + row] := by
  refine filter_more hi (fun j _ hne => ?_) ?_ ?_ (fun j hj _ => ?_)
  · rw [doneP_col fun h => hne h.1]
  · rw [doneP_no, Bool.and_false]
  · rw [hu, doneP_yes]; rfl
  · have : doneP first lo row col j (first + col) = false := by
      unfold doneP
      rw [Bool.eq_false_iff]
      intro h
      simp only [Bool.or_eq_true, Bool.and_eq_true, decide_eq_true_eq] at h
      omega
    rw [this, Bool.and_false]

theorem oversC_step {P : List (List Int)} {first lo row col : Nat} (_hi : lo + row < P.length) (hk : first + col < P.length) (hu : underB (faceAt P (lo + row)) (faceAt P (first + col)) = true) : oversC P (doneP first lo row (col + 1)) = (oversC P (doneP first lo row col)).set (lo + row) (ovC P (doneP first lo row col) (lo + row) ++ [.int .i64 ((first + col : Nat) : Int)]) := by
  refine List.ext_getElem? fun j => ?_
  by_cases hj : j < P.length
  · by_cases e : lo + row = j
    · subst e
      rw [oversC_at hj, List.getElem?_set, if_pos rfl, if_pos (by rw [oversC_len]; exact hj)]
      unfold ovC
      rw [ovD_step hk hu, List.map_append, List.map_append]
      rfl
    · rw [oversC_at hj, List.getElem?_set, if_neg e, oversC_at hj]
      unfold ovC
      rw [ovD_congr fun k _ _ => doneP_col fun h => e h.1.symm]
  · rw [List.getElem?_eq_none (by rw [oversC_len]; omega), List.getElem?_eq_none (by rw [List.length_set, oversC_len]; omega)]
theorem sidesC_step {P : List (List Int)} {first lo row col : Nat} (hi : lo + row < P.length) (_hk : first + col < P.length) (hu : underB (faceAt P (lo + row)) (faceAt P (first + col)) = true) : sidesC P (doneP first lo row (col + 1)) = (sidesC P (doneP first lo row col)).set (first + col) (sidC P (doneP first lo row col) (first + col) ++ [.int .i64 ((lo + row : Nat) : Int), .int .i64 (entryI (faceAt P (lo + row)) (faceAt P (first + col)))]) := by
  refine List.ext_getElem? fun j => ?_
  by_cases hj : j < P.length
  · by_cases e : first + col = j
    · subst e
      rw [sidesC_at hj, List.getElem?_set, if_pos rfl, if_pos (by rw [sidesC_len]; exact hj)]
      unfold sidC
      rw [sidD_step hi hu, List.map_append, List.map_singleton, duoCells_snoc]
      rfl
    · rw [sidesC_at hj, List.getElem?_set, if_neg e, sidesC_at hj]
      unfold sidC
      rw [sidD_congr fun i _ _ => doneP_col fun h => e h.2.symm]
  · rw [List.getElem?_eq_none (by rw [sidesC_len]; omega), List.getElem?_eq_none (by rw [List.length_set, sidesC_len]; omega)]

/-- What stands in the boundary is not 0 just where one is under the other. -/
theorem entry_under {r c : List Int} (hr : Rising r) (hc : Rising c) : entryI r c ≠ 0 ↔ underB r c = true := by
  rw [underB_iff]
  constructor
  · intro h
    by_cases hu : r.length + 1 = c.length ∧ ∀ v ∈ r, v ∈ c
    · exact hu
    · exfalso; apply h; unfold entryI; rw [if_neg hu]
  · rintro ⟨h1, h2⟩
    obtain ⟨j, hj, rfl⟩ := part_erase hr hc h1 h2
    rw [entry_erase hc hj]
    unfold sg
    omega

theorem grown_one (W : World) (p : Addr) (v : Value) : W.grownBy (W.setCell p v) (some p.block) := ⟨rfl, rfl, rfl, by simp, fun k _ hk => Below.heap_setCell W p v k (fun e => hk (by rw [e]))⟩

/-- A later world, but for some blocks. -/
structure KeepOff (T : Nat → Prop) (W W' : World) : Prop where
  os : W'.os = W.os
  tape : W'.tape = W.tape
  output : W'.output = W.output
  size : W.heap.size ≤ W'.heap.size
  block : ∀ b, b < W.heap.size → ¬ T b → W'.heap[b]? = W.heap[b]?
theorem KeepOff.refl (T : Nat → Prop) (W : World) : KeepOff T W W := ⟨rfl, rfl, rfl, Nat.le_refl _, fun _ _ _ => rfl⟩
theorem KeepOff.on {T : Nat → Prop} {W W1 W2 : World} {row : Option Nat} (h : KeepOff T W W1) (hg : W1.grownBy W2 row) (hr : ∀ b, row = some b → T b ∨ W.heap.size ≤ b) : KeepOff T W W2 :=
  ⟨hg.os.trans h.os, hg.tape.trans h.tape, hg.output.trans h.output, Nat.le_trans h.size hg.size, fun b hb hT => (hg.block b (Nat.lt_of_lt_of_le hb h.size) (fun e => by rcases hr b e.symm with e' | e'; exact hT e'; omega)).trans (h.block b hb hT)⟩
theorem KeepOff.cell {T : Nat → Prop} {W W' : World} (h : KeepOff T W W') {p : Addr} (hp : p.block < W.heap.size) (hT : ¬ T p.block) : W'.cell? p = W.cell? p := World.cell?_of_block (h.block p.block hp hT)
theorem KeepOff.frozen {T : Nat → Prop} {W W' : World} (h : KeepOff T W W') {p : Addr} (hp : p.block < W.heap.size) (hT : ¬ T p.block) : W'.frozen? p = W.frozen? p := World.frozen?_of_block (h.block p.block hp hT)
theorem KeepOff.drew {T : Nat → Prop} {W W' : World} (h : KeepOff T W W') : KeepOff T W W'.drew := ⟨h.os, h.tape, h.output, h.size, h.block⟩

end Go.Proofs.YthmjdfjchhohgaaGreatDoor

namespace Go.Proofs.YthmjdfjchhohgaaGreatDoor
open Go.RowKit Go.Sort

/-- A variable that holds a matrix. -/
structure MatBox (B : Nat) (W : World) (r c : Int) (v : Value) : Prop where
  c0 : W.cell? ⟨B, 0, none⟩ = some (.int .i64 r) ∧ W.frozen? ⟨B, 0, none⟩ = false
  c1 : W.cell? ⟨B, 1, none⟩ = some (.int .i64 c) ∧ W.frozen? ⟨B, 1, none⟩ = false
  c2 : W.cell? ⟨B, 2, none⟩ = some v ∧ W.frozen? ⟨B, 2, none⟩ = false
theorem matBox_new (W : World) (r c : Int) (v : Value) (t : TypeId) : MatBox W.heap.size (W.alloc (.cells #[.int .i64 r, .int .i64 c, v] t)) r c v := by
  have h := World.alloc_heap_new W (.cells #[.int .i64 r, .int .i64 c, v] t)
  refine ⟨⟨?_, ?_⟩, ⟨?_, ?_⟩, ⟨?_, ?_⟩⟩
  all_goals first
    | (unfold World.cell?; rw [h]; rfl)
    | (unfold World.frozen?; rw [h]; rfl)
theorem MatBox.lt {B : Nat} {W : World} {r c : Int} {v : Value} (h : MatBox B W r c v) : B < W.heap.size := cell_lt h.c0.1
theorem MatBox.below {B : Nat} {W W' : World} {r c : Int} {v : Value} (h : MatBox B W r c v) (hB : Below W.heap.size W W') : MatBox B W' r c v :=
  ⟨⟨(hB.cell (p := ⟨B, 0, none⟩) h.lt).trans h.c0.1, (hB.frozen (p := ⟨B, 0, none⟩) h.lt).trans h.c0.2⟩, ⟨(hB.cell (p := ⟨B, 1, none⟩) h.lt).trans h.c1.1, (hB.frozen (p := ⟨B, 1, none⟩) h.lt).trans h.c1.2⟩, ⟨(hB.cell (p := ⟨B, 2, none⟩) h.lt).trans h.c2.1, (hB.frozen (p := ⟨B, 2, none⟩) h.lt).trans h.c2.2⟩⟩
theorem MatBox.far {B : Nat} {W W' : World} {r c : Int} {v : Value} {o : Obj} {row : Option Nat} (h : MatBox B W r c v) (hg : (W.alloc o).grownBy W' row) (hne : some B ≠ row) : MatBox B W' r c v :=
  ⟨far_kept hg (p := ⟨B, 0, none⟩) h.c0 hne, far_kept hg (p := ⟨B, 1, none⟩) h.c1 hne, far_kept hg (p := ⟨B, 2, none⟩) h.c2 hne⟩
theorem addr_ne {B B' o o' : Nat} (h : B ≠ B' ∨ o ≠ o') : (⟨B, o, none⟩ : Addr) ≠ ⟨B', o', none⟩ := fun e => by
  have h1 : B = B' := congrArg Addr.block e
  have h2 : o = o' := congrArg Addr.off e
  rcases h with h | h
  · exact h h1
  · exact h h2
theorem MatBox.set {B : Nat} {W : World} {r c : Int} {v : Value} (h : MatBox B W r c v) (u : Value) : MatBox B (W.setCell ⟨B, 2, none⟩ u) r c u := by
  refine ⟨⟨?_, ?_⟩, ⟨?_, ?_⟩, ⟨?_, ?_⟩⟩
  · rw [World.cell?_setCell_other _ _ _ _ (addr_ne (.inr (by decide)))]; exact h.c0.1
  · rw [World.frozen?_setCell]; exact h.c0.2
  · rw [World.cell?_setCell_other _ _ _ _ (addr_ne (.inr (by decide)))]; exact h.c1.1
  · rw [World.frozen?_setCell]; exact h.c1.2
  · exact World.cell?_setCell_same' _ _ _ (by rw [h.c2.1]; rfl)
  · rw [World.frozen?_setCell]; exact h.c2.2
theorem MatBox.other {B B' : Nat} {W : World} {r c : Int} {v : Value} (h : MatBox B W r c v) (hne : B' ≠ B) (o : Nat) (u : Value) : MatBox B (W.setCell ⟨B', o, none⟩ u) r c v := by
  refine ⟨⟨?_, ?_⟩, ⟨?_, ?_⟩, ⟨?_, ?_⟩⟩
  · rw [World.cell?_setCell_other _ _ _ _ (addr_ne (.inl hne))]; exact h.c0.1
  · rw [World.frozen?_setCell]; exact h.c0.2
  · rw [World.cell?_setCell_other _ _ _ _ (addr_ne (.inl hne))]; exact h.c1.1
  · rw [World.frozen?_setCell]; exact h.c1.2
  · rw [World.cell?_setCell_other _ _ _ _ (addr_ne (.inl hne))]; exact h.c2.1
  · rw [World.frozen?_setCell]; exact h.c2.2
/-- The whole is stored. -/
theorem MatBox.put {B : Nat} {W : World} {r c : Int} {v : Value} (h : MatBox B W r c v) (r' c' : Int) (u : Value) : MatBox B (((W.setCell ⟨B, 0, none⟩ (.int .i64 r')).setCell ⟨B, 1, none⟩ (.int .i64 c')).setCell ⟨B, 2, none⟩ u) r' c' u := by
  refine ⟨⟨?_, ?_⟩, ⟨?_, ?_⟩, ⟨?_, ?_⟩⟩
  · rw [World.cell?_setCell_other _ _ _ _ (addr_ne (.inr (by decide))), World.cell?_setCell_other _ _ _ _ (addr_ne (.inr (by decide)))]
    exact World.cell?_setCell_same' _ _ _ (by rw [h.c0.1]; rfl)
  · rw [World.frozen?_setCell, World.frozen?_setCell, World.frozen?_setCell]; exact h.c0.2
  · rw [World.cell?_setCell_other _ _ _ _ (addr_ne (.inr (by decide)))]
    exact World.cell?_setCell_same' _ _ _ (by rw [World.cell?_setCell_other _ _ _ _ (addr_ne (.inr (by decide))), h.c1.1]; rfl)
  · rw [World.frozen?_setCell, World.frozen?_setCell, World.frozen?_setCell]; exact h.c1.2
  · exact World.cell?_setCell_same' _ _ _ (by rw [World.cell?_setCell_other _ _ _ _ (addr_ne (.inr (by decide))), World.cell?_setCell_other _ _ _ _ (addr_ne (.inr (by decide))), h.c2.1]; rfl)
  · rw [World.frozen?_setCell, World.frozen?_setCell, World.frozen?_setCell]; exact h.c2.2

/-- The result's variable, the matrix, and its first n numbers. -/
structure MatAt (L : List Int) (r c : Int) (w : World) (n : Nat) (v : Value) (W : World) : Prop where
  zero : MatBox w.heap.size W 0 0 (.slice none 0 0)
  out : MatBox (w.heap.size + 1) W r c v
  own : W.ownsRow (w.heap.size + 2) 3 1 v n ((L.take n).map (Value.int .i64))
  size : w.heap.size + 2 ≤ W.heap.size
  below : Below w.heap.size w W
theorem mat_start (L : List Int) (r c : Int) (w : World) (t : TypeId) : MatAt L r c w 0 (.slice none 0 0) ((w.alloc (.cells #[.int .i64 0, .int .i64 0, .slice none 0 0] t)).alloc (.cells #[.int .i64 r, .int .i64 c, .slice none 0 0] t)) where
  zero := (matBox_new w 0 0 (.slice none 0 0) t).below ((Below.refl _ _).alloc (Nat.le_refl _) _)
  out := by
    have := matBox_new (w.alloc (.cells #[.int .i64 0, .int .i64 0, .slice none 0 0] t)) r c (.slice none 0 0) t
    rwa [World.size_alloc] at this
  own := by simp; exact World.ownsRow_nil _ _ _ _
  size := by simp
  below := ((Below.refl _ w).alloc (Nat.le_refl _) _).alloc (by simp) _
theorem MatAt.later {L : List Int} {r c : Int} {w : World} {n : Nat} {v : Value} {W W' : World} (h : MatAt L r c w n v W) (hB : Below W.heap.size W W') : MatAt L r c w n v W' where
  zero := h.zero.below hB
  out := h.out.below hB
  own := h.own.kept (Below.grownBy hB) (by cases v.ownBlock <;> simp)
  size := Nat.le_trans h.size hB.size
  below := h.below.trans (hB.mono h.below.size)
theorem MatAt.ne {L : List Int} {r c : Int} {w : World} {n : Nat} {v : Value} {W : World} (h : MatAt L r c w n v W) : some w.heap.size ≠ v.ownBlock ∧ some (w.heap.size + 1) ≠ v.ownBlock :=
  ⟨fun e => by have := (h.own.lt _ e.symm).1; omega, fun e => by have := (h.own.lt _ e.symm).1; omega⟩
/-- One more number: behind its append, ahead of the store. -/
theorem MatAt.grown {L : List Int} {r c : Int} {w : World} {n : Nat} {v : Value} {W W' : World} {o : Obj} (h : MatAt L r c w n v W) (hg : (W.alloc o).grownBy W' v.ownBlock) :
    MatBox w.heap.size W' 0 0 (.slice none 0 0) ∧ MatBox (w.heap.size + 1) W' r c v ∧ w.heap.size + 2 ≤ W'.heap.size ∧ Below w.heap.size w W' := by
  have h1 := hg.size
  rw [World.size_alloc] at h1
  have h2 := h.size
  exact ⟨h.zero.far hg h.ne.1, h.out.far hg h.ne.2, by omega, (h.below.alloc h.below.size o).grown hg (by simp; omega) (fun j hj => by have := (h.own.lt j hj).1; omega)⟩
theorem MatAt.step {L : List Int} {r c : Int} {w : World} {n : Nat} {v v' : Value} {W W' : World} {o : Obj} {x : Int} (h : MatAt L r c w n v W) (hx : L[n]? = some x) (hg : (W.alloc o).grownBy W' v.ownBlock)
    (hown : W'.ownsRow (w.heap.size + 2) 3 1 v' (n + 1) ((L.take n).map (Value.int .i64) ++ [.int .i64 x])) : MatAt L r c w (n + 1) v' (W'.setCell ⟨w.heap.size + 1, 2, none⟩ v') := by
  obtain ⟨g1, g2, g3, g4⟩ := h.grown hg
  refine ⟨g1.other (by omega) _ _, g2.set v', ?_, by rw [World.size_setCell]; exact g3, g4.setCell (p := ⟨w.heap.size + 1, 2, none⟩) (by show w.heap.size ≤ w.heap.size + 1; omega) _⟩
  rw [List.take_add_one, hx, List.map_append]
  exact ownsRow_setCell_below hown (show (⟨w.heap.size + 1, 2, none⟩ : Addr).block < w.heap.size + 2 by show w.heap.size + 1 < w.heap.size + 2; omega) v'
/-- The numbers, all there. -/
theorem MatAt.ints {L : List Int} {r c : Int} {w : World} {n : Nat} {v : Value} {W : World} (h : MatAt L r c w n v W) (hn : n = L.length) : IntsIn (fun b => w.heap.size + 2 ≤ b) W v L := by
  have := slice_of_owns (S := fun b => w.heap.size + 2 ≤ b) h.own (fun b hb _ => hb)
  rw [hn, List.take_length] at this
  exact this
theorem mat_put_below {n B : Nat} {w W : World} (h : Below n w W) (a b c : Value) (hB : n ≤ B := by exact Nat.le_refl _) : Below n w (((W.setCell ⟨B, 0, none⟩ a).setCell ⟨B, 1, none⟩ b).setCell ⟨B, 2, none⟩ c) :=
  ((h.setCell (p := ⟨B, 0, none⟩) hB _).setCell (p := ⟨B, 1, none⟩) hB _).setCell (p := ⟨B, 2, none⟩) hB _
theorem ints_set {S : Nat → Prop} {W : World} {v : Value} {L : List Int} {p : Addr} (h : IntsIn S W v L) (hp : ¬ S p.block) (u : Value) : IntsIn S (W.setCell p u) v L :=
  SliceIn.keep h (fun b _ hb => Below.heap_setCell W p u b (fun e => hp (e ▸ hb)))

end Go.Proofs.YthmjdfjchhohgaaGreatDoor
