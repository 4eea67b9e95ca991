/- Reading: fuel makes no difference; blanks ahead make none; how many numbers there are. -/
import Derived.Test.YtklagnmkfbjagaaGreatDoorReadSet
import Derived.Test.YtklagnmkfbjagaaGreatDoorMake
import Derived.Test.YtklagnmkfbjagaaGreatDoorPartsMath
namespace Go.Proofs.YtklagnmkfbjagaaGreatDoor
open Go.RowKit Go.Sort

theorem rset_fuel : ∀ (N M : Nat) (S : List Int) (u : List UInt8), u.length < N → u.length < M → rset N S u = rset M S u
  | 0, _, _, _, h, _ => by omega
  | _ + 1, 0, _, _, _, h => by omega
  | N + 1, M + 1, S, u, h1, h2 => by
    by_cases hk : (num u).2 = 0
    · simp only [rset, if_pos hk]
    · by_cases hb : blanks (u.drop (num u).2) = 0
      · simp only [rset, if_neg hk, if_pos hb]
      · have hl : (u.drop ((num u).2 + blanks (u.drop (num u).2))).length < N ∧ (u.drop ((num u).2 + blanks (u.drop (num u).2))).length < M := by
          have := num_le u
          rw [List.length_drop]; omega
        rw [rset_more hk hb, rset_more hk hb, rset_fuel N M _ _ hl.1 hl.2]
theorem blanks_none (u : List UInt8) : blanks (u.drop (blanks u)) = 0 := by
  cases h : u.drop (blanks u) with
  | nil => rfl
  | cons c t => simp only [blanks, if_neg (blanks_drop u c t h)]
theorem rd_skip (N : Nat) (l : List (List Int)) (i : Nat) (u : List UInt8) : rd (N + 1) l i u = rd (N + 1) l (i + blanks u) (u.drop (blanks u)) := by
  have h0 := blanks_none u
  have hf := rset_fuel (u.length + 1) ((u.drop (blanks u)).length + 1) [] (u.drop (blanks u)) (by rw [List.length_drop]; omega) (by omega)
  simp only [rd]
  rw [h0, List.drop_zero, hf]
  rfl
theorem rset_half : ∀ (n : Nat) (S : List Int) (u : List UInt8), 2 * (rset n S u).1.length ≤ 2 * S.length + (rset n S u).2 + 1
  | 0, S, u => by simp [rset]
  | n + 1, S, u => by
    by_cases hk : (num u).2 = 0
    · simp only [rset, if_pos hk]; omega
    · by_cases hb : blanks (u.drop (num u).2) = 0
      · simp only [rset, if_neg hk, if_pos hb, List.length_append, List.length_singleton]; omega
      · have := rset_half n (S ++ [(num u).1]) (u.drop ((num u).2 + blanks (u.drop (num u).2)))
        rw [rset_more hk hb]
        simp only [List.length_append, List.length_singleton] at this ⊢
        omega

theorem fault_cells (W : World) (x y : Value) (t : TypeId) : (W.alloc (.cells #[x, y] t)).cell? ⟨W.heap.size, 0, none⟩ = some x ∧ (W.alloc (.cells #[x, y] t)).cell? ⟨W.heap.size, 0 + 1, none⟩ = some y := by
  constructor <;> simp
theorem rowsin_nil (S : Nat → Prop) (w : World) : RowsIn S w (.slice none 0 0) [] := ⟨[], SliceIn.nil _ _, rfl, fun k u x hu => by simp at hu⟩
theorem OwnRows.rowsIn {base : Nat} {w : World} {v : Value} {xss : List (List Int)} (h : OwnRows base w v xss) : RowsIn (fun bl => base ≤ bl) w v xss := by
  obtain ⟨vs, h1, h2⟩ := h
  exact ⟨vs, slice_of_owns h1 (fun _ h _ => h), by have := h1.1; simpa using this, fun k u x hu hx => SliceIn.mono (h2 k u x hu hx) (fun _ _ h => h.1)⟩
/-- An error of *api.Fault: its place and the error that it holds. -/
def FaultAt (a : Nat → Addr) (w : World) (ve : Value) (i : Nat) (p : Int) : Prop :=
  ∃ q, ve = .iface 55 (.pointer (some ⟨q, 0, none⟩)) ∧ w.cell? ⟨q, 0, none⟩ = some (.int .i64 p) ∧ w.cell? ⟨q, 0 + 1, none⟩ = some (.iface 168 (.pointer (some (a i))))
theorem FaultAt.below {a : Nat → Addr} {w w' : World} {ve : Value} {i : Nat} {p : Int} (h : FaultAt a w ve i p) (hB : Below w.heap.size w w') : FaultAt a w' ve i p := by
  obtain ⟨q, h1, h2, h3⟩ := h
  exact ⟨q, h1, (hB.cell (p := ⟨q, 0, none⟩) (cell_lt h2)).trans h2, (hB.cell (p := ⟨q, 0 + 1, none⟩) (cell_lt h3)).trans h3⟩
/-- What comes of sets that were read. -/
def MadeOf (a : Nat → Addr) (l : List (List Int)) (w : World) (ve : Value) (L : List (List Int)) : Prop :=
  (¬ (∀ x ∈ l, SetOk x) ∧ FaultAt a w ve 3 0 ∧ L = []) ∨ ((∀ x ∈ l, SetOk x) ∧ Over (l.map srt) ∧ FaultAt a w ve 1 0 ∧ L = []) ∨ ((∀ x ∈ l, SetOk x) ∧ ¬ Over (l.map srt) ∧ ve = .nilIface ∧ IsFacets (l.map srt) L)
/-- What comes of a text. -/
def GotOf (a : Nat → Addr) (w : World) (ve : Value) (L : List (List Int)) : Got → Prop
  | .bad p => FaultAt a w ve 0 p ∧ L = []
  | .sets l => MadeOf a l w ve L
/-- What Read answers. -/
def ReadSays (a : Nat → Addr) (b : List UInt8) (w : World) (e : Ending) (w' : World) : Prop :=
  Below w.heap.size w w' ∧ ∃ v L ve, e = .returned (.tuple #[.agg #[v], ve]) ∧ RowsIn (fun bl => w.heap.size ≤ bl) w' v L ∧
    ((blanks b = b.length ∧ ve = .nilIface ∧ L = []) ∨ (blanks b ≠ b.length ∧ GotOf a w' ve L (rd (b.length + 1) [] 0 b)))

end Go.Proofs.YtklagnmkfbjagaaGreatDoor
