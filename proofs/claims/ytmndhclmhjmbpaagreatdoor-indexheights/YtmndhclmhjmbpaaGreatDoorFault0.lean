/- An error of *api.Fault in memory. -/
import Derived.Test.YtmndhclmhjmbpaaGreatDoorBase
namespace Go.Proofs.YtmndhclmhjmbpaaGreatDoor
open Go.RowKit Go.Sort

theorem fault_cells (W : World) (x y : Value) (t : TypeId) : (W.alloc (.cells #[x, y] t)).cell? ⟨W.heap.size, 0, none⟩ = some x ∧ (W.alloc (.cells #[x, y] t)).cell? ⟨W.heap.size, 0 + 1, none⟩ = some y := by
  constructor <;> simp
/-- An error of *api.Fault: its place and the error that it holds. -/
def FaultAt (a : Nat → Addr) (w : World) (ve : Value) (i : Nat) (p : Int) : Prop :=
  ∃ q, ve = .iface 93 (.pointer (some ⟨q, 0, none⟩)) ∧ w.cell? ⟨q, 0, none⟩ = some (.int .i64 p) ∧ w.cell? ⟨q, 0 + 1, none⟩ = some (.iface 233 (.pointer (some (a i))))
theorem FaultAt.below {a : Nat → Addr} {w w' : World} {ve : Value} {i : Nat} {p : Int} (h : FaultAt a w ve i p) (hB : Below w.heap.size w w') : FaultAt a w' ve i p := by
  obtain ⟨q, h1, h2, h3⟩ := h
  exact ⟨q, h1, (hB.cell (p := ⟨q, 0, none⟩) (cell_lt h2)).trans h2, (hB.cell (p := ⟨q, 0 + 1, none⟩) (cell_lt h3)).trans h3⟩

end Go.Proofs.YtmndhclmhjmbpaaGreatDoor
