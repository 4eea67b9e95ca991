/- The variables of the errors that a statement lists, in a world. -/
import Derived.Test.YtiblgnkjjbbmaaaDoorProg
import Derived.WalkKit
import Derived.LaidEql
import Derived.Stop.Asserts
import Derived.RowKitTokens
import Derived.Below
import Derived.BigQuiet
import Derived.Deep.QuietTactic
import Derived.Deep.RegionWith
namespace Go.Proofs.YtiblgnkjjbbmaaaDoor
open Go.RowKit Go.Extern.Stop Go.Stop Go.Extern

/-- The package-level variable of the k-th error. -/
def gl (k : Nat) : Nat := [0, 0, 3, 1].getD k 0
/-- The listed errors' variables in a world. -/
structure Errs (a : Nat → Addr) (_s : Nat → ByteArray) (w : World) : Prop where
  glob : ∀ k, k ∈ [1, 2, 3] → w.cell? ⟨gl k, 0, none⟩ = some (.iface 133 (.pointer (some (a k))))

theorem cell_lt {w : World} {p : Addr} {v : Value} (h : w.cell? p = some v) : p.block < w.heap.size := by
  rcases Nat.lt_or_ge p.block w.heap.size with h' | h'
  · exact h'
  · simp [World.cell?, Array.getElem?_eq_none h'] at h
theorem row_lt {w : World} {k : Nat} {o : Obj} (h : w.heap[k]? = some o) : k < w.heap.size := by
  rcases Nat.lt_or_ge k w.heap.size with h' | h'
  · exact h'
  · simp [Array.getElem?_eq_none h'] at h
theorem Errs.below {a : Nat → Addr} {s : Nat → ByteArray} {w w' : World} (h : Errs a s w) (hb : Below w.heap.size w w') : Errs a s w' where
  glob := fun k hk => by rw [hb.cell (cell_lt (h.glob k hk))]; exact h.glob k hk

end Go.Proofs.YtiblgnkjjbbmaaaDoor
