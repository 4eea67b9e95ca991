/- Words of which there are not too many. -/
import Derived.Test.YthcgabghkbgccaaDoorGrpCosets
namespace Go.Proofs.YthcgabghkbgccaaDoor
open Go.RowKit Go.Sort

/-- Words of which there are at most a thousand, with as many letters. -/
structure ThouAt (w : World) (v : Value) (wss : List (List Int)) : Prop where
  rows : Rows w v wss
  few : wss.length ≤ 1000
  short : wss.flatten.length ≤ 1000
theorem ThouAt.below {w w' : World} {v : Value} {wss : List (List Int)} (h : ThouAt w v wss) (hB : Below w.heap.size w w') : ThouAt w' v wss := ⟨h.rows.below hB, h.few, h.short⟩
theorem FewAt.thou {w : World} {v : Value} {wss : List (List Int)} (h : FewAt w v wss) : ThouAt w v wss := ⟨h.rows, by have := h.few; omega, by have := h.short; omega⟩

end Go.Proofs.YthcgabghkbgccaaDoor
