/- A region that draws its order, whose operations read and whose callees lay memory of their own: walked once, in the order of the text, in the class of the worlds that keep what was there. -/
import Derived.Test.YtjaoiaajplgboaaDoorBase
import Derived.BigQuiet
import Derived.Deep.QuietTactic
namespace Go.Proofs.YtjaoiaajplgboaaDoor
open Go.RowKit

/-- A world that keeps what was there. -/
structure WIn (W : World) where
  w : World
  ok : Below W.heap.size W w

instance (W : World) : Nonempty (WIn W) := ⟨⟨W, Below.refl _ W⟩⟩

theorem region_in {P : Program} {id : Nat} {Q : Exit → Act → World → Prop} {a : Act} {w : World} {l : List Oper} (hm : P.follows .mixedOrders = true) (hB : Region.lexB .any l.toArray = true)
    (h : wpQuiet P l.toArray (fun w' => ∃ n : WIn w, w' = n.w) (fun a' => ∀ w', (∃ n : WIn w, w' = n.w) → Q .normal a' w') l a) : (Code.region id l.toArray true).wp P Q a w :=
  wp_region_quiet (C := fun w' => ∃ n : WIn w, w' = n.w) hm hB ⟨⟨w.drew, (Below.refl _ w).drew⟩, rfl⟩ (by simpa using h)

/-- A callee's contract as such a region asks for it. -/
theorem call_in {P : Program} {f : FuncId} {args : Array Value} {W : World} {v : Value} (n : WIn W) (h : Calls P f args n.w fun e w' => e = .returned v ∧ Below n.w.heap.size n.w w') : Calls P f args n.w fun e w'' => e = .returned v ∧ ∃ k : WIn W, w'' = k.w :=
  h.mono fun _ V k => ⟨k.1, ⟨V, n.ok.trans (k.2.mono n.ok.size)⟩, rfl⟩

end Go.Proofs.YtjaoiaajplgboaaDoor
