/- An error's value and number, and what the statements' helpers answer of them. -/
import Derived.Test.YtopopbhpclhinaaGreatDoorPartsBase
import Derived.Test.YtopopbhpclhinaaGreatDoorIs
namespace Go.Proofs.YtopopbhpclhinaaGreatDoor
open Go.RowKit Go.Sort Go.Maps Go.Deep

/-- What ComplexError answers, with the error's value. -/
theorem error_k2 (CL : ClosedHolds) (a : Nat → Addr) (vl : Value) (l : List (List Int)) (w : World) (hl : Rows w vl l) (hll : l.length ≤ 100000) (hle : ∀ x ∈ l, x.length ≤ 1000) :
    Calls Tryz.prog 6 #[vl] w fun e w' => Below w.heap.size w w' ∧ ∃ ve n all, Kind a l ve n all ∧ e = .returned (.int .i64 n) ∧ (((n == 0) = false ∧ 0 < n ∧ all = [] ∧ ∃ i : Nat, BadAt l i ∧ ve = .iface 145 (.pointer (some (a i))) ∧ n = (i : Int) + 1) ∨ (n = 0 ∧ Good l all)) := by
  refine (error_g CL vl l w hl hll hle).mono ?_
  rintro e w' ⟨hB, ⟨i, hb, rfl⟩ | ⟨all, g, rfl⟩⟩
  · exact ⟨hB, _, _, [], .inl ⟨i, hb, rfl, rfl, rfl⟩, rfl, .inl ⟨beq_false_of_ne (by omega), by omega, rfl, i, hb, rfl, rfl⟩⟩
  · exact ⟨hB, _, _, all, .inr ⟨g, rfl, rfl⟩, rfl, .inr ⟨rfl, g⟩⟩

/-- The number tells no error. -/
def IsZero (n : Int) : Prop := n = 0
/-- An error's value and number. -/
def SState (a : Nat → Addr) (ve : Value) (n : Int) : Prop := (∃ i : Nat, i < 8 ∧ ve = .iface 145 (.pointer (some (a i))) ∧ n = (i : Int) + 1) ∨ (ve = .nilIface ∧ n = 0)

/-- is answers true of an answer that is as wanted. -/
theorem is_k {a : Nat → Addr} {s : Nat → ByteArray} {ve vc vw : Value} {n : Int} (st : SState a ve n) {g L : List (List Int)} (w : World)
    (hv : ¬ IsZero n → vc = .slice none 0 0) (hc : Rows w vc L) (hL : IsZero n → IsFacets g L) (hw : IsZero n → ∃ L', Rows w vw L' ∧ IsFacets g L' ∧ L'.length ≤ 1000000 ∧ ∀ x ∈ L', x.length ≤ 1000000) (hE : Errs a s w) :
    Calls Tryz.prog 12 #[.agg #[vc], ve, vw, .int .i64 n] w fun e w' => e = .returned (.bool true) ∧ Below w.heap.size w w' := by
  rcases st with ⟨i, hi, rfl, rfl⟩ | ⟨rfl, rfl⟩
  · rw [hv (by unfold IsZero; omega)]
    exact is_err i hi vw w hE
  · obtain ⟨L', h1, h2, h3⟩ := hw rfl
    have e := facets_one (fun _ => Iff.rfl) (hL rfl) h2
    subst e
    exact is_ok vc vw L w hc h1 h3.1 h3.2

/-- An error's number is handed on. -/
theorem made_err (vl : Value) (n : Int) (w : World) (hn : 0 < n) : Calls Tryz.prog 10 #[vl, .int .i64 n] w fun e w' => e = .returned (.tuple #[.slice none 0 0, .int .i64 n]) ∧ w' = w := by
  go_enter Tryz.func10, Tryz.ntmps10
  go_wp2
  go_ret2
  exact ⟨rfl, rfl⟩

end Go.Proofs.YtopopbhpclhinaaGreatDoor
