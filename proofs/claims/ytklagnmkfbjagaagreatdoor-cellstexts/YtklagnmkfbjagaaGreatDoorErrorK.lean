/- What faulted answers of an error and of what is wanted. What coded answers of sets, with an error or none. What ComplexError answers, with the error's value. -/
import Derived.Test.YtklagnmkfbjagaaGreatDoorReadMath
import Derived.Test.YtklagnmkfbjagaaGreatDoorKind0
namespace Go.Proofs.YtklagnmkfbjagaaGreatDoor
open Go.RowKit Go.Sort Go.Maps Go.Deep

set_option maxRecDepth 100000 in
theorem faulted_at {a : Nat → Addr} {t : Nat → ByteArray} {ve : Value} {i : Nat} {p : Int} (w : World) (hE : Errs a t w) (h : FaultAt a w ve i p) (hi : i < 8) :
    Calls Tryz.prog 14 #[ve, .agg #[.int .i64 ((i : Int) + 1), .int .i64 p]] w fun e w' => e = .returned (.bool true) ∧ Below w.heap.size w w' := by
  obtain ⟨q, rfl, h0, h1⟩ := h
  have hBa : Below w.heap.size w (w.alloc (.cells #[.int .i64 ((i : Int) + 1), .int .i64 p] 38)) := (Below.refl _ w).alloc (Nat.le_refl _) _
  have hb := fault_cells w (.int .i64 ((i : Int) + 1)) (.int .i64 p) 38
  have hco := code_fault (w.alloc (.cells #[.int .i64 ((i : Int) + 1), .int .i64 p] 38)) (hE.below hBa) q i hi p ((hBa.cell (p := ⟨q, 0, none⟩) (cell_lt h0)).trans h0) ((hBa.cell (p := ⟨q, 0 + 1, none⟩) (cell_lt h1)).trans h1)
  clear h0 h1 hE
  go_enter Tryz.func14, Tryz.ntmps14
  go_wp2_with fail
  refine hco.mono ?_
  clear hco
  rintro e w2 ⟨rfl, hB2⟩
  have c0 := (hB2.cell (p := ⟨w.heap.size, 0, none⟩) (by simp)).trans hb.1
  have c1 : w2.cell? ⟨w.heap.size, 1, none⟩ = some (.int .i64 p) := (hB2.cell (p := ⟨w.heap.size, 0 + 1, none⟩) (by simp)).trans hb.2
  have hn : (((i : Int) + 1) == 0) = false := beq_false_of_ne (by omega)
  have HB2 : Hid (Below w.heap.size w w2) := hBa.trans (hB2.mono (by simp))
  clear hB2 hb
  go_wp2
  go_ret
  exact ⟨rfl, HB2.out⟩
set_option maxRecDepth 100000 in
theorem faulted_nil (p : Int) (w : World) :
    Calls Tryz.prog 14 #[.nilIface, .agg #[.int .i64 0, .int .i64 p]] w fun e w' => e = .returned (.bool true) ∧ Below w.heap.size w w' := by
  have hBa : Below w.heap.size w (w.alloc (.cells #[.int .i64 0, .int .i64 p] 38)) := (Below.refl _ w).alloc (Nat.le_refl _) _
  have hb := (fault_cells w (.int .i64 0) (.int .i64 p) 38).1
  have hco := code_nil (w.alloc (.cells #[.int .i64 0, .int .i64 p] 38))
  go_enter Tryz.func14, Tryz.ntmps14
  go_wp2_with fail
  refine hco.mono ?_
  clear hco
  rintro e w2 ⟨rfl, rfl⟩
  go_wp2
  go_ret
  exact ⟨rfl, hBa⟩

end Go.Proofs.YtklagnmkfbjagaaGreatDoor

namespace Go.Proofs.YtklagnmkfbjagaaGreatDoor
open Go.RowKit Go.Sort Go.Maps Go.Deep

theorem coded_k {a : Nat → Addr} {s : Nat → ByteArray} {l all : List (List Int)} {ve : Value} {n : Int} (h : Kind a l ve n all) (w : World) (hE : Errs a s w) :
    Calls Tryz.prog 10 #[ve, .int .i64 n] w fun e w' => e = .returned (.bool true) ∧ Below w.heap.size w w' := by
  rcases h with ⟨i, hb, rfl, rfl, rfl⟩ | ⟨g, rfl, rfl⟩
  · refine (coded_es w hE i hb.lt ((i : Int) + 1)).mono ?_
    rintro e w' ⟨rfl, hB⟩
    exact ⟨by rw [decide_eq_true rfl], hB⟩
  · refine (coded_nil 0 w).mono ?_
    rintro e w' ⟨rfl, rfl⟩
    exact ⟨rfl, Below.refl _ _⟩

end Go.Proofs.YtklagnmkfbjagaaGreatDoor

namespace Go.Proofs.YtklagnmkfbjagaaGreatDoor
open Go.RowKit Go.Sort Go.Maps Go.Deep

/-- What ComplexError answers, with the error's value. -/
theorem error_k2 (CL : ClosedHolds) (a : Nat → Addr) (vl : Value) (l : List (List Int)) (w : World) (hl : Rows w vl l) (hll : l.length ≤ 100000) (hle : ∀ x ∈ l, x.length ≤ 1000) :
    Calls Tryz.prog 6 #[vl] w fun e w' => Below w.heap.size w w' ∧ ∃ ve n all, Kind a l ve n all ∧ e = .returned (.int .i64 n) ∧ (((n == 0) = false ∧ 0 < n ∧ all = [] ∧ ∃ i : Nat, BadAt l i ∧ ve = .iface 168 (.pointer (some (a i))) ∧ n = (i : Int) + 1) ∨ (n = 0 ∧ Good l all)) := by
  refine (error_g CL vl l w hl hll hle).mono ?_
  rintro e w' ⟨hB, ⟨i, hb, rfl⟩ | ⟨all, g, rfl⟩⟩
  · exact ⟨hB, _, _, [], .inl ⟨i, hb, rfl, rfl, rfl⟩, rfl, .inl ⟨beq_false_of_ne (by omega), by omega, rfl, i, hb, rfl, rfl⟩⟩
  · exact ⟨hB, _, _, all, .inr ⟨g, rfl, rfl⟩, rfl, .inr ⟨rfl, g⟩⟩

end Go.Proofs.YtklagnmkfbjagaaGreatDoor
