/- The closed fact ahead of each of the three statements: the smallest triangle. What law4.faulted answers of an error. -/
import Derived.Test.YtbohobelbgbibaaDoorLpFull
import Derived.Test.YtbohobelbgbibaaDoorFault0
import Derived.Test.YtbohobelbgbibaaDoorCode
namespace Go.Proofs.YtbohobelbgbibaaDoor
open Go.RowKit Go.Sort
attribute [local go_sem] tri_equal

theorem tries_one : triesL 1 = [(0, 1, 2)] := by decide

set_option maxRecDepth 100000 in
theorem corner_ (w : World) :
    Calls Tryd.prog 6 #[] w fun e w' => e = .returned (.bool true) ∧ Below w.heap.size w w' := by
  have hs := smallX_ok 1 (by omega) (by omega) w
  rw [tries_one] at hs
  go_enter Tryd.func6, Tryd.ntmps6
  go_wp2_with (first
    | (go_at_call 8; refine hs.mono ?_; rintro e W1 ⟨v, rfl, hr, hb⟩; have HB := Hid.mk' hb; obtain ⟨a, cap, hv, hx⟩ := hr.reads; subst hv; obtain ⟨g, rfl, hc⟩ := hx (by simp); obtain ⟨d0, d1, d2⟩ := hc 0 (0, 1, 2) rfl; clear hr hb hs hx hc)
    | fail)
  go_ret
  exact ⟨rfl, HB.out⟩

end Go.Proofs.YtbohobelbgbibaaDoor

namespace Go.Proofs.YtbohobelbgbibaaDoor
open Go.RowKit Go.Sort

set_option maxRecDepth 100000 in
theorem faulted_at {a : Nat → Addr} {t : Nat → ByteArray} {ve : Value} {i : Nat} {p : Int} (w : World) (hE : Errs a t w) (h : FaultAt a w ve i p) (hi : i < 8) :
    Calls Tryd.prog 16 #[ve, .agg #[.int .i64 ((i : Int) + 1), .int .i64 p]] w fun e w' => e = .returned (.bool true) ∧ Below w.heap.size w w' := by
  obtain ⟨q, rfl, h0, h1⟩ := h
  have hBa : Below w.heap.size w (w.alloc (.cells #[.int .i64 ((i : Int) + 1), .int .i64 p] 38)) := (Below.refl _ w).alloc (Nat.le_refl _) _
  have hb := fault_cells w (.int .i64 ((i : Int) + 1)) (.int .i64 p) 38
  have hco := code_fault (w.alloc (.cells #[.int .i64 ((i : Int) + 1), .int .i64 p] 38)) (hE.below hBa) q i hi p ((hBa.cell (p := ⟨q, 0, none⟩) (cell_lt h0)).trans h0) ((hBa.cell (p := ⟨q, 0 + 1, none⟩) (cell_lt h1)).trans h1)
  clear h0 h1 hE
  go_enter Tryd.func16, Tryd.ntmps16
  go_wp2_with fail
  refine hco.mono ?_
  clear hco
  rintro e w2 ⟨rfl, hB2⟩
  have c0 := (hB2.cell (p := ⟨w.heap.size, 0, none⟩) (by simp)).trans hb.1
  have c1 : w2.cell? ⟨w.heap.size, 1, none⟩ = some (.int .i64 p) := (hB2.cell (p := ⟨w.heap.size, 0 + 1, none⟩) (by simp)).trans hb.2
  have hn : (((i : Int) + 1) == 0) = false := beq_false_of_ne (by omega)
  have HB2 : Hid (Below w.heap.size w w2) := hBa.trans (hB2.mono (by simp))
  clear hB2 hb
  go_wp2
  go_ret
  exact ⟨rfl, HB2.out⟩
set_option maxRecDepth 100000 in
theorem faulted_nil (p : Int) (w : World) :
    Calls Tryd.prog 16 #[.nilIface, .agg #[.int .i64 0, .int .i64 p]] w fun e w' => e = .returned (.bool true) ∧ Below w.heap.size w w' := by
  have hBa : Below w.heap.size w (w.alloc (.cells #[.int .i64 0, .int .i64 p] 38)) := (Below.refl _ w).alloc (Nat.le_refl _) _
  have hb := (fault_cells w (.int .i64 0) (.int .i64 p) 38).1
  have hco := code_nil (w.alloc (.cells #[.int .i64 0, .int .i64 p] 38))
  go_enter Tryd.func16, Tryd.ntmps16
  go_wp2_with fail
  refine hco.mono ?_
  clear hco
  rintro e w2 ⟨rfl, rfl⟩
  go_wp2
  go_ret
  exact ⟨rfl, hBa⟩

end Go.Proofs.YtbohobelbgbibaaDoor
