/- What the statements' is answers of a complex and an error that are as they should be: true. -/
import Derived.Test.YtopopbhpclhinaaGreatDoorOpen
namespace Go.Proofs.YtopopbhpclhinaaGreatDoor
open Go.RowKit Go.Sort

set_option maxRecDepth 100000 in
theorem is_err {a : Nat → Addr} {s : Nat → ByteArray} (i : Nat) (hi : i < 8) (vw : Value) (w : World) (hE : Errs a s w) :
    Calls Tryz.prog 12 #[.agg #[.slice none 0 0], .iface 145 (.pointer (some (a i))), vw, .int .i64 ((i : Int) + 1)] w fun e w' => e = .returned (.bool true) ∧ Below w.heap.size w w' := by
  have hBa : Below w.heap.size w (w.alloc (.cells #[.slice none 0 0] 29)) := (Below.refl _ w).alloc (Nat.le_refl _) _
  have hco := coded_es (w.alloc (.cells #[.slice none 0 0] 29)) (hE.below hBa) i hi ((i : Int) + 1)
  rw [decide_eq_true rfl] at hco
  have hbox := (box_new w (.slice none 0 0) 29).1
  have hpos : (0 : Int) < (i : Int) + 1 := by omega
  go_enter Tryz.func12, Tryz.ntmps12
  go_wp2_with (go_at_call 32; refine hco.mono ?_; rintro e w2 ⟨rfl, hB2⟩; have hc2 : w2.cell? ⟨w.heap.size, 0, none⟩ = some (.slice none 0 0) := (hB2.cell (p := ⟨w.heap.size, 0, none⟩) (by simp)).trans hbox)
  go_ret
  exact ⟨rfl, hBa.trans (hB2.mono hBa.size)⟩

set_option maxRecDepth 100000 in
theorem is_ok (vc vw : Value) (xs : List (List Int)) (w : World) (hc : Rows w vc xs) (hw : Rows w vw xs) (hl : xs.length ≤ 1000000) (hm : ∀ x ∈ xs, x.length ≤ 1000000) :
    Calls Tryz.prog 12 #[.agg #[vc], .nilIface, vw, .int .i64 0] w fun e w' => e = .returned (.bool true) ∧ Below w.heap.size w w' := by
  obtain ⟨ac, cc, rfl, -, -⟩ := hc.open_
  have hBa : Below w.heap.size w (w.alloc (.cells #[.slice ac xs.length cc] 29)) := (Below.refl _ w).alloc (Nat.le_refl _) _
  have hsl := same_lists _ vw xs xs (w.alloc (.cells #[.slice ac xs.length cc] 29)) (hc.below hBa) (hw.below hBa) hl hm
  rw [decide_eq_true rfl] at hsl
  have hbox := (box_new w (.slice ac xs.length cc) 29).1
  clear hc hw
  go_enter Tryz.func12, Tryz.ntmps12
  go_wp2_with (go_at_call 19; refine hsl.mono ?_; rintro e w2 ⟨rfl, q, rfl⟩)
  go_ret
  exact ⟨rfl, hBa.trans ⟨rfl, rfl, rfl, Nat.le_refl _, fun _ _ => rfl⟩⟩

end Go.Proofs.YtopopbhpclhinaaGreatDoor
