/- What the reference's Dim answers of a cell; nothing that was there is written. -/
import Derived.Test.YtjaoiaajplgboaaDoorCubeErr
namespace Go.Proofs.YtjaoiaajplgboaaDoor
open Go.RowKit Go.Sort

set_option maxRecDepth 100000 in
theorem dim_ (X Y : Nat) (hX : X ≤ 100000) (hY : Y ≤ 100000) (w : World) :
    Calls Tryd.prog 21 #[cornerV ((X : Int), (Y : Int))] w fun e w' => e = .returned (.int .i64 ((X % 2 + Y % 2 : Nat) : Int)) ∧ Below w.heap.size w w' := by
  have hBa : Below w.heap.size w (w.alloc (.cells #[.int .i64 (X : Int), .int .i64 (Y : Int)] 51)) := (Below.refl _ w).alloc (Nat.le_refl _) _
  obtain ⟨i, hi⟩ : ∃ i, X % 2 = i := ⟨_, rfl⟩
  obtain ⟨j, hj⟩ : ∃ j, Y % 2 = j := ⟨_, rfl⟩
  have hi2 : i ≤ 1 := by omega
  have hj2 : j ≤ 1 := by omega
  have h1 : (X : Int).tmod 2 = (i : Int) := by rw [Int.tmod_eq_emod_of_nonneg (by omega)]; omega
  have h2 : (Y : Int).tmod 2 = (j : Int) := by rw [Int.tmod_eq_emod_of_nonneg (by omega)]; omega
  have h3 : IntKind.i64.wrap ((i : Int) + (j : Int)) = (i : Int) + (j : Int) := wrapI (by omega) (by omega)
  have h4 : IntKind.i64.wrap (i : Int) = (i : Int) := wrapI (by omega) (by omega)
  have h5 : IntKind.i64.wrap (j : Int) = (j : Int) := wrapI (by omega) (by omega)
  have e : ((i + j : Nat) : Int) = (i : Int) + (j : Int) := by omega
  rw [hi, hj, e]
  clear hi hj e
  unfold cornerV
  go_enter Tryd.func21, Tryd.ntmps21
  go_wp2
  go_ret
  exact ⟨rfl, hBa⟩

end Go.Proofs.YtjaoiaajplgboaaDoor
