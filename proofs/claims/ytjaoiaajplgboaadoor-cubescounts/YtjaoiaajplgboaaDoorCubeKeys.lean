/- Corners and edges as keys of maps. -/
import Derived.Test.YtjaoiaajplgboaaDoorCubeErr
import Derived.DeepKeys4
import Derived.Maps.OwnSet
namespace Go.Proofs.YtjaoiaajplgboaaDoor
open Go.RowKit Go.Sort Go.Maps

theorem laid_out : laidOutB Tryd.prog = true := by kernel_rfl
theorem row_corner : (65 : TypeId) < Tryd.prog.types.size := of_decide_eq_true (by kernel_rfl)
theorem wide_corner : (match Tryd.prog.underlying 65 with | some (.array _ _) | some (.struct _) => true | _ => false) = true := by kernel_rfl
set_option maxRecDepth 100000 in
theorem law_corner : Keyed Tryd.prog 65 := Keyed.of_law (deep_law_laid laid_out (m := 2) (by omega) row_corner (by kernel_rfl) wide_corner)
theorem row_edge : (93 : TypeId) < Tryd.prog.types.size := of_decide_eq_true (by kernel_rfl)
theorem wide_edge : (match Tryd.prog.underlying 93 with | some (.array _ _) | some (.struct _) => true | _ => false) = true := by kernel_rfl
set_option maxRecDepth 100000 in
theorem law_edge : Keyed Tryd.prog 93 := Keyed.of_law (deep_law_laid laid_out (m := 3) (by omega) row_edge (by kernel_rfl) wide_edge)

theorem wfI {x : Int} (h0 : -10000000 ≤ x) (h1 : x ≤ 10000000) : (Lit.int .i64 x).wf = true := by
  have e1 : IntKind.min .i64 = -9223372036854775808 := rfl
  have e2 : IntKind.max .i64 = 9223372036854775807 := rfl
  simp only [Lit.wf, e1, e2, Bool.and_eq_true, decide_eq_true_eq]
  omega

theorem cells_corner : Tryd.prog.cellsOf 65 = 2 := by kernel_rfl
theorem cells_edge : Tryd.prog.cellsOf 93 = 4 := by kernel_rfl
theorem cells_int : Tryd.prog.cellsOf 3 = 1 := by kernel_rfl
set_option maxRecDepth 100000 in
theorem key_corner : Tryd.prog.keyType 65 = true := by kernel_rfl
set_option maxRecDepth 100000 in
theorem key_edge : Tryd.prog.keyType 93 = true := by kernel_rfl
theorem types_many : Tryd.prog.types.size = (Tryd.prog.types.size - 2) + 1 + 1 := by have : 2 < Tryd.prog.types.size := of_decide_eq_true (by kernel_rfl); omega

theorem lits_corner {x y : Int} (hx : (Lit.int .i64 x).wf = true) (hy : (Lit.int .i64 y).wf = true) (d : Nat) : Tryd.prog.keyLits (d + 1 + 1) 65 [.int .i64 x, .int .i64 y] = some [.int .i64 x, .int .i64 y] := by
  unfold Program.keyLits
  simp only [Tryd.underlying65]
  rw [if_pos ⟨by rw [cells_corner]; rfl, by simp⟩]
  simp [Program.keyLits, Tryd.underlying3, cells_int, hx, hy]

theorem corner_key {x y : Int} (hx : (Lit.int .i64 x).wf = true) (hy : (Lit.int .i64 y).wf = true) : keyOf Tryd.prog 65 (.agg #[.int .i64 x, .int .i64 y]) = some (.string (keyBytes [.int .i64 x, .int .i64 y])) := by
  unfold keyOf
  simp only [Tryd.underlying65]
  rw [if_pos (by simp [Value.formed, Tryd.underlying65, cells_corner, key_corner]), types_many]
  simp only [Value.cells]
  rw [lits_corner hx hy]
  rfl

theorem edge_key {x y u v : Int} (hx : (Lit.int .i64 x).wf = true) (hy : (Lit.int .i64 y).wf = true) (hu : (Lit.int .i64 u).wf = true) (hv : (Lit.int .i64 v).wf = true) : keyOf Tryd.prog 93 (.agg #[.int .i64 x, .int .i64 y, .int .i64 u, .int .i64 v]) = some (.string (keyBytes [.int .i64 x, .int .i64 y, .int .i64 u, .int .i64 v])) := by
  unfold keyOf
  simp only [Tryd.underlying93]
  rw [if_pos (by simp [Value.formed, Tryd.underlying93, cells_edge, key_edge]), types_many]
  simp only [Value.cells]
  unfold Program.keyLits
  simp only [Tryd.underlying93]
  rw [if_pos ⟨by rw [cells_edge]; rfl, by simp⟩]
  simp [cells_corner, lits_corner, hx, hy, hu, hv]

/-- A corner's key, an edge's key; unlike ones are of unlike keys. -/
def keyC (a : Sq) : Lit := .string (keyBytes [.int .i64 a.1, .int .i64 a.2])
def keyE (a b : Sq) : Lit := .string (keyBytes [.int .i64 a.1, .int .i64 a.2, .int .i64 b.1, .int .i64 b.2])

/-- A square or corner with small numbers. -/
def Small (a : Sq) : Prop := (-1000000 ≤ a.1 ∧ a.1 ≤ 1000000) ∧ (-1000000 ≤ a.2 ∧ a.2 ≤ 1000000)

theorem Small.key {a : Sq} (h : Small a) : keyOf Tryd.prog 65 (cornerV a) = some (keyC a) := by
  unfold Small at h
  exact corner_key (wfI (by omega) (by omega)) (wfI (by omega) (by omega))

theorem keyC_inj {a b : Sq} (ha : Small a) (hb : Small b) (h : keyC a = keyC b) : a = b := by
  have e : cornerV a = cornerV b := law_corner.inj ha.key (by rw [h]; exact hb.key)
  unfold cornerV at e
  simp at e
  exact Prod.ext e.1 e.2

end Go.Proofs.YtjaoiaajplgboaaDoor
