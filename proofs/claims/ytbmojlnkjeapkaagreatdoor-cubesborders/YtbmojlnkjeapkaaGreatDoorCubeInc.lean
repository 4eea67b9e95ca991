/- What the reference's incidence answers: how a cell lies in a greater one. -/
import Derived.Test.YtbmojlnkjeapkaaGreatDoorCubeEnds
import Derived.Test.YtbmojlnkjeapkaaGreatDoorCubeBad
import Derived.Deep.DeepCutAuto
namespace Go.Proofs.YtbmojlnkjeapkaaGreatDoor
open Go.RowKit Go.Sort

def Midst (a : Sq) : Prop := (-1000 ≤ a.1 ∧ a.1 ≤ 1000) ∧ (-1000 ≤ a.2 ∧ a.2 ≤ 1000)

theorem sq_bound {x : Int} (h : -2000 ≤ x ∧ x ≤ 2000) : 0 ≤ x * x ∧ x * x ≤ 4000000 := by
  have e := sq_nat0 x
  have h1 : x.natAbs ≤ 2000 := by omega
  have h2 := Nat.mul_le_mul h1 h1
  rw [e]
  omega

set_option maxRecDepth 100000 in
theorem incidence_ (a b : Sq) (d : Int) (ha : Midst a) (hb : Midst b) (w : World) :
    Calls Tryz.prog 33 #[cornerV a, cornerV b, .int .i64 d] w fun e w' => e = .returned (.int .i64 (incI a b d)) ∧ Below w.heap.size w w' := by
  obtain ⟨ax, ay⟩ := a
  obtain ⟨bx, by_⟩ := b
  unfold Midst at ha hb
  simp only at ha hb
  have h1 := two_cells w (.int .i64 ax) (.int .i64 ay) 73
  have h2 := two_cells (w.alloc (.cells #[.int .i64 ax, .int .i64 ay] 73)) (.int .i64 bx) (.int .i64 by_) 73
  have hB : Below w.heap.size w ((w.alloc (.cells #[.int .i64 ax, .int .i64 ay] 73)).alloc (.cells #[.int .i64 bx, .int .i64 by_] 73)) := ((Below.refl _ w).alloc (Nat.le_refl _) _).alloc (by simp) _
  have s1 := sq_bound (x := ax - bx) (by omega)
  have s2 := sq_bound (x := ay - by_) (by omega)
  unfold cornerV
  go_enter Tryz.func33, Tryz.ntmps33
  go_upto_region 3 with fail
  have HI : Hid (∀ d, incI (ax, ay) (bx, by_) d = if (ax - bx) * (ax - bx) + (ay - by_) * (ay - by_) ≠ 1 then 0 else if d = 1 then (ax - bx) + (ay - by_) else (ax - bx) - (ay - by_)) := fun d => rfl
  have hdx : -2000 ≤ ax - bx ∧ ax - bx ≤ 2000 := by omega
  have hdy : -2000 ≤ ay - by_ ∧ ay - by_ ≤ 2000 := by omega
  obtain ⟨dx, hx⟩ : ∃ dx, ax - bx = dx := ⟨_, rfl⟩
  obtain ⟨dy, hy⟩ : ∃ dy, ay - by_ = dy := ⟨_, rfl⟩
  rw [hx] at HI s1 hdx
  rw [hy] at HI s2 hdy
  rw [hx, hy]
  clear hx hy h1 h2 ha hb
  obtain ⟨X, hX⟩ : ∃ X, dx * dx = X := ⟨_, rfl⟩
  obtain ⟨Y, hY⟩ : ∃ Y, dy * dy = Y := ⟨_, rfl⟩
  rw [hX] at HI s1
  rw [hY] at HI s2
  have e1 : IntKind.i64.wrap (dx * dx) = X := by rw [hX]; exact wrapI (by omega) (by omega)
  have e2 : IntKind.i64.wrap (dy * dy) = Y := by rw [hY]; exact wrapI (by omega) (by omega)
  clear hX hY
  by_cases h0 : X + Y = 1
  · by_cases hd : d = 1
    · have HE : Hid (incI (ax, ay) (bx, by_) d = dx + dy) := by show _ = _; rw [HI.out, if_neg (by simpa using h0), if_pos hd]
      go_wp2
      go_ret
      exact ⟨by rw [HE.out]; rfl, hB⟩
    · have HE : Hid (incI (ax, ay) (bx, by_) d = dx - dy) := by show _ = _; rw [HI.out, if_neg (by simpa using h0), if_neg hd]
      go_wp2
      go_ret
      exact ⟨by rw [HE.out]; rfl, hB⟩
  · have HE : Hid (incI (ax, ay) (bx, by_) d = 0) := by show _ = _; rw [HI.out, if_pos h0]
    go_wp2
    go_ret
    exact ⟨by rw [HE.out]; rfl, hB⟩

end Go.Proofs.YtbmojlnkjeapkaaGreatDoor
