/- What the reference's touched answers: whether a look beside a cell finds a full square. -/
import Derived.Test.YtjaoiaajplgboaaDoorCubeRefFull
import Derived.Test.YtjaoiaajplgboaaDoorCubeErr
namespace Go.Proofs.YtjaoiaajplgboaaDoor
open Go.RowKit Go.Sort

/-- Of the looks ahead of this one none has found any. -/
def NoneTo (f : Int → Int → Bool) (X Y : Int) (dy dx : Int) : Prop := ∀ u v : Int, -1 ≤ u → u ≤ 1 → -1 ≤ v → (v < dy ∨ v = dy ∧ u < dx) → ¬ Hit f X Y u v

theorem none_next {f : Int → Int → Bool} {X Y dy dx : Int} (h : NoneTo f X Y dy dx) (hn : ¬ Hit f X Y dx dy) : NoneTo f X Y dy (dx + 1) := by
  intro u v h1 h2 h3 h4
  by_cases e : v = dy ∧ u = dx
  · obtain ⟨rfl, rfl⟩ := e; exact hn
  · exact h u v h1 h2 h3 (by omega)

/-- What touched answers. -/
def TouchedSays (f : Int → Int → Bool) (X Y : Int) (w : World) (e : Ending) (w' : World) : Prop := ∃ q : Bool, e = .returned (.bool q) ∧ (q = true ↔ HitAny f X Y) ∧ Below w.heap.size w w'

set_option maxRecDepth 100000 in
set_option maxHeartbeats 4000000 in
theorem touched_ (vm : Value) (m : List (List UInt8)) (w : World) (hm : Strs w vm m) (hi : Img m) (X Y : Nat) (hX : X ≤ 10000) (hY : Y ≤ 10000) :
    Calls Tryd.prog 22 #[vm, cornerV ((X : Int), (Y : Int))] w fun e w' => TouchedSays (fullAt m (wide m) m.length) X Y w e w' := by
  obtain ⟨a, ca, rfl, -, -⟩ := hm.open_
  have HM : Hid (Strs w (.slice a m.length ca) m) := hm
  have HI : Hid (Img m) := hi
  have hBa : Below w.heap.size w (w.alloc (.cells #[.int .i64 (X : Int), .int .i64 (Y : Int)] 51)) := (Below.refl _ w).alloc (Nat.le_refl _) _
  have h2 := two_cells w (.int .i64 (X : Int)) (.int .i64 (Y : Int)) 51
  clear hm hi
  unfold cornerV
  go_enter Tryd.func22, Tryd.ntmps22
  go_wp2
  obtain ⟨w1, hw1⟩ : ∃ w1, w.alloc (.cells #[.int .i64 (X : Int), .int .i64 (Y : Int)] 51) = w1 := ⟨_, rfl⟩
  rw [hw1] at h2 hBa
  rw [hw1]
  clear hw1
  go_loopw [5] (fun p W => ∃ dy : Int, -1 ≤ dy ∧ dy ≤ 2 ∧ p = .int .i64 dy ∧ Hid (NoneTo (fullAt m (wide m) m.length) X Y dy (-1)) ∧ Hid (Drawn w1 W)) (fun p _ => (2 - intOf p).toNat)
  case atStart => exact ⟨-1, by omega, by omega, rfl, fun u v h1 h2 h3 h4 => by omega, Drawn.refl _⟩
  case round =>
    obtain ⟨dy, hd1, hd2, rfl, HN, HD⟩ := hrel
    by_cases hdy : dy ≤ 1
    · go_wp2
      go_loopw [6] (fun p W => ∃ dx : Int, -1 ≤ dx ∧ dx ≤ 2 ∧ p = .int .i64 dx ∧ Hid (NoneTo (fullAt m (wide m) m.length) X Y dy dx) ∧ Hid (Drawn w1 W)) (fun p _ => (2 - intOf p).toNat)
      case atStart => exact ⟨-1, by omega, by omega, rfl, HN.out, HD.out⟩
      case round =>
        obtain ⟨dx, he1, he2, rfl, HNx, HDx⟩ := hrel
        have c0 := (HDx.out.cell ⟨w.heap.size, 0, none⟩).trans h2.1
        have c1 := (HDx.out.cell ⟨w.heap.size, 1, none⟩).trans h2.2
        by_cases hdx : dx ≤ 1
        · have ex : ((X : Int) + dx + 2).tmod 2 = ((X : Int) + dx + 2) % 2 := Int.tmod_eq_emod_of_nonneg (by omega)
          have ey : ((Y : Int) + dy + 2).tmod 2 = ((Y : Int) + dy + 2) % 2 := Int.tmod_eq_emod_of_nonneg (by omega)
          have sx : (X : Int).tmod 2 = (X : Int) % 2 := Int.tmod_eq_emod_of_nonneg (by omega)
          have sy : (Y : Int).tmod 2 = (Y : Int) % 2 := Int.tmod_eq_emod_of_nonneg (by omega)
          by_cases hH : (((X : Int) + dx + 2) % 2 = 1 ∧ ((Y : Int) + dy + 2) % 2 = 1 ∧ (dx = 0 ∨ (X : Int) % 2 = 0) ∧ (dy = 0 ∨ (Y : Int) % 2 = 0)) ∧ 0 < (X : Int) + dx ∧ 0 < (Y : Int) + dy
          · obtain ⟨⟨a1, a2, a3, a4⟩, hp, hq⟩ := hH
            have hfull := ref_full (.slice a m.length ca) m wr (HM.out.below (hBa.trans (HDx.out.below.mono hBa.size))) HI.out (((X : Int) + dx - 1) / 2) (((Y : Int) + dy - 1) / 2) (by omega) (by omega)
            obtain ⟨q0, hq0⟩ : ∃ q0, fullAt m (wide m) m.length (((X : Int) + dx - 1) / 2) (((Y : Int) + dy - 1) / 2) = q0 := ⟨_, rfl⟩
            rw [hq0] at hfull
            have HHq : Hid (Hit (fullAt m (wide m) m.length) X Y dx dy ↔ q0 = true) := by
              show _ ↔ _
              rw [← hq0]
              exact ⟨fun h => h.2.2.2.2.2.2, fun h => ⟨a1, a2, a3, a4, hp, hq, h⟩⟩
            rw [a1] at ex
            rw [a2] at ey
            clear hq0
            have tx : (dx = 0 ∧ (X : Int) % 2 = 1) ∨ (¬ dx = 0 ∧ (X : Int) % 2 = 0) := by omega
            have ty : (dy = 0 ∧ (Y : Int) % 2 = 1) ∨ (¬ dy = 0 ∧ (Y : Int) % 2 = 0) := by omega
            clear a1 a2 a3 a4
            rcases tx with ⟨t1, t2⟩ | ⟨t1, t2⟩ <;> rcases ty with ⟨t3, t4⟩ | ⟨t3, t4⟩
            all_goals
              rw [t2] at sx
              rw [t4] at sy
              first | have t1b : (dx == 0) = true := beq_iff_eq.2 t1 | have t1b : (dx == 0) = false := beq_false_of_ne t1
              first | have t3b : (dy == 0) = true := beq_iff_eq.2 t3 | have t3b : (dy == 0) = false := beq_false_of_ne t3
              clear t1 t2 t3 t4
              cases q0
              · have HH : Hid (¬ Hit (fullAt m (wide m) m.length) X Y dx dy) := by show ¬ _; rw [HHq.out]; simp
                go_wp2_with (go_at_call 29; refine hfull.mono ?_; rintro e w' ⟨rfl, rfl⟩)
                go_roundw
                case rel => exact ⟨dx + 1, by omega, by omega, by go_num, none_next HNx.out HH.out, HDx.out⟩
                case measure => simp [intOf]; omega
              · have HT : Hid (HitAny (fullAt m (wide m) m.length) X Y) := ⟨dx, dy, by omega, by omega, by omega, by omega, HHq.out.2 rfl⟩
                go_wp2_with (go_at_call 29; refine hfull.mono ?_; rintro e w' ⟨rfl, rfl⟩)
                go_ret
                exact ⟨true, rfl, ⟨fun _ => HT.out, fun _ => rfl⟩, hBa.trans (HDx.out.below.mono hBa.size)⟩
          · have HH : Hid (¬ Hit (fullAt m (wide m) m.length) X Y dx dy) := fun h => hH ⟨⟨h.1, h.2.1, h.2.2.1, h.2.2.2.1⟩, h.2.2.2.2.1, h.2.2.2.2.2.1⟩
            by_cases t1 : dx = 0 <;> by_cases t3 : dy = 0 <;> rcases (show (X : Int) % 2 = 0 ∨ (X : Int) % 2 = 1 by omega) with t2 | t2 <;> rcases (show (Y : Int) % 2 = 0 ∨ (Y : Int) % 2 = 1 by omega) with t4 | t4
            all_goals
              first | (have a1 : ((X : Int) + dx + 2) % 2 = 1 := by omega) | (have a1 : ((X : Int) + dx + 2) % 2 = 0 := by omega)
              first | (have a2 : ((Y : Int) + dy + 2) % 2 = 1 := by omega) | (have a2 : ((Y : Int) + dy + 2) % 2 = 0 := by omega)
              rw [a1] at ex
              rw [a2] at ey
              rw [t2] at sx
              rw [t4] at sy
              first | have t1b : (dx == 0) = true := beq_iff_eq.2 t1 | have t1b : (dx == 0) = false := beq_false_of_ne t1
              first | have t3b : (dy == 0) = true := beq_iff_eq.2 t3 | have t3b : (dy == 0) = false := beq_false_of_ne t3
              by_cases hp : 0 < (X : Int) + dx
              · by_cases hq : 0 < (Y : Int) + dy
                · first
                  | (exfalso; clear ex ey sx sy t1b t3b; omega)
                  | (clear hH t1 t2 t3 t4 a1 a2
                     go_wp2
                     go_roundw
                     case rel => exact ⟨dx + 1, by omega, by omega, by go_num, none_next HNx.out HH.out, HDx.out⟩
                     case measure => simp [intOf]; omega)
                · have hqb : decide (0 < (Y : Int) + dy) = false := decide_eq_false hq
                  clear hH t1 t2 t3 t4 a1 a2
                  go_wp2
                  go_roundw
                  case rel => exact ⟨dx + 1, by omega, by omega, by go_num, none_next HNx.out HH.out, HDx.out⟩
                  case measure => simp [intOf]; omega
              · have hpb : decide (0 < (X : Int) + dx) = false := decide_eq_false hp
                clear hH t1 t2 t3 t4 a1 a2
                go_wp2
                go_roundw
                case rel => exact ⟨dx + 1, by omega, by omega, by go_num, none_next HNx.out HH.out, HDx.out⟩
                case measure => simp [intOf]; omega
        · obtain rfl : dx = 2 := by omega
          go_wp2
          go_roundw
          case rel => exact ⟨dy + 1, by omega, by omega, by go_num, (fun u v h1 h2 h3 h4 => HNx.out u v h1 h2 h3 (by omega)), HDx.out⟩
          case measure => simp [intOf]; omega
    · obtain rfl : dy = 2 := by omega
      go_wp2
      go_ret
      refine ⟨false, rfl, ⟨fun h => by (cases h), ?_⟩, hBa.trans (HD.out.below.mono hBa.size)⟩
      rintro ⟨u, v, h1, h2, h3, h4, h5⟩
      exact absurd h5 (HN.out u v h1 h2 h3 (by omega))

end Go.Proofs.YtjaoiaajplgboaaDoor
