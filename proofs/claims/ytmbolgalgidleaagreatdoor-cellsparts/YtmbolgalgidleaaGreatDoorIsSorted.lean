/- What slices.IsSorted answers of numbers: whether they rise; nothing is written. -/
import Derived.Test.YtmbolgalgidleaaGreatDoorRefC
import Derived.Test.YtmbolgalgidleaaGreatDoorShelf
namespace Go.Proofs.YtmbolgalgidleaaGreatDoor
open Go.RowKit Go.Sort

/-- Each number is no less than the one ahead of it. -/
def Steady (f : List Int) : Prop := ∀ j, j + 1 < f.length → f[j]?.getD 0 ≤ f[j + 1]?.getD 0

theorem steady_rising {f : List Int} (h : Steady f) (hn : f.Nodup) : Rising f := by
  have key : ∀ (f : List Int), Steady f → f.Pairwise (· ≤ ·) := by
    intro f
    induction f with
    | nil => intro _; exact List.Pairwise.nil
    | cons a f ih =>
      intro h
      have hf : Steady f := fun j hj => by
        have := h (j + 1) (by simp; omega)
        simpa using this
      have hp := ih hf
      refine List.pairwise_cons.2 ⟨fun b hb => ?_, hp⟩
      cases f with
      | nil => cases hb
      | cons c f =>
        have h0 := h 0 (by simp)
        simp at h0
        rcases List.mem_cons.1 hb with rfl | hb
        · exact h0
        · have := (List.pairwise_cons.1 hp).1 b hb
          omega
  exact ((key f h).and hn).imp (fun ⟨h1, h2⟩ => by omega)
theorem rising_steady {f : List Int} (h : Rising f) : Steady f := fun j hj => by
  have := List.pairwise_iff_getElem.1 h j (j + 1) (by omega) hj (by omega)
  rw [List.getElem?_eq_getElem (show j < f.length by omega), List.getElem?_eq_getElem hj, Option.getD_some, Option.getD_some]
  omega

set_option maxRecDepth 100000 in
theorem is_sorted (vf : Value) (f : List Int) (w : World) (hf : Ints w vf f) (hl : f.length ≤ 1000000) :
    Calls Tryz.prog 73 #[vf] w fun e w' => ∃ q : Bool, e = .returned (.bool q) ∧ (q = true ↔ Steady f) ∧ ∃ n, w' = w.drewN n := by
  obtain ⟨a, ca, rfl, -, hc⟩ := hf.open_
  clear hf
  by_cases h0 : f.length = 0
  · have HS : Hid (Steady f) := fun j hj => by omega
    rw [h0]
    clear hc h0
    go_enter Tryz.func73, Tryz.ntmps73
    go_wp2
    go_loopw [3] (fun v W => v = .int .i64 (-1) ∧ W = w) (fun _ _ => 0)
    case atStart => exact ⟨rfl, rfl⟩
    case round =>
      obtain ⟨rfl, rfl⟩ := hrel
      go_wp2
      go_ret
      exact ⟨true, rfl, ⟨fun _ => HS.out, fun _ => rfl⟩, 0, rfl⟩
  · obtain ⟨b, o, rfl, -, -, c⟩ := hc (by omega)
    obtain ⟨m, hm⟩ : ∃ m, f.length = m + 1 := ⟨f.length - 1, by omega⟩
    have HM : Hid (f.length = m + 1) := hm
    have hmi : ((f.length : Int) - 1) = (m : Int) := by omega
    have HC : Hid (∀ k, k < f.length → w.cell? ⟨b, o + k, none⟩ = some (.int .i64 (f[k]?.getD 0))) := c
    clear hc h0 c hm
    go_enter Tryz.func73, Tryz.ntmps73
    go_wp2
    go_loopw [3] (fun v W => ∃ i n : Nat, i ≤ m ∧ v = .int .i64 i ∧ W = w.drewN n ∧ ∀ j, i ≤ j → j + 1 < f.length → f[j]?.getD 0 ≤ f[j + 1]?.getD 0) (fun v _ => (intOf v).toNat)
    case atStart => exact ⟨m, 0, Nat.le_refl _, by go_num, rfl, fun j h1 h2 => by have := HM.out; omega⟩
    case round =>
      obtain ⟨i, n, him, rfl, hw, hst⟩ := hrel
      have HST : Hid (∀ j, i ≤ j → j + 1 < f.length → f[j]?.getD 0 ≤ f[j + 1]?.getD 0) := hst
      have HW : Hid (wr = w.drewN n) := hw
      by_cases hi : 0 < i
      · obtain ⟨k, rfl⟩ : ∃ k, i = k + 1 := ⟨i - 1, by omega⟩
        have hk1 : k + 1 < f.length := by have := HM.out; omega
        have hk0 : k < f.length := by omega
        have g1 : wr.cell? ⟨b, o + (k + 1), none⟩ = some (.int .i64 (f[k + 1]?.getD 0)) := by rw [hw]; exact HC.out (k + 1) hk1
        have g0 : wr.cell? ⟨b, o + k, none⟩ = some (.int .i64 (f[k]?.getD 0)) := by rw [hw]; exact HC.out k hk0
        obtain ⟨x, hxe⟩ : ∃ x, f[k + 1]?.getD 0 = x := ⟨_, rfl⟩
        obtain ⟨y, hye⟩ : ∃ y, f[k]?.getD 0 = y := ⟨_, rfl⟩
        rw [hxe] at g1
        rw [hye] at g0
        have HX : Hid (f[k + 1]?.getD 0 = x) := hxe
        have HY : Hid (f[k]?.getD 0 = y) := hye
        have hls : ∀ m, Calls Tryz.prog 89 #[.int .i64 x, .int .i64 y] (wr.drewN m) (fun e w' => e = .returned (.bool (decide (x < y))) ∧ ∃ q, w' = (wr.drewN m).drewN q) := fun m => (Tryz.cmp_Less_int2 x y (wr.drewN m)).mono (fun e w' ⟨h1, h2⟩ => ⟨h1, 0, by rw [h2]; rfl⟩)
        have hnum : (((k + 1 : Nat) : Int) - 1) = (k : Int) := by omega
        clear hxe hye hw hst
        by_cases hxy : x < y
        · rw [decide_eq_true hxy] at hls
          have HN : Hid (¬ Steady f) := fun h => by
            have := h k hk1
            rw [HX.out, HY.out] at this
            omega
          clear hxy
          go_wp2_with fail
          go_quiet ((go_at_call 89; exact Calls.quiet_of (hls _)))
          go_wp2
          go_ret
          exact ⟨false, rfl, ⟨fun h => (by cases h), fun h => absurd h HN.out⟩, n + nq, by rw [HW.out, World.drewN_drewN]⟩
        · rw [decide_eq_false hxy] at hls
          have HLE : Hid (y ≤ x) := Int.not_lt.1 hxy
          clear hxy
          go_wp2_with fail
          go_quiet ((go_at_call 89; exact Calls.quiet_of (hls _)))
          go_wp2
          go_roundw
          case rel =>
            refine ⟨k, n + nq, by omega, by go_num, by rw [HW.out, World.drewN_drewN], fun j h1 h2 => ?_⟩
            by_cases e : j = k
            · subst e; rw [HX.out, HY.out]; exact HLE.out
            · exact HST.out j (by omega) h2
          case measure => simp [intOf]
      · obtain rfl : i = 0 := by omega
        have HS : Hid (Steady f) := fun j hj => HST.out j (Nat.zero_le _) hj
        clear hst
        go_wp2
        go_ret
        exact ⟨true, rfl, ⟨fun _ => HS.out, fun _ => rfl⟩, n, rfl⟩

end Go.Proofs.YtmbolgalgidleaaGreatDoor
