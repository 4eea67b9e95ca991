/- What the reference's SameInts answers. -/
import Derived.Test.YtcciinaeplppiaaDoorBase
import Derived.BigQuiet
import Derived.Deep.QuietTactic
namespace Go.Proofs.YtcciinaeplppiaaDoor
open Go.RowKit Go.Sort

theorem take_snoc {xs ys : List Int} {k : Nat} (h : xs.take k = ys.take k) (hx : k < xs.length) (hy : k < ys.length) (e : xs[k]?.getD 0 = ys[k]?.getD 0) : xs.take (k + 1) = ys.take (k + 1) := by
  rw [List.take_add_one, List.take_add_one, h]
  simp [hx, hy] at e
  simp [hx, hy, e]

theorem ne_at {xs ys : List Int} {k : Nat} (e : ¬ xs[k]?.getD 0 = ys[k]?.getD 0) : xs ≠ ys := fun h => e (by rw [h])

theorem same_ints (va vb : Value) (xs ys : List Int) (w : World) (ha : Ints w va xs) (hb : Ints w vb ys) (hx : xs.length ≤ 1000000) :
    Calls Tryd.prog 17 #[va, vb] w fun e w' => e = .returned (.bool (decide (xs = ys))) ∧ ∃ q, w' = w.drewN q := by
  obtain ⟨a, ca, rfl, -, ha⟩ := ha.open_
  obtain ⟨b, cb, rfl, -, hb⟩ := hb.open_
  by_cases hl : xs.length = ys.length
  · rw [← hl]
    go_enter Tryd.func17, Tryd.ntmps17
    go_wp2
    go_loopw [5] (fun v W => ∃ k q : Nat, k ≤ xs.length ∧ v = .int .i64 k ∧ W = w.drewN q ∧ xs.take k = ys.take k) (fun v _ => xs.length - (intOf v).toNat)
    case atStart => exact ⟨0, 0, by omega, rfl, rfl, by simp⟩
    case round =>
      obtain ⟨k, q, hk, rfl, rfl, ht⟩ := hrel
      have HT : Hid (xs.take k = ys.take k) := ht
      have HL : Hid (xs.length = ys.length) := hl
      have hy' : k < xs.length → k < ys.length := by omega
      clear ht hl
      by_cases hlt : k < xs.length
      · obtain ⟨b1, o1, rfl, -, -, c1⟩ := ha (by omega)
        obtain ⟨b2, o2, rfl, -, -, c2⟩ := hb (by have := hy' hlt; omega)
        have g1 := c1 k hlt
        have g2 := c2 k (hy' hlt)
        clear c1 c2 ha hb
        obtain ⟨x, hxe⟩ : ∃ x, xs[k]?.getD 0 = x := ⟨_, rfl⟩
        obtain ⟨y, hye⟩ : ∃ y, ys[k]?.getD 0 = y := ⟨_, rfl⟩
        rw [hxe] at g1
        rw [hye] at g2
        have HX : Hid (xs[k]?.getD 0 = x) := hxe
        have HY : Hid (ys[k]?.getD 0 = y) := hye
        clear hxe hye
        by_cases heq : x = y
        · subst heq
          go_wp2_with fail
          go_quiet (fail)
          go_wp2
          go_roundw
          case rel => exact ⟨k + 1, _, by omega, by go_num, rfl, take_snoc HT.out hlt (hy' hlt) (HX.out.trans HY.out.symm)⟩
          case measure => simp [intOf]; omega
        · have hne : (x != y) = true := by simpa using heq
          have HE : Hid (¬ x = y) := heq
          clear heq
          go_wp2_with fail
          go_quiet (fail)
          go_wp2
          go_ret
          exact ⟨by rw [decide_eq_false (ne_at (fun h => HE.out (by rw [← HX.out, ← HY.out, h])))]; rfl, q + nq, by rw [World.drewN_drewN]⟩
      · clear ha hb
        go_wp2
        go_ret
        refine ⟨?_, q, rfl⟩
        have h1 := HT.out
        have h2 := HL.out
        rw [List.take_of_length_le (by omega), List.take_of_length_le (by omega)] at h1
        rw [decide_eq_true h1]; rfl
  · have hne : xs ≠ ys := fun h => hl (by rw [h])
    go_enter Tryd.func17, Tryd.ntmps17
    clear ha hb
    go_wp2
    go_ret
    exact ⟨by rw [decide_eq_false hne]; rfl, 0, rfl⟩

end Go.Proofs.YtcciinaeplppiaaDoor
