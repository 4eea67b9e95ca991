/- What the reference's SameLists answers; nothing is written. -/
import Derived.Test.YtklagnmkfbjagaaGreatDoorRefB
namespace Go.Proofs.YtklagnmkfbjagaaGreatDoor
open Go.RowKit Go.Sort

theorem takes_snoc {xs ys : List (List Int)} {k : Nat} (h : xs.take k = ys.take k) (hx : k < xs.length) (hy : k < ys.length) (e : xs[k]?.getD [] = ys[k]?.getD []) : xs.take (k + 1) = ys.take (k + 1) := by
  rw [List.take_add_one, List.take_add_one, h]
  simp [hx, hy] at e
  simp [hx, hy, e]

theorem same_lists (va vb : Value) (xs ys : List (List Int)) (w : World) (ha : Rows w va xs) (hb : Rows w vb ys) (hx : xs.length ≤ 1000000) (hm : ∀ x ∈ xs, x.length ≤ 1000000) :
    Calls Tryz.prog 13 #[va, vb] w fun e w' => e = .returned (.bool (decide (xs = ys))) ∧ ∃ q, w' = w.drewN q := by
  obtain ⟨a, ca, rfl, -, ha⟩ := ha.open_
  obtain ⟨b, cb, rfl, -, hb⟩ := hb.open_
  by_cases hl : xs.length = ys.length
  · rw [← hl]
    go_enter Tryz.func13, Tryz.ntmps13
    go_wp2
    go_loopw [5] (fun v W => ∃ k q : Nat, k ≤ xs.length ∧ v = .int .i64 k ∧ W = w.drewN q ∧ xs.take k = ys.take k) (fun v _ => xs.length - (intOf v).toNat)
    case atStart => exact ⟨0, 0, by omega, rfl, rfl, by simp⟩
    case round =>
      obtain ⟨k, q, hk, rfl, hw, ht⟩ := hrel
      have HW : Hid (wr = w.drewN q) := hw
      have HT : Hid (xs.take k = ys.take k) := ht
      have HL : Hid (xs.length = ys.length) := hl
      have HM : Hid (∀ x ∈ xs, x.length ≤ 1000000) := hm
      have hy' : k < xs.length → k < ys.length := by omega
      clear ht hl hm
      by_cases hlt : k < xs.length
      · obtain ⟨b1, o1, rfl, -, -, c1⟩ := ha (by omega)
        obtain ⟨b2, o2, rfl, -, -, c2⟩ := hb (by have := hy' hlt; omega)
        obtain ⟨a1, p1, g1, i1⟩ := c1 k hlt
        obtain ⟨a2, p2, g2, i2⟩ := c2 k (hy' hlt)
        clear c1 c2 ha hb
        have hlen : (xs[k]?.getD []).length ≤ 1000000 := HM.out _ (by simp [hlt])
        obtain ⟨x, hxe⟩ : ∃ x, xs[k]?.getD [] = x := ⟨_, rfl⟩
        obtain ⟨y, hye⟩ : ∃ y, ys[k]?.getD [] = y := ⟨_, rfl⟩
        rw [hxe] at g1 i1 hlen
        rw [hye] at g2 i2
        have g1 : wr.cell? ⟨b1, o1 + k, none⟩ = some (.slice a1 x.length p1) := by rw [hw]; exact g1
        have g2 : wr.cell? ⟨b2, o2 + k, none⟩ = some (.slice a2 y.length p2) := by rw [hw]; exact g2
        have i1 : Ints wr (.slice a1 x.length p1) x := by rw [hw]; exact i1
        have i2 : Ints wr (.slice a2 y.length p2) y := by rw [hw]; exact i2
        clear hw
        have HX : Hid (xs[k]?.getD [] = x) := hxe
        have HY : Hid (ys[k]?.getD [] = y) := hye
        clear hxe hye
        have hc : ∀ n, Calls Tryz.prog 26 #[.slice a1 x.length p1, .slice a2 y.length p2] (wr.drewN n) _ := fun n => same_ints _ _ x y (wr.drewN n) i1 i2 hlen
        obtain ⟨c, hce⟩ : ∃ c, decide (x = y) = c := ⟨_, rfl⟩
        simp only [hce] at hc
        have HC : Hid (decide (x = y) = c) := hce
        clear hce i1 i2
        cases c with
        | true =>
          go_wp2_with fail
          go_quiet ((go_at_call 26; exact Calls.quiet_of (hc _)))
          go_wp2
          go_roundw
          case rel => exact ⟨k + 1, q + nq, by omega, by go_num, by rw [HW.out, World.drewN_drewN], takes_snoc HT.out hlt (hy' hlt) (by rw [HX.out, HY.out]; exact of_decide_eq_true HC.out)⟩
          case measure => simp [intOf]; omega
        | false =>
          go_wp2_with fail
          go_quiet ((go_at_call 26; exact Calls.quiet_of (hc _)))
          go_wp2
          go_ret
          refine ⟨?_, q + nq, by rw [HW.out, World.drewN_drewN]⟩
          have : xs ≠ ys := fun h => (of_decide_eq_false HC.out) (by rw [← HX.out, ← HY.out, h])
          rw [decide_eq_false this]; rfl
      · clear ha hb hw
        go_wp2
        go_ret
        refine ⟨?_, q, HW.out⟩
        have h1 := HT.out
        have h2 := HL.out
        rw [List.take_of_length_le (by omega), List.take_of_length_le (by omega)] at h1
        rw [decide_eq_true h1]; rfl
  · have hne : xs ≠ ys := fun h => hl (by rw [h])
    go_enter Tryz.func13, Tryz.ntmps13
    clear ha hb
    go_wp2
    go_ret
    exact ⟨by rw [decide_eq_false hne]; rfl, 0, rfl⟩

end Go.Proofs.YtklagnmkfbjagaaGreatDoor
