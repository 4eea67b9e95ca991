/- What the reference's TopOf and EulerOf answer: the greatest dimension; the number of faces with signs; nothing is written. -/
import Derived.Test.YtmbolgalgidleaaGreatDoorMathV
import Derived.Test.YtmbolgalgidleaaGreatDoorRefC
namespace Go.Proofs.YtmbolgalgidleaaGreatDoor
open Go.RowKit Go.Sort

theorem top_take {all : List (List Int)} {k : Nat} (hk : k < all.length) : topN (all.take (k + 1)) = max (topN (all.take k)) (all[k]?.getD []).length := by
  rw [List.take_add_one, List.getElem?_eq_getElem hk, Option.getD_some]
  exact topN_snoc _ _
theorem euler_take {all : List (List Int)} {k : Nat} (hk : k < all.length) : eulerOf (all.take (k + 1)) = eulerOf (all.take k) + (if (all[k]?.getD []).length % 2 = 1 then 1 else -1) := by
  rw [List.take_add_one, List.getElem?_eq_getElem hk, Option.getD_some]
  exact eulerOf_snoc _ _

set_option maxRecDepth 100000 in
theorem top_of (va : Value) (all : List (List Int)) (w : World) (ha : Rows w va all) (hl : all.length ≤ 1000) (hx : ∀ x ∈ all, x.length ≤ 1000) :
    Calls Tryz.prog 16 #[va] w fun e w' => e = .returned (.int .i64 ((topN all : Int) - 1)) ∧ w' = w := by
  obtain ⟨a, ca, rfl, -, hc⟩ := ha.open_
  have HX : Hid (∀ x ∈ all, x.length ≤ 1000) := hx
  have HT : Hid (∀ k, topN (all.take k) ≤ 1000) := fun k => topN_upto (fun x h => hx x (List.mem_of_mem_take h))
  clear hx ha
  go_enter Tryz.func16, Tryz.ntmps16
  go_wp2
  go_loopw [3, 4] (fun v p wr => ∃ k t : Nat, k ≤ all.length ∧ p = .int .i64 k ∧ v = .int .i64 ((t : Int) - 1) ∧ t = topN (all.take k) ∧ wr = w)
    (fun _ p _ => all.length - (intOf p).toNat)
  case atStart => exact ⟨0, 0, by omega, rfl, rfl, rfl, rfl⟩
  case round =>
    obtain ⟨k, t, hk, rfl, rfl, ht, rfl⟩ := hrel
    have ht1 : t ≤ 1000 := by rw [ht]; exact HT.out k
    have HTK : Hid (t = topN (all.take k)) := ht
    clear ht
    by_cases hlt : k < all.length
    · obtain ⟨b, o, rfl, -, hb, c⟩ := hc (by omega)
      obtain ⟨a1, p1, g1, i1⟩ := c k hlt
      have hlen : (all[k]?.getD []).length ≤ 1000 := HX.out _ (by rw [List.getElem?_eq_getElem hlt]; simp)
      obtain ⟨x, hxe⟩ : ∃ x, all[k]?.getD [] = x := ⟨_, rfl⟩
      rw [hxe] at g1 i1 hlen
      have HS : Hid (topN (all.take (k + 1)) = max t x.length) := by
        show topN (all.take (k + 1)) = max t x.length
        rw [top_take hlt, hxe, HTK.out]
      clear hxe i1 hc c
      by_cases hd : t < x.length
      · have hdb : decide ((t : Int) - 1 < (x.length : Int) - 1) = true := decide_eq_true (by omega)
        go_wp2
        go_roundw
        case rel => exact ⟨k + 1, x.length, by omega, by go_num, rfl, by rw [HS.out]; omega, (by first | trivial | rfl)⟩
        case measure => simp [intOf]; omega
      · have hdb : decide ((t : Int) - 1 < (x.length : Int) - 1) = false := decide_eq_false (by omega)
        go_wp2
        go_roundw
        case rel => exact ⟨k + 1, t, by omega, by go_num, rfl, by rw [HS.out]; omega, (by first | trivial | rfl)⟩
        case measure => simp [intOf]; omega
    · obtain rfl : k = all.length := by omega
      clear hc
      go_wp2
      go_ret
      have e := HTK.out
      rw [List.take_length] at e
      exact ⟨by rw [← e]; rfl, rfl⟩

set_option maxRecDepth 100000 in
theorem euler_of (va : Value) (all : List (List Int)) (w : World) (ha : Rows w va all) (hl : all.length ≤ 1000) (hx : ∀ x ∈ all, x.length ≤ 1000) :
    Calls Tryz.prog 18 #[va] w fun e w' => e = .returned (.int .i64 (eulerOf all)) ∧ w' = w := by
  obtain ⟨a, ca, rfl, -, hc⟩ := ha.open_
  have HX : Hid (∀ x ∈ all, x.length ≤ 1000) := hx
  clear hx ha
  go_enter Tryz.func18, Tryz.ntmps18
  go_wp2
  go_loopw [3, 4] (fun v p wr => ∃ (k : Nat) (t : Int), k ≤ all.length ∧ p = .int .i64 k ∧ v = .int .i64 t ∧ t = eulerOf (all.take k) ∧ wr = w)
    (fun _ p _ => all.length - (intOf p).toNat)
  case atStart => exact ⟨0, 0, by omega, rfl, rfl, rfl, rfl⟩
  case round =>
    obtain ⟨k, t, hk, rfl, rfl, ht, rfl⟩ := hrel
    have ht1 : -1000 ≤ t ∧ t ≤ 1000 := by rw [ht]; have := eulerOf_small (all.take k); simp at this; omega
    obtain ⟨ht1, ht2⟩ := ht1
    have HTK : Hid (t = eulerOf (all.take k)) := ht
    clear ht
    by_cases hlt : k < all.length
    · obtain ⟨b, o, rfl, -, hb, c⟩ := hc (by omega)
      obtain ⟨a1, p1, g1, i1⟩ := c k hlt
      have hlen : (all[k]?.getD []).length ≤ 1000 := HX.out _ (by rw [List.getElem?_eq_getElem hlt]; simp)
      obtain ⟨x, hxe⟩ : ∃ x, all[k]?.getD [] = x := ⟨_, rfl⟩
      rw [hxe] at g1 i1 hlen
      have HS : Hid (eulerOf (all.take (k + 1)) = t + (if x.length % 2 = 1 then 1 else -1)) := by
        show eulerOf (all.take (k + 1)) = t + _
        rw [euler_take hlt, hxe, HTK.out]
      clear hxe i1 hc c
      by_cases hd : x.length % 2 = 1
      · have hdb : ((x.length : Int) % 2 == 1) = true := beq_iff_eq.2 (by omega)
        have HD : Hid (x.length % 2 = 1) := hd
        clear hd
        go_wp2
        go_roundw
        case rel => exact ⟨k + 1, t + 1, by omega, by go_num, rfl, by rw [HS.out, if_pos HD.out], (by first | trivial | rfl)⟩
        case measure => simp [intOf]; omega
      · have hdb : ((x.length : Int) % 2 == 1) = false := beq_false_of_ne (by omega)
        have HD : Hid (¬ x.length % 2 = 1) := hd
        clear hd
        go_wp2
        go_roundw
        case rel => exact ⟨k + 1, t - 1, by omega, by go_num, rfl, by rw [HS.out, if_neg HD.out]; rfl, (by first | trivial | rfl)⟩
        case measure => simp [intOf]; omega
    · obtain rfl : k = all.length := by omega
      clear hc
      go_wp2
      go_ret
      have e := HTK.out
      rw [List.take_length] at e
      exact ⟨by rw [← e]; rfl, rfl⟩

end Go.Proofs.YtmbolgalgidleaaGreatDoor
