/- What the statements' Few answers: true only of few sets of few numbers each; nothing is written. -/
import Derived.Test.YtopopbhpclhinaaDoorRefC
namespace Go.Proofs.YtopopbhpclhinaaDoor
open Go.RowKit Go.Sort

theorem take_all {l : List (List Int)} {k m : Nat} (hk : k < l.length) (h : ∀ x ∈ l.take k, x.length ≤ m) (hx : (l[k]?.getD []).length ≤ m) : ∀ x ∈ l.take (k + 1), x.length ≤ m := by
  rw [List.getElem?_eq_getElem hk, Option.getD_some] at hx
  rw [List.take_add_one, List.getElem?_eq_getElem hk]
  intro x hm
  rcases List.mem_append.1 hm with a | a
  · exact h x a
  · simp at a; subst a; exact hx

set_option maxRecDepth 100000 in
theorem few_ (vl : Value) (l : List (List Int)) (w : World) (hl : Rows w vl l) :
    Calls Tryd.prog 32 #[vl] w fun e w' => ∃ q : Bool, e = .returned (.bool q) ∧ w' = w ∧ (q = true → l.length ≤ 40 ∧ ∀ x ∈ l, x.length ≤ 12) := by
  obtain ⟨a, ca, rfl, -, ha⟩ := hl.open_
  by_cases h40 : 40 < l.length
  · clear ha
    go_enter Tryd.func32, Tryd.ntmps32
    go_wp2
    go_ret
    exact ⟨false, rfl, rfl, fun h => by cases h⟩
  · go_enter Tryd.func32, Tryd.ntmps32
    go_wp2
    go_loopw [3, 4] (fun v p W => ∃ k n : Nat, k ≤ l.length ∧ p = .int .i64 k ∧ v = .int .i64 n ∧ n ≤ 12 * k ∧ W = w ∧ ∀ x ∈ l.take k, x.length ≤ 12) (fun _ p _ => l.length - (intOf p).toNat)
    case atStart => exact ⟨0, 0, by omega, rfl, rfl, by omega, rfl, by simp⟩
    case round =>
      obtain ⟨k, n, hk, rfl, rfl, hn, rfl, hall⟩ := hrel
      have HA : Hid (∀ x ∈ l.take k, x.length ≤ 12) := hall
      clear hall
      by_cases hlt : k < l.length
      · obtain ⟨b, o, rfl, -, -, c⟩ := ha (by omega)
        obtain ⟨a1, p1, g1, i1⟩ := c k hlt
        obtain ⟨x, hxe⟩ : ∃ x, l[k]?.getD [] = x := ⟨_, rfl⟩
        rw [hxe] at g1
        have HX : Hid (l[k]?.getD [] = x) := hxe
        clear c i1 hxe ha
        by_cases h12 : 12 < x.length
        · go_wp2
          go_ret
          exact ⟨false, rfl, rfl, fun h => by cases h⟩
        · go_wp2
          go_roundw
          case rel => exact ⟨k + 1, n + x.length, by omega, by go_num, by go_num, by omega, (by first | trivial | rfl), take_all hlt HA.out (by rw [HX.out]; omega)⟩
          case measure => simp [intOf]; omega
      · obtain rfl : k = l.length := by omega
        have hall := HA.out
        rw [List.take_length] at hall
        have HF : Hid (∀ x ∈ l, x.length ≤ 12) := hall
        clear ha hall
        go_wp2
        go_ret
        exact ⟨_, rfl, rfl, fun _ => ⟨by omega, HF.out⟩⟩

end Go.Proofs.YtopopbhpclhinaaDoor
