/- What the reference's small readers answer: SameInts, Contains, Ahead, PartOf, SameLists; nothing is written. -/
import Derived.Test.YtcciinaeplppiaaDoorRefA0
import Derived.BigQuiet
import Derived.Deep.QuietTactic
namespace Go.Proofs.YtcciinaeplppiaaDoor
open Go.RowKit Go.Sort

theorem contains_upto {xs : List Int} {k : Nat} {n : Int} (h : ∀ j, j < k → ¬ xs[j]?.getD 0 = n) (hk : k = xs.length) : xs.contains n = false := by
  rw [← Bool.not_eq_true, List.contains_iff_mem]
  intro hm
  obtain ⟨j, hj, e⟩ := List.getElem_of_mem hm
  exact h j (by omega) (by simp [hj, e])
theorem contains_at {xs : List Int} {k : Nat} {n : Int} (hk : k < xs.length) (h : xs[k]?.getD 0 = n) : xs.contains n = true := by
  rw [List.contains_iff_mem]
  simp [hk] at h
  exact List.mem_of_getElem h

theorem contains_ (va : Value) (xs : List Int) (n : Int) (w : World) (ha : Ints w va xs) (hx : xs.length ≤ 1000000) :
    Calls Tryd.prog 20 #[va, .int .i64 n] w fun e w' => e = .returned (.bool (xs.contains n)) ∧ ∃ q, w' = w.drewN q := by
  obtain ⟨a, ca, rfl, -, ha⟩ := ha.open_
  go_enter Tryd.func20, Tryd.ntmps20
  go_wp2
  go_loopw [5] (fun v W => ∃ k q : Nat, k ≤ xs.length ∧ v = .int .i64 k ∧ W = w.drewN q ∧ ∀ j, j < k → ¬ xs[j]?.getD 0 = n) (fun v _ => xs.length - (intOf v).toNat)
  case atStart => exact ⟨0, 0, by omega, rfl, rfl, fun j hj => by omega⟩
  case round =>
    obtain ⟨k, q, hk, rfl, rfl, ht⟩ := hrel
    have HT : Hid (∀ j, j < k → ¬ xs[j]?.getD 0 = n) := ht
    clear ht
    by_cases hlt : k < xs.length
    · obtain ⟨b1, o1, rfl, -, -, c1⟩ := ha (by omega)
      have g1 := c1 k hlt
      clear c1 ha
      obtain ⟨x, hxe⟩ : ∃ x, xs[k]?.getD 0 = x := ⟨_, rfl⟩
      rw [hxe] at g1
      have HX : Hid (xs[k]?.getD 0 = x) := hxe
      clear hxe
      by_cases heq : x = n
      · subst heq
        go_wp2
        go_ret
        exact ⟨by rw [contains_at hlt HX.out]; rfl, _, rfl⟩
      · have hne : (x == n) = false := by simpa using heq
        have HE : Hid (¬ x = n) := heq
        clear heq
        go_wp2
        go_roundw
        case rel => exact ⟨k + 1, _, by omega, by go_num, rfl, fun j hj => by
          by_cases e : j = k
          · subst e; rw [HX.out]; exact HE.out
          · exact HT.out j (by omega)⟩
        case measure => simp [intOf]; omega
    · clear ha
      go_wp2
      go_ret
      exact ⟨by rw [contains_upto HT.out (by omega)]; rfl, q, rfl⟩

end Go.Proofs.YtcciinaeplppiaaDoor
