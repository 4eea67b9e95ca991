/- What little answers: true only of images of few rows; nothing is written. (The sum of the rows' lengths may run over: no more is told.) -/
import Derived.Test.YtjaoiaajplgboaaDoorCubeFull
namespace Go.Proofs.YtjaoiaajplgboaaDoor
open Go.RowKit Go.Sort

set_option maxRecDepth 100000 in
theorem little_ (vm : Value) (m : List (List UInt8)) (w : World) (hm : Strs w vm m) (hl : m.length ≤ maxLen) (most : Int) :
    Calls Tryd.prog 5 #[vm, .int .i64 most] w fun e w' => ∃ q : Bool, e = .returned (.bool q) ∧ w' = w ∧ (q = true → m.length ≤ 60) := by
  obtain ⟨a, ca, rfl, -, ha⟩ := hm.open_
  clear hm
  have hl2 : m.length ≤ 9223372036854775807 := hl
  clear hl
  go_enter Tryd.func5, Tryd.ntmps5
  go_wp2
  go_loopw [5, 6] (fun v p W => ∃ (k : Nat) (n : Int), k ≤ m.length ∧ p = .int .i64 k ∧ v = .int .i64 n ∧ W = w) (fun _ p _ => m.length - (intOf p).toNat)
  case atStart => exact ⟨0, 0, by omega, rfl, rfl, rfl⟩
  case round =>
    obtain ⟨k, n, hk, rfl, rfl, rfl⟩ := hrel
    by_cases hlt : k < m.length
    · obtain ⟨b, o, rfl, -, hb, c⟩ := ha (by omega)
      have cj := c k hlt
      obtain ⟨s, hs⟩ : ∃ s, (⟨(m[k]?.getD []).toArray⟩ : ByteArray) = s := ⟨_, rfl⟩
      rw [show encStr (m[k]?.getD []) = .string ⟨(m[k]?.getD []).toArray⟩ from rfl, hs] at cj
      clear ha c hs
      go_wp2
      go_roundw
      case rel => exact ⟨k + 1, _, by omega, by go_num, rfl, (by first | trivial | rfl)⟩
      case measure => simp [intOf]; omega
    · obtain rfl : k = m.length := by omega
      clear ha
      by_cases h60 : (m.length : Int) ≤ 60
      · go_wp2
        go_ret
        exact ⟨_, rfl, rfl, fun _ => by omega⟩
      · have h60b : decide ((m.length : Int) ≤ 60) = false := decide_eq_false h60
        go_wp2
        go_ret
        exact .inl ⟨rfl, rfl⟩

end Go.Proofs.YtjaoiaajplgboaaDoor
