/- What the program asks of the number of parts; how many points there are. -/
import Derived.Test.YtbohobelbgbibaaDoorLpTri
import Derived.Test.YtbohobelbgbibaaDoorFault0
namespace Go.Proofs.YtbohobelbgbibaaDoor
open Go.RowKit Go.Sort

/-- An error's value. -/
def erV (p : Addr) : Value := .iface 158 (.pointer (some p))

set_option maxRecDepth 100000 in
theorem parts_ok (n : Nat) (h1 : 1 ≤ n) (h2 : n ≤ 12) (w : World) :
    Calls Tryd.prog 25 #[.int .i64 (n : Int)] w fun e w' => e = .returned .nilIface ∧ w' = w := by
  go_enter Tryd.func25, Tryd.ntmps25
  go_wp2_with fail
  go_ret
  exact ⟨rfl, rfl⟩

set_option maxRecDepth 100000 in
theorem parts_bad {a : Nat → Addr} {sx : Nat → ByteArray} (n : Int) (hb : n < 1 ∨ 12 < n) (w : World) (hE : Errs a sx w) :
    Calls Tryd.prog 25 #[.int .i64 n] w fun e w' => e = .returned (erV (a 1)) ∧ w' = w := by
  have g1 := hE.glob 1 (by simp)
  rw [show gl 1 = 2 from rfl] at g1
  unfold erV
  clear hE
  by_cases h1 : n < 1
  · go_enter Tryd.func25, Tryd.ntmps25
    go_wp2_with fail
    go_ret
    exact ⟨rfl, rfl⟩
  · have h2 : 12 < n := by omega
    go_enter Tryd.func25, Tryd.ntmps25
    go_wp2_with fail
    go_ret
    exact ⟨rfl, rfl⟩

set_option maxRecDepth 100000 in
theorem pointsN_ok (n : Nat) (h1 : 1 ≤ n) (h2 : n ≤ 12) (w : World) :
    Calls Tryd.prog 7 #[.int .i64 (n : Int)] w fun e w' => e = .returned (.tuple #[.int .i64 (ptsN n : Int), .nilIface]) ∧ w' = w := by
  have hp := parts_ok n h1 h2 w
  have e1 : ((n : Int) + 1) * ((n : Int) + 2) = (((n + 1) * (n + 2) : Nat) : Int) := by rw [Int.natCast_mul]; rfl
  have l1 : (n + 1) * (n + 2) ≤ 13 * 14 := Nat.mul_le_mul (by omega) (by omega)
  unfold ptsN
  obtain ⟨q, hq⟩ : ∃ q, (n + 1) * (n + 2) = q := ⟨_, rfl⟩
  rw [hq] at e1 l1 ⊢
  have e4 : Int.tdiv (q : Int) 2 = ((q / 2 : Nat) : Int) := by rw [Int.tdiv_eq_ediv_of_nonneg (by omega)]; rfl
  have l3 : q / 2 ≤ 98 := by omega
  obtain ⟨h, hh⟩ : ∃ h, q / 2 = h := ⟨_, rfl⟩
  rw [hh] at e4 l3 ⊢
  clear hq hh
  go_enter Tryd.func7, Tryd.ntmps7
  go_wp2_with (first
    | (go_at_call 25; refine hp.mono ?_; rintro e V ⟨rfl, rfl⟩; clear hp)
    | fail)
  go_ret2
  exact ⟨rfl, rfl⟩

set_option maxRecDepth 100000 in
theorem pointsN_bad {a : Nat → Addr} {sx : Nat → ByteArray} (n : Int) (hb : n < 1 ∨ 12 < n) (w : World) (hE : Errs a sx w) :
    Calls Tryd.prog 7 #[.int .i64 n] w fun e w' => e = .returned (.tuple #[.int .i64 0, erV (a 1)]) ∧ w' = w := by
  have hp := parts_bad n hb w hE
  unfold erV at hp ⊢
  clear hE
  go_enter Tryd.func7, Tryd.ntmps7
  go_wp2_with (first
    | (go_at_call 25; refine hp.mono ?_; rintro e V ⟨rfl, rfl⟩; clear hp)
    | fail)
  go_ret2
  exact ⟨rfl, rfl⟩

end Go.Proofs.YtbohobelbgbibaaDoor
