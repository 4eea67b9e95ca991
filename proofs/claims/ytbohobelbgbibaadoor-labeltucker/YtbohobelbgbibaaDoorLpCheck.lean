/- What fault labels have, by the program. -/
import Derived.Test.YtbohobelbgbibaaDoorLpParts
import Derived.Test.YtbohobelbgbibaaDoorLpPoints
import Derived.Test.YtbohobelbgbibaaDoorLabFault
namespace Go.Proofs.YtbohobelbgbibaaDoor
open Go.RowKit Go.Sort

/-- May a label stand at a point: as the program asks. -/
def mayB (s : Spt) (x : Int) : Bool := ((x == 0) && (s.1 != 0)) || (((x == 1) && (s.2.1 != 0)) || ((x == 2) && (s.2.2 != 0)))
theorem mayB_ok (s : Spt) (x : Int) : mayB s x = true ↔ labOk s x := by
  unfold mayB labOk
  simp only [Bool.or_eq_true, Bool.and_eq_true, beq_iff_eq, bne_iff_ne]
  omega
theorem mayB_no {s : Spt} {x : Int} (h : x < 0 ∨ 3 ≤ x) : mayB s x = false := by
  unfold mayB
  rw [beq_false_of_ne (show x ≠ 0 by omega), beq_false_of_ne (show x ≠ 1 by omega), beq_false_of_ne (show x ≠ 2 by omega)]
  rfl
theorem castNe (k : Nat) : ((k : Int) != 0) = (k != 0) := by
  cases k with
  | zero => rfl
  | succ k => rw [bne_iff_ne.2 (show ((k + 1 : Nat) : Int) ≠ 0 by omega), bne_iff_ne.2 (show k + 1 ≠ 0 by omega)]

set_option maxRecDepth 100000 in
theorem may_ (s : Spt) (x : Int) (w : World) :
    Calls Tryd.prog 30 #[.agg #[.int .i64 (s.1 : Int), .int .i64 (s.2.1 : Int), .int .i64 (s.2.2 : Int)], .int .i64 x] w fun e w' => e = .returned (.bool (mayB s x)) ∧ Below w.heap.size w w' := by
  obtain ⟨p, q, r⟩ := s
  dsimp only
  have HB : Hid (Below w.heap.size w (w.alloc (.cells #[.int .i64 (p : Int), .int .i64 (q : Int), .int .i64 (r : Int)] 36))) := (Below.refl _ w).alloc (Nat.le_refl _) _
  have hn := cells_new w [.int .i64 (p : Int), .int .i64 (q : Int), .int .i64 (r : Int)] 36
  have c0 := hn 0 _ rfl
  have c1 := hn 1 _ rfl
  have c2 := hn 2 _ rfl
  rw [Addr.add_lit, Nat.zero_add] at c0 c1 c2
  clear hn
  by_cases h0 : x < 0
  · rw [mayB_no (.inl h0)]
    go_enter Tryd.func30, Tryd.ntmps30
    go_wp2_with fail
    go_ret
    exact ⟨rfl, HB.out⟩
  · by_cases h3 : 3 ≤ x
    · rw [mayB_no (.inr h3)]
      go_enter Tryd.func30, Tryd.ntmps30
      go_wp2_with fail
      go_ret
      exact ⟨rfl, HB.out⟩
    · by_cases e0 : x = 0
      · subst e0
        have e : mayB (p, q, r) 0 = ((p : Int) != 0) := by rw [castNe]; simp [mayB]
        rw [e]
        go_enter Tryd.func30, Tryd.ntmps30
        go_wp2_with fail
        go_ret
        exact ⟨rfl, HB.out⟩
      · by_cases e1 : x = 1
        · subst e1
          have e : mayB (p, q, r) 1 = ((q : Int) != 0) := by rw [castNe]; simp [mayB]
          rw [e]
          go_enter Tryd.func30, Tryd.ntmps30
          go_wp2_with fail
          go_ret
          exact ⟨rfl, HB.out⟩
        · obtain rfl : x = 2 := by omega
          have e : mayB (p, q, r) 2 = ((r : Int) != 0) := by rw [castNe]; simp [mayB]
          rw [e]
          go_enter Tryd.func30, Tryd.ntmps30
          go_wp2_with fail
          go_ret
          exact ⟨rfl, HB.out⟩

end Go.Proofs.YtbohobelbgbibaaDoor
