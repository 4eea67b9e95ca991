/- An error of *api.Fault in memory. What the program asks of the number of parts; how many points there are. What fault labels have, by the program. -/
import Derived.Test.YtcciinaeplppiaaDoorBase
import Derived.Test.YtcciinaeplppiaaDoorLpTri
import Derived.Test.YtcciinaeplppiaaDoorLpPoints
import Derived.Test.YtcciinaeplppiaaDoorLabFault
namespace Go.Proofs.YtcciinaeplppiaaDoor
open Go.RowKit Go.Sort

theorem fault_cells (W : World) (x y : Value) (t : TypeId) : (W.alloc (.cells #[x, y] t)).cell? ⟨W.heap.size, 0, none⟩ = some x ∧ (W.alloc (.cells #[x, y] t)).cell? ⟨W.heap.size, 0 + 1, none⟩ = some y := by
  constructor <;> simp
/-- An error of *api.Fault: its place and the error that it holds. -/
def FaultAt (a : Nat → Addr) (w : World) (ve : Value) (i : Nat) (p : Int) : Prop :=
  ∃ q, ve = .iface 62 (.pointer (some ⟨q, 0, none⟩)) ∧ w.cell? ⟨q, 0, none⟩ = some (.int .i64 p) ∧ w.cell? ⟨q, 0 + 1, none⟩ = some (.iface 158 (.pointer (some (a i))))
theorem FaultAt.below {a : Nat → Addr} {w w' : World} {ve : Value} {i : Nat} {p : Int} (h : FaultAt a w ve i p) (hB : Below w.heap.size w w') : FaultAt a w' ve i p := by
  obtain ⟨q, h1, h2, h3⟩ := h
  exact ⟨q, h1, (hB.cell (p := ⟨q, 0, none⟩) (cell_lt h2)).trans h2, (hB.cell (p := ⟨q, 0 + 1, none⟩) (cell_lt h3)).trans h3⟩

end Go.Proofs.YtcciinaeplppiaaDoor

namespace Go.Proofs.YtcciinaeplppiaaDoor
open Go.RowKit Go.Sort

/-- An error's value. -/
def erV (p : Addr) : Value := .iface 158 (.pointer (some p))

set_option maxRecDepth 100000 in
theorem parts_ok (n : Nat) (h1 : 1 ≤ n) (h2 : n ≤ 12) (w : World) :
    Calls Tryd.prog 25 #[.int .i64 (n : Int)] w fun e w' => e = .returned .nilIface ∧ w' = w := by
  go_enter Tryd.func25, Tryd.ntmps25
  go_wp2_with fail
  go_ret
  exact ⟨rfl, rfl⟩

set_option maxRecDepth 100000 in
theorem parts_bad {a : Nat → Addr} {sx : Nat → ByteArray} (n : Int) (hb : n < 1 ∨ 12 < n) (w : World) (hE : Errs a sx w) :
    Calls Tryd.prog 25 #[.int .i64 n] w fun e w' => e = .returned (erV (a 1)) ∧ w' = w := by
  have g1 := hE.glob 1 (by simp)
  rw [show gl 1 = 2 from rfl] at g1
  unfold erV
  clear hE
  by_cases h1 : n < 1
  · go_enter Tryd.func25, Tryd.ntmps25
    go_wp2_with fail
    go_ret
    exact ⟨rfl, rfl⟩
  · have h2 : 12 < n := by omega
    go_enter Tryd.func25, Tryd.ntmps25
    go_wp2_with fail
    go_ret
    exact ⟨rfl, rfl⟩

set_option maxRecDepth 100000 in
theorem pointsN_ok (n : Nat) (h1 : 1 ≤ n) (h2 : n ≤ 12) (w : World) :
    Calls Tryd.prog 7 #[.int .i64 (n : Int)] w fun e w' => e = .returned (.tuple #[.int .i64 (ptsN n : Int), .nilIface]) ∧ w' = w := by
  have hp := parts_ok n h1 h2 w
  have e1 : ((n : Int) + 1) * ((n : Int) + 2) = (((n + 1) * (n + 2) : Nat) : Int) := by rw [Int.natCast_mul]; rfl
  have l1 : (n + 1) * (n + 2) ≤ 13 * 14 := Nat.mul_le_mul (by omega) (by omega)
  unfold ptsN
  obtain ⟨q, hq⟩ : ∃ q, (n + 1) * (n + 2) = q := ⟨_, rfl⟩
  rw [hq] at e1 l1 ⊢
  have e4 : Int.tdiv (q : Int) 2 = ((q / 2 : Nat) : Int) := by rw [Int.tdiv_eq_ediv_of_nonneg (by omega)]; rfl
  have l3 : q / 2 ≤ 98 := by omega
  obtain ⟨h, hh⟩ : ∃ h, q / 2 = h := ⟨_, rfl⟩
  rw [hh] at e4 l3 ⊢
  clear hq hh
  go_enter Tryd.func7, Tryd.ntmps7
  go_wp2_with (first
    | (go_at_call 25; refine hp.mono ?_; rintro e V ⟨rfl, rfl⟩; clear hp)
    | fail)
  go_ret2
  exact ⟨rfl, rfl⟩

set_option maxRecDepth 100000 in
theorem pointsN_bad {a : Nat → Addr} {sx : Nat → ByteArray} (n : Int) (hb : n < 1 ∨ 12 < n) (w : World) (hE : Errs a sx w) :
    Calls Tryd.prog 7 #[.int .i64 n] w fun e w' => e = .returned (.tuple #[.int .i64 0, erV (a 1)]) ∧ w' = w := by
  have hp := parts_bad n hb w hE
  unfold erV at hp ⊢
  clear hE
  go_enter Tryd.func7, Tryd.ntmps7
  go_wp2_with (first
    | (go_at_call 25; refine hp.mono ?_; rintro e V ⟨rfl, rfl⟩; clear hp)
    | fail)
  go_ret2
  exact ⟨rfl, rfl⟩

end Go.Proofs.YtcciinaeplppiaaDoor

namespace Go.Proofs.YtcciinaeplppiaaDoor
open Go.RowKit Go.Sort

/-- May a label stand at a point: as the program asks. -/
def mayB (s : Spt) (x : Int) : Bool := ((x == 0) && (s.1 != 0)) || (((x == 1) && (s.2.1 != 0)) || ((x == 2) && (s.2.2 != 0)))
theorem mayB_ok (s : Spt) (x : Int) : mayB s x = true ↔ labOk s x := by
  unfold mayB labOk
  simp only [Bool.or_eq_true, Bool.and_eq_true, beq_iff_eq, bne_iff_ne]
  omega
theorem mayB_no {s : Spt} {x : Int} (h : x < 0 ∨ 3 ≤ x) : mayB s x = false := by
  unfold mayB
  rw [beq_false_of_ne (show x ≠ 0 by omega), beq_false_of_ne (show x ≠ 1 by omega), beq_false_of_ne (show x ≠ 2 by omega)]
  rfl
theorem castNe (k : Nat) : ((k : Int) != 0) = (k != 0) := by
  cases k with
  | zero => rfl
  | succ k => rw [bne_iff_ne.2 (show ((k + 1 : Nat) : Int) ≠ 0 by omega), bne_iff_ne.2 (show k + 1 ≠ 0 by omega)]

set_option maxRecDepth 100000 in
theorem may_ (s : Spt) (x : Int) (w : World) :
    Calls Tryd.prog 30 #[.agg #[.int .i64 (s.1 : Int), .int .i64 (s.2.1 : Int), .int .i64 (s.2.2 : Int)], .int .i64 x] w fun e w' => e = .returned (.bool (mayB s x)) ∧ Below w.heap.size w w' := by
  obtain ⟨p, q, r⟩ := s
  dsimp only
  have HB : Hid (Below w.heap.size w (w.alloc (.cells #[.int .i64 (p : Int), .int .i64 (q : Int), .int .i64 (r : Int)] 36))) := (Below.refl _ w).alloc (Nat.le_refl _) _
  have hn := cells_new w [.int .i64 (p : Int), .int .i64 (q : Int), .int .i64 (r : Int)] 36
  have c0 := hn 0 _ rfl
  have c1 := hn 1 _ rfl
  have c2 := hn 2 _ rfl
  rw [Addr.add_lit, Nat.zero_add] at c0 c1 c2
  clear hn
  by_cases h0 : x < 0
  · rw [mayB_no (.inl h0)]
    go_enter Tryd.func30, Tryd.ntmps30
    go_wp2_with fail
    go_ret
    exact ⟨rfl, HB.out⟩
  · by_cases h3 : 3 ≤ x
    · rw [mayB_no (.inr h3)]
      go_enter Tryd.func30, Tryd.ntmps30
      go_wp2_with fail
      go_ret
      exact ⟨rfl, HB.out⟩
    · by_cases e0 : x = 0
      · subst e0
        have e : mayB (p, q, r) 0 = ((p : Int) != 0) := by rw [castNe]; simp [mayB]
        rw [e]
        go_enter Tryd.func30, Tryd.ntmps30
        go_wp2_with fail
        go_ret
        exact ⟨rfl, HB.out⟩
      · by_cases e1 : x = 1
        · subst e1
          have e : mayB (p, q, r) 1 = ((q : Int) != 0) := by rw [castNe]; simp [mayB]
          rw [e]
          go_enter Tryd.func30, Tryd.ntmps30
          go_wp2_with fail
          go_ret
          exact ⟨rfl, HB.out⟩
        · obtain rfl : x = 2 := by omega
          have e : mayB (p, q, r) 2 = ((r : Int) != 0) := by rw [castNe]; simp [mayB]
          rw [e]
          go_enter Tryd.func30, Tryd.ntmps30
          go_wp2_with fail
          go_ret
          exact ⟨rfl, HB.out⟩

end Go.Proofs.YtcciinaeplppiaaDoor
