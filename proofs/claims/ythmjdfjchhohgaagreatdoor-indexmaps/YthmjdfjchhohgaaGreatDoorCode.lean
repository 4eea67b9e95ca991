/- What package plain's Code answers for a nil error, for an error of errors.New's make and for an *api.Fault around one; conditions: the eight errors of package api and errors.errorType hold what the program's text lays there. -/
import Derived.Test.YthmjdfjchhohgaaGreatDoorErrs
import Derived.Below
import Derived.BigQuiet
import Derived.Deep.QuietTactic
import Derived.Deep.RegionWith
namespace Go.Proofs.YthmjdfjchhohgaaGreatDoor
open Go.RowKit Go.Extern.Stop Go.Stop Go.Extern

/-- The package-level variable of the k-th error. -/
def gl (k : Nat) : Nat := [3, 0, 1, 4, 5, 6, 2, 7].getD k 0
/-- The eight errors' variables, their texts, and errors.errorType, in a world. -/
structure Errs (a : Nat → Addr) (s : Nat → ByteArray) (w : World) : Prop where
  typ : w.cell? ⟨8, 0, none⟩ = some (.iface 170 (.agg #[.pointer (some ⟨10, 29, none⟩)]))
  glob : ∀ k, k < 8 → w.cell? ⟨gl k, 0, none⟩ = some (.iface 233 (.pointer (some (a k))))
  row : ∀ k, k < 8 → ∃ cs t, w.heap[(a k).block]? = some (.cells cs t (0, 0))
  text : ∀ k, k < 8 → w.cell? (a k) = some (.string (s k))
  apart : ∀ j k, j < 8 → k < 8 → j ≠ k → a j ≠ a k

theorem cell_lt {w : World} {p : Addr} {v : Value} (h : w.cell? p = some v) : p.block < w.heap.size := by
  rcases Nat.lt_or_ge p.block w.heap.size with h' | h'
  · exact h'
  · simp [World.cell?, Array.getElem?_eq_none h'] at h
theorem row_lt {w : World} {k : Nat} {o : Obj} (h : w.heap[k]? = some o) : k < w.heap.size := by
  rcases Nat.lt_or_ge k w.heap.size with h' | h'
  · exact h'
  · simp [Array.getElem?_eq_none h'] at h
theorem Errs.below {a : Nat → Addr} {s : Nat → ByteArray} {w w' : World} (h : Errs a s w) (hb : Below w.heap.size w w') : Errs a s w' where
  typ := by rw [hb.cell (cell_lt h.typ)]; exact h.typ
  glob := fun k hk => by rw [hb.cell (cell_lt (h.glob k hk))]; exact h.glob k hk
  row := fun k hk => by
    obtain ⟨cs, t, e⟩ := h.row k hk
    exact ⟨cs, t, by rw [hb.block _ (row_lt e)]; exact e⟩
  text := fun k hk => by rw [hb.cell (cell_lt (h.text k hk))]; exact h.text k hk
  apart := h.apart

theorem is_at {a : Nat → Addr} {s : Nat → ByteArray} {W : World} (hE : Errs a s W) (b : Addr) (k : Nat) (hk : k < 8) (hbl : ∃ cs t, W.heap[b.block]? = some (.cells cs t (0, 0))) (q : Bool) (hq : q = true ↔ b = a k) :
    Calls Tryz.prog 62 #[.iface 233 (.pointer (some b)), .iface 233 (.pointer (some (a k)))] W fun e w' => e = .returned (.bool q) ∧ w' = W := by
  cases q with
  | true =>
    rw [hq.1 rfl]
    exact is_same _ _
  | false =>
    obtain ⟨ca, ta, ha⟩ := hbl
    obtain ⟨cb, tb, hb⟩ := hE.row k hk
    exact is_other b (a k) ca cb ta tb W (fun h => absurd (hq.2 h) (by decide)) ha hb
theorem is_fault_at {a : Nat → Addr} {s : Nat → ByteArray} {W : World} (hE : Errs a s W) (pb i : Nat) (hi : i < 8) (h1 : W.cell? ⟨pb, 0 + 1, none⟩ = some (.iface 233 (.pointer (some (a i))))) (k : Nat) (hk : k < 8) (q : Bool) (hq : q = true ↔ i = k) :
    Calls Tryz.prog 62 #[.iface 93 (.pointer (some ⟨pb, 0, none⟩)), .iface 233 (.pointer (some (a k)))] W fun e w' => e = .returned (.bool q) ∧ w' = W := by
  cases q with
  | true =>
    obtain rfl := hq.1 rfl
    exact is_fault_same pb 0 (a i) W h1
  | false =>
    obtain ⟨ca, ta, ha⟩ := hE.row i hi
    obtain ⟨cb, tb, hb⟩ := hE.row k hk
    exact is_fault_other pb 0 (a k) (a i) ca cb ta tb W h1 (hE.apart i k hi hk (fun h => absurd (hq.2 h) (by decide))) ha hb

/-- The eight cells of a row of the eight errors. -/
theorem row8 (a : Nat → Addr) (w : World) (k : Nat) (hk : k < 8) :
    (w.alloc (.cells #[.iface 233 (.pointer (some (a 0))), .iface 233 (.pointer (some (a 1))), .iface 233 (.pointer (some (a 2))), .iface 233 (.pointer (some (a 3))), .iface 233 (.pointer (some (a 4))), .iface 233 (.pointer (some (a 5))), .iface 233 (.pointer (some (a 6))), .iface 233 (.pointer (some (a 7)))] 29)).cell? ⟨w.heap.size, k, none⟩ = some (.iface 233 (.pointer (some (a k)))) := by
  match k, hk with
  | 0, _ => simp
  | 1, _ => simp
  | 2, _ => simp
  | 3, _ => simp
  | 4, _ => simp
  | 5, _ => simp
  | 6, _ => simp
  | 7, _ => simp
  | n + 8, h => omega

/-- The number that Code tells of the i-th error (8: of another one). -/
def codeOf (i : Nat) : Int := if i < 8 then (i : Int) + 1 else -1
theorem codeOf_lt {i : Nat} (h : i < 8) : codeOf i = (i : Int) + 1 := if_pos h
theorem codeOf_8 {i : Nat} (h : ¬ i < 8) : codeOf i = -1 := if_neg h
theorem ret_pair {a b c d : Int} (h : a = c) (k : b = d) : Ending.returned (.tuple #[.int .i64 a, .int .i64 b]) = .returned (.tuple #[.int .i64 c, .int .i64 d]) := by rw [h, k]

theorem code_nil (w : World) : Calls Tryz.prog 31 #[.nilIface] w fun e w' => e = .returned (.tuple #[.int .i64 0, .int .i64 (-1)]) ∧ w' = w := by
  go_enter Tryz.func31, Tryz.ntmps31
  go_wp2
  go_ret2
  exact ⟨rfl, rfl⟩

set_option maxHeartbeats 1000000 in
theorem code_es {a : Nat → Addr} {s : Nat → ByteArray} (w : World) (hE : Errs a s w) (b : Addr) (i : Nat) (hi : i ≤ 8) (hb : ∀ k, k < 8 → (b = a k ↔ k = i)) (hbl : ∃ cs t, w.heap[b.block]? = some (.cells cs t (0, 0))) :
    Calls Tryz.prog 31 #[.iface 233 (.pointer (some b))] w fun e w' => e = .returned (.tuple #[.int .i64 (codeOf i), .int .i64 (-1)]) ∧ Below w.heap.size w w' := by
  have hE0 : Errs a s (w.alloc (.cells #[.pointer none] 93)) := hE.below ((Below.refl _ _).alloc (Nat.le_refl _) _)
  have hg := hE0.typ
  go_enter Tryz.func31, Tryz.ntmps31
  go_wp2_with fail
  refine (as_miss b _ _ hg).mono ?_
  rintro e w1 ⟨rfl, hw1⟩
  have hB1 : Below w.heap.size w w1 := by
    rw [hw1]
    exact ((((Below.refl _ _).alloc (Nat.le_refl _) _).alloc (by simp) _).alloc (by simp; omega) _).alloc (by simp; omega) _
  have hE1 := hE.below hB1
  have hbl1 : ∃ cs t, w1.heap[b.block]? = some (.cells cs t (0, 0)) := by
    obtain ⟨cs, t, e⟩ := hbl
    exact ⟨cs, t, by rw [hB1.block _ (row_lt e)]; exact e⟩
  clear hw1 hg hE0
  have g0 : w1.cell? ⟨3, 0, none⟩ = some (.iface 233 (.pointer (some (a 0)))) := hE1.glob 0 (by decide)
  have g1 : w1.cell? ⟨0, 0, none⟩ = some (.iface 233 (.pointer (some (a 1)))) := hE1.glob 1 (by decide)
  have g2 : w1.cell? ⟨1, 0, none⟩ = some (.iface 233 (.pointer (some (a 2)))) := hE1.glob 2 (by decide)
  have g3 : w1.cell? ⟨4, 0, none⟩ = some (.iface 233 (.pointer (some (a 3)))) := hE1.glob 3 (by decide)
  have g4 : w1.cell? ⟨5, 0, none⟩ = some (.iface 233 (.pointer (some (a 4)))) := hE1.glob 4 (by decide)
  have g5 : w1.cell? ⟨6, 0, none⟩ = some (.iface 233 (.pointer (some (a 5)))) := hE1.glob 5 (by decide)
  have g6 : w1.cell? ⟨2, 0, none⟩ = some (.iface 233 (.pointer (some (a 6)))) := hE1.glob 6 (by decide)
  have g7 : w1.cell? ⟨7, 0, none⟩ = some (.iface 233 (.pointer (some (a 7)))) := hE1.glob 7 (by decide)
  go_wp2_with fail
  have hB2 := hB1.trans (((Below.refl w1.heap.size w1).alloc (Nat.le_refl _) (.cells #[.iface 233 (.pointer (some (a 0))), .iface 233 (.pointer (some (a 1))), .iface 233 (.pointer (some (a 2))), .iface 233 (.pointer (some (a 3))), .iface 233 (.pointer (some (a 4))), .iface 233 (.pointer (some (a 5))), .iface 233 (.pointer (some (a 6))), .iface 233 (.pointer (some (a 7)))] 29)).mono hB1.size)
  have hc2 := row8 a w1
  generalize w1.alloc (.cells #[.iface 233 (.pointer (some (a 0))), .iface 233 (.pointer (some (a 1))), .iface 233 (.pointer (some (a 2))), .iface 233 (.pointer (some (a 3))), .iface 233 (.pointer (some (a 4))), .iface 233 (.pointer (some (a 5))), .iface 233 (.pointer (some (a 6))), .iface 233 (.pointer (some (a 7)))] 29) = w2 at hB2 hc2 ⊢
  have hE2 := hE.below hB2
  have hbl2 : ∃ cs t, w2.heap[b.block]? = some (.cells cs t (0, 0)) := by
    obtain ⟨cs, t, e⟩ := hbl
    exact ⟨cs, t, by rw [hB2.block _ (row_lt e)]; exact e⟩
  clear g0 g1 g2 g3 g4 g5 g6 g7 hbl1 hE1
  go_loop [3, 26] (fun u v => ∃ k : Nat, k ≤ 8 ∧ k ≤ i ∧ u = .int .i64 (-1) ∧ v = .int .i64 k) (fun _ v => 8 - (intOf v).toNat)
  case atStart => exact ⟨0, by omega, by omega, rfl, rfl⟩
  case round =>
    obtain ⟨k, hk8, hki, rfl, rfl⟩ := hrel
    by_cases hlt : k < 8
    · have hc := hc2 k hlt
      have hs := is_at hE2 b k hlt hbl2 (decide (k = i)) (by rw [decide_eq_true_iff, hb k hlt])
      clear hc2
      by_cases hik : k = i
      · have hd : decide (k = i) = true := decide_eq_true hik
        rw [hd] at hs
        have H : Hid (k = i) := hik
        clear hik hd
        go_wp2_with (go_at_call 62; refine hs.mono ?_; rintro e w' ⟨rfl, rfl⟩)
        go_ret2
        exact ⟨ret_pair (by rw [← H.out, codeOf_lt hlt]) rfl, hB2⟩
      · have hd : decide (k = i) = false := decide_eq_false hik
        rw [hd] at hs
        clear hd
        go_wp2_with (go_at_call 62; refine hs.mono ?_; rintro e w' ⟨rfl, rfl⟩)
        go_round
        case rel => exact ⟨k + 1, by omega, by omega, rfl, by go_num⟩
        case measure => simp [intOf]; omega
    · clear hc2
      go_wp2
      go_ret2
      exact ⟨ret_pair (codeOf_8 (by omega)).symm rfl, hB2⟩
set_option maxHeartbeats 1000000 in
theorem code_fault {a : Nat → Addr} {s : Nat → ByteArray} (w : World) (hE : Errs a s w) (pb i : Nat) (hi : i < 8) (n : Int) (h0 : w.cell? ⟨pb, 0, none⟩ = some (.int .i64 n)) (h1 : w.cell? ⟨pb, 0 + 1, none⟩ = some (.iface 233 (.pointer (some (a i))))) :
    Calls Tryz.prog 31 #[.iface 93 (.pointer (some ⟨pb, 0, none⟩))] w fun e w' => e = .returned (.tuple #[.int .i64 (i + 1), .int .i64 n]) ∧ Below w.heap.size w w' := by
  have hE0 : Errs a s (w.alloc (.cells #[.pointer none] 93)) := hE.below ((Below.refl _ _).alloc (Nat.le_refl _) _)
  have hg := hE0.typ
  go_enter Tryz.func31, Tryz.ntmps31
  go_wp2_with fail
  refine (as_hit ⟨pb, 0, none⟩ ⟨w.heap.size, 0, none⟩ (.pointer none) _ hg (by simp) (by simp)).mono ?_
  rintro e w1 ⟨rfl, hw1⟩
  have hf1 : w1.cell? ⟨w.heap.size, 0, none⟩ = some (.pointer (some ⟨pb, 0, none⟩)) := by
    rw [hw1]
    refine World.cell?_setCell_same _ _ _ (u := .pointer none) ?_
    rw [World.cell?_alloc_lt _ _ _ (by simp; omega), World.cell?_alloc_lt _ _ _ (by simp; omega), World.cell?_alloc_lt _ _ _ (by simp; omega), World.cell?_alloc_lt _ _ _ (by simp)]
    simp
  have hB1 : Below w.heap.size w w1 := by
    rw [hw1]
    exact (((((((Below.refl _ _).alloc (Nat.le_refl _) _).alloc (by simp) _).alloc (by simp; omega) _).alloc (by simp; omega) _).alloc (by simp; omega) _).setCell (Nat.le_refl _) _)
  have hE1 := hE.below hB1
  have hn1 : w1.cell? ⟨pb, 0, none⟩ = some (.int .i64 n) := by rw [hB1.cell (cell_lt h0)]; exact h0
  clear hw1 hg hE0
  have g0 : w1.cell? ⟨3, 0, none⟩ = some (.iface 233 (.pointer (some (a 0)))) := hE1.glob 0 (by decide)
  have g1 : w1.cell? ⟨0, 0, none⟩ = some (.iface 233 (.pointer (some (a 1)))) := hE1.glob 1 (by decide)
  have g2 : w1.cell? ⟨1, 0, none⟩ = some (.iface 233 (.pointer (some (a 2)))) := hE1.glob 2 (by decide)
  have g3 : w1.cell? ⟨4, 0, none⟩ = some (.iface 233 (.pointer (some (a 3)))) := hE1.glob 3 (by decide)
  have g4 : w1.cell? ⟨5, 0, none⟩ = some (.iface 233 (.pointer (some (a 4)))) := hE1.glob 4 (by decide)
  have g5 : w1.cell? ⟨6, 0, none⟩ = some (.iface 233 (.pointer (some (a 5)))) := hE1.glob 5 (by decide)
  have g6 : w1.cell? ⟨2, 0, none⟩ = some (.iface 233 (.pointer (some (a 6)))) := hE1.glob 6 (by decide)
  have g7 : w1.cell? ⟨7, 0, none⟩ = some (.iface 233 (.pointer (some (a 7)))) := hE1.glob 7 (by decide)
  go_wp2_with fail
  have hB2 := hB1.trans (((Below.refl w1.heap.size w1).alloc (Nat.le_refl _) (.cells #[.iface 233 (.pointer (some (a 0))), .iface 233 (.pointer (some (a 1))), .iface 233 (.pointer (some (a 2))), .iface 233 (.pointer (some (a 3))), .iface 233 (.pointer (some (a 4))), .iface 233 (.pointer (some (a 5))), .iface 233 (.pointer (some (a 6))), .iface 233 (.pointer (some (a 7)))] 29)).mono hB1.size)
  have hc2 := row8 a w1
  generalize w1.alloc (.cells #[.iface 233 (.pointer (some (a 0))), .iface 233 (.pointer (some (a 1))), .iface 233 (.pointer (some (a 2))), .iface 233 (.pointer (some (a 3))), .iface 233 (.pointer (some (a 4))), .iface 233 (.pointer (some (a 5))), .iface 233 (.pointer (some (a 6))), .iface 233 (.pointer (some (a 7)))] 29) = w2 at hB2 hc2 ⊢
  have hE2 := hE.below hB2
  have h2 : w2.cell? ⟨pb, 0 + 1, none⟩ = some (.iface 233 (.pointer (some (a i)))) := by rw [hB2.cell (cell_lt h1)]; exact h1
  clear g0 g1 g2 g3 g4 g5 g6 g7 hE1 hf1 hn1
  go_loop [3, 26] (fun u v => ∃ k : Nat, k ≤ 8 ∧ k ≤ i ∧ u = .int .i64 n ∧ v = .int .i64 k) (fun _ v => 8 - (intOf v).toNat)
  case atStart => exact ⟨0, by omega, by omega, rfl, rfl⟩
  case round =>
    obtain ⟨k, hk8, hki, rfl, rfl⟩ := hrel
    by_cases hlt : k < 8
    · have hc := hc2 k hlt
      have hs := is_fault_at hE2 pb i hi h2 k hlt (decide (k = i)) (by rw [decide_eq_true_iff]; exact eq_comm)
      clear hc2
      by_cases hik : k = i
      · have hd : decide (k = i) = true := decide_eq_true hik
        rw [hd] at hs
        have H : Hid (k = i) := hik
        clear hik hd
        go_wp2_with (go_at_call 62; refine hs.mono ?_; rintro e w' ⟨rfl, rfl⟩)
        go_ret2
        exact ⟨ret_pair (by rw [← H.out]) rfl, hB2⟩
      · have hd : decide (k = i) = false := decide_eq_false hik
        rw [hd] at hs
        clear hd
        go_wp2_with (go_at_call 62; refine hs.mono ?_; rintro e w' ⟨rfl, rfl⟩)
        go_round
        case rel => exact ⟨k + 1, by omega, by omega, rfl, by go_num⟩
        case measure => simp [intOf]; omega
    · exact absurd (Nat.lt_of_le_of_lt hki hi) hlt
theorem Errs.of_heap {a : Nat → Addr} {s : Nat → ByteArray} {w w' : World} (h : Errs a s w) (e : w'.heap = w.heap) : Errs a s w' where
  typ := by have := h.typ; simp only [World.cell?, e] at this ⊢; exact this
  glob := fun k hk => by have := h.glob k hk; simp only [World.cell?, e] at this ⊢; exact this
  row := fun k hk => by rw [e]; exact h.row k hk
  text := fun k hk => by have := h.text k hk; simp only [World.cell?, e] at this ⊢; exact this
  apart := h.apart

/-- coded of a nil error: whether the number is 0. -/
theorem coded_nil (n : Int) (w : World) : Calls Tryz.prog 11 #[.nilIface, .int .i64 n] w fun e w' => e = .returned (.bool (decide (n = 0))) ∧ w' = w := by
  by_cases h : n = 0
  · subst h
    go_enter Tryz.func11, Tryz.ntmps11
    go_wp2_with (go_at_call 31; refine (code_nil _).mono ?_; rintro e w' ⟨rfl, rfl⟩)
    go_ret
    exact ⟨rfl, rfl⟩
  · have h' : ((0 : Int) == n) = false := beq_eq_false_iff_ne.2 (fun e => h e.symm)
    rw [decide_eq_false h]
    go_enter Tryz.func11, Tryz.ntmps11
    go_wp2_with (go_at_call 31; refine (code_nil _).mono ?_; rintro e w' ⟨rfl, rfl⟩)
    go_ret
    exact ⟨rfl, rfl⟩
/-- coded of the i-th error: whether the number is the error's. -/
theorem coded_es {a : Nat → Addr} {s : Nat → ByteArray} (w : World) (hE : Errs a s w) (i : Nat) (hi : i < 8) (n : Int) :
    Calls Tryz.prog 11 #[.iface 233 (.pointer (some (a i))), .int .i64 n] w fun e w' => e = .returned (.bool (decide (n = (i : Int) + 1))) ∧ Below w.heap.size w w' := by
  have hb : ∀ k, k < 8 → (a i = a k ↔ k = i) := fun k hk => ⟨fun h => by
    rcases Nat.decEq k i with h' | h'
    · exact absurd h.symm (hE.apart k i hk hi h')
    · exact h', fun h => by rw [h]⟩
  have hc := code_es w hE (a i) i (Nat.le_of_lt hi) hb (hE.row i hi)
  rw [codeOf_lt hi] at hc
  clear hb
  by_cases h : n = (i : Int) + 1
  · rw [decide_eq_true h]
    subst h
    go_enter Tryz.func11, Tryz.ntmps11
    go_wp2_with (go_at_call 31; refine hc.mono ?_; rintro e w' ⟨rfl, hw⟩)
    go_ret
    exact ⟨rfl, hw⟩
  · have h' : ((i : Int) + 1 == n) = false := beq_eq_false_iff_ne.2 (fun e => h e.symm)
    rw [decide_eq_false h]
    clear h
    go_enter Tryz.func11, Tryz.ntmps11
    go_wp2_with (go_at_call 31; refine hc.mono ?_; rintro e w' ⟨rfl, hw⟩)
    go_ret
    exact ⟨rfl, hw⟩
end Go.Proofs.YthmjdfjchhohgaaGreatDoor
