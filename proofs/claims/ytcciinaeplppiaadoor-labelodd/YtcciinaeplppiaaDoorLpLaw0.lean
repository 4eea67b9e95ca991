/- What the statement on labels asks of errors and faults, both sides told in one way. -/
import Derived.Test.YtcciinaeplppiaaDoorLpWalk
import Derived.Test.YtcciinaeplppiaaDoorLpCorner
import Derived.Test.YtcciinaeplppiaaDoorLabWalkOf
import Derived.Test.YtcciinaeplppiaaDoorFaulted4
import Derived.Test.YtcciinaeplppiaaDoorRefA0
namespace Go.Proofs.YtcciinaeplppiaaDoor
open Go.RowKit Go.Sort

/-- A slice of no elements in a block of its own. -/
theorem alloc_new3 (w : World) (o : Obj) : (w.alloc o).heap[w.heap.size]? = some o := by
  rw [alloc_eq_grow]
  show (w.heap ++ #[o])[w.heap.size]? = some o
  rw [Array.getElem?_append_right (Nat.le_refl _), Nat.sub_self]
  rfl
theorem own_empty3 (w : World) (t : TypeId) (base : Nat) (hb : base ≤ w.heap.size) : (w.alloc (.cells #[] t)).ownsRow base t 1 (.slice (some ⟨w.heap.size, 0, none⟩) 0 0) 0 [] :=
  ⟨rfl, .inr ⟨w.heap.size, 0, #[], rfl, hb, alloc_new3 w _, Nat.le_refl _, Nat.zero_le _, rfl, rfl⟩⟩

set_option maxRecDepth 100000 in
theorem faulted_es {a : Nat → Addr} {t : Nat → ByteArray} {i : Nat} (w : World) (hE : Errs a t w) (hi : i < 8) :
    Calls Tryd.prog 16 #[erV (a i), .agg #[.int .i64 ((i : Int) + 1), .int .i64 (-1)]] w fun e w' => e = .returned (.bool true) ∧ Below w.heap.size w w' := by
  unfold erV
  have hBa : Below w.heap.size w (w.alloc (.cells #[.int .i64 ((i : Int) + 1), .int .i64 (-1)] 38)) := (Below.refl _ w).alloc (Nat.le_refl _) _
  have hb := fault_cells w (.int .i64 ((i : Int) + 1)) (.int .i64 (-1)) 38
  have hne : ∀ k, k < 8 → (a i = a k ↔ k = i) := fun k hk => ⟨fun h => by
    rcases Nat.decEq k i with h' | h'
    · exact absurd h (hE.apart i k hi hk (fun e => h' e.symm))
    · exact h', fun h => by rw [h]⟩
  have hco := code_es (w.alloc (.cells #[.int .i64 ((i : Int) + 1), .int .i64 (-1)] 38)) (hE.below hBa) (a i) i (by omega) hne ((hE.below hBa).row i hi)
  rw [show codeOf i = (i : Int) + 1 by unfold codeOf; rw [if_pos hi]] at hco
  clear hE hne
  go_enter Tryd.func16, Tryd.ntmps16
  go_wp2_with fail
  refine hco.mono ?_
  clear hco
  rintro e w2 ⟨rfl, hB2⟩
  have c0 := (hB2.cell (p := ⟨w.heap.size, 0, none⟩) (by simp)).trans hb.1
  have c1 : w2.cell? ⟨w.heap.size, 1, none⟩ = some (.int .i64 (-1)) := (hB2.cell (p := ⟨w.heap.size, 0 + 1, none⟩) (by simp)).trans hb.2
  have hn : (((i : Int) + 1) == 0) = false := beq_false_of_ne (by omega)
  have HB2 : Hid (Below w.heap.size w w2) := hBa.trans (hB2.mono (by simp))
  clear hB2 hb
  go_wp2
  go_ret
  exact ⟨rfl, HB2.out⟩

theorem faulted_is {a : Nat → Addr} {sx : Nat → ByteArray} {n : Int} {ls : List Int} {ve : Value} {c p : Int} (w : World) (hE : Errs a sx w) (h : IsErr a w n ls ve) (hf : FaultIs n ls c p) :
    Calls Tryd.prog 16 #[ve, .agg #[.int .i64 c, .int .i64 p]] w fun e w' => e = .returned (.bool true) ∧ Below w.heap.size w w' := by
  obtain ⟨c', p', h1, h2, h3⟩ := h
  obtain ⟨rfl, rfl⟩ := FaultIs.one hf h1
  rcases h2 with ⟨rfl, _⟩ | ⟨i, hi, rfl, rfl, rfl⟩ | ⟨i, hi, rfl, hfa⟩
  · omega
  · exact faulted_es w hE hi
  · exact faulted_at w hE hfa hi

/-- An error, as a value. -/
theorem IsErr.form {a : Nat → Addr} {w : World} {n : Int} {ls : List Int} {ve : Value} (h : IsErr a w n ls ve) : ∃ t q, ve = .iface t (.pointer (some q)) := by
  obtain ⟨c, p, h1, h2, h3⟩ := h
  rcases h2 with ⟨rfl, _⟩ | ⟨i, hi, rfl, rfl, rfl⟩ | ⟨i, hi, rfl, q, rfl, _⟩
  · omega
  · exact ⟨_, _, rfl⟩
  · exact ⟨_, _, rfl⟩
/-- What the reference says of labels that may not stand. -/
theorem fault_bad {ls : List Int} {n : Int} (vl : Value) (w : World) (hl : Ints w vl ls) (h9 : ls.length ≤ 1000) (hg : ¬ GoodLab n ls) :
    Calls Tryd.prog 12 #[.int .i64 n, vl] w fun e w' => ∃ c p, e = .returned (.agg #[.int .i64 c, .int .i64 p]) ∧ FaultIs n ls c p ∧ 0 < c ∧ Below w.heap.size w w' := by
  refine (labelFault_ n vl w hl h9).mono fun e w' h => ?_
  obtain ⟨c, p, h1, h2, h3⟩ := h
  refine ⟨c, p, h1, h2, ?_, h3⟩
  rcases h2 with ⟨_, rfl, _⟩ | ⟨_, ⟨_, rfl, _⟩ | ⟨_, ⟨i, _, _, _, rfl, _⟩ | ⟨h5, rfl, rfl⟩⟩⟩
  · omega
  · omega
  · omega
  · rename_i g1 g2
    exact absurd ⟨g1, g2, h5⟩ hg
theorem fault_good {ls : List Int} {n : Int} (vl : Value) (w : World) (hl : Ints w vl ls) (h9 : ls.length ≤ 1000) (hg : GoodLab n ls) :
    Calls Tryd.prog 12 #[.int .i64 n, vl] w fun e w' => e = .returned (.agg #[.int .i64 0, .int .i64 (-1)]) ∧ Below w.heap.size w w' := by
  refine (labelFault_ n vl w hl h9).mono fun e w' h => ?_
  obtain ⟨c, p, h1, h2, h3⟩ := h
  obtain ⟨rfl, rfl⟩ := FaultIs.one h2 (FaultIs.good hg)
  exact ⟨h1, h3⟩

theorem full_few {n : Nat} (hn : n ≤ 12) (ls : List Int) : (fullL ls (smallL n)).length ≤ 1000000 := by
  unfold fullL fullTo
  rw [List.length_map]
  have h1 := List.length_filter_le (fun i => fullR ls ((smallL n)[i]?.getD [])) (List.range (smallL n).length)
  rw [List.length_range] at h1
  exact Nat.le_trans h1 (smallL_few hn)
theorem thru_few (T : List (List Int)) (ls : List Int) : ∀ (f : Nat) (e : List Int) (frm : Int) (out : List Int), (thru T ls f e frm out).1.length ≤ out.length + f
  | 0, _, _, _ => by simp [thru]
  | f + 1, e, frm, out => by
    rw [thru]
    split
    · exact Nat.le_add_right _ _
    · split
      · show (out ++ [_]).length ≤ out.length + (f + 1)
        rw [List.length_append]
        show out.length + 1 ≤ _
        omega
      · refine Nat.le_trans (thru_few T ls f _ _ _) ?_
        rw [List.length_append]
        show out.length + 1 + f ≤ _
        omega
theorem small_sq : allN (fun n => decide ((smallL n).length ≤ 1000)) 12 = true := by decide +kernel
theorem walk_few {n : Nat} (hn : n ≤ 12) (ls : List Int) : (walkL n ls).length ≤ 1000000 := by
  have hs : (smallL n).length ≤ 1000 := of_decide_eq_true (allN_at small_sq hn)
  have h : ∀ i, (walkTo n ls i).length ≤ 1001 := fun i => by
    induction i with
    | zero => simp [walkTo]
    | succ i ih =>
      rw [walkTo]
      split
      · have := thru_few (smallL n) ls ((smallL n).length + 1) (sideD n (i + 1)) (-1) []
        simp only [List.length_nil] at this
        omega
      · exact ih
  have := h n
  unfold walkL
  omega

end Go.Proofs.YtcciinaeplppiaaDoor
