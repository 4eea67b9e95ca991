/- The reference's points of a divided triangle. -/
import Derived.Test.YtbohobelbgbibaaDoorLabMath
import Derived.Test.YtbohobelbgbibaaDoorWrapI
import Derived.Deep.CutRange
namespace Go.Proofs.YtbohobelbgbibaaDoor
open Go.RowKit Go.Sort

def spotCells (l : List Spt) : List Value := l.flatMap fun s => [.int .i64 (s.1 : Int), .int .i64 (s.2.1 : Int), .int .i64 (s.2.2 : Int)]
theorem spotCells_app (l m : List Spt) : spotCells (l ++ m) = spotCells l ++ spotCells m := by simp [spotCells]
theorem spotCells_len (l : List Spt) : (spotCells l).length = l.length * 3 := by
  induction l with
  | nil => rfl
  | cons s l ih => show ([Value.int .i64 (s.1 : Int), Value.int .i64 (s.2.1 : Int), Value.int .i64 (s.2.2 : Int)] ++ spotCells l).length = _; rw [List.length_append, ih]; simp only [List.length_cons, List.length_nil]; omega
theorem spotCells_at {l : List Spt} {k : Nat} {s : Spt} (h : l[k]? = some s) : (spotCells l)[k * 3]? = some (.int .i64 (s.1 : Int)) ∧ (spotCells l)[k * 3 + 1]? = some (.int .i64 (s.2.1 : Int)) ∧ (spotCells l)[k * 3 + 2]? = some (.int .i64 (s.2.2 : Int)) := by
  induction l generalizing k with
  | nil => simp at h
  | cons x l ih =>
    have e : spotCells (x :: l) = [.int .i64 (x.1 : Int), .int .i64 (x.2.1 : Int), .int .i64 (x.2.2 : Int)] ++ spotCells l := rfl
    rw [e]
    cases k with
    | zero =>
      obtain rfl := Option.some.inj h
      exact ⟨rfl, rfl, rfl⟩
    | succ k =>
      obtain ⟨h1, h2, h3⟩ := ih (by simpa using h)
      rw [Nat.succ_mul, List.getElem?_append_right (by simp), List.getElem?_append_right (by simp), List.getElem?_append_right (by simp)]
      exact ⟨h1, h2, h3⟩
/-- Points in a row of their own. -/
def SpotRow (base : Nat) (W : World) (v : Value) (l : List Spt) : Prop := W.ownsRow base 48 3 v l.length (spotCells l)
theorem SpotRow.form {base : Nat} {W : World} {v : Value} {l : List Spt} (h : SpotRow base W v l) : ∃ a c, v = .slice a l.length c := by
  obtain ⟨_, h⟩ := h
  rcases h with ⟨rfl, h⟩ | ⟨g, cap, cur, rfl, _⟩
  · rw [h]; exact ⟨_, _, rfl⟩
  · exact ⟨_, _, rfl⟩
theorem SpotRow.cells {base : Nat} {W : World} {g c : Nat} {l : List Spt} (h : SpotRow base W (.slice (some ⟨g, 0, none⟩) l.length c) l) {k : Nat} {s : Spt} (hk : l[k]? = some s) : W.cell? ⟨g, k * 3, none⟩ = some (.int .i64 (s.1 : Int)) ∧ W.cell? ⟨g, k * 3 + 1, none⟩ = some (.int .i64 (s.2.1 : Int)) ∧ W.cell? ⟨g, k * 3 + 2, none⟩ = some (.int .i64 (s.2.2 : Int)) := by
  have hl : k < l.length := (List.getElem?_eq_some_iff.1 hk).1
  have hs := spotCells_len l
  obtain ⟨h1, h2, h3⟩ := spotCells_at hk
  have h' : W.ownsRow base 48 3 (.slice (some ⟨g, 0, none⟩) l.length c) l.length (spotCells l) := h
  exact ⟨by rw [h'.cellAt (k * 3) (by omega)]; exact h1, by rw [h'.cellAt (k * 3 + 1) (by omega)]; exact h2, by rw [h'.cellAt (k * 3 + 2) (by omega)]; exact h3⟩
theorem Tryd.infoSpot : (Tryd.prog.info? 48).map (fun i => (i.zero, i.size, i.bytes)) = some (some (.agg #[.int .i64 0, .int .i64 0, .int .i64 0]), 3, 24) := by kernel_rfl

set_option maxRecDepth 100000 in
set_option maxHeartbeats 2000000 in
theorem spots_ (n : Nat) (hn : n ≤ 12) (w : World) :
    Calls Tryd.prog 11 #[.int .i64 (n : Int)] w fun e w' => ∃ v, e = .returned v ∧ SpotRow w.heap.size w' v (spotsL n) ∧ Below w.heap.size w w' := by
  obtain ⟨i0, hi0, hz0, hz1, hz2⟩ := info_parts Tryd.infoSpot
  go_enter Tryd.func11, Tryd.ntmps11
  go_wp2_with fail
  go_loopw [3, 4] (fun po p W => ∃ (vo : Value) (i : Nat), i ≤ n + 1 ∧ po = vo ∧ p = .int .i64 (i : Int) ∧ Hid (SpotRow w.heap.size W vo (allS n i) ∧ Below w.heap.size w W)) (fun _ p _ => n + 1 - (intOf p).toNat)
  case atStart => exact ⟨_, 0, by omega, rfl, rfl, World.ownsRow_nil _ _ _ _, Below.refl _ _⟩
  case round =>
    obtain ⟨vo, i, hi, rfl, rfl, HK⟩ := hrel
    obtain ⟨ao, co, rfl⟩ := HK.out.1.form
    by_cases hin : i ≤ n
    · have HS : Hid (SpotRow w.heap.size wr (.slice ao (allS n i).length co) (allS n i ++ rowS n i 0) ∧ Below w.heap.size w wr) := by
        have : rowS n i 0 = [] := rfl
        rw [this, List.append_nil]; exact HK.out
      obtain ⟨L, hL⟩ : ∃ L, (allS n i).length = L := ⟨_, rfl⟩
      rw [hL] at HS ⊢
      clear hL HK
      go_wp2_with fail
      go_loopw [3, 5] (fun po p W => ∃ (vo : Value) (j : Nat), j ≤ n + 1 - i ∧ po = vo ∧ p = .int .i64 (j : Int) ∧ Hid (SpotRow w.heap.size W vo (allS n i ++ rowS n i j) ∧ Below w.heap.size w W)) (fun _ p _ => n + 1 - i - (intOf p).toNat)
      case atStart => exact ⟨_, 0, by omega, rfl, rfl, HS.out⟩
      case round =>
        obtain ⟨vo, j, hj, rfl, rfl, HJ⟩ := hrel
        obtain ⟨ao2, co2, hvo⟩ := HJ.out.1.form
        have hlen : (allS n i ++ rowS n i j).length ≤ 200 := by
          have := allS_le hn (i := i) (by omega)
          rw [List.length_append, rowS_len]; omega
        obtain ⟨M, hM⟩ : ∃ M, (allS n i ++ rowS n i j).length = M := ⟨_, rfl⟩
        have HM : Hid ((allS n i ++ rowS n i j).length = M) := hM
        rw [hM] at hvo hlen
        subst hvo
        clear hM
        by_cases hjn : i + j ≤ n
        · have e1 : (n : Int) - (i : Int) - (j : Int) = ((n - i - j : Nat) : Int) := by omega
          have HOW : Hid (wr.ownsRow w.heap.size 48 3 (.slice ao2 M co2) M (spotCells (allS n i ++ rowS n i j))) := by
            have := HJ.out.1
            unfold SpotRow at this
            rw [HM.out] at this
            exact this
          have hws : w.heap.size ≤ wr.heap.size := HJ.out.2.size
          obtain ⟨q, hq⟩ : ∃ q, n - i - j = q := ⟨_, rfl⟩
          have HQ : Hid (n - i - j = q) := hq
          rw [hq] at e1
          clear hq
          go_wp2_with (first
            | (at_builtin; refine wpList_append_own_at _ rfl (.tmp 18) (.tmp 27) 34 rfl w.heap.size 48 i0 (.agg #[.int .i64 0, .int .i64 0, .int .i64 0]) 3 24 Tryd.underlying34 hi0 hz0 hz1 hz2 rfl (by decide) _ M _ rfl (HOW.out.alloc _) ⟨_, 0, none⟩ 1 1 [.int .i64 (i : Int), .int .i64 (j : Int), .int .i64 (q : Int)] rfl rfl (cells_new _ _ _) (by simp [Value.oneCell']) (by unfold maxLen; omega) (by omega) (by simp; omega) ?_; intro v5 w5 hown5 hg5 hn5 hl5; have H5 := Hid.mk' (And.intro hown5 (And.intro hg5 hl5)); clear hown5 hg5 hn5 hl5)
            | fail)
          go_roundw
          case rel =>
            refine ⟨_, j + 1, by omega, rfl, by go_num, ?_, (HJ.out.2.alloc hws _).grown H5.out.2.1 (by simp; omega) (fun b e => (HOW.out.lt b e).1)⟩
            unfold SpotRow
            rw [rowS_more, ← List.append_assoc, List.length_append, HM.out, spotCells_app, HQ.out]
            exact H5.out.1
          case measure => simp [intOf]; omega
        · obtain rfl : j = n + 1 - i := by omega
          have hd : ¬ ((i : Int) + ((n + 1 - i : Nat) : Int) ≤ (n : Int)) := by omega
          obtain ⟨j', hj'⟩ : ∃ j', n + 1 - i = j' := ⟨_, rfl⟩
          have HJ' : Hid (n + 1 - i = j') := hj'
          rw [hj'] at hd HJ HM hj hjn ⊢
          have hj9 : j' ≤ 13 := by omega
          clear hj'
          go_wp2_with fail
          go_roundw
          case rel =>
            refine ⟨_, i + 1, by omega, rfl, by go_num, ?_, HJ.out.2⟩
            have h1 := HJ.out.1
            unfold SpotRow at h1 ⊢
            rw [HM.out] at h1
            rw [allS_more, HJ'.out, HM.out]
            exact h1
          case measure => simp [intOf]; omega
    · obtain rfl : i = n + 1 := by omega
      go_wp2_with fail
      go_ret
      exact ⟨_, rfl, HK.out⟩

set_option maxRecDepth 100000 in
set_option maxHeartbeats 2000000 in
theorem near_ (p q : Spt) (hp : p.1 ≤ 12 ∧ p.2.1 ≤ 12 ∧ p.2.2 ≤ 12) (hq : q.1 ≤ 12 ∧ q.2.1 ≤ 12 ∧ q.2.2 ≤ 12) (w : World) :
    Calls Tryd.prog 28 #[.agg #[.int .i64 (p.1 : Int), .int .i64 (p.2.1 : Int), .int .i64 (p.2.2 : Int)], .agg #[.int .i64 (q.1 : Int), .int .i64 (q.2.1 : Int), .int .i64 (q.2.2 : Int)]] w fun e w' => e = .returned (.bool (nearN p q)) ∧ Below w.heap.size w w' := by
  obtain ⟨a1, a2, a3⟩ := p
  obtain ⟨b1, b2, b3⟩ := q
  obtain ⟨h1, h2, h3⟩ := hp
  obtain ⟨k1, k2, k3⟩ := hq
  dsimp only at h1 h2 h3 k1 k2 k3 ⊢
  have e1 := sqN_eq a1 b1
  have e2 := sqN_eq a2 b2
  have e3 := sqN_eq a3 b3
  have l1 := sqN_le h1 k1
  have l2 := sqN_le h2 k2
  have l3 := sqN_le h3 k3
  have hN : nearN (a1, a2, a3) (b1, b2, b3) = decide (sqN a1 b1 + sqN a2 b2 + sqN a3 b3 = 2) := by
    unfold nearN
    exact (Bool.beq_eq_decide_eq _ _)
  rw [hN]
  obtain ⟨s1, hs1⟩ : ∃ s, sqN a1 b1 = s := ⟨_, rfl⟩
  obtain ⟨s2, hs2⟩ : ∃ s, sqN a2 b2 = s := ⟨_, rfl⟩
  obtain ⟨s3, hs3⟩ : ∃ s, sqN a3 b3 = s := ⟨_, rfl⟩
  rw [hs1] at e1 l1 ⊢
  rw [hs2] at e2 l2 ⊢
  rw [hs3] at e3 l3 ⊢
  have hB : Below w.heap.size w ((w.alloc (.cells #[.int .i64 (a1 : Int), .int .i64 (a2 : Int), .int .i64 (a3 : Int)] 48)).alloc (.cells #[.int .i64 (b1 : Int), .int .i64 (b2 : Int), .int .i64 (b3 : Int)] 48)) := ((Below.refl _ w).alloc (Nat.le_refl _) _).alloc (by simp) _
  have HB := Hid.mk' hB
  have hp := cells_new w [.int .i64 (a1 : Int), .int .i64 (a2 : Int), .int .i64 (a3 : Int)] 48
  have hq := cells_new (w.alloc (.cells #[.int .i64 (a1 : Int), .int .i64 (a2 : Int), .int .i64 (a3 : Int)] 48)) [.int .i64 (b1 : Int), .int .i64 (b2 : Int), .int .i64 (b3 : Int)] 48
  have keep : ∀ k v, (w.alloc (.cells #[.int .i64 (a1 : Int), .int .i64 (a2 : Int), .int .i64 (a3 : Int)] 48)).cell? ⟨w.heap.size, k, none⟩ = some v → ((w.alloc (.cells #[.int .i64 (a1 : Int), .int .i64 (a2 : Int), .int .i64 (a3 : Int)] 48)).alloc (.cells #[.int .i64 (b1 : Int), .int .i64 (b2 : Int), .int .i64 (b3 : Int)] 48)).cell? ⟨w.heap.size, k, none⟩ = some v := fun k v h => (World.cell?_alloc_lt _ _ ⟨w.heap.size, k, none⟩ (by simp)).trans h
  have c0 := hp 0 _ rfl
  have c1 := hp 1 _ rfl
  have c2 := hp 2 _ rfl
  have d0 := hq 0 _ rfl
  have d1 := hq 1 _ rfl
  have d2 := hq 2 _ rfl
  rw [Addr.add_lit, Nat.zero_add] at c0 c1 c2 d0 d1 d2
  have c0' := keep 0 _ c0
  have c1' := keep 1 _ c1
  have c2' := keep 2 _ c2
  obtain ⟨W2, hW2⟩ : ∃ W2, (w.alloc (.cells #[.int .i64 (a1 : Int), .int .i64 (a2 : Int), .int .i64 (a3 : Int)] 48)).alloc (.cells #[.int .i64 (b1 : Int), .int .i64 (b2 : Int), .int .i64 (b3 : Int)] 48) = W2 := ⟨_, rfl⟩
  rw [show (List.toArray [Value.int .i64 (b1 : Int), .int .i64 (b2 : Int), .int .i64 (b3 : Int)]) = #[.int .i64 (b1 : Int), .int .i64 (b2 : Int), .int .i64 (b3 : Int)] from rfl] at d0 d1 d2
  rw [hW2, World.size_alloc] at d0 d1 d2
  rw [hW2] at c0' c1' c2' HB
  have HW : Hid ((w.alloc (.cells #[.int .i64 (a1 : Int), .int .i64 (a2 : Int), .int .i64 (a3 : Int)] 48)).alloc (.cells #[.int .i64 (b1 : Int), .int .i64 (b2 : Int), .int .i64 (b3 : Int)] 48) = W2) := hW2
  clear hs1 hs2 hs3 hN hB hp hq keep c0 c1 c2 hW2
  by_cases hs : s1 + s2 + s3 = 2
  · have hz : (s1 : Int) + (s2 : Int) + (s3 : Int) = 2 := by omega
    rw [decide_eq_true hs]
    go_enter Tryd.func28, Tryd.ntmps28
    go_upto_region 1 with fail
    rw [HW.out]
    go_wp2_with fail
    go_ret
    exact ⟨rfl, HB.out⟩
  · have hz : ((s1 : Int) + (s2 : Int) + (s3 : Int) == 2) = false := beq_false_of_ne (by omega)
    rw [decide_eq_false hs]
    go_enter Tryd.func28, Tryd.ntmps28
    go_upto_region 1 with fail
    rw [HW.out]
    go_wp2_with fail
    go_ret
    exact ⟨rfl, HB.out⟩

end Go.Proofs.YtbohobelbgbibaaDoor
