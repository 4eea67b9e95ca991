/- The program's points of a divided triangle. -/
import Derived.Test.YtbohobelbgbibaaDoorLpTri
namespace Go.Proofs.YtbohobelbgbibaaDoor
open Go.RowKit Go.Sort

theorem ptsL_le {m i : Nat} (hm : m ≤ 13) (hi : i ≤ m) : (allS (m - 1) i).length ≤ 91 := by
  rcases Nat.eq_zero_or_pos m with h | h
  · subst h
    obtain rfl : i = 0 := by omega
    decide
  · exact allS_le (by omega) (by omega)

set_option maxRecDepth 100000 in
set_option maxHeartbeats 2000000 in
theorem points_ (m : Nat) (hm : m ≤ 13) (w : World) :
    Calls Tryd.prog 29 #[.int .i64 ((m : Int) - 1)] w fun e w' => ∃ v, e = .returned v ∧ TriRow w.heap.size w' v ((ptsL m).map spT) ∧ Below w.heap.size w w' := by
  obtain ⟨i0, hi0, hz0, hz1, hz2⟩ := info_parts Tryd.infoT3
  go_enter Tryd.func29, Tryd.ntmps29
  go_wp2_with fail
  go_loopw [3, 8] (fun po p W => ∃ (vo : Value) (i : Nat), i ≤ m ∧ po = vo ∧ p = .int .i64 (i : Int) ∧ Hid (TriRow w.heap.size W vo ((allS (m - 1) i).map spT) ∧ Below w.heap.size w W)) (fun _ p _ => m - (intOf p).toNat)
  case atStart => exact ⟨_, 0, by omega, rfl, rfl, TriRow.nil _ _, Below.refl _ _⟩
  case round =>
    obtain ⟨vo, i, hi, rfl, rfl, HK⟩ := hrel
    obtain ⟨ao, co, rfl⟩ := HK.out.1.form
    by_cases hin : i < m
    · have HS : Hid (TriRow w.heap.size wr (.slice ao ((allS (m - 1) i).map spT).length co) ((allS (m - 1) i ++ rowS (m - 1) i 0).map spT) ∧ Below w.heap.size w wr) := by
        have : rowS (m - 1) i 0 = [] := rfl
        rw [this, List.append_nil]; exact HK.out
      obtain ⟨L, hL⟩ : ∃ L, ((allS (m - 1) i).map spT).length = L := ⟨_, rfl⟩
      rw [hL] at HS ⊢
      clear hL HK
      go_wp2_with fail
      go_loopw [3, 15] (fun po p W => ∃ (vo : Value) (j : Nat), j ≤ m - i ∧ po = vo ∧ p = .int .i64 (j : Int) ∧ Hid (TriRow w.heap.size W vo ((allS (m - 1) i ++ rowS (m - 1) i j).map spT) ∧ Below w.heap.size w W)) (fun _ p _ => m - i - (intOf p).toNat)
      case atStart => exact ⟨_, 0, by omega, rfl, rfl, HS.out⟩
      case round =>
        obtain ⟨vo, j, hj, rfl, rfl, HJ⟩ := hrel
        obtain ⟨ao2, co2, hvo⟩ := HJ.out.1.form
        have hlen : ((allS (m - 1) i ++ rowS (m - 1) i j).map spT).length ≤ 200 := by
          have := ptsL_le hm (i := i) (by omega)
          rw [List.length_map, List.length_append, rowS_len]; omega
        obtain ⟨M, hM⟩ : ∃ M, ((allS (m - 1) i ++ rowS (m - 1) i j).map spT).length = M := ⟨_, rfl⟩
        have HM : Hid (((allS (m - 1) i ++ rowS (m - 1) i j).map spT).length = M) := hM
        rw [hM] at hvo hlen
        subst hvo
        clear hM
        by_cases hjn : i + j < m
        · obtain ⟨q, hq⟩ : ∃ q, m - 1 - i - j = q := ⟨_, rfl⟩
          have e1 : (m : Int) - 1 - (i : Int) - (j : Int) = (q : Int) := by omega
          have HOW : Hid (wr.ownsRow w.heap.size 36 3 (.slice ao2 M co2) M (t3Cells ((allS (m - 1) i ++ rowS (m - 1) i j).map spT))) := by
            have := HJ.out.1
            unfold TriRow at this
            rw [HM.out] at this
            exact this
          have hws : w.heap.size ≤ wr.heap.size := HJ.out.2.size
          have HQ : Hid (m - 1 - i - j = q) := hq
          clear hq
          go_wp2_with (first
            | (at_builtin; refine wpList_append_own_at _ rfl (.tmp 18) (.tmp 27) 28 rfl w.heap.size 36 i0 (.agg #[.int .i64 0, .int .i64 0, .int .i64 0]) 3 24 Tryd.underlying28 hi0 hz0 hz1 hz2 rfl (by decide) _ M _ rfl (HOW.out.alloc _) ⟨_, 0, none⟩ 1 1 [.int .i64 (i : Int), .int .i64 (j : Int), .int .i64 (q : Int)] rfl rfl (cells_new _ _ _) (by simp [Value.oneCell']) (by unfold maxLen; omega) (by omega) (by simp; omega) ?_; intro v5 w5 hown5 hg5 hn5 hl5; have H5 := Hid.mk' (And.intro hown5 (And.intro hg5 hl5)); clear hown5 hg5 hn5 hl5)
            | fail)
          go_roundw
          case rel =>
            refine ⟨_, j + 1, by omega, rfl, by go_num, ?_, (HJ.out.2.alloc hws _).grown H5.out.2.1 (by simp; omega) (fun b e => (HOW.out.lt b e).1)⟩
            unfold TriRow
            rw [rowS_more, ← List.append_assoc, List.map_append, List.length_append, HM.out, t3Cells_app, HQ.out]
            exact H5.out.1
          case measure => simp [intOf]; omega
        · obtain rfl : j = m - i := by omega
          obtain ⟨j', hj'⟩ : ∃ j', m - i = j' := ⟨_, rfl⟩
          have HJ' : Hid (m - i = j') := hj'
          have hd : (j' : Int) = (m : Int) - (i : Int) := by omega
          rw [hj'] at HJ HM hj hjn ⊢
          have hj9 : j' ≤ 13 := by omega
          clear hj'
          go_wp2_with fail
          go_roundw
          case rel =>
            refine ⟨_, i + 1, by omega, rfl, by go_num, ?_, HJ.out.2⟩
            have h1 := HJ.out.1
            unfold TriRow at h1 ⊢
            rw [HM.out] at h1
            have e9 : m - 1 + 1 - i = j' := by have := HJ'.out; omega
            rw [allS_more, e9, HM.out]
            exact h1
          case measure => simp [intOf]; omega
    · obtain rfl : i = m := by omega
      go_wp2_with fail
      go_ret
      exact ⟨_, rfl, HK.out⟩

end Go.Proofs.YtbohobelbgbibaaDoor
