/- The small triangles of a square, by the program. -/
import Derived.Test.YtbohobelbgbibaaDoorTkPlace
import Derived.Test.YtbohobelbgbibaaDoorLpHouse
namespace Go.Proofs.YtbohobelbgbibaaDoor
open Go.RowKit Go.Sort

/-- The triangles of the small square whose first point has this number. -/
def cutAt (n p : Nat) : List T3 := if p % sdN n = 2 * n ∨ p / sdN n = 2 * n then [] else if (n ≤ p % sdN n ↔ n ≤ p / sdN n) then [((p : Int), (p : Int) + 1, (p : Int) + (sdN n : Int) + 1), ((p : Int), (p : Int) + (sdN n : Int), (p : Int) + (sdN n : Int) + 1)] else [((p : Int), (p : Int) + 1, (p : Int) + (sdN n : Int)), ((p : Int) + 1, (p : Int) + (sdN n : Int), (p : Int) + (sdN n : Int) + 1)]
def cutTo (n m : Nat) : List T3 := (List.range m).flatMap (cutAt n)
def cutL (n : Nat) : List T3 := cutTo n (sdN n * sdN n)
theorem cutTo_more (n m : Nat) : cutTo n (m + 1) = cutTo n m ++ cutAt n m := by unfold cutTo; rw [List.range_succ, List.flatMap_append]; simp
theorem cutAt_len (n p : Nat) : (cutAt n p).length ≤ 2 := by
  unfold cutAt
  split
  · simp
  · split <;> simp
theorem cutTo_len (n : Nat) : ∀ m, (cutTo n m).length ≤ 2 * m
  | 0 => by simp [cutTo]
  | m + 1 => by
    have h1 := cutTo_len n m
    have h2 := cutAt_len n m
    rw [cutTo_more, List.length_append]
    omega

set_option maxRecDepth 100000 in
set_option maxHeartbeats 4000000 in
theorem cut_ (n : Nat) (h1 : 1 ≤ n) (hn : n ≤ 6) (w : World) : Calls Tryd.prog 39 #[.int .i64 (n : Int)] w fun e w' => ∃ v, e = .returned v ∧ TriRow w.heap.size w' v (cutL n) ∧ Below w.heap.size w w' := by
  obtain ⟨i0, hi0, hz0, hz1, hz2⟩ := info_parts Tryd.infoT3
  have hwi := fun V => width_ n hn V
  have hpl := fun (p : Nat) (hp : p ≤ 1000) V => place_ n p hn hp V
  have hs13 := sdN_le hn
  have hss : sdN n * sdN n ≤ 13 * 13 := Nat.mul_le_mul hs13 hs13
  have ess : (sdN n : Int) * (sdN n : Int) = ((sdN n * sdN n : Nat) : Int) := by rw [Int.natCast_mul]
  have HCM : Hid (∀ m, cutTo n (m + 1) = cutTo n m ++ cutAt n m) := fun m => cutTo_more n m
  have HCN : Hid (cutL n = cutTo n (sdN n * sdN n)) := rfl
  have HCA : Hid (∀ p, cutAt n p = if p % sdN n = 2 * n ∨ p / sdN n = 2 * n then [] else if (n ≤ p % sdN n ↔ n ≤ p / sdN n) then [((p : Int), (p : Int) + 1, (p : Int) + (sdN n : Int) + 1), ((p : Int), (p : Int) + (sdN n : Int), (p : Int) + (sdN n : Int) + 1)] else [((p : Int), (p : Int) + 1, (p : Int) + (sdN n : Int)), ((p : Int) + 1, (p : Int) + (sdN n : Int), (p : Int) + (sdN n : Int) + 1)]) := fun p => rfl
  have HLT : Hid (∀ p, p % sdN n < 13 ∧ p / sdN n ≤ p) := fun p => ⟨Nat.lt_of_lt_of_le (Nat.mod_lt _ (by unfold sdN; omega)) hs13, Nat.div_le_self _ _⟩
  obtain ⟨s, hs⟩ : ∃ s, sdN n = s := ⟨_, rfl⟩
  rw [hs] at hwi hpl hs13 hss ess HCN HCA HLT
  obtain ⟨N, hN⟩ : ∃ N, s * s = N := ⟨_, rfl⟩
  rw [hN] at hss ess HCN
  clear hs hN
  go_enter Tryd.func39, Tryd.ntmps39
  go_wp2_with (first
    | (go_at_call 37; refine (hwi _).mono ?_; rintro e w ⟨rfl, rfl⟩)
    | fail)
  go_loopw [3, 15] (fun po pk W => ∃ (vo : Value) (p : Nat), p ≤ N ∧ po = vo ∧ pk = .int .i64 (p : Int) ∧ Hid (TriRow w.heap.size W vo (cutTo n p) ∧ Below w.heap.size w W)) (fun _ pk _ => N - (intOf pk).toNat)
  case atStart => exact ⟨_, 0, by omega, rfl, rfl, TriRow.nil _ _, Below.refl _ _⟩
  case round =>
    obtain ⟨vo, p, hp, hvo, rfl, HK⟩ := hrel
    obtain ⟨ao, co, hv2⟩ := HK.out.1.form
    have hlen := cutTo_len n p
    obtain ⟨M, hM⟩ : ∃ M, (cutTo n p).length = M := ⟨_, rfl⟩
    have HM : Hid ((cutTo n p).length = M) := hM
    rw [hM] at hv2 hlen
    subst hv2
    subst hvo
    clear hM
    by_cases hpN : p < N
    · have hpp := hpl p (by omega) wr
      have hca := HCA.out p
      obtain ⟨l1, l2⟩ := HLT.out p
      obtain ⟨r, hr⟩ : ∃ r, p % s = r := ⟨_, rfl⟩
      obtain ⟨q, hq⟩ : ∃ q, p / s = q := ⟨_, rfl⟩
      rw [hr] at hpp hca l1
      rw [hq] at hpp hca l2
      have HDR : Hid (∀ V, (∃ q, V = wr.drewN q) → TriRow w.heap.size V (.slice ao M co) (cutTo n p) ∧ Below w.heap.size w V) := fun V hV => by
        obtain ⟨q', rfl⟩ := hV
        exact ⟨HK.out.1.below (drewN_below wr q'), HK.out.2.trans ((drewN_below wr q').mono HK.out.2.size)⟩
      have HCAH := Hid.mk' hca
      clear hr hq hca
      go_upto_region 6 with (go_at_call 55; refine hpp.mono ?_; rintro e V ⟨rfl, hV⟩; have H3 := Hid.mk' (HDR.out V hV); clear hV hpp)
      by_cases c1 : r = 2 * n
      · have b1 : (((r : Int) - (n : Int)) == (n : Int)) = true := by rw [beq_iff_eq]; omega
        go_wp2_with fail
        go_roundw
        case rel =>
          refine ⟨_, p + 1, by omega, rfl, by go_num, ?_, H3.out.2⟩
          rw [HCM.out, HCAH.out, if_pos (by omega), List.append_nil]; exact H3.out.1
        case measure => simp [intOf]; omega
      · by_cases c2 : q = 2 * n
        · have b1 : (((r : Int) - (n : Int)) == (n : Int)) = false := beq_false_of_ne (by omega)
          have b2 : (((q : Int) - (n : Int)) == (n : Int)) = true := by rw [beq_iff_eq]; omega
          go_wp2_with fail
          go_roundw
          case rel =>
            refine ⟨_, p + 1, by omega, rfl, by go_num, ?_, H3.out.2⟩
            rw [HCM.out, HCAH.out, if_pos (by omega), List.append_nil]; exact H3.out.1
          case measure => simp [intOf]; omega
        · by_cases c3 : n ≤ r
          · by_cases c4 : n ≤ q
            · have b1 : (((r : Int) - (n : Int)) == (n : Int)) = false := beq_false_of_ne (by omega)
              have b2 : (((q : Int) - (n : Int)) == (n : Int)) = false := beq_false_of_ne (by omega)
              have d1 : (0 : Int) ≤ (r : Int) - (n : Int) := by omega
              have d2 : (0 : Int) ≤ (q : Int) - (n : Int) := by omega
              have hws : w.heap.size ≤ V.heap.size := H3.out.2.size
              have HOW : Hid (V.ownsRow w.heap.size 36 3 (.slice ao M co) M (t3Cells (cutTo n p))) := by
                have := H3.out.1
                unfold TriRow at this
                rw [HM.out] at this
                exact this
              go_wp2_with (first
                | (go_at_call 37; refine (hwi _).mono ?_; rintro e V ⟨rfl, rfl⟩)
                | (at_builtin; refine wpList_append_own_at _ rfl (.tmp 45) (.tmp 54) 28 rfl w.heap.size 36 i0 (.agg #[.int .i64 0, .int .i64 0, .int .i64 0]) 3 24 Tryd.underlying28 hi0 hz0 hz1 hz2 rfl (by decide) _ M _ rfl (HOW.out.alloc _) ⟨_, 0, none⟩ 2 2 [.int .i64 ((p : Int)), .int .i64 ((p : Int) + 1), .int .i64 ((p : Int) + (s : Int) + 1), .int .i64 ((p : Int)), .int .i64 ((p : Int) + (s : Int)), .int .i64 ((p : Int) + (s : Int) + 1)] rfl rfl (cells_new _ _ _) (by simp [Value.oneCell']) (by unfold maxLen; omega) (by omega) (by simp; omega) ?_; intro v5 w5 hown5 hg5 hn5 hl5; have H5 := Hid.mk' (And.intro hown5 (And.intro hg5 hl5)); clear hown5 hg5 hn5 hl5)
                | fail)
              go_roundw
              case rel =>
                refine ⟨_, p + 1, by omega, rfl, by go_num, ?_, (H3.out.2.alloc hws _).grown H5.out.2.1 (by simp; omega) (fun b e => (HOW.out.lt b e).1)⟩
                unfold TriRow
                rw [HCM.out, HCAH.out, if_neg (by omega), if_pos (by omega), List.length_append, HM.out, t3Cells_app]
                exact H5.out.1
              case measure => simp [intOf]; omega
            · have b1 : (((r : Int) - (n : Int)) == (n : Int)) = false := beq_false_of_ne (by omega)
              have b2 : (((q : Int) - (n : Int)) == (n : Int)) = false := beq_false_of_ne (by omega)
              have d1 : (0 : Int) ≤ (r : Int) - (n : Int) := by omega
              have d2 : ¬ (0 : Int) ≤ (q : Int) - (n : Int) := by omega
              have hws : w.heap.size ≤ V.heap.size := H3.out.2.size
              have HOW : Hid (V.ownsRow w.heap.size 36 3 (.slice ao M co) M (t3Cells (cutTo n p))) := by
                have := H3.out.1
                unfold TriRow at this
                rw [HM.out] at this
                exact this
              go_wp2_with (first
                | (go_at_call 37; refine (hwi _).mono ?_; rintro e V ⟨rfl, rfl⟩)
                | (at_builtin; refine wpList_append_own_at _ rfl (.tmp 56) (.tmp 65) 28 rfl w.heap.size 36 i0 (.agg #[.int .i64 0, .int .i64 0, .int .i64 0]) 3 24 Tryd.underlying28 hi0 hz0 hz1 hz2 rfl (by decide) _ M _ rfl (HOW.out.alloc _) ⟨_, 0, none⟩ 2 2 [.int .i64 ((p : Int)), .int .i64 ((p : Int) + 1), .int .i64 ((p : Int) + (s : Int)), .int .i64 ((p : Int) + 1), .int .i64 ((p : Int) + (s : Int)), .int .i64 ((p : Int) + (s : Int) + 1)] rfl rfl (cells_new _ _ _) (by simp [Value.oneCell']) (by unfold maxLen; omega) (by omega) (by simp; omega) ?_; intro v5 w5 hown5 hg5 hn5 hl5; have H5 := Hid.mk' (And.intro hown5 (And.intro hg5 hl5)); clear hown5 hg5 hn5 hl5)
                | fail)
              go_roundw
              case rel =>
                refine ⟨_, p + 1, by omega, rfl, by go_num, ?_, (H3.out.2.alloc hws _).grown H5.out.2.1 (by simp; omega) (fun b e => (HOW.out.lt b e).1)⟩
                unfold TriRow
                rw [HCM.out, HCAH.out, if_neg (by omega), if_neg (by omega), List.length_append, HM.out, t3Cells_app]
                exact H5.out.1
              case measure => simp [intOf]; omega
          · by_cases c4 : n ≤ q
            · have b1 : (((r : Int) - (n : Int)) == (n : Int)) = false := beq_false_of_ne (by omega)
              have b2 : (((q : Int) - (n : Int)) == (n : Int)) = false := beq_false_of_ne (by omega)
              have d1 : ¬ (0 : Int) ≤ (r : Int) - (n : Int) := by omega
              have d2 : (0 : Int) ≤ (q : Int) - (n : Int) := by omega
              have hws : w.heap.size ≤ V.heap.size := H3.out.2.size
              have HOW : Hid (V.ownsRow w.heap.size 36 3 (.slice ao M co) M (t3Cells (cutTo n p))) := by
                have := H3.out.1
                unfold TriRow at this
                rw [HM.out] at this
                exact this
              go_wp2_with (first
                | (go_at_call 37; refine (hwi _).mono ?_; rintro e V ⟨rfl, rfl⟩)
                | (at_builtin; refine wpList_append_own_at _ rfl (.tmp 56) (.tmp 65) 28 rfl w.heap.size 36 i0 (.agg #[.int .i64 0, .int .i64 0, .int .i64 0]) 3 24 Tryd.underlying28 hi0 hz0 hz1 hz2 rfl (by decide) _ M _ rfl (HOW.out.alloc _) ⟨_, 0, none⟩ 2 2 [.int .i64 ((p : Int)), .int .i64 ((p : Int) + 1), .int .i64 ((p : Int) + (s : Int)), .int .i64 ((p : Int) + 1), .int .i64 ((p : Int) + (s : Int)), .int .i64 ((p : Int) + (s : Int) + 1)] rfl rfl (cells_new _ _ _) (by simp [Value.oneCell']) (by unfold maxLen; omega) (by omega) (by simp; omega) ?_; intro v5 w5 hown5 hg5 hn5 hl5; have H5 := Hid.mk' (And.intro hown5 (And.intro hg5 hl5)); clear hown5 hg5 hn5 hl5)
                | fail)
              go_roundw
              case rel =>
                refine ⟨_, p + 1, by omega, rfl, by go_num, ?_, (H3.out.2.alloc hws _).grown H5.out.2.1 (by simp; omega) (fun b e => (HOW.out.lt b e).1)⟩
                unfold TriRow
                rw [HCM.out, HCAH.out, if_neg (by omega), if_neg (by omega), List.length_append, HM.out, t3Cells_app]
                exact H5.out.1
              case measure => simp [intOf]; omega
            · have b1 : (((r : Int) - (n : Int)) == (n : Int)) = false := beq_false_of_ne (by omega)
              have b2 : (((q : Int) - (n : Int)) == (n : Int)) = false := beq_false_of_ne (by omega)
              have d1 : ¬ (0 : Int) ≤ (r : Int) - (n : Int) := by omega
              have d2 : ¬ (0 : Int) ≤ (q : Int) - (n : Int) := by omega
              have hws : w.heap.size ≤ V.heap.size := H3.out.2.size
              have HOW : Hid (V.ownsRow w.heap.size 36 3 (.slice ao M co) M (t3Cells (cutTo n p))) := by
                have := H3.out.1
                unfold TriRow at this
                rw [HM.out] at this
                exact this
              go_wp2_with (first
                | (go_at_call 37; refine (hwi _).mono ?_; rintro e V ⟨rfl, rfl⟩)
                | (at_builtin; refine wpList_append_own_at _ rfl (.tmp 45) (.tmp 54) 28 rfl w.heap.size 36 i0 (.agg #[.int .i64 0, .int .i64 0, .int .i64 0]) 3 24 Tryd.underlying28 hi0 hz0 hz1 hz2 rfl (by decide) _ M _ rfl (HOW.out.alloc _) ⟨_, 0, none⟩ 2 2 [.int .i64 ((p : Int)), .int .i64 ((p : Int) + 1), .int .i64 ((p : Int) + (s : Int) + 1), .int .i64 ((p : Int)), .int .i64 ((p : Int) + (s : Int)), .int .i64 ((p : Int) + (s : Int) + 1)] rfl rfl (cells_new _ _ _) (by simp [Value.oneCell']) (by unfold maxLen; omega) (by omega) (by simp; omega) ?_; intro v5 w5 hown5 hg5 hn5 hl5; have H5 := Hid.mk' (And.intro hown5 (And.intro hg5 hl5)); clear hown5 hg5 hn5 hl5)
                | fail)
              go_roundw
              case rel =>
                refine ⟨_, p + 1, by omega, rfl, by go_num, ?_, (H3.out.2.alloc hws _).grown H5.out.2.1 (by simp; omega) (fun b e => (HOW.out.lt b e).1)⟩
                unfold TriRow
                rw [HCM.out, HCAH.out, if_neg (by omega), if_pos (by omega), List.length_append, HM.out, t3Cells_app]
                exact H5.out.1
              case measure => simp [intOf]; omega
    · obtain rfl : p = N := by omega
      go_wp2_with fail
      go_ret
      exact ⟨_, rfl, by rw [HCN.out]; exact HK.out.1, HK.out.2⟩

end Go.Proofs.YtbohobelbgbibaaDoor
