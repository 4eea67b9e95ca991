/- Opposite labels of a square, by the reference. -/
import Derived.Test.YtbohobelbgbibaaDoorTkSided
import Derived.Test.YtbohobelbgbibaaDoorTkSort
import Derived.Test.YtbohobelbgbibaaDoorTkPlace
import Derived.Test.YtbohobelbgbibaaDoorLabFault
import Derived.Deep.DeepCutAuto
namespace Go.Proofs.YtbohobelbgbibaaDoor
open Go.RowKit Go.Sort

def joinB (n a b : Nat) : Bool := sidedB (((a % sdN n : Nat) : Int) - (n : Int)) (((a / sdN n : Nat) : Int) - (n : Int)) (((b % sdN n : Nat) : Int) - (n : Int)) (((b / sdN n : Nat) : Int) - (n : Int))
def pairR (n : Nat) (ls : List Int) (a m : Nat) : List T2 := ((List.range m).filter (fun b : Nat => decide (a < b) && (joinB n a b && (labA ls a + labA ls b == 0)))).map (fun b : Nat => ((a : Int), (b : Int)))
def pairsA (n : Nat) (ls : List Int) (m : Nat) : List T2 := (List.range m).flatMap (fun a => pairR n ls a ls.length)
theorem pairR_more {n : Nat} {ls : List Int} {a b : Nat} (h : a < b) : pairR n ls a (b + 1) = pairR n ls a b ++ if joinB n a b && (labA ls a + labA ls b == 0) then [((a : Int), (b : Int))] else [] := by
  unfold pairR
  rw [List.range_succ, List.filter_append, List.map_append]
  congr 1
  cases hb : (joinB n a b && (labA ls a + labA ls b == 0)) <;> simp [hb, h]
theorem pairR_low {n : Nat} {ls : List Int} {a b : Nat} (h : b ≤ a + 1) : pairR n ls a b = [] := by
  unfold pairR
  rw [List.map_eq_nil_iff, List.filter_eq_nil_iff]
  intro x hx
  rw [List.mem_range] at hx
  simp
  omega
theorem pairsA_more {n : Nat} {ls : List Int} {m : Nat} : pairsA n ls (m + 1) = pairsA n ls m ++ pairR n ls m ls.length := by
  unfold pairsA
  rw [List.range_succ, List.flatMap_append]; simp
theorem pairR_len (n : Nat) (ls : List Int) (a m : Nat) : (pairR n ls a m).length ≤ m := by
  unfold pairR
  rw [List.length_map]
  have := List.length_filter_le (fun b => decide (a < b) && (joinB n a b && (labA ls a + labA ls b == 0))) (List.range m)
  rwa [List.length_range] at this
theorem pairsA_len (n : Nat) (ls : List Int) : ∀ m, (pairsA n ls m).length ≤ m * ls.length
  | 0 => by simp [pairsA]
  | m + 1 => by
    have h1 := pairsA_len n ls m
    have h2 := pairR_len n ls m ls.length
    rw [pairsA_more, List.length_append, Nat.succ_mul]
    omega

set_option maxRecDepth 100000 in
set_option maxHeartbeats 4000000 in
theorem oppOf_ {ls : List Int} (n : Nat) (h1 : 1 ≤ n) (h2 : n ≤ 6) (vl : Value) (w : World) (hl : Ints w vl ls) (hlen : ls.length = sdN n * sdN n) (hf : ∀ q, q < ls.length → (-2 ≤ labA ls q ∧ labA ls q ≤ 2)) :
    Calls Tryd.prog 24 #[.int .i64 (n : Int), vl] w fun e w' => ∃ v, e = .returned v ∧ OwnRows w.heap.size w' v ((pairsA n ls ls.length).map t2L) ∧ Below w.heap.size w w' := by
  obtain ⟨i0, hi0, hz0, hz1, hz2⟩ := info_parts Tryd.info22
  obtain ⟨j0, hj0, hy0, hy1, hy2⟩ := info_parts Tryd.infoInt
  have hs13 := sdN_le h2
  have hss : sdN n * sdN n ≤ 13 * 13 := Nat.mul_le_mul hs13 hs13
  have h0 : 0 < ls.length := by rw [hlen]; unfold sdN; exact Nat.mul_pos (by omega) (by omega)
  obtain ⟨al, cl, rfl, -, hx⟩ := hl.open_
  obtain ⟨bl, ol, rfl, -, -, hcl⟩ := hx h0
  have HCL : Hid (∀ V k, Below w.heap.size w V → k < ls.length → V.cell? ⟨bl, ol + k, none⟩ = some (.int .i64 (labA ls k))) := fun V k hV hk => by
    have c := hcl k hk
    exact (hV.cell (p := ⟨bl, ol + k, none⟩) (cell_lt c)).trans c
  have HFIT := Hid.mk' hf
  have es : 2 * (n : Int) + 1 = (sdN n : Int) := by unfold sdN; omega
  have HDM : Hid (∀ a, a < ls.length → (a % sdN n ≤ 2 * n ∧ a / sdN n ≤ 2 * n) ∧ Int.tmod (a : Int) (sdN n : Int) = ((a % sdN n : Nat) : Int) ∧ Int.tdiv (a : Int) (sdN n : Int) = ((a / sdN n : Nat) : Int)) := fun a ha => by
    have h3 : a % sdN n < sdN n := Nat.mod_lt _ (by unfold sdN; omega)
    have h4 : a / sdN n < sdN n := Nat.div_lt_of_lt_mul (by rw [← hlen]; exact ha)
    have e : sdN n = 2 * n + 1 := rfl
    exact ⟨⟨by omega, by omega⟩, rfl, rfl⟩
  have HSD : Hid (∀ a b, a < ls.length → b < ls.length → ∀ V, Calls Tryd.prog 45 #[.int .i64 (((a % sdN n : Nat) : Int) - (n : Int)), .int .i64 (((a / sdN n : Nat) : Int) - (n : Int)), .int .i64 (((b % sdN n : Nat) : Int) - (n : Int)), .int .i64 (((b / sdN n : Nat) : Int) - (n : Int))] V fun e w' => e = .returned (.bool (joinB n a b)) ∧ ∃ q, w' = V.drewN q) := fun a b ha hb V => by
    have h3 := (HDM.out a ha).1
    have h4 := (HDM.out b hb).1
    have z1 := Int.natCast_nonneg (a % sdN n)
    have z2 := Int.natCast_nonneg (a / sdN n)
    have z3 := Int.natCast_nonneg (b % sdN n)
    have z4 := Int.natCast_nonneg (b / sdN n)
    exact sided_ _ _ _ _ (by omega) (by omega) (by omega) (by omega) V
  have hs1 : 1 ≤ sdN n := by unfold sdN; omega
  obtain ⟨s, hs⟩ : ∃ s, sdN n = s := ⟨_, rfl⟩
  rw [hs] at hs13 hss hlen es HDM HSD hs1
  have HS := Hid.mk' hs
  obtain ⟨N, hN⟩ : ∃ N, ls.length = N := ⟨_, rfl⟩
  have HN := Hid.mk' hN
  have hN9 : N ≤ 169 := by rw [← hN, hlen]; omega
  rw [hN] at h0 HCL HFIT HDM HSD ⊢
  have hs0 : ¬ ((s : Int) = 0) := by omega
  have HPL : Hid (∀ a b, a ≤ N → b ≤ N → (pairsA n ls a ++ pairR n ls a b).length ≤ 50000) := fun a b ha hb => by
    have h3 := pairsA_len n ls a
    have h4 := pairR_len n ls a b
    have h5 : a * ls.length ≤ 169 * 169 := Nat.mul_le_mul (by omega) (by omega)
    rw [List.length_append]
    omega
  have HPM : Hid (∀ m, pairsA n ls (m + 1) = pairsA n ls m ++ pairR n ls m N) := fun m => by rw [← hN]; exact pairsA_more
  clear hl hx hcl hlen hf hs hN
  go_enter Tryd.func24, Tryd.ntmps24
  go_wp2_with fail
  go_loopw [6, 7] (fun po p W => ∃ (vo : Value) (a : Nat), a ≤ N ∧ po = vo ∧ p = .int .i64 (a : Int) ∧ Hid (OwnRows w.heap.size W vo ((pairsA n ls a).map t2L) ∧ Below w.heap.size w W)) (fun _ p _ => N - (intOf p).toNat)
  case atStart => exact ⟨_, 0, by omega, rfl, rfl, OwnRows.nil _ _, Below.refl _ _⟩
  case round =>
    obtain ⟨vo, a, ha, hvo, rfl, HA⟩ := hrel
    obtain ⟨av, cv, hv2⟩ := own_slice1 HA.out.1
    subst hv2
    subst hvo
    obtain ⟨K, hK⟩ : ∃ K, ((pairsA n ls a).map t2L).length = K := ⟨_, rfl⟩
    rw [hK] at HA ⊢
    clear hK
    by_cases haN : a < N
    · have HB0 : Hid (OwnRows w.heap.size wr (.slice av K cv) ((pairsA n ls a ++ pairR n ls a (a + 1)).map t2L) ∧ Below w.heap.size w wr) := by rw [pairR_low (Nat.le_refl _), List.append_nil]; exact HA.out
      clear HA
      go_wp2_with fail
      go_loopw [6, 8] (fun po p W => ∃ (vo : Value) (b : Nat), a < b ∧ b ≤ N ∧ po = vo ∧ p = .int .i64 (b : Int) ∧ Hid (OwnRows w.heap.size W vo ((pairsA n ls a ++ pairR n ls a b).map t2L) ∧ Below w.heap.size w W)) (fun _ p _ => N - (intOf p).toNat)
      case atStart => exact ⟨_, a + 1, by omega, by omega, rfl, by go_num, HB0.out⟩
      case round =>
        obtain ⟨vo, b, hab, hb, hvo, rfl, HB⟩ := hrel
        obtain ⟨av, cv, hv2⟩ := own_slice1 HB.out.1
        subst hv2
        subst hvo
        obtain ⟨K, hK⟩ : ∃ K, ((pairsA n ls a ++ pairR n ls a b).map t2L).length = K := ⟨_, rfl⟩
        have HKK : Hid (((pairsA n ls a ++ pairR n ls a b).map t2L).length = K) := hK
        have hks : K ≤ 50000 := by
          have := HPL.out a b ha hb
          rw [← hK, List.length_map]; exact this
        rw [hK] at HB ⊢
        clear hK
        by_cases hbN : b < N
        · have HMO := Hid.mk' (pairR_more (n := n) (ls := ls) hab)
          obtain ⟨⟨u1, u2⟩, u3, u4⟩ := HDM.out a haN
          obtain ⟨⟨v1, v2⟩, v3, v4⟩ := HDM.out b hbN
          have hsd := HSD.out a b haN hbN
          obtain ⟨j, hj⟩ : ∃ j, joinB n a b = j := ⟨_, rfl⟩
          rw [hj] at hsd HMO
          obtain ⟨am, ham⟩ : ∃ x, a % s = x := ⟨_, rfl⟩
          obtain ⟨ad, had⟩ : ∃ x, a / s = x := ⟨_, rfl⟩
          obtain ⟨bm, hbm⟩ : ∃ x, b % s = x := ⟨_, rfl⟩
          obtain ⟨bd, hbd⟩ : ∃ x, b / s = x := ⟨_, rfl⟩
          rw [ham, had, hbm, hbd] at hsd
          rw [ham] at u1 u3
          rw [had] at u2 u4
          rw [hbm] at v1 v3
          rw [hbd] at v2 v4
          have hsq : ∀ q, Calls Tryd.prog 45 #[.int .i64 ((am : Int) - (n : Int)), .int .i64 ((ad : Int) - (n : Int)), .int .i64 ((bm : Int) - (n : Int)), .int .i64 ((bd : Int) - (n : Int))] (wr.drewN q) fun e w' => e = .returned (.bool j) ∧ ∃ r, w' = wr.drewN r := fun q => (hsd (wr.drewN q)).mono fun e w' h => ⟨h.1, by obtain ⟨r, hr⟩ := h.2; exact ⟨q + r, by rw [hr]; simp [World.drewN, Nat.add_assoc]⟩⟩
          clear hj ham had hbm hbd hsd
          go_upto_region 9 with fail
          go_quiet (exact hsq _)
          obtain ⟨W2, hW2⟩ : ∃ W2, wr.drewN nq = W2 := ⟨_, rfl⟩
          have H2 : Hid (OwnRows w.heap.size W2 (.slice av K cv) ((pairsA n ls a ++ pairR n ls a b).map t2L) ∧ Below w.heap.size w W2) := by
            rw [← hW2]
            exact ⟨HB.out.1.below (drewN_below wr nq), HB.out.2.trans ((drewN_below wr nq).mono HB.out.2.size)⟩
          rw [hW2]
          have l0 := HCL.out W2 a H2.out.2 haN
          have l1 := HCL.out W2 b H2.out.2 hbN
          have f0 := HFIT.out a haN
          have f1 := HFIT.out b hbN
          obtain ⟨x, hx⟩ : ∃ x, labA ls a = x := ⟨_, rfl⟩
          obtain ⟨y, hy⟩ : ∃ x, labA ls b = x := ⟨_, rfl⟩
          rw [hx] at l0 f0 HMO
          rw [hy] at l1 f1 HMO
          have y0 : (0 : Int) ≤ (a : Int) := by omega
          have y1 : (a : Int) < (N : Int) := by omega
          have y2 : (0 : Int) ≤ (b : Int) := by omega
          have y3 : (b : Int) < (N : Int) := by omega
          clear hW2 hsq HB hx hy u1 u2 u3 u4 v1 v2 v3 v4
          cases j with
          | false =>
            have HE : Hid (pairR n ls a (b + 1) = pairR n ls a b) := by
              show _ = _
              rw [HMO.out, Bool.false_and, if_neg (by simp), List.append_nil]
            go_upto_region 10 with fail
            go_quiet (fail)
            go_wp2_with fail
            go_roundw
            case rel => exact ⟨_, b + 1, by omega, by omega, rfl, by go_num, by rw [HE.out]; exact H2.out.1.below (drewN_below W2 _), H2.out.2.trans ((drewN_below W2 _).mono H2.out.2.size)⟩
            case measure => simp [intOf]; omega
          | true =>
            go_upto_region 10 with fail
            go_quiet (fail)
            obtain ⟨W3, hW3⟩ : ∃ W3, W2.drewN nq = W3 := ⟨_, rfl⟩
            have H3 : Hid (OwnRows w.heap.size W3 (.slice av K cv) ((pairsA n ls a ++ pairR n ls a b).map t2L) ∧ Below w.heap.size w W3) := by
              rw [← hW3]
              exact ⟨H2.out.1.below (drewN_below W2 nq), H2.out.2.trans ((drewN_below W2 nq).mono H2.out.2.size)⟩
            rw [hW3]
            clear hW3 H2 l0 l1
            by_cases hxy : x + y = 0
            · have hb2 : (x + y == 0) = true := by rw [beq_iff_eq]; exact hxy
              have HE : Hid (pairR n ls a (b + 1) = pairR n ls a b ++ [((a : Int), (b : Int))]) := by
                show _ = _
                rw [HMO.out, hb2]; rfl
              rw [hb2]
              obtain ⟨vs, hvs1, hvs2⟩ := H3.out.1
              rw [HKK.out] at hvs1
              have HVS := Hid.mk' (And.intro hvs1 hvs2)
              have hws : w.heap.size ≤ W3.heap.size := H3.out.2.size
              clear hvs1 hvs2
              have HAP : Hid (∀ v5 w5 o, w5.ownsRow w.heap.size 3 1 v5 (0 + 2) ([] ++ [.int .i64 (a : Int), .int .i64 (b : Int)]) → (W3.alloc o).grownBy w5 none → (v5.ownBlock = none ∨ v5.ownBlock = some (W3.alloc o).heap.size) → w.heap.size ≤ w5.heap.size ∧ w5.ownsRow w.heap.size 22 1 (.slice av K cv) K vs ∧ ∀ v6 w6 o6, w6.ownsRow w.heap.size 22 1 v6 (K + 1) (vs ++ [v5]) → (w5.alloc o6).grownBy w6 (Value.slice av K cv).ownBlock → (v6.ownBlock = (Value.slice av K cv).ownBlock ∨ v6.ownBlock = some (w5.alloc o6).heap.size) → OwnRows w.heap.size w6 v6 ((pairsA n ls a ++ pairR n ls a (b + 1)).map t2L) ∧ Below w.heap.size w w6) := fun v5 w5 o h1 h2 h3 => by
                have hs5 := h2.size
                rw [World.size_alloc] at hs5
                refine ⟨by omega, own_kept9 HVS.out.1 fun b' e hb' => (h2.block b' (by rw [World.size_alloc]; omega) (by simp)).trans ((World.grownBy_alloc W3 o none).block b' hb' (by simp)), fun v6 w6 o6 k1 k2 k3 => ?_⟩
                have hp := push_new (xss := (pairsA n ls a ++ pairR n ls a b).map t2L) (l := [(a : Int), (b : Int)]) HVS.out.1 HKK.out HVS.out.2 hws h1 h2 h3 k1 k2 k3
                refine ⟨?_, hp.2 _ _ H3.out.2 (Nat.le_refl _)⟩
                rw [HE.out, ← List.append_assoc, List.map_append]
                exact hp.1
              go_wp2_with (first
                | (at_builtin; refine wpList_append_own_at _ rfl (.tmp 63) (.tmp 66) 22 rfl w.heap.size 3 j0 (.int .i64 0) 1 8 Tryd.underlying22 hj0 hy0 hy1 hy2 rfl (by decide) _ 0 [] rfl (World.ownsRow_nil _ _ _ _) ⟨_, 0, none⟩ 2 2 [.int .i64 (a : Int), .int .i64 (b : Int)] rfl rfl (cells_new _ _ _) (by simp [Value.oneCell']) (by unfold maxLen; omega) (by omega) (by simp; omega) ?_; intro v5 w5 hown5 hg5 hn5 hl5; have H5 := Hid.mk' (HAP.out v5 w5 _ hown5 hg5 hl5); have hw5 := H5.out.1; obtain ⟨a5, c5, rfl⟩ := own_sl hown5; clear hown5 hg5 hn5 hl5)
                | (at_builtin; refine wpList_append_own_at _ rfl (.tmp 62) (.tmp 68) 32 rfl w.heap.size 22 i0 (.slice none 0 0) 1 24 Tryd.underlying32 hi0 hz0 hz1 hz2 rfl (by decide) _ K _ rfl (H5.out.2.1.alloc _) ⟨_, 0, none⟩ 1 1 [.slice a5 (0 + 2) c5] rfl rfl (cells_new _ _ _) (by simp [Value.oneCell']) (by unfold maxLen; omega) (by omega) (by simp; omega) ?_; intro v6 w6 hown6 hg6 hn6 hl6; have H6 := Hid.mk' (H5.out.2.2 v6 w6 _ hown6 hg6 hl6); clear hown6 hg6 hn6 hl6)
                | fail)
              go_roundw
              case rel => exact ⟨_, b + 1, by omega, by omega, rfl, by go_num, H6.out⟩
              case measure => simp [intOf]; omega
            · have hb2 : (x + y == 0) = false := beq_false_of_ne hxy
              have HE : Hid (pairR n ls a (b + 1) = pairR n ls a b) := by
                show _ = _
                rw [HMO.out, hb2, Bool.and_false, if_neg (by simp), List.append_nil]
              rw [hb2]
              go_wp2_with fail
              go_roundw
              case rel => exact ⟨_, b + 1, by omega, by omega, rfl, by go_num, by rw [HE.out]; exact H3.out⟩
              case measure => simp [intOf]; omega
        · obtain rfl : b = N := by omega
          have HE : Hid (pairsA n ls (a + 1) = pairsA n ls a ++ pairR n ls a b) := HPM.out a
          go_wp2_with fail
          go_roundw
          case rel => exact ⟨_, a + 1, by omega, rfl, by go_num, by rw [HE.out]; exact HB.out⟩
          case measure => simp [intOf]; omega
    · obtain rfl : a = N := by omega
      go_wp2_with fail
      go_ret
      exact ⟨_, rfl, HA.out⟩

end Go.Proofs.YtbohobelbgbibaaDoor
