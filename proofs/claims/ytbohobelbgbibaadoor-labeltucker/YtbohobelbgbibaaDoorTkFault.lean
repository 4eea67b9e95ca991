/- What fault labels of a square have, by the reference. -/
import Derived.Test.YtbohobelbgbibaaDoorTkFits
import Derived.Test.YtbohobelbgbibaaDoorLabFault
import Derived.Test.YtbohobelbgbibaaDoorLpHas
import Derived.Deep.DeepCutAuto
namespace Go.Proofs.YtbohobelbgbibaaDoor
open Go.RowKit Go.Sort

/-- The fault of labels of a square: its number and its place. -/
def SqIs (n : Int) (ls : List Int) (c p : Int) : Prop :=
  ((n < 1 ∨ 6 < n) ∧ c = 2 ∧ p = -1) ∨ ((1 ≤ n ∧ n ≤ 6) ∧ ((ls.length ≠ sdN n.toNat * sdN n.toNat ∧ c = 3 ∧ p = -1) ∨ (ls.length = sdN n.toNat * sdN n.toNat ∧ ((∃ i, i < ls.length ∧ (∀ j, j < i → fitsP n.toNat ls j) ∧ ¬ fitsP n.toNat ls i ∧ c = 8 ∧ p = (i : Int)) ∨ ((∀ j, j < ls.length → fitsP n.toNat ls j) ∧ c = 0 ∧ p = -1)))))

set_option maxRecDepth 100000 in
theorem sq_bound {ls : List Int} (n : Int) (vl : Value) (w : World) (hl : Ints w vl ls) (hb : n < 1 ∨ 6 < n) :
    Calls Tryd.prog 23 #[.int .i64 n, vl] w fun e w' => e = .returned (.agg #[.int .i64 2, .int .i64 (-1)]) ∧ Below w.heap.size w w' := by
  obtain ⟨al, cl, rfl, -, -⟩ := hl.open_
  obtain ⟨m, hm⟩ : ∃ m, ls.length = m := ⟨_, rfl⟩
  rw [hm]
  clear hl hm
  have HB : Hid (Below w.heap.size w (w.alloc (.cells #[.int .i64 2, .int .i64 (-1)] 38))) := (Below.refl _ w).alloc (Nat.le_refl _) _
  have hn2 := cells_new w [.int .i64 2, .int .i64 (-1)] 38
  have r0 := hn2 0 _ rfl
  have r1 := hn2 1 _ rfl
  rw [Addr.add_lit, Nat.zero_add] at r0 r1
  clear hn2
  by_cases h1 : n < 1
  · go_enter Tryd.func23, Tryd.ntmps23
    go_wp2_with fail
    refine bodyPost_ret (v := .agg #[.int .i64 2, .int .i64 (-1)]) ?_ rfl ⟨rfl, HB.out⟩
    simp [results, Tryd.f23, go_sem, r0, r1]
  · have h2 : 6 < n := by omega
    go_enter Tryd.func23, Tryd.ntmps23
    go_wp2_with fail
    refine bodyPost_ret (v := .agg #[.int .i64 2, .int .i64 (-1)]) ?_ rfl ⟨rfl, HB.out⟩
    simp [results, Tryd.f23, go_sem, r0, r1]
set_option maxRecDepth 100000 in
theorem sq_shape {ls : List Int} (n : Nat) (h1 : 1 ≤ n) (h2 : n ≤ 6) (vl : Value) (w : World) (hl : Ints w vl ls) (hb : ls.length ≠ sdN n * sdN n) :
    Calls Tryd.prog 23 #[.int .i64 (n : Int), vl] w fun e w' => e = .returned (.agg #[.int .i64 3, .int .i64 (-1)]) ∧ Below w.heap.size w w' := by
  have hs13 := sdN_le h2
  have hss : sdN n * sdN n ≤ 13 * 13 := Nat.mul_le_mul hs13 hs13
  have ess : (sdN n : Int) * (sdN n : Int) = ((sdN n * sdN n : Nat) : Int) := by rw [Int.natCast_mul]
  have es : 2 * (n : Int) + 1 = (sdN n : Int) := by unfold sdN; omega
  obtain ⟨al, cl, rfl, -, -⟩ := hl.open_
  obtain ⟨m, hm⟩ : ∃ m, ls.length = m := ⟨_, rfl⟩
  obtain ⟨s, hs⟩ : ∃ s, sdN n = s := ⟨_, rfl⟩
  rw [hm] at hb ⊢
  rw [hs] at hs13 hss ess hb es
  obtain ⟨N, hN⟩ : ∃ N, s * s = N := ⟨_, rfl⟩
  rw [hN] at hss ess hb
  have hb1 : ((m : Int) == (N : Int)) = false := beq_false_of_ne (by omega)
  clear hl hm hs hN
  have HB : Hid (Below w.heap.size w (w.alloc (.cells #[.int .i64 3, .int .i64 (-1)] 38))) := (Below.refl _ w).alloc (Nat.le_refl _) _
  have hn2 := cells_new w [.int .i64 3, .int .i64 (-1)] 38
  have r0 := hn2 0 _ rfl
  have r1 := hn2 1 _ rfl
  rw [Addr.add_lit, Nat.zero_add] at r0 r1
  clear hn2
  go_enter Tryd.func23, Tryd.ntmps23
  go_wp2_with fail
  refine bodyPost_ret (v := .agg #[.int .i64 3, .int .i64 (-1)]) ?_ rfl ⟨rfl, HB.out⟩
  simp [results, Tryd.f23, go_sem, r0, r1]


theorem wrap_ne {u v : Int} (hu : -9223372036854775808 ≤ u ∧ u ≤ 9223372036854775807) (hv : -2 ≤ v ∧ v ≤ 2) (h : ¬ (u + v = 0)) : ¬ (IntKind.wrap .i64 (u + v) = 0) := by
  have e : IntKind.wrap .i64 (u + v) = if (u + v) % 18446744073709551616 ≥ 9223372036854775808 then (u + v) % 18446744073709551616 - 18446744073709551616 else (u + v) % 18446744073709551616 := by
    show (if (true && decide ((u + v) % (2 ^ 64 : Int) ≥ (2 ^ 63 : Int))) = true then (u + v) % (2 ^ 64 : Int) - (2 ^ 64 : Int) else (u + v) % (2 ^ 64 : Int)) = _
    rw [Bool.true_and]
    simp only [decide_eq_true_eq]
    rfl
  rw [e]
  split <;> omega
set_option maxRecDepth 100000 in
set_option maxHeartbeats 4000000 in
theorem sq_rest {ls : List Int} (n : Nat) (h1 : 1 ≤ n) (h2 : n ≤ 6) (vl : Value) (w : World) (hl : Ints w vl ls) (hlen : ls.length = sdN n * sdN n) (hr : ∀ q, q < ls.length → (-9223372036854775808 ≤ labA ls q ∧ labA ls q ≤ 9223372036854775807)) :
    Calls Tryd.prog 23 #[.int .i64 (n : Int), vl] w fun e w' => Below w.heap.size w w' ∧ ((∃ i : Nat, e = .returned (.agg #[.int .i64 8, .int .i64 (i : Int)]) ∧ i < ls.length ∧ (∀ j, j < i → fitsP n ls j) ∧ ¬ fitsP n ls i) ∨ (e = .returned (.agg #[.int .i64 0, .int .i64 (-1)]) ∧ ∀ j, j < ls.length → fitsP n ls j)) := by
  have hs13 := sdN_le h2
  have hss : sdN n * sdN n ≤ 13 * 13 := Nat.mul_le_mul hs13 hs13
  have ess : (sdN n : Int) * (sdN n : Int) = ((sdN n * sdN n : Nat) : Int) := by rw [Int.natCast_mul]
  have es : 2 * (n : Int) + 1 = (sdN n : Int) := by unfold sdN; omega
  have h0 : 0 < ls.length := by rw [hlen]; unfold sdN; exact Nat.mul_pos (by omega) (by omega)
  have HFP : Hid (∀ p j c, p = j * sdN n + c → c < sdN n → (fitsP n ls p ↔ (lab4 (labA ls p) ∧ ((c = 2 * n ∨ j = 2 * n ∨ c = 0 ∨ j = 0) → labA ls (ls.length - 1 - p) = -labA ls p)))) := fun p j c hp hc => by
    have e1 : p % sdN n = c := by rw [hp, Nat.add_comm, Nat.add_mul_mod_self_right, Nat.mod_eq_of_lt hc]
    have e2 : p / sdN n = j := by rw [hp, Nat.add_comm, Nat.add_mul_div_right _ _ (by omega), Nat.div_eq_of_lt hc, Nat.zero_add]
    unfold fitsP rimB4
    rw [e1, e2]
    simp only [Bool.or_eq_true, beq_iff_eq]
    constructor
    · rintro ⟨k1, k2⟩; exact ⟨k1, fun h => k2 (by omega)⟩
    · rintro ⟨k1, k2⟩; exact ⟨k1, fun h => k2 (by omega)⟩
  obtain ⟨al, cl, rfl, -, hx⟩ := hl.open_
  obtain ⟨bl, ol, rfl, -, -, hcl⟩ := hx h0
  have hB0 : Below w.heap.size w (w.alloc (.cells #[.int .i64 0, .int .i64 0] 38)) := (Below.refl _ w).alloc (Nat.le_refl _) _
  obtain ⟨q0, q1, -⟩ := box2 w (.int .i64 0) (.int .i64 0) 38
  have hz1 : ∀ t, (w.alloc (.cells #[.int .i64 0, .int .i64 0] 38)).frozen? ⟨w.heap.size, t, none⟩ = false := fun t => by simp
  obtain ⟨W0, hW0⟩ : ∃ W0, w.alloc (.cells #[.int .i64 0, .int .i64 0] 38) = W0 := ⟨_, rfl⟩
  obtain ⟨fb, hfb⟩ : ∃ fb, w.heap.size = fb := ⟨_, rfl⟩
  rw [hW0, hfb] at q0 q1 hz1
  rw [hW0] at hB0
  have z0 := hz1 0
  have z1 := hz1 1
  have HG : Hid (w.alloc (.cells #[.int .i64 0, .int .i64 0] 38) = W0 ∧ w.heap.size = fb) := ⟨hW0, hfb⟩
  have HEND : Hid (∀ x y, Below w.heap.size w ((W0.setCell ⟨fb, 0, none⟩ x).setCell ⟨fb, 1, none⟩ y) ∧ ((W0.setCell ⟨fb, 0, none⟩ x).setCell ⟨fb, 1, none⟩ y).cell? ⟨fb, 0, none⟩ = some x ∧ ((W0.setCell ⟨fb, 0, none⟩ x).setCell ⟨fb, 1, none⟩ y).cell? ⟨fb, 1, none⟩ = some y) := fun x y => ⟨(hB0.setCell (p := ⟨fb, 0, none⟩) (by rw [← hfb]; exact Nat.le_refl _) _).setCell (p := ⟨fb, 1, none⟩) (by rw [← hfb]; exact Nat.le_refl _) _, two_put q0 q1 x y⟩
  have HCL : Hid (∀ k, k < ls.length → W0.cell? ⟨bl, ol + k, none⟩ = some (.int .i64 (labA ls k))) := fun k hk => by
    have c := hcl k hk
    exact (hB0.cell (p := ⟨bl, ol + k, none⟩) (cell_lt c)).trans c
  have HR := Hid.mk' hr
  obtain ⟨s, hs⟩ : ∃ s, sdN n = s := ⟨_, rfl⟩
  rw [hs] at hs13 hss ess es hlen HFP
  obtain ⟨N, hN⟩ : ∃ N, s * s = N := ⟨_, rfl⟩
  rw [hN] at hss ess hlen
  have HNS := Hid.mk' hN
  rw [hlen] at h0 HCL HR HFP ⊢
  have hb1 : ((N : Int) == (N : Int)) = true := by simp
  clear hl hx hcl hlen hs hN hr hW0 hfb hz1 hB0
  go_enter Tryd.func23, Tryd.ntmps23
  go_upto_region 1 with fail
  rw [HG.out.1, HG.out.2]
  go_wp2_with fail
  go_loopw [6, 7] (fun pi p W => ∃ i j : Nat, j ≤ s ∧ i ≤ N ∧ pi = .int .i64 (i : Int) ∧ p = .int .i64 ((j : Int) - (n : Int)) ∧ W = W0 ∧ Hid (i = j * s ∧ ∀ q, q < i → fitsP n ls q)) (fun _ p _ => 2 * n + 1 - (intOf p + n).toNat)
  case atStart => exact ⟨0, 0, by omega, by omega, rfl, by go_num, rfl, by simp, fun q hq => by omega⟩
  case round =>
    obtain ⟨i, j, hj, hi, rfl, rfl, rfl, HI⟩ := hrel
    by_cases hjs : j < s
    · have hiN : i + s ≤ N := by
        have h7 := HI.out.1
        have h8 := Nat.mul_le_mul_right s (show j + 1 ≤ s by omega)
        rw [HNS.out, Nat.succ_mul] at h8
        omega
      have HK : Hid ((2 * n - j) * s = N - i - s ∧ ((n : Int) - ((j : Int) - (n : Int))) * (s : Int) = ((N - i - s : Nat) : Int)) := by
        have h7 := HI.out.1
        have e1 : (2 * n - j) * s = N - i - s := by
          have e3 : 2 * n - j = s - 1 - j := by omega
          rw [e3, Nat.sub_mul, Nat.sub_mul, HNS.out, Nat.one_mul, h7]
          omega
        refine ⟨e1, ?_⟩
        rw [← e1, Int.natCast_mul]
        congr 1
        omega
      by_cases rA : j = 2 * n
      · have hjn : (j : Int) - (n : Int) = (n : Int) := by omega
        have HJN := Hid.mk' hjn
        rw [hjn]
        clear hjn
        go_wp2_with fail
        go_loopw [6, 8] (fun pi p W => ∃ ii c : Nat, c ≤ s ∧ ii = i + c ∧ pi = .int .i64 (ii : Int) ∧ p = .int .i64 ((c : Int) - (n : Int)) ∧ W = wr ∧ Hid (∀ q, q < ii → fitsP n ls q)) (fun _ p _ => 2 * n + 1 - (intOf p + n).toNat)
        case atStart => exact ⟨i, 0, by omega, rfl, rfl, by go_num, rfl, HI.out.2⟩
        case round =>
          obtain ⟨ii, c, hc, hii, rfl, rfl, hwr, HQ⟩ := hrel
          subst hwr
          by_cases hcs : c < s
          · have hp : ii < N := by omega
            have cv := HCL.out ii hp
            have co := HCL.out (N - 1 - ii) (by omega)
            have rv := HR.out ii hp
            have ro := HR.out (N - 1 - ii) (by omega)
            have HFI : Hid (fitsP n ls ii ↔ (lab4 (labA ls ii) ∧ ((c = 2 * n ∨ j = 2 * n ∨ c = 0 ∨ j = 0) → labA ls (N - 1 - ii) = -labA ls ii))) := HFP.out ii j c (by rw [hii, HI.out.1]) hcs
            obtain ⟨v, hv⟩ : ∃ v, labA ls ii = v := ⟨_, rfl⟩
            obtain ⟨u, hu⟩ : ∃ u, labA ls (N - 1 - ii) = u := ⟨_, rfl⟩
            rw [hv] at cv rv HFI
            rw [hu] at co ro HFI
            obtain ⟨o, ho⟩ : ∃ o, N - 1 - ii = o := ⟨_, rfl⟩
            rw [ho] at co
            have ek : ((n : Int) - (n : Int)) * (s : Int) = ((N - i - s : Nat) : Int) := by have := HK.out.2; rw [HJN.out] at this; exact this
            obtain ⟨K, hK⟩ : ∃ K, N - i - s = K := ⟨_, rfl⟩
            rw [hK] at ek
            have eo : (K : Int) + (n : Int) - ((c : Int) - (n : Int)) = (o : Int) := by omega
            have y0 : (0 : Int) ≤ (ii : Int) := by omega
            have y1 : (ii : Int) < (N : Int) := by omega
            have y2 : (0 : Int) ≤ (o : Int) := by omega
            have y3 : (o : Int) < (N : Int) := by omega
            have y4 : K ≤ 169 := by omega
            have c2 : (c : Int) - (n : Int) ≤ (n : Int) := by omega
            obtain ⟨e8a, e8b, e8c⟩ := HEND.out (.int .i64 8) (.int .i64 (ii : Int))
            have HB8 := Hid.mk' e8a
            have HII := Hid.mk' hii
            clear hv hu ho hK e8a hii
            go_upto_region 14 with fail
            go_cut [10] from 47 to 60 (fun b wx => ∃ bn : Bool, b = .bool bn ∧ (bn = true ↔ ¬ lab4 v) ∧ wx = wr)
            case first =>
              by_cases v1 : v = 1
              · subst v1
                go_wp2_with fail
                go_meet
                exact ⟨false, rfl, by simp [lab4], rfl⟩
              · have w1 : (v == 1) = false := beq_false_of_ne v1
                by_cases v2 : v = -1
                · subst v2
                  go_wp2_with fail
                  go_meet
                  exact ⟨false, rfl, by simp [lab4], rfl⟩
                · have w2 : (v == -1) = false := beq_false_of_ne v2
                  by_cases v3 : v = 2
                  · subst v3
                    go_wp2_with fail
                    go_meet
                    exact ⟨false, rfl, by simp [lab4], rfl⟩
                  · have w3 : (v == 2) = false := beq_false_of_ne v3
                    by_cases v4 : v = -2
                    · subst v4
                      go_wp2_with fail
                      go_meet
                      exact ⟨false, rfl, by simp [lab4], rfl⟩
                    · have w4 : (v == -2) = false := beq_false_of_ne v4
                      go_wp2_with fail
                      go_meet
                      exact ⟨true, by simp [v1, v2, v3, v4], by simp [lab4, v1, v2, v3, v4], rfl⟩
            obtain ⟨bn, rfl, hbn, hw⟩ := hcut
            have hw2 := hw.symm
            subst hw2
            clear hw
            have HBN := Hid.mk' hbn
            clear hbn
            have HGO : Hid (fitsP n ls ii → ∀ q, q < ii + 1 → fitsP n ls q) := fun h q hq => by
              rcases Nat.lt_or_ge q ii with g | g
              · exact HQ.out q g
              · obtain rfl : q = ii := by omega
                exact h
            by_cases r0 : c = 2 * n
            · have b0 : (((c : Int) - (n : Int)) == (n : Int)) = true := by rw [beq_iff_eq]; omega
              cases bn with
              | true =>
                have HNO : Hid (¬ fitsP n ls ii) := fun h => HBN.out.1 rfl (HFI.out.1 h).1
                clear HFI HGO
                go_wp2_with fail
                refine bodyPost_ret (v := .agg #[.int .i64 8, .int .i64 (ii : Int)]) ?_ rfl ⟨HB8.out, .inl ⟨ii, rfl, hp, HQ.out, HNO.out⟩⟩
                simp [results, Tryd.f23, go_sem, e8b, e8c]
              | false =>
                have hl4 : lab4 v := Classical.byContradiction fun h => by have := HBN.out.2 h; cases this
                have HL4 := Hid.mk' hl4
                have hv4 : -2 ≤ v ∧ v ≤ 2 := by unfold lab4 at hl4; omega
                clear hl4
                have hK0 : (K : Int) = 0 := by rw [← ek, show (n : Int) - (n : Int) = 0 by omega, Int.zero_mul]
                obtain rfl : o = 0 := by omega
                rw [Nat.add_zero] at co
                clear eo ek hK0
                by_cases huv : u = -v
                · have HYE : Hid (fitsP n ls ii) := HFI.out.2 ⟨HL4.out, fun _ => huv⟩
                  have HGY := Hid.mk' (HGO.out HYE.out)
                  have hsum : u + v = 0 := by omega
                  clear HYE HGO HFI HL4 HBN huv
                  go_wp2_with fail
                  go_roundw
                  case rel => exact ⟨ii + 1, c + 1, by omega, by have := HII.out; omega, by go_num, by go_num, trivial, HGY.out⟩
                  case measure => simp only [intOf]; omega
                · have HNO : Hid (¬ fitsP n ls ii) := fun h => huv ((HFI.out.1 h).2 (by omega))
                  have hne : ¬ (u + v = 0) := by omega
                  by_cases hrg : -9223372036854775808 ≤ u + v ∧ u + v ≤ 9223372036854775807
                  · have hbf : (u + v == 0) = false := beq_false_of_ne hne
                    clear huv HFI HGO
                    go_wp2_with fail
                    refine bodyPost_ret (v := .agg #[.int .i64 8, .int .i64 (ii : Int)]) ?_ rfl ⟨HB8.out, .inl ⟨ii, rfl, hp, HQ.out, HNO.out⟩⟩
                    simp [results, Tryd.f23, go_sem, e8b, e8c]
                  · have hbf : (wrap64 (u + v) != 0) = true := by have h := wrap_ne ro hv4 hne; rw [IntWalk.i64_left] at h; rw [bne_iff_ne]; exact h
                    clear huv HFI HGO
                    go_wp2_with fail
                    refine bodyPost_ret (v := .agg #[.int .i64 8, .int .i64 (ii : Int)]) ?_ rfl ⟨HB8.out, .inl ⟨ii, rfl, hp, HQ.out, HNO.out⟩⟩
                    simp [results, Tryd.f23, go_sem, e8b, e8c]
            · have b0 : (((c : Int) - (n : Int)) == (n : Int)) = false := beq_false_of_ne (by omega)
              cases bn with
              | true =>
                have HNO : Hid (¬ fitsP n ls ii) := fun h => HBN.out.1 rfl (HFI.out.1 h).1
                clear HFI HGO
                go_wp2_with fail
                refine bodyPost_ret (v := .agg #[.int .i64 8, .int .i64 (ii : Int)]) ?_ rfl ⟨HB8.out, .inl ⟨ii, rfl, hp, HQ.out, HNO.out⟩⟩
                simp [results, Tryd.f23, go_sem, e8b, e8c]
              | false =>
                have hl4 : lab4 v := Classical.byContradiction fun h => by have := HBN.out.2 h; cases this
                have HL4 := Hid.mk' hl4
                have hv4 : -2 ≤ v ∧ v ≤ 2 := by unfold lab4 at hl4; omega
                clear hl4
                have hK0 : (K : Int) = 0 := by rw [← ek, show (n : Int) - (n : Int) = 0 by omega, Int.zero_mul]
                have eo2 : (n : Int) - ((c : Int) - (n : Int)) = (o : Int) := by omega
                clear eo ek hK0
                by_cases huv : u = -v
                · have HYE : Hid (fitsP n ls ii) := HFI.out.2 ⟨HL4.out, fun _ => huv⟩
                  have HGY := Hid.mk' (HGO.out HYE.out)
                  have hsum : u + v = 0 := by omega
                  clear HYE HGO HFI HL4 HBN huv
                  go_wp2_with fail
                  go_roundw
                  case rel => exact ⟨ii + 1, c + 1, by omega, by have := HII.out; omega, by go_num, by go_num, trivial, HGY.out⟩
                  case measure => simp only [intOf]; omega
                · have HNO : Hid (¬ fitsP n ls ii) := fun h => huv ((HFI.out.1 h).2 (by omega))
                  have hne : ¬ (u + v = 0) := by omega
                  by_cases hrg : -9223372036854775808 ≤ u + v ∧ u + v ≤ 9223372036854775807
                  · have hbf : (u + v == 0) = false := beq_false_of_ne hne
                    clear huv HFI HGO
                    go_wp2_with fail
                    refine bodyPost_ret (v := .agg #[.int .i64 8, .int .i64 (ii : Int)]) ?_ rfl ⟨HB8.out, .inl ⟨ii, rfl, hp, HQ.out, HNO.out⟩⟩
                    simp [results, Tryd.f23, go_sem, e8b, e8c]
                  · have hbf : (wrap64 (u + v) != 0) = true := by have h := wrap_ne ro hv4 hne; rw [IntWalk.i64_left] at h; rw [bne_iff_ne]; exact h
                    clear huv HFI HGO
                    go_wp2_with fail
                    refine bodyPost_ret (v := .agg #[.int .i64 8, .int .i64 (ii : Int)]) ?_ rfl ⟨HB8.out, .inl ⟨ii, rfl, hp, HQ.out, HNO.out⟩⟩
                    simp [results, Tryd.f23, go_sem, e8b, e8c]
          · obtain rfl : c = s := by omega
            have c3 : ¬ ((c : Int) - (n : Int) ≤ (n : Int)) := by omega
            have HQ2 : Hid (ii = (j + 1) * c ∧ ∀ q, q < ii → fitsP n ls q) := ⟨by rw [hii, HI.out.1, Nat.succ_mul], HQ.out⟩
            have hi3 : ii ≤ N := by omega
            clear hii
            go_wp2_with fail
            go_roundw
            case rel => exact ⟨ii, j + 1, by omega, by omega, rfl, by go_num, trivial, HQ2.out⟩
            case measure => simp only [intOf]; omega
      · by_cases rB : j = 0
        · have hjn : (j : Int) - (n : Int) = -(n : Int) := by omega
          have HJN := Hid.mk' hjn
          rw [hjn]
          clear hjn
          go_wp2_with fail
          go_loopw [6, 8] (fun pi p W => ∃ ii c : Nat, c ≤ s ∧ ii = i + c ∧ pi = .int .i64 (ii : Int) ∧ p = .int .i64 ((c : Int) - (n : Int)) ∧ W = wr ∧ Hid (∀ q, q < ii → fitsP n ls q)) (fun _ p _ => 2 * n + 1 - (intOf p + n).toNat)
          case atStart => exact ⟨i, 0, by omega, rfl, rfl, by go_num, rfl, HI.out.2⟩
          case round =>
            obtain ⟨ii, c, hc, hii, rfl, rfl, hwr, HQ⟩ := hrel
            subst hwr
            by_cases hcs : c < s
            · have hp : ii < N := by omega
              have cv := HCL.out ii hp
              have co := HCL.out (N - 1 - ii) (by omega)
              have rv := HR.out ii hp
              have ro := HR.out (N - 1 - ii) (by omega)
              have HFI : Hid (fitsP n ls ii ↔ (lab4 (labA ls ii) ∧ ((c = 2 * n ∨ j = 2 * n ∨ c = 0 ∨ j = 0) → labA ls (N - 1 - ii) = -labA ls ii))) := HFP.out ii j c (by rw [hii, HI.out.1]) hcs
              obtain ⟨v, hv⟩ : ∃ v, labA ls ii = v := ⟨_, rfl⟩
              obtain ⟨u, hu⟩ : ∃ u, labA ls (N - 1 - ii) = u := ⟨_, rfl⟩
              rw [hv] at cv rv HFI
              rw [hu] at co ro HFI
              obtain ⟨o, ho⟩ : ∃ o, N - 1 - ii = o := ⟨_, rfl⟩
              rw [ho] at co
              have ek : ((n : Int) - (-(n : Int))) * (s : Int) = ((N - i - s : Nat) : Int) := by have := HK.out.2; rw [HJN.out] at this; exact this
              obtain ⟨K, hK⟩ : ∃ K, N - i - s = K := ⟨_, rfl⟩
              rw [hK] at ek
              have eo : (K : Int) + (n : Int) - ((c : Int) - (n : Int)) = (o : Int) := by omega
              have y0 : (0 : Int) ≤ (ii : Int) := by omega
              have y1 : (ii : Int) < (N : Int) := by omega
              have y2 : (0 : Int) ≤ (o : Int) := by omega
              have y3 : (o : Int) < (N : Int) := by omega
              have y4 : K ≤ 169 := by omega
              have c2 : (c : Int) - (n : Int) ≤ (n : Int) := by omega
              obtain ⟨e8a, e8b, e8c⟩ := HEND.out (.int .i64 8) (.int .i64 (ii : Int))
              have HB8 := Hid.mk' e8a
              have HII := Hid.mk' hii
              clear hv hu ho hK e8a hii
              go_upto_region 14 with fail
              go_cut [10] from 47 to 60 (fun b wx => ∃ bn : Bool, b = .bool bn ∧ (bn = true ↔ ¬ lab4 v) ∧ wx = wr)
              case first =>
                by_cases v1 : v = 1
                · subst v1
                  go_wp2_with fail
                  go_meet
                  exact ⟨false, rfl, by simp [lab4], rfl⟩
                · have w1 : (v == 1) = false := beq_false_of_ne v1
                  by_cases v2 : v = -1
                  · subst v2
                    go_wp2_with fail
                    go_meet
                    exact ⟨false, rfl, by simp [lab4], rfl⟩
                  · have w2 : (v == -1) = false := beq_false_of_ne v2
                    by_cases v3 : v = 2
                    · subst v3
                      go_wp2_with fail
                      go_meet
                      exact ⟨false, rfl, by simp [lab4], rfl⟩
                    · have w3 : (v == 2) = false := beq_false_of_ne v3
                      by_cases v4 : v = -2
                      · subst v4
                        go_wp2_with fail
                        go_meet
                        exact ⟨false, rfl, by simp [lab4], rfl⟩
                      · have w4 : (v == -2) = false := beq_false_of_ne v4
                        go_wp2_with fail
                        go_meet
                        exact ⟨true, by simp [v1, v2, v3, v4], by simp [lab4, v1, v2, v3, v4], rfl⟩
              obtain ⟨bn, rfl, hbn, hw⟩ := hcut
              have hw2 := hw.symm
              subst hw2
              clear hw
              have HBN := Hid.mk' hbn
              clear hbn
              have HGO : Hid (fitsP n ls ii → ∀ q, q < ii + 1 → fitsP n ls q) := fun h q hq => by
                rcases Nat.lt_or_ge q ii with g | g
                · exact HQ.out q g
                · obtain rfl : q = ii := by omega
                  exact h
              have nn : ((-(n : Int)) == (n : Int)) = false := beq_false_of_ne (by omega)
              by_cases r0 : c = 2 * n
              · have b0 : (((c : Int) - (n : Int)) == (n : Int)) = true := by rw [beq_iff_eq]; omega
                cases bn with
                | true =>
                  have HNO : Hid (¬ fitsP n ls ii) := fun h => HBN.out.1 rfl (HFI.out.1 h).1
                  clear HFI HGO
                  go_wp2_with fail
                  refine bodyPost_ret (v := .agg #[.int .i64 8, .int .i64 (ii : Int)]) ?_ rfl ⟨HB8.out, .inl ⟨ii, rfl, hp, HQ.out, HNO.out⟩⟩
                  simp [results, Tryd.f23, go_sem, e8b, e8c]
                | false =>
                  have hl4 : lab4 v := Classical.byContradiction fun h => by have := HBN.out.2 h; cases this
                  have HL4 := Hid.mk' hl4
                  have hv4 : -2 ≤ v ∧ v ≤ 2 := by unfold lab4 at hl4; omega
                  clear hl4
                  have ek2 : ((n : Int) + (n : Int)) * (s : Int) = (K : Int) := by rw [← ek]; congr 1; omega
                  obtain rfl : o = K := by omega
                  clear eo ek
                  by_cases huv : u = -v
                  · have HYE : Hid (fitsP n ls ii) := HFI.out.2 ⟨HL4.out, fun _ => huv⟩
                    have HGY := Hid.mk' (HGO.out HYE.out)
                    have hsum : u + v = 0 := by omega
                    clear HYE HGO HFI HL4 HBN huv
                    go_wp2_with fail
                    go_roundw
                    case rel => exact ⟨ii + 1, c + 1, by omega, by have := HII.out; omega, by go_num, by go_num, trivial, HGY.out⟩
                    case measure => simp only [intOf]; omega
                  · have HNO : Hid (¬ fitsP n ls ii) := fun h => huv ((HFI.out.1 h).2 (by omega))
                    have hne : ¬ (u + v = 0) := by omega
                    by_cases hrg : -9223372036854775808 ≤ u + v ∧ u + v ≤ 9223372036854775807
                    · have hbf : (u + v == 0) = false := beq_false_of_ne hne
                      clear huv HFI HGO
                      go_wp2_with fail
                      refine bodyPost_ret (v := .agg #[.int .i64 8, .int .i64 (ii : Int)]) ?_ rfl ⟨HB8.out, .inl ⟨ii, rfl, hp, HQ.out, HNO.out⟩⟩
                      simp [results, Tryd.f23, go_sem, e8b, e8c]
                    · have hbf : (wrap64 (u + v) != 0) = true := by have h := wrap_ne ro hv4 hne; rw [IntWalk.i64_left] at h; rw [bne_iff_ne]; exact h
                      clear huv HFI HGO
                      go_wp2_with fail
                      refine bodyPost_ret (v := .agg #[.int .i64 8, .int .i64 (ii : Int)]) ?_ rfl ⟨HB8.out, .inl ⟨ii, rfl, hp, HQ.out, HNO.out⟩⟩
                      simp [results, Tryd.f23, go_sem, e8b, e8c]
              · have b0 : (((c : Int) - (n : Int)) == (n : Int)) = false := beq_false_of_ne (by omega)
                by_cases r2 : c = 0
                · have b2 : (((c : Int) - (n : Int)) == -(n : Int)) = true := by rw [beq_iff_eq]; omega
                  cases bn with
                  | true =>
                    have HNO : Hid (¬ fitsP n ls ii) := fun h => HBN.out.1 rfl (HFI.out.1 h).1
                    clear HFI HGO
                    go_wp2_with fail
                    refine bodyPost_ret (v := .agg #[.int .i64 8, .int .i64 (ii : Int)]) ?_ rfl ⟨HB8.out, .inl ⟨ii, rfl, hp, HQ.out, HNO.out⟩⟩
                    simp [results, Tryd.f23, go_sem, e8b, e8c]
                  | false =>
                    have hl4 : lab4 v := Classical.byContradiction fun h => by have := HBN.out.2 h; cases this
                    have HL4 := Hid.mk' hl4
                    have hv4 : -2 ≤ v ∧ v ≤ 2 := by unfold lab4 at hl4; omega
                    clear hl4
                    have ek2 : ((n : Int) + (n : Int)) * (s : Int) = (K : Int) := by rw [← ek]; congr 1; omega
                    have eo2 : (K : Int) + (n : Int) + (n : Int) = (o : Int) := by omega
                    clear eo ek
                    by_cases huv : u = -v
                    · have HYE : Hid (fitsP n ls ii) := HFI.out.2 ⟨HL4.out, fun _ => huv⟩
                      have HGY := Hid.mk' (HGO.out HYE.out)
                      have hsum : u + v = 0 := by omega
                      clear HYE HGO HFI HL4 HBN huv
                      go_wp2_with fail
                      go_roundw
                      case rel => exact ⟨ii + 1, c + 1, by omega, by have := HII.out; omega, by go_num, by go_num, trivial, HGY.out⟩
                      case measure => simp only [intOf]; omega
                    · have HNO : Hid (¬ fitsP n ls ii) := fun h => huv ((HFI.out.1 h).2 (by omega))
                      have hne : ¬ (u + v = 0) := by omega
                      by_cases hrg : -9223372036854775808 ≤ u + v ∧ u + v ≤ 9223372036854775807
                      · have hbf : (u + v == 0) = false := beq_false_of_ne hne
                        clear huv HFI HGO
                        go_wp2_with fail
                        refine bodyPost_ret (v := .agg #[.int .i64 8, .int .i64 (ii : Int)]) ?_ rfl ⟨HB8.out, .inl ⟨ii, rfl, hp, HQ.out, HNO.out⟩⟩
                        simp [results, Tryd.f23, go_sem, e8b, e8c]
                      · have hbf : (wrap64 (u + v) != 0) = true := by have h := wrap_ne ro hv4 hne; rw [IntWalk.i64_left] at h; rw [bne_iff_ne]; exact h
                        clear huv HFI HGO
                        go_wp2_with fail
                        refine bodyPost_ret (v := .agg #[.int .i64 8, .int .i64 (ii : Int)]) ?_ rfl ⟨HB8.out, .inl ⟨ii, rfl, hp, HQ.out, HNO.out⟩⟩
                        simp [results, Tryd.f23, go_sem, e8b, e8c]
                · have b2 : (((c : Int) - (n : Int)) == -(n : Int)) = false := beq_false_of_ne (by omega)
                  cases bn with
                  | true =>
                    have HNO : Hid (¬ fitsP n ls ii) := fun h => HBN.out.1 rfl (HFI.out.1 h).1
                    clear HFI HGO
                    go_wp2_with fail
                    refine bodyPost_ret (v := .agg #[.int .i64 8, .int .i64 (ii : Int)]) ?_ rfl ⟨HB8.out, .inl ⟨ii, rfl, hp, HQ.out, HNO.out⟩⟩
                    simp [results, Tryd.f23, go_sem, e8b, e8c]
                  | false =>
                    have hl4 : lab4 v := Classical.byContradiction fun h => by have := HBN.out.2 h; cases this
                    have HL4 := Hid.mk' hl4
                    have hv4 : -2 ≤ v ∧ v ≤ 2 := by unfold lab4 at hl4; omega
                    clear hl4
                    have ek2 : ((n : Int) + (n : Int)) * (s : Int) = (K : Int) := by rw [← ek]; congr 1; omega
                    clear ek
                    by_cases huv : u = -v
                    · have HYE : Hid (fitsP n ls ii) := HFI.out.2 ⟨HL4.out, fun _ => huv⟩
                      have HGY := Hid.mk' (HGO.out HYE.out)
                      have hsum : u + v = 0 := by omega
                      clear HYE HGO HFI HL4 HBN huv
                      go_wp2_with fail
                      go_roundw
                      case rel => exact ⟨ii + 1, c + 1, by omega, by have := HII.out; omega, by go_num, by go_num, trivial, HGY.out⟩
                      case measure => simp only [intOf]; omega
                    · have HNO : Hid (¬ fitsP n ls ii) := fun h => huv ((HFI.out.1 h).2 (by omega))
                      have hne : ¬ (u + v = 0) := by omega
                      by_cases hrg : -9223372036854775808 ≤ u + v ∧ u + v ≤ 9223372036854775807
                      · have hbf : (u + v == 0) = false := beq_false_of_ne hne
                        clear huv HFI HGO
                        go_wp2_with fail
                        refine bodyPost_ret (v := .agg #[.int .i64 8, .int .i64 (ii : Int)]) ?_ rfl ⟨HB8.out, .inl ⟨ii, rfl, hp, HQ.out, HNO.out⟩⟩
                        simp [results, Tryd.f23, go_sem, e8b, e8c]
                      · have hbf : (wrap64 (u + v) != 0) = true := by have h := wrap_ne ro hv4 hne; rw [IntWalk.i64_left] at h; rw [bne_iff_ne]; exact h
                        clear huv HFI HGO
                        go_wp2_with fail
                        refine bodyPost_ret (v := .agg #[.int .i64 8, .int .i64 (ii : Int)]) ?_ rfl ⟨HB8.out, .inl ⟨ii, rfl, hp, HQ.out, HNO.out⟩⟩
                        simp [results, Tryd.f23, go_sem, e8b, e8c]
            · obtain rfl : c = s := by omega
              have c3 : ¬ ((c : Int) - (n : Int) ≤ (n : Int)) := by omega
              have HQ2 : Hid (ii = (j + 1) * c ∧ ∀ q, q < ii → fitsP n ls q) := ⟨by rw [hii, HI.out.1, Nat.succ_mul], HQ.out⟩
              have hi3 : ii ≤ N := by omega
              clear hii
              go_wp2_with fail
              go_roundw
              case rel => exact ⟨ii, j + 1, by omega, by omega, rfl, by go_num, trivial, HQ2.out⟩
              case measure => simp only [intOf]; omega
        · have c1 : (j : Int) - (n : Int) ≤ (n : Int) := by omega
          have b1 : (((j : Int) - (n : Int)) == (n : Int)) = false := beq_false_of_ne (by omega)
          have b3 : (((j : Int) - (n : Int)) == -(n : Int)) = false := beq_false_of_ne (by omega)
          go_wp2_with fail
          go_loopw [6, 8] (fun pi p W => ∃ ii c : Nat, c ≤ s ∧ ii = i + c ∧ pi = .int .i64 (ii : Int) ∧ p = .int .i64 ((c : Int) - (n : Int)) ∧ W = wr ∧ Hid (∀ q, q < ii → fitsP n ls q)) (fun _ p _ => 2 * n + 1 - (intOf p + n).toNat)
          case atStart => exact ⟨i, 0, by omega, rfl, rfl, by go_num, rfl, HI.out.2⟩
          case round =>
            obtain ⟨ii, c, hc, hii, rfl, rfl, hwr, HQ⟩ := hrel
            subst hwr
            by_cases hcs : c < s
            · have hp : ii < N := by omega
              have cv := HCL.out ii hp
              have co := HCL.out (N - 1 - ii) (by omega)
              have rv := HR.out ii hp
              have ro := HR.out (N - 1 - ii) (by omega)
              have HFI : Hid (fitsP n ls ii ↔ (lab4 (labA ls ii) ∧ ((c = 2 * n ∨ j = 2 * n ∨ c = 0 ∨ j = 0) → labA ls (N - 1 - ii) = -labA ls ii))) := HFP.out ii j c (by rw [hii, HI.out.1]) hcs
              obtain ⟨v, hv⟩ : ∃ v, labA ls ii = v := ⟨_, rfl⟩
              obtain ⟨u, hu⟩ : ∃ u, labA ls (N - 1 - ii) = u := ⟨_, rfl⟩
              rw [hv] at cv rv HFI
              rw [hu] at co ro HFI
              obtain ⟨o, ho⟩ : ∃ o, N - 1 - ii = o := ⟨_, rfl⟩
              rw [ho] at co
              have ek := HK.out.2
              obtain ⟨K, hK⟩ : ∃ K, N - i - s = K := ⟨_, rfl⟩
              rw [hK] at ek
              have eo : (K : Int) + (n : Int) - ((c : Int) - (n : Int)) = (o : Int) := by omega
              have y0 : (0 : Int) ≤ (ii : Int) := by omega
              have y1 : (ii : Int) < (N : Int) := by omega
              have y2 : (0 : Int) ≤ (o : Int) := by omega
              have y3 : (o : Int) < (N : Int) := by omega
              have y4 : K ≤ 169 := by omega
              have c2 : (c : Int) - (n : Int) ≤ (n : Int) := by omega
              obtain ⟨e8a, e8b, e8c⟩ := HEND.out (.int .i64 8) (.int .i64 (ii : Int))
              have HB8 := Hid.mk' e8a
              have HII := Hid.mk' hii
              clear hv hu ho hK e8a hii
              go_upto_region 14 with fail
              go_cut [10] from 47 to 60 (fun b wx => ∃ bn : Bool, b = .bool bn ∧ (bn = true ↔ ¬ lab4 v) ∧ wx = wr)
              case first =>
                by_cases v1 : v = 1
                · subst v1
                  go_wp2_with fail
                  go_meet
                  exact ⟨false, rfl, by simp [lab4], rfl⟩
                · have w1 : (v == 1) = false := beq_false_of_ne v1
                  by_cases v2 : v = -1
                  · subst v2
                    go_wp2_with fail
                    go_meet
                    exact ⟨false, rfl, by simp [lab4], rfl⟩
                  · have w2 : (v == -1) = false := beq_false_of_ne v2
                    by_cases v3 : v = 2
                    · subst v3
                      go_wp2_with fail
                      go_meet
                      exact ⟨false, rfl, by simp [lab4], rfl⟩
                    · have w3 : (v == 2) = false := beq_false_of_ne v3
                      by_cases v4 : v = -2
                      · subst v4
                        go_wp2_with fail
                        go_meet
                        exact ⟨false, rfl, by simp [lab4], rfl⟩
                      · have w4 : (v == -2) = false := beq_false_of_ne v4
                        go_wp2_with fail
                        go_meet
                        exact ⟨true, by simp [v1, v2, v3, v4], by simp [lab4, v1, v2, v3, v4], rfl⟩
              obtain ⟨bn, rfl, hbn, hw⟩ := hcut
              have hw2 := hw.symm
              subst hw2
              clear hw
              have HBN := Hid.mk' hbn
              clear hbn
              have HGO : Hid (fitsP n ls ii → ∀ q, q < ii + 1 → fitsP n ls q) := fun h q hq => by
                rcases Nat.lt_or_ge q ii with g | g
                · exact HQ.out q g
                · obtain rfl : q = ii := by omega
                  exact h
              by_cases r0 : c = 2 * n
              · have b0 : (((c : Int) - (n : Int)) == (n : Int)) = true := by rw [beq_iff_eq]; omega
                cases bn with
                | true =>
                  have HNO : Hid (¬ fitsP n ls ii) := fun h => HBN.out.1 rfl (HFI.out.1 h).1
                  clear HFI HGO
                  go_wp2_with fail
                  refine bodyPost_ret (v := .agg #[.int .i64 8, .int .i64 (ii : Int)]) ?_ rfl ⟨HB8.out, .inl ⟨ii, rfl, hp, HQ.out, HNO.out⟩⟩
                  simp [results, Tryd.f23, go_sem, e8b, e8c]
                | false =>
                  have hl4 : lab4 v := Classical.byContradiction fun h => by have := HBN.out.2 h; cases this
                  have HL4 := Hid.mk' hl4
                  have hv4 : -2 ≤ v ∧ v ≤ 2 := by unfold lab4 at hl4; omega
                  clear hl4
                  obtain rfl : o = K := by omega
                  clear eo
                  by_cases huv : u = -v
                  · have HYE : Hid (fitsP n ls ii) := HFI.out.2 ⟨HL4.out, fun _ => huv⟩
                    have HGY := Hid.mk' (HGO.out HYE.out)
                    have hsum : u + v = 0 := by omega
                    clear HYE HGO HFI HL4 HBN huv
                    go_wp2_with fail
                    go_roundw
                    case rel => exact ⟨ii + 1, c + 1, by omega, by have := HII.out; omega, by go_num, by go_num, trivial, HGY.out⟩
                    case measure => simp only [intOf]; omega
                  · have HNO : Hid (¬ fitsP n ls ii) := fun h => huv ((HFI.out.1 h).2 (by omega))
                    have hne : ¬ (u + v = 0) := by omega
                    by_cases hrg : -9223372036854775808 ≤ u + v ∧ u + v ≤ 9223372036854775807
                    · have hbf : (u + v == 0) = false := beq_false_of_ne hne
                      clear huv HFI HGO
                      go_wp2_with fail
                      refine bodyPost_ret (v := .agg #[.int .i64 8, .int .i64 (ii : Int)]) ?_ rfl ⟨HB8.out, .inl ⟨ii, rfl, hp, HQ.out, HNO.out⟩⟩
                      simp [results, Tryd.f23, go_sem, e8b, e8c]
                    · have hbf : (wrap64 (u + v) != 0) = true := by have h := wrap_ne ro hv4 hne; rw [IntWalk.i64_left] at h; rw [bne_iff_ne]; exact h
                      clear huv HFI HGO
                      go_wp2_with fail
                      refine bodyPost_ret (v := .agg #[.int .i64 8, .int .i64 (ii : Int)]) ?_ rfl ⟨HB8.out, .inl ⟨ii, rfl, hp, HQ.out, HNO.out⟩⟩
                      simp [results, Tryd.f23, go_sem, e8b, e8c]
              · have b0 : (((c : Int) - (n : Int)) == (n : Int)) = false := beq_false_of_ne (by omega)
                by_cases r2 : c = 0
                · have b2 : (((c : Int) - (n : Int)) == -(n : Int)) = true := by rw [beq_iff_eq]; omega
                  cases bn with
                  | true =>
                    have HNO : Hid (¬ fitsP n ls ii) := fun h => HBN.out.1 rfl (HFI.out.1 h).1
                    clear HFI HGO
                    go_wp2_with fail
                    refine bodyPost_ret (v := .agg #[.int .i64 8, .int .i64 (ii : Int)]) ?_ rfl ⟨HB8.out, .inl ⟨ii, rfl, hp, HQ.out, HNO.out⟩⟩
                    simp [results, Tryd.f23, go_sem, e8b, e8c]
                  | false =>
                    have hl4 : lab4 v := Classical.byContradiction fun h => by have := HBN.out.2 h; cases this
                    have HL4 := Hid.mk' hl4
                    have hv4 : -2 ≤ v ∧ v ≤ 2 := by unfold lab4 at hl4; omega
                    clear hl4
                    have eo2 : (K : Int) + (n : Int) + (n : Int) = (o : Int) := by omega
                    clear eo
                    by_cases huv : u = -v
                    · have HYE : Hid (fitsP n ls ii) := HFI.out.2 ⟨HL4.out, fun _ => huv⟩
                      have HGY := Hid.mk' (HGO.out HYE.out)
                      have hsum : u + v = 0 := by omega
                      clear HYE HGO HFI HL4 HBN huv
                      go_wp2_with fail
                      go_roundw
                      case rel => exact ⟨ii + 1, c + 1, by omega, by have := HII.out; omega, by go_num, by go_num, trivial, HGY.out⟩
                      case measure => simp only [intOf]; omega
                    · have HNO : Hid (¬ fitsP n ls ii) := fun h => huv ((HFI.out.1 h).2 (by omega))
                      have hne : ¬ (u + v = 0) := by omega
                      by_cases hrg : -9223372036854775808 ≤ u + v ∧ u + v ≤ 9223372036854775807
                      · have hbf : (u + v == 0) = false := beq_false_of_ne hne
                        clear huv HFI HGO
                        go_wp2_with fail
                        refine bodyPost_ret (v := .agg #[.int .i64 8, .int .i64 (ii : Int)]) ?_ rfl ⟨HB8.out, .inl ⟨ii, rfl, hp, HQ.out, HNO.out⟩⟩
                        simp [results, Tryd.f23, go_sem, e8b, e8c]
                      · have hbf : (wrap64 (u + v) != 0) = true := by have h := wrap_ne ro hv4 hne; rw [IntWalk.i64_left] at h; rw [bne_iff_ne]; exact h
                        clear huv HFI HGO
                        go_wp2_with fail
                        refine bodyPost_ret (v := .agg #[.int .i64 8, .int .i64 (ii : Int)]) ?_ rfl ⟨HB8.out, .inl ⟨ii, rfl, hp, HQ.out, HNO.out⟩⟩
                        simp [results, Tryd.f23, go_sem, e8b, e8c]
                · have b2 : (((c : Int) - (n : Int)) == -(n : Int)) = false := beq_false_of_ne (by omega)
                  cases bn with
                  | true =>
                    have HNO : Hid (¬ fitsP n ls ii) := fun h => HBN.out.1 rfl (HFI.out.1 h).1
                    clear HFI HGO
                    go_wp2_with fail
                    refine bodyPost_ret (v := .agg #[.int .i64 8, .int .i64 (ii : Int)]) ?_ rfl ⟨HB8.out, .inl ⟨ii, rfl, hp, HQ.out, HNO.out⟩⟩
                    simp [results, Tryd.f23, go_sem, e8b, e8c]
                  | false =>
                    have hl4 : lab4 v := Classical.byContradiction fun h => by have := HBN.out.2 h; cases this
                    have HL4 := Hid.mk' hl4
                    have hv4 : -2 ≤ v ∧ v ≤ 2 := by unfold lab4 at hl4; omega
                    clear hl4
                    have HYE : Hid (fitsP n ls ii) := HFI.out.2 ⟨HL4.out, fun h => by omega⟩
                    have HGY := Hid.mk' (HGO.out HYE.out)
                    clear HYE HGO HFI HL4 HBN
                    go_wp2_with fail
                    go_roundw
                    case rel => exact ⟨ii + 1, c + 1, by omega, by have := HII.out; omega, by go_num, by go_num, trivial, HGY.out⟩
                    case measure => simp only [intOf]; omega
            · obtain rfl : c = s := by omega
              have c3 : ¬ ((c : Int) - (n : Int) ≤ (n : Int)) := by omega
              have HQ2 : Hid (ii = (j + 1) * c ∧ ∀ q, q < ii → fitsP n ls q) := ⟨by rw [hii, HI.out.1, Nat.succ_mul], HQ.out⟩
              have hi3 : ii ≤ N := by omega
              clear hii
              go_wp2_with fail
              go_roundw
              case rel => exact ⟨ii, j + 1, by omega, by omega, rfl, by go_num, trivial, HQ2.out⟩
              case measure => show 2 * n + 1 - ((j : Int) - (n : Int) + 1 + (n : Int)).toNat < 2 * n + 1 - ((j : Int) - (n : Int) + (n : Int)).toNat; omega
    · obtain rfl : j = s := by omega
      have c3 : ¬ ((j : Int) - (n : Int) ≤ (n : Int)) := by omega
      obtain ⟨e0a, e0b, e0c⟩ := HEND.out (.int .i64 0) (.int .i64 (-1))
      have HB0 := Hid.mk' e0a
      have HALL : Hid (∀ q, q < N → fitsP n ls q) := fun q hq => HI.out.2 q (by rw [HI.out.1, HNS.out]; exact hq)
      clear e0a
      go_wp2_with fail
      refine bodyPost_ret (v := .agg #[.int .i64 0, .int .i64 (-1)]) ?_ rfl ⟨HB0.out, .inr ⟨rfl, HALL.out⟩⟩
      simp [results, Tryd.f23, go_sem, e0b, e0c]

end Go.Proofs.YtbohobelbgbibaaDoor
