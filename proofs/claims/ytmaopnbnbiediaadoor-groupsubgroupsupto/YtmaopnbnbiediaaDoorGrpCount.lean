/- The law's own numbers: factorial, power, HALL's number. How many tables of few rows a free group has. No Go here. -/
import Derived.Test.YtmaopnbnbiediaaDoorGrpSubOf
import Derived.Test.YtmaopnbnbiediaaDoorGrpHole
namespace Go.Proofs.YtmaopnbnbiediaaDoor
open Go.RowKit Go.Sort

/-- A sum on the way to HALL's number. -/
def hsum (r n : Nat) (l : List Int) : Nat → Int
  | 0 => ((n * facN n ^ (r - 1) : Nat) : Int)
  | k + 1 => hsum r n l k - ((facN (n - (k + 1)) ^ (r - 1) : Nat) : Int) * l[k]?.getD 0
def hallL (r : Nat) : Nat → List Int
  | 0 => []
  | n + 1 => hallL r n ++ [hsum r (n + 1) (hallL r n) n]
def hallP (r N : Nat) : Int := if r = 0 then (if N = 1 then 1 else 0) else (hallL r N)[N - 1]?.getD 0
theorem hallL_len (r : Nat) : ∀ n, (hallL r n).length = n
  | 0 => rfl
  | n + 1 => by rw [hallL, List.length_append, hallL_len r n]; rfl
set_option maxRecDepth 100000 in
theorem hall_bounds' : ∀ r, r < 6 → ∀ n, n < 4 → ∀ k, k < n + 1 → (-100000000 ≤ hsum r (n + 1) (hallL r n) k ∧ hsum r (n + 1) (hallL r n) k ≤ 100000000) ∧ (-100000000 ≤ ((facN (n + 1 - (k + 1)) ^ (r - 1) : Nat) : Int) * (hallL r n)[k]?.getD 0 ∧ ((facN (n + 1 - (k + 1)) ^ (r - 1) : Nat) : Int) * (hallL r n)[k]?.getD 0 ≤ 100000000) := by decide +kernel

set_option maxRecDepth 100000 in
theorem factorial_one (q f : Nat) (w : World) (hq : q < 2) (hf : f = 1) : Calls Tryd.prog 27 #[.int .i64 (q : Int)] w fun e w' => e = .returned (.int .i64 (f : Int)) ∧ w' = w := by
  have y : (q : Int) < 2 := by omega
  have HF : Hid (f = 1) := hf
  clear hf
  go_enter Tryd.func27, Tryd.ntmps27
  go_wp2_with fail
  go_ret
  exact ⟨by rw [HF.out]; rfl, rfl⟩
theorem facN_one {q : Nat} (h : q < 2) : facN q = 1 := by
  match q, h with
  | 0, _ => rfl
  | 1, _ => rfl

set_option maxRecDepth 100000 in
set_option maxHeartbeats 1000000 in
theorem factorial_step (q q1 f f2 : Nat) (w : World) (h2 : 2 ≤ q) (h4 : q ≤ 4) (hs : (q : Int) - 1 = (q1 : Int)) (hm : (q : Int) * (f : Int) = (f2 : Int)) (_hle : f ≤ 24) (hle2 : f2 ≤ 24) (ih : Calls Tryd.prog 27 #[.int .i64 (q1 : Int)] w fun e w' => e = .returned (.int .i64 (f : Int)) ∧ w' = w) : Calls Tryd.prog 27 #[.int .i64 (q : Int)] w fun e w' => e = .returned (.int .i64 (f2 : Int)) ∧ w' = w := by
  have hq2 : ¬ ((q : Int) < 2) := by omega
  go_enter Tryd.func27, Tryd.ntmps27
  go_wp2_with (go_at_call 27; refine ih.mono ?_; rintro e V ⟨rfl, hV⟩; subst hV; clear ih)
  go_ret
  exact ⟨rfl, rfl⟩

theorem factorial_ (k : Nat) : ∀ (w : World), k ≤ 4 → Calls Tryd.prog 27 #[.int .i64 (k : Int)] w fun e w' => e = .returned (.int .i64 (facN k : Int)) ∧ w' = w := by
  induction k with
  | zero => exact fun w _ => factorial_one 0 _ w (by omega) rfl
  | succ k ih =>
    intro w h
    by_cases hk : k + 1 < 2
    · exact factorial_one (k + 1) _ w hk (facN_one hk)
    · exact factorial_step (k + 1) k (facN k) (facN (k + 1)) w (by omega) h (by omega) (by rw [show facN (k + 1) = (k + 1) * facN k from Nat.mul_comm _ _]; simp) (facN_le (by omega)) (facN_le h) (ih w (by omega))

set_option maxRecDepth 100000 in
set_option maxHeartbeats 1000000 in
theorem power_ (a r : Nat) (w : World) (ha : a ≤ 24) (hr : r ≤ 5) : Calls Tryd.prog 26 #[.int .i64 (a : Int), .int .i64 ((r : Int) - 1)] w fun e w' => e = .returned (.int .i64 ((a ^ (r - 1) : Nat) : Int)) ∧ w' = w := by
  obtain ⟨ei, hei⟩ : ∃ ei, (r : Int) - 1 = ei := ⟨_, rfl⟩
  have HEI : Hid (ei = (r : Int) - 1) := hei.symm
  have hb1 : -1 ≤ ei := by omega
  have hb2 : ei ≤ 4 := by omega
  obtain ⟨z, hz⟩ : ∃ z, a ^ (r - 1) = z := ⟨_, rfl⟩
  have HZ : Hid (a ^ (r - 1) = z) := hz
  rw [hei, hz]
  clear hei hz
  go_enter Tryd.func26, Tryd.ntmps26
  go_wp2_with fail
  go_loopw [5, 6] (fun pp p W => ∃ (j f2 : Nat), j ≤ r - 1 ∧ f2 ≤ 7962624 ∧ pp = .int .i64 (f2 : Int) ∧ p = .int .i64 (j : Int) ∧ W = w ∧ Hid (a ^ j = f2)) (fun _ p _ => r - (intOf p).toNat)
  case atStart => exact ⟨0, 1, by omega, by omega, rfl, rfl, rfl, rfl⟩
  case round =>
    obtain ⟨j, f2, hj, hf2, rfl, rfl, rfl, HJ⟩ := hrel
    by_cases hjn : (j : Int) < ei
    · have hjr : j + 1 ≤ r - 1 := by have := HEI.out; omega
      obtain ⟨f3, hf3⟩ : ∃ f3, f2 * a = f3 := ⟨_, rfl⟩
      have HF3 : Hid (a ^ (j + 1) = f3) := by show _ = _; rw [Nat.pow_succ, HJ.out, hf3]
      have hle : f3 ≤ 7962624 := by rw [← HF3.out]; exact pow_small ha (by omega)
      have hm : (f2 : Int) * (a : Int) = (f3 : Int) := by rw [← hf3]; simp
      clear hf3
      go_wp2_with fail
      go_roundw
      case rel => exact ⟨j + 1, f3, by omega, hle, by first | rfl | go_num, by go_num, by first | rfl | trivial, HF3.out⟩
      case measure => simp [intOf]; omega
    · have HE : Hid (z = f2) := by
        have h1 := HEI.out
        have h2 : j = r - 1 := by omega
        show _ = _
        rw [← HZ.out, ← h2]
        exact HJ.out
      go_wp2_with fail
      go_ret
      exact ⟨by rw [HE.out]; rfl, rfl⟩

set_option maxRecDepth 100000 in
set_option maxHeartbeats 4000000 in
theorem hall_ (r N : Nat) (w : World) (hr : r ≤ 5) (h0 : 1 ≤ N) (hN : N ≤ 4) : Calls Tryd.prog 11 #[.int .i64 (r : Int), .int .i64 (N : Int)] w fun e w' => e = .returned (.int .i64 (hallP r N)) ∧ Below w.heap.size w w' := by
  obtain ⟨j0, hj0, hy0, hy1, hy2⟩ := info_parts Tryd.infoi
  have HFA : Hid (∀ (d : Nat) (V : World), d ≤ 4 → Calls Tryd.prog 27 #[.int .i64 (d : Int)] V fun e w' => e = .returned (.int .i64 (facN d : Int)) ∧ w' = V) := fun d V hd => factorial_ d V hd
  obtain ⟨ei, hei⟩ : ∃ ei, (r : Int) - 1 = ei := ⟨_, rfl⟩
  have HEI : Hid ((r : Int) - 1 = ei) := hei
  have HPO : Hid (∀ (d : Nat) (V : World), d ≤ 4 → Calls Tryd.prog 26 #[.int .i64 (facN d : Int), .int .i64 ei] V fun e w' => e = .returned (.int .i64 ((facN d ^ (r - 1) : Nat) : Int)) ∧ w' = V) := fun d V hd => by rw [← hei]; exact power_ (facN d) r V (facN_le hd) hr
  have hewr : IntKind.i64.wrap ((r : Int) - 1) = ei := by rw [hei]; exact wrapI (by omega) (by omega)
  obtain ⟨Z, hZ⟩ : ∃ Z, hallP r N = Z := ⟨_, rfl⟩
  have HZ : Hid (hallP r N = Z) := hZ
  rw [hZ]
  have hsub := HEI.out
  clear hei hZ
  go_enter Tryd.func11, Tryd.ntmps11
  go_wp2_with fail
  go_loopw [5, 6] (fun pv p W => ∃ (v : Value) (n : Nat), n ≤ N ∧ pv = v ∧ p = .int .i64 ((n : Int) + 1) ∧ Hid (W.ownsRow w.heap.size 3 1 v n ((hallL r n).map (Value.int .i64)) ∧ Below w.heap.size w W)) (fun _ p _ => N + 1 - (intOf p).toNat)
  case atStart => exact ⟨_, 0, by omega, rfl, rfl, World.ownsRow_nil _ _ _ _, Below.refl _ _⟩
  case round =>
    obtain ⟨v, n, hn, rfl, rfl, HK⟩ := hrel
    obtain ⟨av, cv, hv⟩ := own_one HK.out.1
    subst hv
    obtain ⟨W1, hW1⟩ : ∃ W, W = wr := ⟨_, rfl⟩
    subst hW1
    obtain ⟨n1, hn1⟩ : ∃ n1, n + 1 = n1 := ⟨_, rfl⟩
    have HN1 : Hid (n + 1 = n1) := hn1
    have hn1i : (n : Int) + 1 = (n1 : Int) := by omega
    by_cases hnN : n < N
    · have hfa := HFA.out n1 W1 (by omega)
      have hpo := HPO.out n1 W1 (by omega)
      have hbd := fun k (hk : k < n + 1) => hall_bounds' r (by omega) n (by omega) k hk
      have HBD := Hid.mk' hbd
      have hb0 := (hbd 0 (by omega)).1
      have HS0 : Hid (hsum r (n + 1) (hallL r n) 0 = ((n1 * facN n1 ^ (r - 1) : Nat) : Int)) := by show _ = _; rw [← hn1]; rfl
      obtain ⟨f1, hf1⟩ : ∃ f1, facN n1 = f1 := ⟨_, rfl⟩
      obtain ⟨p1, hp1⟩ : ∃ p1, f1 ^ (r - 1) = p1 := ⟨_, rfl⟩
      obtain ⟨s0, hs0⟩ : ∃ s0, n1 * p1 = s0 := ⟨_, rfl⟩
      rw [hf1] at hfa hpo HS0
      rw [hp1] at hpo HS0
      rw [hs0] at HS0
      rw [HS0.out] at hb0
      have hms : (n1 : Int) * (p1 : Int) = (s0 : Int) := by rw [← hs0]; simp
      have y1 : (n1 : Int) ≤ (N : Int) := by omega
      have hsz := HK.out.2.size
      clear hn1 hbd hf1 hp1 hs0
      go_wp2_with (first
        | (go_at_call 27; refine hfa.mono ?_; rintro e V ⟨rfl, hV⟩; obtain rfl : W1 = V := hV.symm; clear hfa)
        | (go_at_call 26; refine hpo.mono ?_; rintro e V ⟨rfl, hV⟩; obtain rfl : W1 = V := hV.symm; clear hpo)
        | fail)
      go_loopw [7, 8] (fun ps p W => ∃ (s : Int) (k : Nat), k ≤ n ∧ ps = .int .i64 s ∧ p = .int .i64 ((k : Int) + 1) ∧ (-100000000 ≤ s ∧ s ≤ 100000000) ∧ Hid (hsum r (n + 1) (hallL r n) k = s ∧ Below W1.heap.size W1 W)) (fun _ p _ => n1 - (intOf p).toNat)
      case atStart => exact ⟨s0, 0, by omega, rfl, rfl, hb0, HS0.out, Below.refl _ _⟩
      case round =>
        obtain ⟨s, k, hk, rfl, rfl, hsb, HS⟩ := hrel
        obtain ⟨k1, hk1⟩ : ∃ k1, k + 1 = k1 := ⟨_, rfl⟩
        have hk1i : (k : Int) + 1 = (k1 : Int) := by omega
        by_cases hkn : k < n
        · obtain ⟨g, cg, hvg⟩ : ∃ g cg, Value.slice av n cv = .slice (some ⟨g, 0, none⟩) n cg := by
            obtain ⟨_, h9⟩ := HK.out.1
            rcases h9 with ⟨_, h9⟩ | ⟨g, cap, cur, e, _⟩
            · omega
            · exact ⟨g, cap, e⟩
          cases hvg
          have hcl : W1.cell? ⟨g, k, none⟩ = some (.int .i64 ((hallL r n)[k]?.getD 0)) := by
            have h9 := HK.out.1.cellAt k (by omega)
            rw [h9, List.getElem?_map, List.getElem?_eq_getElem (by rw [hallL_len]; exact hkn)]
            rfl
          have hcl2 := (HS.out.2.cell (p := ⟨g, k, none⟩) (cell_lt hcl)).trans hcl
          have hb := (HBD.out k (by omega)).2
          have hb2 := (HBD.out (k + 1) (by omega)).1
          have HS2 : Hid (hsum r (n + 1) (hallL r n) (k + 1) = s - ((facN (n + 1 - (k + 1)) ^ (r - 1) : Nat) : Int) * (hallL r n)[k]?.getD 0) := by show _ = _; rw [hsum, HS.out.1]
          rw [HS2.out] at hb2
          obtain ⟨d, hd⟩ : ∃ d, n + 1 - (k + 1) = d := ⟨_, rfl⟩
          have hfa2 : ∀ q, Calls Tryd.prog 27 #[.int .i64 (d : Int)] (wr.drewN q) fun e w' => e = .returned (.int .i64 (facN d : Int)) ∧ w' = wr.drewN q := fun q => HFA.out d _ (by omega)
          have hpo2 : ∀ q, Calls Tryd.prog 26 #[.int .i64 (facN d : Int), .int .i64 ei] (wr.drewN q) fun e w' => e = .returned (.int .i64 ((facN d ^ (r - 1) : Nat) : Int)) ∧ w' = wr.drewN q := fun q => HPO.out d _ (by omega)
          rw [hd] at HS2 hb hb2
          obtain ⟨lv, hlv⟩ : ∃ lv, (hallL r n)[k]?.getD 0 = lv := ⟨_, rfl⟩
          obtain ⟨fd, hfd⟩ : ∃ fd, facN d = fd := ⟨_, rfl⟩
          obtain ⟨pw, hpw⟩ : ∃ pw, fd ^ (r - 1) = pw := ⟨_, rfl⟩
          rw [hlv] at HS2 hcl2 hb hb2
          rw [hfd] at HS2 hfa2 hpo2 hb hb2
          rw [hpw] at HS2 hpo2 hb hb2
          obtain ⟨pr, hpr⟩ : ∃ pr, (pw : Int) * lv = pr := ⟨_, rfl⟩
          rw [hpr] at HS2 hb hb2
          obtain ⟨s2, hs2⟩ : ∃ s2, s - pr = s2 := ⟨_, rfl⟩
          rw [hs2] at HS2 hb2
          have w1 : IntKind.i64.wrap ((n1 : Int) - (k1 : Int)) = (d : Int) := by have := HN1.out; rw [wrapI (by omega) (by omega)]; omega
          have w2 : IntKind.i64.wrap ((k1 : Int) - 1) = (k : Int) := by rw [wrapI (by omega) (by omega)]; omega
          have w3 : IntKind.i64.wrap ((pw : Int) * lv) = pr := by rw [hpr, IntKind.wrap_i64]; omega
          have w4 : IntKind.i64.wrap (s - pr) = s2 := by rw [hs2, IntKind.wrap_i64]; omega
          have v1 : (n1 : Int) - (k1 : Int) = (d : Int) := by have := HN1.out; omega
          have v2 : (k1 : Int) - 1 = (k : Int) := by omega
          have z0 : (0 : Int) ≤ (k : Int) := by omega
          have z1 : (k : Int) < (n : Int) := by omega
          have z2 : (k1 : Int) < (n1 : Int) := by have := HN1.out; omega
          clear hcl hlv hfd hpw hd hk1
          go_wp2_with fail
          go_quiet (first
            | (go_at_call 27; refine Calls.quiet_of_same (hfa2 _))
            | (go_at_call 26; refine Calls.quiet_of_same (hpo2 _)))
          go_wp2
          go_roundw
          case rel => exact ⟨s2, k + 1, by omega, by first | rfl | go_num, by first | go_num | (simp; omega), hb2, HS2.out, HS.out.2.trans ((below_drewN _ _).mono HS.out.2.size)⟩
          case measure => simp [intOf]; omega
        · obtain rfl : n = k := by omega
          have HE : Hid (hallL r n1 = hallL r n ++ [s]) := by show _ = _; rw [← HN1.out, hallL, HS.out.1]
          have z2 : ¬ ((k1 : Int) < (n1 : Int)) := by have := HN1.out; omega
          have HKW : Hid (wr.ownsRow w.heap.size 3 1 (.slice av n cv) n ((hallL r n).map (Value.int .i64))) := HK.out.1.kept (Below.grownBy HS.out.2) (no_row _)
          have hsw := HS.out.2.size
          go_wp2_with (first
            | (at_builtin; refine wpList_append_own_at _ rfl (.tmp 41) (.tmp 43) 42 rfl w.heap.size 3 j0 (.int .i64 0) 1 8 Tryd.underlying42 hj0 hy0 hy1 hy2 rfl (by decide) _ n ((hallL r n).map (Value.int .i64)) rfl (HKW.out.alloc _) ⟨_, 0, none⟩ 1 1 [_] rfl rfl (cells_new _ _ _) (by simp [Value.oneCell']) (by unfold maxLen; omega) (by omega) (by simp; omega) ?_; intro v7 w7 hown7 hg7 hn7 hl7; have H7 := Hid.mk' (And.intro hown7 hg7); obtain ⟨a7, c7, rfl⟩ := own_one hown7; clear hown7 hg7 hn7 hl7)
            | fail)
          go_roundw
          case rel =>
            refine ⟨.slice a7 n1 c7, n1, by have := HN1.out; omega, by rw [show k1 = n1 by have := HN1.out; omega], by first | go_num | (simp; omega), ?_, ?_⟩
            · rw [HE.out, List.map_append]
              have h9 := H7.out.1
              rw [HN1.out] at h9
              exact h9
            · have h1 := H7.out.2
              have h2 := h1.size
              rw [World.size_alloc] at h2
              have h3 := HK.out.2.trans (HS.out.2.mono HK.out.2.size)
              refine ⟨h1.os.trans h3.os, h1.tape.trans h3.tape, h1.output.trans h3.output, by omega, fun b hb => ?_⟩
              rw [h1.block b (by rw [World.size_alloc]; omega) fun e => by have := (HK.out.1.lt b e.symm).1; omega, Below.heap_alloc wr _ b (by omega)]
              exact h3.block b hb
          case measure => have := HN1.out; simp [intOf]; omega
    · obtain rfl : N = n := by omega
      have y1 : ¬ ((n1 : Int) ≤ (N : Int)) := by omega
      have HBW : Hid (Below w.heap.size w W1) := HK.out.2
      by_cases hr0 : r = 0
      · by_cases hN1 : N = 1
        · have HE : Hid (Z = 1) := by show _ = _; rw [← HZ.out, hallP, if_pos hr0, if_pos hN1]
          have y2 : ((r : Int) == 0) = true := by rw [hr0]; rfl
          have y3 : ((N : Int) == 1) = true := by rw [hN1]; rfl
          clear hn1
          go_wp2_with fail
          go_ret
          exact ⟨by rw [HE.out]; rfl, HBW.out⟩
        · have HE : Hid (Z = 0) := by show _ = _; rw [← HZ.out, hallP, if_pos hr0, if_neg hN1]
          have y2 : ((r : Int) == 0) = true := by rw [hr0]; rfl
          have y3 : ((N : Int) == 1) = false := beq_false_of_ne (by omega)
          clear hn1
          go_wp2_with fail
          go_ret
          exact ⟨by rw [HE.out]; rfl, HBW.out⟩
      · obtain ⟨g, cg, hvg⟩ : ∃ g cg, Value.slice av N cv = .slice (some ⟨g, 0, none⟩) N cg := by
          obtain ⟨_, h9⟩ := HK.out.1
          rcases h9 with ⟨_, h9⟩ | ⟨g, cap, cur, e, _⟩
          · omega
          · exact ⟨g, cap, e⟩
        cases hvg
        obtain ⟨m, hm⟩ : ∃ m, N - 1 = m := ⟨_, rfl⟩
        have hcl : W1.cell? ⟨g, m, none⟩ = some (.int .i64 Z) := by
          have h9 := HK.out.1.cellAt m (by omega)
          rw [h9, List.getElem?_map, List.getElem?_eq_getElem (by rw [hallL_len]; omega), ← HZ.out, hallP, if_neg hr0, hm, List.getElem?_eq_getElem (by rw [hallL_len]; omega)]
          rfl
        have y2 : ((r : Int) == 0) = false := beq_false_of_ne (by omega)
        have y3 : (N : Int) - 1 = (m : Int) := by omega
        have y4 : (0 : Int) ≤ (m : Int) := by omega
        have y5 : (m : Int) < (N : Int) := by omega
        clear hn1 hm
        go_wp2_with fail
        go_ret
        exact ⟨rfl, HBW.out⟩

end Go.Proofs.YtmaopnbnbiediaaDoor

namespace Go.Proofs.YtmaopnbnbiediaaDoor
set_option maxRecDepth 1000000 in
theorem count_1 : ∀ n, n < 6 → (subP 1 n).length = 1 := by decide +kernel
set_option maxRecDepth 1000000 in
theorem count_2 : (subP 2 0).length = 0 ∧ (subP 2 1).length = 1 ∧ (subP 2 2).length = 3 ∧ (subP 2 3).length = 7 ∧ (subP 2 4).length = 15 ∧ (subP 2 5).length = 31 := by decide +kernel
set_option maxRecDepth 1000000 in
theorem count_3 : (subP 3 0).length = 0 ∧ (subP 3 1).length = 1 ∧ (subP 3 2).length = 13 ∧ (subP 3 3).length = 97 ∧ (subP 3 4).length = 625 := by decide +kernel
set_option maxRecDepth 1000000 in
theorem count_4 : (subP 4 0).length = 0 ∧ (subP 4 1).length = 1 ∧ (subP 4 2).length = 71 := by decide +kernel
end Go.Proofs.YtmaopnbnbiediaaDoor
