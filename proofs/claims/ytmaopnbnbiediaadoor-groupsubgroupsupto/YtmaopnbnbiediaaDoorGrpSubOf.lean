/- The reference's SubgroupsOf. -/
import Derived.Test.YtmaopnbnbiediaaDoorGrpTa
namespace Go.Proofs.YtmaopnbnbiediaaDoor
open Go.RowKit Go.Sort

/-- What is told of the first so many. -/
def refP (N n : Nat) (rels : List (List Int)) : Nat → List (List (List Int))
  | 0 => []
  | k + 1 => if stdB (tabK N n k) && keepsB rels (tabK N n k) then putT (refP N n rels k) (tabK N n k) else refP N n rels k
theorem putT_mem {L : List (List (List Int))} {T X : List (List Int)} (h : X ∈ putT L T) : X ∈ L ∨ X = T := by
  unfold putT at h
  rcases List.mem_append.1 h with h | h
  · exact .inl ((List.takeWhile_prefix _).subset h)
  · rcases List.mem_append.1 h with h | h
    · exact .inr (List.mem_singleton.1 h)
    · exact .inl ((List.dropWhile_suffix _).subset h)
theorem putT_len (L : List (List (List Int))) (T : List (List Int)) : (putT L T).length = L.length + 1 := by
  unfold putT
  rw [List.length_append, List.length_append]
  have := congrArg List.length (List.takeWhile_append_dropWhile (p := (aheadT · T)) (l := L))
  rw [List.length_append] at this
  simp
  omega
theorem refP_mem {N n : Nat} {rels : List (List Int)} : ∀ {k : Nat} {X : List (List Int)}, X ∈ refP N n rels k → ∃ j, X = tabK N n j
  | 0, X, h => by cases h
  | k + 1, X, h => by
    rw [refP] at h
    split at h
    · rcases putT_mem h with h | h
      · exact refP_mem h
      · exact ⟨k, h⟩
    · exact refP_mem h
theorem refP_len {N n : Nat} {rels : List (List Int)} : ∀ k, (refP N n rels k).length ≤ k
  | 0 => Nat.le_refl _
  | k + 1 => by
    have := refP_len (N := N) (n := n) (rels := rels) k
    rw [refP]
    split
    · rw [putT_len]; omega
    · omega
theorem flat_wide {n : Nat} : ∀ {T : List (List Int)}, Wide n T → T.flatten.length = T.length * (2 * n)
  | [], _ => by simp
  | r :: rs, h => by
    have h1 := h r (by simp)
    have h2 := flat_wide (T := rs) fun q hq => h q (by simp [hq])
    rw [List.flatten_cons, List.length_append, h2, List.length_cons, Nat.add_mul, Nat.one_mul]
    omega
theorem tame_small {N n : Nat} {T : List (List Int)} (h : Tame N n T) (hN : N ≤ 4) (hn : n ≤ 5) : T.length ≤ 1000 ∧ T.flatten.length ≤ 1000 := by
  rw [flat_wide h.wide, h.len]
  have := Nat.mul_le_mul hN (show 2 * n ≤ 10 by omega)
  omega
theorem rep_snoc {α : Type} (i : Nat) (z : α) : List.replicate (i + 1) z = List.replicate i z ++ [z] := by
  rw [List.replicate_succ']

set_option maxRecDepth 100000 in
set_option maxHeartbeats 8000000 in
theorem subgroupsOf_ (N n Wn : Nat) (vr : Value) (rels : List (List Int)) (w : World) (hr : FewAt w vr rels) (hl : ∀ ws ∈ rels, LettersIn n ws) (h0 : 1 ≤ N) (hN : N ≤ 4) (hn : n ≤ 5) (hWn : waysP N n = Wn) (hW15 : Wn ≤ 1500) :
    Calls Tryd.prog 12 #[.agg #[.int .i64 (n : Int), vr], .int .i64 (N : Int)] w fun e w' => ∃ u, e = .returned u ∧ Tabs w' u (refP N n rels Wn) ∧ Below w.heap.size w w' := by
  obtain ⟨i0, hi0, hz0, hz1, hz2⟩ := info_parts Tryd.info42
  obtain ⟨j0, hj0, hy0, hy1, hy2⟩ := info_parts Tryd.infoi
  obtain ⟨ar, cr, rfl, -, -⟩ := hr.rows.open_
  have hBa : Below w.heap.size w (w.alloc (.cells #[.int .i64 (n : Int), .slice ar rels.length cr] 24)) := (Below.refl _ w).alloc (Nat.le_refl _) _
  have hnew := cells_new w [.int .i64 (n : Int), .slice ar rels.length cr] 24
  have q0 := hnew 0 _ rfl
  have q1 := hnew 1 _ rfl
  rw [Addr.add_lit, Nat.zero_add] at q0 q1
  obtain ⟨W0, hW0⟩ : ∃ W0, w.alloc (.cells #[.int .i64 (n : Int), .slice ar rels.length cr] 24) = W0 := ⟨_, rfl⟩
  obtain ⟨gb, hgb⟩ : ∃ gb, w.heap.size = gb := ⟨_, rfl⟩
  rw [show (List.toArray [Value.int .i64 (n : Int), .slice ar rels.length cr]) = #[.int .i64 (n : Int), .slice ar rels.length cr] from rfl, hW0, hgb] at q0 q1
  have HB0 : Hid (Below w.heap.size w W0) := by rw [← hW0]; exact hBa
  have HG : Hid (w.alloc (.cells #[.int .i64 (n : Int), .slice ar rels.length cr] 24) = W0 ∧ w.heap.size = gb) := ⟨hW0, hgb⟩
  have HQ : Hid (∀ V, Below W0.heap.size W0 V → V.cell? ⟨gb, 0, none⟩ = some (.int .i64 (n : Int)) ∧ V.cell? ⟨gb, 1, none⟩ = some (.slice ar rels.length cr)) := fun V hV => ⟨(hV.cell (p := ⟨gb, 0, none⟩) (cell_lt q0)).trans q0, (hV.cell (p := ⟨gb, 1, none⟩) (cell_lt q1)).trans q1⟩
  have HFR : Hid (∀ V, Below W0.heap.size W0 V → FewAt V (.slice ar rels.length cr) rels) := fun V hV => (hr.below HB0.out).below hV
  have hor := orders_ N W0 hN
  have HWY : Hid (∀ V, Calls Tryd.prog 7 #[.agg #[.int .i64 (n : Int), .slice ar rels.length cr], .int .i64 (N : Int)] V fun e w' => e = .returned (.int .i64 (Wn : Int)) ∧ Below V.heap.size V w') := fun V => by rw [← hWn]; exact waysR_ N n _ V hN hn
  have HOL := Hid.mk' (orders_len hN)
  have hF0 := facN_pos N
  have hF1 := facN_le hN
  have HL := Hid.mk' hl
  obtain ⟨F, hF⟩ : ∃ F, facN N = F := ⟨_, rfl⟩
  rw [hF] at hor HOL hF0 hF1
  obtain ⟨m2, hm2⟩ : ∃ m2, 2 * n = m2 := ⟨_, rfl⟩
  have HM2 : Hid (2 * n = m2) := hm2
  have hmul : (2 : Int) * (n : Int) = (m2 : Int) := by omega
  obtain ⟨lr, hlr⟩ : ∃ lr, rels.length = lr := ⟨_, rfl⟩
  have HLR : Hid (rels.length = lr) := hlr
  rw [hlr] at q1 HG HQ HFR HWY ⊢
  have hm10 : m2 ≤ 10 := by omega
  clear hr hl hBa hnew hW0 hgb hF hm2 hlr hWn
  go_enter Tryd.func12, Tryd.ntmps12
  go_upto_region 1 with fail
  rw [HG.out.1, HG.out.2]
  go_wp2_with (first
    | (go_at_call 17; refine hor.mono ?_; rintro e V1 ⟨ao, co, rfl, ho, hb⟩; have HO1 := Hid.mk' (And.intro ho hb); have x0 := (HQ.out V1 hb).1; have x1 := (HQ.out V1 hb).2; have hwy := HWY.out V1; clear hor ho hb)
    | (go_at_call 7; refine hwy.mono ?_; rintro e V2 ⟨rfl, hb⟩; have HV2 : Hid (Rows V2 (.slice ao F co) (ordersP N) ∧ Below W0.heap.size W0 V2) := ⟨HO1.out.1.below hb, HO1.out.2.trans (hb.mono HO1.out.2.size)⟩; clear hwy hb)
    | fail)
  clear x0 x1
  go_loopw [7, 8] (fun pu p W => ∃ (au : Option Addr) (mu cu k : Nat), k ≤ Wn ∧ pu = .slice au mu cu ∧ p = .int .i64 (k : Int) ∧ Hid (Tabs W (.slice au mu cu) (refP N n rels k) ∧ Below V2.heap.size V2 W)) (fun _ p _ => Wn - (intOf p).toNat)
  case atStart => exact ⟨_, _, _, 0, by omega, rfl, rfl, Tabs.nil _, Below.refl _ _⟩
  case round =>
    obtain ⟨au, mu, cu, k, hk, rfl, rfl, HK⟩ := hrel
    obtain ⟨W1, hW1⟩ : ∃ W, W = wr := ⟨_, rfl⟩
    subst hW1
    by_cases hkW : k < Wn
    · have HB1 : Hid (∀ W, Below W1.heap.size W1 W → Below W0.heap.size W0 W ∧ Rows W (.slice ao F co) (ordersP N)) := fun W hW => by
        have h1 := HK.out.2.trans (hW.mono HK.out.2.size)
        exact ⟨HV2.out.2.trans (h1.mono HV2.out.2.size), HV2.out.1.below h1⟩
      go_wp2_with fail
      go_loopw [9, 10] (fun pv p W => ∃ (v : Value) (vs : List Value) (i : Nat), i ≤ N ∧ pv = v ∧ p = .int .i64 (i : Int) ∧ Hid (TaIn W1.heap.size (2 * n) W (List.replicate i (List.replicate (2 * n) 0)) v vs ∧ Below W1.heap.size W1 W)) (fun _ p _ => N - (intOf p).toNat)
      case atStart => exact ⟨_, [], 0, by omega, rfl, rfl, TaIn.nil _ _ _, Below.refl _ _⟩
      case round =>
        obtain ⟨v, vs, i, hi, rfl, rfl, HI⟩ := hrel
        obtain ⟨W2, hW2⟩ : ∃ W, W = wr := ⟨_, rfl⟩
        subst hW2
        obtain ⟨av, cv, hv⟩ := own_one HI.out.1.outer
        rw [List.length_replicate] at hv
        subst hv
        by_cases hiN : i < N
        · go_wp2_with fail
          go_loopw [11, 12] (fun pr p W => ∃ (r : Value) (x : Nat), x ≤ m2 ∧ pr = r ∧ p = .int .i64 (x : Int) ∧ Hid (W.ownsRow W2.heap.size 3 1 r x (List.replicate x (.int .i64 0)) ∧ Below W2.heap.size W2 W)) (fun _ p _ => m2 - (intOf p).toNat)
          case atStart => exact ⟨_, 0, by omega, rfl, rfl, World.ownsRow_nil _ _ _ _, Below.refl _ _⟩
          case round =>
            obtain ⟨r, x, hx, rfl, rfl, HX⟩ := hrel
            obtain ⟨arr, crr, hr⟩ := own_one HX.out.1
            subst hr
            have x0 := (HQ.out wr (HB1.out wr (HI.out.2.trans (HX.out.2.mono HI.out.2.size))).1).1
            have hsz := HX.out.2.size
            have hsz1 := HI.out.2.size
            by_cases hxm : x < m2
            · go_wp2_with (first
                | (at_builtin; refine wpList_append_own_at _ rfl (.tmp 40) (.tmp 41) 42 rfl W2.heap.size 3 j0 (.int .i64 0) 1 8 Tryd.underlying42 hj0 hy0 hy1 hy2 rfl (by decide) _ x (List.replicate x (.int .i64 0)) rfl (HX.out.1.alloc _) ⟨_, 0, none⟩ 1 1 [_] rfl rfl (cells_new _ _ _) (by simp [Value.oneCell']) (by unfold maxLen; omega) (by omega) (by simp; omega) ?_; intro v7 w7 hown7 hg7 hn7 hl7; have H7 := Hid.mk' (And.intro hown7 (And.intro hg7 hl7)); obtain ⟨a7, c7, rfl⟩ := own_one hown7; clear hown7 hg7 hn7 hl7)
                | fail)
              go_roundw
              case rel =>
                refine ⟨_, x + 1, by omega, rfl, by go_num, by rw [rep_snoc]; exact H7.out.1, ?_⟩
                have h1 := H7.out.2.1
                have h2 := h1.size
                rw [World.size_alloc] at h2
                refine ⟨h1.os.trans HX.out.2.os, h1.tape.trans HX.out.2.tape, h1.output.trans HX.out.2.output, by omega, fun b hb => ?_⟩
                rw [h1.block b (by rw [World.size_alloc]; omega) fun e => by have := (HX.out.1.lt b e.symm).1; omega, Below.heap_alloc wr _ b (by omega)]
                exact HX.out.2.block b hb
              case measure => simp [intOf]; omega
            · obtain rfl : x = m2 := by omega
              have HTX := Hid.mk' (HI.out.1.below HX.out.2)
              go_wp2_with (first
                | (at_builtin; refine wpList_append_own_at _ rfl (.tmp 43) (.tmp 45) 22 rfl W1.heap.size 42 i0 (.slice none 0 0) 1 24 Tryd.underlying22 hi0 hz0 hz1 hz2 rfl (by decide) _ i vs rfl (by have h9 := HTX.out.outer; rw [List.length_replicate] at h9; exact h9.alloc _) ⟨_, 0, none⟩ 1 1 [_] rfl rfl (cells_new _ _ _) (by simp [Value.oneCell']) (by unfold maxLen; omega) (by omega) (by simp; omega) ?_; intro v7 w7 hown7 hg7 hn7 hl7; have H7 := Hid.mk' (And.intro hown7 (And.intro hg7 hl7)); obtain ⟨a7, c7, rfl⟩ := own_one hown7; clear hown7 hg7 hn7 hl7)
                | fail)
              go_roundw
              case rel =>
                refine ⟨_, vs ++ [.slice arr x crr], i + 1, by omega, rfl, by go_num, ?_, ?_⟩
                · rw [rep_snoc]
                  refine HTX.out.push (u := .slice arr x crr) ?_ (fun b hb => ?_) (by rw [List.length_replicate]; exact H7.out.1) H7.out.2.1 H7.out.2.2
                  · rw [HM2.out, List.map_replicate]
                    exact own_down HX.out.1 (by omega)
                  · have h1 := (HX.out.1.lt b hb).1
                    refine ⟨fun e => by have := (HI.out.1.outer.lt b e).2; omega, fun j u' hu' e => ?_⟩
                    obtain ⟨q, hq⟩ : ∃ q, (List.replicate i (List.replicate (2 * n) (0 : Int)))[j]? = some q := ⟨_, List.getElem?_eq_getElem (by have := (List.getElem?_eq_some_iff.1 hu').1; rw [HI.out.1.len] at this; exact this)⟩
                    have := ((HI.out.1.inner j u' q hu' hq).lt b e).2
                    omega
                · have h1 := H7.out.2.1
                  have h2 := h1.size
                  rw [World.size_alloc] at h2
                  have h3 := HI.out.2.trans (HX.out.2.mono HI.out.2.size)
                  refine ⟨h1.os.trans h3.os, h1.tape.trans h3.tape, h1.output.trans h3.output, by omega, fun b hb => ?_⟩
                  rw [h1.block b (by rw [World.size_alloc]; omega) fun e => by have := (HI.out.1.outer.lt b e.symm).1; omega, Below.heap_alloc wr _ b (by omega)]
                  exact h3.block b hb
              case measure => simp [intOf]; omega
        · obtain rfl : N = i := by omega
          have HT0 : Hid (TaIn W1.heap.size (2 * n) W2 (zerosT N n) (.slice av N cv) vs ∧ Below W1.heap.size W1 W2) := HI.out
          clear HI
          go_wp2_with fail
          go_loopw [13, 14] (fun pr p W => ∃ (rest x : Nat) (T : List (List Int)), rest ≤ 1500 ∧ x ≤ n ∧ pr = .int .i64 (rest : Int) ∧ p = .int .i64 (x : Int) ∧ Hid (TaIn W1.heap.size (2 * n) W T (.slice av N cv) vs ∧ fillX (ordersP N) N x (zerosT N n, k) = (T, rest) ∧ Below W1.heap.size W1 W)) (fun _ p _ => n - (intOf p).toNat)
          case atStart => exact ⟨k, 0, zerosT N n, by omega, by omega, rfl, rfl, HT0.out.1, rfl, HT0.out.2⟩
          case round =>
            obtain ⟨rest, x, T, hre, hx, rfl, rfl, HX⟩ := hrel
            obtain ⟨W3, hW3⟩ : ∃ W, W = wr := ⟨_, rfl⟩
            subst hW3
            have HTM : Hid (Tame N n T) := by
              have h9 := fillX_tame (n := n) hN (x := x) (s := (zerosT N n, k)) hx (zeros_tame h0)
              rw [HX.out.2.1] at h9
              exact h9
            have x0 := (HQ.out W3 (HB1.out W3 HX.out.2.2).1).1
            by_cases hxn : x < n
            · obtain ⟨p, hp1, hp2⟩ := order_pick (r := rest) hN
              have HFX : Hid (fillX (ordersP N) N (x + 1) (zerosT N n, k) = (fillI p x N T, rest / F)) := by
                show _ = _
                simp only [fillX, HX.out.2.1, hp1, Option.getD_some]
                rw [HOL.out]
              obtain ⟨ao', co', eo, -, hox⟩ := ((HB1.out W1 (Below.refl _ _)).2).open_
              rw [HOL.out] at eo hox hp1
              cases eo
              obtain ⟨bo, oo, rfl, -, -, hoc⟩ := hox hF0
              obtain ⟨ap, cp, cpk, hip⟩ := hoc (rest % F) (Nat.mod_lt _ hF0)
              rw [hp1, Option.getD_some] at cpk hip
              obtain ⟨a3, c3, e3, -, hpx⟩ := hip.open_
              cases e3
              obtain ⟨bp, op, rfl, -, -, hpc⟩ := hpx (by rw [hp2.1]; omega)
              rw [hp2.1] at cpk hpc
              have HP2 := Hid.mk' hp2
              have HPC := Hid.mk' hpc
              have ck3 := (HX.out.2.2.cell (cell_lt cpk)).trans cpk
              have hrem : (rest : Int).tmod (F : Int) = ((rest % F : Nat) : Int) := rfl
              have hquo : (rest : Int).tdiv (F : Int) = ((rest / F : Nat) : Int) := rfl
              have hmlt := Nat.mod_lt rest hF0
              have hdle := Nat.div_le_self rest F
              obtain ⟨rm, hrm⟩ : ∃ rm, rest % F = rm := ⟨_, rfl⟩
              obtain ⟨rq, hrq⟩ : ∃ rq, rest / F = rq := ⟨_, rfl⟩
              rw [hrm] at ck3 hrem hmlt
              rw [hrq] at hquo hdle HFX
              have zF : ((F : Int) == 0) = false := beq_false_of_ne (by omega)
              have zF2 : ¬ ((F : Int) = 0) := by omega
              have zr0 : (0 : Int) ≤ (rm : Int) := by omega
              have zr1 : (rm : Int) < (F : Int) := by omega
              clear hp1 hp2 hox hoc cpk hip hpx hpc hrm hrq
              go_wp2_with fail
              go_loopw [16] (fun p' W => ∃ i : Nat, i ≤ N ∧ p' = .int .i64 (i : Int) ∧ Hid (TaIn W1.heap.size (2 * n) W (fillI p x i T) (.slice av N cv) vs ∧ Below W1.heap.size W1 W)) (fun p' _ => N - (intOf p').toNat)
              case atStart => exact ⟨0, by omega, rfl, HX.out.1, HX.out.2.2⟩
              case round =>
                obtain ⟨i, hi, rfl, HI⟩ := hrel
                by_cases hiN : i < N
                · obtain ⟨q, hq, hq2⟩ := order_at_ HP2.out hiN
                  have HTI := Hid.mk' (fillI_tame (n := n) HP2.out hxn (i := i) (T := T) (by omega) HTM.out)
                  have pc1 := HPC.out i hiN
                  rw [hq, Option.getD_some] at pc1
                  have pcW : ∀ W, Below W1.heap.size W1 W → W.cell? ⟨bp, op + i, none⟩ = some (.int .i64 (q : Int)) := fun W hW => (hW.cell (p := ⟨bp, op + i, none⟩) (cell_lt pc1)).trans pc1
                  have HFI : Hid (fillI p x (i + 1) T = putE (putE (fillI p x i T) i (2 * x) (q : Int)) q (2 * x + 1) (i : Int)) := by show _ = _; rw [fillI, hq, Option.getD_some, Int.toNat_natCast]
                  obtain ⟨b, off, cv', g1, c1, r1, ev, hu1, -, ck1, -, hc1, hf1, -⟩ := HI.out.1.at_ (by omega) (i := i) (by rw [HTI.out.len]; exact hiN)
                  have S1 := (HI.out.1.below (Below.refl _ wr).drew).set (val := (q : Int)) HTI.out.wide (by rw [HTI.out.len]; exact hiN) (show 2 * x < 2 * n by omega) hu1
                  have HT1 := Hid.mk' (HTI.out.put hiN (show 2 * x < 2 * n by omega) hq2)
                  obtain ⟨b', off', cv2, g2, c2, r2, ev2, hu2, -, ck2, -, hc2, hf2, -⟩ := S1.1.at_ (by omega) (i := q) (by rw [HT1.out.len]; exact hq2)
                  have S2 := S1.1.set (val := (i : Int)) HT1.out.wide (by rw [HT1.out.len]; exact hq2) (show 2 * x + 1 < 2 * n by omega) hu2
                  rw [HTI.out.len] at ev
                  cases ev
                  rw [HT1.out.len] at ev2
                  cases ev2
                  have pc2 := pcW wr HI.out.2
                  have hBd : Below W1.heap.size W1 wr.drew := HI.out.2.drew
                  have pc3 := pcW _ (hBd.trans S1.2)
                  have HEND := Hid.mk' (And.intro S2.1 ((hBd.trans S1.2).trans S2.2))
                  have e1 := hc1 (2 * x) (by omega)
                  have e2 := hc2 (2 * x + 1) (by omega)
                  have f1 := hf1 (2 * x)
                  have f2 := hf2 (2 * x + 1)
                  obtain ⟨x2, hx2⟩ : ∃ x2, 2 * x = x2 := ⟨_, rfl⟩
                  have hxm : (2 : Int) * (x : Int) = (x2 : Int) := by omega
                  have hx2m : x2 + 1 < m2 := by have := HM2.out; omega
                  rw [hx2] at e1 f1 ck2 pc3 HEND HFI e2 f2
                  rw [HM2.out] at ck1 ck2
                  obtain ⟨W5, hW5⟩ : ∃ W5, wr.drew.setCell ⟨g1, x2, none⟩ (.int .i64 (q : Int)) = W5 := ⟨_, rfl⟩
                  rw [hW5] at ck2 pc3 HEND e2 f2
                  have HW5 : Hid (wr.drew.setCell ⟨g1, x2, none⟩ (.int .i64 (q : Int)) = W5) := hW5
                  obtain ⟨ea, hea⟩ : ∃ ea, r1[x2]?.getD 0 = ea := ⟨_, rfl⟩
                  obtain ⟨eb, heb⟩ : ∃ eb, r2[x2 + 1]?.getD 0 = eb := ⟨_, rfl⟩
                  rw [hea] at e1
                  rw [heb] at e2
                  have z0 : (0 : Int) ≤ (i : Int) := by omega
                  have z1 : (i : Int) < (N : Int) := by omega
                  have z2 : (0 : Int) ≤ (x2 : Int) := by omega
                  have z3 : (x2 : Int) < (m2 : Int) := by omega
                  have z4 : (0 : Int) ≤ (q : Int) := by omega
                  have z5 : (q : Int) < (N : Int) := by omega
                  have z6 : (0 : Int) ≤ (x2 : Int) + 1 := by omega
                  have z7 : (x2 : Int) + 1 < (m2 : Int) := by omega
                  clear hq pc1 pcW hu1 hc1 hf1 S1 hu2 hc2 hf2 S2 hBd hx2 hW5 hea heb
                  go_wp2_with fail
                  go_region
                  rw [show (wr.setCell ⟨g1, x2, none⟩ (.int .i64 (q : Int))).drew = W5 from HW5.out]
                  go_wp2_with fail
                  go_roundw
                  case rel => exact ⟨i + 1, by omega, by go_num, by rw [HFI.out]; exact HEND.out.1, HEND.out.2⟩
                  case measure => simp [intOf]; omega
                · obtain rfl : N = i := by omega
                  go_wp2_with fail
                  go_roundw
                  case rel => exact ⟨rq, x + 1, fillI p x N T, by omega, by omega, rfl, by go_num, HI.out.1, HFX.out, HI.out.2⟩
                  case measure => simp [intOf]; omega
            · obtain rfl : n = x := by omega
              have HTK : Hid (tabK N n k = T) := by show _ = _; unfold tabK; rw [HX.out.2.1]
              have HRE : Hid (refP N n rels (k + 1) = if stdB T && keepsB rels T then putT (refP N n rels k) T else refP N n rels k) := by show _ = _; rw [refP, HTK.out]
              have HTB := Hid.mk' (HX.out.1.tab HTM.out hN)
              have hst := standardB_ (.slice av N cv) T W3 HTB.out (by rw [HTM.out.len]; omega) (by omega)
              have hho := holdsB_ (.slice ar lr cr) (.slice av N cv) rels T W3 HTB.out (HFR.out W3 (HB1.out W3 HX.out.2.2).1) HL.out (by omega)
              have x1 := (HQ.out W3 (HB1.out W3 HX.out.2.2).1).2
              have HPT : Hid (∀ V, Below W3.heap.size W3 V → Calls Tryd.prog 30 #[.slice au mu cu, .slice av N cv] V fun e w' => PutT (refP N n rels k) T V e w') := fun V hV => by
                refine putTable_ _ _ _ T V ((HK.out.1.below HX.out.2.2).below hV) (HX.out.1.rows.below hV) (by have := refP_len (N := N) (n := n) (rels := rels) k; omega) fun X hX => ?_
                rcases hX with hX | rfl
                · obtain ⟨j, rfl⟩ := refP_mem hX
                  exact tame_small (tabK_tame (by omega) hN) hN hn
                · exact tame_small HTM.out hN hn
              obtain ⟨sb, hsb⟩ : ∃ sb, stdB T = sb := ⟨_, rfl⟩
              obtain ⟨kb, hkb⟩ : ∃ kb, keepsB rels T = kb := ⟨_, rfl⟩
              rw [hsb] at hst HRE
              rw [hkb] at hho HRE
              clear hsb hkb
              cases sb with
              | false =>
                go_wp2_with (first
                  | (go_at_call 28; refine hst.mono ?_; rintro e V ⟨rfl, hV⟩; subst hV; clear hst)
                  | fail)
                go_roundw
                case rel => exact ⟨au, mu, cu, k + 1, by omega, rfl, by go_num, by rw [HRE.out]; exact HK.out.1.below HX.out.2.2, HK.out.2.trans (HX.out.2.2.mono HK.out.2.size)⟩
                case measure => simp [intOf]; omega
              | true =>
                cases kb with
                | false =>
                  go_wp2_with (first
                    | (go_at_call 28; refine hst.mono ?_; rintro e V ⟨rfl, hV⟩; subst hV; clear hst)
                    | (go_at_call 29; refine hho.mono ?_; rintro e V4 ⟨rfl, hV4⟩; have H4 := Hid.mk' hV4; clear hho hV4)
                    | fail)
                  go_roundw
                  case rel => exact ⟨au, mu, cu, k + 1, by omega, rfl, by go_num, by rw [HRE.out]; exact (HK.out.1.below HX.out.2.2).below H4.out, HK.out.2.trans ((HX.out.2.2.trans (H4.out.mono HX.out.2.2.size)).mono HK.out.2.size)⟩
                  case measure => simp [intOf]; omega
                | true =>
                  go_wp2_with (first
                    | (go_at_call 28; refine hst.mono ?_; rintro e V ⟨rfl, hV⟩; subst hV; clear hst)
                    | (go_at_call 29; refine hho.mono ?_; rintro e V4 ⟨rfl, hV4⟩; have H4 := Hid.mk' hV4; have hpt := HPT.out V4 hV4; clear hho hV4)
                    | (go_at_call 30; refine hpt.mono ?_; rintro e V5 ⟨u5, rfl, ht5, hb5⟩; have H5 := Hid.mk' (And.intro ht5 hb5); obtain ⟨a5, m5, c5, hu5⟩ : ∃ a5 m5 c5, u5 = .slice a5 m5 c5 := (by obtain ⟨us, ⟨a, cap, e, -⟩, -⟩ := ht5; exact ⟨_, _, _, e⟩); subst hu5; clear hpt ht5 hb5)
                    | fail)
                  go_roundw
                  case rel =>
                    refine ⟨a5, m5, c5, k + 1, by omega, rfl, by go_num, by rw [HRE.out]; exact H5.out.1, ?_⟩
                    have h1 := HX.out.2.2.trans (H4.out.mono HX.out.2.2.size)
                    have h2 := h1.trans (H5.out.2.mono h1.size)
                    exact HK.out.2.trans (h2.mono HK.out.2.size)
                  case measure => simp [intOf]; omega
    · obtain rfl : k = Wn := by omega
      go_wp2_with fail
      go_ret
      exact ⟨_, rfl, HK.out.1, HB0.out.trans ((HV2.out.2.trans (HK.out.2.mono HV2.out.2.size)).mono HB0.out.size)⟩

end Go.Proofs.YtmaopnbnbiediaaDoor
