/- One step along a column. -/
import Derived.Test.YthcgabghkbgccaaDoorGrpMore
import Derived.Test.YthcgabghkbgccaaDoorGrpUnite
namespace Go.Proofs.YthcgabghkbgccaaDoor
open Go.RowKit Go.Sort

/-- What a step answers. -/
def StepSays (B : Nat) (X : Nat → Prop) (P n : Nat) (w : World) (r : Option (Nat × Cos)) (e : Ending) (w' : World) : Prop :=
  (∃ t s', r = some (t, s') ∧ e = .returned (.tuple #[.int .i64 (t : Int), .bool true]) ∧ OpAt B X P n w' s' ∧ Kp B X w w') ∨ (r = none ∧ e = .returned (.tuple #[.int .i64 0, .bool false]) ∧ Kp B X w w')

theorem step_says_ok {B : Nat} {X : Nat → Prop} {P n : Nat} {w w' : World} {r : Option (Nat × Cos)} {t : Nat} {s' : Cos} (hr : r = some (t, s')) (h : OpAt B X P n w' s') (hk : Kp B X w w') : StepSays B X P n w r (.returned (.tuple #[.int .i64 (t : Int), .bool true])) w' := .inl ⟨t, s', hr, rfl, h, hk⟩
theorem step_says_no {B : Nat} {X : Nat → Prop} {P n : Nat} {w w' : World} {r : Option (Nat × Cos)} (hr : r = none) (hk : Kp B X w w') : StepSays B X P n w r (.returned (.tuple #[.int .i64 0, .bool false])) w' := .inr ⟨hr, rfl, hk⟩

set_option maxRecDepth 100000 in
set_option maxHeartbeats 4000000 in
theorem step_ {B : Nat} {X : Nat → Prop} {P n : Nat} {s : Cos} (i x : Nat) (w : World) (h : OpAt B X P n w s) (hX : ∀ b, X b → b < w.heap.size) (hR : Rng s.R) (hi : i < s.R.length) (hx : x < 2 * n) (hn : n ≤ 12) :
    Calls Tryd.prog 34 #[.pointer (some ⟨P, 0, none⟩), .int .i64 (i : Int), .int .i64 (x : Int)] w fun e w' => StepSays B X P n w (stepP n s i x) e w' := by
  obtain ⟨j0, hj0, hy0, hy1, hy2⟩ := info_parts Tryd.infoi
  have hst := stands_ i w h hi
  have hcl := h.cls_lt hi
  have h5 := h.is.2.2.1
  obtain ⟨a, ha⟩ : ∃ a, s.cls i = a := ⟨_, rfl⟩
  have HA : Hid (s.cls i = a) := ha
  rw [ha] at hst hcl
  have HR := Hid.mk' hR
  have HX := Hid.mk' hX
  obtain ⟨N, hN⟩ : ∃ N, s.R.length = N := ⟨_, rfl⟩
  have HN : Hid (s.R.length = N) := hN
  obtain ⟨m2, hm2⟩ : ∃ m2, 2 * n = m2 := ⟨_, rfl⟩
  have HM : Hid (2 * n = m2) := hm2
  rw [hN] at hcl h5 hi
  rw [hm2] at hx
  have hm24 : m2 ≤ 24 := by omega
  clear h ha hN hm2 hR hX
  go_enter Tryd.func34, Tryd.ntmps34
  go_upto_region 2 with (go_at_call 33; refine hst.mono ?_; rintro e W1 ⟨rfl, hO1, hK1⟩; have H1 := Hid.mk' (And.intro hO1 hK1); clear hO1 hK1 hst)
  obtain ⟨G, cG, H, cH, rb, c, h1⟩ := H1.out.1
  have p0 := h1.p0
  have p1 := h1.p1
  have p2 := h1.p2
  have ra := h1.row_at (i := a) (by rw [HN.out]; exact hcl)
  have ea := h1.ent_at (i := a) (x := x) (by rw [HN.out]; exact hcl) (by rw [HM.out]; exact hx)
  rw [HN.out] at p0 p2
  rw [HM.out] at ra
  obtain ⟨q, hq⟩ : ∃ q, ent s.R a x = q := ⟨_, rfl⟩
  have HQ : Hid (ent s.R a x = q) := hq
  rw [hq] at ea
  have HI := Hid.mk' h1
  have z0 : (0 : Int) ≤ (a : Int) := by omega
  have z1 : (a : Int) < (N : Int) := by omega
  have z4 : (0 : Int) ≤ (x : Int) := by omega
  have z5 : (x : Int) < (m2 : Int) := by omega
  clear h1 hq
  by_cases e1 : q = -1
  · subst e1
    by_cases e2 : N = 5000
    · subst e2
      go_wp2_with fail
      go_ret2
      exact step_says_no (by unfold stepP; rw [HA.out, HQ.out, if_neg (fun h => h rfl), if_pos HN.out]) H1.out.2
    · have hb5 : ((N : Int) == 5000) = false := beq_false_of_ne (by omega)
      have had := addRow_ B P n N (.slice (some ⟨G, 0, none⟩) N cG) ((List.range N).map fun k => .slice (some ⟨rb k, 0, none⟩) (2 * n) (2 * n)) W1.drew p0 HI.out.z0 (by have := HI.out.outer; rw [HN.out] at this; exact this) (fun e => HI.out.gh.2.1 (Option.some.inj e).symm) (by have := HI.out.own.1; have := cell_lt p0; simp only at this; show B ≤ W1.heap.size; omega) h5 hn
      have HAD := Hid.mk' had
      clear had
      go_upto_region 8 with fail
      go_cut [] from 35 to 42 (fun wx => Hid (∃ v1 g, RowMore B P n N (.slice (some ⟨G, 0, none⟩) N cG) ((List.range N).map fun k => .slice (some ⟨rb k, 0, none⟩) (2 * n) (2 * n)) W1 wx v1 g))
      case first =>
        go_wp2_with fail
        go_region_with (go_at_call 38; refine HAD.out.mono ?_; rintro e V ⟨rfl, v1, g, hm⟩; have HMM : Hid (∃ v1 g, RowMore B P n N (.slice (some ⟨G, 0, none⟩) N cG) ((List.range N).map fun k => .slice (some ⟨rb k, 0, none⟩) (2 * n) (2 * n)) W1 V v1 g) := ⟨v1, g, ⟨hm.cell, hm.froz, hm.own, hm.new, hm.row, hm.blk, hm.os, hm.tape, hm.output, hm.size, hm.keep, hm.rest⟩⟩; clear hm)
        all_goals go_wp2_with fail
        all_goals go_meet
        all_goals exact HMM.out
      obtain ⟨W2, hW2⟩ : ∃ W, W = wc := ⟨_, rfl⟩
      subst hW2
      obtain ⟨v1, g, hm⟩ := hcut.out
      have HM2 := Hid.mk' hm
      have r2 := (hm.rest 2 (by decide)).1.trans p2
      have HSM : Hid (W2.ownsRow B 3 1 (.slice (some ⟨H, 0, none⟩) N cH) N ((List.range N).map fun i => .int .i64 (c i : Int))) := by
        have h1 := HI.out.sm
        rw [HN.out] at h1
        refine ⟨h1.1, h1.2.imp id fun ⟨g', cap, cur, e, k1, k2, k3⟩ => ⟨g', cap, cur, e, k1, ?_, k3⟩⟩
        cases e
        exact (hm.keep H (row_lt k2) HI.out.gh.2.2 fun e => HI.out.gh.1 (Option.some.inj e).symm).trans k2
      have hBw : B ≤ W2.heap.size := by have h1 := HI.out.own.1; have h2 := cell_lt p0; have h3 := hm.size; simp only at h2; omega
      clear hm hcut HAD
      go_upto_region 10 with (at_builtin; refine wpList_append_own_at _ rfl (.tmp 47) (.tmp 49) 27 rfl B 3 j0 (.int .i64 0) 1 8 Tryd.underlying27 hj0 hy0 hy1 hy2 rfl (by decide) _ N _ rfl (HSM.out.alloc _) ⟨_, 0, none⟩ 1 1 [.int .i64 (N : Int)] rfl rfl (cells_new _ _ _) (by simp [Value.oneCell']) (by unfold maxLen; omega) (by omega) (by simp; omega) ?_; intro v5 w5 hown5 hg5 hn5 hl5; have H5 := Hid.mk' (op_more (o := .cells #[.int .i64 (N : Int)] 3) HI.out (fun b hb => Nat.lt_of_lt_of_le (HX.out b hb) H1.out.2.size) (by rw [HN.out]; omega) (by rw [HN.out]; exact HM2.out) (by rw [HN.out]; exact hown5) hg5 hl5); clear hown5 hg5 hn5 hl5; obtain ⟨G', cG', H', cH', rfl, rfl, hc5, h6, hk6⟩ := H5.out; rw [HN.out] at hc5; have k5 := hc5.1; have f5 := hc5.2)
      have HL : Hid ((Cos.R ⟨s.R ++ [newRow n], s.cls⟩).length = N + 1) := by show (s.R ++ [newRow n]).length = N + 1; rw [List.length_append, HN.out]; rfl
      have hset := set_ a x N _ h6 (by rw [HL.out]; omega) (by rw [HL.out]; omega) (by rw [HM.out]; exact hx) hn
      have g0 := h6.p0
      rw [HL.out] at hset g0
      obtain ⟨W5, hW5⟩ : ∃ W5, w5.setCell ⟨P, 2, none⟩ (.slice (some ⟨H', 0, none⟩) (s.R.length + 1) cH') = W5 := ⟨_, rfl⟩
      rw [hW5] at hset g0 h6 hk6 ⊢
      have H6 := Hid.mk' hk6
      obtain ⟨M, hM⟩ : ∃ M, N + 1 = M := ⟨_, rfl⟩
      rw [hM] at hset g0
      have HSP : Hid (stepP n s i x = some (N, ⟨putE (putE (s.R ++ [newRow n]) a x (N : Int)) N (backN x) (a : Int), s.cls⟩)) := by
        show _ = _
        unfold stepP
        rw [HA.out, HQ.out, if_neg (fun h => h rfl), HN.out, if_neg e2]
      clear h6 hk6 hW5 hM hc5 k5 f5 H5 HM2 HSM
      go_wp2_with (first
        | (go_at_call 41; refine hset.mono ?_; rintro e W6 ⟨rfl, h7, hk7⟩; have H7 := Hid.mk' (And.intro h7 hk7); clear h7 hk7 hset)
        | fail)
      go_ret2
      exact step_says_ok HSP.out ⟨_, _, _, _, _, _, H7.out.1⟩ ((H1.out.2.trans H6.out).trans H7.out.2)
  · have hb1 : (q == -1) = false := beq_false_of_ne e1
    have hrq := HR.out a x
    rw [HQ.out] at hrq
    obtain ⟨t, rfl⟩ : ∃ t : Nat, q = (t : Int) := ⟨q.toNat, by omega⟩
    go_wp2_with fail
    go_ret2
    exact step_says_ok (by unfold stepP; rw [HA.out, HQ.out, if_pos (by omega), Int.toNat_natCast]) H1.out.1 H1.out.2

end Go.Proofs.YthcgabghkbgccaaDoor
