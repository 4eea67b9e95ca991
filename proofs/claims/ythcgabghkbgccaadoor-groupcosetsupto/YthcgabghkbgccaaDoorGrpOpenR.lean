/- The reference opens a coset. -/
import Derived.Test.YthcgabghkbgccaaDoorGrpFinMore
namespace Go.Proofs.YthcgabghkbgccaaDoor
open Go.RowKit Go.Sort

set_option maxRecDepth 100000 in
set_option maxHeartbeats 2000000 in
theorem openR_ {B : Nat} {X : Nat → Prop} {P n : Nat} {t : Cos} (w : World) (h : FinAt B X P n w t) (hX : ∀ b, X b → b < w.heap.size) (hN : t.R.length ≤ 900) (hf : t.cls t.R.length = t.R.length) (hn : n ≤ 12) :
    Calls Tryd.prog 15 #[.pointer (some ⟨P, 0, none⟩), .int .i64 ((2 * n : Nat) : Int)] w fun e w' => e = .returned (.int .i64 (t.R.length : Int)) ∧ FinAt B X P n w' ⟨t.R ++ [newRow n], t.cls⟩ ∧ Kp B X w w' := by
  obtain ⟨i0, hi0, hz0, hz1, hz2⟩ := info_parts Tryd.info27
  obtain ⟨j0, hj0, hy0, hy1, hy2⟩ := info_parts Tryd.infoi
  obtain ⟨v0, v1, rb, cp, h⟩ := h
  have hP := cell_lt h.p0
  have hBw : B ≤ w.heap.size := by have := h.own.1; simp only at hP; omega
  obtain ⟨av, cv, e0⟩ := own_one h.outer
  obtain ⟨bv, dv, e1⟩ := own_one h.of
  have HFI := Hid.mk' (And.intro h (And.intro hX hf))
  obtain ⟨N, hNN⟩ : ∃ N, t.R.length = N := ⟨_, rfl⟩
  have HN : Hid (t.R.length = N) := hNN
  obtain ⟨m2, hm2⟩ : ∃ m2, 2 * n = m2 := ⟨_, rfl⟩
  have HM : Hid (2 * n = m2) := hm2
  have hm24 : m2 ≤ 24 := by omega
  rw [hNN] at e0 e1 hN ⊢
  rw [hm2]
  subst e0 e1
  have p0 := h.p0
  have b5 : ((N : Int) == 5000) = false := beq_false_of_ne (by omega)
  clear h hX hf hNN hm2
  go_enter Tryd.func15, Tryd.ntmps15
  go_wp2_with fail
  go_loopw [5, 6] (fun r p W => ∃ (k : Nat) (vr : Value), k ≤ m2 ∧ r = vr ∧ p = .int .i64 (k : Int) ∧ Hid (W.ownsRow w.heap.size 3 1 vr k (List.replicate k (.int .i64 (-1))) ∧ (k = 0 → vr = .slice none 0 0) ∧ Below w.heap.size w W)) (fun _ p _ => m2 - (intOf p).toNat)
  case atStart => exact ⟨0, _, by omega, rfl, rfl, World.ownsRow_nil _ _ _ _, fun _ => rfl, Below.refl _ _⟩
  case round =>
    obtain ⟨k, vr, hk, rfl, rfl, HK⟩ := hrel
    obtain ⟨ar, cr, hvr⟩ := own_one HK.out.1
    subst hvr
    have hws : w.heap.size ≤ wr.heap.size := HK.out.2.2.size
    by_cases hkn : k < m2
    · go_wp2_with (first
        | (at_builtin; refine wpList_append_own_at _ rfl (.tmp 21) (.tmp 22) 27 rfl w.heap.size 3 j0 (.int .i64 0) 1 8 Tryd.underlying27 hj0 hy0 hy1 hy2 rfl (by decide) _ k _ rfl (HK.out.1.alloc _) ⟨_, 0, none⟩ 1 1 [.int .i64 (-1)] rfl rfl (cells_new _ _ _) (by simp [Value.oneCell']) (by unfold maxLen; omega) (by omega) (by simp; omega) ?_; intro v5 w5 hown5 hg5 hn5 hl5; have H5 := Hid.mk' (And.intro hown5 (And.intro hg5 hl5)); clear hown5 hg5 hn5 hl5)
        | fail)
      go_roundw
      case rel =>
        refine ⟨k + 1, _, by omega, rfl, by go_num, ?_, fun h => by omega, ?_⟩
        · rw [List.replicate_succ']; exact H5.out.1
        · refine (HK.out.2.2.alloc hws _).grown H5.out.2.1 (by simp; omega) (fun b e => ?_)
          exact (HK.out.1.lt b e).1
      case measure => simp [intOf]; omega
    · obtain rfl : k = m2 := by omega
      have c0 := (HK.out.2.2.cell (p := ⟨P, 0, none⟩) hP).trans p0
      have HOU : Hid (wr.ownsRow B 27 1 (.slice av N cv) N ((List.range N).map fun k => rowV n (rb k) (cp k))) := by
        have h1 := HFI.out.1.outer
        rw [HN.out] at h1
        exact own_kept h1 fun b e hb => HK.out.2.2.block b hb
      have HBa : Hid (∀ o, Below w.heap.size w (wr.alloc o)) := fun o => HK.out.2.2.alloc hws o
      have HMID : Hid (∀ v6 w6 o, w6.ownsRow B 27 1 v6 (N + 1) (((List.range N).map fun k => rowV n (rb k) (cp k)) ++ [.slice ar k cr]) → (wr.alloc o).grownBy w6 (Value.slice av N cv).ownBlock → (w6.cell? ⟨P, 0, none⟩ = some (.slice av N cv) ∧ w6.frozen? ⟨P, 0, none⟩ = false) ∧ (w6.setCell ⟨P, 0, none⟩ v6).cell? ⟨P, 0, none⟩ = some v6 ∧ (w6.setCell ⟨P, 0, none⟩ v6).cell? ⟨P, 1, none⟩ = some (.slice bv N dv) ∧ (w6.setCell ⟨P, 0, none⟩ v6).ownsRow B 3 1 (.slice bv N dv) N ((List.range N).map fun i => .int .i64 (t.cls i : Int))) := fun v6 w6 o h1 h2 => by
        obtain ⟨k1, k2, k3, -, -, -, k6, -⟩ := fin_mid HFI.out.1 (HBa.out o) h2 v6
        rw [HN.out] at k6
        exact ⟨k1, k2, k3, k6⟩
      go_upto_region 9 with fail
      go_upto_region 10 with (at_builtin; refine wpList_append_own_at _ rfl (.tmp 28) (.tmp 30) 22 rfl B 27 i0 (.slice none 0 0) 1 24 Tryd.underlying22 hi0 hz0 hz1 hz2 rfl (by decide) _ N _ rfl (HOU.out.alloc _) ⟨_, 0, none⟩ 1 1 [.slice ar k cr] rfl rfl (cells_new _ _ _) (by simp [Value.oneCell']) (by unfold maxLen; omega) (by omega) (by simp; omega) ?_; intro v6 w6 hown6 hg6 hn6 hl6; have H6 : Hid (w6.ownsRow B 27 1 v6 (N + 1) (((List.range N).map fun k => rowV n (rb k) (cp k)) ++ [.slice ar k cr]) ∧ (wr.alloc (.cells #[.slice ar k cr] 27)).grownBy w6 (Value.slice av N cv).ownBlock ∧ (v6.ownBlock = (Value.slice av N cv).ownBlock ∨ v6.ownBlock = some (wr.alloc (.cells #[.slice ar k cr] 27)).heap.size)) := ⟨hown6, hg6, hl6⟩; obtain ⟨a6, c6, rfl⟩ := own_one hown6; have hm := HMID.out _ w6 _ hown6 hg6; have q0 := hm.1.1; have f0 := hm.1.2; have H7 := Hid.mk' hm.2; clear hown6 hg6 hn6 hl6 hm)
      obtain ⟨W3, hW3⟩ : ∃ W3, w6.setCell ⟨P, 0, none⟩ (.slice a6 (N + 1) c6) = W3 := ⟨_, rfl⟩
      have HW3 : Hid (w6.setCell ⟨P, 0, none⟩ (.slice a6 (N + 1) c6) = W3) := hW3
      rw [hW3] at H7 ⊢
      have d0 := H7.out.1
      have d1 := H7.out.2.1
      obtain ⟨N1, hN1⟩ : ∃ N1, N + 1 = N1 := ⟨_, rfl⟩
      have HN1 : Hid (N + 1 = N1) := hN1
      rw [hN1] at d0 ⊢
      have hsub : (N1 : Int) - 1 = (N : Int) := by omega
      have hwr : IntKind.i64.wrap ((N1 : Int) - 1) = (N : Int) := by rw [hsub]; exact wrapI (by omega) (by omega)
      have hwr2 : IntKind.i64.wrap (N : Int) = (N : Int) := wrapI (by omega) (by omega)
      have HOF : Hid (W3.drew.ownsRow B 3 1 (.slice bv N dv) N ((List.range N).map fun i => .int .i64 (t.cls i : Int))) := H7.out.2.2
      have hB3 : B ≤ W3.heap.size := by rw [← hW3]; have := H6.out.2.1.size; simp; simp at this; omega
      have ka : ∀ o, (W3.drew.alloc o).cell? ⟨P, 0, none⟩ = some (.slice a6 N1 c6) := fun o => (World.cell?_alloc_lt W3.drew o ⟨P, 0, none⟩ (cell_lt d0)).trans d0
      have kb : ∀ o, (W3.drew.alloc o).cell? ⟨P, 1, none⟩ = some (.slice bv N dv) := fun o => (World.cell?_alloc_lt W3.drew o ⟨P, 1, none⟩ (cell_lt d1)).trans d1
      have ka2 : ∀ o, (W3.alloc o).cell? ⟨P, 0, none⟩ = some (.slice a6 N1 c6) := fun o => (World.cell?_alloc_lt W3 o ⟨P, 0, none⟩ (cell_lt d0)).trans d0
      have kb2 : ∀ o, (W3.alloc o).cell? ⟨P, 1, none⟩ = some (.slice bv N dv) := fun o => (World.cell?_alloc_lt W3 o ⟨P, 1, none⟩ (cell_lt d1)).trans d1
      clear hW3 hN1 c0
      go_wp2_with fail
      go_region_law (first
        | (refine step_append_wide (by rfl) (.tmp 38) (.tmp 45) 27 (by rfl) B 3 j0 (.int .i64 0) 1 8 Tryd.underlying27 hj0 hy0 hy1 hy2 (by rfl) (by decide) (.slice bv N dv) N ((List.range N).map fun i => .int .i64 (t.cls i : Int)) (by simp [Act.eval]) (HOF.out.alloc _) ⟨W3.drew.heap.size, 0, none⟩ 1 1 [.int .i64 (N : Int)] (by simp [Act.eval]) rfl (cells_new _ _ _) (by simp [Value.oneCell']) (by unfold maxLen; omega) (by omega) (by simp; omega) ?_; intro v8 w8 hown8 hg8 hl8; have HM8 := Hid.mk' (fin_more (W3 := W3) (V3 := W3.drew.alloc (.cells #[.int .i64 (N : Int)] 3)) HFI.out.1 HFI.out.2.1 HFI.out.2.2 (HBa.out _) H6.out.2.1 (by rw [HM.out]; exact own_kept HK.out.1 fun b e hb => Below.heap_alloc _ _ b hb) (fun h => HK.out.2.1 (by have := HM.out; omega)) (by rw [HN.out]; exact H6.out.1) H6.out.2.2 HW3.out ((Below.refl _ W3).drew.alloc (Nat.le_refl _) _) hg8 (by rw [HN.out]; exact hown8) hl8); have q8 := HM8.out.1.1; have f8 := HM8.out.1.2; obtain ⟨a8, c8, rfl⟩ := own_one hown8; have r8 := HM8.out.2.1; clear hown8 hg8 hl8)
        | fail)
      all_goals rw [HN1.out] at r8
      all_goals rw [HN1.out] at HM8 ⊢
      all_goals go_wp2_with fail
      all_goals (go_ret; exact ⟨rfl, HM8.out.2.2⟩)

end Go.Proofs.YthcgabghkbgccaaDoor
