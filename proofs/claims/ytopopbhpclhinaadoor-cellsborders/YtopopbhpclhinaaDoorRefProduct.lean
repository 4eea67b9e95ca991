/- What the reference's SameMatrix and ProductOf and the statements' ref answer. -/
import Derived.Test.YtopopbhpclhinaaDoorBorderMath
import Derived.Test.YtopopbhpclhinaaDoorRefA
import Derived.Test.YtopopbhpclhinaaDoorMatAt
import Derived.Deep.QuietTactic
import Derived.BigQuiet
namespace Go.Proofs.YtopopbhpclhinaaDoor
open Go.RowKit Go.Sort

/-- The product's numbers. -/
def prodAt (LA LB : List Int) (cA cB : Nat) (i k : Nat) : Int := sumTo (fun j => (LA[i * cA + j]?.getD 0) * (LB[j * cB + k]?.getD 0)) cA
def prodI (LA LB : List Int) (rA cA cB : Nat) : List Int := (List.range rA).flatMap (fun i => (List.range cB).map (fun k => prodAt LA LB cA cB i k))
theorem prod_length (LA LB : List Int) (rA cA cB : Nat) : (prodI LA LB rA cA cB).length = rA * cB := by
  unfold prodI
  induction rA with
  | zero => simp
  | succ n ih => rw [List.range_succ, List.flatMap_append, List.length_append, ih]; simp [Nat.succ_mul]
theorem range_get {rA cB : Nat} {f : Nat → Nat → Int} {i k : Nat} (hi : i < rA) (hk : k < cB) : ((List.range rA).flatMap (fun i => (List.range cB).map (fun k => f i k)))[i * cB + k]? = some (f i k) := by
  have hl : ∀ n, ((List.range n).flatMap (fun i => (List.range cB).map (fun k => f i k))).length = n * cB := by
    intro n
    induction n with
    | zero => simp
    | succ n ih => rw [List.range_succ, List.flatMap_append, List.length_append, ih]; simp [Nat.succ_mul]
  induction rA with
  | zero => omega
  | succ n ih =>
    rw [List.range_succ, List.flatMap_append]
    by_cases e : i < n
    · rw [List.getElem?_append_left (by rw [hl]; have := Nat.mul_le_mul_right cB (show i + 1 ≤ n from e); rw [Nat.succ_mul] at this; omega)]
      exact ih e
    · obtain rfl : i = n := by omega
      rw [List.getElem?_append_right (by rw [hl]; omega), hl, Nat.add_sub_cancel_left]
      simp [hk]
theorem prod_get {LA LB : List Int} {rA cA cB i k : Nat} (hi : i < rA) (hk : k < cB) : (prodI LA LB rA cA cB)[i * cB + k]? = some (prodAt LA LB cA cB i k) := range_get hi hk

set_option maxRecDepth 100000 in
theorem same_matrix (va vb : Value) (r c : Int) (L : List Int) (w : World) (ha : Ints w va L) (hb : Ints w vb L) (hl : L.length ≤ 1000000) :
    Calls Tryd.prog 19 #[.agg #[.int .i64 r, .int .i64 c, va], .agg #[.int .i64 r, .int .i64 c, vb]] w fun e w' => e = .returned (.bool true) ∧ Below w.heap.size w w' := by
  have HA : Hid (Ints w va L) := ha
  have HB : Hid (Ints w vb L) := hb
  obtain ⟨aa, ca, rfl, -, -⟩ := ha.open_
  obtain ⟨ab, cb, rfl, -, -⟩ := hb.open_
  have hBa : Below w.heap.size w ((w.alloc (.cells #[.int .i64 r, .int .i64 c, .slice aa L.length ca] 47)).alloc (.cells #[.int .i64 r, .int .i64 c, .slice ab L.length cb] 47)) := ((Below.refl _ w).alloc (Nat.le_refl _) _).alloc (by simp) _
  have hsi := same_ints _ _ L L _ (HA.out.below hBa) (HB.out.below hBa) hl
  rw [decide_eq_true rfl] at hsi
  clear ha hb
  go_enter Tryd.func19, Tryd.ntmps19
  go_wp2_with fail
  refine hsi.mono ?_
  clear hsi
  rintro e w2 ⟨rfl, q, hw2⟩
  have hB2 : Below w.heap.size w w2 := by rw [hw2]; exact hBa.trans ⟨rfl, rfl, rfl, Nat.le_refl _, fun _ _ => rfl⟩
  clear hw2
  go_wp2
  go_ret
  exact ⟨rfl, hB2⟩

set_option maxRecDepth 100000 in
theorem ref_ (v : Value) (r c : Int) (L : List Int) (w : World) (h : Ints w v L) :
    Calls Tryd.prog 20 #[.agg #[.int .i64 r, .int .i64 c, v]] w fun e w' => e = .returned (.agg #[.int .i64 r, .int .i64 c, v]) ∧ Below w.heap.size w w' := by
  obtain ⟨av, cv, rfl, -, -⟩ := h.open_
  have hb := matBox_new (w.alloc (.cells #[.int .i64 r, .int .i64 c, .slice av L.length cv] 41)) r c (.slice av L.length cv) 47
  rw [World.size_alloc] at hb
  have t0 := hb.c0.1
  have t1 := hb.c1.1
  have t2 := hb.c2.1
  clear hb h
  go_enter Tryd.func20, Tryd.ntmps20
  go_wp2
  refine bodyPost_ret (v := .agg #[.int .i64 r, .int .i64 c, .slice av L.length cv]) ?_ rfl ⟨rfl, ((Below.refl _ w).alloc (Nat.le_refl _) _).alloc (by simp) _⟩
  simp [results, Tryd.f20, go_sem, t0, t1, t2]

theorem small_mul {x y : Int} (hx : -1 ≤ x ∧ x ≤ 1) (hy : -1 ≤ y ∧ y ≤ 1) : -1 ≤ x * y ∧ x * y ≤ 1 := by
  have h1 : x = -1 ∨ x = 0 ∨ x = 1 := by omega
  rcases h1 with rfl | rfl | rfl <;> omega

set_option maxRecDepth 100000 in
set_option maxHeartbeats 4000000 in
theorem product_of (va vb : Value) (rA cA cB : Nat) (LA LB : List Int) (w : World) (ha : Ints w va LA) (hb : Ints w vb LB) (hla : LA.length = rA * cA) (hlb : LB.length = cA * cB) (hr : rA ≤ 600) (hc : cA ≤ 600) (hd : cB ≤ 600) (hxa : ∀ x ∈ LA, -1 ≤ x ∧ x ≤ 1) (hxb : ∀ x ∈ LB, -1 ≤ x ∧ x ≤ 1) :
    Calls Tryd.prog 22 #[.agg #[.int .i64 rA, .int .i64 cA, va], .agg #[.int .i64 cA, .int .i64 cB, vb]] w fun e w' => ∃ v, e = .returned (.agg #[.int .i64 rA, .int .i64 cB, v]) ∧ IntsIn (fun b => w.heap.size ≤ b) w' v (prodI LA LB rA cA cB) ∧ Below w.heap.size w w' := by
  obtain ⟨j0, hj0, hy0, hy1, hy2⟩ := info_parts Tryd.info3
  have HA : Hid (Ints w va LA) := ha
  have HB : Hid (Ints w vb LB) := hb
  have HX : Hid ((∀ x ∈ LA, -1 ≤ x ∧ x ≤ 1) ∧ ∀ x ∈ LB, -1 ≤ x ∧ x ≤ 1) := ⟨hxa, hxb⟩
  have HLL : Hid (LA.length = rA * cA ∧ LB.length = cA * cB) := ⟨hla, hlb⟩
  obtain ⟨aa, ca, rfl, -, hca⟩ := ha.open_
  obtain ⟨ab, cb, rfl, -, hcb⟩ := hb.open_
  have hB0 : Below w.heap.size w ((w.alloc (.cells #[.int .i64 rA, .int .i64 cA, .slice aa LA.length ca] 47)).alloc (.cells #[.int .i64 cA, .int .i64 cB, .slice ab LB.length cb] 47)) := ((Below.refl _ w).alloc (Nat.le_refl _) _).alloc (by simp) _
  have hbA : MatBox w.heap.size ((w.alloc (.cells #[.int .i64 rA, .int .i64 cA, .slice aa LA.length ca] 47)).alloc (.cells #[.int .i64 cA, .int .i64 cB, .slice ab LB.length cb] 47)) rA cA (.slice aa LA.length ca) := (matBox_new w rA cA _ _).below ((Below.refl _ _).alloc (Nat.le_refl _) _)
  have hbB : MatBox (w.heap.size + 1) ((w.alloc (.cells #[.int .i64 rA, .int .i64 cA, .slice aa LA.length ca] 47)).alloc (.cells #[.int .i64 cA, .int .i64 cB, .slice ab LB.length cb] 47)) cA cB (.slice ab LB.length cb) := by
    have := matBox_new (w.alloc (.cells #[.int .i64 rA, .int .i64 cA, .slice aa LA.length ca] 47)) cA cB (.slice ab LB.length cb) 47
    rwa [World.size_alloc] at this
  have hsz : ((w.alloc (.cells #[.int .i64 rA, .int .i64 cA, .slice aa LA.length ca] 47)).alloc (.cells #[.int .i64 cA, .int .i64 cB, .slice ab LB.length cb] 47)).heap.size = w.heap.size + 2 := by simp
  clear ha hb hxa hxb hla hlb
  go_enter Tryd.func22, Tryd.ntmps22
  go_wp2
  obtain ⟨w0, hw0⟩ : ∃ w0, (w.alloc (.cells #[.int .i64 rA, .int .i64 cA, .slice aa LA.length ca] 47)).alloc (.cells #[.int .i64 cA, .int .i64 cB, .slice ab LB.length cb] 47) = w0 := ⟨_, rfl⟩
  have hst := mat_start (prodI LA LB rA cA cB) rA cB w0 47
  rw [hw0] at hB0 hbA hbB hsz ⊢
  clear hw0
  have HST : Hid (MatAt (prodI LA LB rA cA cB) rA cB w0 0 (.slice none 0 0) ((w0.alloc (.cells #[.int .i64 0, .int .i64 0, .slice none 0 0] 47)).alloc (.cells #[.int .i64 rA, .int .i64 cB, .slice none 0 0] 47))) := hst
  have HBA : Hid (MatBox w.heap.size w0 rA cA (.slice aa LA.length ca)) := hbA
  have HBB : Hid (MatBox (w.heap.size + 1) w0 cA cB (.slice ab LB.length cb)) := hbB
  have HSZ : Hid (w0.heap.size = w.heap.size + 2) := hsz
  have HB0 : Hid (Below w.heap.size w w0) := hB0
  have HCA : Hid (0 < LA.length → ∃ b off, aa = some ⟨b, off, none⟩ ∧ True ∧ b < w.heap.size ∧ ∀ k, k < LA.length → w.cell? ⟨b, off + k, none⟩ = some (.int .i64 (LA[k]?.getD 0))) := hca
  have HCB : Hid (0 < LB.length → ∃ b off, ab = some ⟨b, off, none⟩ ∧ True ∧ b < w.heap.size ∧ ∀ k, k < LB.length → w.cell? ⟨b, off + k, none⟩ = some (.int .i64 (LB[k]?.getD 0))) := hcb
  clear hst hbA hbB hsz hca hcb hB0
  go_loopw [6] (fun p wr => ∃ (i : Nat) (vo : Value), i ≤ rA ∧ p = .int .i64 i ∧ MatAt (prodI LA LB rA cA cB) rA cB w0 (i * cB) vo wr) (fun p _ => rA - (intOf p).toNat)
  case atStart => exact ⟨0, _, by omega, rfl, by rw [Nat.zero_mul]; exact HST.out⟩
  case round =>
    obtain ⟨i, vo, hi, rfl, hat⟩ := hrel
    have HAT : Hid (MatAt (prodI LA LB rA cA cB) rA cB w0 (i * cB) vo wr) := hat
    obtain ⟨wi, hwi⟩ : ∃ wi : World, wi = wr := ⟨_, rfl⟩
    subst hwi
    clear hat HST
    have x0 := (HBA.out.below HAT.out.below).c0.1
    by_cases hlt : i < rA
    · go_wp2
      clear x0
      go_loopw [7] (fun p wr => ∃ (k : Nat) (vo : Value), k ≤ cB ∧ p = .int .i64 k ∧ MatAt (prodI LA LB rA cA cB) rA cB w0 (i * cB + k) vo wr) (fun p _ => cB - (intOf p).toNat)
      case atStart => exact ⟨0, vo, by omega, rfl, HAT.out⟩
      case round =>
        obtain ⟨k, vk, hk, rfl, hat⟩ := hrel
        have HAK : Hid (MatAt (prodI LA LB rA cA cB) rA cB w0 (i * cB + k) vk wr) := hat
        obtain ⟨wk, hwk⟩ : ∃ wk : World, wk = wr := ⟨_, rfl⟩
        subst hwk
        clear hat HAT
        have x1 := (HBB.out.below HAK.out.below).c1.1
        by_cases hkl : k < cB
        · go_wp2
          clear x1
          go_loopw [8, 9] (fun n p W => ∃ j q : Nat, j ≤ cA ∧ p = .int .i64 j ∧ n = .int .i64 (sumTo (fun j => (LA[i * cA + j]?.getD 0) * (LB[j * cB + k]?.getD 0)) j) ∧ W = wk.drewN q) (fun _ p _ => cA - (intOf p).toNat)
          case atStart => exact ⟨0, 0, by omega, rfl, rfl, rfl⟩
          case round =>
            obtain ⟨j, q, hj, rfl, rfl, hw⟩ := hrel
            obtain ⟨wj, hwj⟩ : ∃ wj : World, wj = wr := ⟨_, rfl⟩
            subst hwj
            have HW : Hid (wj = wk.drewN q) := hw
            have hdj : Below wk.heap.size wk wj := by rw [hw]; exact ⟨rfl, rfl, rfl, Nat.le_refl _, fun _ _ => rfl⟩
            have hAj := HAK.out.later hdj
            have mA := HBA.out.below hAj.below
            have mB := HBB.out.below hAj.below
            have y1 := mA.c1.1
            have y2 := mA.c2.1
            have y3 := mB.c1.1
            have y4 := mB.c2.1
            have hsm : ∀ t, -1 ≤ (LA[i * cA + t]?.getD 0) * (LB[t * cB + k]?.getD 0) ∧ (LA[i * cA + t]?.getD 0) * (LB[t * cB + k]?.getD 0) ≤ 1 := fun t => by
              refine small_mul ?_ ?_
              · cases e : LA[i * cA + t]? with
                | none => simp
                | some x => exact HX.out.1 x (List.mem_of_getElem? e)
              · cases e : LB[t * cB + k]? with
                | none => simp
                | some x => exact HX.out.2 x (List.mem_of_getElem? e)
            have hsn := sumTo_small (b := 1) hsm j
            obtain ⟨S, hS⟩ : ∃ S, sumTo (fun j => (LA[i * cA + j]?.getD 0) * (LB[j * cB + k]?.getD 0)) j = S := ⟨_, rfl⟩
            rw [hS] at hsn ⊢
            have HS : Hid (sumTo (fun j => (LA[i * cA + j]?.getD 0) * (LB[j * cB + k]?.getD 0)) j = S) := hS
            have hs1 : -600 ≤ S := by omega
            have hs2 : S ≤ 600 := by omega
            clear hS hsn hw mA mB
            by_cases hjl : j < cA
            · have h1 : i * cA + j < LA.length := by
                rw [HLL.out.1]
                have := Nat.mul_le_mul_right cA (show i + 1 ≤ rA from hlt)
                rw [Nat.succ_mul] at this; omega
              have h2 : j * cB + k < LB.length := by
                rw [HLL.out.2]
                have := Nat.mul_le_mul_right cB (show j + 1 ≤ cA from hjl)
                rw [Nat.succ_mul] at this; omega
              obtain ⟨ba, oa, rfl, -, hba, ka⟩ := HCA.out (by omega)
              obtain ⟨bb, ob, rfl, -, hbb, kb⟩ := HCB.out (by omega)
              have hBw : Below w.heap.size w wj := HB0.out.trans (hAj.below.mono HB0.out.size)
              have e1 := (hBw.cell (p := ⟨ba, oa + (i * cA + j), none⟩) hba).trans (ka _ h1)
              have e2 := (hBw.cell (p := ⟨bb, ob + (j * cB + k), none⟩) hbb).trans (kb _ h2)
              have hxy := hsm j
              have HSN : Hid (sumTo (fun j => (LA[i * cA + j]?.getD 0) * (LB[j * cB + k]?.getD 0)) (j + 1) = S + (LA[i * cA + j]?.getD 0) * (LB[j * cB + k]?.getD 0)) := by
                show sumTo _ (j + 1) = _
                simp only [sumTo]; rw [HS.out]
              obtain ⟨x, hx⟩ : ∃ x, LA[i * cA + j]?.getD 0 = x := ⟨_, rfl⟩
              obtain ⟨y, hy⟩ : ∃ y, LB[j * cB + k]?.getD 0 = y := ⟨_, rfl⟩
              rw [hx, hy] at hxy HSN
              rw [hx] at e1
              rw [hy] at e2
              obtain ⟨z, hz⟩ : ∃ z, x * y = z := ⟨_, rfl⟩
              rw [hz] at hxy HSN
              obtain ⟨ia, hia⟩ : ∃ ia, i * cA = ia := ⟨_, rfl⟩
              obtain ⟨jb, hjb⟩ : ∃ jb, j * cB = jb := ⟨_, rfl⟩
              have hia2 : (i : Int) * (cA : Int) = (ia : Int) := by rw [← hia, Int.natCast_mul]
              have hjb2 : (j : Int) * (cB : Int) = (jb : Int) := by rw [← hjb, Int.natCast_mul]
              have hib : ia ≤ 360000 := by rw [← hia]; exact Nat.mul_le_mul (show i ≤ 600 by omega) hc
              have hjc : jb ≤ 360000 := by rw [← hjb]; exact Nat.mul_le_mul (show j ≤ 600 by omega) hd
              rw [hia] at e1 h1
              rw [hjb] at e2 h2
              have hl1 : (ia : Int) + (j : Int) < (LA.length : Int) := by omega
              have hl2 : (jb : Int) + (k : Int) < (LB.length : Int) := by omega
              have hz1 := hxy.1
              have hz2 := hxy.2
              clear hx hy ka kb hia hjb hsm hxy hAj hdj hBw
              go_wp2_with fail
              go_quiet (fail)
              go_wp2
              go_roundw
              case rel => exact ⟨j + 1, q + nq, by omega, by go_num, by rw [HSN.out], by rw [HW.out, World.drewN_drewN]⟩
              case measure => simp [intOf]; omega
            · obtain rfl : j = cA := by omega
              have HEN : Hid ((prodI LA LB rA j cB)[i * cB + k]? = some S) := by
                show (prodI LA LB rA j cB)[i * cB + k]? = some S
                rw [prod_get hlt hkl]
                unfold prodAt
                rw [HS.out]
              obtain ⟨N0, hN0⟩ : ∃ N0, i * cB + k = N0 := ⟨_, rfl⟩
              have hNb : N0 ≤ 400000 := by
                have h1 : i * cB ≤ 600 * 600 := Nat.mul_le_mul (by omega) hd
                omega
              rw [hN0] at hAj HEN
              have HN0 : Hid (i * cB + k = N0) := hN0
              have HAX : Hid (MatAt (prodI LA LB rA j cB) rA cB w0 N0 vk wj) := hAj
              have f2 := hAj.out.c2.1
              have own := hAj.own
              have hbs := hAj.size
              rw [HSZ.out] at f2 own hbs
              clear hAj hdj hsm hN0 y2 y3 y4
              go_wp2_with (first
                | (at_builtin; refine wpList_append_slice rfl (.tmp 57) (.tmp 59) 37 rfl (w.heap.size + 2 + 2) 3 j0 (.int .i64 0) 8 Tryd.underlying37 hj0 hy0 hy1 hy2 rfl _ _ _ rfl (own.alloc _) _ [.int .i64 S] rfl (slice_one _ _ _) (by simp [Value.oneCell']) (by simp; omega) (by unfold maxLen; simp; omega) (by simp; omega) ?_; intro v4 w4 hown4 hg4 hl4; have hown5 : w4.ownsRow (w.heap.size + 2 + 2) 3 1 v4 (N0 + 1) _ := hown4; obtain ⟨g3, p3, rfl, -, -⟩ := hown5.form (by omega); have hgr := HAX.out.grown hg4; have f4 := hgr.2.1.c2.1; have z4 := hgr.2.1.c2.2; rw [HSZ.out] at f4 z4)
                | go_in)
              (try go_frame)
              have hst := HAX.out.step (x := S) HEN.out hg4 (by rw [HSZ.out]; exact hown5)
              rw [HSZ.out] at hst
              have HST : Hid (MatAt (prodI LA LB rA j cB) rA cB w0 (N0 + 1) (.slice (some ⟨g3, 0, none⟩) (N0 + 1) p3) (w4.setCell ⟨w.heap.size + 2 + 1, 2, none⟩ (.slice (some ⟨g3, 0, none⟩) (N0 + 1) p3))) := hst
              clear hst hgr f4 z4 hown4 hown5 hg4 hl4 own f2
              go_roundw
              case rel => exact ⟨k + 1, _, by omega, by go_num, by rw [← Nat.add_assoc, HN0.out]; exact HST.out⟩
              case measure => simp [intOf]; omega
        · obtain rfl : k = cB := by omega
          have HAE : Hid (MatAt (prodI LA LB rA cA k) rA k w0 ((i + 1) * k) vk wk) := by
            show MatAt (prodI LA LB rA cA k) rA k w0 ((i + 1) * k) vk wk
            rw [Nat.succ_mul]; exact HAK.out
          clear HAK
          go_wp2
          go_roundw
          case rel => exact ⟨i + 1, vk, by omega, by go_num, HAE.out⟩
          case measure => simp [intOf]; omega
    · obtain rfl : i = rA := by omega
      have HI : Hid (IntsIn (fun b => w0.heap.size + 2 ≤ b) wi vo (prodI LA LB i cA cB)) := HAT.out.ints (prod_length LA LB i cA cB).symm
      have b0 := HAT.out.zero
      have b1 := HAT.out.out
      have hpt := HAT.out.zero.put i cB vo
      rw [HSZ.out] at b0 b1 hpt
      obtain ⟨q0, q1, q2⟩ := b0
      obtain ⟨s0, s1, s2⟩ := b1
      obtain ⟨q00, q01⟩ := q0
      obtain ⟨q10, q11⟩ := q1
      obtain ⟨q20, q21⟩ := q2
      have s00 := s0.1
      have s10 := s1.1
      have s20 := s2.1
      have t0 := hpt.c0.1
      have t1 := hpt.c1.1
      have t2 := hpt.c2.1
      have hBw : Below w.heap.size w wi := HB0.out.trans (HAT.out.below.mono HB0.out.size)
      obtain ⟨av, cv, ev, -, -⟩ := HI.out.open_
      subst ev
      clear hpt s0 s1 s2
      go_wp2
      refine bodyPost_ret (v := .agg #[.int .i64 i, .int .i64 cB, .slice av (prodI LA LB i cA cB).length cv]) ?_ rfl ?_
      · simp [results, Tryd.f22, go_sem, t0, t1, t2]
      · refine ⟨_, rfl, ?_, mat_put_below hBw _ _ _ (by omega)⟩
        have hI := HI.out
        rw [HSZ.out] at hI
        exact SliceIn.mono (ints_set (ints_set (ints_set hI (p := ⟨w.heap.size + 2, 0, none⟩) (by show ¬ w.heap.size + 2 + 2 ≤ w.heap.size + 2; omega) _) (p := ⟨w.heap.size + 2, 1, none⟩) (by show ¬ w.heap.size + 2 + 2 ≤ w.heap.size + 2; omega) _) (p := ⟨w.heap.size + 2, 2, none⟩) (by show ¬ w.heap.size + 2 + 2 ≤ w.heap.size + 2; omega) _) (fun b _ h => by have h' : w.heap.size + 2 + 2 ≤ b := h; show w.heap.size ≤ b; omega)

end Go.Proofs.YtopopbhpclhinaaDoor
