/- What the reference's SignOf and Border answer. -/
import Derived.Test.YtnnkmkhamipfiaaGreatDoorTab
import Derived.Test.YtnnkmkhamipfiaaGreatDoorFacetsOf
import Derived.Test.YtnnkmkhamipfiaaGreatDoorMorseUnder
import Derived.Deep.QuietTactic
import Derived.BigQuiet
namespace Go.Proofs.YtnnkmkhamipfiaaGreatDoor
open Go.RowKit Go.Sort

theorem sign_at {f r : List Int} {k : Nat} (hk : k < f.length) (h : ∀ j, j < k → r.contains (f[j]?.getD 0) = true) (hn : r.contains (f[k]?.getD 0) = false) : signI f r = sg k := by
  have e : f.findIdx? (fun v => !r.contains v) = some k := by
    rw [List.findIdx?_eq_some_iff_getElem]
    refine ⟨hk, ?_, fun i hi => ?_⟩
    · rw [List.getElem?_eq_getElem hk, Option.getD_some] at hn
      rw [hn]; rfl
    · have h1 := h i hi
      rw [List.getElem?_eq_getElem (by omega), Option.getD_some] at h1
      rw [h1]; decide
  unfold signI
  rw [e]
theorem sign_none {f r : List Int} (h : ∀ j, j < f.length → r.contains (f[j]?.getD 0) = true) : signI f r = 0 := by
  have e : f.findIdx? (fun v => !r.contains v) = none := by
    rw [List.findIdx?_eq_none_iff]
    intro x hx
    obtain ⟨j, hj, rfl⟩ := List.mem_iff_getElem.1 hx
    have h1 := h j hj
    rw [List.getElem?_eq_getElem hj, Option.getD_some] at h1
    rw [h1]; rfl
  unfold signI
  rw [e]

set_option maxRecDepth 100000 in
theorem sign_of (vf vr : Value) (f r : List Int) (w : World) (hf : Ints w vf f) (hr : Ints w vr r) (hfl : f.length ≤ 1000) (hrl : r.length ≤ 1000) :
    Calls Tryz.prog 44 #[vf, vr] w fun e w' => e = .returned (.int .i64 (signI f r)) ∧ ∃ q, w' = w.drewN q := by
  have HR : Hid (Ints w vr r) := hr
  obtain ⟨af, cf, rfl, -, hc⟩ := hf.open_
  obtain ⟨ar, cr, rfl, -, -⟩ := hr.open_
  clear hf hr
  go_enter Tryz.func44, Tryz.ntmps44
  go_wp2
  go_loopw [5] (fun v W => ∃ k q : Nat, k ≤ f.length ∧ v = .int .i64 k ∧ W = w.drewN q ∧ ∀ j, j < k → r.contains (f[j]?.getD 0) = true) (fun v _ => f.length - (intOf v).toNat)
  case atStart => exact ⟨0, 0, by omega, rfl, rfl, fun j hj => by omega⟩
  case round =>
    obtain ⟨k, q, hk, rfl, hw, ht⟩ := hrel
    have HT : Hid (∀ j, j < k → r.contains (f[j]?.getD 0) = true) := ht
    have HW : Hid (wr = w.drewN q) := hw
    clear ht
    by_cases hlt : k < f.length
    · obtain ⟨b, o, rfl, -, -, c⟩ := hc (by omega)
      have g1 := c k hlt
      obtain ⟨y, hye⟩ : ∃ y, f[k]?.getD 0 = y := ⟨_, rfl⟩
      rw [hye] at g1
      have g2 : wr.cell? ⟨b, o + k, none⟩ = some (.int .i64 y) := by rw [hw]; exact g1
      have HY : Hid (f[k]?.getD 0 = y) := hye
      have hco := contains_ (.slice ar r.length cr) r y wr (by rw [hw]; exact (show Ints w _ r from HR.out)) (by omega)
      clear hye c hc g1 hw
      go_wp2_with fail
      refine hco.mono ?_
      clear hco
      rintro e w2 ⟨rfl, q2, hw2⟩
      have HW2 : Hid (w2 = w.drewN (q + q2)) := by
        show w2 = w.drewN (q + q2)
        rw [hw2, HW.out, World.drewN_drewN]
      clear hw2
      cases hq : r.contains y with
      | true =>
        have HQ : Hid (r.contains y = true) := hq
        clear hq
        go_wp2
        go_roundw
        case rel => exact ⟨k + 1, _, by omega, by go_num, HW2.out, fun j hj => by
          by_cases e : j = k
          · subst e; rw [HY.out]; exact HQ.out
          · exact HT.out j (by omega)⟩
        case measure => simp [intOf]; omega
      | false =>
        have HS : Hid (signI f r = sg k) := sign_at hlt HT.out (by rw [HY.out]; exact hq)
        clear hq
        by_cases hp : k % 2 = 0
        · have hpb : ((k : Int) % 2 == 0) = true := beq_iff_eq.2 (by omega)
          have hs1 : sg k = 1 := by unfold sg; omega
          go_wp2
          go_ret
          exact ⟨by rw [HS.out, hs1]; rfl, _, HW2.out⟩
        · have hpb : ((k : Int) % 2 == 0) = false := beq_false_of_ne (by omega)
          have hs1 : sg k = -1 := by unfold sg; omega
          go_wp2
          go_ret
          exact ⟨by rw [HS.out, hs1]; rfl, _, HW2.out⟩
    · have HS : Hid (signI f r = 0) := sign_none (fun j hj => HT.out j (by omega))
      clear hc
      go_wp2
      go_ret
      exact ⟨by rw [HS.out]; rfl, q, by rw [← HW.out]⟩

set_option maxRecDepth 100000 in
set_option maxHeartbeats 2000000 in
theorem border_of (vr vc : Value) (R C : List (List Int)) (w : World) (hr : Rows w vr R) (hc : Rows w vc C) (hrl : R.length ≤ 600) (hcl : C.length ≤ 600) (hr7 : ∀ x ∈ R, x.length ≤ 7) (hc7 : ∀ x ∈ C, x.length ≤ 7) :
    Calls Tryz.prog 56 #[vr, vc] w fun e w' => ∃ v, e = .returned (.agg #[.int .i64 R.length, .int .i64 C.length, v]) ∧ Ints w' v (borderI R C) ∧ Below w.heap.size w w' := by
  obtain ⟨j0, hj0, hy0, hy1, hy2⟩ := info_parts Tryz.info3
  have HR : Hid (Rows w vr R) := hr
  have HC : Hid (Rows w vc C) := hc
  have H7 : Hid ((∀ x ∈ R, x.length ≤ 7) ∧ ∀ x ∈ C, x.length ≤ 7) := ⟨hr7, hc7⟩
  obtain ⟨ar, cr, rfl, -, hxr⟩ := hr.open_
  obtain ⟨ac, cc, rfl, -, hxc⟩ := hc.open_
  clear hr hc hr7 hc7
  go_enter Tryz.func56, Tryz.ntmps56
  go_wp2
  go_loopw [6] (fun p wr => ∃ (i : Nat) (vo : Value), i ≤ R.length ∧ p = .int .i64 i ∧ MatAt (borderI R C) R.length C.length w (i * C.length) vo wr) (fun p _ => R.length - (intOf p).toNat)
  case atStart => exact ⟨0, _, by omega, rfl, by rw [Nat.zero_mul]; exact mat_start _ _ _ w 51⟩
  case round =>
    obtain ⟨i, vo, hi, rfl, hat⟩ := hrel
    have HAT : Hid (MatAt (borderI R C) R.length C.length w (i * C.length) vo wr) := hat
    obtain ⟨wi, hwi⟩ : ∃ wi : World, wi = wr := ⟨_, rfl⟩
    subst hwi
    clear hat
    by_cases hlt : i < R.length
    · obtain ⟨br, or_, rfl, -, hbr, cr_⟩ := hxr (by omega)
      obtain ⟨a1, p1, g1, i1⟩ := cr_ i hlt
      have hm1 : R[i]?.getD [] ∈ R := by rw [List.getElem?_eq_getElem hlt]; simp
      obtain ⟨r, hre⟩ : ∃ r, R[i]?.getD [] = r := ⟨_, rfl⟩
      rw [hre] at g1 i1 hm1
      have hr7 := H7.out.1 r hm1
      have HRE : Hid (R[i]?.getD [] = r) := hre
      have HG1 : Hid (w.cell? ⟨br, or_ + i, none⟩ = some (.slice a1 r.length p1)) := g1
      have HI1 : Hid (Ints w (.slice a1 r.length p1) r) := i1
      clear cr_ hxr g1 i1 hre hm1
      go_wp2
      go_loopw [7] (fun p wr => ∃ (k : Nat) (vo : Value), k ≤ C.length ∧ p = .int .i64 k ∧ MatAt (borderI R C) R.length C.length w (i * C.length + k) vo wr) (fun p _ => C.length - (intOf p).toNat)
      case atStart => exact ⟨0, vo, by omega, rfl, HAT.out⟩
      case round =>
        obtain ⟨k, vk, hk, rfl, hat⟩ := hrel
        have HAK : Hid (MatAt (borderI R C) R.length C.length w (i * C.length + k) vk wr) := hat
        obtain ⟨wk, hwk⟩ : ∃ wk : World, wk = wr := ⟨_, rfl⟩
        subst hwk
        clear hat HAT
        by_cases hkl : k < C.length
        · obtain ⟨bc, oc, rfl, -, hbc, cc_⟩ := hxc (by omega)
          obtain ⟨a2, p2, g2, i2⟩ := cc_ k hkl
          have hm2 : C[k]?.getD [] ∈ C := by rw [List.getElem?_eq_getElem hkl]; simp
          obtain ⟨c, hce⟩ : ∃ c, C[k]?.getD [] = c := ⟨_, rfl⟩
          have HEN : Hid ((borderI R C)[i * C.length + k]? = some (entryI r c)) := by
            show (borderI R C)[i * C.length + k]? = some (entryI r c)
            rw [border_get hlt hkl, HRE.out, hce]
          rw [hce] at g2 i2 hm2
          have hc7 := H7.out.2 c hm2
          have hBk := HAK.out.below
          have k1 : wk.cell? ⟨br, or_ + i, none⟩ = some (.slice a1 r.length p1) := (hBk.cell (p := ⟨br, or_ + i, none⟩) hbr).trans HG1.out
          have k2 : wk.cell? ⟨bc, oc + k, none⟩ = some (.slice a2 c.length p2) := (hBk.cell (p := ⟨bc, oc + k, none⟩) hbc).trans g2
          have hir : Ints wk (.slice a1 r.length p1) r := HI1.out.below hBk
          have hic : Ints wk (.slice a2 c.length p2) c := i2.below hBk
          have hn0 : (0 : Int) ≤ (i : Int) := by omega
          have hn1 : (0 : Int) ≤ (k : Int) := by omega
          have hn2 : (i : Int) < (R.length : Int) := by omega
          have hn3 : (k : Int) < (C.length : Int) := by omega
          have hpo : ∀ m, Calls Tryz.prog 60 #[.slice a1 r.length p1, .slice a2 c.length p2] (wk.drewN m) _ := fun m => part_of _ _ r c (wk.drewN m) (show Ints wk _ r from hir) (show Ints wk _ c from hic) (by omega) (by omega)
          have hso : ∀ m, Calls Tryz.prog 44 #[.slice a2 c.length p2, .slice a1 r.length p1] (wk.drewN m) _ := fun m => sign_of _ _ c r (wk.drewN m) (show Ints wk _ c from hic) (show Ints wk _ r from hir) (by omega) (by omega)
          obtain ⟨N0, hN0⟩ : ∃ N0, i * C.length + k = N0 := ⟨_, rfl⟩
          have hNb : N0 ≤ 400000 := by
            have h1 : i * C.length ≤ 600 * 600 := Nat.mul_le_mul (by omega) (by omega)
            omega
          rw [hN0] at HAK HEN
          have HN0 : Hid (i * C.length + k = N0) := hN0
          clear hxc cc_ hce g2 i2 hm2 hir hic hN0
          by_cases hl : r.length + 1 = c.length
          · have hd : (((r.length : Int) + 1) == (c.length : Int)) = true := beq_iff_eq.2 (by omega)
            cases hq : r.all (fun v => c.contains v) with
            | true =>
              rw [hq] at hpo
              have HZ : Hid (entryI r c = signI c r) := by
                show entryI r c = signI c r
                unfold entryI
                rw [if_pos ⟨hl, fun v hv => by have := List.all_eq_true.1 hq v hv; exact List.contains_iff_mem.1 this⟩]
              clear hl hq
              go_wp2_with fail
              go_quiet ((go_at_call 60; exact Calls.quiet_of (hpo _)))
              obtain ⟨wz, hwz⟩ : ∃ wz, wk.drewN nq = wz := ⟨_, rfl⟩
              rw [hwz]
              have k3 : wz.cell? ⟨br, or_ + i, none⟩ = some (.slice a1 r.length p1) := by rw [← hwz]; exact k1
              have k4 : wz.cell? ⟨bc, oc + k, none⟩ = some (.slice a2 c.length p2) := by rw [← hwz]; exact k2
              have hsz : ∀ m, Calls Tryz.prog 44 #[.slice a2 c.length p2, .slice a1 r.length p1] (wz.drewN m) (fun e w' => e = .returned (.int .i64 (signI c r)) ∧ ∃ q, w' = (wz.drewN m).drewN q) := fun m => by
                have := hso (nq + m)
                rw [← World.drewN_drewN, hwz] at this
                exact this
              have hdz : Below wk.heap.size wk wz := by rw [← hwz]; exact ⟨rfl, rfl, rfl, Nat.le_refl _, fun _ _ => rfl⟩
              have HAZ : Hid (MatAt (borderI R C) R.length C.length w N0 vk wz) := HAK.out.later hdz
              clear hwz hpo hso k1 k2 hdz hBk
              go_wp2_with fail
              go_quiet ((go_at_call 44; exact Calls.quiet_of (hsz _)))
              have hdw : Below wz.heap.size wz (wz.drewN nq) := ⟨rfl, rfl, rfl, Nat.le_refl _, fun _ _ => rfl⟩
              have HAX : Hid (MatAt (borderI R C) R.length C.length w N0 vk (wz.drewN nq)) := HAZ.out.later hdw
              obtain ⟨wx, hwx⟩ : ∃ wx, wz.drewN nq = wx := ⟨_, rfl⟩
              rw [hwx] at HAX ⊢
              have f2 := HAX.out.out.c2.1
              have own := HAX.out.own
              have hbs := HAX.out.size
              clear hdw hwx k3 k4 hsz
              go_wp2_with (first
                | (at_builtin; refine wpList_append_slice rfl (.tmp 61) (.tmp 63) 29 rfl (w.heap.size + 2) 3 j0 (.int .i64 0) 8 Tryz.underlying29 hj0 hy0 hy1 hy2 rfl _ _ _ rfl (own.alloc _) _ [.int .i64 (signI c r)] rfl (slice_one _ _ _) (by simp [Value.oneCell']) (by simp; omega) (by unfold maxLen; simp; omega) (by simp; omega) ?_; intro v4 w4 hown4 hg4 hl4; have hown5 : w4.ownsRow (w.heap.size + 2) 3 1 v4 (N0 + 1) _ := hown4; obtain ⟨g3, p3, rfl, -, -⟩ := hown5.form (by omega); have hgr := HAX.out.grown hg4; have f4 := hgr.2.1.c2.1; have z4 := hgr.2.1.c2.2)
                | go_in)
              (try go_frame)
              have hst := HAX.out.step (x := signI c r) (by rw [HEN.out, HZ.out]) hg4 hown5
              have HST : Hid (MatAt (borderI R C) R.length C.length w (N0 + 1) (.slice (some ⟨g3, 0, none⟩) (N0 + 1) p3) (w4.setCell ⟨w.heap.size + 1, 2, none⟩ (.slice (some ⟨g3, 0, none⟩) (N0 + 1) p3))) := hst
              clear hst hgr f4 z4 hown4 hown5 hg4 hl4 own f2
              go_roundw
              case rel => exact ⟨k + 1, _, by omega, by go_num, by rw [← Nat.add_assoc, HN0.out]; exact HST.out⟩
              case measure => simp [intOf]; omega
            | false =>
              rw [hq] at hpo
              have HZ : Hid (entryI r c = 0) := by
                show entryI r c = 0
                unfold entryI
                rw [if_neg (fun h => by
                  have : r.all (fun v => c.contains v) = true := List.all_eq_true.2 (fun v hv => List.contains_iff_mem.2 (h.2 v hv))
                  rw [hq] at this; cases this)]
              clear hl hq
              go_wp2_with fail
              go_quiet ((go_at_call 60; exact Calls.quiet_of (hpo _)))
              have hdw : Below wk.heap.size wk (wk.drewN nq) := ⟨rfl, rfl, rfl, Nat.le_refl _, fun _ _ => rfl⟩
              have HAX : Hid (MatAt (borderI R C) R.length C.length w N0 vk (wk.drewN nq)) := HAK.out.later hdw
              obtain ⟨wx, hwx⟩ : ∃ wx, wk.drewN nq = wx := ⟨_, rfl⟩
              rw [hwx] at HAX ⊢
              have f2 := HAX.out.out.c2.1
              have own := HAX.out.own
              have hbs := HAX.out.size
              clear hdw hwx k1 k2 hpo hso hBk
              go_wp2_with (first
                | (at_builtin; refine wpList_append_slice rfl (.tmp 61) (.tmp 63) 29 rfl (w.heap.size + 2) 3 j0 (.int .i64 0) 8 Tryz.underlying29 hj0 hy0 hy1 hy2 rfl _ _ _ rfl (own.alloc _) _ [.int .i64 (0)] rfl (slice_one _ _ _) (by simp [Value.oneCell']) (by simp; omega) (by unfold maxLen; simp; omega) (by simp; omega) ?_; intro v4 w4 hown4 hg4 hl4; have hown5 : w4.ownsRow (w.heap.size + 2) 3 1 v4 (N0 + 1) _ := hown4; obtain ⟨g3, p3, rfl, -, -⟩ := hown5.form (by omega); have hgr := HAX.out.grown hg4; have f4 := hgr.2.1.c2.1; have z4 := hgr.2.1.c2.2)
                | go_in)
              (try go_frame)
              have hst := HAX.out.step (x := 0) (by rw [HEN.out, HZ.out]) hg4 hown5
              have HST : Hid (MatAt (borderI R C) R.length C.length w (N0 + 1) (.slice (some ⟨g3, 0, none⟩) (N0 + 1) p3) (w4.setCell ⟨w.heap.size + 1, 2, none⟩ (.slice (some ⟨g3, 0, none⟩) (N0 + 1) p3))) := hst
              clear hst hgr f4 z4 hown4 hown5 hg4 hl4 own f2
              go_roundw
              case rel => exact ⟨k + 1, _, by omega, by go_num, by rw [← Nat.add_assoc, HN0.out]; exact HST.out⟩
              case measure => simp [intOf]; omega
          · have hd : (((r.length : Int) + 1) == (c.length : Int)) = false := beq_false_of_ne (by omega)
            have HZ : Hid (entryI r c = 0) := by
              show entryI r c = 0
              unfold entryI
              rw [if_neg (fun h => hl h.1)]
            clear hl
            go_wp2_with fail
            go_quiet (fail)
            have hdw : Below wk.heap.size wk (wk.drewN nq) := ⟨rfl, rfl, rfl, Nat.le_refl _, fun _ _ => rfl⟩
            have HAX : Hid (MatAt (borderI R C) R.length C.length w N0 vk (wk.drewN nq)) := HAK.out.later hdw
            obtain ⟨wx, hwx⟩ : ∃ wx, wk.drewN nq = wx := ⟨_, rfl⟩
            rw [hwx] at HAX ⊢
            have f2 := HAX.out.out.c2.1
            have own := HAX.out.own
            have hbs := HAX.out.size
            clear hdw hwx k1 k2 hpo hso hBk
            go_wp2_with (first
              | (at_builtin; refine wpList_append_slice rfl (.tmp 61) (.tmp 63) 29 rfl (w.heap.size + 2) 3 j0 (.int .i64 0) 8 Tryz.underlying29 hj0 hy0 hy1 hy2 rfl _ _ _ rfl (own.alloc _) _ [.int .i64 (0)] rfl (slice_one _ _ _) (by simp [Value.oneCell']) (by simp; omega) (by unfold maxLen; simp; omega) (by simp; omega) ?_; intro v4 w4 hown4 hg4 hl4; have hown5 : w4.ownsRow (w.heap.size + 2) 3 1 v4 (N0 + 1) _ := hown4; obtain ⟨g3, p3, rfl, -, -⟩ := hown5.form (by omega); have hgr := HAX.out.grown hg4; have f4 := hgr.2.1.c2.1; have z4 := hgr.2.1.c2.2)
              | go_in)
            (try go_frame)
            have hst := HAX.out.step (x := 0) (by rw [HEN.out, HZ.out]) hg4 hown5
            have HST : Hid (MatAt (borderI R C) R.length C.length w (N0 + 1) (.slice (some ⟨g3, 0, none⟩) (N0 + 1) p3) (w4.setCell ⟨w.heap.size + 1, 2, none⟩ (.slice (some ⟨g3, 0, none⟩) (N0 + 1) p3))) := hst
            clear hst hgr f4 z4 hown4 hown5 hg4 hl4 own f2
            go_roundw
            case rel => exact ⟨k + 1, _, by omega, by go_num, by rw [← Nat.add_assoc, HN0.out]; exact HST.out⟩
            case measure => simp [intOf]; omega
        · obtain rfl : k = C.length := by omega
          have HAE : Hid (MatAt (borderI R C) R.length C.length w ((i + 1) * C.length) vk wk) := by
            show MatAt (borderI R C) R.length C.length w ((i + 1) * C.length) vk wk
            rw [Nat.succ_mul]; exact HAK.out
          clear HAK hxc
          go_wp2
          go_roundw
          case rel => exact ⟨i + 1, vk, by omega, by go_num, HAE.out⟩
          case measure => simp [intOf]; omega
    · obtain rfl : i = R.length := by omega
      have HI : Hid (IntsIn (fun b => w.heap.size + 2 ≤ b) wi vo (borderI R C)) := HAT.out.ints (border_length R C).symm
      have b0 := HAT.out.zero
      have b1 := HAT.out.out
      obtain ⟨q0, q1, q2⟩ := b0
      obtain ⟨s0, s1, s2⟩ := b1
      obtain ⟨q00, q01⟩ := q0
      obtain ⟨q10, q11⟩ := q1
      obtain ⟨q20, q21⟩ := q2
      have s00 := s0.1
      have s10 := s1.1
      have s20 := s2.1
      have hpt := HAT.out.zero.put R.length C.length vo
      have t0 := hpt.c0.1
      have t1 := hpt.c1.1
      have t2 := hpt.c2.1
      obtain ⟨av, cv, ev, -, -⟩ := HI.out.open_
      subst ev
      clear hpt s0 s1 s2 hxr hxc
      go_wp2
      refine bodyPost_ret (v := .agg #[.int .i64 R.length, .int .i64 C.length, .slice av (borderI R C).length cv]) ?_ rfl ?_
      · simp [results, Tryz.f56, go_sem, t0, t1, t2]
      · refine ⟨_, rfl, ?_, mat_put_below HAT.out.below _ _ _⟩
        exact (ints_set (ints_set (ints_set HI.out (p := ⟨w.heap.size, 0, none⟩) (by show ¬ w.heap.size + 2 ≤ w.heap.size; omega) _) (p := ⟨w.heap.size, 1, none⟩) (by show ¬ w.heap.size + 2 ≤ w.heap.size; omega) _) (p := ⟨w.heap.size, 2, none⟩) (by show ¬ w.heap.size + 2 ≤ w.heap.size; omega) _).any

end Go.Proofs.YtnnkmkhamipfiaaGreatDoor
