/- The reference makes two cosets the same. -/
import Derived.Test.YthcgabghkbgccaaDoorGrpSameR0
import Derived.Deep.CutRange
namespace Go.Proofs.YthcgabghkbgccaaDoor
open Go.RowKit Go.Sort

/-- While all rows are gone through. -/
structure PassAt (B : Nat) (X : Nat → Prop) (P n : Nat) (w : World) (ts : Cos) (i : Nat) (b : Bool) (t' : Cos) (W : World) : Prop where
  fin : FinAt B X P n W t'
  mv : Moves n ts t'
  kp : Kp B X w W
  no : b = false → t' = ts ∧ ∀ j, j < i → ∀ x, x < 2 * n → ClosedAt ts j x
  yes : b = true → leftN n t' < leftN n ts
/-- While a row is gone through, and what was found of the places ahead. -/
def RowAt (B : Nat) (X : Nat → Prop) (P n : Nat) (w : World) (ts : Cos) (k i x : Nat) (b : Bool) (t' : Cos) (W : World) : Prop :=
  Run B X P n w ts k i b t' W ∧ (b = false → k = ts.cls i ∧ (∀ j, j < i → ∀ y, y < 2 * n → ClosedAt ts j y) ∧ ∀ y, y < x → ClosedAt ts i y)
/-- What is known when a place's own row leads where it must. -/
def MidAt (B : Nat) (X : Nat → Prop) (P n : Nat) (w : World) (ts : Cos) (k i x p : Nat) (b : Bool) (t' : Cos) (W : World) (u : Nat) : Prop :=
  RowAt B X P n w ts k i x b t' W ∧ ent t'.R i x = (p : Int) ∧ ent t'.R k x = (u : Int)
/-- What same answers. -/
structure SameSays (B : Nat) (X : Nat → Prop) (P n : Nat) (w : World) (t : Cos) (a b : Nat) (w' : World) (t' : Cos) : Prop where
  fin : FinAt B X P n w' t'
  kp : Kp B X w w'
  cl : CloseR n t'
  is : (t.cls a = t.cls b ∧ t' = t) ∨ (t.cls a ≠ t.cls b ∧ Moves n ⟨t.R, joinC t.cls (a, b)⟩ t')

set_option maxRecDepth 100000 in
set_option maxHeartbeats 4000000 in
theorem sameR_ {B : Nat} {X : Nat → Prop} {P n : Nat} {t : Cos} (a b : Nat) (w : World) (h : FinAt B X P n w t) (hI : CInv n t) (hC : CloseR n t) (ha : a < t.R.length) (hb : b < t.R.length) (hN : t.R.length ≤ 900) (hn : n ≤ 12) :
    Calls Tryd.prog 29 #[.pointer (some ⟨P, 0, none⟩), .int .i64 (a : Int), .int .i64 (b : Int)] w fun e w' => e = .returned (.tuple #[]) ∧ ∃ t', SameSays B X P n w t a b w' t' := by
  obtain ⟨v0, v1, rb, cp, h⟩ := h
  obtain ⟨G, cG, H, cH, rfl, rfl⟩ := h.open_ hI.pos
  have HFI := Hid.mk' (h.below (Below.refl _ w).drew)
  have HI := Hid.mk' hI
  have HC := Hid.mk' hC
  have p0 := h.p0
  have p1 := h.p1
  have ca := h.of_at ha
  have cb := h.of_at hb
  have hmg := mergeF_ a b (h.below (Below.refl _ w).drew) hI ha hb hN
  obtain ⟨N, hNN⟩ : ∃ N, t.R.length = N := ⟨_, rfl⟩
  have HN : Hid (t.R.length = N) := hNN
  have hpos := hI.pos
  obtain ⟨m2, hm2⟩ : ∃ m2, 2 * n = m2 := ⟨_, rfl⟩
  have HM : Hid (2 * n = m2) := hm2
  have hm24 : m2 ≤ 24 := by omega
  rw [hNN] at p0 p1 ha hb hN hmg hpos
  obtain ⟨x0, hx0⟩ : ∃ x0, t.cls a = x0 := ⟨_, rfl⟩
  obtain ⟨y0, hy0⟩ : ∃ y0, t.cls b = y0 := ⟨_, rfl⟩
  have HXY : Hid (t.cls a = x0 ∧ t.cls b = y0) := ⟨hx0, hy0⟩
  rw [hx0] at ca
  rw [hy0] at cb
  have z0 : (0 : Int) ≤ (a : Int) := by omega
  have z1 : (a : Int) < (N : Int) := by omega
  have z2 : (0 : Int) ≤ (b : Int) := by omega
  have z3 : (b : Int) < (N : Int) := by omega
  have HKD : Hid (Kp B X w w.drew) := (Kp.refl _ _ _).drew
  clear h hI hC hNN hm2 hx0 hy0
  by_cases hxy : x0 = y0
  · subst hxy
    have HSS : Hid (SameSays B X P n w t a b w.drew t) := ⟨⟨_, _, _, _, HFI.out⟩, HKD.out, HC.out, .inl ⟨by rw [HXY.out.1, HXY.out.2], rfl⟩⟩
    go_enter Tryd.func29, Tryd.ntmps29
    go_wp2_with fail
    go_region
    all_goals go_wp2_with fail
    all_goals (refine bodyPost_ret (v := .tuple #[]) ?_ rfl ⟨rfl, t, HSS.out⟩)
    all_goals simp [results, Tryd.f29, go_sem]
  · have hbe : ((x0 : Int) == (y0 : Int)) = false := beq_false_of_ne (by omega)
    have hIJ : CInv n ⟨t.R, joinC t.cls (a, b)⟩ := ⟨HI.out.wide, HI.out.rng, HI.out.cls.join _, join_far HI.out.cls HI.out.far (p := (a, b)) (by rw [HN.out]; exact ha) (by rw [HN.out]; exact hb), HI.out.pos, HI.out.few⟩
    obtain ⟨t0, ht0⟩ : ∃ t0 : Cos, (⟨t.R, joinC t.cls (a, b)⟩ : Cos) = t0 := ⟨_, rfl⟩
    have HT0 : Hid (CInv n t0 ∧ t0.R.length = N) := ⟨by rw [← ht0]; exact hIJ, by rw [← ht0]; exact HN.out⟩
    have HEND : Hid (∀ W t', FinAt B X P n W t' → Kp B X w W → CloseR n t' → Moves n t0 t' → ∃ t', SameSays B X P n w t a b W t') := fun W t' h1 h2 h3 h4 => ⟨t', h1, h2, h3, .inr ⟨by rw [HXY.out.1, HXY.out.2]; exact hxy, by rw [ht0]; exact h4⟩⟩
    rw [ht0] at hmg
    clear hIJ ht0
    go_enter Tryd.func29, Tryd.ntmps29
    go_upto_region 0 with fail
    go_cut [26] from 12 to 25 (fun c wx => c = .bool false ∧ wx = w.drew)
    case first =>
      go_wp2_with fail
      go_region
      all_goals go_wp2_with fail
      all_goals go_meet
      all_goals exact ⟨rfl, rfl⟩
    obtain ⟨rfl, rfl⟩ := hcut
    go_upto_region 2 with (go_at_call 37; refine hmg.mono ?_; rintro e W1 ⟨rfl, hF1, hK1⟩; have H1 : Hid (FinAt B X P n W1 t0 ∧ Kp B X w W1) := ⟨hF1, HKD.out.trans hK1⟩; clear hF1 hK1 hmg)
    clear p0 p1 ca cb
    go_wp2_with fail
    go_loopw [6] (fun ag W => ∃ (f : Bool) (t' : Cos), ag = .bool f ∧ Hid (FinAt B X P n W t' ∧ Moves n t0 t' ∧ Kp B X w W ∧ (f = false → CloseR n t'))) (fun ag W => 2 * leftW P n W + flagN ag)
    case atStart => exact ⟨true, t0, rfl, H1.out.1, .refl, H1.out.2, fun e => by cases e⟩
    case round =>
      obtain ⟨f, ts, rfl, HP⟩ := hrel
      cases f with
      | false =>
        go_wp2_with fail
        refine bodyPost_end (v := .tuple #[]) ?_ rfl ⟨rfl, HEND.out _ ts HP.out.1 HP.out.2.2.1 (HP.out.2.2.2 (by simp)) HP.out.2.1⟩
        simp [results, Tryd.f29, go_sem]
      | true =>
        have hTS := HP.out.2.1.inv HT0.out.1
        have HTS : Hid (CInv n ts ∧ ts.R.length = N) := ⟨hTS.1, hTS.2.1.trans HT0.out.2⟩
        clear hTS
        obtain ⟨Ws, hWs⟩ : ∃ W, W = wr := ⟨_, rfl⟩
        subst hWs
        have HL0 : Hid (leftW P n Ws = leftN n ts) := left_of HP.out.1 HTS.out.1.pos
        go_wp2_with fail
        go_loopw [6, 7] (fun ag p W => ∃ (f : Bool) (i : Nat) (t' : Cos), i ≤ N ∧ ag = .bool f ∧ p = .int .i64 (i : Int) ∧ Hid (PassAt B X P n Ws ts i f t' W)) (fun _ p _ => N - (intOf p).toNat)
        case atStart => exact ⟨false, 0, ts, by omega, rfl, rfl, HP.out.1, .refl, Kp.refl _ _ _, fun _ => ⟨rfl, fun j hj => by omega⟩, fun e => by cases e⟩
        case round =>
          obtain ⟨f, i, t', hi, rfl, rfl, HK⟩ := hrel
          have hT' := HK.out.mv.inv HTS.out.1
          have HT' : Hid (CInv n t' ∧ t'.R.length = N) := ⟨hT'.1, hT'.2.1.trans HTS.out.2⟩
          clear hT'
          obtain ⟨v0, v1, rb, cp, h⟩ := HK.out.fin
          obtain ⟨G, cG, H, cH, rfl, rfl⟩ := h.open_ HT'.out.1.pos
          have p0 := h.p0
          have p1 := h.p1
          rw [HT'.out.2] at p0 p1
          by_cases hiN : i < N
          · have ci := h.of_at (i := i) (by rw [HT'.out.2]; exact hiN)
            have hkN := HT'.out.1.cls_lt (i := i) (by rw [HT'.out.2]; exact hiN)
            rw [HT'.out.2] at hkN
            obtain ⟨k, hk⟩ : ∃ k, t'.cls i = k := ⟨_, rfl⟩
            have HRW : Hid (RowAt B X P n Ws ts k i 0 f t' wr) := ⟨⟨HK.out.fin, HK.out.mv, HK.out.kp, by rw [← hk]; exact HT'.out.1.cls.idem i, fun e => (HK.out.no e).1, HK.out.yes⟩, fun e => ⟨by rw [← (HK.out.no e).1]; exact hk.symm, (HK.out.no e).2, fun y hy => by omega⟩⟩
            rw [hk] at ci hkN
            have z4 : (0 : Int) ≤ (i : Int) := by omega
            have z5 : (i : Int) < (N : Int) := by omega
            have z6 : (0 : Int) ≤ (k : Int) := by omega
            have z7 : (k : Int) < (N : Int) := by omega
            clear h hk HK HT'
            go_wp2_with fail
            clear p0 p1 ci
            go_loopw [6, 9] (fun ag p W => ∃ (f : Bool) (x : Nat) (t' : Cos), x ≤ m2 ∧ ag = .bool f ∧ p = .int .i64 (x : Int) ∧ Hid (RowAt B X P n Ws ts k i x f t' W)) (fun _ p _ => m2 - (intOf p).toNat)
            case atStart => exact ⟨f, 0, t', by omega, rfl, rfl, HRW.out⟩
            case round =>
              obtain ⟨f, x, t', hx, rfl, rfl, HK⟩ := hrel
              have hT' := HK.out.1.inv HTS.out.1
              have HT' : Hid (CInv n t' ∧ t'.R.length = N) := ⟨hT'.1, hT'.2.1.trans HTS.out.2⟩
              clear hT'
              obtain ⟨v0, v1, rb, cp, h⟩ := HK.out.1.fin
              obtain ⟨G, cG, H, cH, rfl, rfl⟩ := h.open_ HT'.out.1.pos
              have p0 := h.p0
              rw [HT'.out.2] at p0
              by_cases hxm : x < m2
              · have hx2 : x < 2 * n := by rw [HM.out]; exact hxm
                obtain ⟨ri, ei, -⟩ := h.cells_at (i := i) (by rw [HT'.out.2]; exact hiN) hx2
                obtain ⟨rk, ek, fk⟩ := h.cells_at (i := k) (by rw [HT'.out.2]; exact hkN) hx2
                rw [HM.out] at ri rk
                have hrq := HT'.out.1.rng i x
                rw [HT'.out.2] at hrq
                obtain ⟨q, hq⟩ : ∃ q, ent t'.R i x = q := ⟨_, rfl⟩
                have HQ : Hid (ent t'.R i x = q) := hq
                rw [hq] at ei hrq
                have z8 : (0 : Int) ≤ (x : Int) := by omega
                have z9 : (x : Int) < (m2 : Int) := by omega
                have HIN := Hid.mk' h
                clear h hq
                rcases hrq with e | hrq
                · subst e
                  go_wp2_with fail
                  go_roundw
                  case rel =>
                    refine ⟨f, x + 1, t', by omega, rfl, by go_num, HK.out.1, fun e => ⟨(HK.out.2 e).1, (HK.out.2 e).2.1, fun y hy => ?_⟩⟩
                    rcases Nat.lt_or_ge y x with hl | hl
                    · exact (HK.out.2 e).2.2 y hl
                    · obtain rfl : y = x := by omega
                      intro p hp
                      rw [← HK.out.1.no e, HQ.out] at hp
                      omega
                  case measure => simp [intOf]; omega
                · obtain ⟨p, rfl⟩ : ∃ p : Nat, q = (p : Int) := ⟨q.toNat, by omega⟩
                  have hpN : p < N := by omega
                  have hp0 : ¬ ((p : Int) < 0) := by omega
                  have hrk := HT'.out.1.rng k x
                  rw [HT'.out.2] at hrk
                  obtain ⟨qk, hqk⟩ : ∃ qk, ent t'.R k x = qk := ⟨_, rfl⟩
                  have HQK : Hid (ent t'.R k x = qk) := hqk
                  rw [hqk] at ek hrk
                  have HST := Hid.mk' (HIN.out.set_ent (i := k) (x := x) (by rw [HT'.out.2]; exact hkN) hx2 (p : Int))
                  clear hqk
                  go_upto_if 85 with fail
                  go_cut [6] from 51 to 95 (fun ag wx => ∃ (f1 : Bool) (t1 : Cos) (u : Nat), ag = .bool f1 ∧ Hid (MidAt B X P n Ws ts k i x p f1 t1 wx u))
                  case first =>
                    rcases hrk with e | hrk
                    · subst e
                      go_wp2_with fail
                      go_meet
                      have hm : MoveR n t' ⟨putE t'.R k x (p : Int), t'.cls⟩ := .carry i k x p hx2 (by rw [HT'.out.2]; exact hkN) HK.out.1.ki HQ.out HQK.out
                      refine ⟨true, _, p, rfl, ⟨HK.out.1.move HTS.out.1 hm ⟨_, _, _, _, HST.out.1⟩ HST.out.2, fun e => (by cases e)⟩, ?_, ?_⟩
                      · exact (hm.keeps HT'.out.1).ent _ _ _ HQ.out
                      · show ent (putE t'.R k x (p : Int)) k x = _
                        rw [ent_put HT'.out.1.wide (by rw [HT'.out.2]; exact hkN) hx2, if_pos ⟨rfl, rfl⟩]
                    · obtain ⟨u, rfl⟩ : ∃ u : Nat, qk = (u : Int) := ⟨qk.toNat, by omega⟩
                      have hu0 : ¬ ((u : Int) < 0) := by omega
                      go_wp2_with fail
                      go_meet
                      exact ⟨f, t', u, rfl, HK.out, HQ.out, HQK.out⟩
                  obtain ⟨f1, t1, u, rfl, H1⟩ := hcut
                  obtain ⟨Wa, hWa⟩ : ∃ W, W = wc := ⟨_, rfl⟩
                  subst hWa
                  clear HST HIN HQK hrk p0 ri ei rk ek fk HK HT' HQ
                  have hT1 := H1.out.1.1.inv HTS.out.1
                  have HT1 : Hid (CInv n t1 ∧ t1.R.length = N) := ⟨hT1.1, hT1.2.1.trans HTS.out.2⟩
                  clear hT1
                  obtain ⟨v0, v1, rb, cp, h⟩ := H1.out.1.1.fin
                  obtain ⟨G, cG, H, cH, rfl, rfl⟩ := h.open_ HT1.out.1.pos
                  have p0 := h.p0
                  have p1 := h.p1
                  obtain ⟨rk, ek, -⟩ := h.cells_at (i := k) (by rw [HT1.out.2]; exact hkN) hx2
                  have huN : u < N := by have := (HT1.out.1.lt_of H1.out.2.2).2; rw [HT1.out.2] at this; exact this
                  have cu := h.of_at (i := u) (by rw [HT1.out.2]; exact huN)
                  have cq := h.of_at (i := p) (by rw [HT1.out.2]; exact hpN)
                  have hmg := mergeF_ u p (h.below (Below.refl _ Wa).drew.drew) HT1.out.1 (by rw [HT1.out.2]; exact huN) (by rw [HT1.out.2]; exact hpN) (by rw [HT1.out.2]; exact hN)
                  rw [HT1.out.2] at p0 p1 hmg
                  rw [HM.out] at rk
                  rw [H1.out.2.2] at ek
                  obtain ⟨xu, hxu⟩ : ∃ xu, t1.cls u = xu := ⟨_, rfl⟩
                  obtain ⟨xp, hxp⟩ : ∃ xp, t1.cls p = xp := ⟨_, rfl⟩
                  have HXX : Hid (t1.cls u = xu ∧ t1.cls p = xp) := ⟨hxu, hxp⟩
                  rw [hxu] at cu
                  rw [hxp] at cq
                  have y0 : (0 : Int) ≤ (u : Int) := by omega
                  have y1 : (u : Int) < (N : Int) := by omega
                  have y2 : (0 : Int) ≤ (p : Int) := by omega
                  have y3 : (p : Int) < (N : Int) := by omega
                  clear h hxu hxp
                  go_upto_region 17 with fail
                  go_cut [119] from 96 to 118 (fun c wx => c = .bool ((xu : Int) != (xp : Int)) ∧ wx = Wa.drew)
                  case first =>
                    go_wp2_with fail
                    go_region
                    all_goals go_wp2_with fail
                    all_goals go_meet
                    all_goals exact ⟨rfl, rfl⟩
                  obtain ⟨rfl, rfl⟩ := hcut
                  go_upto_if 119 with fail
                  go_cut [6] from 119 to 135 (fun ag wx => ∃ (f2 : Bool) (t2 : Cos), ag = .bool f2 ∧ Hid (MidAt B X P n Ws ts k i x p f2 t2 wx u ∧ t2.cls u = t2.cls p))
                  case first =>
                    by_cases hxx : xu = xp
                    · subst hxx
                      have HD : Hid (MidAt B X P n Ws ts k i x p f1 t1 Wa.drew u) := ⟨⟨H1.out.1.1.on (Below.refl _ Wa).drew, H1.out.1.2⟩, H1.out.2⟩
                      go_wp2_with fail
                      go_meet
                      exact ⟨f1, t1, rfl, HD.out, by rw [HXX.out.1, HXX.out.2]⟩
                    · have hxb : (xu == xp) = false := beq_false_of_ne hxx
                      have hxb2 : ((xu : Int) == (xp : Int)) = false := beq_false_of_ne (by omega)
                      have hxb3 : (xu != xp) = true := by simp [hxx]
                      have hxb4 : ((xu : Int) != (xp : Int)) = true := by simp; omega
                      have HMV : Hid (∀ V, FinAt B X P n V ⟨t1.R, joinC t1.cls (u, p)⟩ → Kp B X Wa.drew.drew V → ∃ (f2 : Bool) (t2 : Cos), Value.bool true = .bool f2 ∧ Hid (MidAt B X P n Ws ts k i x p f2 t2 V u ∧ t2.cls u = t2.cls p)) := fun V h1 h2 => by
                        have hm : MoveR n t1 ⟨t1.R, joinC t1.cls (u, p)⟩ := .both i k x p u hx2 H1.out.1.1.ki H1.out.2.1 H1.out.2.2 (by rw [HXX.out.1, HXX.out.2]; exact hxx)
                        exact ⟨true, _, rfl, ⟨⟨(H1.out.1.1.on (Below.refl _ Wa).drew.drew).move HTS.out.1 hm h1 h2, fun e => (by cases e)⟩, H1.out.2.1, H1.out.2.2⟩, joinC_joins (cls := t1.cls) (u, p)⟩
                      go_wp2_with fail
                      go_region_with (go_at_call 37; refine hmg.mono ?_; rintro e V ⟨rfl, hF1, hK1⟩; have HV := Hid.mk' (HMV.out V hF1 hK1); clear hF1 hK1)
                      all_goals go_wp2_with fail
                      all_goals go_meet
                      all_goals exact HV.out
                  obtain ⟨f2, t2, rfl, H2⟩ := hcut
                  obtain ⟨Wb, hWb⟩ : ∃ W, W = wc := ⟨_, rfl⟩
                  subst hWb
                  clear H1 HT1 p0 p1 rk ek cu cq hmg HXX
                  have hT2 := H2.out.1.1.1.inv HTS.out.1
                  have HT2 : Hid (CInv n t2 ∧ t2.R.length = N) := ⟨hT2.1, hT2.2.1.trans HTS.out.2⟩
                  clear hT2
                  obtain ⟨v0, v1, rb, cp, h⟩ := H2.out.1.1.1.fin
                  obtain ⟨G, cG, H, cH, rfl, rfl⟩ := h.open_ HT2.out.1.pos
                  have p0 := h.p0
                  have p1 := h.p1
                  have hyN := HT2.out.1.cls_lt (i := p) (by rw [HT2.out.2]; exact hpN)
                  have cq := h.of_at (i := p) (by rw [HT2.out.2]; exact hpN)
                  have ci := h.of_at (i := i) (by rw [HT2.out.2]; exact hiN)
                  obtain ⟨ry, ey, fy⟩ := h.cells_at (i := t2.cls p) (x := backN x) hyN (back_lt hx2)
                  have hry := HT2.out.1.rng (t2.cls p) (backN x)
                  rw [HT2.out.2] at p0 p1 hyN hry
                  rw [HM.out] at ry
                  have hxo := xor_one x (by omega)
                  have hbk : backN x < m2 := by have := back_lt hx2; rw [HM.out] at this; exact this
                  have HIN := Hid.mk' h
                  obtain ⟨yb, hyb⟩ : ∃ yb, backN x = yb := ⟨_, rfl⟩
                  have HYB : Hid (backN x = yb) := hyb
                  obtain ⟨y, hy⟩ : ∃ y, t2.cls p = y := ⟨_, rfl⟩
                  have HY : Hid (t2.cls p = y) := hy
                  obtain ⟨d0, hd0⟩ : ∃ d0, ent t2.R y yb = d0 := ⟨_, rfl⟩
                  have HD0 : Hid (ent t2.R y yb = d0) := hd0
                  rw [hyb] at ey fy hxo hbk hry
                  rw [hy] at cq hyN ry ey fy hry
                  rw [hd0] at ey hry
                  have y0 : (0 : Int) ≤ (p : Int) := by omega
                  have y1 : (p : Int) < (N : Int) := by omega
                  have y2 : (0 : Int) ≤ (y : Int) := by omega
                  have y3 : (y : Int) < (N : Int) := by omega
                  have y4 : (0 : Int) ≤ (yb : Int) := by omega
                  have y5 : (yb : Int) < (m2 : Int) := by omega
                  have HXT : Hid (∀ y', y' < x + 1 → (f2 = false → y' ≠ x → ClosedAt ts i y')) := fun y' hy' e hne => (H2.out.1.1.2 e).2.2 y' (by omega)
                  clear h hyb hy hd0
                  go_upto_region 20 with fail
                  go_cut [11] from 136 to 152 (fun c wx => c = .int .i64 d0 ∧ wx = Wb.drew)
                  case first =>
                    go_wp2_with fail
                    go_region
                    all_goals go_wp2_with fail
                    all_goals go_meet
                    all_goals exact ⟨rfl, rfl⟩
                  obtain ⟨rfl, rfl⟩ := hcut
                  rcases hry with e | hry
                  · subst e
                    have hst := HIN.out.set_ent (i := y) (x := yb) (by rw [HT2.out.2]; exact hyN) (by rw [HM.out]; exact hbk) (k : Int)
                    have HST : Hid (FinAt B X P n (Wb.setCell ⟨rb y, yb, none⟩ (.int .i64 (k : Int))).drew.drew ⟨putE t2.R y yb (k : Int), t2.cls⟩ ∧ Kp B X Wb (Wb.setCell ⟨rb y, yb, none⟩ (.int .i64 (k : Int))).drew.drew) := ⟨⟨_, _, _, _, hst.1.below (Below.refl _ _).drew.drew⟩, hst.2.drew.drew⟩
                    clear hst
                    have HMV : Hid (∀ V, FinAt B X P n V ⟨putE t2.R y yb (k : Int), t2.cls⟩ → Kp B X Wb V → RowAt B X P n Ws ts k i (x + 1) true ⟨putE t2.R y yb (k : Int), t2.cls⟩ V) := fun V h1 h2 => by
                      have hm : MoveR n t2 ⟨putE t2.R (t2.cls p) (backN x) (k : Int), t2.cls⟩ := .back i k x p hx2 (by rw [HT2.out.2]; exact hkN) H2.out.1.1.1.ki H2.out.1.2.1 (by rw [HY.out, HYB.out]; exact HD0.out)
                      rw [HY.out, HYB.out] at hm
                      exact ⟨H2.out.1.1.1.move HTS.out.1 hm h1 h2, fun e => (by cases e)⟩
                    go_upto_region 22 with fail
                    go_cut [] from 153 to 171 (fun wx => wx = (Wb.setCell ⟨rb y, yb, none⟩ (.int .i64 (k : Int))).drew.drew)
                    case first =>
                      go_wp2_with fail
                      go_region
                      all_goals go_wp2_with fail
                      all_goals go_meet
                      all_goals rfl
                    subst hcut
                    go_wp2_with fail
                    go_roundw
                    case rel => exact ⟨true, x + 1, _, by omega, rfl, by go_num, HMV.out _ HST.out.1 HST.out.2⟩
                    case measure => simp [intOf]; omega
                  · obtain ⟨d, rfl⟩ : ∃ d : Nat, d0 = (d : Int) := ⟨d0.toNat, by omega⟩
                    have hdN : d < N := by omega
                    have hd9 : ¬ ((d : Int) < 0) := by omega
                    have cd := HIN.out.of_at (i := d) (by rw [HT2.out.2]; exact hdN)
                    have hmg := mergeF_ d i (HIN.out.below (Below.refl _ Wb).drew.drew) HT2.out.1 (by rw [HT2.out.2]; exact hdN) (by rw [HT2.out.2]; exact hiN) (by rw [HT2.out.2]; exact hN)
                    rw [HT2.out.2] at hmg
                    obtain ⟨xd, hxd⟩ : ∃ xd, t2.cls d = xd := ⟨_, rfl⟩
                    obtain ⟨xi, hxi⟩ : ∃ xi, t2.cls i = xi := ⟨_, rfl⟩
                    have HXX : Hid (t2.cls d = xd ∧ t2.cls i = xi) := ⟨hxd, hxi⟩
                    rw [hxd] at cd
                    rw [hxi] at ci
                    have y6 : (0 : Int) ≤ (d : Int) := by omega
                    have y7 : (d : Int) < (N : Int) := by omega
                    clear hxd hxi
                    go_upto_region 24 with fail
                    go_cut [186] from 153 to 185 (fun c wx => c = .bool ((xd : Int) != (xi : Int)) ∧ wx = Wb.drew.drew)
                    case first =>
                      go_wp2_with fail
                      go_region
                      all_goals go_wp2_with fail
                      all_goals go_meet
                      all_goals exact ⟨rfl, rfl⟩
                    obtain ⟨rfl, rfl⟩ := hcut
                    by_cases hdi : xd = xi
                    · subst hdi
                      have HEND2 : Hid (RowAt B X P n Ws ts k i (x + 1) f2 t2 Wb.drew.drew) := by
                        refine ⟨H2.out.1.1.1.on (Below.refl _ Wb).drew.drew, fun e => ⟨(H2.out.1.1.2 e).1, (H2.out.1.1.2 e).2.1, fun y' hy' => ?_⟩⟩
                        by_cases hne : y' = x
                        · subst hne
                          have e2 := H2.out.1.1.1.no e
                          have hk2 := (H2.out.1.1.2 e).1
                          have g1 := H2.out.1.2.1
                          have g2 := H2.out.1.2.2
                          have g3 := H2.out.2
                          have g4 := HD0.out
                          have g5 := HXX.out
                          have g6 := HY.out
                          rw [e2] at g1 g2 g3 g4 g5 g6
                          intro p' hp'
                          rw [g1] at hp'
                          have hpp : p = p' := by omega
                          subst hpp
                          exact ⟨⟨u, by rw [← hk2]; exact g2, g3⟩, d, by rw [g6, HYB.out]; exact g4, g5.1.trans g5.2.symm⟩
                        · exact HXT.out y' hy' e hne
                      clear hmg
                      go_wp2_with fail
                      go_roundw
                      case rel => exact ⟨f2, x + 1, t2, by omega, rfl, by go_num, HEND2.out⟩
                      case measure => simp [intOf]; omega
                    · have hxb : (xd == xi) = false := beq_false_of_ne hdi
                      have hxb2 : ((xd : Int) == (xi : Int)) = false := beq_false_of_ne (by omega)
                      have hxb4 : ((xd : Int) != (xi : Int)) = true := by simp; omega
                      have HMV : Hid (∀ V, FinAt B X P n V ⟨t2.R, joinC t2.cls (d, i)⟩ → Kp B X Wb.drew.drew V → RowAt B X P n Ws ts k i (x + 1) true ⟨t2.R, joinC t2.cls (d, i)⟩ V) := fun V h1 h2 => by
                        have hm : MoveR n t2 ⟨t2.R, joinC t2.cls (d, i)⟩ := .home i x p d hx2 H2.out.1.2.1 (by rw [HY.out, HYB.out]; exact HD0.out) (by rw [HXX.out.1, HXX.out.2]; exact hdi)
                        exact ⟨(H2.out.1.1.1.on (Below.refl _ Wb).drew.drew).move HTS.out.1 hm h1 h2, fun e => (by cases e)⟩
                      go_wp2_with (first
                        | (go_at_call 37; refine hmg.mono ?_; rintro e V ⟨rfl, hF1, hK1⟩; have HV := Hid.mk' (HMV.out V hF1 hK1); clear hF1 hK1)
                        | fail)
                      go_roundw
                      case rel => exact ⟨true, x + 1, _, by omega, rfl, by go_num, HV.out⟩
                      case measure => simp [intOf]; omega
              · obtain rfl : x = m2 := by omega
                obtain ⟨ar, cr, hrv⟩ : ∃ ar cr, rowV n (rb i) (cp i) = .slice ar x cr := by
                  unfold rowV
                  split
                  · rename_i e; exact ⟨none, 0, by rw [← HM.out, e]⟩
                  · exact ⟨_, _, by rw [HM.out]⟩
                have ri := h.row_at (i := i) (by rw [HT'.out.2]; exact hiN)
                rw [hrv] at ri
                clear h hrv
                go_wp2_with fail
                go_roundw
                case rel =>
                  refine ⟨f, i + 1, t', by omega, rfl, by go_num, HK.out.1.fin, HK.out.1.mv, HK.out.1.kp, fun e => ⟨HK.out.1.no e, fun j hj y hy => ?_⟩, HK.out.1.yes⟩
                  rcases Nat.lt_or_ge j i with hl | hl
                  · exact (HK.out.2 e).2.1 j hl y hy
                  · obtain rfl : j = i := by omega
                    exact (HK.out.2 e).2.2 y (by rw [← HM.out]; exact hy)
                case measure => simp [intOf]; omega
          · obtain rfl : i = N := by omega
            have HFIN : Hid (f = false → CloseR n t') := fun e => by
              obtain ⟨h1, h2⟩ := HK.out.no e
              rw [h1]
              exact fun j x hj hx => h2 j (by rw [← HTS.out.2]; exact hj) x hx
            have HLF : Hid (leftW P n wr = leftN n t') := left_of HK.out.fin HT'.out.1.pos
            go_wp2_with fail
            go_roundw
            case rel => exact ⟨f, t', rfl, HK.out.fin, HP.out.2.1.trans HK.out.mv, HP.out.2.2.1.trans HK.out.kp, HFIN.out⟩
            case measure =>
              show 2 * leftW P n wr + flagN (.bool f) < 2 * leftW P n Ws + flagN (.bool true)
              rw [HL0.out, HLF.out]
              cases f with
              | false => rw [(HK.out.no rfl).1]; show 2 * _ + 0 < 2 * _ + 1; omega
              | true => have := HK.out.yes rfl; show 2 * _ + 1 < 2 * _ + 1; omega

end Go.Proofs.YthcgabghkbgccaaDoor
