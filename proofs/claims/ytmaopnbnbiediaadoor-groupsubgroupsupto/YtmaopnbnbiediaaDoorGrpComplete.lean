/- A table is completed in all ways. -/
import Derived.Test.YtmaopnbnbiediaaDoorGrpUse
namespace Go.Proofs.YtmaopnbnbiediaaDoor
open Go.RowKit Go.Sort

theorem flat_succ {α : Type} (F : Nat → List α) (k : Nat) : (List.range (k + 1)).flatMap F = (List.range k).flatMap F ++ F k := by
  rw [List.range_succ, List.flatMap_append, List.flatMap_singleton]
theorem flat_upto {α : Type} (F : Nat → List α) {k K : Nat} (h : k ≤ K) : ((List.range k).flatMap F).length ≤ ((List.range K).flatMap F).length := by
  induction K with
  | zero => obtain rfl : k = 0 := by omega
            exact Nat.le_refl _
  | succ K ih =>
    by_cases e : k = K + 1
    · subst e; exact Nat.le_refl _
    · have := ih (by omega)
      rw [flat_succ, List.length_append]
      omega
theorem below_drewN (w : World) (q : Nat) : Below w.heap.size w (w.drewN q) := ⟨rfl, rfl, rfl, Nat.le_refl _, fun _ _ => rfl⟩
theorem fullR_of {n : Nat} {R : List (List Int)} (hW : Wide n R) (hR : InRng n R) (h : holeT 0 R = none) : FullR n R := fun c x hc hx => (hR c x hc hx).resolve_left (hole_none hW h hc hx)
/-- The ways of one round. -/
def wayF (m : Nat) (R : List (List Int)) (led c x : Nat) (t : Nat) : List (List (List Int)) := if ent R t (backN x) = -1 then compF m (setP R c x t) (max led (t + 1)) else []

set_option maxRecDepth 100000 in
set_option maxHeartbeats 8000000 in
theorem complete_ {B n gb O : Nat} {vr : Value} {rels : List (List Int)} {G cG : Nat} {rb : Nat → Nat} (hr1 : rels.length ≤ 400) (hr2 : rels.flatten.length ≤ 400) (hl : ∀ ws ∈ rels, LettersIn n ws) (hn : n ≤ 12) :
    ∀ (m : Nat) (R : List (List Int)) (led : Nat) (L : List (List (List Int))) (vo : Value) (us : List Value) (w : World), CIn B n gb O vr rels G cG rb w R L vo us → Fuel n m R → InRng n R → 1 ≤ led → led ≤ R.length → L.length + (compF m R led).length ≤ 100000 →
    Calls Tryd.prog 21 #[.agg #[.slice (some ⟨G, 0, none⟩) R.length cG], .int .i64 (led : Int), .func (.func 22) #[] #[.pointer (some ⟨gb, 0, none⟩), .pointer (some ⟨O, 0, none⟩)]] w fun e w' => e = .returned (.tuple #[]) ∧ ∃ vo' us', CIn B n gb O vr rels G cG rb w' R (L ++ (compF m R led).filter (keepsB rels)) vo' us' ∧ Fr R.length O rb w vo w' vo' := by
  intro m
  induction m with
  | zero => intro R led L vo us w h hF; exact absurd hF.1 (by omega)
  | succ m ih =>
    intro R led L vo us w h hF hR h1 h2 hb
    have hBa : Below w.heap.size w (w.alloc (.cells #[.slice (some ⟨G, 0, none⟩) R.length cG] 49)) := (Below.refl _ w).alloc (Nat.le_refl _) _
    have q0 := cells_new w [.slice (some ⟨G, 0, none⟩) R.length cG] 49 0 _ rfl
    rw [Addr.add_lit, Nat.zero_add] at q0
    obtain ⟨W0, hW0⟩ : ∃ W0, w.alloc (.cells #[.slice (some ⟨G, 0, none⟩) R.length cG] 49) = W0 := ⟨_, rfl⟩
    obtain ⟨bx, hbx⟩ : ∃ bx, w.heap.size = bx := ⟨_, rfl⟩
    rw [show (List.toArray [Value.slice (some ⟨G, 0, none⟩) R.length cG]) = #[.slice (some ⟨G, 0, none⟩) R.length cG] from rfl, hW0, hbx] at q0
    have hC0 := h.below hBa
    rw [hW0] at hC0
    have HB0 : Hid (Below w.heap.size w W0) := by rw [← hW0]; exact hBa
    have hho := hole_ W0 hC0.tb hn
    have hN := hC0.tb.few
    have HW := Hid.mk' hC0.tb.wide
    have HXX : Hid (bx ≠ O ∧ (∀ k, k < R.length → bx ≠ rb k) ∧ some bx ≠ vo.ownBlock ∧ bx ≠ G ∧ bx ≠ gb) := by
      have k1 := cell_lt h.oc
      have k2 := cell_lt h.g1
      have k3 := (h.tb.outer.lt G rfl).2
      simp only at k1 k2
      refine ⟨by omega, fun k hk => by have := (h.tb.inner k hk).lt; omega, fun e => by have := (h.out.lt bx e.symm).2; omega, by omega, by omega⟩
    have HC := Hid.mk' hC0
    have HF := Hid.mk' hF
    have HR := Hid.mk' hR
    have HB := Hid.mk' hb
    obtain ⟨N, hNe⟩ : ∃ N, R.length = N := ⟨_, rfl⟩
    have HN : Hid (R.length = N) := hNe
    have HG : Hid (w.alloc (.cells #[.slice (some ⟨G, 0, none⟩) N cG] 49) = W0 ∧ w.heap.size = bx) := ⟨by rw [← hNe]; exact hW0, hbx⟩
    rw [hNe] at hho q0 hN h2 ⊢
    clear h hBa hC0 hF hR hb hW0 hbx hNe
    cases e : holeT 0 R with
    | none =>
      rw [e] at hho
      rw [show holeV none = .tuple #[.int .i64 0, .int .i64 0, .bool false] from rfl] at hho
      have HE : Hid (compF (m + 1) R led = if led = N then [R] else []) := by show _ = _; rw [compF, e, HN.out]
      have HFU : Hid (FullR n R) := fullR_of HW.out HR.out e
      clear e
      by_cases e2 : led = N
      · have HE2 : Hid (compF (m + 1) R led = [R]) := by show _ = _; rw [HE.out, if_pos e2]
        have HU : Hid (∀ V, Below W0.heap.size W0 V → Calls Tryd.prog 22 #[.agg #[.slice (some ⟨G, 0, none⟩) N cG], .pointer (some ⟨gb, 0, none⟩), .pointer (some ⟨O, 0, none⟩)] V fun e w' => e = .returned (.tuple #[]) ∧ ∃ vo' us', CIn B n gb O vr rels G cG rb w' R (L ++ [R].filter (keepsB rels)) vo' us' ∧ Fr N O rb V vo w' vo') := fun V hV => by
          have h9 := use_ V (HC.out.below hV) HFU.out hr1 hr2 hl (by have := HB.out; omega) hn
          rw [HN.out] at h9
          exact h9
        subst e2
        rw [HE2.out]
        go_enter Tryd.func21, Tryd.ntmps21
        go_upto_region 1 with fail
        rw [HG.out.1, HG.out.2]
        go_wp2_with (first
          | (go_at_call 41; refine hho.mono ?_; rintro e V ⟨rfl, hV⟩; have HV := Hid.mk' hV; have p0 := (hV.cell (p := ⟨bx, 0, none⟩) (cell_lt q0)).trans q0; have hu := HU.out V hV; clear hho hV)
          | (go_at_call 22; refine hu.mono ?_; rintro e V2 ⟨rfl, vo', us', hC2, hF2⟩; have H2 := Hid.mk' (And.intro hC2 hF2); clear hu hC2 hF2)
          | fail)
        refine bodyPost_ret (v := .tuple #[]) ?_ rfl ⟨rfl, vo', us', H2.out.1, (Fr.of_below _ (HB0.out.trans (HV.out.mono HB0.out.size))).trans H2.out.2⟩
        simp [results, Tryd.f21, go_sem]
      · have HE2 : Hid (compF (m + 1) R led = []) := by show _ = _; rw [HE.out, if_neg e2]
        have hbe : ((led : Int) == (N : Int)) = false := beq_false_of_ne (by omega)
        rw [HE2.out]
        go_enter Tryd.func21, Tryd.ntmps21
        go_upto_region 1 with fail
        rw [HG.out.1, HG.out.2]
        go_wp2_with (first
          | (go_at_call 41; refine hho.mono ?_; rintro e V ⟨rfl, hV⟩; have HV := Hid.mk' hV; have p0 := (hV.cell (p := ⟨bx, 0, none⟩) (cell_lt q0)).trans q0; clear hho hV)
          | fail)
        refine bodyPost_ret (v := .tuple #[]) ?_ rfl ⟨rfl, vo, us, by rw [List.filter_nil, List.append_nil]; exact HC.out.below HV.out, Fr.of_below _ (HB0.out.trans (HV.out.mono HB0.out.size))⟩
        simp [results, Tryd.f21, go_sem]
    | some p =>
      obtain ⟨c, x⟩ := p
      have HA := Hid.mk' (hole_at HW.out e)
      rw [e] at hho
      rw [show holeV (some (c, x)) = .tuple #[.int .i64 (c : Int), .int .i64 (x : Int), .bool true] from rfl] at hho
      have HE : Hid (compF (m + 1) R led = if led ≤ c then [] else (List.range (min (led + 1) N)).flatMap (wayF m R led c x)) := by show _ = _; rw [compF, e, HN.out]; rfl
      have HST : Hid (∀ t, t < R.length → Fuel n m (setP R c x t)) := fun t ht => HF.out.step HW.out e ht
      clear e
      have hcN := HA.out.hc
      rw [HN.out] at hcN
      by_cases e2 : led ≤ c
      · have HE2 : Hid (compF (m + 1) R led = []) := by show _ = _; rw [HE.out, if_pos e2]
        have hbe : (led : Int) ≤ (c : Int) := by omega
        rw [HE2.out]
        go_enter Tryd.func21, Tryd.ntmps21
        go_upto_region 1 with fail
        rw [HG.out.1, HG.out.2]
        go_wp2_with (first
          | (go_at_call 41; refine hho.mono ?_; rintro e V ⟨rfl, hV⟩; have HV := Hid.mk' hV; have p0 := (hV.cell (p := ⟨bx, 0, none⟩) (cell_lt q0)).trans q0; clear hho hV)
          | fail)
        refine bodyPost_ret (v := .tuple #[]) ?_ rfl ⟨rfl, vo, us, by rw [List.filter_nil, List.append_nil]; exact HC.out.below HV.out, Fr.of_below _ (HB0.out.trans (HV.out.mono HB0.out.size))⟩
        simp [results, Tryd.f21, go_sem]
      · obtain ⟨K, hK⟩ : ∃ K, min (led + 1) N = K := ⟨_, rfl⟩
        have HE2 : Hid (compF (m + 1) R led = (List.range K).flatMap (wayF m R led c x)) := by show _ = _; rw [HE.out, if_neg e2, hK]
        have hKN : K ≤ N := by omega
        have hmin : min ((led : Int) + 1) (N : Int) = (K : Int) := by omega
        have hbe : ¬ (led : Int) ≤ (c : Int) := by omega
        have HB2 : Hid (L.length + ((List.range K).flatMap (wayF m R led c x)).length ≤ 100000) := by have := HB.out; rw [HE2.out] at this; exact this
        rw [HE2.out]
        clear hK
        rcases Nat.lt_or_ge N (led + 1) with hNl | hNl
        · obtain rfl : N = K := by omega
          have hy0 : (N : Int) < (led : Int) + 1 := by omega
          go_enter Tryd.func21, Tryd.ntmps21
          go_upto_region 1 with fail
          rw [HG.out.1, HG.out.2]
          go_wp2_with (first
            | (go_at_call 41; refine hho.mono ?_; rintro e V ⟨rfl, hV⟩; have HV := Hid.mk' hV; have p0 := (hV.cell (p := ⟨bx, 0, none⟩) (cell_lt q0)).trans q0; clear hho hV)
            | fail)
          have HC1 := Hid.mk' (HC.out.below HV.out)
          go_loopw [43] (fun p W => ∃ (k : Nat) (v1 : Value) (u1 : List Value), k ≤ N ∧ p = .int .i64 (k : Int) ∧ Hid (CIn B n gb O vr rels G cG rb W R (L ++ ((List.range k).flatMap (wayF m R led c x)).filter (keepsB rels)) v1 u1 ∧ Fr N O rb V vo W v1)) (fun p _ => N - (intOf p).toNat)
          case atStart => exact ⟨0, vo, us, by omega, rfl, by show CIn B n gb O vr rels G cG rb V R (L ++ []) vo us; rw [List.append_nil]; exact HC1.out, Fr.refl _ _ _ _ _⟩
          case round =>
            obtain ⟨k, v1, u1, hk, rfl, HK⟩ := hrel
            by_cases hkK : k < N
            · have hkR : k < R.length := by rw [HN.out]; omega
              have hkN : k < N := by omega
              have hby := back_lt HA.out.hx
              have pb : wr.cell? ⟨bx, 0, none⟩ = some (.slice (some ⟨G, 0, none⟩) N cG) := (World.cell?_of_block (a := ⟨bx, 0, none⟩) (HK.out.2.keep bx (cell_lt p0) HXX.out.1 (by rw [← HN.out]; exact HXX.out.2.1) HXX.out.2.2.1)).trans p0
              have pr := HK.out.1.tb.row_at hkR
              have pe := HK.out.1.tb.ent_at hkR hby
              have hbk : ∀ q, Calls Tryd.prog 42 #[.int .i64 (x : Int)] (wr.drewN q) fun e w' => e = .returned (.int .i64 (backN x : Int)) ∧ w' = wr.drewN q := fun q => back_ x (by have := HA.out.hx; omega) _
              have HBX : Hid (∀ W, (∃ v, Fr N O rb wr v1 W v) → W.cell? ⟨bx, 0, none⟩ = some (.slice (some ⟨G, 0, none⟩) N cG)) := fun W hW => by
                obtain ⟨v, hW⟩ := hW
                refine (World.cell?_of_block (a := ⟨bx, 0, none⟩) (hW.keep bx (cell_lt pb) HXX.out.1 (by rw [← HN.out]; exact HXX.out.2.1) fun e => ?_)).trans pb
                rcases HK.out.2.nb with h9 | ⟨b, h8, h9⟩
                · exact HXX.out.2.2.1 (e.trans h9)
                · rw [h8] at e
                  have h7 := cell_lt p0
                  have := Option.some.inj e
                  simp only at h7
                  omega
              have HWAY : Hid ((List.range (k + 1)).flatMap (wayF m R led c x) = (List.range k).flatMap (wayF m R led c x) ++ wayF m R led c x k) := flat_succ _ _
              obtain ⟨m2, hm2⟩ : ∃ m2, 2 * n = m2 := ⟨_, rfl⟩
              obtain ⟨y, hy⟩ : ∃ y, backN x = y := ⟨_, rfl⟩
              obtain ⟨ev, hev⟩ : ∃ ev, ent R k y = ev := ⟨_, rfl⟩
              have HY : Hid (backN x = y ∧ ent R k y = ev) := ⟨hy, hev⟩
              rw [hy] at pe hby hbk
              rw [hev] at pe
              rw [hm2] at pr hby
              have z0 : (0 : Int) ≤ (k : Int) := by omega
              have z1 : (k : Int) < (N : Int) := by omega
              have z2 : (0 : Int) ≤ (y : Int) := by omega
              have z3 : (y : Int) < (m2 : Int) := by omega
              have HM2 : Hid (2 * n = m2) := hm2
              clear hm2 hy hev hkR
              by_cases ee : ev = -1
              · have HWK : Hid (wayF m R led c x k = compF m (setP R c x k) (max led (k + 1))) := by show _ = _; unfold wayF; rw [HY.out.1, HY.out.2, if_pos ee]
                subst ee
                obtain ⟨le2, hle2⟩ : ∃ le2, max led (k + 1) = le2 := ⟨_, rfl⟩
                have hl1 : 1 ≤ le2 := by omega
                have hl2 : le2 ≤ N := by omega
                rw [hle2] at HWK
                go_wp2_with fail
                go_quiet (refine Calls.quiet_of_same (hbk _))
                obtain ⟨Wq, hWq⟩ : ∃ Wq, wr.drewN nq = Wq := ⟨_, rfl⟩
                have HQ : Hid (Below wr.heap.size wr Wq) := by rw [← hWq]; exact below_drewN _ _
                rw [hWq]
                clear hWq hbk
                have HCQ := Hid.mk' (HK.out.1.below HQ.out)
                have pq := HBX.out Wq ⟨v1, Fr.of_below _ HQ.out⟩
                have hset := setT_ c x k Wq HCQ.out.tb HA.out.hc (by rw [HN.out]; exact hkN) HA.out.hx hn
                rw [HN.out] at hset
                have HS1 : Hid (∀ V1, TbIn B n V1 (putE (putE R c x (k : Int)) k (backN x) (c : Int)) G cG rb → Kp B (fun b => ∀ k, k < N → b ≠ rb k) Wq V1 → V1.cell? ⟨bx, 0, none⟩ = some (.slice (some ⟨G, 0, none⟩) N cG) ∧ Calls Tryd.prog 21 #[.agg #[.slice (some ⟨G, 0, none⟩) N cG], .int .i64 (le2 : Int), .func (.func 22) #[] #[.pointer (some ⟨gb, 0, none⟩), .pointer (some ⟨O, 0, none⟩)]] V1 fun e w' => e = .returned (.tuple #[]) ∧ ∃ vo' us', CIn B n gb O vr rels G cG rb w' (setP R c x k) (L ++ ((List.range (k + 1)).flatMap (wayF m R led c x)).filter (keepsB rels)) vo' us' ∧ Fr N O rb wr v1 w' vo') := fun V1 hT1 hK1 => by
                  have hF1 : Fr N O rb wr v1 V1 v1 := (Fr.of_below _ HQ.out).trans (Fr.of_kp _ hK1)
                  refine ⟨HBX.out V1 ⟨v1, hF1⟩, ?_⟩
                  have hC1 := HCQ.out.set (R' := setP R c x k) (setP_len _ _ _ _) hT1 (by rw [HN.out]; exact hK1)
                  have hkR : k < R.length := by rw [HN.out]; exact hkN
                  have h9 := ih (setP R c x k) le2 _ v1 u1 V1 hC1 (HST.out k hkR) (HR.out.set HW.out HA.out.hc HA.out.hx hkR) hl1 (by rw [setP_len, HN.out]; exact hl2) (by
                    have h5 := HB2.out
                    have h6 := flat_upto (wayF m R led c x) (show k + 1 ≤ N by omega)
                    rw [HWAY.out, List.length_append, HWK.out] at h6
                    have h7 := List.length_filter_le (keepsB rels) ((List.range k).flatMap (wayF m R led c x))
                    rw [List.length_append]
                    omega)
                  rw [setP_len, HN.out] at h9
                  refine h9.mono fun e w' hh => ⟨hh.1, ?_⟩
                  obtain ⟨vo', us', g1, g2⟩ := hh.2
                  refine ⟨vo', us', ?_, hF1.trans g2⟩
                  rw [HWAY.out, List.filter_append, HWK.out, ← List.append_assoc]
                  exact g1
                have HS2 : Hid (∀ (V1 V2 : World) (v2 : Value) (u2 : List Value), V1.cell? ⟨bx, 0, none⟩ = some (.slice (some ⟨G, 0, none⟩) N cG) → CIn B n gb O vr rels G cG rb V2 (setP R c x k) (L ++ ((List.range (k + 1)).flatMap (wayF m R led c x)).filter (keepsB rels)) v2 u2 → Fr N O rb wr v1 V2 v2 → V2.cell? ⟨bx, 0, none⟩ = some (.slice (some ⟨G, 0, none⟩) N cG) ∧ Calls Tryd.prog 44 #[.agg #[.slice (some ⟨G, 0, none⟩) N cG], .int .i64 (c : Int), .int .i64 (x : Int), .int .i64 (k : Int)] V2 fun e w' => e = .returned (.tuple #[]) ∧ ∃ vo' us', CIn B n gb O vr rels G cG rb w' R (L ++ ((List.range (k + 1)).flatMap (wayF m R led c x)).filter (keepsB rels)) vo' us' ∧ Fr N O rb wr v1 w' vo') := fun V1 V2 v2 u2 _ hC2 hF2 => by
                  refine ⟨HBX.out V2 ⟨v2, hF2⟩, ?_⟩
                  have hkR : k < R.length := by rw [HN.out]; exact hkN
                  have h9 := unsetT_ c x k V2 hC2.tb (by rw [setP_len]; exact HA.out.hc) (by rw [setP_len]; exact hkR) HA.out.hx hn
                  rw [setP_len, HN.out, unsetP HW.out HA.out.hc HA.out.hx hkR HA.out.at_ (by rw [HY.out.1, HY.out.2])] at h9
                  refine h9.mono fun e w' hh => ⟨hh.1, v2, u2, ?_, hF2.trans (Fr.of_kp _ hh.2.2)⟩
                  exact hC2.set (R' := R) (setP_len _ _ _ _).symm hh.2.1 (by rw [setP_len, HN.out]; exact hh.2.2)
                have hcx : (0 : Int) ≤ (c : Int) := by omega
                rcases Nat.lt_or_ge led (k + 1) with hlk | hlk
                · obtain rfl : le2 = k + 1 := by omega
                  have hy1 : (led : Int) < (k : Int) + 1 := by omega
                  have hy2 : ¬ ((k : Int) + 1 ≤ (led : Int)) := by omega
                  go_wp2_with (first
                    | (go_at_call 43; refine hset.mono ?_; rintro e V1 ⟨rfl, hT1, hK1⟩; have H1 := Hid.mk' (HS1.out V1 hT1 hK1); have p1 := H1.out.1; have hco := H1.out.2; clear hset hT1 hK1)
                    | (go_at_call 21; refine hco.mono ?_; rintro e V2 ⟨rfl, v2, u2, hC2, hF2⟩; have H2 := Hid.mk' (HS2.out V1 V2 v2 u2 H1.out.1 hC2 hF2); have p2 := H2.out.1; have hun := H2.out.2; clear hco hC2 hF2)
                    | (go_at_call 44; refine hun.mono ?_; rintro e V3 ⟨rfl, v3, u3, hC3, hF3⟩; have H3 := Hid.mk' (And.intro hC3 hF3); clear hun hC3 hF3)
                    | fail)
                  go_roundw
                  case rel => exact ⟨k + 1, v3, u3, by omega, by go_num, H3.out.1, HK.out.2.trans H3.out.2⟩
                  case measure => simp [intOf]; omega
                · obtain rfl : le2 = led := by omega
                  have hy1 : ¬ ((le2 : Int) < (k : Int) + 1) := by omega
                  have hy2 : (k : Int) + 1 ≤ (le2 : Int) := by omega
                  go_wp2_with (first
                    | (go_at_call 43; refine hset.mono ?_; rintro e V1 ⟨rfl, hT1, hK1⟩; have H1 := Hid.mk' (HS1.out V1 hT1 hK1); have p1 := H1.out.1; have hco := H1.out.2; clear hset hT1 hK1)
                    | (go_at_call 21; refine hco.mono ?_; rintro e V2 ⟨rfl, v2, u2, hC2, hF2⟩; have H2 := Hid.mk' (HS2.out V1 V2 v2 u2 H1.out.1 hC2 hF2); have p2 := H2.out.1; have hun := H2.out.2; clear hco hC2 hF2)
                    | (go_at_call 44; refine hun.mono ?_; rintro e V3 ⟨rfl, v3, u3, hC3, hF3⟩; have H3 := Hid.mk' (And.intro hC3 hF3); clear hun hC3 hF3)
                    | fail)
                  go_roundw
                  case rel => exact ⟨k + 1, v3, u3, by omega, by go_num, H3.out.1, HK.out.2.trans H3.out.2⟩
                  case measure => simp [intOf]; omega
              · have HWK : Hid (wayF m R led c x k = []) := by show _ = _; unfold wayF; rw [HY.out.1, HY.out.2, if_neg ee]
                have hbe2 : (ev == -1) = false := beq_false_of_ne ee
                go_wp2_with fail
                go_quiet (refine Calls.quiet_of_same (hbk _))
                go_wp2
                go_roundw
                case rel =>
                  refine ⟨k + 1, v1, u1, by omega, by go_num, ?_, HK.out.2.trans (Fr.of_below _ (below_drewN _ _))⟩
                  rw [HWAY.out, HWK.out, List.append_nil]
                  exact HK.out.1.below (below_drewN _ _)
                case measure => simp [intOf]; omega
            · obtain rfl : k = N := by omega
              go_wp2_with fail
              refine bodyPost_end (v := .tuple #[]) ?_ rfl ⟨rfl, v1, u1, HK.out.1, (Fr.of_below _ (HB0.out.trans (HV.out.mono HB0.out.size))).trans HK.out.2⟩
              simp [results, Tryd.f21, go_sem]
        · have hl1 : (led : Int) + 1 = (K : Int) := by omega
          have hy0 : ¬ ((N : Int) < (K : Int)) := by omega
          have hy4 : (K : Int) ≤ (N : Int) := by omega
          go_enter Tryd.func21, Tryd.ntmps21
          go_upto_region 1 with fail
          rw [HG.out.1, HG.out.2]
          go_wp2_with (first
            | (go_at_call 41; refine hho.mono ?_; rintro e V ⟨rfl, hV⟩; have HV := Hid.mk' hV; have p0 := (hV.cell (p := ⟨bx, 0, none⟩) (cell_lt q0)).trans q0; clear hho hV)
            | fail)
          have HC1 := Hid.mk' (HC.out.below HV.out)
          go_loopw [43] (fun p W => ∃ (k : Nat) (v1 : Value) (u1 : List Value), k ≤ K ∧ p = .int .i64 (k : Int) ∧ Hid (CIn B n gb O vr rels G cG rb W R (L ++ ((List.range k).flatMap (wayF m R led c x)).filter (keepsB rels)) v1 u1 ∧ Fr N O rb V vo W v1)) (fun p _ => K - (intOf p).toNat)
          case atStart => exact ⟨0, vo, us, by omega, rfl, by show CIn B n gb O vr rels G cG rb V R (L ++ []) vo us; rw [List.append_nil]; exact HC1.out, Fr.refl _ _ _ _ _⟩
          case round =>
            obtain ⟨k, v1, u1, hk, rfl, HK⟩ := hrel
            by_cases hkK : k < K
            · have hkR : k < R.length := by rw [HN.out]; omega
              have hkN : k < N := by omega
              have hby := back_lt HA.out.hx
              have pb : wr.cell? ⟨bx, 0, none⟩ = some (.slice (some ⟨G, 0, none⟩) N cG) := (World.cell?_of_block (a := ⟨bx, 0, none⟩) (HK.out.2.keep bx (cell_lt p0) HXX.out.1 (by rw [← HN.out]; exact HXX.out.2.1) HXX.out.2.2.1)).trans p0
              have pr := HK.out.1.tb.row_at hkR
              have pe := HK.out.1.tb.ent_at hkR hby
              have hbk : ∀ q, Calls Tryd.prog 42 #[.int .i64 (x : Int)] (wr.drewN q) fun e w' => e = .returned (.int .i64 (backN x : Int)) ∧ w' = wr.drewN q := fun q => back_ x (by have := HA.out.hx; omega) _
              have HBX : Hid (∀ W, (∃ v, Fr N O rb wr v1 W v) → W.cell? ⟨bx, 0, none⟩ = some (.slice (some ⟨G, 0, none⟩) N cG)) := fun W hW => by
                obtain ⟨v, hW⟩ := hW
                refine (World.cell?_of_block (a := ⟨bx, 0, none⟩) (hW.keep bx (cell_lt pb) HXX.out.1 (by rw [← HN.out]; exact HXX.out.2.1) fun e => ?_)).trans pb
                rcases HK.out.2.nb with h9 | ⟨b, h8, h9⟩
                · exact HXX.out.2.2.1 (e.trans h9)
                · rw [h8] at e
                  have h7 := cell_lt p0
                  have := Option.some.inj e
                  simp only at h7
                  omega
              have HWAY : Hid ((List.range (k + 1)).flatMap (wayF m R led c x) = (List.range k).flatMap (wayF m R led c x) ++ wayF m R led c x k) := flat_succ _ _
              obtain ⟨m2, hm2⟩ : ∃ m2, 2 * n = m2 := ⟨_, rfl⟩
              obtain ⟨y, hy⟩ : ∃ y, backN x = y := ⟨_, rfl⟩
              obtain ⟨ev, hev⟩ : ∃ ev, ent R k y = ev := ⟨_, rfl⟩
              have HY : Hid (backN x = y ∧ ent R k y = ev) := ⟨hy, hev⟩
              rw [hy] at pe hby hbk
              rw [hev] at pe
              rw [hm2] at pr hby
              have z0 : (0 : Int) ≤ (k : Int) := by omega
              have z1 : (k : Int) < (N : Int) := by omega
              have z2 : (0 : Int) ≤ (y : Int) := by omega
              have z3 : (y : Int) < (m2 : Int) := by omega
              have HM2 : Hid (2 * n = m2) := hm2
              clear hm2 hy hev hkR
              by_cases ee : ev = -1
              · have HWK : Hid (wayF m R led c x k = compF m (setP R c x k) (max led (k + 1))) := by show _ = _; unfold wayF; rw [HY.out.1, HY.out.2, if_pos ee]
                subst ee
                obtain ⟨le2, hle2⟩ : ∃ le2, max led (k + 1) = le2 := ⟨_, rfl⟩
                have hl1 : 1 ≤ le2 := by omega
                have hl2 : le2 ≤ N := by omega
                rw [hle2] at HWK
                go_wp2_with fail
                go_quiet (refine Calls.quiet_of_same (hbk _))
                obtain ⟨Wq, hWq⟩ : ∃ Wq, wr.drewN nq = Wq := ⟨_, rfl⟩
                have HQ : Hid (Below wr.heap.size wr Wq) := by rw [← hWq]; exact below_drewN _ _
                rw [hWq]
                clear hWq hbk
                have HCQ := Hid.mk' (HK.out.1.below HQ.out)
                have pq := HBX.out Wq ⟨v1, Fr.of_below _ HQ.out⟩
                have hset := setT_ c x k Wq HCQ.out.tb HA.out.hc (by rw [HN.out]; exact hkN) HA.out.hx hn
                rw [HN.out] at hset
                have HS1 : Hid (∀ V1, TbIn B n V1 (putE (putE R c x (k : Int)) k (backN x) (c : Int)) G cG rb → Kp B (fun b => ∀ k, k < N → b ≠ rb k) Wq V1 → V1.cell? ⟨bx, 0, none⟩ = some (.slice (some ⟨G, 0, none⟩) N cG) ∧ Calls Tryd.prog 21 #[.agg #[.slice (some ⟨G, 0, none⟩) N cG], .int .i64 (le2 : Int), .func (.func 22) #[] #[.pointer (some ⟨gb, 0, none⟩), .pointer (some ⟨O, 0, none⟩)]] V1 fun e w' => e = .returned (.tuple #[]) ∧ ∃ vo' us', CIn B n gb O vr rels G cG rb w' (setP R c x k) (L ++ ((List.range (k + 1)).flatMap (wayF m R led c x)).filter (keepsB rels)) vo' us' ∧ Fr N O rb wr v1 w' vo') := fun V1 hT1 hK1 => by
                  have hF1 : Fr N O rb wr v1 V1 v1 := (Fr.of_below _ HQ.out).trans (Fr.of_kp _ hK1)
                  refine ⟨HBX.out V1 ⟨v1, hF1⟩, ?_⟩
                  have hC1 := HCQ.out.set (R' := setP R c x k) (setP_len _ _ _ _) hT1 (by rw [HN.out]; exact hK1)
                  have hkR : k < R.length := by rw [HN.out]; exact hkN
                  have h9 := ih (setP R c x k) le2 _ v1 u1 V1 hC1 (HST.out k hkR) (HR.out.set HW.out HA.out.hc HA.out.hx hkR) hl1 (by rw [setP_len, HN.out]; exact hl2) (by
                    have h5 := HB2.out
                    have h6 := flat_upto (wayF m R led c x) (show k + 1 ≤ K by omega)
                    rw [HWAY.out, List.length_append, HWK.out] at h6
                    have h7 := List.length_filter_le (keepsB rels) ((List.range k).flatMap (wayF m R led c x))
                    rw [List.length_append]
                    omega)
                  rw [setP_len, HN.out] at h9
                  refine h9.mono fun e w' hh => ⟨hh.1, ?_⟩
                  obtain ⟨vo', us', g1, g2⟩ := hh.2
                  refine ⟨vo', us', ?_, hF1.trans g2⟩
                  rw [HWAY.out, List.filter_append, HWK.out, ← List.append_assoc]
                  exact g1
                have HS2 : Hid (∀ (V1 V2 : World) (v2 : Value) (u2 : List Value), V1.cell? ⟨bx, 0, none⟩ = some (.slice (some ⟨G, 0, none⟩) N cG) → CIn B n gb O vr rels G cG rb V2 (setP R c x k) (L ++ ((List.range (k + 1)).flatMap (wayF m R led c x)).filter (keepsB rels)) v2 u2 → Fr N O rb wr v1 V2 v2 → V2.cell? ⟨bx, 0, none⟩ = some (.slice (some ⟨G, 0, none⟩) N cG) ∧ Calls Tryd.prog 44 #[.agg #[.slice (some ⟨G, 0, none⟩) N cG], .int .i64 (c : Int), .int .i64 (x : Int), .int .i64 (k : Int)] V2 fun e w' => e = .returned (.tuple #[]) ∧ ∃ vo' us', CIn B n gb O vr rels G cG rb w' R (L ++ ((List.range (k + 1)).flatMap (wayF m R led c x)).filter (keepsB rels)) vo' us' ∧ Fr N O rb wr v1 w' vo') := fun V1 V2 v2 u2 _ hC2 hF2 => by
                  refine ⟨HBX.out V2 ⟨v2, hF2⟩, ?_⟩
                  have hkR : k < R.length := by rw [HN.out]; exact hkN
                  have h9 := unsetT_ c x k V2 hC2.tb (by rw [setP_len]; exact HA.out.hc) (by rw [setP_len]; exact hkR) HA.out.hx hn
                  rw [setP_len, HN.out, unsetP HW.out HA.out.hc HA.out.hx hkR HA.out.at_ (by rw [HY.out.1, HY.out.2])] at h9
                  refine h9.mono fun e w' hh => ⟨hh.1, v2, u2, ?_, hF2.trans (Fr.of_kp _ hh.2.2)⟩
                  exact hC2.set (R' := R) (setP_len _ _ _ _).symm hh.2.1 (by rw [setP_len, HN.out]; exact hh.2.2)
                have hcx : (0 : Int) ≤ (c : Int) := by omega
                rcases Nat.lt_or_ge led (k + 1) with hlk | hlk
                · obtain rfl : le2 = k + 1 := by omega
                  have hy1 : (led : Int) < (k : Int) + 1 := by omega
                  have hy2 : ¬ ((k : Int) + 1 ≤ (led : Int)) := by omega
                  go_wp2_with (first
                    | (go_at_call 43; refine hset.mono ?_; rintro e V1 ⟨rfl, hT1, hK1⟩; have H1 := Hid.mk' (HS1.out V1 hT1 hK1); have p1 := H1.out.1; have hco := H1.out.2; clear hset hT1 hK1)
                    | (go_at_call 21; refine hco.mono ?_; rintro e V2 ⟨rfl, v2, u2, hC2, hF2⟩; have H2 := Hid.mk' (HS2.out V1 V2 v2 u2 H1.out.1 hC2 hF2); have p2 := H2.out.1; have hun := H2.out.2; clear hco hC2 hF2)
                    | (go_at_call 44; refine hun.mono ?_; rintro e V3 ⟨rfl, v3, u3, hC3, hF3⟩; have H3 := Hid.mk' (And.intro hC3 hF3); clear hun hC3 hF3)
                    | fail)
                  go_roundw
                  case rel => exact ⟨k + 1, v3, u3, by omega, by go_num, H3.out.1, HK.out.2.trans H3.out.2⟩
                  case measure => simp [intOf]; omega
                · obtain rfl : le2 = led := by omega
                  have hy1 : ¬ ((le2 : Int) < (k : Int) + 1) := by omega
                  have hy2 : (k : Int) + 1 ≤ (le2 : Int) := by omega
                  go_wp2_with (first
                    | (go_at_call 43; refine hset.mono ?_; rintro e V1 ⟨rfl, hT1, hK1⟩; have H1 := Hid.mk' (HS1.out V1 hT1 hK1); have p1 := H1.out.1; have hco := H1.out.2; clear hset hT1 hK1)
                    | (go_at_call 21; refine hco.mono ?_; rintro e V2 ⟨rfl, v2, u2, hC2, hF2⟩; have H2 := Hid.mk' (HS2.out V1 V2 v2 u2 H1.out.1 hC2 hF2); have p2 := H2.out.1; have hun := H2.out.2; clear hco hC2 hF2)
                    | (go_at_call 44; refine hun.mono ?_; rintro e V3 ⟨rfl, v3, u3, hC3, hF3⟩; have H3 := Hid.mk' (And.intro hC3 hF3); clear hun hC3 hF3)
                    | fail)
                  go_roundw
                  case rel => exact ⟨k + 1, v3, u3, by omega, by go_num, H3.out.1, HK.out.2.trans H3.out.2⟩
                  case measure => simp [intOf]; omega
              · have HWK : Hid (wayF m R led c x k = []) := by show _ = _; unfold wayF; rw [HY.out.1, HY.out.2, if_neg ee]
                have hbe2 : (ev == -1) = false := beq_false_of_ne ee
                go_wp2_with fail
                go_quiet (refine Calls.quiet_of_same (hbk _))
                go_wp2
                go_roundw
                case rel =>
                  refine ⟨k + 1, v1, u1, by omega, by go_num, ?_, HK.out.2.trans (Fr.of_below _ (below_drewN _ _))⟩
                  rw [HWAY.out, HWK.out, List.append_nil]
                  exact HK.out.1.below (below_drewN _ _)
                case measure => simp [intOf]; omega
            · obtain rfl : k = K := by omega
              go_wp2_with fail
              refine bodyPost_end (v := .tuple #[]) ?_ rfl ⟨rfl, v1, u1, HK.out.1, (Fr.of_below _ (HB0.out.trans (HV.out.mono HB0.out.size))).trans HK.out.2⟩
              simp [results, Tryd.f21, go_sem]

end Go.Proofs.YtmaopnbnbiediaaDoor
