/- A group's error by the reference; whether something is said of it. -/
import Derived.Test.YtmaopnbnbiediaaDoorGrpRef
namespace Go.Proofs.YtmaopnbnbiediaaDoor
open Go.RowKit Go.Sort

def geBound (n : Int) (rels : List (List Int)) : Prop := n < 0 ∨ 12 < n ∨ 400 < rels.flatten.length ∨ 400 < rels.length
instance (n : Int) (rels : List (List Int)) : Decidable (geBound n rels) := by unfold geBound; infer_instance
def geP (n : Int) (rels : List (List Int)) : Int := if geBound n rels then 2 else if LettersIn n.toNat rels.flatten then 0 else 3
theorem flat_in (n : Nat) (wss : List (List Int)) : LettersIn n wss.flatten ↔ ∀ ws ∈ wss, LettersIn n ws := by
  constructor
  · intro h ws hws l hl
    exact h l (List.mem_flatten.2 ⟨ws, hws, hl⟩)
  · intro h l hl
    obtain ⟨ws, h1, h2⟩ := List.mem_flatten.1 hl
    exact h ws h1 l h2

/-- Words of which letters are made. -/
structure UpAt (w : World) (v : Value) (wss : List (List Int)) : Prop where
  rows : Rows w v wss
  few : wss.length ≤ 1100000
  short : wss.flatten.length ≤ 1100000
theorem UpAt.below {w w' : World} {v : Value} {wss : List (List Int)} (h : UpAt w v wss) (hB : Below w.heap.size w w') : UpAt w' v wss := ⟨h.rows.below hB, h.few, h.short⟩

set_option maxRecDepth 100000 in
set_option maxHeartbeats 4000000 in
theorem groupError_ (n : Int) (vr : Value) (rels : List (List Int)) (w : World) (h : UpAt w vr rels) :
    Calls Tryd.prog 6 #[.agg #[.int .i64 n, vr]] w fun e w' => e = .returned (.int .i64 (geP n rels)) ∧ Below w.heap.size w w' := by
  have HU := Hid.mk' h
  obtain ⟨ar, cr, rfl, -, -⟩ := h.rows.open_
  have hBa : Below w.heap.size w (w.alloc (.cells #[.int .i64 n, .slice ar rels.length cr] 24)) := (Below.refl _ w).alloc (Nat.le_refl _) _
  have hnew := cells_new w [.int .i64 n, .slice ar rels.length cr] 24
  have q0 := hnew 0 _ rfl
  have q1 := hnew 1 _ rfl
  rw [Addr.add_lit, Nat.zero_add] at q0 q1
  obtain ⟨W0, hW0⟩ : ∃ W0, w.alloc (.cells #[.int .i64 n, .slice ar rels.length cr] 24) = W0 := ⟨_, rfl⟩
  obtain ⟨gb, hgb⟩ : ∃ gb, w.heap.size = gb := ⟨_, rfl⟩
  rw [show (List.toArray [Value.int .i64 n, .slice ar rels.length cr]) = #[.int .i64 n, .slice ar rels.length cr] from rfl, hW0, hgb] at q0 q1
  have HB0 : Hid (Below w.heap.size w W0) := by rw [← hW0]; exact hBa
  have HG : Hid (w.alloc (.cells #[.int .i64 n, .slice ar rels.length cr] 24) = W0 ∧ w.heap.size = gb) := ⟨hW0, hgb⟩
  have hle : Calls Tryd.prog 15 #[.slice ar rels.length cr] W0 fun e w' => ∃ au cu, e = .returned (.slice au rels.flatten.length cu) ∧ Ints w' (.slice au rels.flatten.length cu) rels.flatten ∧ Below W0.heap.size W0 w' := (letters_ (.slice ar rels.length cr) rels W0 (h.rows.below HB0.out) h.few h.short).mono fun e w' hh => by
    obtain ⟨u, rfl, hi, hb⟩ := hh
    obtain ⟨au, cu, rfl, -, -⟩ := hi.open_
    exact ⟨au, cu, rfl, hi, hb⟩
  have hf1 := h.few
  have hf2 := h.short
  obtain ⟨lr, hlr⟩ : ∃ lr, rels.length = lr := ⟨_, rfl⟩
  obtain ⟨tot, htt⟩ : ∃ tot, rels.flatten.length = tot := ⟨_, rfl⟩
  have HLT : Hid (rels.length = lr ∧ rels.flatten.length = tot) := ⟨hlr, htt⟩
  have hge : ((n < 0 ∨ 12 < n ∨ 400 < tot ∨ 400 < lr) → geP n rels = 2) ∧ (¬ (n < 0 ∨ 12 < n ∨ 400 < tot ∨ 400 < lr) → (LettersIn n.toNat rels.flatten → geP n rels = 0) ∧ (¬ LettersIn n.toNat rels.flatten → geP n rels = 3)) := by
    have hb : geBound n rels ↔ (n < 0 ∨ 12 < n ∨ 400 < tot ∨ 400 < lr) := by unfold geBound; rw [hlr, htt]
    unfold geP
    refine ⟨fun k => if_pos (hb.2 k), fun k => ⟨fun k2 => ?_, fun k2 => ?_⟩⟩
    · rw [if_neg (fun k3 => k (hb.1 k3)), if_pos k2]
    · rw [if_neg (fun k3 => k (hb.1 k3)), if_neg k2]
  obtain ⟨R, hR⟩ : ∃ R, geP n rels = R := ⟨_, rfl⟩
  rw [hR] at hge ⊢
  have HGE := Hid.mk' hge
  rw [hlr] at q1 hle HG hf1 ⊢
  rw [htt] at hf2 hle
  clear h hBa hnew hW0 hgb hlr htt hge hR HU
  go_enter Tryd.func6, Tryd.ntmps6
  go_upto_region 1 with fail
  rw [HG.out.1, HG.out.2]
  go_upto_region 2 with (go_at_call 15; refine hle.mono ?_; rintro e V1 ⟨au, cu, rfl, hi, hb⟩; have H1 := Hid.mk' (And.intro hi hb); clear hi hb hle)
  have HBV : Hid (Below w.heap.size w V1) := HB0.out.trans (H1.out.2.mono HB0.out.size)
  have r0 := (H1.out.2.cell (p := ⟨gb, 0, none⟩) (cell_lt q0)).trans q0
  have r1 := (H1.out.2.cell (p := ⟨gb, 1, none⟩) (cell_lt q1)).trans q1
  clear q0 q1
  by_cases e1 : n < 0
  · have HX : Hid (R = 2) := HGE.out.1 (.inl e1)
    go_wp2_with fail
    go_ret
    exact ⟨by rw [HX.out]; rfl, HBV.out⟩
  · by_cases e2 : 12 < n
    · have HX : Hid (R = 2) := HGE.out.1 (.inr (.inl e2))
      go_wp2_with fail
      go_ret
      exact ⟨by rw [HX.out]; rfl, HBV.out⟩
    · by_cases e3 : 400 < tot
      · have HX : Hid (R = 2) := HGE.out.1 (.inr (.inr (.inl e3)))
        have y3 : (400 : Int) < (tot : Int) := by omega
        go_wp2_with fail
        go_ret
        exact ⟨by rw [HX.out]; rfl, HBV.out⟩
      · by_cases e4 : 400 < lr
        · have HX : Hid (R = 2) := HGE.out.1 (.inr (.inr (.inr e4)))
          go_wp2_with fail
          go_ret
          exact ⟨by rw [HX.out]; rfl, HBV.out⟩
        · obtain ⟨nn, rfl⟩ : ∃ nn : Nat, n = (nn : Int) := ⟨n.toNat, by omega⟩
          have hlo := lettersOfRef_ nn (.slice ar lr cr) (.slice au tot cu) rels.flatten V1 H1.out.1 (by rw [HLT.out.2]; omega) (by omega)
          by_cases e5 : LettersIn nn rels.flatten
          · have HX : Hid (R = 0) := (HGE.out.2 (by omega)).1 (by rw [Int.toNat_natCast]; exact e5)
            rw [decide_eq_true e5] at hlo
            clear e5
            go_wp2_with (first
              | (go_at_call 16; refine hlo.mono ?_; rintro e V2 ⟨rfl, hb⟩; have H2 := Hid.mk' hb; clear hb hlo)
              | fail)
            go_ret
            exact ⟨by rw [HX.out]; rfl, HBV.out.trans (H2.out.mono HBV.out.size)⟩
          · have HX : Hid (R = 3) := (HGE.out.2 (by omega)).2 (by rw [Int.toNat_natCast]; exact e5)
            rw [decide_eq_false e5] at hlo
            clear e5
            go_wp2_with (first
              | (go_at_call 16; refine hlo.mono ?_; rintro e V2 ⟨rfl, hb⟩; have H2 := Hid.mk' hb; clear hb hlo)
              | fail)
            go_ret
            exact ⟨by rw [HX.out]; rfl, HBV.out.trans (H2.out.mono HBV.out.size)⟩

/-- A bool that is true only if something is so. -/
def BSays (SP : Prop) (w : World) (e : Ending) (w' : World) : Prop := ∃ b : Bool, e = .returned (.bool b) ∧ (b = true → SP) ∧ Below w.heap.size w w'
theorem BSays.yes {SP : Prop} {w w' : World} (h : SP) (hb : Below w.heap.size w w') : BSays SP w (.returned (.bool true)) w' := ⟨true, rfl, fun _ => h, hb⟩
theorem BSays.no {SP : Prop} {w w' : World} (hb : Below w.heap.size w w') : BSays SP w (.returned (.bool false)) w' := ⟨false, rfl, (fun h => by cases h), hb⟩

def smallP (n : Int) (rels : List (List Int)) : Prop := (n ≤ 5 ∧ rels.flatten.length ≤ 60 ∧ rels.length ≤ 20) ∨ (0 < geP n rels ∧ rels.flatten.length ≤ 1000 ∧ rels.length ≤ 1000)

set_option maxRecDepth 100000 in
set_option maxHeartbeats 4000000 in
theorem small_ (n : Int) (vr : Value) (rels : List (List Int)) (w : World) (h : UpAt w vr rels) :
    Calls Tryd.prog 5 #[.agg #[.int .i64 n, vr]] w fun e w' => BSays (smallP n rels) w e w' := by
  have HU := Hid.mk' h
  obtain ⟨ar, cr, rfl, -, -⟩ := h.rows.open_
  have hBa : Below w.heap.size w (w.alloc (.cells #[.int .i64 n, .slice ar rels.length cr] 24)) := (Below.refl _ w).alloc (Nat.le_refl _) _
  have hnew := cells_new w [.int .i64 n, .slice ar rels.length cr] 24
  have q0 := hnew 0 _ rfl
  have q1 := hnew 1 _ rfl
  rw [Addr.add_lit, Nat.zero_add] at q0 q1
  obtain ⟨W0, hW0⟩ : ∃ W0, w.alloc (.cells #[.int .i64 n, .slice ar rels.length cr] 24) = W0 := ⟨_, rfl⟩
  obtain ⟨gb, hgb⟩ : ∃ gb, w.heap.size = gb := ⟨_, rfl⟩
  rw [show (List.toArray [Value.int .i64 n, .slice ar rels.length cr]) = #[.int .i64 n, .slice ar rels.length cr] from rfl, hW0, hgb] at q0 q1
  have HB0 : Hid (Below w.heap.size w W0) := by rw [← hW0]; exact hBa
  have HG : Hid (w.alloc (.cells #[.int .i64 n, .slice ar rels.length cr] 24) = W0 ∧ w.heap.size = gb) := ⟨hW0, hgb⟩
  have hle : ∀ V, Below W0.heap.size W0 V → Calls Tryd.prog 15 #[.slice ar rels.length cr] V fun e w' => ∃ au cu, e = .returned (.slice au rels.flatten.length cu) ∧ Below W0.heap.size W0 w' := fun V hV => (letters_ (.slice ar rels.length cr) rels V ((h.rows.below HB0.out).below hV) h.few h.short).mono fun e w' hh => by
    obtain ⟨u, rfl, hi, hb⟩ := hh
    obtain ⟨au, cu, rfl, -, -⟩ := hi.open_
    exact ⟨au, cu, rfl, hV.trans (hb.mono hV.size)⟩
  have hge : ∀ V, Below W0.heap.size W0 V → Calls Tryd.prog 6 #[.agg #[.int .i64 n, .slice ar rels.length cr]] V fun e w' => e = .returned (.int .i64 (geP n rels)) ∧ Below W0.heap.size W0 w' := fun V hV => (groupError_ n (.slice ar rels.length cr) rels V ((h.below HB0.out).below hV)).mono fun e w' hh => ⟨hh.1, hV.trans (hh.2.mono hV.size)⟩
  have hf1 := h.few
  have hf2 := h.short
  have HSP : Hid (((n ≤ 5 ∧ rels.flatten.length ≤ 60 ∧ rels.length ≤ 20) → smallP n rels) ∧ ((0 < geP n rels ∧ rels.flatten.length ≤ 1000 ∧ rels.length ≤ 1000) → smallP n rels)) := ⟨.inl, .inr⟩
  obtain ⟨lr, hlr⟩ : ∃ lr, rels.length = lr := ⟨_, rfl⟩
  obtain ⟨tot, htt⟩ : ∃ tot, rels.flatten.length = tot := ⟨_, rfl⟩
  obtain ⟨R, hR⟩ : ∃ R, geP n rels = R := ⟨_, rfl⟩
  obtain ⟨SP, hSP⟩ : ∃ SP, smallP n rels = SP := ⟨_, rfl⟩
  rw [hSP] at HSP ⊢
  rw [hR] at hge HSP
  rw [hlr] at q1 hle hge HG hf1 HSP ⊢
  rw [htt] at hf2 hle HSP
  have HBB : Hid (∀ V, Below W0.heap.size W0 V → Below w.heap.size w V) := fun V hV => HB0.out.trans (hV.mono HB0.out.size)
  have HQ : Hid (∀ V, Below W0.heap.size W0 V → V.cell? ⟨gb, 0, none⟩ = some (.int .i64 n) ∧ V.cell? ⟨gb, 1, none⟩ = some (.slice ar lr cr)) := fun V hV => ⟨(hV.cell (p := ⟨gb, 0, none⟩) (cell_lt q0)).trans q0, (hV.cell (p := ⟨gb, 1, none⟩) (cell_lt q1)).trans q1⟩
  have H0 : Hid (Below W0.heap.size W0 W0) := Below.refl _ _
  clear h hBa hnew hW0 hgb hlr htt hR hSP HU HB0
  by_cases e1 : n ≤ 5 ∧ tot ≤ 60 ∧ lr ≤ 20
  · obtain ⟨e1, e2, e3⟩ := e1
    have y2 : (tot : Int) ≤ 60 := by omega
    have y2b : decide ((tot : Int) ≤ 60) = true := decide_eq_true y2
    have y3 : (lr : Int) ≤ 20 := by omega
    have y3b : decide ((lr : Int) ≤ 20) = true := decide_eq_true y3
    go_enter Tryd.func5, Tryd.ntmps5
    go_upto_region 1 with fail
    rw [HG.out.1, HG.out.2]
    go_wp2_with (first
      | (go_at_call 15; refine (hle _ H0.out).mono ?_; rintro e V1 ⟨au, cu, rfl, hb⟩; have q := HQ.out V1 hb; have q0' := q.1; have q1' := q.2; replace H0 := Hid.mk' hb; clear hb q)
      | fail)
    go_ret
    exact BSays.yes (HSP.out.1 ⟨e1, e2, e3⟩) (HBB.out _ H0.out)
  · by_cases f1 : n ≤ 5
    · by_cases f2 : tot ≤ 60
      · have y2 : (tot : Int) ≤ 60 := by omega
        have y2b : decide ((tot : Int) ≤ 60) = true := decide_eq_true y2
        have y3 : ¬ (lr : Int) ≤ 20 := by omega
        have y3b : decide ((lr : Int) ≤ 20) = false := decide_eq_false y3
        by_cases g1 : 0 < R
        · have g1b : decide (0 < R) = true := decide_eq_true g1
          by_cases g2 : tot ≤ 1000
          · have y4 : (tot : Int) ≤ 1000 := by omega
            have y4b : decide ((tot : Int) ≤ 1000) = true := decide_eq_true y4
            by_cases g3 : lr ≤ 1000
            · have y5 : (lr : Int) ≤ 1000 := by omega
              have y5b : decide ((lr : Int) ≤ 1000) = true := decide_eq_true y5
              go_enter Tryd.func5, Tryd.ntmps5
              go_upto_region 1 with fail
              rw [HG.out.1, HG.out.2]
              go_wp2_with (first
                | (go_at_call 15; refine (hle _ H0.out).mono ?_; rintro e V1 ⟨au, cu, rfl, hb⟩; have q := HQ.out V1 hb; have q0' := q.1; have q1' := q.2; replace H0 := Hid.mk' hb; clear hb q)
                | (go_at_call 6; refine (hge _ H0.out).mono ?_; rintro e V2 ⟨rfl, hb⟩; have q := HQ.out V2 hb; have q0'' := q.1; have q1'' := q.2; replace H0 := Hid.mk' hb; clear hb q)
                | fail)
              go_ret
              exact BSays.yes (HSP.out.2 ⟨g1, g2, g3⟩) (HBB.out _ H0.out)
            · have y5 : ¬ (lr : Int) ≤ 1000 := by omega
              have y5b : decide ((lr : Int) ≤ 1000) = false := decide_eq_false y5
              go_enter Tryd.func5, Tryd.ntmps5
              go_upto_region 1 with fail
              rw [HG.out.1, HG.out.2]
              go_wp2_with (first
                | (go_at_call 15; refine (hle _ H0.out).mono ?_; rintro e V1 ⟨au, cu, rfl, hb⟩; have q := HQ.out V1 hb; have q0' := q.1; have q1' := q.2; replace H0 := Hid.mk' hb; clear hb q)
                | (go_at_call 6; refine (hge _ H0.out).mono ?_; rintro e V2 ⟨rfl, hb⟩; have q := HQ.out V2 hb; have q0'' := q.1; have q1'' := q.2; replace H0 := Hid.mk' hb; clear hb q)
                | fail)
              go_ret
              exact BSays.no (HBB.out _ H0.out)
          · exact absurd (show tot ≤ 1000 by omega) g2
        · have g1b : decide (0 < R) = false := decide_eq_false g1
          go_enter Tryd.func5, Tryd.ntmps5
          go_upto_region 1 with fail
          rw [HG.out.1, HG.out.2]
          go_wp2_with (first
            | (go_at_call 15; refine (hle _ H0.out).mono ?_; rintro e V1 ⟨au, cu, rfl, hb⟩; have q := HQ.out V1 hb; have q0' := q.1; have q1' := q.2; replace H0 := Hid.mk' hb; clear hb q)
            | (go_at_call 6; refine (hge _ H0.out).mono ?_; rintro e V2 ⟨rfl, hb⟩; have q := HQ.out V2 hb; have q0'' := q.1; have q1'' := q.2; replace H0 := Hid.mk' hb; clear hb q)
            | fail)
          go_ret
          exact BSays.no (HBB.out _ H0.out)
      · have y2 : ¬ (tot : Int) ≤ 60 := by omega
        have y2b : decide ((tot : Int) ≤ 60) = false := decide_eq_false y2
        by_cases g1 : 0 < R
        · have g1b : decide (0 < R) = true := decide_eq_true g1
          by_cases g2 : tot ≤ 1000
          · have y4 : (tot : Int) ≤ 1000 := by omega
            have y4b : decide ((tot : Int) ≤ 1000) = true := decide_eq_true y4
            by_cases g3 : lr ≤ 1000
            · have y5 : (lr : Int) ≤ 1000 := by omega
              have y5b : decide ((lr : Int) ≤ 1000) = true := decide_eq_true y5
              go_enter Tryd.func5, Tryd.ntmps5
              go_upto_region 1 with fail
              rw [HG.out.1, HG.out.2]
              go_wp2_with (first
                | (go_at_call 15; refine (hle _ H0.out).mono ?_; rintro e V1 ⟨au, cu, rfl, hb⟩; have q := HQ.out V1 hb; have q0' := q.1; have q1' := q.2; replace H0 := Hid.mk' hb; clear hb q)
                | (go_at_call 6; refine (hge _ H0.out).mono ?_; rintro e V2 ⟨rfl, hb⟩; have q := HQ.out V2 hb; have q0'' := q.1; have q1'' := q.2; replace H0 := Hid.mk' hb; clear hb q)
                | fail)
              go_ret
              exact BSays.yes (HSP.out.2 ⟨g1, g2, g3⟩) (HBB.out _ H0.out)
            · have y5 : ¬ (lr : Int) ≤ 1000 := by omega
              have y5b : decide ((lr : Int) ≤ 1000) = false := decide_eq_false y5
              go_enter Tryd.func5, Tryd.ntmps5
              go_upto_region 1 with fail
              rw [HG.out.1, HG.out.2]
              go_wp2_with (first
                | (go_at_call 15; refine (hle _ H0.out).mono ?_; rintro e V1 ⟨au, cu, rfl, hb⟩; have q := HQ.out V1 hb; have q0' := q.1; have q1' := q.2; replace H0 := Hid.mk' hb; clear hb q)
                | (go_at_call 6; refine (hge _ H0.out).mono ?_; rintro e V2 ⟨rfl, hb⟩; have q := HQ.out V2 hb; have q0'' := q.1; have q1'' := q.2; replace H0 := Hid.mk' hb; clear hb q)
                | fail)
              go_ret
              exact BSays.no (HBB.out _ H0.out)
          · have y4 : ¬ (tot : Int) ≤ 1000 := by omega
            have y4b : decide ((tot : Int) ≤ 1000) = false := decide_eq_false y4
            go_enter Tryd.func5, Tryd.ntmps5
            go_upto_region 1 with fail
            rw [HG.out.1, HG.out.2]
            go_wp2_with (first
              | (go_at_call 15; refine (hle _ H0.out).mono ?_; rintro e V1 ⟨au, cu, rfl, hb⟩; have q := HQ.out V1 hb; have q0' := q.1; have q1' := q.2; replace H0 := Hid.mk' hb; clear hb q)
              | (go_at_call 6; refine (hge _ H0.out).mono ?_; rintro e V2 ⟨rfl, hb⟩; have q := HQ.out V2 hb; have q0'' := q.1; have q1'' := q.2; replace H0 := Hid.mk' hb; clear hb q)
              | fail)
            go_ret
            exact BSays.no (HBB.out _ H0.out)
        · have g1b : decide (0 < R) = false := decide_eq_false g1
          go_enter Tryd.func5, Tryd.ntmps5
          go_upto_region 1 with fail
          rw [HG.out.1, HG.out.2]
          go_wp2_with (first
            | (go_at_call 15; refine (hle _ H0.out).mono ?_; rintro e V1 ⟨au, cu, rfl, hb⟩; have q := HQ.out V1 hb; have q0' := q.1; have q1' := q.2; replace H0 := Hid.mk' hb; clear hb q)
            | (go_at_call 6; refine (hge _ H0.out).mono ?_; rintro e V2 ⟨rfl, hb⟩; have q := HQ.out V2 hb; have q0'' := q.1; have q1'' := q.2; replace H0 := Hid.mk' hb; clear hb q)
            | fail)
          go_ret
          exact BSays.no (HBB.out _ H0.out)
    · by_cases g1 : 0 < R
      · have g1b : decide (0 < R) = true := decide_eq_true g1
        by_cases g2 : tot ≤ 1000
        · have y4 : (tot : Int) ≤ 1000 := by omega
          have y4b : decide ((tot : Int) ≤ 1000) = true := decide_eq_true y4
          by_cases g3 : lr ≤ 1000
          · have y5 : (lr : Int) ≤ 1000 := by omega
            have y5b : decide ((lr : Int) ≤ 1000) = true := decide_eq_true y5
            go_enter Tryd.func5, Tryd.ntmps5
            go_upto_region 1 with fail
            rw [HG.out.1, HG.out.2]
            go_wp2_with (first
              | (go_at_call 15; refine (hle _ H0.out).mono ?_; rintro e V1 ⟨au, cu, rfl, hb⟩; have q := HQ.out V1 hb; have q0' := q.1; have q1' := q.2; replace H0 := Hid.mk' hb; clear hb q)
              | (go_at_call 6; refine (hge _ H0.out).mono ?_; rintro e V2 ⟨rfl, hb⟩; have q := HQ.out V2 hb; have q0'' := q.1; have q1'' := q.2; replace H0 := Hid.mk' hb; clear hb q)
              | fail)
            go_ret
            exact BSays.yes (HSP.out.2 ⟨g1, g2, g3⟩) (HBB.out _ H0.out)
          · have y5 : ¬ (lr : Int) ≤ 1000 := by omega
            have y5b : decide ((lr : Int) ≤ 1000) = false := decide_eq_false y5
            go_enter Tryd.func5, Tryd.ntmps5
            go_upto_region 1 with fail
            rw [HG.out.1, HG.out.2]
            go_wp2_with (first
              | (go_at_call 15; refine (hle _ H0.out).mono ?_; rintro e V1 ⟨au, cu, rfl, hb⟩; have q := HQ.out V1 hb; have q0' := q.1; have q1' := q.2; replace H0 := Hid.mk' hb; clear hb q)
              | (go_at_call 6; refine (hge _ H0.out).mono ?_; rintro e V2 ⟨rfl, hb⟩; have q := HQ.out V2 hb; have q0'' := q.1; have q1'' := q.2; replace H0 := Hid.mk' hb; clear hb q)
              | fail)
            go_ret
            exact BSays.no (HBB.out _ H0.out)
        · have y4 : ¬ (tot : Int) ≤ 1000 := by omega
          have y4b : decide ((tot : Int) ≤ 1000) = false := decide_eq_false y4
          go_enter Tryd.func5, Tryd.ntmps5
          go_upto_region 1 with fail
          rw [HG.out.1, HG.out.2]
          go_wp2_with (first
            | (go_at_call 15; refine (hle _ H0.out).mono ?_; rintro e V1 ⟨au, cu, rfl, hb⟩; have q := HQ.out V1 hb; have q0' := q.1; have q1' := q.2; replace H0 := Hid.mk' hb; clear hb q)
            | (go_at_call 6; refine (hge _ H0.out).mono ?_; rintro e V2 ⟨rfl, hb⟩; have q := HQ.out V2 hb; have q0'' := q.1; have q1'' := q.2; replace H0 := Hid.mk' hb; clear hb q)
            | fail)
          go_ret
          exact BSays.no (HBB.out _ H0.out)
      · have g1b : decide (0 < R) = false := decide_eq_false g1
        go_enter Tryd.func5, Tryd.ntmps5
        go_upto_region 1 with fail
        rw [HG.out.1, HG.out.2]
        go_wp2_with (first
          | (go_at_call 15; refine (hle _ H0.out).mono ?_; rintro e V1 ⟨au, cu, rfl, hb⟩; have q := HQ.out V1 hb; have q0' := q.1; have q1' := q.2; replace H0 := Hid.mk' hb; clear hb q)
          | (go_at_call 6; refine (hge _ H0.out).mono ?_; rintro e V2 ⟨rfl, hb⟩; have q := HQ.out V2 hb; have q0'' := q.1; have q1'' := q.2; replace H0 := Hid.mk' hb; clear hb q)
          | fail)
        go_ret
        exact BSays.no (HBB.out _ H0.out)

end Go.Proofs.YtmaopnbnbiediaaDoor
