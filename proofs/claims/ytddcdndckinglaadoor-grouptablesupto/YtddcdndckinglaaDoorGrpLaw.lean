/- GroupTables answers true of whatever group and words. -/
import Derived.Test.YtddcdndckinglaaDoorGrpThree
import Derived.Test.YtddcdndckinglaaDoorGrpCopy
namespace Go.Proofs.YtddcdndckinglaaDoor
open Go.RowKit Go.Sort

/-- Of all generators there is one coset. -/
def allGens (n : Nat) : List (List Int) := (List.range n).map fun k => [((k + 1 : Nat) : Int)]
theorem allGens_in (n : Nat) : ∀ ws ∈ allGens n, LettersIn n ws := fun ws h l hl => by
  obtain ⟨k, hk, rfl⟩ := List.mem_map.1 h
  have := List.mem_range.1 hk
  rw [List.mem_singleton.1 hl]
  omega
theorem scanR_zero : ∀ (r : List Int) (nx : Nat), 0 < nx → (∀ x ∈ r, x = 0) → scanR nx r = some nx
  | [], nx, _, _ => rfl
  | v :: vs, nx, h, hz => by
    have := hz v (List.mem_cons_self ..)
    subst this
    rw [scanR, if_neg (by omega), if_neg (by omega)]
    exact scanR_zero vs nx h (fun x hx => hz x (List.mem_cons_of_mem _ hx))
theorem one_row {n : Nat} {rels T : List (List Int)} (h : TabOk n rels (allGens n) T) : T.length = 1 := by
  have h1 : ∀ k, k < n → tAt T 0 (2 * k) = 0 := fun k hk => by
    have hw := h.words [((k + 1 : Nat) : Int)] (List.mem_map.2 ⟨k, List.mem_range.2 hk, rfl⟩)
    have hc : colN ((k + 1 : Nat) : Int) = 2 * k := by unfold colN; rw [if_pos (by omega)]; omega
    unfold leadsP leadsP at hw
    rw [hc] at hw
    obtain ⟨v, hv, _⟩ := h.rng 0 (2 * k) h.pos (by omega)
    rw [hv, Int.toNat_natCast] at hw
    rw [hv, hw]; rfl
  have h2 : ∀ x, x < 2 * n → tAt T 0 x = 0 := fun x hx => by
    rcases Nat.mod_two_eq_zero_or_one x with e | e
    · have := h1 (x / 2) (by omega)
      rwa [show 2 * (x / 2) = x by omega] at this
    · have k1 := h1 (x / 2) (by omega)
      have k2 := h.back 0 (2 * (x / 2)) h.pos (by omega)
      rw [k1] at k2
      have k3 : backN (2 * (x / 2)) = x := by unfold backN; rw [if_pos (by omega)]; omega
      rw [k3] at k2
      exact k2
  cases T with
  | nil => exact absurd h.pos (by simp)
  | cons r rs =>
    have hr : ∀ x ∈ r, x = 0 := fun x hx => by
      obtain ⟨j, hj, e⟩ := List.mem_iff_getElem.1 hx
      have hw := h.wide r (List.mem_cons_self ..)
      have := h2 j (by omega)
      unfold tAt at this
      rw [List.getElem?_cons_zero, Option.getD_some, List.getElem?_eq_getElem hj, Option.getD_some, e] at this
      exact this
    have hs := h.scan
    rw [scanT, if_neg (by omega), scanR_zero r 1 (by omega) hr] at hs
    cases rs with
    | nil => rfl
    | cons q qs =>
      have hs' : scanT (0 + 1) 1 (q :: qs) = some (r :: q :: qs).length := hs
      rw [scanT, if_pos (by omega)] at hs'
      cases hs'

/-- What is looked at in the loops: a table's cells. -/
theorem TabOk.tabIn {n : Nat} {rels words T : List (List Int)} {w : World} {v : Value} (h : TabOk n rels words T) (hr : Rows w v T) (h4 : T.length ≤ 400) : TabIn n w v T := ⟨hr, h4, h.wide, h.rng⟩

set_option maxRecDepth 100000 in
set_option maxHeartbeats 4000000 in
/-- Where nothing is said. -/
theorem tables_early {a : Nat → Addr} {sx : Nat → ByteArray} (n : Int) (vr vw : Value) (rels words : List (List Int)) (w : World) (hE : Errs a sx w) (hr : UpAt w vr rels) (hw : UpAt w vw words) (hno : ¬ (smallP n rels ∧ words.flatten.length ≤ 60 ∧ words.length ≤ 60 ∧ geP n rels = 0)) :
    Calls Tryd.prog 3 #[.agg #[.int .i64 n, vr], vw] w fun e w' => e = .returned (.bool true) ∧ Below w.heap.size w w' := by
  obtain ⟨ar, cr, rfl, -, -⟩ := hr.rows.open_
  obtain ⟨aw, cw, rfl, -, -⟩ := hw.rows.open_
  have hBa : Below w.heap.size w (w.alloc (.cells #[.int .i64 n, .slice ar rels.length cr] 24)) := (Below.refl _ w).alloc (Nat.le_refl _) _
  have hnew := cells_new w [.int .i64 n, .slice ar rels.length cr] 24
  have q0 := hnew 0 _ rfl
  have q1 := hnew 1 _ rfl
  rw [Addr.add_lit, Nat.zero_add] at q0 q1
  obtain ⟨W0, hW0⟩ : ∃ W0, w.alloc (.cells #[.int .i64 n, .slice ar rels.length cr] 24) = W0 := ⟨_, rfl⟩
  obtain ⟨gb, hgb⟩ : ∃ gb, w.heap.size = gb := ⟨_, rfl⟩
  rw [show (List.toArray [Value.int .i64 n, .slice ar rels.length cr]) = #[.int .i64 n, .slice ar rels.length cr] from rfl, hW0, hgb] at q0 q1
  have HB0 : Hid (Below w.heap.size w W0) := by rw [← hW0]; exact hBa
  have HG : Hid (w.alloc (.cells #[.int .i64 n, .slice ar rels.length cr] 24) = W0 ∧ w.heap.size = gb) := ⟨hW0, hgb⟩
  have hth := three_ W0 (hE.below HB0.out)
  have HQ : Hid (∀ V, Below W0.heap.size W0 V → V.cell? ⟨gb, 0, none⟩ = some (.int .i64 n) ∧ V.cell? ⟨gb, 1, none⟩ = some (.slice ar rels.length cr)) := fun V hV => ⟨(hV.cell (p := ⟨gb, 0, none⟩) (cell_lt q0)).trans q0, (hV.cell (p := ⟨gb, 1, none⟩) (cell_lt q1)).trans q1⟩
  have HBB : Hid (∀ V, Below W0.heap.size W0 V → Below w.heap.size w V) := fun V hV => HB0.out.trans (hV.mono HB0.out.size)
  have hsm : ∀ V, Below W0.heap.size W0 V → Calls Tryd.prog 5 #[.agg #[.int .i64 n, .slice ar rels.length cr]] V fun e w' => ∃ b : Bool, e = .returned (.bool b) ∧ (b = true → smallP n rels) ∧ Below W0.heap.size W0 w' := fun V hV => (small_ n _ rels V (hr.below (HBB.out V hV))).mono fun e w' h => by
    obtain ⟨b, h1, h2, h3⟩ := h
    exact ⟨b, h1, h2, hV.trans (h3.mono hV.size)⟩
  have hle : ∀ V, Below W0.heap.size W0 V → Calls Tryd.prog 6 #[.slice aw words.length cw] V fun e w' => ∃ au cu, e = .returned (.slice au words.flatten.length cu) ∧ Below W0.heap.size W0 w' := fun V hV => (letters_ _ words V (hw.rows.below (HBB.out V hV)) hw.few hw.short).mono fun e w' hh => by
    obtain ⟨u, rfl, hi, hb⟩ := hh
    obtain ⟨au, cu, rfl, -, -⟩ := hi.open_
    exact ⟨au, cu, rfl, hV.trans (hb.mono hV.size)⟩
  have hge : ∀ V, Below W0.heap.size W0 V → Calls Tryd.prog 7 #[.agg #[.int .i64 n, .slice ar rels.length cr]] V fun e w' => e = .returned (.int .i64 (geP n rels)) ∧ Below W0.heap.size W0 w' := fun V hV => (groupError_ n _ rels V (hr.below (HBB.out V hV))).mono fun e w' hh => ⟨hh.1, hV.trans (hh.2.mono hV.size)⟩
  have hgp : 0 ≤ geP n rels := by
    unfold geP
    split
    · omega
    · split <;> omega
  have hf1 := hr.few
  have hf2 := hw.few
  have hf3 := hw.short
  obtain ⟨SP, hSP⟩ : ∃ SP, smallP n rels = SP := ⟨_, rfl⟩
  obtain ⟨R, hR⟩ : ∃ R, geP n rels = R := ⟨_, rfl⟩
  obtain ⟨lr, hlr⟩ : ∃ lr, rels.length = lr := ⟨_, rfl⟩
  obtain ⟨lw, hlw⟩ : ∃ lw, words.length = lw := ⟨_, rfl⟩
  obtain ⟨tot, htt⟩ : ∃ tot, words.flatten.length = tot := ⟨_, rfl⟩
  rw [hSP, hR, hlw, htt] at hno
  rw [hSP, hlr] at hsm
  rw [hlw, htt] at hle
  rw [hR, hlr] at hge
  rw [hR] at hgp
  rw [hlr] at HQ HG q1 hf1 ⊢
  rw [hlw] at hf2 ⊢
  rw [htt] at hf3
  have HNO := Hid.mk' hno
  clear hr hw hE hBa hnew hW0 hgb hSP hR hlr hlw htt hno HB0
  go_enter Tryd.func3, Tryd.ntmps3
  go_upto_region 1 with fail
  rw [HG.out.1, HG.out.2]
  go_upto_region 2 with (go_at_call 4; refine hth.mono ?_; rintro e V1 ⟨rfl, hb⟩; have H0 := Hid.mk' hb; clear hb hth)
  have x0 := (HQ.out V1 H0.out).1
  have x1 := (HQ.out V1 H0.out).2
  go_upto_region 3 with (go_at_call 5; refine (hsm _ H0.out).mono ?_; rintro e V2 ⟨b, rfl, hs, hb⟩; replace H0 := Hid.mk' hb; have HS := Hid.mk' hs; clear hb hs)
  clear q0 q1 x0 x1
  cases b with
  | false =>
    go_wp2_with fail
    go_ret
    exact ⟨rfl, HBB.out _ H0.out⟩
  | true =>
    have HSP : Hid SP := HS.out rfl
    have hle2 := hle V2 H0.out
    by_cases e1 : 60 < tot
    · have y1 : (60 : Int) < (tot : Int) := by omega
      go_wp2_with (first
        | (go_at_call 6; refine hle2.mono ?_; rintro e V3 ⟨au, cu, rfl, hb⟩; replace H0 := Hid.mk' hb; clear hb hle2)
        | fail)
      go_ret
      exact ⟨rfl, HBB.out _ H0.out⟩
    · by_cases e2 : 60 < lw
      · have y1 : (60 : Int) < (lw : Int) := by omega
        have y2 : ¬ (60 : Int) < (tot : Int) := by omega
        go_wp2_with (first
          | (go_at_call 6; refine hle2.mono ?_; rintro e V3 ⟨au, cu, rfl, hb⟩; replace H0 := Hid.mk' hb; clear hb hle2)
          | fail)
        go_ret
        exact ⟨rfl, HBB.out _ H0.out⟩
      · have hR0 : 0 < R := by
          rcases Int.lt_or_eq_of_le hgp with h | h
          · exact h
          · exact absurd ⟨HSP.out, by omega, by omega, h.symm⟩ HNO.out
        have y1 : ¬ (60 : Int) < (lw : Int) := by omega
        have y2 : ¬ (60 : Int) < (tot : Int) := by omega
        go_wp2_with (first
          | (go_at_call 6; refine hle2.mono ?_; rintro e V3 ⟨au, cu, rfl, hb⟩; replace H0 := Hid.mk' hb; have x0 := (HQ.out V3 hb).1; have x1 := (HQ.out V3 hb).2; have hge2 := hge V3 hb; clear hb hle2)
          | (go_at_call 7; refine hge2.mono ?_; rintro e V4 ⟨rfl, hb⟩; replace H0 := Hid.mk' hb; clear hb hge2)
          | fail)
        go_ret
        exact ⟨rfl, HBB.out _ H0.out⟩

end Go.Proofs.YtddcdndckinglaaDoor
