/- Whether words lead from each row of a full table back to it. The reference's letters, and a group's error. -/
import Derived.Test.YtmaopnbnbiediaaDoorGrpCheck
import Derived.Test.YtmaopnbnbiediaaDoorGrpCosets
import Derived.BigQuiet
import Derived.Deep.QuietTactic
namespace Go.Proofs.YtmaopnbnbiediaaDoor
open Go.RowKit Go.Sort

/-- Each letter leads somewhere. -/
def FullR (n : Nat) (R : List (List Int)) : Prop := ∀ c x, c < R.length → x < 2 * n → ∃ q : Nat, ent R c x = (q : Int) ∧ q < R.length
theorem ent_tAt {n : Nat} {R : List (List Int)} (hW : Wide n R) {c x : Nat} (hc : c < R.length) (hx : x < 2 * n) : tAt R c x = ent R c x := by
  have := wide_at hW hc
  unfold tAt ent
  rw [List.getElem?_eq_getElem (show x < (R[c]?.getD []).length by omega)]
  rfl
theorem leads_lt {n : Nat} {R : List (List Int)} (hW : Wide n R) (hF : FullR n R) : ∀ {ws : List Int} {i : Nat}, i < R.length → LettersIn n ws → leadsP R i ws < R.length
  | [], i, hi, _ => hi
  | l :: ls, i, hi, hl => by
    have hlm := hl l (by simp)
    have hx := col_lt (n := n) hlm.1 hlm.2.1 hlm.2.2
    obtain ⟨q, hq, hq2⟩ := hF i (colN l) hi hx
    rw [leadsP, ent_tAt hW hi hx, hq, Int.toNat_natCast]
    exact leads_lt hW hF hq2 fun y hy => hl y (by simp [hy])

set_option maxRecDepth 100000 in
set_option maxHeartbeats 4000000 in
theorem walk_ {B n : Nat} {R : List (List Int)} {G cG : Nat} {rb : Nat → Nat} (vw : Value) (i : Nat) (ws : List Int) (w : World) (h : TbIn B n w R G cG rb) (hF : FullR n R) (hi : i < R.length) (hw : Ints w vw ws) (hl : LettersIn n ws) (h4 : ws.length ≤ 400) (hn : n ≤ 12) :
    Calls Tryd.prog 45 #[.agg #[.slice (some ⟨G, 0, none⟩) R.length cG], .int .i64 (i : Int), vw] w fun e w' => e = .returned (.int .i64 (leadsP R i ws : Int)) ∧ Below w.heap.size w w' := by
  have hBa : Below w.heap.size w (w.alloc (.cells #[.slice (some ⟨G, 0, none⟩) R.length cG] 49)) := (Below.refl _ w).alloc (Nat.le_refl _) _
  have q0 := cells_new w [.slice (some ⟨G, 0, none⟩) R.length cG] 49 0 _ rfl
  rw [Addr.add_lit, Nat.zero_add] at q0
  have HT := Hid.mk' (h.below hBa)
  have HW := Hid.mk' (hw.below hBa)
  have HL := Hid.mk' hl
  have HF := Hid.mk' hF
  have hf := h.few
  obtain ⟨aw, cw, rfl, -, -⟩ := hw.open_
  obtain ⟨W0, hW0⟩ : ∃ W0, w.alloc (.cells #[.slice (some ⟨G, 0, none⟩) R.length cG] 49) = W0 := ⟨_, rfl⟩
  obtain ⟨gb, hgb⟩ : ∃ gb, w.heap.size = gb := ⟨_, rfl⟩
  rw [show (List.toArray [Value.slice (some ⟨G, 0, none⟩) R.length cG]) = #[.slice (some ⟨G, 0, none⟩) R.length cG] from rfl, hW0, hgb] at q0
  rw [hW0] at HT HW
  obtain ⟨L, hLe⟩ : ∃ L, R.length = L := ⟨_, rfl⟩
  have HLL : Hid (R.length = L) := hLe
  obtain ⟨m, hm⟩ : ∃ m, ws.length = m := ⟨_, rfl⟩
  have HM : Hid (ws.length = m) := hm
  have HG : Hid (w.alloc (.cells #[.slice (some ⟨G, 0, none⟩) L cG] 49) = W0 ∧ w.heap.size = gb ∧ Below w.heap.size w W0) := ⟨by rw [← hLe]; exact hW0, hgb, by rw [← hW0]; exact hBa⟩
  rw [hm] at h4 HW ⊢
  rw [hLe] at hf hi q0 ⊢
  clear hBa h hw hl hF hLe hm hW0 hgb
  go_enter Tryd.func45, Tryd.ntmps45
  go_upto_region 1 with fail
  rw [HG.out.1, HG.out.2.1]
  go_wp2_with fail
  go_loopw [1, 11] (fun p k W => ∃ (r kn : Nat), r < L ∧ kn ≤ m ∧ p = .int .i64 (r : Int) ∧ k = .int .i64 (kn : Int) ∧ Hid (∃ q, W = W0.drewN q) ∧ Hid (leadsP R r (ws.drop kn) = leadsP R i ws)) (fun _ k _ => m - (intOf k).toNat)
  case atStart => exact ⟨i, 0, hi, by omega, rfl, rfl, ⟨0, rfl⟩, by show _ = _; rw [List.drop_zero]⟩
  case round =>
    obtain ⟨r, k, hr, hk, rfl, rfl, HQ, HK⟩ := hrel
    by_cases hkn : k < m
    · have hkl : k < ws.length := by rw [HM.out]; exact hkn
      obtain ⟨l, hl⟩ : ∃ l, ws[k] = l := ⟨_, rfl⟩
      have hlm := HL.out l (by rw [← hl]; exact List.getElem_mem _)
      have hdr : ws.drop k = l :: ws.drop (k + 1) := by rw [List.drop_eq_getElem_cons hkl, hl]
      obtain ⟨a', c', ea, -, hx⟩ := HW.out.open_
      rw [HM.out] at ea hx
      cases ea
      obtain ⟨b2, o2, rfl, -, -, hcell⟩ := hx (by omega)
      have ck := hcell k hkn
      rw [List.getElem?_eq_getElem hkl, Option.getD_some, hl] at ck
      have hcx := col_lt (n := n) hlm.1 hlm.2.1 hlm.2.2
      have hcol : ∀ V, Calls Tryd.prog 57 #[.int .i64 l] V fun e w' => e = .returned (.int .i64 (colN l : Int)) ∧ w' = V := fun V => column_ l hlm.1 (by omega) (by omega) V
      obtain ⟨x, hxx⟩ : ∃ x, colN l = x := ⟨_, rfl⟩
      have HX : Hid (colN l = x) := hxx
      rw [hxx] at hcx hcol
      have hrR : r < R.length := by rw [HLL.out]; exact hr
      have h1 := HT.out.row_at hrR
      have tx := HT.out.ent_at hrR hcx
      obtain ⟨t, ht, htl⟩ := HF.out r x hrR hcx
      rw [ht] at tx
      rw [HLL.out] at htl
      have HNX : Hid (leadsP R t (ws.drop (k + 1)) = leadsP R i ws) := by
        have := HK.out
        rw [hdr, leadsP, hxx, ent_tAt HT.out.wide hrR hcx, ht, Int.toNat_natCast] at this
        exact this
      obtain ⟨m2, hm2⟩ : ∃ m2, 2 * n = m2 := ⟨_, rfl⟩
      rw [hm2] at h1 hcx
      have z0 : (0 : Int) ≤ (k : Int) := by omega
      have z1 : (k : Int) < (m : Int) := by omega
      have z2 : (0 : Int) ≤ (r : Int) := by omega
      have z3 : (r : Int) < (L : Int) := by omega
      have z4 : (0 : Int) ≤ (x : Int) := by omega
      have z5 : (x : Int) < (m2 : Int) := by omega
      have hsame : ∀ p : Addr, wr.cell? p = W0.cell? p := fun p => by obtain ⟨q, e⟩ := HQ.out; rw [e]; rfl
      have ck1 := (hsame _).trans ck
      have h11 := (hsame _).trans h1
      have tx1 := (hsame _).trans tx
      have q01 := (hsame _).trans q0
      have hcol2 : ∀ n, Calls Tryd.prog 57 #[.int .i64 l] (wr.drewN n) fun e w' => e = .returned (.int .i64 (x : Int)) ∧ w' = wr.drewN n := fun n => hcol _
      clear hl hdr hx hcell ht hxx hm2 hsame ck h1 tx hcol hrR
      go_wp2_with fail
      go_quiet (refine Calls.quiet_of_same (hcol2 _))
      go_wp2
      go_roundw
      case rel => exact ⟨t, k + 1, htl, by omega, rfl, by go_num, by obtain ⟨q, e⟩ := HQ.out; exact ⟨q + nq, by rw [e, World.drewN_drewN]⟩, HNX.out⟩
      case measure => simp [intOf]; omega
    · obtain rfl : k = m := by omega
      have HE : Hid (r = leadsP R i ws) := by
        have := HK.out
        rw [List.drop_eq_nil_of_le (by rw [HM.out]; exact Nat.le_refl _)] at this
        exact this
      go_wp2
      go_ret
      refine ⟨by rw [← HE.out]; rfl, ?_⟩
      obtain ⟨q, e⟩ := HQ.out
      rw [e]
      exact ⟨HG.out.2.2.os, HG.out.2.2.tape, HG.out.2.2.output, HG.out.2.2.size, HG.out.2.2.block⟩

/-- Each of the first words leads back. -/
def KeptTo (rels R : List (List Int)) (k : Nat) : Prop := ∀ r ∈ rels.take k, ∀ i, i < R.length → leadsP R i r = i
theorem keepsB_iff {rels R : List (List Int)} : keepsB rels R = true ↔ ∀ r ∈ rels, ∀ i, i < R.length → leadsP R i r = i := by
  unfold keepsB
  simp only [List.all_eq_true, List.mem_range, beq_iff_eq]
theorem keepsB_no {rels R : List (List Int)} {r : List Int} {i : Nat} (hr : r ∈ rels) (hi : i < R.length) (h : leadsP R i r ≠ i) : keepsB rels R = false := by
  cases e : keepsB rels R with
  | false => rfl
  | true => exact absurd (keepsB_iff.1 e r hr i hi) h

set_option maxRecDepth 100000 in
set_option maxHeartbeats 4000000 in
theorem keeps_ {B n : Nat} {R : List (List Int)} {G cG : Nat} {rb : Nat → Nat} (vr : Value) (rels : List (List Int)) (w : World) (h : TbIn B n w R G cG rb) (hF : FullR n R) (hr : FewAt w vr rels) (hl : ∀ ws ∈ rels, LettersIn n ws) (hn : n ≤ 12) :
    Calls Tryd.prog 23 #[.agg #[.slice (some ⟨G, 0, none⟩) R.length cG], vr] w fun e w' => e = .returned (.bool (keepsB rels R)) ∧ Below w.heap.size w w' := by
  have hBa : Below w.heap.size w (w.alloc (.cells #[.slice (some ⟨G, 0, none⟩) R.length cG] 49)) := (Below.refl _ w).alloc (Nat.le_refl _) _
  have q0 := cells_new w [.slice (some ⟨G, 0, none⟩) R.length cG] 49 0 _ rfl
  rw [Addr.add_lit, Nat.zero_add] at q0
  have HT := Hid.mk' (h.below hBa)
  have HR := Hid.mk' (hr.below hBa)
  have HL := Hid.mk' hl
  have HF := Hid.mk' hF
  have hf := h.few
  have hr4 := hr.few
  obtain ⟨ar, cr, rfl, -, -⟩ := hr.rows.open_
  obtain ⟨W0, hW0⟩ : ∃ W0, w.alloc (.cells #[.slice (some ⟨G, 0, none⟩) R.length cG] 49) = W0 := ⟨_, rfl⟩
  obtain ⟨gb, hgb⟩ : ∃ gb, w.heap.size = gb := ⟨_, rfl⟩
  rw [show (List.toArray [Value.slice (some ⟨G, 0, none⟩) R.length cG]) = #[.slice (some ⟨G, 0, none⟩) R.length cG] from rfl, hW0, hgb] at q0
  rw [hW0] at HT HR
  obtain ⟨L, hLe⟩ : ∃ L, R.length = L := ⟨_, rfl⟩
  have HLL : Hid (R.length = L) := hLe
  obtain ⟨lr, hlr⟩ : ∃ lr, rels.length = lr := ⟨_, rfl⟩
  have HLR : Hid (rels.length = lr) := hlr
  have HG : Hid (w.alloc (.cells #[.slice (some ⟨G, 0, none⟩) L cG] 49) = W0 ∧ w.heap.size = gb ∧ Below w.heap.size w W0) := ⟨by rw [← hLe]; exact hW0, hgb, by rw [← hW0]; exact hBa⟩
  obtain ⟨K, hK⟩ : ∃ K, keepsB rels R = K := ⟨_, rfl⟩
  have HK := Hid.mk' hK
  rw [hK]
  rw [hlr] at hr4 HR ⊢
  rw [hLe] at hf q0 ⊢
  clear hBa h hr hl hF hLe hlr hW0 hgb hK
  go_enter Tryd.func23, Tryd.ntmps23
  go_upto_region 1 with fail
  rw [HG.out.1, HG.out.2.1]
  go_wp2_with fail
  go_loopw [10] (fun p W => ∃ k : Nat, k ≤ lr ∧ p = .int .i64 (k : Int) ∧ Hid (Below W0.heap.size W0 W ∧ KeptTo rels R k)) (fun p _ => lr - (intOf p).toNat)
  case atStart => exact ⟨0, by omega, rfl, Below.refl _ _, fun r hr => (by simp at hr)⟩
  case round =>
    obtain ⟨k, hk, rfl, HB⟩ := hrel
    by_cases hkn : k < lr
    · have hkl : k < rels.length := by rw [HLR.out]; exact hkn
      obtain ⟨l, hl⟩ : ∃ l, rels[k]? = some l := ⟨_, List.getElem?_eq_getElem hkl⟩
      have hlm : l ∈ rels := List.mem_of_getElem? hl
      have HTK : Hid (rels.take (k + 1) = rels.take k ++ [l]) := by show _ = _; rw [List.take_add_one, hl]; rfl
      obtain ⟨a', c', ea, -, hx⟩ := (HR.out.rows.below HB.out.1).open_
      rw [HLR.out] at ea hx
      cases ea
      obtain ⟨b, off, rfl, -, -, hcell⟩ := hx (by omega)
      obtain ⟨a2, c2, ck, hi2⟩ := hcell k hkn
      rw [hl, Option.getD_some] at ck hi2
      have HI2 := Hid.mk' hi2
      have HLM := Hid.mk' hlm
      have r0 := (HB.out.1.cell (p := ⟨gb, 0, none⟩) (cell_lt q0)).trans q0
      have HWK : Hid (∀ (j : Nat) (V : World), j < L → Below wr.heap.size wr V → Calls Tryd.prog 45 #[.agg #[.slice (some ⟨G, 0, none⟩) L cG], .int .i64 (j : Int), .slice a2 l.length c2] V fun e w' => e = .returned (.int .i64 (leadsP R j l : Int)) ∧ Below wr.heap.size wr w') := fun j V hj hV => by
        have h9 := walk_ (.slice a2 l.length c2) j l V ((HT.out.below HB.out.1).below hV) HF.out (by rw [HLL.out]; exact hj) (HI2.out.below hV) (HL.out l HLM.out) (Nat.le_trans (len_flat HLM.out) HR.out.short) hn
        rw [HLL.out] at h9
        exact h9.mono fun e w' hh => ⟨hh.1, hV.trans (hh.2.mono hV.size)⟩
      have HLL2 : Hid (l.length ≤ 400) := Nat.le_trans (len_flat hlm) HR.out.short
      obtain ⟨ll, hll⟩ : ∃ ll, l.length = ll := ⟨_, rfl⟩
      rw [hll] at ck HWK
      have z0 : (0 : Int) ≤ (k : Int) := by omega
      have z1 : (k : Int) < (lr : Int) := by omega
      clear hl hlm hx hcell hi2 hll hkl
      go_wp2_with fail
      go_loopw [17] (fun p W => ∃ j : Nat, j ≤ L ∧ p = .int .i64 (j : Int) ∧ Hid (Below wr.heap.size wr W ∧ ∀ i, i < j → leadsP R i l = i)) (fun p _ => L - (intOf p).toNat)
      case atStart => exact ⟨0, by omega, rfl, Below.refl _ _, fun i hi => (by omega)⟩
      case round =>
        obtain ⟨W1, hW1⟩ : ∃ W, W = wr := ⟨_, rfl⟩
        subst hW1
        obtain ⟨j, hj, rfl, HJ⟩ := hrel
        by_cases hjn : j < L
        · have hwk := HWK.out j _ hjn HJ.out.1
          have r1 := (HJ.out.1.cell (p := ⟨gb, 0, none⟩) (cell_lt r0)).trans r0
          obtain ⟨q, hq⟩ : ∃ q, leadsP R j l = q := ⟨_, rfl⟩
          have HQ : Hid (leadsP R j l = q) := hq
          rw [hq] at hwk
          have hqL : q < 5 := by
            rw [← hq]
            have := leads_lt HT.out.wide HF.out (i := j) (by rw [HLL.out]; exact hjn) (HL.out l HLM.out)
            rw [HLL.out] at this
            omega
          clear hq
          by_cases e : q = j
          · subst e
            go_wp2_with (go_at_call 45; refine hwk.mono ?_; rintro e V ⟨rfl, hV⟩; have HV := Hid.mk' hV; clear hwk hV)
            go_roundw
            case rel =>
              refine ⟨q + 1, by omega, by go_num, HV.out, fun i hi => ?_⟩
              by_cases e : i = q
              · rw [e]; exact HQ.out
              · exact HJ.out.2 i (by omega)
            case measure => simp [intOf]; omega
          · have hb : ((q : Int) != (j : Int)) = true := by simp; omega
            have HE : Hid (K = false) := by
              rw [← HK.out]
              exact keepsB_no HLM.out (by rw [HLL.out]; exact hjn) (by rw [HQ.out]; exact e)
            go_wp2_with (go_at_call 45; refine hwk.mono ?_; rintro e V ⟨rfl, hV⟩; have HV := Hid.mk' hV; clear hwk hV)
            go_ret
            exact ⟨by rw [HE.out]; rfl, HG.out.2.2.trans ((HB.out.1.trans (HV.out.mono HB.out.1.size)).mono HG.out.2.2.size)⟩
        · obtain rfl : j = L := by omega
          go_wp2_with fail
          go_roundw
          case rel =>
            refine ⟨k + 1, by omega, by go_num, HB.out.1.trans (HJ.out.1.mono HB.out.1.size), fun r hr i hi => ?_⟩
            rw [HTK.out] at hr
            rcases List.mem_append.1 hr with hr | hr
            · exact HB.out.2 r hr i hi
            · rw [List.mem_singleton.1 hr]; exact HJ.out.2 i (by rw [HLL.out] at hi; exact hi)
          case measure => simp [intOf]; omega
    · obtain rfl : k = lr := by omega
      have HE : Hid (K = true) := by
        show _ = _
        rw [← HK.out, keepsB_iff]
        intro r hr
        exact HB.out.2 r (by rw [List.take_of_length_le (by rw [HLR.out]; exact Nat.le_refl _)]; exact hr)
      go_wp2_with fail
      go_ret
      exact ⟨by rw [HE.out]; rfl, HG.out.2.2.trans (HB.out.1.mono HG.out.2.2.size)⟩

end Go.Proofs.YtmaopnbnbiediaaDoor

namespace Go.Proofs.YtmaopnbnbiediaaDoor
open Go.RowKit Go.Sort

set_option maxRecDepth 100000 in
set_option maxHeartbeats 2000000 in
theorem letters_ (v : Value) (wss : List (List Int)) (w : World) (h : Rows w v wss) (h1 : wss.length ≤ 1100000) (h2 : wss.flatten.length ≤ 1100000) :
    Calls Tryd.prog 15 #[v] w fun e w' => ∃ u, e = .returned u ∧ Ints w' u wss.flatten ∧ Below w.heap.size w w' := by
  obtain ⟨j0, hj0, hy0, hy1, hy2⟩ := info_parts Tryd.infoi
  have HV := Hid.mk' h
  obtain ⟨av, cv, rfl, hcv, -⟩ := h.open_
  obtain ⟨m, hm⟩ : ∃ m, wss.length = m := ⟨_, rfl⟩
  have HM : Hid (wss.length = m) := hm
  rw [hm] at h1 ⊢
  obtain ⟨tot, ht⟩ : ∃ tot, wss.flatten.length = tot := ⟨_, rfl⟩
  have HT : Hid (wss.flatten.length = tot) := ht
  rw [ht] at h2
  clear h hm ht
  go_enter Tryd.func15, Tryd.ntmps15
  go_wp2_with fail
  go_loopw [3, 4] (fun pv k W => ∃ (u : Value) (kn : Nat), kn ≤ m ∧ pv = u ∧ k = .int .i64 (kn : Int) ∧ Hid (W.ownsRow w.heap.size 3 1 u (wss.take kn).flatten.length ((wss.take kn).flatten.map (Value.int .i64)) ∧ Below w.heap.size w W)) (fun _ k _ => m - (intOf k).toNat)
  case atStart => exact ⟨_, 0, by omega, rfl, rfl, World.ownsRow_nil _ _ _ _, Below.refl _ _⟩
  case round =>
    obtain ⟨u, k, hk, rfl, rfl, HK⟩ := hrel
    obtain ⟨au, cu, hu⟩ := own_one HK.out.1
    obtain ⟨nu, hnu⟩ : ∃ nu, (wss.take k).flatten.length = nu := ⟨_, rfl⟩
    have HNU : Hid ((wss.take k).flatten.length = nu) := hnu
    rw [hnu] at hu
    subst hu
    have hnt : nu ≤ tot := by rw [← hnu, ← HT.out]; exact flat_le wss k
    clear hnu
    by_cases hkn : k < m
    · have hkl : k < wss.length := by rw [HM.out]; exact hkn
      obtain ⟨l, hl⟩ : ∃ l, wss[k]? = some l := ⟨_, List.getElem?_eq_getElem hkl⟩
      obtain ⟨a', c', ea, -, hx⟩ := (HV.out.below HK.out.2).open_
      rw [HM.out] at ea hx
      cases ea
      obtain ⟨b, off, rfl, -, -, hcell⟩ := hx (by omega)
      obtain ⟨a2, c2, ck, hi2⟩ := hcell k hkn
      rw [hl, Option.getD_some] at ck hi2
      have HI2 := Hid.mk' hi2
      have HF := Hid.mk' (flat_take hl)
      have hfl := flat_le wss (k + 1)
      rw [HF.out, List.length_append, HNU.out, HT.out] at hfl
      have HOW : Hid (wr.ownsRow w.heap.size 3 1 (.slice au nu cu) nu ((wss.take k).flatten.map (Value.int .i64))) := by
        have := HK.out.1
        rw [HNU.out] at this
        exact this
      have hws := HK.out.2.size
      obtain ⟨ll, hll⟩ : ∃ ll, l.length = ll := ⟨_, rfl⟩
      have HLL : Hid (l.length = ll) := hll
      have HML : Hid ((l.map (Value.int .i64)).length = ll) := by show _ = _; rw [List.length_map]; exact hll
      rw [hll] at ck hfl HI2
      have z0 : (0 : Int) ≤ (k : Int) := by omega
      have z1 : (k : Int) < (m : Int) := by omega
      clear hl hx hcell hi2 hll
      go_wp2_with (first
        | (at_builtin; refine wpList_append_slice rfl (.tmp 11) (.tmp 15) 42 rfl w.heap.size 3 j0 (.int .i64 0) 8 Tryd.underlying42 hj0 hy0 hy1 hy2 rfl _ nu _ rfl HOW.out _ _ rfl HI2.out (ints_one l) (by rw [HML.out]; omega) (by rw [HML.out]; unfold maxLen; omega) hws ?_; intro v5 w5 hown5 hg5 hl5; have H5 := Hid.mk' (And.intro hown5 hg5); clear hown5 hg5 hl5)
        | fail)
      go_roundw
      case rel =>
        refine ⟨_, k + 1, by omega, rfl, by go_num, ?_, HK.out.2.grown H5.out.2 hws (fun b e => (HOW.out.lt b e).1)⟩
        rw [HF.out, List.length_append, List.map_append, HNU.out, HLL.out]
        have := H5.out.1
        rw [HML.out] at this
        exact this
      case measure => simp [intOf]; omega
    · obtain rfl : k = m := by omega
      have HE : Hid ((wss.take k) = wss) := List.take_of_length_le (by rw [HM.out]; exact Nat.le_refl _)
      go_wp2_with fail
      go_ret
      refine ⟨_, rfl, ?_, HK.out.2⟩
      have := HK.out.1
      rw [HE.out] at this
      exact slice_of_owns this (fun _ _ _ => trivial)

set_option maxRecDepth 100000 in
set_option maxHeartbeats 4000000 in
theorem lettersOfRef_ (n : Nat) (vr v : Value) (l : List Int) (w : World) (h : Ints w v l) (h1 : l.length ≤ 1000) (hn : n ≤ 12) :
    Calls Tryd.prog 16 #[.agg #[.int .i64 (n : Int), vr], v] w fun e w' => e = .returned (.bool (decide (LettersIn n l))) ∧ Below w.heap.size w w' := by
  have hBa : Below w.heap.size w (w.alloc (.cells #[.int .i64 (n : Int), vr] 24)) := (Below.refl _ w).alloc (Nat.le_refl _) _
  have q0 := cells_new w [.int .i64 (n : Int), vr] 24 0 _ rfl
  rw [Addr.add_lit, Nat.zero_add] at q0
  have HV : Hid (Ints (w.alloc (.cells #[.int .i64 (n : Int), vr] 24)) v l) := h.below hBa
  obtain ⟨av, cv, rfl, -, -⟩ := h.open_
  obtain ⟨W0, hW0⟩ : ∃ W0, w.alloc (.cells #[.int .i64 (n : Int), vr] 24) = W0 := ⟨_, rfl⟩
  obtain ⟨gb, hgb⟩ : ∃ gb, w.heap.size = gb := ⟨_, rfl⟩
  rw [show (List.toArray [Value.int .i64 (n : Int), vr]) = #[.int .i64 (n : Int), vr] from rfl, hW0, hgb] at q0
  have HG : Hid (w.alloc (.cells #[.int .i64 (n : Int), vr] 24) = W0 ∧ w.heap.size = gb ∧ Below w.heap.size w W0) := ⟨hW0, hgb, by rw [← hW0]; exact hBa⟩
  rw [hW0] at HV
  obtain ⟨m, hm⟩ : ∃ m, l.length = m := ⟨_, rfl⟩
  have HM : Hid (l.length = m) := hm
  rw [hm] at h1 HV ⊢
  have HDN : Hid (∀ q, Below w.heap.size w (W0.drewN q)) := fun q => ⟨HG.out.2.2.os, HG.out.2.2.tape, HG.out.2.2.output, HG.out.2.2.size, HG.out.2.2.block⟩
  obtain ⟨R, hR⟩ : ∃ R : Bool, decide (LettersIn n l) = R := ⟨_, rfl⟩
  have HR : Hid ((LettersIn n l → R = true) ∧ (¬ LettersIn n l → R = false)) := by
    rw [← hR]
    exact ⟨fun k => decide_eq_true k, fun k => decide_eq_false k⟩
  rw [hR]
  clear h hBa hW0 hgb hm hR
  go_enter Tryd.func16, Tryd.ntmps16
  go_upto_region 1 with fail
  rw [HG.out.1, HG.out.2.1]
  go_wp2_with fail
  go_loopw [5] (fun p W => ∃ k q : Nat, k ≤ m ∧ p = .int .i64 k ∧ W = W0.drewN q ∧ Hid (LettersIn n (l.take k))) (fun p _ => m - (intOf p).toNat)
  case atStart => exact ⟨0, 0, by omega, rfl, rfl, fun x hx => (by simp at hx)⟩
  case round =>
    obtain ⟨k, q, hk, rfl, rfl, HK⟩ := hrel
    by_cases hkn : k < m
    · have hkl : k < l.length := by rw [HM.out]; exact hkn
      obtain ⟨x, hx⟩ : ∃ x, l[k]? = some x := ⟨_, List.getElem?_eq_getElem hkl⟩
      have hxm : x ∈ l := List.mem_of_getElem? hx
      have htj : l.take (k + 1) = l.take k ++ [x] := by rw [List.take_add_one, hx]; rfl
      obtain ⟨a3, c3, ea, -, hy⟩ := HV.out.open_
      rw [HM.out] at ea hy
      cases ea
      obtain ⟨b3, off3, rfl, -, -, hcell3⟩ := hy (by omega)
      have cj := hcell3 k hkn
      rw [hx, Option.getD_some] at cj
      have HXM := Hid.mk' hxm
      have HTJ := Hid.mk' htj
      have y0 : (0 : Int) ≤ (k : Int) := by omega
      have y1 : (k : Int) < (m : Int) := by omega
      clear hx hxm htj hy hcell3
      by_cases e0 : x = 0
      · have HBAD : Hid (R = false) := HR.out.2 fun hall => (hall x HXM.out).1 e0
        subst e0
        go_wp2_with fail
        go_quiet (fail)
        go_wp2
        go_ret
        exact ⟨by rw [HBAD.out]; rfl, by rw [World.drewN_drewN]; exact HDN.out _⟩
      · have hb0 : (x == 0) = false := beq_false_of_ne e0
        by_cases e2 : (n : Int) < x
        · have HBAD : Hid (R = false) := HR.out.2 fun hall => by have := (hall x HXM.out).2.2; omega
          have hd : decide ((n : Int) < x) = true := decide_eq_true e2
          go_wp2_with fail
          go_quiet (fail)
          go_wp2
          go_ret
          exact ⟨by rw [HBAD.out]; rfl, by rw [World.drewN_drewN]; exact HDN.out _⟩
        · have hd : decide ((n : Int) < x) = false := decide_eq_false e2
          by_cases e1 : x < -(n : Int)
          · have HBAD : Hid (R = false) := HR.out.2 fun hall => by have := (hall x HXM.out).2.1; omega
            have hd2 : decide (x < -(n : Int)) = true := decide_eq_true e1
            go_wp2_with fail
            go_quiet (fail)
            go_wp2
            go_ret
            exact ⟨by rw [HBAD.out]; rfl, by rw [World.drewN_drewN]; exact HDN.out _⟩
          · have hd2 : decide (x < -(n : Int)) = false := decide_eq_false e1
            go_wp2_with fail
            go_quiet (fail)
            go_wp2
            go_roundw
            case rel =>
              refine ⟨k + 1, q + nq, by omega, by go_num, rfl, ?_⟩
              show LettersIn n (l.take (k + 1))
              rw [HTJ.out]
              intro y hy
              rcases List.mem_append.1 hy with hy | hy
              · exact HK.out y hy
              · rw [List.mem_singleton.1 hy]; exact ⟨e0, by omega, by omega⟩
            case measure => simp [intOf]; omega
    · obtain rfl : k = m := by omega
      have HE : Hid (R = true) := HR.out.1 (by
        have := HK.out
        rw [List.take_of_length_le (by rw [HM.out]; exact Nat.le_refl _)] at this
        exact this)
      go_wp2
      go_ret
      exact ⟨by rw [HE.out]; rfl, HDN.out _⟩

end Go.Proofs.YtmaopnbnbiediaaDoor
