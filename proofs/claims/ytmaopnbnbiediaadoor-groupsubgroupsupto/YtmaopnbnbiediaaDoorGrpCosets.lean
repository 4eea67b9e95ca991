/- What Cosets answers, of a group that is Valid. -/
import Derived.Test.YtmaopnbnbiediaaDoorGrpCheck
namespace Go.Proofs.YtmaopnbnbiediaaDoor
open Go.RowKit Go.Sort

/-- There is a table to tell. -/
def CosOk (n : Nat) (rels words : List (List Int)) (T : List (List Int)) : Prop := (∀ ws ∈ words, LettersIn n ws) ∧ ∃ s, cosetsP n rels words = some s ∧ T = toldP n s ∧ T.length ≤ 400
/-- What Cosets answers. -/
def CosSays (n : Nat) (rels words : List (List Int)) (w : World) (e : Ending) (w' : World) : Prop :=
  (∃ v T, e = .returned (.tuple #[v, .nilIface]) ∧ CosOk n rels words T ∧ Rows w' v T ∧ Below w.heap.size w w') ∨ (∃ t p, e = .returned (.tuple #[.slice none 0 0, .iface t p]) ∧ (∀ T, ¬ CosOk n rels words T) ∧ Below w.heap.size w w')
theorem CosSays.ok {n : Nat} {rels words : List (List Int)} {w w' : World} {v : Value} {T : List (List Int)} (h1 : CosOk n rels words T) (h2 : Rows w' v T) (h3 : Below w.heap.size w w') : CosSays n rels words w (.returned (.tuple #[v, .nilIface])) w' := .inl ⟨v, T, rfl, h1, h2, h3⟩
theorem CosSays.no {n : Nat} {rels words : List (List Int)} {w w' : World} {t : TypeId} {p : Value} (h1 : ∀ T, ¬ CosOk n rels words T) (h3 : Below w.heap.size w w') : CosSays n rels words w (.returned (.tuple #[.slice none 0 0, .iface t p])) w' := .inr ⟨t, p, rfl, h1, h3⟩

/-- Words that are not too many, nor too long. -/
structure FewAt (w : World) (v : Value) (wss : List (List Int)) : Prop where
  rows : Rows w v wss
  few : wss.length ≤ 400
  short : wss.flatten.length ≤ 400
theorem len_flat {wss : List (List Int)} {ws : List Int} (h : ws ∈ wss) : ws.length ≤ wss.flatten.length := by
  obtain ⟨a, b, rfl⟩ := List.append_of_mem h
  simp
  omega
theorem FewAt.below {w w' : World} {v : Value} {wss : List (List Int)} (h : FewAt w v wss) (hB : Below w.heap.size w w') : FewAt w' v wss := ⟨h.rows.below hB, h.few, h.short⟩
theorem FewAt.words {w w' : World} {v : Value} {wss : List (List Int)} (h : FewAt w v wss) {n : Nat} (hl : ∀ ws ∈ wss, LettersIn n ws) (hB : Below w.heap.size w w') : WordsAt w.heap.size n w' v wss :=
  ⟨(h.rows.mono (S' := fun b => b < w.heap.size) fun _ hb _ => hb).below hB, hl, fun _ hws => Nat.le_trans (len_flat hws) h.short, h.few⟩

set_option maxRecDepth 100000 in
set_option maxHeartbeats 4000000 in
theorem cosets_ {a : Nat → Addr} {sx : Nat → ByteArray} (n : Nat) (vr vw : Value) (rels words : List (List Int)) (w : World) (hE : Errs a sx w) (hr : FewAt w vr rels) (hw : FewAt w vw words) (hl : ∀ ws ∈ rels, LettersIn n ws) (hn : n ≤ 12) :
    Calls Tryd.prog 14 #[.agg #[.int .i64 (n : Int), vr], vw] w fun e w' => CosSays n rels words w e w' := by
  have HE := Hid.mk' hE
  have HR := Hid.mk' hr
  have HW := Hid.mk' hw
  have HL := Hid.mk' hl
  obtain ⟨ar, cr, rfl, -, -⟩ := hr.rows.open_
  obtain ⟨aw, cw, rfl, -, -⟩ := hw.rows.open_
  have hBa : Below w.heap.size w (w.alloc (.cells #[.int .i64 (n : Int), .slice ar rels.length cr] 33)) := (Below.refl _ w).alloc (Nat.le_refl _) _
  have hnew := cells_new w [.int .i64 (n : Int), .slice ar rels.length cr] 33
  have q0 := hnew 0 _ rfl
  have q1 := hnew 1 _ rfl
  rw [Addr.add_lit, Nat.zero_add] at q0 q1
  obtain ⟨W0, hW0⟩ : ∃ W0, w.alloc (.cells #[.int .i64 (n : Int), .slice ar rels.length cr] 33) = W0 := ⟨_, rfl⟩
  obtain ⟨gb, hgb⟩ : ∃ gb, w.heap.size = gb := ⟨_, rfl⟩
  rw [show (List.toArray [Value.int .i64 (n : Int), .slice ar rels.length cr]) = #[.int .i64 (n : Int), .slice ar rels.length cr] from rfl, hW0, hgb] at q0 q1
  have HB0 : Hid (Below w.heap.size w W0) := by rw [← hW0]; exact hBa
  have HG : Hid (w.alloc (.cells #[.int .i64 (n : Int), .slice ar rels.length cr] 33) = W0 ∧ w.heap.size = gb) := ⟨hW0, hgb⟩
  have hva := valid_ok n (.slice ar rels.length cr) rels W0 (hE.below HB0.out) (hr.rows.below HB0.out) hr.few hr.short hl hn
  have hr4 := hr.few
  have hw4 := hw.few
  obtain ⟨lr, hlr⟩ : ∃ lr, rels.length = lr := ⟨_, rfl⟩
  obtain ⟨lw, hlw⟩ : ∃ lw, words.length = lw := ⟨_, rfl⟩
  rw [hlr] at HR q1 hva HG hr4 ⊢
  rw [hlw] at HW hw4 ⊢
  clear hE hr hw hl hBa hnew hW0 hgb hlr hlw
  go_enter Tryd.func14, Tryd.ntmps14
  go_upto_region 1 with fail
  rw [HG.out.1, HG.out.2]
  go_upto_region 4 with (go_at_call 18; refine hva.mono ?_; rintro e V1 ⟨rfl, hb⟩; have H1 := Hid.mk' hb; clear hb hva)
  have HB1 : Hid (Below w.heap.size w V1) := HB0.out.trans (H1.out.mono HB0.out.size)
  have r0 := (H1.out.cell (p := ⟨gb, 0, none⟩) (cell_lt q0)).trans q0
  have r1 := (H1.out.cell (p := ⟨gb, 1, none⟩) (cell_lt q1)).trans q1
  have hck := check_ n (.slice aw lw cw) words V1 (HE.out.below HB1.out) (HW.out.rows.below HB1.out) HW.out.few HW.out.short hn
  clear q0 q1 H1
  by_cases hgood : ∀ ws ∈ words, LettersIn n ws
  · unfold chkV at hck
    rw [if_pos hgood] at hck
    have HGO := Hid.mk' hgood
    clear hgood
    have hbe := begin_ n V1 hn
    go_upto_region 8 with (first
      | (go_at_call 32; refine hck.mono ?_; rintro e V ⟨rfl, rfl⟩; clear hck)
      | (go_at_call 33; refine hbe.mono ?_; rintro e V2 ⟨P, rfl, ho, hb⟩; have H2 := Hid.mk' (And.intro ho hb); clear ho hb hbe)
      | fail)
    have hBo : Below V2.heap.size V2 (V2.alloc (.cells #[.pointer (some ⟨P, 0, none⟩)] 62)) := (Below.refl _ V2).alloc (Nat.le_refl _) _
    have x0 := cells_new V2 [.pointer (some ⟨P, 0, none⟩)] 62 0 _ rfl
    rw [Addr.add_lit, Nat.zero_add] at x0
    obtain ⟨W3, hW3⟩ : ∃ W3, V2.alloc (.cells #[.pointer (some ⟨P, 0, none⟩)] 62) = W3 := ⟨_, rfl⟩
    obtain ⟨ob, hob⟩ : ∃ ob, V2.heap.size = ob := ⟨_, rfl⟩
    rw [show (List.toArray [Value.pointer (some ⟨P, 0, none⟩)]) = #[.pointer (some ⟨P, 0, none⟩)] from rfl, hW3, hob] at x0
    have HB3 : Hid (Below V.heap.size V W3) := by rw [← hW3]; exact H2.out.2.trans (hBo.mono H2.out.2.size)
    have HO3 : Hid (OpAt V.heap.size (fun b => b = ob) P n W3 (beginP n)) := by
      rw [← hW3]
      exact (H2.out.1.turn (Y := fun b => b = ob) (fun b hb e => by omega)).below hBo
    have HX3 : Hid (∀ b, (fun b => b = ob) b → b < W3.heap.size) := fun b hb => by
      have : b = ob := hb
      rw [this]; exact cell_lt x0
    have HVw : Hid (Below w.heap.size w V) := HB1.out
    rw [hW3, hob]
    clear hW3 hob hBo
    have s1 := (HB3.out.cell (p := ⟨gb, 1, none⟩) (cell_lt r1)).trans r1
    have HWR : Hid (WordsAt V.heap.size n W3 (.slice ar lr cr) rels) := (HR.out.below HVw.out).words HL.out HB3.out
    have HWW : Hid (WordsAt V.heap.size n W3 (.slice aw lw cw) words) := (HW.out.below HVw.out).words HGO.out HB3.out
    have HWK : Hid (WorkAt V.heap.size (fun b => b = ob) P n W3 ob gb (.slice ar lr cr) rels) := ⟨x0, rfl, s1, cell_lt r1, HWR.out⟩
    have htr := traceAll_ 0 (.slice aw lw cw) words W3 HO3.out HX3.out (beginP_inv n) (beginP_inv n).pos HWW.out hn
    have HBW : Hid (∀ W, Kp V.heap.size (fun b => b = ob) W3 W → Below w.heap.size w W) := fun W hk => (HVw.out.trans (HB3.out.mono HVw.out.size)).trans ((hk.below HB3.out.size).mono HVw.out.size)
    have g1 : ∀ W, Kp V.heap.size (fun b => b = ob) W3 W → W.cell? ⟨0, 0, none⟩ = some (.iface 132 (.pointer (some (a 1)))) := fun W hk => (HE.out.below (HBW.out W hk)).glob 1 (by simp)
    have HG1 := Hid.mk' g1
    clear r0 r1 HB1 g1
    cases e1 : traceAllP n (beginP n) 0 words with
    | none =>
      have hst := bool_no htr e1
      have HNO : Hid (∀ T, ¬ CosOk n rels words T) := fun T hT => by
        obtain ⟨_, s, h1, _⟩ := hT
        unfold cosetsP at h1
        rw [e1] at h1; cases h1
      clear htr e1
      go_upto_region 10 with (go_at_call 34; refine hst.mono ?_; rintro e V4 ⟨rfl, hk⟩; have H4 := Hid.mk' hk; have g4 := HG1.out V4 hk; clear hk hst)
      go_wp2_with fail
      go_region
      all_goals go_wp2_with fail
      all_goals go_ret2
      all_goals exact CosSays.no HNO.out ((HBW.out V4 H4.out).drew)
    | some s1 =>
      have hst := bool_ok htr e1
      obtain ⟨i1, i2⟩ := (beginP_inv n).traceAll (beginP_inv n).pos HGO.out e1
      have HFI : Hid (∀ W, OpAt V.heap.size (fun b => b = ob) P n W s1 → Kp V.heap.size (fun b => b = ob) W3 W → Calls Tryd.prog 35 #[.pointer (some ⟨P, 0, none⟩), .func (.func 36) #[] #[.pointer (some ⟨ob, 0, none⟩), .pointer (some ⟨gb, 0, none⟩)]] W fun e w' => BoolSays V.heap.size (fun b => b = ob) P n W (fillF n rels 5001 0 s1) e w') := fun W h1 h2 => fill_ ob gb (.slice ar lr cr) rels W h1 (fun b hb => Nat.lt_of_lt_of_le (HX3.out b hb) h2.size) i1 (HWK.out.kp h2) hn
      have hcp : cosetsP n rels words = fillF n rels 5001 0 s1 := by unfold cosetsP; rw [e1]
      clear htr e1 i1 i2
      cases e2 : fillF n rels 5001 0 s1 with
      | none =>
        rw [e2] at HFI hcp
        have HNO : Hid (∀ T, ¬ CosOk n rels words T) := fun T hT => by
          obtain ⟨_, s, h1, _⟩ := hT
          rw [hcp] at h1; cases h1
        clear e2 hcp
        go_upto_region 10 with (first
          | (go_at_call 34; refine hst.mono ?_; rintro e V4 ⟨rfl, ho, hk⟩; have x4 := hk.cell x0 (.inr rfl); have H4 := Hid.mk' hk; have hfi := bool_no (HFI.out V4 ho hk) rfl; clear ho hk hst)
          | (go_at_call 35; refine hfi.mono ?_; rintro e V5 ⟨rfl, hk⟩; have H5 := Hid.mk' (H4.out.trans hk); have g5 := HG1.out V5 H5.out; clear hk hfi)
          | fail)
        go_wp2_with fail
        go_region
        all_goals go_wp2_with fail
        all_goals go_ret2
        all_goals exact CosSays.no HNO.out ((HBW.out V5 H5.out).drew)
      | some s2 =>
        rw [e2] at HFI hcp
        have hfound := cosets_math HL.out HGO.out hcp
        have HTO : Hid (∀ W, OpAt V.heap.size (fun b => b = ob) P n W s2 → Kp V.heap.size (fun b => b = ob) W3 W → Calls Tryd.prog 38 #[.pointer (some ⟨P, 0, none⟩)] W fun e w' => ∃ v, e = .returned v ∧ Rows w' v (toldP n s2) ∧ Kp V.heap.size (fun b => b = ob) W3 w') := fun W h1 h2 => (told_ W h1 hfound.inv hfound.full hn).mono fun e w' h => by
          obtain ⟨v, k1, k2, k3⟩ := h
          exact ⟨v, k1, k2, h2.trans k3⟩
        obtain ⟨T, hT⟩ : ∃ T, toldP n s2 = T := ⟨_, rfl⟩
        rw [hT] at HTO
        have HOK : Hid (T.length ≤ 400 → CosOk n rels words T) := fun h4 => ⟨HGO.out, s2, hcp, hT.symm, h4⟩
        have HNO : Hid (¬ T.length ≤ 400 → ∀ T, ¬ CosOk n rels words T) := fun h4 T' hT' => by
          obtain ⟨_, s, k1, k2, k3⟩ := hT'
          rw [hcp] at k1
          cases k1
          rw [hT] at k2
          subst k2
          exact h4 k3
        clear e2 hcp hfound hT
        go_upto_region 12 with (first
          | (go_at_call 34; refine hst.mono ?_; rintro e V4 ⟨rfl, ho, hk⟩; have x4 := hk.cell x0 (.inr rfl); have H4 := Hid.mk' hk; have hfi := bool_ok (HFI.out V4 ho hk) rfl; clear ho hk hst)
          | (go_at_call 35; refine hfi.mono ?_; rintro e V5 ⟨rfl, ho, hk⟩; have x5 := hk.cell x4 (.inr rfl); have H5 := Hid.mk' (H4.out.trans hk); have hto := HTO.out V5 ho H5.out; clear ho hk hfi)
          | (go_at_call 38; refine hto.mono ?_; rintro e V6 ⟨v6, rfl, hr6, hk6⟩; have H6 := Hid.mk' (And.intro hr6 hk6); have g6 := HG1.out V6 hk6; obtain ⟨a6, c6, rfl, h66, -⟩ := hr6.open_; clear hk6 hto h66 hr6)
          | fail)
        obtain ⟨lt, hlt⟩ : ∃ lt, T.length = lt := ⟨_, rfl⟩
        rw [hlt] at H6 HOK HNO ⊢
        clear hlt
        by_cases h4 : lt ≤ 400
        · go_wp2_with fail
          go_ret2
          exact CosSays.ok (HOK.out h4) H6.out.1 (HBW.out V6 H6.out.2)
        · go_wp2_with fail
          go_region
          all_goals go_wp2_with fail
          all_goals go_ret2
          all_goals exact CosSays.no (HNO.out h4) ((HBW.out V6 H6.out.2).drew)
  · unfold chkV at hck
    rw [if_neg hgood] at hck
    have HNO : Hid (∀ T, ¬ CosOk n rels words T) := fun T hT => hgood hT.1
    clear hgood
    go_wp2_with (first
      | (go_at_call 32; refine hck.mono ?_; rintro e V ⟨rfl, rfl⟩; clear hck)
      | fail)
    go_ret2
    exact CosSays.no HNO.out HB1.out

end Go.Proofs.YtmaopnbnbiediaaDoor
