/- The reference finds cosets, of few words. -/
import Derived.Test.YthcgabghkbgccaaDoorGrpCosR0
namespace Go.Proofs.YthcgabghkbgccaaDoor
open Go.RowKit Go.Sort

theorem take_flat {wss : List (List Int)} {k : Nat} {l : List Int} (h : wss[k]? = some l) : (wss.take (k + 1)).flatten.length = (wss.take k).flatten.length + l.length := by
  rw [flat_take h, List.length_append]

set_option maxRecDepth 100000 in
set_option maxHeartbeats 4000000 in
theorem cosetsR_ (n : Nat) (vr vw : Value) (rels words : List (List Int)) (w : World) (hr : FewAt w vr rels) (hw : FewAt w vw words) (hl : ∀ ws ∈ rels, LettersIn n ws) (hlw : LettersIn n words.flatten) (h60 : rels.flatten.length ≤ 60) (hn : n ≤ 5) :
    Calls Tryd.prog 8 #[.agg #[.int .i64 (n : Int), vr], vw, .int .i64 120] w fun e w' => RefTold n rels words w e w' := by
  obtain ⟨i0, hi0, hz0, hz1, hz2⟩ := info_parts Tryd.info27
  obtain ⟨j0, hj0, hy0, hy1, hy2⟩ := info_parts Tryd.infoi
  obtain ⟨ar, cr, rfl, -, -⟩ := hr.rows.open_
  obtain ⟨aw, cw, rfl, -, -⟩ := hw.rows.open_
  have HR := Hid.mk' hr
  have HW := Hid.mk' hw
  have HL := Hid.mk' (And.intro hl (And.intro hlw h60))
  have hBa : Below w.heap.size w (w.alloc (.cells #[.int .i64 (n : Int), .slice ar rels.length cr] 24)) := (Below.refl _ w).alloc (Nat.le_refl _) _
  have hnew := cells_new w [.int .i64 (n : Int), .slice ar rels.length cr] 24
  have q0 := hnew 0 _ rfl
  have q1 := hnew 1 _ rfl
  rw [Addr.add_lit, Nat.zero_add] at q0 q1
  obtain ⟨W0, hW0⟩ : ∃ W0, w.alloc (.cells #[.int .i64 (n : Int), .slice ar rels.length cr] 24) = W0 := ⟨_, rfl⟩
  obtain ⟨gb, hgb⟩ : ∃ gb, w.heap.size = gb := ⟨_, rfl⟩
  rw [show (List.toArray [Value.int .i64 (n : Int), .slice ar rels.length cr]) = #[.int .i64 (n : Int), .slice ar rels.length cr] from rfl, hW0, hgb] at q0 q1
  have HB0 : Hid (Below w.heap.size w W0) := by rw [← hW0]; exact hBa
  have HG : Hid (w.alloc (.cells #[.int .i64 (n : Int), .slice ar rels.length cr] 24) = W0 ∧ w.heap.size = gb) := ⟨hW0, hgb⟩
  have HQ : Hid (∀ V, Below W0.heap.size W0 V → V.cell? ⟨gb, 0, none⟩ = some (.int .i64 (n : Int)) ∧ V.cell? ⟨gb, 1, none⟩ = some (.slice ar rels.length cr)) := fun V hV => ⟨(hV.cell (p := ⟨gb, 0, none⟩) (cell_lt q0)).trans q0, (hV.cell (p := ⟨gb, 1, none⟩) (cell_lt q1)).trans q1⟩
  have hle : Calls Tryd.prog 6 #[.slice aw words.length cw] W0 fun e w' => ∃ au cu, e = .returned (.slice au words.flatten.length cu) ∧ Ints w' (.slice au words.flatten.length cu) words.flatten ∧ Below W0.heap.size W0 w' := (letters_ _ words W0 (hw.rows.below HB0.out) (by have := hw.few; omega) (by have := hw.short; omega)).mono fun e w' hh => by
    obtain ⟨u, rfl, hi, hb⟩ := hh
    obtain ⟨au, cu, rfl, -, -⟩ := hi.open_
    exact ⟨au, cu, rfl, hi, hb⟩
  have HLO : Hid (∀ (V : World) (au : Option Addr) (cu : Nat), Ints V (.slice au words.flatten.length cu) words.flatten → Calls Tryd.prog 14 #[.agg #[.int .i64 (n : Int), .slice ar rels.length cr], .slice au words.flatten.length cu] V fun e w' => e = .returned (.bool true) ∧ Below V.heap.size V w') := fun V au cu hV => (lettersOfRef_ n _ _ words.flatten V hV (by have := hw.short; omega) (by omega)).mono fun e w' hh => ⟨by rw [hh.1, decide_eq_true hlw], hh.2⟩
  have hf1 := hr.few
  have hf2 := hw.few
  have hf3 := hw.short
  have hf4 := h60
  obtain ⟨lr, hlr⟩ : ∃ lr, rels.length = lr := ⟨_, rfl⟩
  obtain ⟨lw, hlw2⟩ : ∃ lw, words.length = lw := ⟨_, rfl⟩
  obtain ⟨tot, htt⟩ : ∃ tot, words.flatten.length = tot := ⟨_, rfl⟩
  have HLT : Hid (rels.length = lr ∧ words.length = lw ∧ words.flatten.length = tot) := ⟨hlr, hlw2, htt⟩
  rw [hlr] at HQ HG q1 hf1 HLO ⊢
  rw [hlw2] at hf2 hle ⊢
  rw [htt] at hf3 hle HLO
  obtain ⟨m2, hm2⟩ : ∃ m2, 2 * n = m2 := ⟨_, rfl⟩
  have HM : Hid (2 * n = m2) := hm2
  have hmul : (2 : Int) * (n : Int) = (m2 : Int) := by omega
  have hm10 : m2 ≤ 10 := by omega
  clear hr hw hl hlw h60 hBa hnew hW0 hgb hlr hlw2 htt hm2
  go_enter Tryd.func8, Tryd.ntmps8
  go_upto_region 1 with fail
  rw [HG.out.1, HG.out.2]
  go_upto_region 4 with (go_at_call 6; refine hle.mono ?_; rintro e V1 ⟨au, cu, rfl, hi1, hb1⟩; have H1 := Hid.mk' (And.intro hi1 hb1); clear hi1 hb1 hle)
  have hlo := HLO.out V1 au cu (by have := H1.out.1; exact this)
  have r0 := (HQ.out V1 H1.out.2).1
  have r1 := (HQ.out V1 H1.out.2).2
  go_upto_region 7 with (go_at_call 14; refine hlo.mono ?_; rintro e V2 ⟨rfl, hb2⟩; have H2 : Hid (Below W0.heap.size W0 V2) := H1.out.2.trans (hb2.mono H1.out.2.size); clear hb2 hlo)
  have s0 := (HQ.out V2 H2.out).1
  have s1 := (HQ.out V2 H2.out).2
  clear r0 r1 q0 q1
  go_upto_region 8 with fail
  obtain ⟨P, hP⟩ : ∃ P, V2.heap.size = P := ⟨_, rfl⟩
  have hfn := cells_new V2 [.slice none 0 0, .slice none 0 0, .bool false] 46
  have g0 := hfn 0 _ rfl
  have g1 := hfn 1 _ rfl
  have g2 := hfn 2 _ rfl
  rw [Addr.add_lit, Nat.zero_add] at g0 g1 g2
  have hB3 : Below V2.heap.size V2 (V2.alloc (.cells #[.slice none 0 0, .slice none 0 0, .bool false] 46)) := (Below.refl _ V2).alloc (Nat.le_refl _) _
  have z0 : ∀ k, (V2.alloc (.cells #[.slice none 0 0, .slice none 0 0, .bool false] 46)).frozen? ⟨V2.heap.size, k, none⟩ = false := fun k => World.rowIs.frozen (t := 46) (n := 3) (f := fun i => (#[Value.slice none 0 0, .slice none 0 0, .bool false])[i]?.getD undef) ⟨_, heap_alloc_new V2 _, rfl, fun i hi => by
    show (#[Value.slice none 0 0, .slice none 0 0, .bool false])[i]? = some ((#[Value.slice none 0 0, .slice none 0 0, .bool false])[i]?.getD undef)
    rw [Array.getElem?_eq_getElem hi]; rfl⟩ k
  obtain ⟨W3, hW3⟩ : ∃ W3, V2.alloc (.cells #[.slice none 0 0, .slice none 0 0, .bool false] 46) = W3 := ⟨_, rfl⟩
  rw [show (List.toArray [Value.slice none 0 0, .slice none 0 0, .bool false]) = #[.slice none 0 0, .slice none 0 0, .bool false] from rfl, hW3, hP] at g0 g1 g2
  rw [hW3, hP] at z0 hB3
  rw [hW3, hP]
  have hP3 : W3.heap.size = P + 1 := by rw [← hW3, ← hP]; simp
  have HB3 : Hid (Below W0.heap.size W0 W3 ∧ W0.heap.size ≤ P) := ⟨H2.out.trans (hB3.mono (by rw [← hP]; exact H2.out.size)), by rw [← hP]; exact H2.out.size⟩
  have HWR : Hid (WordsAt P n W3 (.slice ar lr cr) rels ∧ WordsAt P n W3 (.slice aw lw cw) words) := by
    have hb : Below w.heap.size w V2 := HB0.out.trans (H2.out.mono HB0.out.size)
    have hb' : w.heap.size ≤ P := by rw [← hP]; exact hb.size
    have k1 := HR.out.words (w' := V2) HL.out.1 hb
    have k2 := HW.out.words (w' := V2) ((flat_in n words).1 HL.out.2.1) hb
    rw [HLT.out.1] at k1
    rw [HLT.out.2.1] at k2
    refine ⟨⟨(k1.rows.mono (S' := fun b => b < P) fun b _ hb => Nat.lt_of_lt_of_le hb hb').below (hP ▸ hB3), k1.lets, k1.short, k1.few⟩, ⟨(k2.rows.mono (S' := fun b => b < P) fun b _ hb => Nat.lt_of_lt_of_le hb hb').below (hP ▸ hB3), k2.lets, k2.short, k2.few⟩⟩
  have hop := openR_ (X := NoX) W3 (fin_none (n := n) (Nat.le_refl P) g0 g1 g2 (z0 0) (z0 1)) (noX W3) (by simp) rfl (by omega)
  have t0 := (HQ.out W3 HB3.out.1).1
  have hgbP : gb < P := by have := cell_lt s0; rw [← hP]; exact this
  have HCE : Hid (∀ V, Kp P NoX W3 V → V.cell? ⟨gb, 0, none⟩ = some (.int .i64 (n : Int)) ∧ V.cell? ⟨gb, 1, none⟩ = some (.slice ar lr cr) ∧ Below w.heap.size w V) := fun V hV => ⟨hV.cell (HQ.out W3 HB3.out.1).1 (.inl hgbP), hV.cell (HQ.out W3 HB3.out.1).2 (.inl hgbP), by
    have k1 := hV.below (B := P) (by rw [hP3]; omega)
    have k2 : w.heap.size ≤ P := Nat.le_trans HB0.out.size HB3.out.2
    exact (HB0.out.trans (HB3.out.1.mono HB0.out.size)).trans (k1.mono k2)⟩
  rw [HM.out] at hop
  clear hfn hW3 hP hP3 hB3 g0 g1 g2 z0 s0 s1
  go_upto_region 9 with (go_at_call 15; refine hop.mono ?_; rintro e W4 ⟨rfl, hF4, hK4⟩; have H4 : Hid (WoAt P P n W3 (traceAllP n (beginP n) 0 words) (words.drop 0) 0 (1 + (words.take 0).flatten.length) W4 (beginP n) (beginP n)) := ⟨begin_pair n, hF4, hK4, by rw [List.drop_zero], by simp [beginP], by simp [beginP]⟩; clear hF4 hK4 hop)
  clear t0
  obtain ⟨OUT1, hO1⟩ : ∃ OUT1, traceAllP n (beginP n) 0 words = OUT1 := ⟨_, rfl⟩
  have HO1 : Hid (traceAllP n (beginP n) 0 words = OUT1) := hO1
  rw [hO1] at H4
  clear hO1
  go_wp2_with fail
  go_loopw [12] (fun p W => ∃ (k : Nat) (s t : Cos), k ≤ lw ∧ p = .int .i64 (k : Int) ∧ Hid (WoAt P P n W3 OUT1 (words.drop k) 0 (1 + (words.take k).flatten.length) W s t)) (fun p _ => lw - (intOf p).toNat)
  case atStart => exact ⟨0, _, _, by omega, rfl, H4.out⟩
  case round =>
    obtain ⟨k, s, t, hk, rfl, HK⟩ := hrel
    by_cases hkn : k < lw
    · have hkl : k < words.length := by rw [HLT.out.2.1]; exact hkn
      obtain ⟨l, hl⟩ : ∃ l, words[k] = l := ⟨_, rfl⟩
      have hlm : l ∈ words := by rw [← hl]; exact List.getElem_mem _
      have hge : words[k]? = some l := by rw [List.getElem?_eq_getElem hkl, hl]
      have hdr : words.drop k = l :: words.drop (k + 1) := by rw [List.drop_eq_getElem_cons hkl, hl]
      have hV1 := (HWR.out.2.kp HK.out.kp).rows
      obtain ⟨a', c', ea, -, hx⟩ := hV1.open_
      rw [HLT.out.2.1] at ea hx
      cases ea
      obtain ⟨b, off, rfl, -, -, hcell⟩ := hx (by omega)
      obtain ⟨a2, c2, ck, hi2⟩ := hcell k hkn
      rw [hge, Option.getD_some] at ck hi2
      have hll : l.length ≤ 400 := HWR.out.2.short l hlm
      have hN9 := HK.out.len
      have hfl := flat_le words (k + 1)
      rw [take_flat hge, HLT.out.2.2] at hfl
      have htr := traceR_ 0 (.slice a2 l.length c2) l wr HK.out.fin HK.out.pr (noX wr) HK.out.low hi2 (HWR.out.2.lets l hlm) (by omega) (by omega)
      have HNX : Hid (∀ V s' t', TraceSays P NoX P n wr s (traceP n s 0 l) l.length V s' t' → WoAt P P n W3 OUT1 (words.drop (k + 1)) 0 (1 + (words.take (k + 1)).flatten.length) V s' t') := fun V s' t' h9 => by
        have h8 := HK.out
        rw [hdr] at h8
        have := h8.next h9
        rw [take_flat hge]
        rw [Nat.add_assoc] at this
        exact this
      obtain ⟨ll, hll2⟩ : ∃ ll, l.length = ll := ⟨_, rfl⟩
      rw [hll2] at ck htr HNX hll
      have y0 : (0 : Int) ≤ (k : Int) := by omega
      have y1 : (k : Int) < (lw : Int) := by omega
      clear hl hge hdr hV1 hx hcell hll2 hN9 hfl
      go_wp2_with (first
        | (go_at_call 16; refine htr.mono ?_; rintro e V ⟨rfl, s', t', h9⟩; have H9 := Hid.mk' (HNX.out V s' t' h9); clear h9 htr)
        | fail)
      go_roundw
      case rel => exact ⟨k + 1, s', t', by omega, by go_num, H9.out⟩
      case measure => simp [intOf]; omega
    · obtain rfl : k = lw := by omega
      have hO : OUT1 = some s := by
        rw [← HK.out.out, List.drop_eq_nil_of_le (by rw [HLT.out.2.1]; exact Nat.le_refl _)]; rfl
      have hcs : cosetsP n rels words = fillF n rels 5001 0 s := by unfold cosetsP; rw [HO1.out, hO]
      have hlen := HK.out.len
      have hfl := flat_le words k
      rw [HLT.out.2.2] at hfl
      have HMA : Hid (MaAt P P n W3 rels (cosetsP n rels words) 0 wr s t) := ⟨HK.out.pr, HK.out.fin, HK.out.kp, hcs.symm, by omega, .inl rfl, Nat.zero_le _⟩
      obtain ⟨OUT2, hO2⟩ : ∃ OUT2, cosetsP n rels words = OUT2 := ⟨_, rfl⟩
      have HO2 : Hid (cosetsP n rels words = OUT2) := hO2
      rw [hO2] at HMA
      clear HK hO hcs hlen hfl hO2 HO1
      go_wp2_with fail
      go_loopw [13] (fun p W => ∃ (k : Nat) (s t : Cos), k ≤ 401 ∧ p = .int .i64 (k : Int) ∧ Hid (MaAt P P n W3 rels OUT2 k W s t)) (fun p _ => 401 - (intOf p).toNat)
      case atStart => exact ⟨0, s, t, by omega, rfl, HMA.out⟩
      case round =>
        obtain ⟨k, s, t, hk, rfl, HK⟩ := hrel
        obtain ⟨v0, v1, rb, cp, hF⟩ := HK.out.fin
        obtain ⟨G, cG, H, cH, rfl, rfl⟩ := hF.open_ HK.out.pr.ti.pos
        have p0 := hF.p0
        have p2 := hF.p2
        have hlen := HK.out.len
        have hle9 := HK.out.le
        obtain ⟨N, hNN⟩ : ∃ N, t.R.length = N := ⟨_, rfl⟩
        have HN : Hid (t.R.length = N ∧ s.R.length = N) := ⟨hNN, HK.out.pr.len.trans hNN⟩
        rw [HN.out.2] at hlen hle9
        rw [hNN] at p0
        by_cases hkN : k < N
        · by_cases h120 : 120 < N
          · have HE : Hid (RefTold n rels words w (.returned (.tuple #[.slice none 0 0, .int .i64 0, .bool false])) wr) := RefTold.no (HCE.out wr HK.out.kp).2.2
            have hd1 : decide (120 < N) = true := decide_eq_true h120
            clear hF hNN
            go_wp2_with fail
            refine bodyPost_ret (v := .tuple #[.slice none 0 0, .int .i64 0, .bool false]) ?_ rfl HE.out
            simp [results, Tryd.f8, go_sem]
          · have p1 := hF.p1
            have ck := hF.of_at (i := k) (by rw [hNN]; exact hkN)
            rw [hNN] at p1
            rw [← HK.out.pr.cls_eq] at ck
            have y0 : (0 : Int) ≤ (k : Int) := by omega
            have y1 : (k : Int) < (N : Int) := by omega
            obtain ⟨x, hx⟩ : ∃ x, s.cls k = x := ⟨_, rfl⟩
            have HX : Hid (s.cls k = x) := hx
            rw [hx] at ck
            clear hF hNN hx
            by_cases hxk : x = k
            · subst hxk
              have q0 := (HCE.out wr HK.out.kp).1
              have q1 := (HCE.out wr HK.out.kp).2.1
              have HWO : Hid (WoAt P P n W3 (traceAllP n s x rels) (rels.drop 0) x (120 + (rels.take 0).flatten.length) wr s t) := ⟨HK.out.pr, HK.out.fin, HK.out.kp, by rw [List.drop_zero], by rw [HN.out.2]; simp; omega, by rw [HN.out.2]; exact hkN⟩
              obtain ⟨OUT3, hO3⟩ : ∃ OUT3, traceAllP n s x rels = OUT3 := ⟨_, rfl⟩
              have HO3 : Hid (traceAllP n s x rels = OUT3) := hO3
              rw [hO3] at HWO
              obtain ⟨Wm, hWm⟩ : ∃ W, W = wr := ⟨_, rfl⟩
              subst hWm
              clear hO3
              go_wp2_with fail
              clear p0 p1 p2 ck q0 q1
              go_loopw [14] (fun p W => ∃ (i : Nat) (s2 t2 : Cos), i ≤ lr ∧ p = .int .i64 (i : Int) ∧ Hid (WoAt P P n W3 OUT3 (rels.drop i) x (120 + (rels.take i).flatten.length) W s2 t2)) (fun p _ => lr - (intOf p).toNat)
              case atStart => exact ⟨0, s, t, by omega, rfl, HWO.out⟩
              case round =>
                obtain ⟨i, s2, t2, hi, rfl, HI⟩ := hrel
                have g1 := (HCE.out wr HI.out.kp).2.1
                have g0 := (HCE.out wr HI.out.kp).1
                have f2 : wr.cell? ⟨P, 2, none⟩ = some (.bool false) := by obtain ⟨_, _, _, _, h⟩ := HI.out.fin; exact h.p2
                by_cases hin : i < lr
                · have hkl : i < rels.length := by rw [HLT.out.1]; exact hin
                  obtain ⟨l, hl⟩ : ∃ l, rels[i] = l := ⟨_, rfl⟩
                  have hlm : l ∈ rels := by rw [← hl]; exact List.getElem_mem _
                  have hge : rels[i]? = some l := by rw [List.getElem?_eq_getElem hkl, hl]
                  have hdr : rels.drop i = l :: rels.drop (i + 1) := by rw [List.drop_eq_getElem_cons hkl, hl]
                  have hV1 := (HWR.out.1.kp HI.out.kp).rows
                  obtain ⟨a', c', ea, -, hx⟩ := hV1.open_
                  rw [HLT.out.1] at ea hx
                  cases ea
                  obtain ⟨b, off, rfl, -, -, hcell⟩ := hx (by omega)
                  obtain ⟨a2, c2, cl, hi2⟩ := hcell i hin
                  rw [hge, Option.getD_some] at cl hi2
                  have hll : l.length ≤ 400 := HWR.out.1.short l hlm
                  have hN9 := HI.out.len
                  have hfl := flat_le rels (i + 1)
                  rw [take_flat hge] at hfl
                  have h60 := HL.out.2.2
                  have htr := traceR_ x (.slice a2 l.length c2) l wr HI.out.fin HI.out.pr (noX wr) HI.out.low hi2 (HWR.out.1.lets l hlm) (by omega) (by omega)
                  have HNX : Hid (∀ V s' t', TraceSays P NoX P n wr s2 (traceP n s2 x l) l.length V s' t' → WoAt P P n W3 OUT3 (rels.drop (i + 1)) x (120 + (rels.take (i + 1)).flatten.length) V s' t') := fun V s' t' h9 => by
                    have h8 := HI.out
                    rw [hdr] at h8
                    have := h8.next h9
                    rw [take_flat hge]
                    rw [Nat.add_assoc] at this
                    exact this
                  obtain ⟨ll, hll2⟩ : ∃ ll, l.length = ll := ⟨_, rfl⟩
                  rw [hll2] at cl htr HNX hll
                  have w0 : (0 : Int) ≤ (i : Int) := by omega
                  have w1 : (i : Int) < (lr : Int) := by omega
                  clear hl hge hdr hV1 hx hcell hll2 hN9 hfl h60
                  go_wp2_with (first
                    | (go_at_call 16; refine htr.mono ?_; rintro e V ⟨rfl, s', t', h9⟩; have H9 := Hid.mk' (HNX.out V s' t' h9); clear h9 htr)
                    | fail)
                  go_roundw
                  case rel => exact ⟨i + 1, s', t', by omega, by go_num, H9.out⟩
                  case measure => simp [intOf]; omega
                · obtain rfl : i = lr := by omega
                  have hfl := flat_le rels i
                  have HO4 : Hid (traceAllP n s x rels = some s2 ∧ s2.R.length ≤ 180) := by
                    refine ⟨?_, by have := HI.out.len; have := HL.out.2.2; omega⟩
                    rw [HO3.out, ← HI.out.out, List.drop_eq_nil_of_le (by rw [HLT.out.1]; exact Nat.le_refl _)]; rfl
                  have HOP : Hid (OpnAt P P n wr (openAllP n s2 x) 0 x (180 + 0) wr s2 t2) := ⟨HI.out.pr, HI.out.fin, Kp.refl _ _ _, by rw [List.drop_zero]; rfl, HO4.out.2, HI.out.low⟩
                  obtain ⟨Wn, hWn⟩ : ∃ W, W = wr := ⟨_, rfl⟩
                  subst hWn
                  clear hfl
                  go_wp2_with fail
                  clear g0 g1 f2
                  go_loopw [15] (fun p W => ∃ (y : Nat) (s3 t3 : Cos), y ≤ m2 ∧ p = .int .i64 (y : Int) ∧ Hid (OpnAt P P n Wn (openAllP n s2 x) y x (180 + y) W s3 t3)) (fun p _ => m2 - (intOf p).toNat)
                  case atStart => exact ⟨0, s2, t2, by omega, rfl, HOP.out⟩
                  case round =>
                    obtain ⟨y, s3, t3, hy, rfl, HY⟩ := hrel
                    have g0 := (HCE.out wr (HI.out.kp.trans HY.out.kp)).1
                    have f2 : wr.cell? ⟨P, 2, none⟩ = some (.bool false) := by obtain ⟨_, _, _, _, h⟩ := HY.out.fin; exact h.p2
                    by_cases hym : y < m2
                    · have hy2 : y < 2 * n := by rw [HM.out]; exact hym
                      have h9 := HY.out.len
                      have hst := stepR_ x y wr HY.out.fin (noX wr) HY.out.pr.ti (by rw [← HY.out.pr.len]; exact HY.out.low) hy2 (by rw [← HY.out.pr.len]; omega) (by omega)
                      obtain ⟨s4, hnx⟩ := HY.out.next hy2 (by omega)
                      have HNX := Hid.mk' hnx
                      obtain ⟨rr, hrr⟩ : ∃ rr, stepR n t3 x y = rr := ⟨_, rfl⟩
                      rw [hrr] at hst HNX
                      clear hnx hrr h9
                      go_wp2_with (first
                        | (go_at_call 17; refine hst.mono ?_; rintro e V ⟨rfl, h8, h9⟩; have H9 := Hid.mk' (HNX.out V h8 h9); clear h8 h9 hst)
                        | fail)
                      go_roundw
                      case rel => exact ⟨y + 1, s4, _, by omega, by go_num, H9.out⟩
                      case measure => simp [intOf]; omega
                    · obtain rfl : y = m2 := by omega
                      have HMA2 : Hid (MaAt P P n W3 rels OUT2 (x + 1) wr s3 t3) := by
                        have h9 := HY.out
                        rw [← HM.out] at h9
                        exact HK.out.work (by rw [HN.out.2]; exact hkN) (by rw [HN.out.2]; omega) HX.out HO4.out.1 hn h9 HI.out.kp
                      go_wp2_with fail
                      go_roundw
                      case rel => exact ⟨x + 1, s3, t3, by omega, by go_num, HMA2.out⟩
                      case measure => simp [intOf]; omega
            · have hxb : ((x : Int) == (k : Int)) = false := beq_false_of_ne (by omega)
              have hxb2 : ((x : Int) != (k : Int)) = true := by simp; omega
              go_wp2_with fail
              go_roundw
              case rel => exact ⟨k + 1, s, t, by omega, by go_num, HK.out.skip (by rw [HN.out.2]; exact hkN) (by rw [HN.out.2]; omega) (by rw [HX.out]; exact hxk)⟩
              case measure => simp [intOf]; omega
        · have hdn := HK.out.done (by rw [HN.out.2]; exact hkN)
          rw [HN.out.2] at hdn
          have HDN : Hid (OUT2 = some s) := hdn.1
          have h190 := hdn.2
          have HFO : Hid (Found n rels words s) := cosets_math HL.out.1 ((flat_in n words).1 HL.out.2.1) (HO2.out.trans HDN.out)
          clear hF hNN hdn
          obtain ⟨Wq, hWq⟩ : ∃ W, W = wr := ⟨_, rfl⟩
          subst hWq
          obtain ⟨b0, hb0⟩ : ∃ b0, Wq.heap.size = b0 := ⟨_, rfl⟩
          have HB9 : Hid (Wq.heap.size = b0) := hb0
          have HTE : Hid (∀ v5 w5 o, w5.ownsRow b0 3 1 v5 (0 + 1) ([] ++ [.int .i64 0]) → (Wq.alloc o).grownBy w5 (Value.slice none 0 0).ownBlock → TelAt b0 n Wq s (toldP n s) 0 (N + 1) w5 v5 (.slice none 0 0) [0] []) := fun v5 w5 o h1 h2 => by
            refine ⟨⟨h1, World.ownsRow_nil _ _ _ _, ⟨[], World.ownsRow_nil _ _ _ _, fun k u x hu => by simp at hu⟩, fun b _ e => (by cases e), fun b _ e => (by cases e), fun b e => (by cases e)⟩, ⟨by simp, fun a ha => ?_, fun a ha => ?_⟩, ?_, ?_, rfl⟩
            · rw [List.mem_singleton.1 ha]; exact HFO.out.inv.pos
            · rw [List.mem_singleton.1 ha]; have := HFO.out.inv.cls.le 0; omega
            · unfold toldP; rw [HN.out.2]
            · have h3 : Below b0 Wq (Wq.alloc o) := (Below.refl _ Wq).alloc (by rw [hb0]; exact Nat.le_refl _) _
              exact h3.grown h2 (by simp; omega) (fun b e => by cases e)
          clear hb0
          go_upto_region 31 with (at_builtin; refine wpList_append_own_at _ rfl (.tmp 133) (.tmp 134) 27 rfl b0 3 j0 (.int .i64 0) 1 8 Tryd.underlying27 hj0 hy0 hy1 hy2 rfl (by decide) _ 0 [] rfl (World.ownsRow_nil _ _ _ _) ⟨_, 0, none⟩ 1 1 [.int .i64 0] rfl rfl (cells_new _ _ _) (by simp [Value.oneCell']) (by unfold maxLen; omega) (by omega) (by simp; have := HB9.out; omega) ?_; intro v5 w5 hown5 hg5 hn5 hl5; have H5 := Hid.mk' (HTE.out v5 w5 _ hown5 hg5); clear hown5 hg5 hn5 hl5)
          clear p0 p2
          have HFT : Hid (∀ V, Below b0 Wq V → FinAt P NoX P n V t) := fun V hV => HK.out.fin.below (by rw [HB9.out]; exact hV)
          have HWB : Hid (∀ V, Below b0 Wq V → Below w.heap.size w V) := fun V hV => by
            have h1 := (HCE.out Wq HK.out.kp).2.2
            exact h1.trans (hV.mono (by rw [← HB9.out]; exact h1.size))
          have HGN : Hid (∀ V, Below b0 Wq V → V.cell? ⟨gb, 0, none⟩ = some (.int .i64 (n : Int))) := fun V hV => by
            have h1 := (HCE.out Wq HK.out.kp).1
            exact (hV.cell (p := ⟨gb, 0, none⟩) (by rw [← HB9.out]; exact cell_lt h1)).trans h1
          obtain ⟨OUT, hOUT⟩ : ∃ OUT, toldP n s = OUT := ⟨_, rfl⟩
          have HOUT : Hid (toldP n s = OUT) := hOUT
          rw [hOUT] at H5
          clear hOUT HTE
          go_wp2_with fail
          go_loopw [16, 17, 18] (fun po pu p W => ∃ (vo vout : Value) (i m : Nat) (ord : List Nat) (out : List (List Int)), i + m = N + 1 ∧ i ≤ N ∧ po = vo ∧ pu = vout ∧ p = .int .i64 (i : Int) ∧ Hid (TelAt b0 n Wq s OUT i m W vo vout ord out)) (fun _ _ p _ => N + 1 - (intOf p).toNat)
          case atStart => exact ⟨_, _, 0, N + 1, _, _, by omega, by omega, rfl, rfl, rfl, H5.out⟩
          case round =>
            obtain ⟨vo, vout, i, m, ord, out, him, hiN, rfl, rfl, rfl, HT⟩ := hrel
            have hL := HT.out.ok.few
            rw [HN.out.2] at hL
            obtain ⟨L, hLe⟩ : ∃ L, ord.length = L := ⟨_, rfl⟩
            have HLL : Hid (ord.length = L) := hLe
            obtain ⟨ao, co, hvo⟩ := own_one HT.out.told.o
            rw [hLe] at hL hvo
            subst hvo
            obtain ⟨au2, cu2, hvu⟩ : ∃ au cu, _ = Value.slice au i cu := by
              obtain ⟨vs, h1, _⟩ := HT.out.told.outs
              obtain ⟨a, c, e⟩ := own_one h1
              rw [HT.out.len] at e
              exact ⟨a, c, e⟩
            subst hvu
            clear hLe
            by_cases hiL : i < L
            · obtain ⟨m', rfl⟩ : ∃ m', m = m' + 1 := ⟨m - 1, by omega⟩
              have hio : i < ord.length := by rw [HLL.out]; exact hiL
              obtain ⟨a, ha⟩ : ∃ a, ord[i]? = some a := ⟨_, List.getElem?_eq_getElem hio⟩
              have ham : a ∈ ord := List.mem_of_getElem? ha
              have haN : a < N := by rw [← HN.out.2]; exact HT.out.ok.lt a ham
              have HA : Hid (ord[i]? = some a ∧ s.cls a = a) := ⟨ha, HT.out.ok.root a ham⟩
              have HFA : Hid (∀ x, x < 2 * n → ent s.R a x ≠ -1) := HFO.out.full a (HT.out.ok.lt a ham) (HT.out.ok.root a ham)
              have HR0 : Hid (OrdAt b0 wr (.slice ao L co) (.slice none 0 0) (.slice au2 i cu2) (rowK s a 0 ord).1 (rowK s a 0 ord).2 out ∧ Below b0 Wq wr) := ⟨HT.out.told, HT.out.bl⟩
              clear ha ham
              go_wp2_with fail
              go_loopw [16, 19, 20] (fun po pr p W => ∃ (vo vr : Value) (x : Nat), x ≤ m2 ∧ po = vo ∧ pr = vr ∧ p = .int .i64 (x : Int) ∧ Hid (OrdAt b0 W vo vr (.slice au2 i cu2) (rowK s a x ord).1 (rowK s a x ord).2 out ∧ Below b0 Wq W)) (fun _ _ p _ => m2 - (intOf p).toNat)
              case atStart => exact ⟨_, _, 0, by omega, rfl, rfl, rfl, HR0.out⟩
              case round =>
                obtain ⟨vo, vr, x, hx, rfl, rfl, rfl, HX⟩ := hrel
                have hok := rowK_ok HFO.out.inv a HT.out.ok HFA.out x (by rw [HM.out]; exact hx)
                have hL2 := hok.1.few
                rw [HN.out.2] at hL2
                have hrl := rowK_len s a x ord
                obtain ⟨ord2, ho2⟩ : ∃ ord2, (rowK s a x ord).1 = ord2 := ⟨_, rfl⟩
                obtain ⟨r2, hr2⟩ : ∃ r2, (rowK s a x ord).2 = r2 := ⟨_, rfl⟩
                have HOR : Hid ((rowK s a x ord).1 = ord2 ∧ (rowK s a x ord).2 = r2 ∧ r2.length = x) := ⟨ho2, hr2, by rw [← hr2]; exact hrl⟩
                rw [ho2] at hok hL2
                rw [ho2, hr2] at HX
                have HOK := Hid.mk' hok
                obtain ⟨L2, hLe2⟩ : ∃ L2, ord2.length = L2 := ⟨_, rfl⟩
                have HL2 : Hid (ord2.length = L2) := hLe2
                have hLL : L ≤ L2 := by rw [← hLe2, ← HLL.out]; exact hok.2.length_le
                rw [hLe2] at hL2
                clear hok ho2 hr2 hLe2 hrl
                obtain ⟨go2, co2, hvo⟩ : ∃ go2 co2, _ = Value.slice (some ⟨go2, 0, none⟩) L2 co2 := by
                  obtain ⟨g, c, e, _⟩ := HX.out.1.o.form (by rw [HL2.out]; omega)
                  rw [HL2.out] at e
                  exact ⟨g, c, e⟩
                subst hvo
                obtain ⟨ar2, cr2, hvr⟩ := own_one HX.out.1.r
                rw [HOR.out.2.2] at hvr
                subst hvr
                have gn := HGN.out wr HX.out.2
                by_cases hxm : x < m2
                · have hx2 : x < 2 * n := by rw [HM.out]; exact hxm
                  have hld := HK.out.pr.lead HA.out.2 hx2 (HFA.out x hx2)
                  obtain ⟨v0, v1, rb, cp, hF⟩ := HFT.out wr HX.out.2
                  obtain ⟨G, cG, H, cH, rfl, rfl⟩ := hF.open_ HK.out.pr.ti.pos
                  have p0 := hF.p0
                  have p1 := hF.p1
                  obtain ⟨ra, ea, -⟩ := hF.cells_at (i := a) (by rw [HN.out.1]; exact haN) hx2
                  obtain ⟨q, hq, hqN⟩ := HK.out.pr.ti.nat hld.1
                  have cq := hF.of_at hqN
                  have htl := HFO.out.inv.cls_lt (i := q) (by rw [HN.out.2, ← HN.out.1]; exact hqN)
                  rw [HN.out.1] at p0 p1 hqN
                  rw [HM.out] at ra
                  rw [hq] at ea
                  have hld2 := hld.2
                  rw [hq, Int.toNat_natCast] at hld2
                  obtain ⟨tt, hto⟩ : ∃ tt, t.cls q = tt := ⟨_, rfl⟩
                  have HTO : Hid (s.cls (ent s.R a x).toNat = tt) := by show _ = tt; rw [← hto]; exact hld2.symm
                  rw [hto] at cq
                  have ci : wr.cell? ⟨go2, i, none⟩ = some (.int .i64 (a : Int)) := by
                    have := HX.out.1.o.cells (g := go2) rfl i (.int .i64 (a : Int)) (by
                      rw [List.getElem?_map]
                      have : ord2[i]? = some a := by
                        obtain ⟨r9, h9⟩ := HOK.out.2
                        rw [← h9, List.getElem?_append_left hio]; exact HA.out.1
                      rw [this]; rfl)
                    rwa [Addr.add_lit, Nat.zero_add] at this
                  have w0 : (0 : Int) ≤ (i : Int) := by omega
                  have w1 : (i : Int) < (L2 : Int) := by omega
                  have w2 : (0 : Int) ≤ (a : Int) := by omega
                  have w3 : (a : Int) < (N : Int) := by omega
                  have w4 : (0 : Int) ≤ (x : Int) := by omega
                  have w5' : (x : Int) < (m2 : Int) := by omega
                  have w6 : (0 : Int) ≤ (q : Int) := by omega
                  have w7 : (q : Int) < (N : Int) := by omega
                  have HXD : Hid (OrdAt b0 wr.drew (.slice (some ⟨go2, 0, none⟩) L2 co2) (.slice ar2 x cr2) (.slice au2 i cu2) ord2 r2 out ∧ Below b0 Wq wr.drew) := ⟨HX.out.1.keep fun _ _ _ => rfl, HX.out.2.drew⟩
                  clear hF hld hld2 hq htl hto
                  go_upto_region 39 with fail
                  go_cut [21] from 149 to 167 (fun c wx => c = .int .i64 (tt : Int) ∧ wx = wr.drew)
                  case first =>
                    go_wp2_with fail
                    go_region
                    all_goals go_wp2_with fail
                    all_goals go_meet
                    all_goals exact ⟨rfl, rfl⟩
                  obtain ⟨rfl, hwc⟩ := hcut
                  obtain ⟨V, hV⟩ : ∃ V, wr.drew = V := ⟨_, rfl⟩
                  rw [hV] at hwc HXD
                  subst hwc
                  clear p0 p1 ra ea cq ci gn hV HX
                  go_wp2_with fail
                  go_loopw [22] (fun p W => ∃ k : Nat, k ≤ L2 ∧ p = .int .i64 (k : Int) ∧ Hid (W = wc ∧ ∀ j, j < k → ord2[j]? ≠ some tt)) (fun p _ => L2 - (intOf p).toNat)
                  case atStart => exact ⟨0, by omega, rfl, rfl, fun j hj => by omega⟩
                  case round =>
                    obtain ⟨k, hk, rfl, HS⟩ := hrel
                    obtain ⟨hwe, hno⟩ := HS.out
                    subst hwe
                    have HNO := Hid.mk' hno
                    have hws : b0 ≤ wr.heap.size := by rw [← HB9.out]; exact HXD.out.2.size
                    clear hno HS
                    by_cases hkL : k < L2
                    · have hk2 : k < ord2.length := by rw [HL2.out]; exact hkL
                      obtain ⟨y, hy⟩ : ∃ y, ord2[k]? = some y := ⟨_, List.getElem?_eq_getElem hk2⟩
                      have HY : Hid (ord2[k]? = some y) := hy
                      have cy : wr.cell? ⟨go2, k, none⟩ = some (.int .i64 (y : Int)) := by
                        have := HXD.out.1.o.cells (g := go2) rfl k (.int .i64 (y : Int)) (by rw [List.getElem?_map, hy]; rfl)
                        rwa [Addr.add_lit, Nat.zero_add] at this
                      have e0 : (0 : Int) ≤ (k : Int) := by omega
                      have e1 : (k : Int) < (L2 : Int) := by omega
                      clear hy
                      by_cases hyt : y = tt
                      · subst hyt
                        have hid := idx_at HNO.out HY.out
                        have HRK : Hid (rowK s a (x + 1) ord = (ord2, r2 ++ [((k : Nat) : Int)])) := by
                          have := rowK_in (ord := ord) HTO.out (by rw [HOR.out.1]; exact hid.1)
                          rw [HOR.out.1, HOR.out.2.1, hid.2] at this
                          exact this
                        have HRW : Hid (wr.ownsRow b0 3 1 (.slice ar2 x cr2) x (r2.map (Value.int .i64))) := by
                          have := HXD.out.1.r
                          rw [HOR.out.2.2] at this
                          exact this
                        have hkb : ((k : Int) == (L2 : Int)) = false := beq_false_of_ne (by omega)
                        have hyy : ((y : Int) != (y : Int)) = false := by simp
                        clear hid
                        go_wp2_with (first
                          | (at_builtin; refine wpList_append_own_at _ rfl (.tmp 190) (.tmp 192) 27 rfl b0 3 j0 (.int .i64 0) 1 8 Tryd.underlying27 hj0 hy0 hy1 hy2 rfl (by decide) _ x _ rfl (HRW.out.alloc _) ⟨_, 0, none⟩ 1 1 [.int .i64 (k : Int)] rfl rfl (cells_new _ _ _) (by simp [Value.oneCell']) (by unfold maxLen; omega) (by omega) (by simp; omega) ?_; intro v5 w5 hown5 hg5 hn5 hl5; have H5 := Hid.mk' (And.intro hown5 (And.intro hg5 hl5)); clear hown5 hg5 hn5 hl5)
                          | fail)
                        go_roundw
                        case rel =>
                          refine ⟨_, _, x + 1, by omega, rfl, rfl, by go_num, ?_⟩
                          rw [HRK.out]
                          exact ⟨HXD.out.1.rowed (by rw [HOR.out.2.2]; exact H5.out.1) H5.out.2.1 H5.out.2.2, (HXD.out.2.alloc hws _).grown H5.out.2.1 (by simp; omega) (fun b e => (HRW.out.lt b e).1)⟩
                        case measure => simp [intOf]; omega
                      · have hyy : ((y : Int) != (tt : Int)) = true := by simp; omega
                        have hyy2 : ((y : Int) == (tt : Int)) = false := beq_false_of_ne (by omega)
                        go_wp2_with fail
                        go_roundw
                        case rel =>
                          refine ⟨k + 1, by omega, by go_num, by trivial, fun j hj => ?_⟩
                          rcases Nat.lt_or_ge j k with hl | hl
                          · exact HNO.out j hl
                          · obtain rfl : j = k := by omega
                            rw [HY.out]; exact fun e => hyt (Option.some.inj e)
                        case measure => simp [intOf]; omega
                    · obtain rfl : k = L2 := by omega
                      have hnm := idx_none (ord := ord2) (t := tt) (by rw [HL2.out]; exact HNO.out)
                      have HRK : Hid (rowK s a (x + 1) ord = (ord2 ++ [tt], r2 ++ [((k : Nat) : Int)])) := by
                        have := rowK_out (ord := ord) HTO.out (by rw [HOR.out.1]; exact hnm)
                        rw [HOR.out.1, HOR.out.2.1, HL2.out] at this
                        exact this
                      have HOW : Hid (wr.ownsRow b0 3 1 (.slice (some ⟨go2, 0, none⟩) k co2) k (ord2.map fun (i : Nat) => Value.int .i64 (i : Int))) := by
                        have := HXD.out.1.o
                        rw [HL2.out] at this
                        exact this
                      have HAP : Hid (∀ v5 w5 o, w5.ownsRow b0 3 1 v5 (k + 1) ((ord2.map fun (i : Nat) => Value.int .i64 (i : Int)) ++ [.int .i64 (tt : Int)]) → (wr.alloc o).grownBy w5 (some go2) → (v5.ownBlock = some go2 ∨ v5.ownBlock = some (wr.alloc o).heap.size) → (OrdAt b0 w5 v5 (.slice ar2 x cr2) (.slice au2 i cu2) (ord2 ++ [tt]) r2 out ∧ Below b0 Wq w5) ∧ w5.ownsRow b0 3 1 (.slice ar2 x cr2) x (r2.map (Value.int .i64)) ∧ b0 ≤ w5.heap.size) := fun v5 w5 o h1 h2 h3 => by
                        have k1 := HXD.out.1.order (by rw [HL2.out]; exact h1) h2 h3
                        have k2 : Below b0 Wq w5 := (HXD.out.2.alloc hws o).grown h2 (by simp; omega) (fun b e => by cases e; exact (HOW.out.lt go2 rfl).1)
                        have k3 := k1.r
                        rw [HOR.out.2.2] at k3
                        exact ⟨⟨k1, k2⟩, k3, by have := h2.size; simp at this; omega⟩
                      clear hnm
                      go_wp2_with (first
                        | (at_builtin; refine wpList_append_own_at _ rfl (.tmp 186) (.tmp 188) 27 rfl b0 3 j0 (.int .i64 0) 1 8 Tryd.underlying27 hj0 hy0 hy1 hy2 rfl (by decide) _ k _ rfl (HOW.out.alloc _) ⟨_, 0, none⟩ 1 1 [.int .i64 (tt : Int)] rfl rfl (cells_new _ _ _) (by simp [Value.oneCell']) (by unfold maxLen; omega) (by omega) (by simp; omega) ?_; intro v5 w5 hown5 hg5 hn5 hl5; have H5 := Hid.mk' (HAP.out v5 w5 _ hown5 hg5 hl5); have hw5 := H5.out.2.2; clear hown5 hg5 hn5 hl5)
                        | (at_builtin; refine wpList_append_own_at _ rfl (.tmp 190) (.tmp 192) 27 rfl b0 3 j0 (.int .i64 0) 1 8 Tryd.underlying27 hj0 hy0 hy1 hy2 rfl (by decide) _ x _ rfl (H5.out.2.1.alloc _) ⟨_, 0, none⟩ 1 1 [.int .i64 (k : Int)] rfl rfl (cells_new _ _ _) (by simp [Value.oneCell']) (by unfold maxLen; omega) (by omega) (by simp; omega) ?_; intro v6 w6 hown6 hg6 hn6 hl6; have H6 := Hid.mk' (And.intro hown6 (And.intro hg6 hl6)); clear hown6 hg6 hn6 hl6)
                        | fail)
                      go_roundw
                      case rel =>
                        refine ⟨_, _, x + 1, by omega, rfl, rfl, by go_num, ?_⟩
                        rw [HRK.out]
                        exact ⟨H5.out.1.1.rowed (by rw [HOR.out.2.2]; exact H6.out.1) H6.out.2.1 H6.out.2.2, (H5.out.1.2.alloc hw5 _).grown H6.out.2.1 (by simp; omega) (fun b e => (H5.out.2.1.lt b e).1)⟩
                      case measure => simp [intOf]; omega
                · obtain rfl : x = m2 := by omega
                  obtain ⟨vs, hvs⟩ := HX.out.1.outs
                  have HVS := Hid.mk' hvs
                  have HOU : Hid (wr.ownsRow b0 27 1 (.slice au2 i cu2) i vs) := by
                    have := hvs.1
                    rw [HT.out.len] at this
                    exact this
                  have hws : b0 ≤ wr.heap.size := by rw [← HB9.out]; exact HX.out.2.size
                  have HFI : Hid (toldF n s m' (i + 1) ord2 (out ++ [r2]) = OUT) := by
                    have := HT.out.fin
                    rw [toldF_step HA.out.1, HM.out, HOR.out.1, HOR.out.2.1] at this
                    exact this
                  clear hvs
                  go_wp2_with (first
                    | (at_builtin; refine wpList_append_own_at _ rfl (.tmp 194) (.tmp 196) 22 rfl b0 27 i0 (.slice none 0 0) 1 24 Tryd.underlying22 hi0 hz0 hz1 hz2 rfl (by decide) _ i _ rfl (HOU.out.alloc _) ⟨_, 0, none⟩ 1 1 [.slice ar2 x cr2] rfl rfl (cells_new _ _ _) (by simp [Value.oneCell']) (by unfold maxLen; omega) (by omega) (by simp; omega) ?_; intro v5 w5 hown5 hg5 hn5 hl5; have H5 := Hid.mk' (And.intro hown5 (And.intro hg5 hl5)); clear hown5 hg5 hn5 hl5)
                    | fail)
                  go_roundw
                  case rel =>
                    refine ⟨_, _, i + 1, m', ord2, out ++ [r2], by omega, by omega, rfl, rfl, by go_num, ⟨HX.out.1.push vs HVS.out (by rw [HT.out.len]; exact H5.out.1) H5.out.2.1 H5.out.2.2, HOK.out.1, HFI.out, ?_, by rw [List.length_append, HT.out.len]; rfl⟩⟩
                    exact (HX.out.2.alloc hws _).grown H5.out.2.1 (by simp; omega) (fun b e => (HOU.out.lt b e).1)
                  case measure => simp [intOf]; omega
            · have HOE : Hid (out = toldP n s) := by rw [HOUT.out, ← HT.out.fin]; exact (toldF_end (by rw [HLL.out]; omega)).symm
              have HE : Hid (RefTold n rels words w (.returned (.tuple #[.slice au2 i cu2, .int .i64 0, .bool true])) wr) := RefTold.yes (HWB.out wr HT.out.bl) (HO2.out.trans HDN.out) (by rw [← HOE.out]; exact HT.out.told.rows) (by rw [← HOE.out, HT.out.len]; omega)
              have hi4 : ¬ (400 < i) := by omega
              go_wp2_with fail
              refine bodyPost_ret (v := .tuple #[.slice au2 i cu2, .int .i64 0, .bool true]) ?_ rfl HE.out
              simp [results, Tryd.f8, go_sem]

end Go.Proofs.YthcgabghkbgccaaDoor
