/- Whether relators hold in a table, and whether it is numbered as it must be: both answers. -/
import Derived.Test.YtmaopnbnbiediaaDoorGrpRef4
import Derived.Test.YtmaopnbnbiediaaDoorGrpRef
namespace Go.Proofs.YtmaopnbnbiediaaDoor
open Go.RowKit Go.Sort

theorem leads_lt2 {n : Nat} {T : List (List Int)} (hF : ∀ i x, i < T.length → x < 2 * n → ∃ q : Nat, tAt T i x = (q : Int) ∧ q < T.length) : ∀ {ws : List Int} {i : Nat}, i < T.length → LettersIn n ws → leadsP T i ws < T.length
  | [], i, hi, _ => hi
  | l :: ls, i, hi, hl => by
    have hlm := hl l (by simp)
    have hx := col_lt (n := n) hlm.1 hlm.2.1 hlm.2.2
    obtain ⟨q, hq, hq2⟩ := hF i (colN l) hi hx
    rw [leadsP, hq, Int.toNat_natCast]
    exact leads_lt2 hF hq2 fun y hy => hl y (by simp [hy])

set_option maxRecDepth 100000 in
set_option maxHeartbeats 4000000 in
theorem holdsB_ {n : Nat} (vr v : Value) (rels T : List (List Int)) (w : World) (h : TabIn n w v T) (hr : FewAt w vr rels) (hl : ∀ ws ∈ rels, LettersIn n ws) (hn : n ≤ 12) :
    Calls Tryd.prog 29 #[.agg #[.int .i64 (n : Int), vr], v] w fun e w' => e = .returned (.bool (keepsB rels T)) ∧ Below w.heap.size w w' := by
  obtain ⟨ar, cr, rfl, -, -⟩ := hr.rows.open_
  obtain ⟨av, cv, rfl, -, -⟩ := h.rows.open_
  have hBa : Below w.heap.size w (w.alloc (.cells #[.int .i64 (n : Int), .slice ar rels.length cr] 24)) := (Below.refl _ w).alloc (Nat.le_refl _) _
  have q1 := cells_new w [.int .i64 (n : Int), .slice ar rels.length cr] 24 1 _ rfl
  rw [Addr.add_lit, Nat.zero_add] at q1
  obtain ⟨W0, hW0⟩ : ∃ W0, w.alloc (.cells #[.int .i64 (n : Int), .slice ar rels.length cr] 24) = W0 := ⟨_, rfl⟩
  obtain ⟨gb, hgb⟩ : ∃ gb, w.heap.size = gb := ⟨_, rfl⟩
  rw [show (List.toArray [Value.int .i64 (n : Int), .slice ar rels.length cr]) = #[.int .i64 (n : Int), .slice ar rels.length cr] from rfl, hW0, hgb] at q1
  have HB0 : Hid (Below w.heap.size w W0) := by rw [← hW0]; exact hBa
  have HG : Hid (w.alloc (.cells #[.int .i64 (n : Int), .slice ar rels.length cr] 24) = W0 ∧ w.heap.size = gb) := ⟨hW0, hgb⟩
  have HT : Hid (TabIn n W0 (.slice av T.length cv) T) := h.below HB0.out
  have HR : Hid (FewAt W0 (.slice ar rels.length cr) rels) := hr.below HB0.out
  have HL := Hid.mk' hl
  have hf := h.few
  have hr4 := hr.few
  obtain ⟨L, hLe⟩ : ∃ L, T.length = L := ⟨_, rfl⟩
  have HLL : Hid (T.length = L) := hLe
  obtain ⟨lr, hlr⟩ : ∃ lr, rels.length = lr := ⟨_, rfl⟩
  have HLR : Hid (rels.length = lr) := hlr
  obtain ⟨KB, hKB⟩ : ∃ KB, keepsB rels T = KB := ⟨_, rfl⟩
  have HKB := Hid.mk' hKB
  rw [hKB]
  rw [hLe] at hf HT ⊢
  rw [hlr] at q1 hr4 HG HR ⊢
  clear hBa h hr hl hLe hlr hW0 hgb hKB
  go_enter Tryd.func29, Tryd.ntmps29
  go_upto_region 1 with fail
  rw [HG.out.1, HG.out.2]
  go_wp2_with fail
  go_loopw [5] (fun p W => ∃ i : Nat, i ≤ L ∧ p = .int .i64 (i : Int) ∧ Hid (Below W0.heap.size W0 W ∧ ∀ j, j < i → ∀ r ∈ rels, leadsP T j r = j)) (fun p _ => L - (intOf p).toNat)
  case atStart => exact ⟨0, by omega, rfl, Below.refl _ _, fun j hj => (by omega)⟩
  case round =>
    obtain ⟨i, hi, rfl, HB⟩ := hrel
    by_cases hil : i < L
    · go_wp2_with fail
      go_loopw [6] (fun p W => ∃ k : Nat, k ≤ lr ∧ p = .int .i64 (k : Int) ∧ Hid (Below W0.heap.size W0 W ∧ ∀ r ∈ rels.take k, leadsP T i r = i)) (fun p _ => lr - (intOf p).toNat)
      case atStart => exact ⟨0, by omega, rfl, HB.out.1, fun r hr => (by simp at hr)⟩
      case round =>
        obtain ⟨k, hk, rfl, HB2⟩ := hrel
        have r1 := (HB2.out.1.cell (p := ⟨gb, 1, none⟩) (cell_lt q1)).trans q1
        by_cases hkn : k < lr
        · have hkl : k < rels.length := by rw [HLR.out]; exact hkn
          obtain ⟨l, hl⟩ : ∃ l, rels[k]? = some l := ⟨_, List.getElem?_eq_getElem hkl⟩
          have hlm : l ∈ rels := List.mem_of_getElem? hl
          have HTK : Hid (rels.take (k + 1) = rels.take k ++ [l]) := by show _ = _; rw [List.take_add_one, hl]; rfl
          have HLM := Hid.mk' hlm
          obtain ⟨a', c', ea, -, hx⟩ := (HR.out.rows.below HB2.out.1).open_
          rw [HLR.out] at ea hx
          cases ea
          obtain ⟨b, off, rfl, -, -, hcell⟩ := hx (by omega)
          obtain ⟨a2, c2, ck, hi2⟩ := hcell k hkn
          rw [hl, Option.getD_some] at ck hi2
          have hle := leads_ (.slice av L cv) (.slice a2 l.length c2) T i l wr (HT.out.below HB2.out.1) (by rw [HLL.out]; exact hil) hi2 (HL.out l hlm) (Nat.le_trans (len_flat hlm) HR.out.short) hn
          have hq9 := leads_lt2 HT.out.rng (i := i) (by rw [HLL.out]; exact hil) (HL.out l hlm)
          rw [HLL.out] at hq9
          obtain ⟨q, hq⟩ : ∃ q, leadsP T i l = q := ⟨_, rfl⟩
          have HQ : Hid (leadsP T i l = q) := hq
          rw [hq] at hle hq9
          have hll4 := Nat.le_trans (len_flat hlm) HR.out.short
          obtain ⟨ll, hll⟩ : ∃ ll, l.length = ll := ⟨_, rfl⟩
          rw [hll] at hle ck hll4
          have z0 : (0 : Int) ≤ (k : Int) := by omega
          have z1 : (k : Int) < (lr : Int) := by omega
          clear hl hlm hx hcell hi2 hll hq
          by_cases e : q = i
          · subst e
            go_wp2_with (first
              | (go_at_call 48; refine hle.mono ?_; rintro e V ⟨rfl, q2, hV⟩; have H2 : Hid (Below W0.heap.size W0 V) := by { rw [hV]; exact ⟨HB2.out.1.os, HB2.out.1.tape, HB2.out.1.output, HB2.out.1.size, HB2.out.1.block⟩ }; clear hV hle)
              | fail)
            go_roundw
            case rel =>
              refine ⟨k + 1, by omega, by go_num, H2.out, fun r hr => ?_⟩
              rw [HTK.out] at hr
              rcases List.mem_append.1 hr with hr | hr
              · exact HB2.out.2 r hr
              · rw [List.mem_singleton.1 hr]; exact HQ.out
            case measure => simp [intOf]; omega
          · have hb : ((q : Int) != (i : Int)) = true := by simp; omega
            have HE : Hid (KB = false) := by
              rw [← HKB.out]
              exact keepsB_no HLM.out (by rw [HLL.out]; exact hil) (by rw [HQ.out]; exact e)
            go_wp2_with (first
              | (go_at_call 48; refine hle.mono ?_; rintro e V ⟨rfl, q2, hV⟩; have H2 : Hid (Below W0.heap.size W0 V) := by { rw [hV]; exact ⟨HB2.out.1.os, HB2.out.1.tape, HB2.out.1.output, HB2.out.1.size, HB2.out.1.block⟩ }; clear hV hle)
              | fail)
            go_ret
            exact ⟨by rw [HE.out]; rfl, HB0.out.trans (H2.out.mono HB0.out.size)⟩
        · obtain rfl : k = lr := by omega
          go_wp2_with fail
          go_roundw
          case rel =>
            refine ⟨i + 1, by omega, by go_num, HB2.out.1, fun j hj r hr => ?_⟩
            by_cases e : j = i
            · subst e
              exact HB2.out.2 r (by rw [List.take_of_length_le (by rw [HLR.out]; exact Nat.le_refl _)]; exact hr)
            · exact HB.out.2 j (by omega) r hr
          case measure => simp [intOf]; omega
    · obtain rfl : i = L := by omega
      have HE : Hid (KB = true) := by
        show _ = _
        rw [← HKB.out, keepsB_iff]
        intro r hr j hj
        exact HB.out.2 j (by rw [HLL.out] at hj; exact hj) r hr
      go_wp2_with fail
      go_ret
      exact ⟨by rw [HE.out]; rfl, HB0.out.trans (HB.out.1.mono HB0.out.size)⟩

def stdB (T : List (List Int)) : Bool := scanT 0 1 T == some T.length
theorem scanR_le_max : ∀ {r : List Int} {nx m N : Nat}, (∀ v ∈ r, v < (N : Int)) → nx ≤ N → scanR nx r = some m → m ≤ N
  | [], nx, m, N, _, h, e => by cases e; exact h
  | v :: vs, nx, m, N, hv, h, e => by
    unfold scanR at e
    have h0 := hv v (by simp)
    split at e
    · cases e
    · split at e
      · exact scanR_le_max (fun u hu => hv u (by simp [hu])) (by omega) e
      · exact scanR_le_max (fun u hu => hv u (by simp [hu])) h e

set_option maxRecDepth 100000 in
set_option maxHeartbeats 4000000 in
theorem standardB_ {n : Nat} (v : Value) (T : List (List Int)) (w : World) (h : TabIn n w v T) (hp : 0 < T.length) (hn : n ≤ 12) :
    Calls Tryd.prog 28 #[v] w fun e w' => e = .returned (.bool (stdB T)) ∧ w' = w := by
  obtain ⟨b, off, cap, rfl, hc⟩ := h.cells hp
  have HC := Hid.mk' hc
  have HT := Hid.mk' h
  have hf := h.few
  obtain ⟨L, hLe⟩ : ∃ L, T.length = L := ⟨_, rfl⟩
  have HLL : Hid (T.length = L) := hLe
  obtain ⟨m2, hm2⟩ : ∃ m2, 2 * n = m2 := ⟨_, rfl⟩
  have HM : Hid (2 * n = m2) := hm2
  obtain ⟨SB, hSB⟩ : ∃ SB, stdB T = SB := ⟨_, rfl⟩
  obtain ⟨Z, hZ⟩ : ∃ Z, scanT 0 1 T = Z := ⟨_, rfl⟩
  have HZ : Hid (scanT 0 1 T = Z) := hZ
  have HSB : Hid ((Z == some L) = SB) := by show _ = _; rw [← hSB, ← hLe, ← hZ]; rfl
  rw [hSB]
  rw [hLe] at hf HC hp ⊢
  have hm24 : m2 ≤ 24 := by omega
  clear hc h hLe hm2 hSB hZ
  go_enter Tryd.func28, Tryd.ntmps28
  go_wp2_with fail
  go_loopw [3, 4] (fun nv p W => ∃ nx i : Nat, i ≤ L ∧ nx ≤ L ∧ nv = .int .i64 (nx : Int) ∧ p = .int .i64 (i : Int) ∧ Hid (scanT i nx (T.drop i) = Z) ∧ W = w) (fun _ p _ => L - (intOf p).toNat)
  case atStart => exact ⟨1, 0, by omega, by omega, rfl, rfl, by show _ = _; rw [List.drop_zero]; exact HZ.out, rfl⟩
  case round =>
    obtain ⟨nx, i, hi, hnx, rfl, rfl, HK, rfl⟩ := hrel
    by_cases hil : i < L
    · have hiT : i < T.length := by rw [HLL.out]; exact hil
      obtain ⟨r, hr⟩ : ∃ r, T[i] = r := ⟨_, rfl⟩
      have hdr : T.drop i = r :: T.drop (i + 1) := by rw [List.drop_eq_getElem_cons hiT, hr]
      have hrl : r.length = m2 := by rw [← HM.out, ← hr]; exact HT.out.wide _ (List.getElem_mem _)
      have hta : ∀ x, tAt T i x = r[x]?.getD 0 := fun x => by unfold tAt; rw [List.getElem?_eq_getElem hiT, Option.getD_some, hr]
      have hsc := HK.out
      rw [hdr] at hsc
      unfold scanT at hsc
      obtain ⟨a3, c3, h1, h2⟩ := HC.out i hil
      rw [HM.out] at h1 h2
      have H2 := Hid.mk' h2
      have HTA := Hid.mk' hta
      have HRL := Hid.mk' hrl
      have z2 : (0 : Int) ≤ (i : Int) := by omega
      have z3 : (i : Int) < (L : Int) := by omega
      by_cases hni : nx ≤ i
      · rw [if_pos hni] at hsc
        have HE : Hid (SB = false) := by show _ = _; rw [← HSB.out, ← hsc]; rfl
        have z4 : (nx : Int) ≤ (i : Int) := by omega
        clear hr hdr hrl hta hsc h2
        go_wp2_with fail
        go_ret
        exact ⟨by rw [HE.out]; rfl, rfl⟩
      · rw [if_neg hni] at hsc
        have HSC : Hid ((match scanR nx (r.drop 0) with | none => none | some nx' => scanT (i + 1) nx' (T.drop (i + 1))) = Z) := by show _ = _; rw [List.drop_zero]; exact hsc
        have z4 : ¬ ((nx : Int) ≤ (i : Int)) := by omega
        clear hr hdr hrl hta hsc h2
        go_wp2_with fail
        go_loopw [3, 5] (fun nv p W => ∃ ny x : Nat, x ≤ m2 ∧ ny ≤ L ∧ nv = .int .i64 (ny : Int) ∧ p = .int .i64 (x : Int) ∧ Hid ((match scanR ny (r.drop x) with | none => none | some nx' => scanT (i + 1) nx' (T.drop (i + 1))) = Z) ∧ W = wr) (fun _ p _ => m2 - (intOf p).toNat)
        case atStart => exact ⟨nx, 0, by omega, hnx, rfl, rfl, HSC.out, rfl⟩
        case round =>
          obtain ⟨ny, x, hx, hny, rfl, rfl, HK2, rfl⟩ := hrel
          by_cases hxm : x < m2
          · obtain ⟨b4, o4, rfl, h3⟩ := H2.out (by have := HM.out; omega)
            have tx := h3 x hxm
            have hxr : x < r.length := by rw [HRL.out]; exact hxm
            obtain ⟨t, ht⟩ : ∃ t, r[x] = t := ⟨_, rfl⟩
            rw [HTA.out x, List.getElem?_eq_getElem hxr, Option.getD_some, ht] at tx
            have hdx : r.drop x = t :: r.drop (x + 1) := by rw [List.drop_eq_getElem_cons hxr, ht]
            obtain ⟨tq, htq, htl⟩ := HT.out.rng i x (by rw [HLL.out]; exact hil) (by rw [HM.out]; exact hxm)
            rw [HTA.out x, List.getElem?_eq_getElem hxr, Option.getD_some, ht] at htq
            subst htq
            rw [HLL.out] at htl
            have hsr := HK2.out
            rw [hdx] at hsr
            unfold scanR at hsr
            have y0 : (0 : Int) ≤ (x : Int) := by omega
            have y1 : (x : Int) < (m2 : Int) := by omega
            by_cases hgt : (ny : Int) < (tq : Int)
            · rw [if_pos hgt] at hsr
              have HE : Hid (SB = false) := by show _ = _; rw [← HSB.out, ← hsr]; rfl
              clear h3 ht hdx hsr
              go_wp2_with fail
              go_ret
              exact ⟨by rw [HE.out]; rfl, rfl⟩
            · rw [if_neg hgt] at hsr
              by_cases e3 : (tq : Int) = (ny : Int)
              · rw [if_pos e3] at hsr
                have HNX := Hid.mk' hsr
                obtain rfl : tq = ny := by omega
                clear h3 ht hdx hsr e3
                go_wp2_with fail
                go_roundw
                case rel => exact ⟨tq + 1, x + 1, by omega, by omega, by go_num, by go_num, HNX.out, trivial⟩
                case measure => simp [intOf]; omega
              · rw [if_neg e3] at hsr
                have HNX := Hid.mk' hsr
                have hbe : ((tq : Int) == (ny : Int)) = false := beq_false_of_ne e3
                clear h3 ht hdx hsr e3
                go_wp2_with fail
                go_roundw
                case rel => exact ⟨ny, x + 1, by omega, by omega, rfl, by go_num, HNX.out, trivial⟩
                case measure => simp [intOf]; omega
          · obtain rfl : x = m2 := by omega
            have HE : Hid (scanT (i + 1) ny (T.drop (i + 1)) = Z) := by
              have := HK2.out
              rw [List.drop_eq_nil_of_le (by rw [HRL.out]; exact Nat.le_refl _)] at this
              exact this
            go_wp2_with fail
            go_roundw
            case rel => exact ⟨ny, i + 1, by omega, by omega, rfl, by go_num, HE.out, trivial⟩
            case measure => simp [intOf]; omega
    · obtain rfl : i = L := by omega
      have HE : Hid (SB = decide (nx = i)) := by
        have h1 := HK.out
        rw [List.drop_eq_nil_of_le (by rw [HLL.out]; exact Nat.le_refl _)] at h1
        show _ = _
        rw [← HSB.out, ← h1]
        by_cases e : nx = i
        · subst e; simp [scanT]
        · simp [scanT, e]
      by_cases e : nx = i
      · have HE2 : Hid (SB = true) := by show _ = _; rw [HE.out, decide_eq_true e]
        subst e
        go_wp2_with fail
        go_ret
        exact ⟨by rw [HE2.out]; rfl, rfl⟩
      · have HE2 : Hid (SB = false) := by show _ = _; rw [HE.out, decide_eq_false e]
        have hbe : ((nx : Int) == (i : Int)) = false := beq_false_of_ne (by omega)
        go_wp2_with fail
        go_ret
        exact ⟨by rw [HE2.out]; rfl, rfl⟩

end Go.Proofs.YtmaopnbnbiediaaDoor
