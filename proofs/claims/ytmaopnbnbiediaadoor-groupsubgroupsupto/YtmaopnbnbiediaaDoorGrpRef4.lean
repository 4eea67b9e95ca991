/- Where words lead in a table, whether relators hold, whether it is numbered as it must be. Whether relators hold in a table, whether it is numbered as it must be. -/
import Derived.Test.YtmaopnbnbiediaaDoorGrpRef2
namespace Go.Proofs.YtmaopnbnbiediaaDoor
open Go.RowKit Go.Sort

theorem columnRef_ (l : Int) (h0 : l ≠ 0) (h1 : -12 ≤ l) (h2 : l ≤ 12) (w : World) : Calls Tryd.prog 64 #[.int .i64 l] w fun e w' => e = .returned (.int .i64 (colN l : Int)) ∧ w' = w := by
  by_cases hl : 0 < l
  · have e1 : (2 : Int) * l - 2 = (colN l : Int) := by unfold colN; rw [if_pos hl]; omega
    go_enter Tryd.func64, Tryd.ntmps64
    go_wp2_with fail
    go_ret
    exact ⟨rfl, rfl⟩
  · have e1 : (-2 : Int) * l - 1 = (colN l : Int) := by unfold colN; rw [if_neg hl]; omega
    go_enter Tryd.func64, Tryd.ntmps64
    go_wp2_with fail
    go_ret
    exact ⟨rfl, rfl⟩

/-- A table as it lies in memory. -/
structure TabIn (n : Nat) (w : World) (v : Value) (T : List (List Int)) : Prop where
  rows : Rows w v T
  few : T.length ≤ 400
  wide : ∀ r ∈ T, r.length = 2 * n
  rng : ∀ i x, i < T.length → x < 2 * n → ∃ q : Nat, tAt T i x = (q : Int) ∧ q < T.length
theorem TabIn.below {n : Nat} {w w' : World} {v : Value} {T : List (List Int)} (h : TabIn n w v T) (hB : Below w.heap.size w w') : TabIn n w' v T := ⟨h.rows.below hB, h.few, h.wide, h.rng⟩
/-- The table's cells. -/
theorem TabIn.cells {n : Nat} {w : World} {v : Value} {T : List (List Int)} (h : TabIn n w v T) (hp : 0 < T.length) : ∃ b off cap, v = .slice (some ⟨b, off, none⟩) T.length cap ∧ ∀ i, i < T.length → ∃ a c, w.cell? ⟨b, off + i, none⟩ = some (.slice a (2 * n) c) ∧ (0 < n → ∃ b2 o2, a = some ⟨b2, o2, none⟩ ∧ ∀ x, x < 2 * n → w.cell? ⟨b2, o2 + x, none⟩ = some (.int .i64 (tAt T i x))) := by
  obtain ⟨a, cap, rfl, -, hx⟩ := h.rows.open_
  obtain ⟨b, off, rfl, -, -, hc⟩ := hx hp
  refine ⟨b, off, cap, rfl, fun i hi => ?_⟩
  obtain ⟨a2, c2, h1, h2⟩ := hc i hi
  have hT : T[i]? = some T[i] := List.getElem?_eq_getElem hi
  have hl : (T[i]?.getD []).length = 2 * n := by rw [hT, Option.getD_some]; exact h.wide _ (List.getElem_mem _)
  rw [hl] at h1
  refine ⟨a2, c2, h1, fun hn => ?_⟩
  obtain ⟨a3, c3, e3, -, h3⟩ := h2.open_
  cases e3
  obtain ⟨b2, o2, rfl, -, -, h4⟩ := h3 (by omega)
  refine ⟨b2, o2, rfl, fun x hx => ?_⟩
  rw [h4 x (by omega)]
  rfl

set_option maxRecDepth 100000 in
set_option maxHeartbeats 4000000 in
theorem leads_ {n : Nat} (v vw : Value) (T : List (List Int)) (i : Nat) (ws : List Int) (w : World) (h : TabIn n w v T) (hi : i < T.length) (hw : Ints w vw ws) (hl : LettersIn n ws) (h4 : ws.length ≤ 400) (hn : n ≤ 12) :
    Calls Tryd.prog 48 #[v, .int .i64 (i : Int), vw] w fun e w' => e = .returned (.int .i64 (leadsP T i ws : Int)) ∧ ∃ q, w' = w.drewN q := by
  obtain ⟨b, off, cap, rfl, hc⟩ := h.cells (by omega)
  have HC := Hid.mk' hc
  have HT := Hid.mk' h
  have HW := Hid.mk' hw
  have HL := Hid.mk' hl
  have hf := h.few
  obtain ⟨aw, cw, rfl, -, -⟩ := hw.open_
  obtain ⟨L, hLe⟩ : ∃ L, T.length = L := ⟨_, rfl⟩
  have HLL : Hid (T.length = L) := hLe
  obtain ⟨m, hm⟩ : ∃ m, ws.length = m := ⟨_, rfl⟩
  have HM : Hid (ws.length = m) := hm
  rw [hm] at h4 HW ⊢
  rw [hLe] at hf hi HC ⊢
  clear hc h hw hl hLe hm
  go_enter Tryd.func48, Tryd.ntmps48
  go_wp2_with fail
  go_loopw [1, 7] (fun p k W => ∃ (r kn : Nat), r < L ∧ kn ≤ m ∧ p = .int .i64 (r : Int) ∧ k = .int .i64 (kn : Int) ∧ Hid (∃ q, W = w.drewN q) ∧ Hid (leadsP T r (ws.drop kn) = leadsP T i ws)) (fun _ k _ => m - (intOf k).toNat)
  case atStart => exact ⟨i, 0, hi, by omega, rfl, rfl, ⟨0, rfl⟩, by show _ = _; rw [List.drop_zero]⟩
  case round =>
    obtain ⟨r, k, hr, hk, rfl, rfl, HQ, HK⟩ := hrel
    by_cases hkn : k < m
    · have hkl : k < ws.length := by rw [HM.out]; exact hkn
      obtain ⟨l, hl⟩ : ∃ l, ws[k] = l := ⟨_, rfl⟩
      have hlm := HL.out l (by rw [← hl]; exact List.getElem_mem _)
      have hdr : ws.drop k = l :: ws.drop (k + 1) := by rw [List.drop_eq_getElem_cons hkl, hl]
      obtain ⟨a', c', ea, -, hx⟩ := HW.out.open_
      rw [HM.out] at ea hx
      cases ea
      obtain ⟨b2, o2, rfl, -, -, hcell⟩ := hx (by omega)
      have ck := hcell k hkn
      rw [List.getElem?_eq_getElem hkl, Option.getD_some, hl] at ck
      have hcx := col_lt (n := n) hlm.1 hlm.2.1 hlm.2.2
      have hcol : ∀ V, Calls Tryd.prog 64 #[.int .i64 l] V fun e w' => e = .returned (.int .i64 (colN l : Int)) ∧ w' = V := fun V => columnRef_ l hlm.1 (by omega) (by omega) V
      obtain ⟨x, hxx⟩ : ∃ x, colN l = x := ⟨_, rfl⟩
      have HX : Hid (colN l = x) := hxx
      rw [hxx] at hcx hcol
      obtain ⟨a3, c3, h1, h2⟩ := HC.out r hr
      obtain ⟨b4, o4, rfl, h3⟩ := h2 (by omega)
      have tx := h3 x hcx
      obtain ⟨t, ht, htl⟩ := HT.out.rng r x (by rw [HLL.out]; exact hr) hcx
      rw [ht] at tx
      rw [HLL.out] at htl
      have HNX : Hid (leadsP T t (ws.drop (k + 1)) = leadsP T i ws) := by
        have := HK.out
        rw [hdr, leadsP, hxx, ht, Int.toNat_natCast] at this
        exact this
      obtain ⟨m2, hm2⟩ : ∃ m2, 2 * n = m2 := ⟨_, rfl⟩
      rw [hm2] at h1 hcx
      have z0 : (0 : Int) ≤ (k : Int) := by omega
      have z1 : (k : Int) < (m : Int) := by omega
      have z2 : (0 : Int) ≤ (r : Int) := by omega
      have z3 : (r : Int) < (L : Int) := by omega
      have z4 : (0 : Int) ≤ (x : Int) := by omega
      have z5 : (x : Int) < (m2 : Int) := by omega
      have hsame : ∀ p : Addr, wr.cell? p = w.cell? p := fun p => by obtain ⟨q, e⟩ := HQ.out; rw [e]; rfl
      have ck1 := (hsame _).trans ck
      have h11 := (hsame _).trans h1
      have tx1 := (hsame _).trans tx
      have hcol2 : ∀ n, Calls Tryd.prog 64 #[.int .i64 l] (wr.drewN n) fun e w' => e = .returned (.int .i64 (x : Int)) ∧ w' = wr.drewN n := fun n => hcol _
      clear hl hdr hx hcell h2 h3 ht hxx hm2 hsame ck h1 tx hcol
      go_wp2_with fail
      go_quiet (refine Calls.quiet_of_same (hcol2 _))
      go_wp2
      go_roundw
      case rel => exact ⟨t, k + 1, htl, by omega, rfl, by go_num, by obtain ⟨q, e⟩ := HQ.out; exact ⟨q + nq, by rw [e, World.drewN_drewN]⟩, HNX.out⟩
      case measure => simp [intOf]; omega
    · obtain rfl : k = m := by omega
      have HE : Hid (r = leadsP T i ws) := by
        have := HK.out
        rw [List.drop_eq_nil_of_le (by rw [HM.out]; exact Nat.le_refl _)] at this
        exact this
      go_wp2
      go_ret
      exact ⟨by rw [← HE.out]; rfl, HQ.out⟩

end Go.Proofs.YtmaopnbnbiediaaDoor

namespace Go.Proofs.YtmaopnbnbiediaaDoor
open Go.RowKit Go.Sort

set_option maxRecDepth 100000 in
set_option maxHeartbeats 4000000 in
theorem holds_ {n : Nat} (vr v : Value) (rels T : List (List Int)) (w : World) (h : TabIn n w v T) (_hp : 0 < T.length) (hr : FewAt w vr rels) (hl : ∀ ws ∈ rels, LettersIn n ws) (hh : ∀ i, i < T.length → ∀ r ∈ rels, leadsP T i r = i) (hn : n ≤ 12) :
    Calls Tryd.prog 29 #[.agg #[.int .i64 (n : Int), vr], v] w fun e w' => e = .returned (.bool true) ∧ Below w.heap.size w w' := by
  obtain ⟨ar, cr, rfl, -, -⟩ := hr.rows.open_
  obtain ⟨av, cv, rfl, -, -⟩ := h.rows.open_
  have hBa : Below w.heap.size w (w.alloc (.cells #[.int .i64 (n : Int), .slice ar rels.length cr] 24)) := (Below.refl _ w).alloc (Nat.le_refl _) _
  have q1 := cells_new w [.int .i64 (n : Int), .slice ar rels.length cr] 24 1 _ rfl
  rw [Addr.add_lit, Nat.zero_add] at q1
  obtain ⟨W0, hW0⟩ : ∃ W0, w.alloc (.cells #[.int .i64 (n : Int), .slice ar rels.length cr] 24) = W0 := ⟨_, rfl⟩
  obtain ⟨gb, hgb⟩ : ∃ gb, w.heap.size = gb := ⟨_, rfl⟩
  rw [show (List.toArray [Value.int .i64 (n : Int), .slice ar rels.length cr]) = #[.int .i64 (n : Int), .slice ar rels.length cr] from rfl, hW0, hgb] at q1
  have HB0 : Hid (Below w.heap.size w W0) := by rw [← hW0]; exact hBa
  have HG : Hid (w.alloc (.cells #[.int .i64 (n : Int), .slice ar rels.length cr] 24) = W0 ∧ w.heap.size = gb) := ⟨hW0, hgb⟩
  have HT : Hid (TabIn n W0 (.slice av T.length cv) T) := h.below HB0.out
  have HR : Hid (FewAt W0 (.slice ar rels.length cr) rels) := hr.below HB0.out
  have HL := Hid.mk' hl
  have HH := Hid.mk' hh
  have hf := h.few
  have hr4 := hr.few
  obtain ⟨L, hLe⟩ : ∃ L, T.length = L := ⟨_, rfl⟩
  have HLL : Hid (T.length = L) := hLe
  obtain ⟨lr, hlr⟩ : ∃ lr, rels.length = lr := ⟨_, rfl⟩
  have HLR : Hid (rels.length = lr) := hlr
  rw [hLe] at hf HT ⊢
  rw [hlr] at q1 hr4 HG HR ⊢
  clear hBa h hr hl hh hLe hlr hW0 hgb _hp
  go_enter Tryd.func29, Tryd.ntmps29
  go_upto_region 1 with fail
  rw [HG.out.1, HG.out.2]
  go_wp2_with fail
  go_loopw [5] (fun p W => ∃ i : Nat, i ≤ L ∧ p = .int .i64 (i : Int) ∧ Hid (Below W0.heap.size W0 W)) (fun p _ => L - (intOf p).toNat)
  case atStart => exact ⟨0, by omega, rfl, Below.refl _ _⟩
  case round =>
    obtain ⟨i, hi, rfl, HB⟩ := hrel
    by_cases hil : i < L
    · go_wp2_with fail
      go_loopw [6] (fun p W => ∃ k : Nat, k ≤ lr ∧ p = .int .i64 (k : Int) ∧ Hid (Below W0.heap.size W0 W)) (fun p _ => lr - (intOf p).toNat)
      case atStart => exact ⟨0, by omega, rfl, HB.out⟩
      case round =>
        obtain ⟨k, hk, rfl, HB2⟩ := hrel
        have r1 := (HB2.out.cell (p := ⟨gb, 1, none⟩) (cell_lt q1)).trans q1
        by_cases hkn : k < lr
        · have hkl : k < rels.length := by rw [HLR.out]; exact hkn
          obtain ⟨l, hl⟩ : ∃ l, rels[k]? = some l := ⟨_, List.getElem?_eq_getElem hkl⟩
          have hlm : l ∈ rels := List.mem_of_getElem? hl
          obtain ⟨a', c', ea, -, hx⟩ := (HR.out.rows.below HB2.out).open_
          rw [HLR.out] at ea hx
          cases ea
          obtain ⟨b, off, rfl, -, -, hcell⟩ := hx (by omega)
          obtain ⟨a2, c2, ck, hi2⟩ := hcell k hkn
          rw [hl, Option.getD_some] at ck hi2
          have hle := leads_ (.slice av L cv) (.slice a2 l.length c2) T i l wr (HT.out.below HB2.out) (by rw [HLL.out]; exact hil) hi2 (HL.out l hlm) (Nat.le_trans (len_flat hlm) HR.out.short) hn
          rw [HH.out i (by rw [HLL.out]; exact hil) l hlm] at hle
          have hll4 := Nat.le_trans (len_flat hlm) HR.out.short
          obtain ⟨ll, hll⟩ : ∃ ll, l.length = ll := ⟨_, rfl⟩
          rw [hll] at hle ck hll4
          have z0 : (0 : Int) ≤ (k : Int) := by omega
          have z1 : (k : Int) < (lr : Int) := by omega
          clear hl hlm hx hcell hi2 hll
          go_wp2_with (first
            | (go_at_call 48; refine hle.mono ?_; rintro e V ⟨rfl, q, hV⟩; have H2 : Hid (Below W0.heap.size W0 V) := by { rw [hV]; exact ⟨HB2.out.os, HB2.out.tape, HB2.out.output, HB2.out.size, HB2.out.block⟩ }; clear hV hle)
            | fail)
          go_roundw
          case rel => exact ⟨k + 1, by omega, by go_num, H2.out⟩
          case measure => simp [intOf]; omega
        · obtain rfl : k = lr := by omega
          go_wp2_with fail
          go_roundw
          case rel => exact ⟨i + 1, by omega, by go_num, HB2.out⟩
          case measure => simp [intOf]; omega
    · obtain rfl : i = L := by omega
      go_wp2_with fail
      go_ret
      exact ⟨rfl, HB0.out.trans (HB.out.mono HB0.out.size)⟩

theorem scanR_le : ∀ {r : List Int} {nx m : Nat}, scanR nx r = some m → nx ≤ m
  | [], nx, m, h => by cases h; exact Nat.le_refl _
  | v :: vs, nx, m, h => by
    unfold scanR at h
    split at h
    · cases h
    · split at h
      · have := scanR_le h; omega
      · exact scanR_le h
theorem scanT_le : ∀ {T : List (List Int)} {i nx m : Nat}, scanT i nx T = some m → nx ≤ m
  | [], i, nx, m, h => by cases h; exact Nat.le_refl _
  | r :: rs, i, nx, m, h => by
    unfold scanT at h
    split at h
    · cases h
    · cases e : scanR nx r with
      | none => rw [e] at h; cases h
      | some n2 =>
        rw [e] at h
        have := scanR_le e
        have := scanT_le h
        omega

set_option maxRecDepth 100000 in
set_option maxHeartbeats 4000000 in
theorem standard_ {n : Nat} (v : Value) (T : List (List Int)) (w : World) (h : TabIn n w v T) (hp : 0 < T.length) (hs : scanT 0 1 T = some T.length) (hn : n ≤ 12) :
    Calls Tryd.prog 28 #[v] w fun e w' => e = .returned (.bool true) ∧ w' = w := by
  obtain ⟨b, off, cap, rfl, hc⟩ := h.cells hp
  have HC := Hid.mk' hc
  have HT := Hid.mk' h
  have hf := h.few
  obtain ⟨L, hLe⟩ : ∃ L, T.length = L := ⟨_, rfl⟩
  have HLL : Hid (T.length = L) := hLe
  obtain ⟨m2, hm2⟩ : ∃ m2, 2 * n = m2 := ⟨_, rfl⟩
  have HM : Hid (2 * n = m2) := hm2
  rw [hLe] at hf HC hs ⊢
  have HS := Hid.mk' hs
  have hm24 : m2 ≤ 24 := by omega
  clear hc h hLe hs hm2 hp
  go_enter Tryd.func28, Tryd.ntmps28
  go_wp2_with fail
  go_loopw [3, 4] (fun nv p W => ∃ nx i : Nat, i ≤ L ∧ nx ≤ L ∧ nv = .int .i64 (nx : Int) ∧ p = .int .i64 (i : Int) ∧ Hid (scanT i nx (T.drop i) = some L) ∧ W = w) (fun _ p _ => L - (intOf p).toNat)
  case atStart => exact ⟨1, 0, by omega, scanT_le HS.out, rfl, rfl, by show _ = _; rw [List.drop_zero]; exact HS.out, rfl⟩
  case round =>
    obtain ⟨nx, i, hi, hnx, rfl, rfl, HK, rfl⟩ := hrel
    by_cases hil : i < L
    · have hiT : i < T.length := by rw [HLL.out]; exact hil
      obtain ⟨r, hr⟩ : ∃ r, T[i] = r := ⟨_, rfl⟩
      have hdr : T.drop i = r :: T.drop (i + 1) := by rw [List.drop_eq_getElem_cons hiT, hr]
      have hrl : r.length = m2 := by rw [← HM.out, ← hr]; exact HT.out.wide _ (List.getElem_mem _)
      have hta : ∀ x, tAt T i x = r[x]?.getD 0 := fun x => by unfold tAt; rw [List.getElem?_eq_getElem hiT, Option.getD_some, hr]
      have hsc := HK.out
      rw [hdr] at hsc
      unfold scanT at hsc
      have hni : ¬ nx ≤ i := fun e => by rw [if_pos e] at hsc; cases hsc
      rw [if_neg hni] at hsc
      cases e1 : scanR nx r with
      | none => rw [e1] at hsc; cases hsc
      | some n2 =>
        rw [e1] at hsc
        have HSC : Hid (scanT (i + 1) n2 (T.drop (i + 1)) = some L) := hsc
        have HN2 : Hid (scanR nx (r.drop 0) = some n2) := by show _ = _; rw [List.drop_zero]; exact e1
        have h2L := scanT_le hsc
        obtain ⟨a3, c3, h1, h2⟩ := HC.out i hil
        rw [HM.out] at h1 h2
        have H2 := Hid.mk' h2
        have HTA := Hid.mk' hta
        have HRL := Hid.mk' hrl
        have z2 : (0 : Int) ≤ (i : Int) := by omega
        have z3 : (i : Int) < (L : Int) := by omega
        have z4 : ¬ ((nx : Int) ≤ (i : Int)) := by omega
        clear hr hdr hrl hta hsc e1 h2
        go_wp2_with fail
        go_loopw [3, 5] (fun nv p W => ∃ ny x : Nat, x ≤ m2 ∧ ny ≤ L ∧ nv = .int .i64 (ny : Int) ∧ p = .int .i64 (x : Int) ∧ Hid (scanR ny (r.drop x) = some n2) ∧ W = wr) (fun _ p _ => m2 - (intOf p).toNat)
        case atStart => exact ⟨nx, 0, by omega, hnx, rfl, rfl, HN2.out, rfl⟩
        case round =>
          obtain ⟨ny, x, hx, hny, rfl, rfl, HK2, rfl⟩ := hrel
          by_cases hxm : x < m2
          · obtain ⟨b4, o4, rfl, h3⟩ := H2.out (by have := HM.out; omega)
            have tx := h3 x hxm
            have hxr : x < r.length := by rw [HRL.out]; exact hxm
            obtain ⟨t, ht⟩ : ∃ t, r[x] = t := ⟨_, rfl⟩
            rw [HTA.out x, List.getElem?_eq_getElem hxr, Option.getD_some, ht] at tx
            have hdx : r.drop x = t :: r.drop (x + 1) := by rw [List.drop_eq_getElem_cons hxr, ht]
            obtain ⟨tq, htq, htl⟩ := HT.out.rng i x (by rw [HLL.out]; exact hil) (by rw [HM.out]; exact hxm)
            rw [HTA.out x, List.getElem?_eq_getElem hxr, Option.getD_some, ht] at htq
            subst htq
            rw [HLL.out] at htl
            have hsr := HK2.out
            rw [hdx] at hsr
            unfold scanR at hsr
            have hgt : ¬ (ny : Int) < (tq : Int) := fun e => by rw [if_pos e] at hsr; cases hsr
            rw [if_neg hgt] at hsr
            have y0 : (0 : Int) ≤ (x : Int) := by omega
            have y1 : (x : Int) < (m2 : Int) := by omega
            by_cases e3 : (tq : Int) = (ny : Int)
            · rw [if_pos e3] at hsr
              have HNX := Hid.mk' hsr
              have h3L := scanR_le hsr
              obtain rfl : tq = ny := by omega
              clear h3 ht hdx hsr e3
              go_wp2_with fail
              go_roundw
              case rel => exact ⟨tq + 1, x + 1, by omega, by omega, by go_num, by go_num, HNX.out, trivial⟩
              case measure => simp [intOf]; omega
            · rw [if_neg e3] at hsr
              have HNX := Hid.mk' hsr
              have hbe : ((tq : Int) == (ny : Int)) = false := beq_false_of_ne e3
              clear h3 ht hdx hsr e3
              go_wp2_with fail
              go_roundw
              case rel => exact ⟨ny, x + 1, by omega, by omega, rfl, by go_num, HNX.out, trivial⟩
              case measure => simp [intOf]; omega
          · obtain rfl : x = m2 := by omega
            have HE : Hid (ny = n2) := by
              have := HK2.out
              rw [List.drop_eq_nil_of_le (by rw [HRL.out]; exact Nat.le_refl _)] at this
              exact Option.some.inj this
            go_wp2_with fail
            go_roundw
            case rel => exact ⟨ny, i + 1, by omega, by omega, rfl, by go_num, by rw [HE.out]; exact HSC.out, trivial⟩
            case measure => simp [intOf]; omega
    · obtain rfl : i = L := by omega
      have HE : Hid (nx = i) := by
        have := HK.out
        rw [List.drop_eq_nil_of_le (by rw [HLL.out]; exact Nat.le_refl _)] at this
        exact Option.some.inj this
      have hE : nx = i := HE.out
      subst hE
      go_wp2_with fail
      go_ret
      exact ⟨rfl, rfl⟩

end Go.Proofs.YtmaopnbnbiediaaDoor
