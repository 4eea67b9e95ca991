/- Where words lead in a table, whether relators hold, whether it is numbered as it must be. -/
import Derived.Test.YtddcdndckinglaaDoorGrpRef2
namespace Go.Proofs.YtddcdndckinglaaDoor
open Go.RowKit Go.Sort

theorem columnRef_ (l : Int) (h0 : l ≠ 0) (h1 : -12 ≤ l) (h2 : l ≤ 12) (w : World) : Calls Tryd.prog 24 #[.int .i64 l] w fun e w' => e = .returned (.int .i64 (colN l : Int)) ∧ w' = w := by
  by_cases hl : 0 < l
  · have e1 : (2 : Int) * l - 2 = (colN l : Int) := by unfold colN; rw [if_pos hl]; omega
    go_enter Tryd.func24, Tryd.ntmps24
    go_wp2_with fail
    go_ret
    exact ⟨rfl, rfl⟩
  · have e1 : (-2 : Int) * l - 1 = (colN l : Int) := by unfold colN; rw [if_neg hl]; omega
    go_enter Tryd.func24, Tryd.ntmps24
    go_wp2_with fail
    go_ret
    exact ⟨rfl, rfl⟩

/-- A table as it lies in memory. -/
structure TabIn (n : Nat) (w : World) (v : Value) (T : List (List Int)) : Prop where
  rows : Rows w v T
  few : T.length ≤ 400
  wide : ∀ r ∈ T, r.length = 2 * n
  rng : ∀ i x, i < T.length → x < 2 * n → ∃ q : Nat, tAt T i x = (q : Int) ∧ q < T.length
theorem TabIn.below {n : Nat} {w w' : World} {v : Value} {T : List (List Int)} (h : TabIn n w v T) (hB : Below w.heap.size w w') : TabIn n w' v T := ⟨h.rows.below hB, h.few, h.wide, h.rng⟩
/-- The table's cells. -/
theorem TabIn.cells {n : Nat} {w : World} {v : Value} {T : List (List Int)} (h : TabIn n w v T) (hp : 0 < T.length) : ∃ b off cap, v = .slice (some ⟨b, off, none⟩) T.length cap ∧ ∀ i, i < T.length → ∃ a c, w.cell? ⟨b, off + i, none⟩ = some (.slice a (2 * n) c) ∧ (0 < n → ∃ b2 o2, a = some ⟨b2, o2, none⟩ ∧ ∀ x, x < 2 * n → w.cell? ⟨b2, o2 + x, none⟩ = some (.int .i64 (tAt T i x))) := by
  obtain ⟨a, cap, rfl, -, hx⟩ := h.rows.open_
  obtain ⟨b, off, rfl, -, -, hc⟩ := hx hp
  refine ⟨b, off, cap, rfl, fun i hi => ?_⟩
  obtain ⟨a2, c2, h1, h2⟩ := hc i hi
  have hT : T[i]? = some T[i] := List.getElem?_eq_getElem hi
  have hl : (T[i]?.getD []).length = 2 * n := by rw [hT, Option.getD_some]; exact h.wide _ (List.getElem_mem _)
  rw [hl] at h1
  refine ⟨a2, c2, h1, fun hn => ?_⟩
  obtain ⟨a3, c3, e3, -, h3⟩ := h2.open_
  cases e3
  obtain ⟨b2, o2, rfl, -, -, h4⟩ := h3 (by omega)
  refine ⟨b2, o2, rfl, fun x hx => ?_⟩
  rw [h4 x (by omega)]
  rfl

set_option maxRecDepth 100000 in
set_option maxHeartbeats 4000000 in
theorem leads_ {n : Nat} (v vw : Value) (T : List (List Int)) (i : Nat) (ws : List Int) (w : World) (h : TabIn n w v T) (hi : i < T.length) (hw : Ints w vw ws) (hl : LettersIn n ws) (h4 : ws.length ≤ 400) (hn : n ≤ 12) :
    Calls Tryd.prog 13 #[v, .int .i64 (i : Int), vw] w fun e w' => e = .returned (.int .i64 (leadsP T i ws : Int)) ∧ ∃ q, w' = w.drewN q := by
  obtain ⟨b, off, cap, rfl, hc⟩ := h.cells (by omega)
  have HC := Hid.mk' hc
  have HT := Hid.mk' h
  have HW := Hid.mk' hw
  have HL := Hid.mk' hl
  have hf := h.few
  obtain ⟨aw, cw, rfl, -, -⟩ := hw.open_
  obtain ⟨L, hLe⟩ : ∃ L, T.length = L := ⟨_, rfl⟩
  have HLL : Hid (T.length = L) := hLe
  obtain ⟨m, hm⟩ : ∃ m, ws.length = m := ⟨_, rfl⟩
  have HM : Hid (ws.length = m) := hm
  rw [hm] at h4 HW ⊢
  rw [hLe] at hf hi HC ⊢
  clear hc h hw hl hLe hm
  go_enter Tryd.func13, Tryd.ntmps13
  go_wp2_with fail
  go_loopw [1, 7] (fun p k W => ∃ (r kn : Nat), r < L ∧ kn ≤ m ∧ p = .int .i64 (r : Int) ∧ k = .int .i64 (kn : Int) ∧ Hid (∃ q, W = w.drewN q) ∧ Hid (leadsP T r (ws.drop kn) = leadsP T i ws)) (fun _ k _ => m - (intOf k).toNat)
  case atStart => exact ⟨i, 0, hi, by omega, rfl, rfl, ⟨0, rfl⟩, by show _ = _; rw [List.drop_zero]⟩
  case round =>
    obtain ⟨r, k, hr, hk, rfl, rfl, HQ, HK⟩ := hrel
    by_cases hkn : k < m
    · have hkl : k < ws.length := by rw [HM.out]; exact hkn
      obtain ⟨l, hl⟩ : ∃ l, ws[k] = l := ⟨_, rfl⟩
      have hlm := HL.out l (by rw [← hl]; exact List.getElem_mem _)
      have hdr : ws.drop k = l :: ws.drop (k + 1) := by rw [List.drop_eq_getElem_cons hkl, hl]
      obtain ⟨a', c', ea, -, hx⟩ := HW.out.open_
      rw [HM.out] at ea hx
      cases ea
      obtain ⟨b2, o2, rfl, -, -, hcell⟩ := hx (by omega)
      have ck := hcell k hkn
      rw [List.getElem?_eq_getElem hkl, Option.getD_some, hl] at ck
      have hcx := col_lt (n := n) hlm.1 hlm.2.1 hlm.2.2
      have hcol : ∀ V, Calls Tryd.prog 24 #[.int .i64 l] V fun e w' => e = .returned (.int .i64 (colN l : Int)) ∧ w' = V := fun V => columnRef_ l hlm.1 (by omega) (by omega) V
      obtain ⟨x, hxx⟩ : ∃ x, colN l = x := ⟨_, rfl⟩
      have HX : Hid (colN l = x) := hxx
      rw [hxx] at hcx hcol
      obtain ⟨a3, c3, h1, h2⟩ := HC.out r hr
      obtain ⟨b4, o4, rfl, h3⟩ := h2 (by omega)
      have tx := h3 x hcx
      obtain ⟨t, ht, htl⟩ := HT.out.rng r x (by rw [HLL.out]; exact hr) hcx
      rw [ht] at tx
      rw [HLL.out] at htl
      have HNX : Hid (leadsP T t (ws.drop (k + 1)) = leadsP T i ws) := by
        have := HK.out
        rw [hdr, leadsP, hxx, ht, Int.toNat_natCast] at this
        exact this
      obtain ⟨m2, hm2⟩ : ∃ m2, 2 * n = m2 := ⟨_, rfl⟩
      rw [hm2] at h1 hcx
      have z0 : (0 : Int) ≤ (k : Int) := by omega
      have z1 : (k : Int) < (m : Int) := by omega
      have z2 : (0 : Int) ≤ (r : Int) := by omega
      have z3 : (r : Int) < (L : Int) := by omega
      have z4 : (0 : Int) ≤ (x : Int) := by omega
      have z5 : (x : Int) < (m2 : Int) := by omega
      have hsame : ∀ p : Addr, wr.cell? p = w.cell? p := fun p => by obtain ⟨q, e⟩ := HQ.out; rw [e]; rfl
      have ck1 := (hsame _).trans ck
      have h11 := (hsame _).trans h1
      have tx1 := (hsame _).trans tx
      have hcol2 : ∀ n, Calls Tryd.prog 24 #[.int .i64 l] (wr.drewN n) fun e w' => e = .returned (.int .i64 (x : Int)) ∧ w' = wr.drewN n := fun n => hcol _
      clear hl hdr hx hcell h2 h3 ht hxx hm2 hsame ck h1 tx hcol
      go_wp2_with fail
      go_quiet (refine Calls.quiet_of_same (hcol2 _))
      go_wp2
      go_roundw
      case rel => exact ⟨t, k + 1, htl, by omega, rfl, by go_num, by obtain ⟨q, e⟩ := HQ.out; exact ⟨q + nq, by rw [e, World.drewN_drewN]⟩, HNX.out⟩
      case measure => simp [intOf]; omega
    · obtain rfl : k = m := by omega
      have HE : Hid (r = leadsP T i ws) := by
        have := HK.out
        rw [List.drop_eq_nil_of_le (by rw [HM.out]; exact Nat.le_refl _)] at this
        exact this
      go_wp2
      go_ret
      exact ⟨by rw [← HE.out]; rfl, HQ.out⟩

end Go.Proofs.YtddcdndckinglaaDoor
