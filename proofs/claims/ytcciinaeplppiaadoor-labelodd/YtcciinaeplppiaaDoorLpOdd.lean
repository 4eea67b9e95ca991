/- LabelOdd answers true of whatever number of parts and seeds. -/
import Derived.Test.YtcciinaeplppiaaDoorLabOdd6
import Derived.Test.YtcciinaeplppiaaDoorLpCorner
import Derived.Test.YtcciinaeplppiaaDoorLpLaw0
import Derived.Deep.DeepCutAuto
namespace Go.Proofs.YtcciinaeplppiaaDoor
open Go.RowKit Go.Sort

theorem rem3 (v : Int) : -3 < Int.tmod v 3 ∧ Int.tmod v 3 < 3 := by
  refine ⟨?_, Int.tmod_lt_of_pos v (by omega)⟩
  have h := Int.tmod_lt_of_pos (-v) (b := 3) (by omega)
  rw [Int.neg_tmod] at h
  omega
theorem remN (k m : Nat) : Int.tmod (k : Int) (m : Int) = ((k % m : Nat) : Int) := rfl
/-- How many steps are left until a label may stand. -/
def stepsZ (p q r : Nat) (x : Int) : Nat :=
  if x = 0 then (if p ≠ 0 then 0 else if q ≠ 0 then 1 else 2) else if x = 1 then (if q ≠ 0 then 0 else if r ≠ 0 then 1 else 2) else (if r ≠ 0 then 0 else if p ≠ 0 then 1 else 2)
theorem steps0 {q r : Nat} (h : q ≠ 0 ∨ r ≠ 0) : stepsZ 0 q r 1 < stepsZ 0 q r 0 := by
  unfold stepsZ
  by_cases a : q = 0 <;> by_cases b : r = 0 <;> simp [a, b] <;> omega
theorem steps1 {p r : Nat} (h : p ≠ 0 ∨ r ≠ 0) : stepsZ p 0 r 2 < stepsZ p 0 r 1 := by
  unfold stepsZ
  by_cases a : p = 0 <;> by_cases b : r = 0 <;> simp [a, b] <;> omega
theorem steps2 {p q : Nat} (h : p ≠ 0 ∨ q ≠ 0) : stepsZ p q 0 0 < stepsZ p q 0 2 := by
  unfold stepsZ
  by_cases a : p = 0 <;> by_cases b : q = 0 <;> simp [a, b] <;> omega
theorem good_more {l : List Spt} {ls : List Int} {x : Int} {s : Spt} (h : ∀ j, j < ls.length → goodAt l ls j) (hs : l[ls.length]? = some s) (hx : labOk s x) : ∀ j, j < (ls ++ [x]).length → goodAt l (ls ++ [x]) j := fun j hj => by
  rw [List.length_append] at hj
  simp only [List.length_cons, List.length_nil] at hj
  rcases Nat.lt_or_ge j ls.length with g | g
  · have := h j g
    unfold goodAt labA at this ⊢
    rw [List.getElem?_append_left g]
    exact this
  · obtain rfl : j = ls.length := by omega
    unfold goodAt labA
    rw [hs, List.getElem?_append_right (Nat.le_refl _), Nat.sub_self]
    exact hx

set_option maxRecDepth 100000 in
theorem odd_early {sd : List Int} (n : Int) (vl : Value) (w : World) (hl : Ints w vl sd) (h9 : n < 1 ∨ 12 < n ∨ sd.length = 0) :
    Calls Tryd.prog 4 #[.int .i64 n, vl] w fun e w' => e = .returned (.bool true) ∧ Below w.heap.size w w' := by
  have hco := corner_ w
  obtain ⟨al, cl, rfl, -, -⟩ := hl.open_
  obtain ⟨m, hm⟩ : ∃ m, sd.length = m := ⟨_, rfl⟩
  rw [hm] at h9 ⊢
  clear hl hm
  by_cases h1 : n < 1
  · go_enter Tryd.func4, Tryd.ntmps4
    go_wp2_with (first
      | (go_at_call 6; refine hco.mono ?_; rintro e V1 ⟨rfl, hb⟩; have HB := Hid.mk' hb; clear hb hco)
      | fail)
    go_ret
    exact ⟨rfl, HB.out⟩
  · by_cases h2 : 12 < n
    · go_enter Tryd.func4, Tryd.ntmps4
      go_wp2_with (first
        | (go_at_call 6; refine hco.mono ?_; rintro e V1 ⟨rfl, hb⟩; have HB := Hid.mk' hb; clear hb hco)
        | fail)
      go_ret
      exact ⟨rfl, HB.out⟩
    · obtain rfl : m = 0 := by omega
      go_enter Tryd.func4, Tryd.ntmps4
      go_wp2_with (first
        | (go_at_call 6; refine hco.mono ?_; rintro e V1 ⟨rfl, hb⟩; have HB := Hid.mk' hb; clear hb hco)
        | fail)
      go_ret
      exact ⟨rfl, HB.out⟩

set_option maxRecDepth 100000 in
set_option maxHeartbeats 4000000 in
theorem odd_main {kq : Addr} {sd : List Int} (n : Nat) (vl : Value) (w : World) (hK : KindAt kq w) (hl : Ints w vl sd) (h1 : 1 ≤ n) (h2 : n ≤ 12) (h0 : 0 < sd.length) :
    Calls Tryd.prog 4 #[.int .i64 (n : Int), vl] w fun e w' => e = .returned (.bool true) ∧ Below w.heap.size w w' := by
  obtain ⟨j0, hj0, hy0, hy1, hy2⟩ := info_parts Tryd.infoInt
  have hco := corner_ w
  have HK := Hid.mk' hK
  have HSO : Hid (∀ V, Below w.heap.size w V → Calls Tryd.prog 11 #[.int .i64 (n : Int)] V fun e w' => ∃ v c, e = .returned (.slice v (ptsN n) c) ∧ (∃ g, v = some ⟨g, 0, none⟩ ∧ ∀ k s, (spotsL n)[k]? = some s → w'.cell? ⟨g, k * 3, none⟩ = some (.int .i64 (s.1 : Int)) ∧ w'.cell? ⟨g, k * 3 + 1, none⟩ = some (.int .i64 (s.2.1 : Int)) ∧ w'.cell? ⟨g, k * 3 + 2, none⟩ = some (.int .i64 (s.2.2 : Int))) ∧ Below w.heap.size w w') := fun V hV => (spots_ n h2 V).mono fun e w' h => by
    obtain ⟨v, k1, k2, k3⟩ := h
    have h91 : 0 < (spotsL n).length := by rw [(spots_few n h2).1]; unfold ptsN; have : 2 * 3 ≤ (n + 1) * (n + 2) := Nat.mul_le_mul (by omega) (by omega); omega
    have k4 : w'.ownsRow V.heap.size 48 3 v (spotsL n).length (spotCells (spotsL n)) := k2
    obtain ⟨g, c, rfl, -⟩ := k4.form h91
    refine ⟨some ⟨g, 0, none⟩, c, by rw [k1, (spots_few n h2).1], ⟨g, rfl, fun k s hk => ?_⟩, hV.trans (k3.mono hV.size)⟩
    exact SpotRow.cells k2 hk
  have HSP : Hid (∀ k, k < ptsN n → ∃ p q r : Nat, (spotsL n)[k]? = some (p, q, r) ∧ (p ≠ 0 ∨ q ≠ 0 ∨ r ≠ 0) ∧ p ≤ 12 ∧ q ≤ 12 ∧ r ≤ 12) := fun k hk => by
    have hk' : k < (spotsL n).length := by rw [(spots_few n h2).1]; exact hk
    obtain ⟨⟨p, q, r⟩, hs⟩ : ∃ s, (spotsL n)[k]? = some s := ⟨_, List.getElem?_eq_getElem hk'⟩
    have hm := List.mem_of_getElem? hs
    have h3 := spots_in hm
    have h4 := spots_sum hm
    unfold sumS at h4
    dsimp only at h3 h4
    exact ⟨p, q, r, hs, by omega, by omega, by omega, by omega⟩
  have hp91 := (spots_few n h2).2
  have HPN : Hid ((spotsL n).length = ptsN n) := (spots_few n h2).1
  obtain ⟨N, hN⟩ : ∃ N, ptsN n = N := ⟨_, rfl⟩
  rw [hN] at HSO HSP hp91 HPN
  obtain ⟨al, cl, rfl, -, hx⟩ := hl.open_
  obtain ⟨sb, so, rfl, -, -, hcs⟩ := hx h0
  have HSD : Hid (∀ V k, Below w.heap.size w V → k < sd.length → V.cell? ⟨sb, so + k, none⟩ = some (.int .i64 (sd[k]?.getD 0))) := fun V k hV hk => (hV.cell (p := ⟨sb, so + k, none⟩) (cell_lt (hcs k hk))).trans (hcs k hk)
  obtain ⟨m, hm⟩ : ∃ m, sd.length = m := ⟨_, rfl⟩
  rw [hm] at h0 HSD ⊢
  have i1 : (1 : Int) ≤ (n : Int) := by omega
  have i2 : (n : Int) ≤ 12 := by omega
  have hm1 : ((m : Int) == 0) = false := beq_false_of_ne (by omega)
  clear hK hl hx hcs hm hN
  go_enter Tryd.func4, Tryd.ntmps4
  go_wp2_with (first
    | (go_at_call 6; refine hco.mono ?_; rintro e V1 ⟨rfl, hb⟩; have hso := HSO.out V1 hb; clear hb hco)
    | (go_at_call 11; refine hso.mono ?_; rintro e V2 ⟨sa, sc, rfl, ⟨g, rfl, hcell⟩, hb⟩; have H2 := Hid.mk' (And.intro hcell hb); clear hcell hb hso)
    | fail)
  go_loopw [7, 8] (fun po p W => ∃ (vo : Value) (k : Nat) (ls : List Int), k ≤ N ∧ po = vo ∧ p = .int .i64 (k : Int) ∧ Hid (ls.length = k ∧ (∀ j, j < ls.length → goodAt (spotsL n) ls j) ∧ W.ownsRow V2.heap.size 3 1 vo k (ls.map (Value.int .i64)) ∧ Below V2.heap.size V2 W)) (fun _ p _ => N - (intOf p).toNat)
  case atStart => exact ⟨_, 0, [], by omega, rfl, rfl, rfl, fun j hj => by simp at hj, World.ownsRow_nil _ _ _ _, Below.refl _ _⟩
  case round =>
    obtain ⟨vo, k, ls, hk, hvo, rfl, HR⟩ := hrel
    obtain ⟨ao, co, hv2⟩ := own_sl HR.out.2.2.1
    subst hv2
    subst hvo
    by_cases hkN : k < N
    · obtain ⟨p, q, r, hs, hpqr, hp, hq, hr⟩ := HSP.out k hkN
      obtain ⟨c0, c1, c2⟩ := H2.out.1 k _ hs
      have d0 := (HR.out.2.2.2.cell (p := ⟨g, k * 3, none⟩) (cell_lt c0)).trans c0
      have d1 := (HR.out.2.2.2.cell (p := ⟨g, k * 3 + 1, none⟩) (cell_lt c1)).trans c1
      have d2 := (HR.out.2.2.2.cell (p := ⟨g, k * 3 + 2, none⟩) (cell_lt c2)).trans c2
      dsimp only at d0 d1 d2
      have hkm : k % m < m := Nat.mod_lt _ h0
      have HBW : Hid (Below w.heap.size w wr) := H2.out.2.trans (HR.out.2.2.2.mono H2.out.2.size)
      have cs := HSD.out wr (k % m) HBW.out hkm
      obtain ⟨v, hv⟩ : ∃ v, sd[k % m]?.getD 0 = v := ⟨_, rfl⟩
      rw [hv] at cs
      have e1 := remN k m
      have hkk : k % m ≤ k := Nat.mod_le _ _
      obtain ⟨km, hkmE⟩ : ∃ km, k % m = km := ⟨_, rfl⟩
      rw [hkmE] at hkm cs e1 hkk
      obtain ⟨t, ht⟩ : ∃ t, Int.tmod v 3 = t := ⟨_, rfl⟩
      have hb3 := rem3 v
      rw [ht] at hb3
      have HGM : Hid (∀ x : Int, labOk (p, q, r) x → ∀ j, j < (ls ++ [x]).length → goodAt (spotsL n) (ls ++ [x]) j) := fun x hx => good_more HR.out.2.1 (by rw [HR.out.1]; exact hs) hx
      have z0 : (0 : Int) ≤ (km : Int) := by omega
      have z1 : (km : Int) < (m : Int) := by omega
      have z2 : (0 : Int) ≤ (k : Int) := by omega
      have z3 : (k : Int) < (N : Int) := by omega
      have hm0 : ¬ ((m : Int) = 0) := by omega
      clear hs c0 c1 c2 hv hkmE
      go_upto_if 55 with fail
      go_cut [9] from 46 to 57 (fun c wx => ∃ x : Int, c = .int .i64 x ∧ (0 ≤ x ∧ x ≤ 2) ∧ Hid (wx = wr))
      case first =>
        by_cases ht0 : t < 0
        · go_wp2_with fail
          go_meet
          exact ⟨t + 3, by go_num, by omega, rfl⟩
        · go_wp2_with fail
          go_meet
          exact ⟨t, rfl, by omega, rfl⟩
      obtain ⟨x, rfl, hx02, HWX⟩ := hcut
      rw [HWX.out]
      clear HWX e1 cs z0 z1 ht hb3 hkm hkk hm0
      obtain ⟨Wr, hWr⟩ : ∃ W, W = wr := ⟨_, rfl⟩
      subst hWr
      go_upto_region 12 with fail
      go_cut [10] from 58 to 73 (fun c wx => ∃ hb : Nat, c = .slice (some ⟨hb, 0, none⟩) 3 3 ∧ Hid (wx.cell? ⟨hb, 0, none⟩ = some (.int .i64 (p : Int)) ∧ wx.cell? ⟨hb, 1, none⟩ = some (.int .i64 (q : Int)) ∧ wx.cell? ⟨hb, 2, none⟩ = some (.int .i64 (r : Int)) ∧ Below Wr.heap.size Wr wx))
      case first =>
        go_region
        all_goals go_wp2_with fail
        all_goals go_meet
        obtain ⟨c0, c1, c2, hB, -⟩ := box3 Wr (.int .i64 (p : Int)) (.int .i64 (q : Int)) (.int .i64 (r : Int)) 3
        exact ⟨_, rfl, c0, c1, c2, hB.drew⟩
      obtain ⟨hb, rfl, HC⟩ := hcut
      obtain ⟨Wc, hWc⟩ : ∃ W, W = wc := ⟨_, rfl⟩
      subst hWc
      obtain ⟨c0, c1, c2, -⟩ := HC.out
      have HOW : Hid (Wc.ownsRow V2.heap.size 3 1 (.slice ao k co) k (ls.map (Value.int .i64)) ∧ Below V2.heap.size V2 Wc) := ⟨World.ownsRow.kept HR.out.2.2.1 (Below.grownBy HC.out.2.2.2) (by cases (Value.slice ao k co).ownBlock <;> simp), HR.out.2.2.2.trans (HC.out.2.2.2.mono HR.out.2.2.2.size)⟩
      have hws : V2.heap.size ≤ Wc.heap.size := HOW.out.2.size
      clear d0 d1 d2
      go_wp2_with fail
      go_loopw [9] (fun px W => ∃ x : Int, px = .int .i64 x ∧ (0 ≤ x ∧ x ≤ 2) ∧ Hid (W = Wc)) (fun px _ => stepsZ p q r (intOf px))
      case atStart => exact ⟨x, rfl, hx02, rfl⟩
      case round =>
        obtain ⟨x, rfl, hx02, HWW⟩ := hrel
        rw [HWW.out]
        clear HWW
        have hx3 : x = 0 ∨ x = 1 ∨ x = 2 := by omega
        rcases hx3 with rfl | rfl | rfl
        · by_cases hz : p = 0
          · subst hz
            go_wp2_with fail
            go_roundw
            case rel => exact ⟨1, by go_num, by omega, trivial⟩
            case measure => exact steps0 (by omega)
          · have hz' : ((p : Int) == 0) = false := beq_false_of_ne (by omega)
            have HLO : Hid (labOk (p, q, r) 0) := .inl ⟨rfl, by show 0 < p; omega⟩
            go_wp2_with (first
              | (at_builtin; refine wpList_append_own_at _ rfl (.tmp 82) (.tmp 84) 22 rfl V2.heap.size 3 j0 (.int .i64 0) 1 8 Tryd.underlying22 hj0 hy0 hy1 hy2 rfl (by decide) _ k _ rfl (HOW.out.1.alloc _) ⟨_, 0, none⟩ 1 1 [.int .i64 0] rfl rfl (cells_new _ _ _) (by simp [Value.oneCell']) (by unfold maxLen; omega) (by omega) (by simp; omega) ?_; intro v5 w5 hown5 hg5 hn5 hl5; have H5 := Hid.mk' (And.intro hown5 (And.intro hg5 hl5)); clear hown5 hg5 hn5 hl5)
              | fail)
            go_roundw
            case rel =>
              refine ⟨_, k + 1, ls ++ [0], by omega, rfl, by go_num, ?_, HGM.out 0 HLO.out, ?_, (HOW.out.2.alloc hws _).grown H5.out.2.1 (by simp; omega) (fun b e => (HOW.out.1.lt b e).1)⟩
              · rw [List.length_append, HR.out.1]; rfl
              · rw [List.map_append]; exact H5.out.1
            case measure => simp [intOf]; omega
        · by_cases hz : q = 0
          · subst hz
            go_wp2_with fail
            go_roundw
            case rel => exact ⟨2, by go_num, by omega, trivial⟩
            case measure => exact steps1 (by omega)
          · have hz' : ((q : Int) == 0) = false := beq_false_of_ne (by omega)
            have HLO : Hid (labOk (p, q, r) 1) := .inr (.inl ⟨rfl, by show 0 < q; omega⟩)
            go_wp2_with (first
              | (at_builtin; refine wpList_append_own_at _ rfl (.tmp 82) (.tmp 84) 22 rfl V2.heap.size 3 j0 (.int .i64 0) 1 8 Tryd.underlying22 hj0 hy0 hy1 hy2 rfl (by decide) _ k _ rfl (HOW.out.1.alloc _) ⟨_, 0, none⟩ 1 1 [.int .i64 1] rfl rfl (cells_new _ _ _) (by simp [Value.oneCell']) (by unfold maxLen; omega) (by omega) (by simp; omega) ?_; intro v5 w5 hown5 hg5 hn5 hl5; have H5 := Hid.mk' (And.intro hown5 (And.intro hg5 hl5)); clear hown5 hg5 hn5 hl5)
              | fail)
            go_roundw
            case rel =>
              refine ⟨_, k + 1, ls ++ [1], by omega, rfl, by go_num, ?_, HGM.out 1 HLO.out, ?_, (HOW.out.2.alloc hws _).grown H5.out.2.1 (by simp; omega) (fun b e => (HOW.out.1.lt b e).1)⟩
              · rw [List.length_append, HR.out.1]; rfl
              · rw [List.map_append]; exact H5.out.1
            case measure => simp [intOf]; omega
        · by_cases hz : r = 0
          · subst hz
            go_wp2_with fail
            go_roundw
            case rel => exact ⟨0, by go_num, by omega, trivial⟩
            case measure => exact steps2 (by omega)
          · have hz' : ((r : Int) == 0) = false := beq_false_of_ne (by omega)
            have HLO : Hid (labOk (p, q, r) 2) := .inr (.inr ⟨rfl, by show 0 < r; omega⟩)
            go_wp2_with (first
              | (at_builtin; refine wpList_append_own_at _ rfl (.tmp 82) (.tmp 84) 22 rfl V2.heap.size 3 j0 (.int .i64 0) 1 8 Tryd.underlying22 hj0 hy0 hy1 hy2 rfl (by decide) _ k _ rfl (HOW.out.1.alloc _) ⟨_, 0, none⟩ 1 1 [.int .i64 2] rfl rfl (cells_new _ _ _) (by simp [Value.oneCell']) (by unfold maxLen; omega) (by omega) (by simp; omega) ?_; intro v5 w5 hown5 hg5 hn5 hl5; have H5 := Hid.mk' (And.intro hown5 (And.intro hg5 hl5)); clear hown5 hg5 hn5 hl5)
              | fail)
            go_roundw
            case rel =>
              refine ⟨_, k + 1, ls ++ [2], by omega, rfl, by go_num, ?_, HGM.out 2 HLO.out, ?_, (HOW.out.2.alloc hws _).grown H5.out.2.1 (by simp; omega) (fun b e => (HOW.out.1.lt b e).1)⟩
              · rw [List.length_append, HR.out.1]; rfl
              · rw [List.map_append]; exact H5.out.1
            case measure => simp [intOf]; omega
    · obtain rfl : k = N := by omega
      have HG : Hid (GoodLab (n : Int) ls) := ⟨by omega, by rw [Int.toNat_natCast, HPN.out, HR.out.1], by rw [Int.toNat_natCast]; exact HR.out.2.1⟩
      have hgl : ∀ j, j < (spotsL n).length → goodAt (spotsL n) ls j := fun j hj => HR.out.2.1 j (by rw [HR.out.1, ← HPN.out]; exact hj)
      have HWO := Hid.mk' (walk_ok h1 h2 hgl)
      have hod := full_odd h1 h2 hgl
      have HB0 : Hid (Below w.heap.size w wr ∧ Ints wr (.slice ao k co) ls) := ⟨H2.out.2.trans (HR.out.2.2.2.mono H2.out.2.size), by have h8 := slice_of_owns (S := anyBlock) HR.out.2.2.1 (fun _ _ _ => trivial); exact h8⟩
      have hln : ls.length ≤ 1000 := by rw [HR.out.1]; omega
      obtain ⟨FL, hFL⟩ : ∃ FL, fullL ls (smallL n) = FL := ⟨_, rfl⟩
      obtain ⟨WL, hWL⟩ : ∃ WL, walkL n ls = WL := ⟨_, rfl⟩
      have HLN : Hid (FL.length ≤ 1000000 ∧ WL.length ≤ 1000000) := by
        rw [← hFL, ← hWL]
        exact ⟨full_few h2 ls, walk_few h2 ls⟩
      have hfu := fullX_ok n _ wr (HK.out.below HB0.out.1) HB0.out.2 hln HG.out
      have HWA : Hid (∀ V, Below wr.heap.size wr V → Calls Tryd.prog 15 #[.int .i64 (n : Int), .slice ao k co] V fun e w' => ∃ v, e = .returned (.tuple #[v, .nilIface]) ∧ Ints w' v WL ∧ Below V.heap.size V w') := fun V hV => by rw [← hWL]; exact walkX_ok n _ V ((HK.out.below HB0.out.1).below hV) (HB0.out.2.below hV) hln HG.out
      have HSX : Hid (∀ V, Calls Tryd.prog 8 #[.int .i64 (n : Int)] V fun e w' => ∃ v c, e = .returned (.tuple #[.slice v (smallL n).length c, .nilIface]) ∧ TriRd w' (.slice v (smallL n).length c) (triesL n) ∧ Below V.heap.size V w') := fun V => (smallX_ok n h1 h2 V).mono fun e w' h => by
        obtain ⟨v, k1, k2, k3⟩ := h
        obtain ⟨a1, c1, rfl⟩ := k2.form
        rw [tries_len] at k1 k2
        exact ⟨a1, c1, k1, k2.reads, k3⟩
      have HAT : Hid (∀ j, j < (smallL n).length → ∃ x y z : Nat, rowA (smallL n) (j : Int) = [(x : Int), (y : Int), (z : Int)] ∧ (triesL n)[j]? = some ((x : Int), (y : Int), (z : Int))) := fun j hj => by
        obtain ⟨r, hr⟩ : ∃ r, (smallL n)[j]? = some r := ⟨_, List.getElem?_eq_getElem hj⟩
        obtain ⟨x, y, z, rfl, -⟩ := smallL_tri (List.mem_of_getElem? hr)
        exact ⟨x, y, z, by unfold rowA; rw [Int.toNat_natCast, hr]; rfl, tries_at hr⟩
      have hTf := smallL_few h2
      rw [hFL] at hfu hod
      rw [hWL] at HWO
      obtain ⟨L, hL⟩ : ∃ L, (smallL n).length = L := ⟨_, rfl⟩
      have HL := Hid.mk' hL
      rw [hL] at HSX HAT hTf
      have HW2 : Hid (WL.Nodup ∧ (∀ j ∈ WL, 0 ≤ j ∧ j < (L : Int)) ∧ (∀ i, i + 1 < WL.length → (minusQ (placeA n WL (i + 1)) (placeA n WL i)).length = 1) ∧ WL[WL.length - 1]?.getD 0 ∈ FL) := ⟨HWO.out.once, by rw [← hL]; exact HWO.out.rng, HWO.out.next, by rw [← hFL]; exact HWO.out.last⟩
      have hw0 : 0 < WL.length := List.length_pos_iff.2 HWO.out.some
      obtain ⟨fl, hfl⟩ : ∃ l, FL.length = l := ⟨_, rfl⟩
      obtain ⟨wl, hwl⟩ : ∃ l, WL.length = l := ⟨_, rfl⟩
      have HFL := Hid.mk' hfl
      have HWL := Hid.mk' hwl
      have hfl9 := HLN.out.1
      have hwl9 := HLN.out.2
      rw [hfl] at hod hfl9
      rw [hwl] at hw0 hwl9
      have er : Int.tmod (fl : Int) 2 = 1 := by
        rw [show (2 : Int) = ((2 : Nat) : Int) from rfl, remN, hod]; rfl
      have hw1 : ((wl : Int) == 0) = false := beq_false_of_ne (by omega)
      clear hgl hln hFL hWL hL hfl hwl HWO HSP HSD HSO HR HPN
      go_wp2_with (first
        | (go_at_call 14; refine hfu.mono ?_; rintro e V3 ⟨v3, rfl, hi, hb⟩; have H3 := Hid.mk' (And.intro hi hb); obtain ⟨fa, fc, hv3, -, -⟩ := hi.open_; rw [HFL.out] at hv3; subst hv3; have hwa := HWA.out V3 hb; clear hi hb hfu)
        | (go_at_call 15; refine hwa.mono ?_; rintro e V4 ⟨v4, rfl, hi, hb⟩; have H4 : Hid (Ints V4 (.slice fa fl fc) FL ∧ Ints V4 v4 WL ∧ Below wr.heap.size wr V4) := ⟨H3.out.1.below hb, hi, H3.out.2.trans (hb.mono H3.out.2.size)⟩; obtain ⟨wa, wc, hv4, -, -⟩ := hi.open_; rw [HWL.out] at hv4; subst hv4; have hsx := HSX.out V4; clear hi hb hwa)
        | (go_at_call 8; refine hsx.mono ?_; rintro e V5 ⟨ma, mc, rfl, hi, hb⟩; have H5 : Hid (Ints V5 (.slice fa fl fc) FL ∧ Ints V5 (.slice wa wl wc) WL ∧ TriRd V5 (.slice ma L mc) (triesL n) ∧ Below w.heap.size w V5) := ⟨H4.out.1.below hb, H4.out.2.1.below hb, hi, HB0.out.1.trans ((H4.out.2.2.trans (hb.mono H4.out.2.2.size)).mono HB0.out.1.size)⟩; clear hi hb hsx)
        | fail)
      have hL0 : 0 < L := by
        have := HW2.out.2.1 (WL[0]?.getD 0) (by rw [List.getElem?_eq_getElem (by rw [HWL.out]; exact hw0)]; exact List.getElem_mem _)
        omega
      obtain ⟨wb, wo, hwa⟩ : ∃ wb wo, wa = some ⟨wb, wo, none⟩ := by
        obtain ⟨a1, c1, ea, -, hx⟩ := H5.out.2.1.open_
        obtain ⟨b, o, e2, -⟩ := hx (by rw [HWL.out]; exact hw0)
        injection ea with ea1
        exact ⟨b, o, ea1.trans e2⟩
      subst hwa
      obtain ⟨mg, hma⟩ : ∃ mg, ma = some ⟨mg, 0, none⟩ := by
        obtain ⟨a1, c1, ea, hx⟩ := H5.out.2.2.1
        obtain ⟨b, e2, -⟩ := hx (by rw [tries_len, HL.out]; exact hL0)
        injection ea with ea1
        exact ⟨b, ea1.trans e2⟩
      subst hma
      have hwcap : wl ≤ wc := by
        obtain ⟨a1, c1, ea, hcap, -⟩ := H5.out.2.1
        rw [List.length_map, HWL.out] at ea hcap
        injection ea with _ _ ea3
        rw [ea3]; exact hcap.1
      have HWC : Hid (∀ V i, Below V5.heap.size V5 V → i < wl → ∃ x : Nat, x < L ∧ WL[i]?.getD 0 = (x : Int) ∧ V.cell? ⟨wb, wo + i, none⟩ = some (.int .i64 (x : Int))) := fun V i hV hi => by
        obtain ⟨a1, c1, ea, -, hx⟩ := (H5.out.2.1.below hV).open_
        obtain ⟨b, o, e2, -, -, hc⟩ := hx (by rw [HWL.out]; exact hw0)
        injection ea with ea1
        rw [← ea1] at e2
        injection e2 with e2
        injection e2 with e3 e4
        subst e3 e4
        have hi' : i < WL.length := by rw [HWL.out]; exact hi
        have hr := HW2.out.2.1 (WL[i]?.getD 0) (by rw [List.getElem?_eq_getElem hi']; exact List.getElem_mem _)
        obtain ⟨x, hx9⟩ : ∃ x : Nat, WL[i]?.getD 0 = (x : Int) := ⟨_, (Int.toNat_of_nonneg hr.1).symm⟩
        have hcc := hc i hi'
        rw [hx9] at hcc hr
        exact ⟨x, by omega, hx9, hcc⟩
      have HMC : Hid (∀ V j, Below V5.heap.size V5 V → j < L → ∃ x y z : Nat, rowA (smallL n) (j : Int) = [(x : Int), (y : Int), (z : Int)] ∧ V.cell? ⟨mg, j * 3, none⟩ = some (.int .i64 (x : Int)) ∧ V.cell? ⟨mg, j * 3 + 1, none⟩ = some (.int .i64 (y : Int)) ∧ V.cell? ⟨mg, j * 3 + 2, none⟩ = some (.int .i64 (z : Int))) := fun V j hV hj => by
        obtain ⟨x, y, z, g1, g2⟩ := HAT.out j hj
        obtain ⟨a1, c1, ea, hx⟩ := H5.out.2.2.1.below hV
        obtain ⟨b, e2, hc⟩ := hx (by rw [tries_len, HL.out]; exact hL0)
        injection ea with ea1
        rw [← ea1] at e2
        injection e2 with e2
        injection e2 with e3
        subst e3
        exact ⟨x, y, z, g1, hc j _ g2⟩
      have HPR : Hid (∀ V i, Below V5.heap.size V5 V → i < wl → Ints V (.slice (some ⟨wb, wo, none⟩) i wc) (WL.take i) ∧ (WL.take i).contains (WL[i]?.getD 0) = false) := fun V i hV hi => by
        have hi' : i < WL.length := by rw [HWL.out]; exact hi
        constructor
        · obtain ⟨a1, c1, ea, hcap, hx⟩ := H5.out.2.1.below hV
          rw [List.length_map, HWL.out] at ea hcap hx
          injection ea with ea1 _ ea3
          obtain ⟨b, o, e2, -, hc⟩ := hx hw0
          refine ⟨some ⟨wb, wo, none⟩, wc, by rw [List.length_map, List.length_take, HWL.out, Nat.min_eq_left (by omega)], ⟨by rw [List.length_map, List.length_take, HWL.out, ea3]; omega, fun h => by cases h⟩, fun _ => ⟨wb, wo, rfl, trivial, fun j u hu => ?_⟩⟩
          rw [← ea1] at e2
          injection e2 with e2
          injection e2 with e3 e4
          subst e3 e4
          rw [List.getElem?_map, List.getElem?_take] at hu
          split at hu
          · exact hc j u (by rw [List.getElem?_map]; exact hu)
          · cases hu
        · rw [List.contains_eq_mem, decide_eq_false_iff_not]
          intro hm
          obtain ⟨j, hj, e⟩ := List.getElem_of_mem hm
          rw [List.length_take] at hj
          rw [List.getElem_take, List.getElem?_eq_getElem hi', Option.getD_some] at e
          have := (List.getElem_inj HW2.out.1).1 e
          omega
      clear HAT HSX HWA HB0 H2 H3 H4 hTf HG HK HLN
      go_loopw [17] (fun p W => ∃ i : Nat, i ≤ wl ∧ p = .int .i64 (i : Int) ∧ Hid (Below V5.heap.size V5 W)) (fun p _ => wl - (intOf p).toNat)
      case atStart => exact ⟨0, by omega, rfl, Below.refl _ _⟩
      case round =>
        obtain ⟨i, hi, rfl, HB⟩ := hrel
        by_cases hiw : i < wl
        · obtain ⟨x, hxL, hxe, cx⟩ := HWC.out wr i HB.out hiw
          have hcall : ∀ q, Calls Tryd.prog 20 #[.slice (some ⟨wb, wo, none⟩) i wc, .int .i64 (x : Int)] (wr.drewN q) fun e w' => e = .returned (.bool false) ∧ ∃ n, w' = wr.drewN n := fun q => by
            obtain ⟨g1, g2⟩ := HPR.out (wr.drewN q) i (HB.out.trans ((drewN_below wr q).mono HB.out.size)) hiw
            refine (contains_ _ (WL.take i) (x : Int) (wr.drewN q) g1 (by rw [List.length_take]; omega)).mono fun e w' h => ?_
            rw [hxe] at g2
            rw [g2] at h
            exact ⟨h.1, by obtain ⟨q', hq'⟩ := h.2; exact ⟨q + q', by rw [hq']; simp [World.drewN, Nat.add_assoc]⟩⟩
          have HBQ : Hid (∀ q, Below V5.heap.size V5 (wr.drewN q)) := fun q => HB.out.trans ((drewN_below wr q).mono HB.out.size)
          have HXE := Hid.mk' hxe
          have z0 : (0 : Int) ≤ (i : Int) := by omega
          have z1 : (i : Int) < (wl : Int) := by omega
          have z2 : (i : Int) ≤ (wl : Int) := by omega
          have z3 : (i : Int) ≤ (wc : Int) := by omega
          clear hxe
          go_upto_region 24 with fail
          go_quiet (exact hcall _)
          obtain ⟨W6, hW6⟩ : ∃ W6, wr.drewN nq = W6 := ⟨_, rfl⟩
          have HB6 : Hid (Below V5.heap.size V5 W6) := by rw [← hW6]; exact HBQ.out nq
          have c6 : W6.cell? ⟨wb, wo + i, none⟩ = some (.int .i64 (x : Int)) := by rw [← hW6]; exact cx
          rw [hW6]
          have y0 : (0 : Int) ≤ (x : Int) := by omega
          have y1 : (x : Int) < (L : Int) := by omega
          clear hcall HBQ HB cx hW6
          rcases Nat.eq_zero_or_pos i with hi0 | hi0
          · subst hi0
            rw [Nat.add_zero] at c6
            go_wp2_with fail
            go_roundw
            case rel => exact ⟨1, by omega, by go_num, HB6.out⟩
            case measure => simp [intOf]; omega
          · obtain ⟨j, rfl⟩ : ∃ j, i = j + 1 := ⟨i - 1, by omega⟩
            obtain ⟨a1, a2, a3, hra, ca1, ca2, ca3⟩ := HMC.out W6 x HB6.out hxL
            have ei : ((j + 1 : Nat) : Int) = (j : Int) + 1 := by omega
            have w0 : (0 : Int) ≤ (j : Int) := by omega
            have w1 : (j : Int) < (wl : Int) := by omega
            have hj9 : j ≤ 1000000 := by omega
            go_upto_region 29 with fail
            obtain ⟨p0, p1, p2, hB7, hs7⟩ := box3 W6 (.int .i64 (a1 : Int)) (.int .i64 (a2 : Int)) (.int .i64 (a3 : Int)) 36
            obtain ⟨W7, hW7⟩ : ∃ W7, W6.alloc (.cells #[.int .i64 (a1 : Int), .int .i64 (a2 : Int), .int .i64 (a3 : Int)] 36) = W7 := ⟨_, rfl⟩
            rw [hW7] at p0 p1 p2 hB7 hs7 ⊢
            have HB7 : Hid (Below V5.heap.size V5 W7) := HB6.out.trans (hB7.mono HB6.out.size)
            obtain ⟨x2, hx2L, hx2e, cx2⟩ := HWC.out W7 j HB7.out (by omega)
            obtain ⟨b1, b2, b3, hrb, cb1, cb2, cb3⟩ := HMC.out W7 x2 HB7.out hx2L
            have HMI : Hid ((minusQ [(a1 : Int), (a2 : Int), (a3 : Int)] [(b1 : Int), (b2 : Int), (b3 : Int)]).length = 1) := by
              have h := HW2.out.2.2.1 j (by rw [HWL.out]; omega)
              unfold placeA at h
              rw [HXE.out, hx2e, hra, hrb] at h
              exact h
            have y2 : (0 : Int) ≤ (x2 : Int) := by omega
            have y3 : (x2 : Int) < (L : Int) := by omega
            obtain ⟨r7, hr7⟩ : ∃ r, W6.heap.size = r := ⟨_, rfl⟩
            rw [hr7] at p0 p1 p2 ⊢
            clear hx2e hra hrb hW7 hr7 ca1 ca2 ca3 c6 hs7 hB7
            go_upto_region 30 with fail
            obtain ⟨s0, s1, s2, hB8, -⟩ := box3 W7 (.int .i64 (b1 : Int)) (.int .i64 (b2 : Int)) (.int .i64 (b3 : Int)) 36
            obtain ⟨W8, hW8⟩ : ∃ W8, W7.alloc (.cells #[.int .i64 (b1 : Int), .int .i64 (b2 : Int), .int .i64 (b3 : Int)] 36) = W8 := ⟨_, rfl⟩
            rw [hW8] at s0 s1 s2 hB8 ⊢
            obtain ⟨r8, hr8⟩ : ∃ r, W7.heap.size = r := ⟨_, rfl⟩
            rw [hr8] at s0 s1 s2 ⊢
            have HB8 : Hid (Below V5.heap.size V5 W8) := HB7.out.trans (hB8.mono HB7.out.size)
            have hmin : ∀ q, Calls Tryd.prog 21 #[.slice (some ⟨r7, 0, none⟩) 3 3, .slice (some ⟨r8, 0, none⟩) 3 3] (W8.drewN q) fun e w' => ∃ av c, e = .returned (.slice av 1 c) ∧ Below V5.heap.size V5 w' := fun q => by
              have hd := drewN_below W8 q
              have g0 := (hB8.cell (p := ⟨r7, 0, none⟩) (cell_lt p0)).trans p0
              have g1 := (hB8.cell (p := ⟨r7, 1, none⟩) (cell_lt p1)).trans p1
              have g2 := (hB8.cell (p := ⟨r7, 2, none⟩) (cell_lt p2)).trans p2
              have hA : Ints (W8.drewN q) (.slice (some ⟨r7, 0, none⟩) 3 3) [(a1 : Int), (a2 : Int), (a3 : Int)] := ⟨_, 3, rfl, ⟨Nat.le_refl _, fun h => by cases h⟩, fun _ => ⟨_, 0, rfl, trivial, fun t u hu => by
                match t, hu with
                | 0, hu => rw [← Option.some.inj hu]; exact g0
                | 1, hu => rw [← Option.some.inj hu]; exact g1
                | 2, hu => rw [← Option.some.inj hu]; exact g2⟩⟩
              have hBb : Ints (W8.drewN q) (.slice (some ⟨r8, 0, none⟩) 3 3) [(b1 : Int), (b2 : Int), (b3 : Int)] := ⟨_, 3, rfl, ⟨Nat.le_refl _, fun h => by cases h⟩, fun _ => ⟨_, 0, rfl, trivial, fun t u hu => by
                match t, hu with
                | 0, hu => rw [← Option.some.inj hu]; exact s0
                | 1, hu => rw [← Option.some.inj hu]; exact s1
                | 2, hu => rw [← Option.some.inj hu]; exact s2⟩⟩
              refine (minusQ_ _ _ _ _ (W8.drewN q) hA hBb (by simp) (by simp)).mono fun e w' h => ?_
              obtain ⟨v, k1, k2, k3⟩ := h
              obtain ⟨av, cv, rfl, -, -⟩ := k2.open_
              rw [HMI.out] at k1
              have hx := HB8.out.trans (hd.mono HB8.out.size)
              exact ⟨av, cv, k1, hx.trans (k3.mono hx.size)⟩
            clear hW8 hr8 hB8 p0 p1 p2 s0 s1 s2
            go_cut [176] from 130 to 175 (fun c wx => c = .bool false ∧ Hid (Below V5.heap.size V5 wx))
            case first =>
              go_region_with (go_at_call 21; refine (hmin _).mono ?_; rintro e V9 ⟨av, cv, rfl, hb⟩; have H9 := Hid.mk' hb; clear hb)
              all_goals go_simp
              all_goals go_wp2_with fail
              all_goals go_meet
              all_goals exact ⟨rfl, H9.out⟩
            obtain ⟨rfl, HB9⟩ := hcut
            clear hmin
            go_wp2_with fail
            go_roundw
            case rel => exact ⟨j + 1 + 1, by omega, by go_num, HB9.out⟩
            case measure => simp [intOf]; omega
        · obtain rfl : i = wl := by omega
          obtain ⟨x, hxL, hxe, cx⟩ := HWC.out wr (i - 1) HB.out (by omega)
          have hIF : Ints wr (.slice fa fl fc) FL := H5.out.1.below HB.out
          have hcon := contains_ _ FL (x : Int) wr hIF (by rw [HFL.out]; exact hfl9)
          have HIN : Hid (FL.contains (x : Int) = true) := by
            have h := HW2.out.2.2.2
            rw [HWL.out, hxe] at h
            show _ = _
            rw [List.contains_eq_mem, decide_eq_true_eq]
            exact h
          rw [HIN.out] at hcon
          have ei : ((i - 1 : Nat) : Int) = (i : Int) - 1 := by omega
          have w0 : (0 : Int) ≤ (i : Int) - 1 := by omega
          obtain ⟨i9, hi9⟩ : ∃ i9, i - 1 = i9 := ⟨_, rfl⟩
          rw [hi9] at cx ei
          have HBE : Hid (∀ q, Below w.heap.size w (wr.drewN q)) := fun q => H5.out.2.2.2.trans ((HB.out.trans ((drewN_below wr q).mono HB.out.size)).mono H5.out.2.2.2.size)
          clear hxe hIF
          go_wp2_with (first
            | (go_at_call 20; refine hcon.mono ?_; rintro e V9 ⟨rfl, q9, hq9⟩; have HF : Hid (Below w.heap.size w V9) := (by rw [hq9]; exact HBE.out q9); clear hq9 hcon)
            | fail)
          go_ret
          exact ⟨rfl, HF.out⟩

theorem odd_law {kq : Addr} {sd : List Int} (n : Int) (vl : Value) (w : World) (hK : KindAt kq w) (hl : Ints w vl sd) :
    Calls Tryd.prog 4 #[.int .i64 n, vl] w fun e w' => e = .returned (.bool true) ∧ Below w.heap.size w w' := by
  by_cases h : n < 1 ∨ 12 < n ∨ sd.length = 0
  · exact odd_early n vl w hl h
  · obtain ⟨k, rfl⟩ : ∃ k : Nat, n = (k : Int) := ⟨n.toNat, by omega⟩
    exact odd_main k vl w hK hl (by omega) (by omega) (by omega)

end Go.Proofs.YtcciinaeplppiaaDoor
