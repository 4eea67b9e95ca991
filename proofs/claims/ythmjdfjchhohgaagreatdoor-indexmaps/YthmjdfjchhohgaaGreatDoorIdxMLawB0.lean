/- The statement on maps, walked: where the second is no complex and the map of the first to itself is one. -/
import Derived.Test.YthmjdfjchhohgaaGreatDoorIdxMLawA
namespace Go.Proofs.YthmjdfjchhohgaaGreatDoor
open Go.RowKit Go.Sort Go.Lib

set_option maxRecDepth 100000 in
set_option maxHeartbeats 4000000 in
theorem mp_b0 {a : Nat → Addr} {la lb p X : List (List Int)} {f : List Int} {N cB dW : Int} (a1 a2 a3 : Option Addr) (n1 c1 n2 c2 m c3 : Nat) (w : World) (hm : (m : Int) ≤ 200) (hcB : 0 < cB) 
    (hwh : Calls Tryz.prog 5 #[] w fun e w' => e = .returned (.bool true) ∧ Below w.heap.size w w')
    (hl1 : ∀ V, Below w.heap.size w V → Calls Tryz.prog 6 #[.slice a1 n1 c1, .int .i64 60] V fun e w' => (∃ q : Bool, e = .returned (.bool q)) ∧ Below V.heap.size V w')
    (hl2 : ∀ V, Below w.heap.size w V → Calls Tryz.prog 6 #[.slice a2 n2 c2, .int .i64 60] V fun e w' => (∃ q : Bool, e = .returned (.bool q)) ∧ Below V.heap.size V w')
    (hca : ∀ V, Below w.heap.size w V → Calls Tryz.prog 15 #[.slice a1 n1 c1] V fun e w' => e = .returned (.int .i64 0) ∧ Below V.heap.size V w')
    (hcx1 : ∀ V, Below w.heap.size w V → Calls Tryz.prog 9 #[.slice a1 n1 c1] V fun e w' => (∃ v, e = .returned (.agg #[v]) ∧ Rows w' v la) ∧ Below V.heap.size V w')
    (hcx2 : ∀ V, Below w.heap.size w V → Calls Tryz.prog 9 #[.slice a2 n2 c2] V fun e w' => (∃ v, e = .returned (.agg #[v]) ∧ Rows w' v lb) ∧ Below V.heap.size V w')
    (hin : ∀ V, Below w.heap.size w V → Calls Tryz.prog 10 #[.slice a3 m c3] V fun e w' => (∃ u, e = .returned u ∧ Ints w' u f) ∧ Below V.heap.size V w')
    (hfa : ∀ V ve c d, Below w.heap.size w V → EvIs a V ve c d → Calls Tryz.prog 18 #[ve, .agg #[.int .i64 c, .int .i64 d]] V fun e w' => e = .returned (.bool true) ∧ Below V.heap.size V w')
    (hck : ∀ V ua ub uf, Below w.heap.size w V → Rows V ua la → Rows V ub lb → Ints V uf f → Calls Tryz.prog 19 #[.agg #[ua], .agg #[ub], uf] V fun e w' => Below V.heap.size V w' ∧ ∃ ve, e = .returned ve ∧ EvIs a w' ve cB (-1))
    (hcl1 : ∀ V, Below w.heap.size w V → Calls Tryz.prog 16 #[.slice a1 n1 c1] V fun e w' => (∃ u, e = .returned (.tuple #[u, .int .i64 0]) ∧ RowsIn (fun b => V.heap.size ≤ b) w' u p) ∧ Below V.heap.size V w')
    (hmo : ∀ V u, Below w.heap.size w V → Rows V u p → Calls Tryz.prog 17 #[u, u, .slice a3 m c3] V fun e w' => e = .returned (.agg #[.int .i64 0, .int .i64 dW]) ∧ Below V.heap.size V w')
    (hcb : ∀ V, Below w.heap.size w V → Calls Tryz.prog 15 #[.slice a2 n2 c2] V fun e w' => e = .returned (.int .i64 cB) ∧ Below V.heap.size V w')
    (hlf : ∀ V ua uf, Below w.heap.size w V → Rows V ua la → Ints V uf f → Calls Tryz.prog 20 #[.agg #[ua], uf] V fun e w' => Below V.heap.size V w' ∧ e = .returned (.tuple #[.int .i64 N, .nilIface]))
    (hfx : ∀ V ua uf, Below w.heap.size w V → Rows V ua la → Ints V uf f → Calls Tryz.prog 21 #[.agg #[ua], uf] V fun e w' => Below V.heap.size V w' ∧ ∃ v, e = .returned (.tuple #[v, .nilIface]) ∧ Rows w' v X)
    (hfo : ∀ V u, Below w.heap.size w V → Rows V u p → Calls Tryz.prog 23 #[u, .slice a3 m c3] V fun e w' => (∃ v, e = .returned v ∧ Rows w' v X) ∧ Below V.heap.size V w')
    (hsl : ∀ V u v, Below w.heap.size w V → Rows V u X → Rows V v X → Calls Tryz.prog 22 #[u, v] V fun e w' => e = .returned (.bool true) ∧ Below V.heap.size V w')
    (hlo : ∀ V u, Below w.heap.size w V → Rows V u p → Calls Tryz.prog 24 #[u, .slice a3 m c3] V fun e w' => e = .returned (.int .i64 N) ∧ Below V.heap.size V w')
    (hNX : N = 0 ∨ 0 < X.length) :
    Calls Tryz.prog 4 #[.slice a1 n1 c1, .slice a2 n2 c2, .slice a3 m c3] w fun e w' => e = .returned (.bool true) ∧ Below w.heap.size w w' := by
  go_enter Tryz.func4, Tryz.ntmps4
  go_wp2_with fail
  refine hwh.mono ?_
  rintro e w1 ⟨rfl, hV⟩
  have HB1 := Hid.mk' hV
  clear hwh hV
  have h1 := hl1 w1 HB1.out
  go_wp2_with fail
  refine h1.mono ?_
  clear h1 hl1
  rintro e w2 ⟨⟨qa, rfl⟩, hV⟩
  have HB2 : Hid (Below w.heap.size w w2) := HB1.out.trans (hV.mono HB1.out.size)
  clear hV HB1
  have h1 := hl2 w2 HB2.out
  go_wp2_with fail
  refine h1.mono ?_
  clear h1 hl2
  rintro e w3 ⟨⟨qb, rfl⟩, hV⟩
  have HB3 : Hid (Below w.heap.size w w3) := HB2.out.trans (hV.mono HB2.out.size)
  clear hV HB2
  cases qa
  · go_wp2_with fail
    go_ret
    exact ⟨rfl, HB3.out⟩
  cases qb
  · go_wp2_with fail
    go_ret
    exact ⟨rfl, HB3.out⟩
  have h1 := hca w3 HB3.out
  go_wp2_with fail
  refine h1.mono ?_
  clear h1 hca
  rintro e w4 ⟨rfl, hV⟩
  have HB4 : Hid (Below w.heap.size w w4) := HB3.out.trans (hV.mono HB3.out.size)
  clear hV HB3
  have hf1 := fbox_new w4 0 (-1) 44
  have hBb : Below w.heap.size w (w4.alloc (.cells #[.int .i64 0, .int .i64 (-1)] 44)) := HB4.out.alloc HB4.out.size _
  have hsw : w.heap.size ≤ w4.heap.size := HB4.out.size
  obtain ⟨w5, hw5⟩ : ∃ w5, w4.alloc (.cells #[.int .i64 0, .int .i64 (-1)] 44) = w5 := ⟨_, rfl⟩
  obtain ⟨b11, hb11⟩ : ∃ b11, w4.heap.size = b11 := ⟨_, rfl⟩
  rw [hw5] at hf1 hBb
  rw [hb11] at hf1 hsw
  have H11B : Hid (w.heap.size ≤ b11) := hsw
  have HB5 := Hid.mk' hBb
  have F5 := Hid.mk' hf1
  have h1 := hcl1 w5 HB5.out
  clear hf1 hBb hsw HB4 hcl1
  go_wp2_with fail
  clear hw5 hb11
  refine h1.mono ?_
  clear h1
  rintro e w6 ⟨⟨u, rfl, hr⟩, hV⟩
  have HB6 : Hid (Below w.heap.size w w6) := HB5.out.trans (hV.mono HB5.out.size)
  have F6 := Hid.mk' (F5.out.below hV)
  have hr0 := hr
  obtain ⟨ap, cp, rfl, -, -⟩ := hr.open_
  have HP6 : Hid (RowsIn (fun b => b11 < b) w6 (.slice ap p.length cp) p) := hr0.mono fun b _ hb => by have h5 : b11 < w5.heap.size := cell_lt F5.out.c0; omega
  have h1 := hmo w6 _ HB6.out HP6.out.any
  clear hV hr hr0 HB5 F5 hmo
  go_wp2_with fail
  refine h1.mono ?_
  clear h1
  rintro e w7 ⟨rfl, hV⟩
  have HB7 : Hid (Below w.heap.size w w7) := HB6.out.trans (hV.mono HB6.out.size)
  have hF7 := F6.out.below hV
  have HP7 := Hid.mk' (HP6.out.below hV)
  have c0 := hF7.c0
  have c1 := hF7.c1
  have f0 := hF7.froz 0
  have f1 := hF7.froz 1
  have hF8 := hF7.put 0 dW
  have hB8 : Below w.heap.size w ((w7.setCell ⟨b11, 0, none⟩ (.int .i64 0)).setCell ⟨b11, 1, none⟩ (.int .i64 dW)) := (HB7.out.setCell H11B.out _).setCell H11B.out _
  have hP8 : RowsIn (fun b => b11 < b) ((w7.setCell ⟨b11, 0, none⟩ (.int .i64 0)).setCell ⟨b11, 1, none⟩ (.int .i64 dW)) (.slice ap p.length cp) p := HP7.out.keep fun b _ hb => two_other (by omega) _ _
  obtain ⟨w8, hw8⟩ : ∃ w8, (w7.setCell ⟨b11, 0, none⟩ (.int .i64 0)).setCell ⟨b11, 1, none⟩ (.int .i64 dW) = w8 := ⟨_, rfl⟩
  rw [hw8] at hF8 hB8 hP8
  have HB8 := Hid.mk' hB8
  have F8 := Hid.mk' hF8
  have HP8 := Hid.mk' hP8
  have h1 := hcb w8 HB8.out
  clear hV hF7 hF8 hB8 hP8 HB6 F6 HP6 HP7 hcb
  go_wp2_with fail
  clear hw8 c0 c1 f0 f1
  refine h1.mono ?_
  clear h1
  rintro e w9 ⟨rfl, hV⟩
  have HB9 : Hid (Below w.heap.size w w9) := HB8.out.trans (hV.mono HB8.out.size)
  have F9 := F8.out.below hV
  have HP9 : RowsIn (fun b => b11 < b ∧ b < w9.heap.size) w9 (.slice ap p.length cp) p := (HP8.out.below hV).mono fun b hb h => ⟨h, hb⟩
  have hf1 := fbox_new w9 cB (-1) 44
  have hBa : Below w9.heap.size w9 (w9.alloc (.cells #[.int .i64 cB, .int .i64 (-1)] 44)) := (Below.refl _ w9).alloc (Nat.le_refl _) _
  have hF9' := F9.below hBa
  have hP9' := HP9.below hBa
  have hBb : Below w.heap.size w (w9.alloc (.cells #[.int .i64 cB, .int .i64 (-1)] 44)) := HB9.out.alloc HB9.out.size _
  have hsw : w.heap.size ≤ w9.heap.size := HB9.out.size
  have hlt : b11 < w9.heap.size := cell_lt F9.c0
  obtain ⟨wX, hwX⟩ : ∃ wX, w9.alloc (.cells #[.int .i64 cB, .int .i64 (-1)] 44) = wX := ⟨_, rfl⟩
  obtain ⟨b13, hb13⟩ : ∃ b13, w9.heap.size = b13 := ⟨_, rfl⟩
  rw [hwX] at hf1 hF9' hBb hP9'
  rw [hb13] at hf1 hsw hlt hP9'
  have HB := Hid.mk' hBb
  have F11 := Hid.mk' hF9'
  have F13 := Hid.mk' hf1
  have HP := Hid.mk' hP9'
  have H13B : Hid (w.heap.size ≤ b13 ∧ b11 ≠ b13) := ⟨hsw, by omega⟩
  clear hV F9 HP9 hf1 hBa hF9' hP9' hBb hsw hlt HB8 F8 HP8 HB9
  have hne : (cB == 0) = false := beq_false_of_ne (by omega)
  go_wp2_with fail
  clear hwX hb13
  refine region_grow0 (by kernel_rfl) 9 rfl (fun i => 72 + i) (spV a la lb f (.slice a1 n1 c1) (.slice a2 n2 c2) (.slice a3 m c3) cB (-1)) (fun i j _ _ h => by omega) (fun i hi => by simp; omega) spV_below (by decide +kernel) (fun j hj Z ac w9 hG hed => ?_) (fun Z ac wA hG hall => ?_)
  · have HBX : Below w.heap.size w w9 := HB.out.trans (hG.bel.mono HB.out.size)
    have hF13 := F13.out.below hG.bel
    have y0 : ac.tmps[0]? = some (.slice a1 n1 c1) := (hG.oth 0 (fun i hi => by omega)).trans rfl
    have y1 : ac.tmps[1]? = some (.slice a2 n2 c2) := (hG.oth 1 (fun i hi => by omega)).trans rfl
    have y2 : ac.tmps[2]? = some (.slice a3 m c3) := (hG.oth 2 (fun i hi => by omega)).trans rfl
    have y13 : ac.tmps[13]? = some (.pointer (some ⟨b13, 0, none⟩)) := (hG.oth 13 (fun i hi => by omega)).trans rfl
    have hv : ∀ j2, j2 < 10 → j2 ∈ edgesOf _ j → ∃ v, ac.tmps[72 + j2]? = some v ∧ spV a la lb f (.slice a1 n1 c1) (.slice a2 n2 c2) (.slice a3 m c3) cB (-1) j2 w9 v := fun j2 h1 h2 => hG.val j2 h1 (hed j2 h2)
    match j, hj with
    | 0, _ => exact op_value rfl rfl (by unfold execOp; simp [go_sem, Act.eval, y0]) ⟨_, rfl, rfl, Below.refl _ _⟩
    | 1, _ =>
      obtain ⟨v0, e0, h0⟩ := hv 0 (by omega) (by decide +kernel)
      have z0 : ac.tmps[72]? = some v0 := e0
      obtain rfl : v0 = _ := h0
      refine op_call rfl rfl (by unfold execOp; simp [go_sem, Act.eval, z0]) _ (hcx1 w9 HBX) fun e w' hh => ?_
      obtain ⟨⟨u, rfl, hr⟩, hb⟩ := hh
      exact ⟨_, rfl, _, rfl, ⟨u, rfl, hr⟩, hb⟩
    | 2, _ => exact op_value rfl rfl (by unfold execOp; simp [go_sem, Act.eval, y1]) ⟨_, rfl, rfl, Below.refl _ _⟩
    | 3, _ =>
      obtain ⟨v0, e0, h0⟩ := hv 2 (by omega) (by decide +kernel)
      have z0 : ac.tmps[74]? = some v0 := e0
      obtain rfl : v0 = _ := h0
      refine op_call rfl rfl (by unfold execOp; simp [go_sem, Act.eval, z0]) _ (hcx2 w9 HBX) fun e w' hh => ?_
      obtain ⟨⟨u, rfl, hr⟩, hb⟩ := hh
      exact ⟨_, rfl, _, rfl, ⟨u, rfl, hr⟩, hb⟩
    | 4, _ => exact op_value rfl rfl (by unfold execOp; simp [go_sem, Act.eval, y2]) ⟨_, rfl, rfl, Below.refl _ _⟩
    | 5, _ =>
      obtain ⟨v0, e0, h0⟩ := hv 4 (by omega) (by decide +kernel)
      have z0 : ac.tmps[76]? = some v0 := e0
      obtain rfl : v0 = _ := h0
      refine op_call rfl rfl (by unfold execOp; simp [go_sem, Act.eval, z0]) _ (hin w9 HBX) fun e w' hh => ?_
      obtain ⟨⟨u, rfl, hr⟩, hb⟩ := hh
      exact ⟨_, rfl, _, rfl, hr, hb⟩
    | 6, _ =>
      obtain ⟨v1, e1, h1⟩ := hv 1 (by omega) (by decide +kernel)
      have z1 : ac.tmps[73]? = some v1 := e1
      obtain ⟨u1, rfl, hr1⟩ := h1
      obtain ⟨v3, e3, h3⟩ := hv 3 (by omega) (by decide +kernel)
      have z3 : ac.tmps[75]? = some v3 := e3
      obtain ⟨u3, rfl, hr3⟩ := h3
      obtain ⟨v5, e5, h5⟩ := hv 5 (by omega) (by decide +kernel)
      have z5 : ac.tmps[77]? = some v5 := e5
      refine op_call rfl rfl (by unfold execOp; simp [go_sem, Act.eval, z1, z3, z5]) _ (hck w9 u1 u3 v5 HBX hr1 hr3 h5) fun e w' hh => ?_
      obtain ⟨hb, ve, rfl, hev⟩ := hh
      exact ⟨_, rfl, _, rfl, hev, hb⟩
    | 7, _ => exact op_value rfl rfl (by unfold execOp; simp [go_sem, Act.eval, y13, hF13.c0, hF13.c1]) ⟨_, rfl, rfl, Below.refl _ _⟩
    | 8, _ =>
      obtain ⟨v6, e6, h6⟩ := hv 6 (by omega) (by decide +kernel)
      have z6 : ac.tmps[78]? = some v6 := e6
      obtain ⟨v7, e7, h7⟩ := hv 7 (by omega) (by decide +kernel)
      have z7 : ac.tmps[79]? = some v7 := e7
      obtain rfl : v7 = _ := h7
      refine op_call rfl rfl (by unfold execOp; simp [go_sem, Act.eval, z6, z7]) _ (hfa w9 v6 cB (-1) HBX h6) fun e w' hh => ?_
      obtain ⟨rfl, hb⟩ := hh
      exact ⟨_, rfl, _, rfl, rfl, hb⟩
    | 9, _ =>
      obtain ⟨v8, e8, h8⟩ := hv 8 (by omega) (by decide +kernel)
      have z8 : ac.tmps[80]? = some v8 := e8
      obtain rfl : v8 = _ := h8
      exact op_value rfl rfl (by unfold execOp; simp [go_sem, Act.eval, z8]) ⟨_, rfl, rfl, Below.refl _ _⟩
    | k + 10, hk => exact absurd hk (by omega)
  obtain ⟨v0, e0, -⟩ := hall 0 (by omega)
  obtain ⟨v1, e1, -⟩ := hall 1 (by omega)
  obtain ⟨v2, e2, -⟩ := hall 2 (by omega)
  obtain ⟨v3, e3, -⟩ := hall 3 (by omega)
  obtain ⟨v4, e4, -⟩ := hall 4 (by omega)
  obtain ⟨v5, e5, -⟩ := hall 5 (by omega)
  obtain ⟨v6, e6, -⟩ := hall 6 (by omega)
  obtain ⟨v7, e7, -⟩ := hall 7 (by omega)
  obtain ⟨v8, e8, -⟩ := hall 8 (by omega)
  obtain ⟨v9, e9, h9⟩ := hall 9 (by omega)
  obtain rfl : v9 = _ := h9
  have hact := act_puts hG.asz hG.dfr [(72, v0), (73, v1), (74, v2), (75, v3), (76, v4), (77, v5), (78, v6), (79, v7), (80, v8), (81, .bool false)] (by
    intro pr hpr
    simp only [List.mem_cons, List.not_mem_nil, or_false] at hpr
    rcases hpr with rfl | rfl | rfl | rfl | rfl | rfl | rfl | rfl | rfl | rfl
    · exact e0
    · exact e1
    · exact e2
    · exact e3
    · exact e4
    · exact e5
    · exact e6
    · exact e7
    · exact e8
    · exact e9) (fun k hk => hG.oth k fun i hi => by
      have h72 := hk (72, v0) (by simp)
      have h73 := hk (73, v1) (by simp)
      have h74 := hk (74, v2) (by simp)
      have h75 := hk (75, v3) (by simp)
      have h76 := hk (76, v4) (by simp)
      have h77 := hk (77, v5) (by simp)
      have h78 := hk (78, v6) (by simp)
      have h79 := hk (79, v7) (by simp)
      have h80 := hk (80, v8) (by simp)
      have h81 := hk (81, .bool false) (by simp)
      simp only at h72 h73 h74 h75 h76 h77 h78 h79 h80 h81
      omega)
  simp only [List.foldl_cons, List.foldl_nil, List.setIfInBounds_toArray, List.set_cons_succ, List.set_cons_zero] at hact
  have HB20 : Hid (Below w.heap.size w wA) := HB.out.trans (hG.bel.mono HB.out.size)
  have F20 := Hid.mk' (F11.out.below hG.bel)
  have HPN := Hid.mk' (HP.out.below hG.bel)
  rename_i hK
  refine hK _ _ ?_
  rw [hact]
  have h1 := hcx1 wA HB20.out
  clear hact hK hG hall e0 e1 e2 e3 e4 e5 e6 e7 e8 e9 HB F11 F13 hck hcx2
  have HBwA := HB20
  have FwA := F20
  have HPwA := HPN
  go_wp2_with fail
  refine h1.mono ?_
  clear h1
  rintro e wB ⟨⟨u1, rfl, hr⟩, hV⟩
  have HBwB : Hid (Below w.heap.size w wB) := HBwA.out.trans (hV.mono HBwA.out.size)
  have FwB := Hid.mk' (FwA.out.below hV)
  have HPwB := Hid.mk' (HPwA.out.below hV)
  have HU := Hid.mk' hr
  have h1 := hin wB HBwB.out
  clear hV hr
  go_wp2_with fail
  refine h1.mono ?_
  clear h1
  rintro e wC ⟨⟨u3, rfl, hu⟩, hV⟩
  have HBwC : Hid (Below w.heap.size w wC) := HBwB.out.trans (hV.mono HBwB.out.size)
  have FwC := Hid.mk' (FwB.out.below hV)
  have HPwC := Hid.mk' (HPwB.out.below hV)
  have h1 := hlf wC u1 u3 HBwC.out (HU.out.below hV) hu
  clear hV hu HU
  go_wp2_with fail
  refine h1.mono ?_
  clear h1
  rintro e wD ⟨hV, rfl⟩
  have HBwD : Hid (Below w.heap.size w wD) := HBwC.out.trans (hV.mono HBwC.out.size)
  have FwD := Hid.mk' (FwC.out.below hV)
  have HPwD := Hid.mk' (HPwC.out.below hV)
  have h1 := hcx1 wD HBwD.out
  clear hV
  go_wp2_with fail
  refine h1.mono ?_
  clear h1
  rintro e wE ⟨⟨u5, rfl, hr⟩, hV⟩
  have HBwE : Hid (Below w.heap.size w wE) := HBwD.out.trans (hV.mono HBwD.out.size)
  have FwE := Hid.mk' (FwD.out.below hV)
  have HPwE := Hid.mk' (HPwD.out.below hV)
  have HU := Hid.mk' hr
  have h1 := hin wE HBwE.out
  clear hV hr
  go_wp2_with fail
  refine h1.mono ?_
  clear h1
  rintro e wF ⟨⟨u6, rfl, hu⟩, hV⟩
  have HBwF : Hid (Below w.heap.size w wF) := HBwE.out.trans (hV.mono HBwE.out.size)
  have FwF := Hid.mk' (FwE.out.below hV)
  have HPwF := Hid.mk' (HPwE.out.below hV)
  have h1 := hfx wF u5 u6 HBwF.out (HU.out.below hV) hu
  clear hV hu HU
  go_wp2_with fail
  refine h1.mono ?_
  clear h1
  rintro e wG ⟨hV, v, rfl, hr⟩
  have HBwG : Hid (Below w.heap.size w wG) := HBwF.out.trans (hV.mono HBwF.out.size)
  have FwG := Hid.mk' (FwF.out.below hV)
  have HPwG := Hid.mk' (HPwF.out.below hV)
  obtain ⟨av, cv, rfl, -, -⟩ := (id hr : Rows wG v X).open_
  have HX := Hid.mk' hr
  have c0 := FwG.out.c0
  have c1 := FwG.out.c1
  have h1 := hfa wG .nilIface 0 dW HBwG.out (.inr ⟨rfl, rfl⟩)
  clear hV hr
  go_wp2_with fail
  refine h1.mono ?_
  clear h1
  rintro e wH ⟨rfl, hV⟩
  have HBwH : Hid (Below w.heap.size w wH) := HBwG.out.trans (hV.mono HBwG.out.size)
  have FwH := Hid.mk' (FwG.out.below hV)
  have HPwH := Hid.mk' (HPwG.out.below hV)
  have HXH := Hid.mk' (HX.out.below hV)
  clear c0 c1
  have c0 := FwH.out.c0
  have c1 := FwH.out.c1
  have h1 := hfa wH .nilIface 0 dW HBwH.out (.inr ⟨rfl, rfl⟩)
  clear hV HX
  go_wp2_with fail
  refine h1.mono ?_
  clear h1
  rintro e wI ⟨rfl, hV⟩
  have HBwI : Hid (Below w.heap.size w wI) := HBwH.out.trans (hV.mono HBwH.out.size)
  have FwI := Hid.mk' (FwH.out.below hV)
  have HPwI := Hid.mk' (HPwH.out.below hV)
  have HXI := Hid.mk' (HXH.out.below hV)
  clear c0 c1
  have c0 := FwI.out.c0
  have h1 := hfo wI _ HBwI.out HPwI.out.any
  clear hV HXH
  go_wp2_with fail
  refine h1.mono ?_
  clear h1
  rintro e wJ ⟨⟨x, rfl, hr⟩, hV⟩
  have HBwJ : Hid (Below w.heap.size w wJ) := HBwI.out.trans (hV.mono HBwI.out.size)
  have FwJ := Hid.mk' (FwI.out.below hV)
  have HPwJ := Hid.mk' (HPwI.out.below hV)
  have h1 := hsl wJ _ _ HBwJ.out (HXI.out.below hV) hr
  clear hV hr
  go_wp2_with fail
  refine h1.mono ?_
  clear h1
  rintro e wK ⟨rfl, hV⟩
  have HBwK : Hid (Below w.heap.size w wK) := HBwJ.out.trans (hV.mono HBwJ.out.size)
  have FwK := Hid.mk' (FwJ.out.below hV)
  have HPwK := Hid.mk' (HPwJ.out.below hV)
  have h1 := hlo wK _ HBwK.out HPwK.out.any
  clear hV
  obtain ⟨nX, hnX⟩ : ∃ nX, X.length = nX := ⟨_, rfl⟩
  rw [hnX] at hNX ⊢
  by_cases hN : N = 0
  · subst hN
    go_wp2_with fail
    refine h1.mono ?_
    clear h1
    rintro e wL ⟨rfl, hV⟩
    have HBwL : Hid (Below w.heap.size w wL) := HBwK.out.trans (hV.mono HBwK.out.size)
    clear hV
    go_wp2_with fail
    go_ret
    exact ⟨rfl, HBwL.out⟩
  · have hX0 : 0 < nX := by rcases hNX with h | h; exact absurd h hN; exact h
    have hb : (N == 0) = false := beq_false_of_ne hN
    go_wp2_with fail
    refine h1.mono ?_
    clear h1
    rintro e wL ⟨rfl, hV⟩
    have HBwL : Hid (Below w.heap.size w wL) := HBwK.out.trans (hV.mono HBwK.out.size)
    clear hV
    go_wp2_with fail
    go_ret
    exact ⟨rfl, HBwL.out⟩

end Go.Proofs.YthmjdfjchhohgaaGreatDoor
