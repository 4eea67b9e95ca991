/- SurfaceNormal answers true of whatever piece. -/
import Derived.Test.YtkaplnjknobdpaaDoorSurfKind4
import Derived.Test.YtkaplnjknobdpaaDoorSurfClass
namespace Go.Proofs.YtkaplnjknobdpaaDoor
open Go.RowKit Go.Sort

theorem rows_one {V : World} {u : Value} {ws : List Int} (h : Ints V u ws) (t : TypeId) : Rows (V.alloc (.cells #[u] t)) (.slice (some ⟨V.heap.size, 0, none⟩) 1 1) [ws] := by
  have hB : Below V.heap.size V (V.alloc (.cells #[u] t)) := (Below.refl _ V).alloc (Nat.le_refl _) _
  have h0 := cells_new V [u] t
  refine ⟨[u], ⟨some ⟨V.heap.size, 0, none⟩, 1, rfl, ⟨Nat.le_refl _, fun h => by cases h⟩, fun _ => ⟨V.heap.size, 0, rfl, trivial, fun k x hx => ?_⟩⟩, rfl, fun k x y hx hy => ?_⟩
  · have := h0 k x hx
    rwa [Addr.add_lit] at this
  · cases k with
    | zero =>
      have e1 : u = x := by simpa using hx
      have e2 : ws = y := by simpa using hy
      rw [← e1, ← e2]
      exact h.below hB
    | succ k => simp at hx

set_option maxRecDepth 100000 in
set_option maxHeartbeats 2000000 in
theorem torus_ (w : World) : Calls Tryd.prog 4 #[] w fun e w' => e = .returned (.bool true) ∧ Below w.heap.size w w' := by
  obtain ⟨hok, hk1, hk2, hk3⟩ := norm_kind (t := true) (g := 1) (r := 0) (by unfold ShapeBad; simp) (by decide)
  have ew : normW true 1 0 = [1, 2, -1, -2] := rfl
  rw [ew] at hok hk1 hk2 hk3
  have hin : Ints (w.alloc (.cells #[.int .i64 1, .int .i64 2, .int .i64 (-1), .int .i64 (-2)] 3)) (.slice (some ⟨w.heap.size, 0, none⟩) 4 4) [1, 2, -1, -2] := ints_new w [1, 2, -1, -2]
  have hrw := rows_one hin 25
  have hcl := classify_ _ _ hrw hok
  rw [hk1, hk2, hk3] at hcl
  rw [World.size_alloc, show ((1 : Nat) : Int) = 1 from rfl, show ((0 : Nat) : Int) = 0 from rfl] at hcl
  have hB0 : Below w.heap.size w ((w.alloc (.cells #[.int .i64 1, .int .i64 2, .int .i64 (-1), .int .i64 (-2)] 3)).alloc (.cells #[.slice (some ⟨w.heap.size, 0, none⟩) 4 4] 25)) := ((Below.refl _ w).alloc (Nat.le_refl _) _).alloc (by simp) _
  have HB0 := Hid.mk' hB0
  clear hok hk1 hk2 hk3 ew hin hrw hB0
  go_enter Tryd.func4, Tryd.ntmps4
  go_wp2_with fail
  refine hcl.mono ?_
  clear hcl
  rintro e V ⟨u, rfl, hP, hB⟩
  have HV : Hid (Below w.heap.size w V) := HB0.out.trans (hB.mono HB0.out.size)
  have HP := Hid.mk' hP
  clear hB
  obtain ⟨b, c, rfl, -⟩ := hP
  go_upto_region 2 with fail
  have hBk : Below V.heap.size V (V.alloc (.cells #[.slice (some ⟨b, 0, none⟩) 1 c] 37)) := (Below.refl _ V).alloc (Nat.le_refl _) _
  have k0 := cells_new V [.slice (some ⟨b, 0, none⟩) 1 c] 37 0 _ rfl
  rw [Addr.add_lit, Nat.zero_add] at k0
  obtain ⟨Y, hY⟩ : ∃ Y, V.alloc (.cells #[.slice (some ⟨b, 0, none⟩) 1 c] 37) = Y := ⟨_, rfl⟩
  obtain ⟨p, hp⟩ : ∃ p, V.heap.size = p := ⟨_, rfl⟩
  rw [hY, hp] at k0
  rw [hY] at hBk
  have HBY : Hid (Below w.heap.size w Y) := HV.out.trans (hBk.mono HV.out.size)
  have hlp := law_pieces _ true 1 0 Y (HP.out.below hBk)
  rw [hY, hp]
  clear hY hp hBk
  go_wp2_with fail
  refine hlp.mono ?_
  clear hlp
  rintro e V2 ⟨v2, rfl, hP2, hB2⟩
  have hBn : Below V2.heap.size V2 (V2.alloc (.cells #[.bool true, .int .i64 1, .int .i64 0] 23)) := (Below.refl _ V2).alloc (Nat.le_refl _) _
  have hb3 := box3_new V2 (.bool true) (.int .i64 1) (.int .i64 0) 23
  have hsm := same_one v2 (.slice (some ⟨V2.heap.size, 0, none⟩) 1 1) true 1 0 _ (hP2.below hBn) ⟨V2.heap.size, 1, rfl, hb3.1, hb3.2.1, hb3.2.2⟩
  have HBZ : Hid (Below w.heap.size w (V2.alloc (.cells #[.bool true, .int .i64 1, .int .i64 0] 23))) := (HBY.out.trans (hB2.mono HBY.out.size)).trans (hBn.mono (HBY.out.trans (hB2.mono HBY.out.size)).size)
  obtain ⟨b2, c2, rfl, -⟩ := hP2
  clear hb3 hBn hB2
  go_wp2_with fail
  refine hsm.mono ?_
  clear hsm
  rintro e V3 ⟨rfl, hB3⟩
  have HB3 : Hid (Below w.heap.size w V3) := HBZ.out.trans (hB3.mono HBZ.out.size)
  clear hB3
  go_wp2_with fail
  go_ret
  exact ⟨rfl, HB3.out⟩

theorem same_nil (V : World) : Calls Tryd.prog 7 #[.slice none 0 0, .slice none 0 0] V fun e w' => e = .returned (.bool true) ∧ Below V.heap.size V w' := (same_ints _ _ [] [] V (SliceIn.nil _ _) (SliceIn.nil _ _) (by simp)).mono fun e w' h => by
  obtain ⟨h1, q, h2⟩ := h
  exact ⟨by rw [h1]; rfl, by rw [h2]; exact ⟨rfl, rfl, rfl, Nat.le_refl _, fun _ _ => rfl⟩⟩

set_option maxRecDepth 100000 in
set_option maxHeartbeats 2000000 in
theorem normal_law_bad {a : Nat → Addr} {s : Nat → ByteArray} (t : Bool) (g r : Int) (i : Nat) (hi : i < 8) (w : World) (hE : Errs a s w)
    (h1 : ∀ V, Below w.heap.size w V → Calls Tryd.prog 5 #[.agg #[.bool t, .int .i64 g, .int .i64 r]] V fun e w' => e = .returned (.tuple #[.slice none 0 0, .iface 137 (.pointer (some (a i)))]) ∧ Below V.heap.size V w')
    (h2 : ∀ V, Below w.heap.size w V → Calls Tryd.prog 6 #[.agg #[.bool t, .int .i64 g, .int .i64 r]] V fun e w' => e = .returned (.tuple #[.slice none 0 0, .int .i64 ((i : Int) + 1)]) ∧ Below V.heap.size V w') :
    Calls Tryd.prog 3 #[.agg #[.bool t, .int .i64 g, .int .i64 r]] w fun e w' => e = .returned (.bool true) ∧ Below w.heap.size w w' := by
  have hB : Below w.heap.size w (w.alloc (.cells #[.bool t, .int .i64 g, .int .i64 r] 23)) := (Below.refl _ w).alloc (Nat.le_refl _) _
  obtain ⟨x0, x1, x2⟩ := box3_new w (.bool t) (.int .i64 g) (.int .i64 r) 23
  have hcd : ∀ V, Below w.heap.size w V → Calls Tryd.prog 8 #[.iface 137 (.pointer (some (a i))), .int .i64 ((i : Int) + 1)] V fun e w' => e = .returned (.bool true) ∧ Below V.heap.size V w' := fun V hV => (coded_es V (hE.below hV) i hi ((i : Int) + 1)).mono fun e w' h => ⟨by rw [h.1, decide_eq_true rfl], h.2⟩
  obtain ⟨X, hX⟩ : ∃ X, w.alloc (.cells #[.bool t, .int .i64 g, .int .i64 r] 23) = X := ⟨_, rfl⟩
  obtain ⟨p, hp⟩ : ∃ p, w.heap.size = p := ⟨_, rfl⟩
  have HX : Hid (w.alloc (.cells #[.bool t, .int .i64 g, .int .i64 r] 23) = X ∧ w.heap.size = p ∧ Below w.heap.size w X) := ⟨hX, hp, by rw [← hX]; exact hB⟩
  rw [hX, hp] at x0 x1 x2
  have hto := torus_ X
  obtain ⟨ev, hev⟩ : ∃ ev : Value, .iface 137 (.pointer (some (a i))) = ev := ⟨_, rfl⟩
  obtain ⟨E, hEE⟩ : ∃ E : Int, (i : Int) + 1 = E := ⟨_, rfl⟩
  have hE0 : 0 < E := by omega
  rw [hev] at h1 hcd
  rw [hEE] at h2 hcd
  clear hB hX hp hE hev hEE hi
  go_enter Tryd.func3, Tryd.ntmps3
  go_upto_region 1 with fail
  rw [HX.out.1, HX.out.2.1]
  go_upto_region 4 with (go_at_call 4; refine hto.mono ?_; rintro e V ⟨rfl, hV⟩; have y0 := (hV.cell (p := ⟨p, 0, none⟩) (cell_lt x0)).trans x0; have y1 := (hV.cell (p := ⟨p, 1, none⟩) (cell_lt x1)).trans x1; have y2 := (hV.cell (p := ⟨p, 2, none⟩) (cell_lt x2)).trans x2; have HC : Hid (Below w.heap.size w V) := HX.out.2.2.trans (hV.mono HX.out.2.2.size); clear hV hto)
  have hno := h1 V HC.out
  clear x0 x1 x2 h1
  go_upto_region 5 with (go_at_call 5; refine hno.mono ?_; rintro e V2 ⟨rfl, hV⟩; have z0 := (hV.cell (p := ⟨p, 0, none⟩) (cell_lt y0)).trans y0; have z1 := (hV.cell (p := ⟨p, 1, none⟩) (cell_lt y1)).trans y1; have z2 := (hV.cell (p := ⟨p, 2, none⟩) (cell_lt y2)).trans y2; replace HC : Hid (Below w.heap.size w V2) := HC.out.trans (hV.mono HC.out.size); clear hV hno)
  have hof := h2 V2 HC.out
  clear y0 y1 y2 h2
  go_upto_region 6 with (go_at_call 6; refine hof.mono ?_; rintro e V3 ⟨rfl, hV⟩; replace HC : Hid (Below w.heap.size w V3) := HC.out.trans (hV.mono HC.out.size); clear hV hof)
  have hsa := same_nil V3
  go_upto_region 7 with (go_at_call 7; refine hsa.mono ?_; rintro e V4 ⟨rfl, hV⟩; replace HC : Hid (Below w.heap.size w V4) := HC.out.trans (hV.mono HC.out.size); clear hV hsa)
  have hcc := hcd V4 HC.out
  clear hcd z0 z1 z2
  go_wp2_with (first
    | (go_at_call 8; refine hcc.mono ?_; rintro e V5 ⟨rfl, hV⟩; replace HC : Hid (Below w.heap.size w V5) := HC.out.trans (hV.mono HC.out.size); clear hV hcc)
    | fail)
  go_ret
  exact ⟨rfl, HC.out⟩

set_option maxRecDepth 100000 in
set_option maxHeartbeats 4000000 in
theorem normal_law_ok (t : Bool) (g r : Nat) (w : World) (hs : ¬ ShapeBad t (g : Int) (r : Int)) (hf : fitsB t (g : Int) (r : Int) = true) :
    Calls Tryd.prog 3 #[.agg #[.bool t, .int .i64 (g : Int), .int .i64 (r : Int)]] w fun e w' => e = .returned (.bool true) ∧ Below w.heap.size w w' := by
  have hB : Below w.heap.size w (w.alloc (.cells #[.bool t, .int .i64 (g : Int), .int .i64 (r : Int)] 23)) := (Below.refl _ w).alloc (Nat.le_refl _) _
  obtain ⟨x0, x1, x2⟩ := box3_new w (.bool t) (.int .i64 (g : Int)) (.int .i64 (r : Int)) 23
  obtain ⟨hok, hk1, hk2, hk3⟩ := norm_kind hs hf
  have hg6 : g ≤ 60 ∧ r ≤ 60 := by have := of_decide_eq_true hf; omega
  have hno : ∀ V, _ := fun V => normal_ok t g r V hs hf
  have hof : ∀ V, Calls Tryd.prog 6 #[.agg #[.bool t, .int .i64 (g : Int), .int .i64 (r : Int)]] V fun e w' => ∃ v, e = .returned (.tuple #[v, .int .i64 0]) ∧ Ints w' v (normW t g r) ∧ Below V.heap.size V w' := fun V => (normal_of_ok t g r V hs hg6).mono fun e w' h => by
    rcases h.1 with ⟨_, v, h1, h2⟩ | ⟨h1, _⟩
    · exact ⟨v, h1, h2, h.2⟩
    · rw [hf] at h1; cases h1
  obtain ⟨ws, hws⟩ : ∃ ws, normW t g r = ws := ⟨_, rfl⟩
  rw [hws] at hok hk1 hk2 hk3 hno hof
  have hsa : ∀ V u v, Ints V u ws → Ints V v ws → Calls Tryd.prog 7 #[u, v] V fun e w' => e = .returned (.bool true) ∧ Below V.heap.size V w' := fun V u v h1 h2 => (same_ints u v ws ws V h1 h2 (by have := hok.few; omega)).mono fun e w' h => by
    obtain ⟨h1, q, h2⟩ := h
    exact ⟨by rw [h1, decide_eq_true rfl], by rw [h2]; exact ⟨rfl, rfl, rfl, Nat.le_refl _, fun _ _ => rfl⟩⟩
  have hcl : ∀ V u, Rows V u [ws] → Calls Tryd.prog 9 #[u] V fun e w' => ∃ x, e = .returned (.tuple #[.agg #[x], .nilIface]) ∧ PieceAt w' x t (g : Int) (r : Int) ∧ Below V.heap.size V w' := fun V u h => by
    have := classify_ u V h hok
    rw [hk1, hk2, hk3] at this
    exact this
  have hcd : ∀ V, Calls Tryd.prog 8 #[.nilIface, .int .i64 0] V fun e w' => e = .returned (.bool true) ∧ w' = V := fun V => (coded_nil 0 V).mono fun e w' h => ⟨by rw [h.1]; rfl, h.2⟩
  obtain ⟨X, hX⟩ : ∃ X, w.alloc (.cells #[.bool t, .int .i64 (g : Int), .int .i64 (r : Int)] 23) = X := ⟨_, rfl⟩
  obtain ⟨p, hp⟩ : ∃ p, w.heap.size = p := ⟨_, rfl⟩
  have HX : Hid (w.alloc (.cells #[.bool t, .int .i64 (g : Int), .int .i64 (r : Int)] 23) = X ∧ w.heap.size = p ∧ Below w.heap.size w X) := ⟨hX, hp, by rw [← hX]; exact hB⟩
  rw [hX, hp] at x0 x1 x2
  have hto := torus_ X
  clear hB hX hp hs hf hok hk1 hk2 hk3 hws hg6
  go_enter Tryd.func3, Tryd.ntmps3
  go_upto_region 1 with fail
  rw [HX.out.1, HX.out.2.1]
  go_upto_region 4 with (go_at_call 4; refine hto.mono ?_; rintro e V ⟨rfl, hV⟩; have y0 := (hV.cell (p := ⟨p, 0, none⟩) (cell_lt x0)).trans x0; have y1 := (hV.cell (p := ⟨p, 1, none⟩) (cell_lt x1)).trans x1; have y2 := (hV.cell (p := ⟨p, 2, none⟩) (cell_lt x2)).trans x2; have HC : Hid (Below w.heap.size w V) := HX.out.2.2.trans (hV.mono HX.out.2.2.size); clear hV hto)
  have hn1 := hno V
  clear x0 x1 x2 hno
  go_upto_region 5 with (go_at_call 5; refine hn1.mono ?_; rintro e V2 ⟨u, rfl, hu, hV⟩; have z0 := (hV.cell (p := ⟨p, 0, none⟩) (cell_lt y0)).trans y0; have z1 := (hV.cell (p := ⟨p, 1, none⟩) (cell_lt y1)).trans y1; have z2 := (hV.cell (p := ⟨p, 2, none⟩) (cell_lt y2)).trans y2; replace HC : Hid (Below w.heap.size w V2) := HC.out.trans (hV.mono HC.out.size); have HU : Hid (Ints V2 u ws) := hu; obtain ⟨au, cu, rfl, -, -⟩ := hu.open_; clear hV hn1 hu)
  have ho1 := hof V2
  clear y0 y1 y2 hof
  go_upto_region 6 with (go_at_call 6; refine ho1.mono ?_; rintro e V3 ⟨u2, rfl, hu, hV⟩; have a0 := (hV.cell (p := ⟨p, 0, none⟩) (cell_lt z0)).trans z0; have a1 := (hV.cell (p := ⟨p, 1, none⟩) (cell_lt z1)).trans z1; have a2 := (hV.cell (p := ⟨p, 2, none⟩) (cell_lt z2)).trans z2; replace HC : Hid (Below w.heap.size w V3) := HC.out.trans (hV.mono HC.out.size); replace HU := Hid.mk' (HU.out.below hV); have HU2 : Hid (Ints V3 u2 ws) := hu; obtain ⟨au2, cu2, rfl, -, -⟩ := hu.open_; clear hV ho1 hu)
  have hs1 := hsa V3 _ _ HU.out HU2.out
  clear z0 z1 z2 hsa
  go_upto_region 7 with (go_at_call 7; refine hs1.mono ?_; rintro e V4 ⟨rfl, hV⟩; have b0 := (hV.cell (p := ⟨p, 0, none⟩) (cell_lt a0)).trans a0; have b1 := (hV.cell (p := ⟨p, 1, none⟩) (cell_lt a1)).trans a1; have b2 := (hV.cell (p := ⟨p, 2, none⟩) (cell_lt a2)).trans a2; replace HC : Hid (Below w.heap.size w V4) := HC.out.trans (hV.mono HC.out.size); replace HU := Hid.mk' (HU.out.below hV); clear hV hs1)
  have hc1 := hcd V4
  clear hcd a0 a1 a2 HU2
  go_upto_region 11 with (go_at_call 8; refine hc1.mono ?_; rintro e V5 ⟨rfl, rfl⟩; clear hc1)
  have hBn : Below V5.heap.size V5 (V5.alloc (.cells #[.slice au ws.length cu] 25)) := (Below.refl _ V5).alloc (Nat.le_refl _) _
  have hc2 := hcl _ _ (rows_one HU.out 25)
  have HBn : Hid (Below V5.heap.size V5 (V5.alloc (.cells #[.slice au ws.length cu] 25))) := hBn
  clear hcl hBn
  go_wp2_with fail
  refine hc2.mono ?_
  clear hc2
  rintro e V6 ⟨u6, rfl, hP, hB⟩
  have H56 : Hid (Below V5.heap.size V5 V6) := HBn.out.trans (hB.mono HBn.out.size)
  have d0 := (H56.out.cell (p := ⟨p, 0, none⟩) (cell_lt b0)).trans b0
  have d1 := (H56.out.cell (p := ⟨p, 1, none⟩) (cell_lt b1)).trans b1
  have d2 := (H56.out.cell (p := ⟨p, 2, none⟩) (cell_lt b2)).trans b2
  have HP := Hid.mk' hP
  obtain ⟨b6, c6, rfl, -⟩ := hP
  replace HC : Hid (Below w.heap.size w V6) := HC.out.trans (H56.out.mono HC.out.size)
  clear hB b0 b1 b2 H56 HBn HU
  go_upto_region 12 with fail
  have hBk : Below V6.heap.size V6 (V6.alloc (.cells #[.slice (some ⟨b6, 0, none⟩) 1 c6] 37)) := (Below.refl _ V6).alloc (Nat.le_refl _) _
  have k0 := cells_new V6 [.slice (some ⟨b6, 0, none⟩) 1 c6] 37 0 _ rfl
  rw [Addr.add_lit, Nat.zero_add] at k0
  obtain ⟨Y, hY⟩ : ∃ Y, V6.alloc (.cells #[.slice (some ⟨b6, 0, none⟩) 1 c6] 37) = Y := ⟨_, rfl⟩
  obtain ⟨kp, hkp⟩ : ∃ kp, V6.heap.size = kp := ⟨_, rfl⟩
  rw [hY, hkp] at k0
  rw [hY] at hBk
  have e0 := (hBk.cell (p := ⟨p, 0, none⟩) (cell_lt d0)).trans d0
  have e1 := (hBk.cell (p := ⟨p, 1, none⟩) (cell_lt d1)).trans d1
  have e2 := (hBk.cell (p := ⟨p, 2, none⟩) (cell_lt d2)).trans d2
  have HBY : Hid (Below w.heap.size w Y) := HC.out.trans (hBk.mono HC.out.size)
  have HPY : Hid (PieceAt Y (.slice (some ⟨b6, 0, none⟩) 1 c6) t (g : Int) (r : Int)) := HP.out.below hBk
  have hlp : ∀ V, Below Y.heap.size Y V → Calls Tryd.prog 11 #[.agg #[.slice (some ⟨b6, 0, none⟩) 1 c6]] V fun e w' => ∃ v, e = .returned v ∧ PieceAt w' v t (g : Int) (r : Int) ∧ Below V.heap.size V w' := fun V hV => law_pieces _ t (g : Int) (r : Int) V (HPY.out.below hV)
  rw [hY, hkp]
  clear hY hkp hBk d0 d1 d2 HP
  have HD : Hid (Below Y.heap.size Y Y.drew) := (Below.refl _ Y).drew
  have hDa : ∀ o, Below Y.heap.size Y (Y.drew.alloc o) := fun o => ((Below.refl _ Y).drew).alloc (Nat.le_refl _) o
  have HQY : Hid (PieceAt (Y.drew.alloc (.cells #[.bool t, .int .i64 (g : Int), .int .i64 (r : Int)] 23)) (.slice (some ⟨Y.heap.size, 0, none⟩) 1 1) t (g : Int) (r : Int)) := by
    have hb := box3_new Y.drew (.bool t) (.int .i64 (g : Int)) (.int .i64 (r : Int)) 23
    exact ⟨Y.heap.size, 1, rfl, hb.1, hb.2.1, hb.2.2⟩
  have hsB : ∀ (V7 : World) (x y : Value), PieceAt V7 x t (g : Int) (r : Int) → PieceAt V7 y t (g : Int) (r : Int) → Calls Tryd.prog 10 #[x, y] V7 fun e w' => e = .returned (.bool true) ∧ Below V7.heap.size V7 w' := fun V7 x y hx hy => same_one x y t (g : Int) (r : Int) V7 hx hy
  have hAl : ∀ (V : World) (o : Obj), Below V.heap.size V (V.alloc o) := fun V o => (Below.refl _ V).alloc (Nat.le_refl _) o
  have hnew : ∀ V : World, PieceAt (V.alloc (.cells #[.bool t, .int .i64 (g : Int), .int .i64 (r : Int)] 23)) (.slice (some ⟨V.heap.size, 0, none⟩) 1 1) t (g : Int) (r : Int) := fun V => by
    have hb := box3_new V (.bool t) (.int .i64 (g : Int)) (.int .i64 (r : Int)) 23
    exact ⟨V.heap.size, 1, rfl, hb.1, hb.2.1, hb.2.2⟩
  have ka : ∀ o, (Y.drew.alloc o).cell? ⟨kp, 0, none⟩ = some (.slice (some ⟨b6, 0, none⟩) 1 c6) := fun o => (World.cell?_alloc_lt Y.drew o ⟨kp, 0, none⟩ (cell_lt k0)).trans k0
  have kb : ∀ o, (Y.alloc o).cell? ⟨kp, 0, none⟩ = some (.slice (some ⟨b6, 0, none⟩) 1 c6) := fun o => (World.cell?_alloc_lt Y o ⟨kp, 0, none⟩ (cell_lt k0)).trans k0
  have HAL := Hid.mk' hAl
  have HNEW := Hid.mk' hnew
  have HSB := Hid.mk' hsB
  have HLP := Hid.mk' hlp
  have HDA := Hid.mk' hDa
  clear hAl hnew hsB hlp hDa
  go_wp2_with fail
  go_region_with (first
    | (go_at_call 11; refine (HLP.out _ (by first | exact HD.out | exact HDA.out _)).mono ?_; rintro e V7 ⟨v7, rfl, hP7, hB7⟩; have HD7 : Hid (Below Y.heap.size Y V7) := (by first | exact HD.out.trans (hB7.mono HD.out.size) | exact (HDA.out _).trans (hB7.mono (HDA.out _).size)); have f0 := (HD7.out.cell (p := ⟨p, 0, none⟩) (cell_lt e0)).trans e0; have f1 := (HD7.out.cell (p := ⟨p, 1, none⟩) (cell_lt e1)).trans e1; have f2 := (HD7.out.cell (p := ⟨p, 2, none⟩) (cell_lt e2)).trans e2; have HB7 := Hid.mk' hB7; have HP7 := Hid.mk' hP7; obtain ⟨b7, c7, rfl, -⟩ := hP7; clear hB7)
    | (go_at_call 10; refine (HSB.out _ _ _ (by first | exact HP7.out.below (HAL.out _ _) | exact HP7.out) (by first | exact HNEW.out _ | exact HQY.out.below HB7.out)).mono ?_; rintro e V8 ⟨rfl, hB8⟩; have HD8 : Hid (Below Y.heap.size Y V8) := (by first | exact (HD7.out.trans ((HAL.out _ _).mono HD7.out.size)).trans (hB8.mono (HD7.out.trans ((HAL.out _ _).mono HD7.out.size)).size) | exact HD7.out.trans (hB8.mono HD7.out.size)); clear hB8))
  all_goals go_wp2_with fail
  all_goals go_ret
  all_goals exact ⟨rfl, HBY.out.trans (HD8.out.mono HBY.out.size)⟩

end Go.Proofs.YtkaplnjknobdpaaDoor
