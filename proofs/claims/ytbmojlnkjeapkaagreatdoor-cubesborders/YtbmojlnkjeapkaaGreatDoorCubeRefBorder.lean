/- What the reference's CellBorder answers: the boundary's numbers, row behind row. -/
import Derived.Test.YtbmojlnkjeapkaaGreatDoorCubeBound
import Derived.Test.YtbmojlnkjeapkaaGreatDoorCubeCells
import Derived.Test.YtbmojlnkjeapkaaGreatDoorCubeInc
import Derived.Test.YtbmojlnkjeapkaaGreatDoorMatAt
import Derived.Test.YtbmojlnkjeapkaaGreatDoorRefC
import Derived.Deep.DeepCutAuto
import Derived.Deep.Light
namespace Go.Proofs.YtbmojlnkjeapkaaGreatDoor
open Go.RowKit Go.Sort

/-- The matrix that is being made, in its own box, and its first n numbers. -/
structure MatOut (L : List Int) (r c : Int) (B : Nat) (W0 : World) (n : Nat) (v : Value) (W : World) : Prop where
  out : MatBox B W r c v
  own : W.ownsRow (B + 1) 3 1 v n ((L.take n).map (Value.int .i64))
  size : B + 1 ≤ W.heap.size
  below : Below B W0 W
theorem matOut_start (L : List Int) (r c : Int) (w : World) (t : TypeId) : MatOut L r c w.heap.size w 0 (.slice none 0 0) (w.alloc (.cells #[.int .i64 r, .int .i64 c, .slice none 0 0] t)) where
  out := matBox_new w r c (.slice none 0 0) t
  own := by simp; exact World.ownsRow_nil _ _ _ _
  size := by simp
  below := (Below.refl _ w).alloc (Nat.le_refl _) _
theorem MatOut.later {L : List Int} {r c : Int} {B : Nat} {w : World} {n : Nat} {v : Value} {W W' : World} (h : MatOut L r c B w n v W) (hB : Below W.heap.size W W') : MatOut L r c B w n v W' where
  out := h.out.below hB
  own := h.own.kept (Below.grownBy hB) (by cases v.ownBlock <;> simp)
  size := Nat.le_trans h.size hB.size
  below := h.below.trans (hB.mono (by have := h.size; omega))
theorem MatOut.ne {L : List Int} {r c : Int} {B : Nat} {w : World} {n : Nat} {v : Value} {W : World} (h : MatOut L r c B w n v W) : some B ≠ v.ownBlock := fun e => by have := (h.own.lt _ e.symm).1; omega
theorem MatOut.grown {L : List Int} {r c : Int} {B : Nat} {w : World} {n : Nat} {v : Value} {W W' : World} {o : Obj} (h : MatOut L r c B w n v W) (hg : (W.alloc o).grownBy W' v.ownBlock) :
    MatBox B W' r c v ∧ B + 1 ≤ W'.heap.size ∧ Below B w W' := by
  have h1 := hg.size
  rw [World.size_alloc] at h1
  have h2 := h.size
  exact ⟨h.out.far hg h.ne, by omega, (h.below.alloc (by omega) o).grown hg (by simp; omega) (fun j hj => by have := (h.own.lt j hj).1; omega)⟩
theorem MatOut.step {L : List Int} {r c : Int} {B : Nat} {w : World} {n : Nat} {v v' : Value} {W W' : World} {o : Obj} {x : Int} (h : MatOut L r c B w n v W) (hx : L[n]? = some x) (hg : (W.alloc o).grownBy W' v.ownBlock)
    (hown : W'.ownsRow (B + 1) 3 1 v' (n + 1) ((L.take n).map (Value.int .i64) ++ [.int .i64 x])) : MatOut L r c B w (n + 1) v' (W'.setCell ⟨B, 2, none⟩ v') := by
  obtain ⟨g2, g3, g4⟩ := h.grown hg
  refine ⟨g2.set v', ?_, by rw [World.size_setCell]; exact g3, g4.setCell (p := ⟨B, 2, none⟩) (Nat.le_refl _) _⟩
  rw [List.take_add_one, hx, List.map_append]
  exact ownsRow_setCell_below hown (show (⟨B, 2, none⟩ : Addr).block < B + 1 by show B < B + 1; omega) v'
theorem MatOut.ints {L : List Int} {r c : Int} {B : Nat} {w : World} {n : Nat} {v : Value} {W : World} (h : MatOut L r c B w n v W) (hn : n = L.length) : IntsIn (fun b => B + 1 ≤ b) W v L := by
  have := slice_of_owns (S := fun b => B + 1 ≤ b) h.own (fun b hb _ => hb)
  rw [hn, List.take_length] at this
  exact this

theorem cellsAtL_mem {f : Int → Int → Bool} {d : Int} {a b : Sq} : ∀ {n : Nat}, a ∈ cellsAtL f d b n → ∃ k, k < n ∧ a = cellOf b k
  | 0, h => by cases h
  | n + 1, h => by
    rcases List.mem_append.1 h with h | h
    · obtain ⟨k, hk, e⟩ := cellsAtL_mem h
      exact ⟨k, by omega, e⟩
    · split at h
      · exact ⟨n, by omega, List.mem_singleton.1 h⟩
      · cases h

theorem cells_midst {f : Int → Int → Bool} {d : Int} {w h : Nat} (hw : w ≤ 100) (hh : h ≤ 100) {a : Sq} (ha : a ∈ cellsL f d (sqTo w h)) : Midst a := by
  obtain ⟨b, hb, h1⟩ := List.mem_flatMap.1 ha
  obtain ⟨k, hk, rfl⟩ := cellsAtL_mem h1
  have h2 := mem_sqTo.1 hb
  unfold InSq at h2
  unfold Midst cellOf
  simp only
  omega

theorem rows_midst {m : List (List UInt8)} {d : Int} (hok : OkImg m) {a : Sq} (ha : a ∈ rowsC m d) : Midst a := by
  have h1 := hok.img.2.1
  have h2 := hok.img.2.2.1
  unfold rowsC at ha
  split at ha
  · cases ha
  · exact cells_midst (by omega) (by omega) ha
theorem cols_midst {m : List (List UInt8)} {d : Int} (hok : OkImg m) {a : Sq} (ha : a ∈ colsC m d) : Midst a := cells_midst (by have := hok.img.2.2.1; omega) (by have := hok.img.2.1; omega) ha

theorem cells_few {m : List (List UInt8)} (d : Int) (hok : OkImg m) : (cellsL (fullI m) d (cornersI m)).length ≤ 2500 := by
  have h1 := cellsN_le (fullI m) d (cornersI m)
  rw [cellsL_len]
  have h2 : (cornersI m).length ≤ 625 := by
    rw [sqTo_len]
    exact Nat.mul_le_mul (show m.length + 1 ≤ 25 by have := hok.img.2.1; omega) (show wide m + 1 ≤ 25 by have := hok.img.2.2.1; omega)
  omega
theorem rows_few {m : List (List UInt8)} (d : Int) (hok : OkImg m) : (rowsC m d).length ≤ 2500 := by
  unfold rowsC
  split
  · simp
  · exact cells_few _ hok

theorem SqIn.nilv (S : Nat → Prop) (W : World) : SqIn S W (.slice none 0 0) [] := ⟨none, 0, rfl, fun h => by cases h⟩

set_option maxRecDepth 100000 in
set_option maxHeartbeats 4000000 in
theorem cell_border (vm : Value) (m : List (List UInt8)) (w : World) (hm : Strs w vm m) (hok : OkImg m) (d : Int) (hd : 0 ≤ d ∧ d ≤ 3) :
    Calls Tryz.prog 16 #[vm, .int .i64 d] w fun e w' => ∃ v, e = .returned (.agg #[.int .i64 (rowsC m d).length, .int .i64 (colsC m d).length, v]) ∧ Ints w' v (borderC m d) ∧ Below w.heap.size w w' := by
  obtain ⟨j0, hj0, hy0, hy1, hy2⟩ := info_parts Tryz.info3
  have hbox := matBox_new w 0 0 (.slice none 0 0) 46
  have hBa : Below w.heap.size w (w.alloc (.cells #[.int .i64 0, .int .i64 0, .slice none 0 0] 46)) := (Below.refl _ w).alloc (Nat.le_refl _) _
  have hce : ∀ W (dd : Int), Below w.heap.size w W → Calls Tryz.prog 32 #[vm, .int .i64 dd] W fun e w' => ∃ v, e = .returned v ∧ SqIn (fun _ => True) w' v (cellsL (fullI m) dd (cornersI m)) ∧ Below W.heap.size W w' := fun W dd hW => (cells_of vm m W (hm.below hW) hok.img.1 dd).mono fun e w' h => by
    obtain ⟨v, h1, h2, h3⟩ := h
    exact ⟨v, h1, h2.mono (fun _ _ _ => trivial), h3⟩
  have hinc : ∀ a b, a ∈ rowsC m d → b ∈ colsC m d → ∀ W, Calls Tryz.prog 33 #[cornerV a, cornerV b, .int .i64 d] W fun e w' => e = .returned (.int .i64 (incI a b d)) ∧ Below W.heap.size W w' := fun a b ha hb W => incidence_ a b d (rows_midst hok ha) (cols_midst hok hb) W
  have hrf := rows_few d hok
  have hcf : (colsC m d).length ≤ 2500 := cells_few d hok
  have HB0 : Hid (∀ i k, i < (rowsC m d).length → k < (colsC m d).length → (borderC m d)[i * (colsC m d).length + k]? = some (incI ((rowsC m d)[i]?.getD (0, 0)) ((colsC m d)[k]?.getD (0, 0)) d)) := fun i k hi hk => matL_at _ hi hk
  have HBL : Hid ((borderC m d).length = (rowsC m d).length * (colsC m d).length) := matL_len _ _ _
  have HRW : Hid (rowsC m d = if d = 0 then [] else cellsL (fullI m) (d - 1) (cornersI m)) := rfl
  have HCW : Hid (colsC m d = cellsL (fullI m) d (cornersI m)) := rfl
  obtain ⟨R, hR⟩ : ∃ R, rowsC m d = R := ⟨_, rfl⟩
  obtain ⟨C, hC⟩ : ∃ C, colsC m d = C := ⟨_, rfl⟩
  obtain ⟨L, hL⟩ : ∃ L, borderC m d = L := ⟨_, rfl⟩
  rw [hR, hC] at hinc
  rw [hR] at hrf HRW
  rw [hC] at hcf HCW
  rw [hR, hC, hL] at HB0 HBL ⊢
  obtain ⟨am, ca, rfl, -, -⟩ := hm.open_
  clear hR hC hL hm hok
  unfold cornerV at hinc
  go_enter Tryz.func16, Tryz.ntmps16
  go_upto_if 11 with fail
  obtain ⟨Z, hZ⟩ : ∃ Z, w.heap.size = Z := ⟨_, rfl⟩
  obtain ⟨W1, hW1⟩ : ∃ W1, w.alloc (.cells #[.int .i64 0, .int .i64 0, .slice none 0 0] 46) = W1 := ⟨_, rfl⟩
  rw [hZ] at hce
  rw [hZ, hW1] at hbox hBa
  rw [hZ, hW1]
  have HZZ : Hid (w.heap.size = Z) := hZ
  have hl1 : Z < W1.heap.size := by rw [← hW1, ← hZ]; simp
  clear hZ hW1
  go_cut [5] from 10 to 15 (fun s wx => Hid (SqIn (fun _ => True) wx s R) ∧ Hid (Below W1.heap.size W1 wx))
  case first =>
    by_cases h0 : d = 0
    · have HN : Hid (R = []) := by show R = []; rw [HRW.out, if_pos h0]
      subst h0
      go_wp2_with fail
      go_meet
      exact ⟨by rw [HN.out]; exact SqIn.nilv _ _, Below.refl _ _⟩
    · have HN : Hid (R = cellsL (fullI m) (d - 1) (cornersI m)) := by show R = _; rw [HRW.out, if_neg h0]
      have hc1 := hce W1 (d - 1) hBa
      have hd0 : 0 < d := by omega
      clear hce h0
      go_wp2_with (first
        | (go_at_call 32; refine hc1.mono ?_; rintro e w2 ⟨v2, rfl, hs2, hB2⟩; have HS2 : Hid (SqIn (fun _ => True) w2 v2 (cellsL (fullI m) (d - 1) (cornersI m))) := hs2; have HB2 : Hid (Below W1.heap.size W1 w2) := hB2; clear hs2 hB2)
        | fail)
      go_meet
      exact ⟨by rw [HN.out]; exact HS2.out, HB2.out⟩
  obtain ⟨HS5, HB5⟩ := hcut
  obtain ⟨W2, hW2⟩ : ∃ W2, W2 = wc := ⟨_, rfl⟩
  subst hW2
  have hc2 := hce W2 d (hBa.trans (HB5.out.mono (by omega)))
  obtain ⟨a5, c5, e5, h5⟩ := HS5.out
  have H5 : Hid (0 < R.length → ∃ g, a5 = some ⟨g, 0, none⟩ ∧ True ∧ g < W2.heap.size ∧ ∀ k (hk : k < R.length), W2.cell? ⟨g, k * 2, none⟩ = some (.int .i64 R[k].1) ∧ W2.cell? ⟨g, k * 2 + 1, none⟩ = some (.int .i64 R[k].2)) := h5
  subst e5
  clear hce h5 HS5
  go_upto_region 5 with (go_at_call 32; refine hc2.mono ?_; rintro e w3 ⟨v6, rfl, hs6, hB6⟩; have HS6 : Hid (SqIn (fun _ => True) w3 v6 (cellsL (fullI m) d (cornersI m))) := hs6; have HB6 : Hid (Below W2.heap.size W2 w3) := hB6; clear hs6 hB6)
  rw [← HCW.out] at HS6
  obtain ⟨a6, c6, e6, h6⟩ := HS6.out
  have H6 : Hid (0 < C.length → ∃ g, a6 = some ⟨g, 0, none⟩ ∧ True ∧ g < w3.heap.size ∧ ∀ k (hk : k < C.length), w3.cell? ⟨g, k * 2, none⟩ = some (.int .i64 C[k].1) ∧ w3.cell? ⟨g, k * 2 + 1, none⟩ = some (.int .i64 C[k].2)) := h6
  subst e6
  have HM0 := matOut_start L R.length C.length w3 46
  obtain ⟨B, hB⟩ : ∃ B, w3.heap.size = B := ⟨_, rfl⟩
  rw [hB] at HM0
  have HBB : Hid (w3.heap.size = B) := hB
  have HM0 := Hid.mk' HM0
  clear hc2 h6 HS6
  go_wp2_with fail
  obtain ⟨W0, hW0⟩ : ∃ W0, w3.alloc (.cells #[.int .i64 (R.length : Int), .int .i64 (C.length : Int), .slice none 0 0] 46) = W0 := ⟨_, rfl⟩
  rw [hW0] at HM0
  rw [hW0]
  try rw [hB]
  clear hW0 hB
  go_loopw [8] (fun p W => ∃ (i : Nat) (vo : Value), i ≤ R.length ∧ p = .int .i64 i ∧ Hid (MatOut L R.length C.length B w3 (i * C.length) vo W)) (fun p _ => R.length - (intOf p).toNat)
  case atStart => exact ⟨0, _, by omega, rfl, by rw [Nat.zero_mul]; exact HM0.out⟩
  case round =>
    obtain ⟨i, vo, hi, rfl, HAT⟩ := hrel
    obtain ⟨wi, hwi⟩ : ∃ wi : World, wi = wr := ⟨_, rfl⟩
    subst hwi
    clear HM0
    by_cases hlt : i < R.length
    · obtain ⟨gr, rfl, -, hgr, cr⟩ := H5.out (by omega)
      have cr_ := cr i hlt
      have HRM : Hid (R[i] ∈ R) := List.getElem_mem hlt
      have HRE : Hid (R[i]?.getD (0, 0) = R[i]) := by show R[i]?.getD (0, 0) = R[i]; rw [List.getElem?_eq_getElem hlt]; rfl
      obtain ⟨rr, hrr⟩ : ∃ r, R[i] = r := ⟨_, rfl⟩
      rw [hrr] at cr_ HRM HRE
      obtain ⟨rx, ry⟩ := rr
      simp only at cr_
      have HG1 : Hid ((w3.cell? ⟨gr, i * 2, none⟩ = some (.int .i64 rx) ∧ w3.cell? ⟨gr, i * 2 + 1, none⟩ = some (.int .i64 ry)) ∧ gr < B) := by
        have h1 := HB6.out.size
        have h2 := HBB.out
        exact ⟨⟨(HB6.out.cell (p := ⟨gr, i * 2, none⟩) hgr).trans cr_.1, (HB6.out.cell (p := ⟨gr, i * 2 + 1, none⟩) hgr).trans cr_.2⟩, by omega⟩
      clear cr cr_ hrr hgr
      go_wp2_with fail
      go_loopw [9] (fun p W => ∃ (k : Nat) (vo : Value), k ≤ C.length ∧ p = .int .i64 k ∧ Hid (MatOut L R.length C.length B w3 (i * C.length + k) vo W)) (fun p _ => C.length - (intOf p).toNat)
      case atStart => exact ⟨0, vo, by omega, rfl, HAT.out⟩
      case round =>
        obtain ⟨k, vk, hk, rfl, HAK⟩ := hrel
        obtain ⟨wk, hwk⟩ : ∃ wk : World, wk = wr := ⟨_, rfl⟩
        subst hwk
        clear HAT
        by_cases hkl : k < C.length
        · obtain ⟨gc, rfl, -, hgc, cc⟩ := H6.out (by omega)
          have cc_ := cc k hkl
          have HCM : Hid (C[k] ∈ C) := List.getElem_mem hkl
          have HCE : Hid (C[k]?.getD (0, 0) = C[k]) := by show C[k]?.getD (0, 0) = C[k]; rw [List.getElem?_eq_getElem hkl]; rfl
          obtain ⟨rr, hrr⟩ : ∃ r, C[k] = r := ⟨_, rfl⟩
          rw [hrr] at cc_ HCM HCE
          obtain ⟨cx, cy⟩ := rr
          simp only at cc_
          obtain ⟨X, hX⟩ : ∃ X, incI (rx, ry) (cx, cy) d = X := ⟨_, rfl⟩
          have HEN : Hid (L[i * C.length + k]? = some X) := by
            show L[i * C.length + k]? = some X
            rw [HB0.out i k hlt hkl, HRE.out, HCE.out, hX]
          have hi1 := hinc (rx, ry) (cx, cy) HRM.out HCM.out wk.drew
          rw [hX] at hi1
          simp only at hi1
          have k1 : wk.cell? ⟨gr, i * 2, none⟩ = some (.int .i64 rx) := (HAK.out.below.cell (p := ⟨gr, i * 2, none⟩) HG1.out.2).trans HG1.out.1.1
          have k2 : wk.cell? ⟨gr, i * 2 + 1, none⟩ = some (.int .i64 ry) := (HAK.out.below.cell (p := ⟨gr, i * 2 + 1, none⟩) HG1.out.2).trans HG1.out.1.2
          have k3 : wk.cell? ⟨gc, k * 2, none⟩ = some (.int .i64 cx) := (HAK.out.below.cell (p := ⟨gc, k * 2, none⟩) (by have := HBB.out; simp only; omega)).trans cc_.1
          have k4 : wk.cell? ⟨gc, k * 2 + 1, none⟩ = some (.int .i64 cy) := (HAK.out.below.cell (p := ⟨gc, k * 2 + 1, none⟩) (by have := HBB.out; simp only; omega)).trans cc_.2
          obtain ⟨N0, hN0⟩ : ∃ N0, i * C.length + k = N0 := ⟨_, rfl⟩
          have hNb : N0 ≤ 6300000 := by
            have h1 : i * C.length ≤ 2500 * 2500 := Nat.mul_le_mul (by omega) (by omega)
            omega
          rw [hN0] at HAK HEN
          have HN0 : Hid (i * C.length + k = N0) := hN0
          obtain ⟨av, cv, rfl⟩ := own_slice HAK.out.own
          have f2 := HAK.out.out.c2.1
          have hn0 : (0 : Int) ≤ (i : Int) := by omega
          have hn1 : (i : Int) < (R.length : Int) := by omega
          have hn2 : (0 : Int) ≤ (k : Int) := by omega
          have hn3 : (k : Int) < (C.length : Int) := by omega
          clear cc cc_ hrr hgc hN0 hX hinc
          go_wp2_with fail
          go_region_law (first
            | (go_simp; go_at_call 33; refine hi1.mono ?_; rintro e w5 ⟨rfl, hB5⟩; have hBk5 : Below wk.heap.size wk w5 := (Below.refl _ wk).drew.trans hB5; have HA5 : Hid (MatOut L R.length C.length B w3 N0 (.slice av N0 cv) w5) := HAK.out.later hBk5; have f5 := HA5.out.out.c2.1; have f5a : ∀ o, (w5.alloc o).cell? ⟨B, 2, none⟩ = some (.slice av N0 cv) := (fun o => (World.cell?_alloc_lt w5 o ⟨B, 2, none⟩ (by have := HA5.out.size; simp only; omega)).trans f5); have own5 := HA5.out.own; have hs5 := HA5.out.size; clear hB5 hBk5)
            | (refine step_append_slice (by rfl) (.tmp 37) (.tmp 48) 40 (by rfl) (B + 1) 3 j0 (.int .i64 0) 8 Tryz.underlying40 hj0 hy0 hy1 hy2 (by rfl) (.slice av N0 cv) N0 _ (by simp [Act.eval]) (own5.alloc _) (.slice (some ⟨w5.heap.size, 0, none⟩) 1 1) [.int .i64 X] (by simp [Act.eval]) (slice_one _ _ _) (by simp [Value.oneCell']) (by simp; omega) (by unfold maxLen; simp; omega) (by simp; omega) ?_; intro v6 w6 hown6 hg6 hl6; have hown7 : w6.ownsRow (B + 1) 3 1 v6 (N0 + 1) _ := hown6; obtain ⟨g3, p3, rfl, -, -⟩ := hown7.form (by omega); have hgr := HA5.out.grown hg6; have f6 := hgr.1.c2.1; have z6 := hgr.1.c2.2; have HST : Hid (MatOut L R.length C.length B w3 (N0 + 1) (.slice (some ⟨g3, 0, none⟩) (N0 + 1) p3) (w6.setCell ⟨B, 2, none⟩ (.slice (some ⟨g3, 0, none⟩) (N0 + 1) p3))) := HA5.out.step (x := X) HEN.out hg6 hown7; clear hown6 hown7 hg6 hl6 hgr))
          all_goals go_wp2
          all_goals go_roundw
          all_goals first
            | (go_light; exact ⟨k + 1, _, by omega, by go_num, by rw [← Nat.add_assoc, HN0.out]; exact HST.out⟩)
            | (go_light; simp [intOf]; omega)
        · obtain rfl : k = C.length := by omega
          have HAE : Hid (MatOut L R.length C.length B w3 ((i + 1) * C.length) vk wk) := by
            show MatOut L R.length C.length B w3 ((i + 1) * C.length) vk wk
            rw [Nat.succ_mul]; exact HAK.out
          clear HAK
          go_wp2_with fail
          go_roundw
          case rel => exact ⟨i + 1, vk, by omega, by go_num, HAE.out⟩
          case measure => simp [intOf]; omega
    · obtain rfl : i = R.length := by omega
      have HI : Hid (IntsIn (fun b => B + 1 ≤ b) wi vo L) := HAT.out.ints HBL.out.symm
      have hZB : Z < B := by have h1 := HBB.out; have h2 := HB5.out.size; have h3 := HB6.out.size; omega
      have zb : MatBox Z wi 0 0 (.slice none 0 0) := by
        have h1 := (hbox.below HB5.out).below HB6.out
        have k : ∀ j, wi.cell? ⟨Z, j, none⟩ = w3.cell? ⟨Z, j, none⟩ := fun j => HAT.out.below.cell (p := ⟨Z, j, none⟩) hZB
        have z : ∀ j, wi.frozen? ⟨Z, j, none⟩ = w3.frozen? ⟨Z, j, none⟩ := fun j => HAT.out.below.frozen (p := ⟨Z, j, none⟩) hZB
        exact ⟨⟨(k 0).trans h1.c0.1, (z 0).trans h1.c0.2⟩, ⟨(k 1).trans h1.c1.1, (z 1).trans h1.c1.2⟩, ⟨(k 2).trans h1.c2.1, (z 2).trans h1.c2.2⟩⟩
      have hBe : Below Z w wi := by
        have h1 := HB5.out.size
        have h2 := HB6.out.size
        exact ((hBa.trans (HB5.out.mono (by omega))).trans (HB6.out.mono (by omega))).trans (HAT.out.below.mono (by omega))
      have HBE : Hid (Below Z w wi) := hBe
      obtain ⟨⟨q00, q01⟩, ⟨q10, q11⟩, ⟨q20, q21⟩⟩ := zb
      have s00 := HAT.out.out.c0.1
      have s10 := HAT.out.out.c1.1
      have s20 := HAT.out.out.c2.1
      have hpt := (MatBox.mk ⟨q00, q01⟩ ⟨q10, q11⟩ ⟨q20, q21⟩ : MatBox Z wi 0 0 (.slice none 0 0)).put R.length C.length vo
      have t0 := hpt.c0.1
      have t1 := hpt.c1.1
      have t2 := hpt.c2.1
      obtain ⟨av, cv, ev, -, -⟩ := HI.out.open_
      subst ev
      clear hpt hBe
      go_wp2_with fail
      refine bodyPost_ret (v := .agg #[.int .i64 R.length, .int .i64 C.length, .slice av L.length cv]) ?_ rfl ?_
      · simp [results, Tryz.f16, go_sem, t0, t1, t2]
      · rw [HZZ.out]
        refine ⟨_, rfl, ?_, mat_put_below HBE.out _ _ _⟩
        exact (ints_set (ints_set (ints_set HI.out (p := ⟨Z, 0, none⟩) (by show ¬ B + 1 ≤ Z; omega) _) (p := ⟨Z, 1, none⟩) (by show ¬ B + 1 ≤ Z; omega) _) (p := ⟨Z, 2, none⟩) (by show ¬ B + 1 ≤ Z; omega) _).any

end Go.Proofs.YtbmojlnkjeapkaaGreatDoor
