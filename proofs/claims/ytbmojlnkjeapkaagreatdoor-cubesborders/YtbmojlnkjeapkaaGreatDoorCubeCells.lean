/- The cells of a dimension that the reference's CellsOf answers. -/
import Derived.Test.YtbmojlnkjeapkaaGreatDoorCubeDim
import Derived.Test.YtbmojlnkjeapkaaGreatDoorHeldQuiet
import Derived.Deep.DeepCutAuto
namespace Go.Proofs.YtbmojlnkjeapkaaGreatDoor
open Go.RowKit Go.Sort

theorem Tryz.info73 : (Tryz.prog.info? 73).map (fun i => (i.zero, i.size, i.bytes)) = some (some (.agg #[.int .i64 0, .int .i64 0]), 2, 16) := by kernel_rfl

/-- A block holds the four cells at a corner. -/
def FourAt (W : World) (g x y : Nat) : Prop := ∀ k, k < 4 → W.cell? ⟨g, k * 2, none⟩ = some (.int .i64 ((2 * x + k % 2 : Nat) : Int)) ∧ W.cell? ⟨g, k * 2 + 1, none⟩ = some (.int .i64 ((2 * y + k / 2 : Nat) : Int))

def fourL (x y : Nat) : List Value := [.int .i64 (2 * (x : Int)), .int .i64 (2 * (y : Int)), .int .i64 (2 * (x : Int) + 1), .int .i64 (2 * (y : Int)), .int .i64 (2 * (x : Int)), .int .i64 (2 * (y : Int) + 1), .int .i64 (2 * (x : Int) + 1), .int .i64 (2 * (y : Int) + 1)]

theorem FourAt.keep {W W' : World} {g x y : Nat} (h : FourAt W g x y) (hg : W'.heap[g]? = W.heap[g]?) : FourAt W' g x y := fun k hk => by
  exact ⟨(World.cell?_of_block hg).trans (h k hk).1, (World.cell?_of_block hg).trans (h k hk).2⟩

theorem four_of {W : World} {base : Nat} {v : Value} {x y : Nat} {e : TypeId} (h : W.ownsRow base e 2 v 4 (fourL x y)) : ∃ g cap, v = .slice (some ⟨g, 0, none⟩) 4 cap ∧ base ≤ g ∧ g < W.heap.size ∧ FourAt W g x y := by
  rcases h.2 with ⟨rfl, hn⟩ | ⟨g, cap, cur, rfl, hb, hg, hc, -, -, htake⟩
  · cases hn
  · refine ⟨g, cap, rfl, hb, (Array.getElem?_eq_some_iff.1 hg).1, ?_⟩
    have hc : ∀ j u, (fourL x y)[j]? = some u → W.cell? ⟨g, j, none⟩ = some u := fun j u hu => by
      have := h.cells (g := g) rfl j u hu
      rw [Addr.add_lit, Nat.zero_add] at this
      exact this
    intro k hk
    obtain rfl | rfl | rfl | rfl : k = 0 ∨ k = 1 ∨ k = 2 ∨ k = 3 := by omega
    all_goals
      constructor
      · refine hc _ _ ?_
        simp [fourL]
      · refine hc _ _ ?_
        simp [fourL]

set_option maxRecDepth 100000 in
set_option maxHeartbeats 4000000 in
theorem cells_of (vm : Value) (m : List (List UInt8)) (w : World) (hm : Strs w vm m) (hi : Img m) (d : Int) :
    Calls Tryz.prog 32 #[vm, .int .i64 d] w fun e w' => ∃ v, e = .returned v ∧ SqIn (fun b => w.heap.size ≤ b) w' v (cellsL (fullAt m (wide m) m.length) d (sqTo (wide m + 1) (m.length + 1))) ∧ Below w.heap.size w w' := by
  obtain ⟨i0, hi0, hz0, hz1, hz2⟩ := info_parts Tryz.info73
  obtain ⟨f, hf⟩ : ∃ f, fullAt m (wide m) m.length = f := ⟨_, rfl⟩
  have HF : Hid (Fenced f) := by rw [← hf]; exact full_fenced _ _ _
  have hrows := hi.rows
  have hcols := hi.cols
  have htouch : ∀ (X Y : Nat) (W : World), Below w.heap.size w W → X ≤ 10000 → Y ≤ 10000 → Calls Tryz.prog 47 #[vm, cornerV ((X : Int), (Y : Int))] W fun e w' => TouchedSays f X Y W e w' := fun X Y W hW hX hY => by rw [← hf]; exact touched_ vm m W (hm.below hW) hi X Y hX hY
  rw [hf]
  obtain ⟨a, ca, rfl, -, ha⟩ := hm.open_
  have HA : Hid (0 < m.length → ∃ b off, a = some ⟨b, off, none⟩ ∧ anyBlock b ∧ b < w.heap.size ∧ ∀ k, k < m.length → w.cell? ⟨b, off + k, none⟩ = some (encStr (m[k]?.getD []))) := ha
  clear hm hi hf ha
  unfold cornerV at htouch
  go_enter Tryz.func32, Tryz.ntmps32
  go_upto_if 13 with fail
  go_cut [0, 5] from 11 to 17 (fun s0 s wx => s0 = .slice a m.length ca ∧ s = .int .i64 (wide m : Int) ∧ w = wx)
  case first =>
    by_cases h0 : m.length = 0
    · have hw : wide m = 0 := by unfold wide; rw [List.length_eq_zero_iff.1 h0]; rfl
      have HWz : Hid (wide m = 0 ∧ m.length = 0) := ⟨hw, h0⟩
      rw [h0]
      clear htouch HA hw
      go_wp2
      go_meet
      exact ⟨by rw [HWz.out.2], by rw [HWz.out.1]; rfl, rfl⟩
    · obtain ⟨b, o, rfl, -, -, c⟩ := HA.out (by omega)
      have c0 := c 0 (by omega)
      obtain ⟨s, hs⟩ : ∃ s, (⟨(m[0]?.getD []).toArray⟩ : ByteArray) = s := ⟨_, rfl⟩
      have hsz : s.size = wide m := text_size hs
      rw [show encStr (m[0]?.getD []) = .string ⟨(m[0]?.getD []).toArray⟩ from rfl, hs, Nat.add_zero] at c0
      have HSZ : Hid (s.size = wide m) := hsz
      clear c HA hs hsz htouch
      go_wp2
      go_meet
      exact ⟨rfl, by rw [← HSZ.out], rfl⟩
  obtain ⟨rfl, rfl, hwx⟩ := hcut
  subst hwx
  clear HA
  go_wp2_with fail
  go_loopw [6, 7] (fun v p W => ∃ k : Nat, k ≤ m.length + 1 ∧ p = .int .i64 k ∧ Hid (SqRowT w.heap.size 73 W v (cellsL f d (sqTo (wide m + 1) k))) ∧ Hid (Below w.heap.size w W)) (fun _ p _ => m.length + 1 - (intOf p).toNat)
  case atStart => exact ⟨0, by omega, rfl, World.ownsRow_nil _ _ _ _, Below.refl _ _⟩
  case round =>
    obtain ⟨k, hk, rfl, HO, HB⟩ := hrel
    by_cases hlt : k ≤ m.length
    · go_wp2_with fail
      go_loopw [6, 8] (fun v p W => ∃ j : Nat, j ≤ wide m + 1 ∧ p = .int .i64 j ∧ Hid (SqRowT w.heap.size 73 W v (cellsL f d (sqTo (wide m + 1) k ++ rowTo k j))) ∧ Hid (Below w.heap.size w W)) (fun _ p _ => wide m + 1 - (intOf p).toNat)
      case atStart => exact ⟨0, by omega, rfl, by rw [rowTo_zero, List.append_nil]; exact HO.out, HB.out⟩
      case round =>
        obtain ⟨j, hj, rfl, HOx, HBx⟩ := hrel
        clear HO HB
        by_cases hjt : j ≤ wide m
        · go_wp2_with (first
            | (at_builtin; refine wpList_append_own _ rfl (.tmp 29) (.tmp 54) 69 rfl wr.heap.size 73 i0 (.agg #[.int .i64 0, .int .i64 0]) 2 16 Tryz.underlying69 hi0 hz0 hz1 hz2 rfl (by decide) _ 0 [] rfl (World.ownsRow_nil _ _ _ _) ⟨_, 0, none⟩ 4 4 (fourL j k) rfl rfl (cells_new _ _ _) (by simp [fourL, Value.oneCell']) (by decide) (by decide) (by simp) ?_; intro v1 w1 hown1 hg1 hnil1)
            | fail)
          obtain ⟨g, cap, rfl, hgb, hgl, hfour⟩ := four_of (by simpa using hown1)
          have hB1 : Below wr.heap.size wr w1 := ((Below.refl _ wr).alloc (Nat.le_refl _) _).grown hg1 (by simp) (fun j hj => by cases hj)
          have HO1 : Hid (SqRowT w.heap.size 73 w1 u6 (cellsL f d (sqTo (wide m + 1) k ++ rowTo k j) ++ cellsAtL f d ((j : Int), (k : Int)) 0)) := by rw [cellsAtL, List.append_nil]; exact HOx.out.below hB1
          have HG1 : Hid (u6.ownBlock ≠ some g) := fun e => by have := (HOx.out.lt e).2; omega
          have HB1 : Hid (Below w.heap.size w w1) := HBx.out.trans (hB1.mono HBx.out.size)
          have HFo : Hid (FourAt w1 g j k) := hfour
          clear hown1 hg1 hnil1 HOx HBx hB1 hfour
          obtain ⟨N, hN⟩ : ∃ N, cellsL f d (sqTo (wide m + 1) k ++ rowTo k j) = N := ⟨_, rfl⟩
          have HNN : Hid (cellsL f d (sqTo (wide m + 1) k ++ rowTo k j) = N) := hN
          have hNle : N.length ≤ 100000000 := by
            have h1 := cellsN_le f d (sqTo (wide m + 1) k ++ rowTo k j)
            rw [List.length_append, sqTo_len, rowTo_len, ← cellsL_len, hN] at h1
            have h3 : k * (wide m + 1) ≤ 1000 * 1001 := Nat.mul_le_mul (by omega) (by omega)
            omega
          rw [hN] at HO1
          clear hN
          go_loopw [6, 10] (fun v p W => ∃ i : Nat, i ≤ 4 ∧ p = .int .i64 i ∧ Hid (SqRowT w.heap.size 73 W v (N ++ cellsAtL f d ((j : Int), (k : Int)) i)) ∧ Hid (v.ownBlock ≠ some g) ∧ Hid (FourAt W g j k ∧ g < W.heap.size) ∧ Hid (Below w.heap.size w W)) (fun _ p _ => 4 - (intOf p).toNat)
          case atStart => exact ⟨0, by omega, rfl, HO1.out, HG1.out, ⟨HFo.out, hgl⟩, HB1.out⟩
          case round =>
            obtain ⟨i, hi4, rfl, HO2, HG2, HF2, HB2⟩ := hrel
            clear HO1 HG1 HFo HB1
            by_cases hit : i < 4
            · obtain ⟨c0, c1⟩ := HF2.out.1 i hit
              obtain ⟨X, hX⟩ : ∃ X, 2 * j + i % 2 = X := ⟨_, rfl⟩
              obtain ⟨Y, hY⟩ : ∃ Y, 2 * k + i / 2 = Y := ⟨_, rfl⟩
              rw [hX] at c0
              rw [hY] at c1
              have hXb : X ≤ 10000 := by omega
              have hYb : Y ≤ 10000 := by omega
              have HXY : Hid ((HitAny f (X : Int) (Y : Int) ↔ kindB f i ((j : Int), (k : Int)) = true)) := by
                have := hit_kind HF.out (x := (j : Int)) (y := (k : Int)) (by omega) (by omega) hit
                rw [← hX, ← hY]
                rw [show ((2 * j + i % 2 : Nat) : Int) = 2 * (j : Int) + ((i % 2 : Nat) : Int) by omega, show ((2 * k + i / 2 : Nat) : Int) = 2 * (k : Int) + ((i / 2 : Nat) : Int) by omega]
                exact this
              have HCO : Hid (cellOf ((j : Int), (k : Int)) i = ((X : Int), (Y : Int))) := by
                show cellOf ((j : Int), (k : Int)) i = _
                unfold cellOf
                rw [← hX, ← hY]
                exact Prod.ext (by simp only; omega) (by simp only; omega)
              have hdim := dim_ X Y (by omega) (by omega) wr
              obtain ⟨t, ht⟩ : ∃ t : Int, ((X % 2 + Y % 2 : Nat) : Int) = t := ⟨_, rfl⟩
              have HT : Hid (((kindD i : Nat) : Int) = t) := by
                show ((kindD i : Nat) : Int) = t
                rw [← ht]; unfold kindD; omega
              rw [ht] at hdim
              unfold cornerV at hdim
              clear ht hX hY
              have htt := htouch X Y
              have hcle := cellsAt_le f d ((j : Int), (k : Int)) i
              by_cases hkd : t = d
              · have hbd : (t == d) = true := beq_iff_eq.2 hkd
                have HKD : Hid (t = d) := hkd
                clear hkd
                by_cases hkb : kindB f i ((j : Int), (k : Int)) = true
                · have HKB : Hid (kindB f i ((j : Int), (k : Int)) = true) := hkb
                  clear hkb
                  have hrow0 : wr.ownsRow w.heap.size 73 2 u6 (N ++ cellsAtL f d ((j : Int), (k : Int)) i).length (sqCells (N ++ cellsAtL f d ((j : Int), (k : Int)) i)) := HO2.out
                  obtain ⟨nn, hnn⟩ : ∃ nn, (N ++ cellsAtL f d ((j : Int), (k : Int)) i).length = nn := ⟨_, rfl⟩
                  have HNL : Hid ((N ++ cellsAtL f d ((j : Int), (k : Int)) i).length = nn) := hnn
                  obtain ⟨xs, hxs⟩ : ∃ xs, sqCells (N ++ cellsAtL f d ((j : Int), (k : Int)) i) = xs := ⟨_, rfl⟩
                  have HXS : Hid (sqCells (N ++ cellsAtL f d ((j : Int), (k : Int)) i) = xs) := hxs
                  have hrow := hrow0
                  rw [hnn, hxs] at hrow
                  have hnl : nn ≤ 100000004 := by rw [← hnn, List.length_append, cellsAtL_len]; omega
                  clear hrow0 hnn hxs
                  go_wp2_with (first
                  | (go_at_call 46; refine hdim.mono ?_; rintro e w2 ⟨rfl, hB3⟩; have d0 : w2.cell? ⟨g, i * 2, none⟩ = some (.int .i64 (X : Int)) := (hB3.cell (p := ⟨g, i * 2, none⟩) HF2.out.2).trans c0; have d1 : w2.cell? ⟨g, i * 2 + 1, none⟩ = some (.int .i64 (Y : Int)) := (hB3.cell (p := ⟨g, i * 2 + 1, none⟩) HF2.out.2).trans c1; have HB3 : Hid (Below wr.heap.size wr w2) := hB3; clear hB3)
                  | (go_at_call 47; refine (htt _ (HB2.out.trans (HB3.out.mono HB2.out.size)) hXb hYb).mono ?_; rintro e w3 ⟨q, rfl, hq, hB4⟩; obtain rfl : q = true := hq.2 (HXY.out.2 HKB.out); have HB4 : Hid (Below wr.heap.size wr w3) := HB3.out.trans (hB4.mono HB3.out.size); have e0 : w3.cell? ⟨g, i * 2, none⟩ = some (.int .i64 (X : Int)) := (HB4.out.cell (p := ⟨g, i * 2, none⟩) HF2.out.2).trans c0; have e1 : w3.cell? ⟨g, i * 2 + 1, none⟩ = some (.int .i64 (Y : Int)) := (HB4.out.cell (p := ⟨g, i * 2 + 1, none⟩) HF2.out.2).trans c1; clear hq hB4)
                  | (at_builtin; refine wpList_append_own_at _ rfl (.tmp 77) (.tmp 82) 69 rfl w.heap.size 73 i0 (.agg #[.int .i64 0, .int .i64 0]) 2 16 Tryz.underlying69 hi0 hz0 hz1 hz2 rfl (by decide) _ nn xs rfl ((hrow.kept (Below.grownBy HB4.out) (by cases u6.ownBlock <;> simp)).alloc _) ⟨_, 0, none⟩ 1 1 [.int .i64 (X : Int), .int .i64 (Y : Int)] rfl rfl (cells_new _ _ _) (by simp [Value.oneCell']) (by unfold maxLen; omega) (by omega) (by have := HB2.out.size; have := HB4.out.size; simp; omega) ?_; intro v5 w5 hown5 hg5 hnil5 hl5)
                  | fail)
                  go_roundw
                  case rel =>
                    have hs3 : wr.heap.size ≤ w3.heap.size := HB4.out.size
                    have hgw : g < wr.heap.size := HF2.out.2
                    refine ⟨i + 1, by omega, by go_num, ?_, ?_, ⟨?_, ?_⟩, ?_⟩
                    · have hc : cellsAtL f d ((j : Int), (k : Int)) (i + 1) = cellsAtL f d ((j : Int), (k : Int)) i ++ [((X : Int), (Y : Int))] := by
                        show cellsAtL f d ((j : Int), (k : Int)) i ++ _ = _
                        rw [if_pos ⟨HT.out.trans HKD.out, HKB.out⟩, HCO.out]
                      rw [hc, ← List.append_assoc]
                      unfold SqRowT
                      rw [sqCells_snoc, List.length_append, HNL.out, HXS.out]
                      exact hown5
                    · intro e
                      rcases hl5 with h | h
                      · exact HG2.out (h.symm.trans e)
                      · rw [h] at e; simp at e; omega
                    · refine HF2.out.1.keep ?_
                      rw [hg5.block g (by simp; omega) (fun e => HG2.out e.symm), Below.heap_alloc _ _ _ (by omega), HB4.out.block g (by omega)]
                    · have := hg5.size; simp at this; omega
                    · refine ((HB2.out.trans (HB4.out.mono HB2.out.size)).alloc (by have := HB2.out.size; omega) _).grown hg5 (by have := HB2.out.size; simp; omega) (fun b hb => (hrow.lt b hb).1)
                  case measure => simp [intOf]; omega
                · have HKB : Hid (¬ kindB f i ((j : Int), (k : Int)) = true) := hkb
                  clear hkb
                  go_wp2_with (first
                  | (go_at_call 46; refine hdim.mono ?_; rintro e w2 ⟨rfl, hB3⟩; have d0 : w2.cell? ⟨g, i * 2, none⟩ = some (.int .i64 (X : Int)) := (hB3.cell (p := ⟨g, i * 2, none⟩) HF2.out.2).trans c0; have d1 : w2.cell? ⟨g, i * 2 + 1, none⟩ = some (.int .i64 (Y : Int)) := (hB3.cell (p := ⟨g, i * 2 + 1, none⟩) HF2.out.2).trans c1; have HB3 : Hid (Below wr.heap.size wr w2) := hB3; clear hB3)
                  | (go_at_call 47; refine (htt _ (HB2.out.trans (HB3.out.mono HB2.out.size)) hXb hYb).mono ?_; rintro e w3 ⟨q, rfl, hq, hB4⟩; obtain rfl : q = false := Bool.eq_false_iff.2 fun h => HKB.out (HXY.out.1 (hq.1 h)); have HB4 : Hid (Below wr.heap.size wr w3) := HB3.out.trans (hB4.mono HB3.out.size); have e0 : w3.cell? ⟨g, i * 2, none⟩ = some (.int .i64 (X : Int)) := (HB4.out.cell (p := ⟨g, i * 2, none⟩) HF2.out.2).trans c0; have e1 : w3.cell? ⟨g, i * 2 + 1, none⟩ = some (.int .i64 (Y : Int)) := (HB4.out.cell (p := ⟨g, i * 2 + 1, none⟩) HF2.out.2).trans c1; clear hq hB4)
                  | fail)
                  go_roundw
                  case rel =>
                    have hs3 : wr.heap.size ≤ w3.heap.size := HB4.out.size
                    have hgw : g < wr.heap.size := HF2.out.2
                    refine ⟨i + 1, by omega, by go_num, ?_, HG2.out, ⟨HF2.out.1.keep (HB4.out.block g hgw), by omega⟩, HB2.out.trans (HB4.out.mono HB2.out.size)⟩
                    have hc : cellsAtL f d ((j : Int), (k : Int)) (i + 1) = cellsAtL f d ((j : Int), (k : Int)) i := by
                      show cellsAtL f d ((j : Int), (k : Int)) i ++ _ = _
                      rw [if_neg (fun h => HKB.out h.2), List.append_nil]
                    rw [hc]
                    exact HO2.out.below HB4.out
                  case measure => simp [intOf]; omega
              · have hbd : (t == d) = false := beq_false_of_ne hkd
                have HKD : Hid (¬ t = d) := hkd
                clear hkd
                go_wp2_with (first
                  | (go_at_call 46; refine hdim.mono ?_; rintro e w2 ⟨rfl, hB3⟩; have HB3 : Hid (Below wr.heap.size wr w2) := hB3; clear hB3)
                  | fail)
                go_roundw
                case rel =>
                  have hs3 : wr.heap.size ≤ w2.heap.size := HB3.out.size
                  have hgw : g < wr.heap.size := HF2.out.2
                  refine ⟨i + 1, by omega, by go_num, ?_, HG2.out, ⟨HF2.out.1.keep (HB3.out.block g hgw), by omega⟩, HB2.out.trans (HB3.out.mono HB2.out.size)⟩
                  have hc : cellsAtL f d ((j : Int), (k : Int)) (i + 1) = cellsAtL f d ((j : Int), (k : Int)) i := by
                    show cellsAtL f d ((j : Int), (k : Int)) i ++ _ = _
                    rw [if_neg (fun h => HKD.out (HT.out.symm.trans h.1)), List.append_nil]
                  rw [hc]
                  exact HO2.out.below HB3.out
                case measure => simp [intOf]; omega
            · obtain rfl : i = 4 := by omega
              go_wp2_with fail
              go_roundw
              case rel =>
                refine ⟨j + 1, by omega, by go_num, ?_, HB2.out⟩
                have := HO2.out
                rw [rowTo_succ, ← List.append_assoc, cellsL_snoc, HNN.out]
                exact this
              case measure => simp [intOf]; omega
        · obtain rfl : j = wide m + 1 := by omega
          go_wp2_with fail
          go_roundw
          case rel =>
            refine ⟨k + 1, by omega, by go_num, ?_, HBx.out⟩
            rw [sqTo_succ]
            exact HOx.out
          case measure => simp [intOf]; omega
    · obtain rfl : k = m.length + 1 := by omega
      have hrd := HO.out.reads (S := fun b => w.heap.size ≤ b) (fun b hb _ => hb)
      have HRD : Hid (SqIn (fun b => w.heap.size ≤ b) wr u6 (cellsL f d (sqTo (wide m + 1) (m.length + 1)))) := hrd
      clear hrd
      go_wp2_with fail
      go_ret
      exact ⟨_, rfl, HRD.out, HB.out⟩

end Go.Proofs.YtbmojlnkjeapkaaGreatDoor
