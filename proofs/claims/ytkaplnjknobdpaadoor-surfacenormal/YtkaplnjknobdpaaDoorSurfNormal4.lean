/- The document's answer on normal forms. -/
import Derived.Test.YtkaplnjknobdpaaDoorSurfNormal3
namespace Go.Proofs.YtkaplnjknobdpaaDoor
open Go.RowKit Go.Sort

set_option maxRecDepth 100000 in
set_option maxHeartbeats 1000000 in
theorem normal_of_shape (t : Bool) (g r : Int) (w : World) (h : ShapeBad t g r) :
    Calls Tryd.prog 6 #[.agg #[.bool t, .int .i64 g, .int .i64 r]] w fun e w' => e = .returned (.tuple #[.slice none 0 0, .int .i64 3]) ∧ Below w.heap.size w w' := by
  have hB : Below w.heap.size w (w.alloc (.cells #[.bool t, .int .i64 g, .int .i64 r] 23)) := (Below.refl _ w).alloc (Nat.le_refl _) _
  obtain ⟨x0, x1, x2⟩ := box3_new w (.bool t) (.int .i64 g) (.int .i64 r) 23
  obtain ⟨X, hX⟩ : ∃ X, w.alloc (.cells #[.bool t, .int .i64 g, .int .i64 r] 23) = X := ⟨_, rfl⟩
  have HX : Hid (w.alloc (.cells #[.bool t, .int .i64 g, .int .i64 r] 23) = X ∧ Below w.heap.size w X) := ⟨hX, by rw [← hX]; exact hB⟩
  rw [hX] at x0 x1 x2
  clear hB hX
  by_cases hg : g < 0
  · clear h
    go_enter Tryd.func6, Tryd.ntmps6
    go_upto_region 1 with fail
    rw [HX.out.1]
    go_wp2_with fail
    go_ret2
    exact ⟨rfl, HX.out.2⟩
  · have hgb : decide (g < 0) = false := decide_eq_false hg
    by_cases hr : r < 0
    · clear h
      go_enter Tryd.func6, Tryd.ntmps6
      go_upto_region 1 with fail
      rw [HX.out.1]
      go_wp2_with fail
      go_ret2
      exact ⟨rfl, HX.out.2⟩
    · have hrb : decide (r < 0) = false := decide_eq_false hr
      obtain ⟨rfl, rfl⟩ : t = false ∧ g = 0 := by rcases h with h | h | h; exact absurd h hg; exact absurd h hr; exact h
      clear h
      go_enter Tryd.func6, Tryd.ntmps6
      go_upto_region 1 with fail
      rw [HX.out.1]
      go_wp2_with fail
      go_ret2
      exact ⟨rfl, HX.out.2⟩

set_option maxRecDepth 100000 in
set_option maxHeartbeats 1000000 in
theorem normal_of_big (t : Bool) (g r : Int) (w : World) (h : ¬ ShapeBad t g r) (hb : 60 < g ∨ 60 < r) :
    Calls Tryd.prog 6 #[.agg #[.bool t, .int .i64 g, .int .i64 r]] w fun e w' => e = .returned (.tuple #[.slice none 0 0, .int .i64 2]) ∧ Below w.heap.size w w' := by
  have hB : Below w.heap.size w (w.alloc (.cells #[.bool t, .int .i64 g, .int .i64 r] 23)) := (Below.refl _ w).alloc (Nat.le_refl _) _
  obtain ⟨x0, x1, x2⟩ := box3_new w (.bool t) (.int .i64 g) (.int .i64 r) 23
  obtain ⟨X, hX⟩ : ∃ X, w.alloc (.cells #[.bool t, .int .i64 g, .int .i64 r] 23) = X := ⟨_, rfl⟩
  have HX : Hid (w.alloc (.cells #[.bool t, .int .i64 g, .int .i64 r] 23) = X ∧ Below w.heap.size w X) := ⟨hX, by rw [← hX]; exact hB⟩
  rw [hX] at x0 x1 x2
  have hg : ¬ g < 0 := fun h' => h (.inl h')
  have hr : ¬ r < 0 := fun h' => h (.inr (.inl h'))
  have hgb : decide (g < 0) = false := decide_eq_false hg
  have hrb : decide (r < 0) = false := decide_eq_false hr
  clear hB hX
  by_cases hg0 : g = 0
  · subst hg0
    have htt : t = true := by
      cases t with
      | true => rfl
      | false => exact absurd (.inr (.inr ⟨rfl, rfl⟩)) h
    subst htt
    have hr6 : (60 : Int) < r := by omega
    clear h hb
    go_enter Tryd.func6, Tryd.ntmps6
    go_upto_region 1 with fail
    rw [HX.out.1]
    go_wp2_with fail
    go_ret2
    exact ⟨rfl, HX.out.2⟩
  · have hg1 : (g == 0) = false := beq_false_of_ne hg0
    by_cases hg6 : (60 : Int) < g
    · clear h hb
      go_enter Tryd.func6, Tryd.ntmps6
      go_upto_region 1 with fail
      rw [HX.out.1]
      go_wp2_with fail
      go_ret2
      exact ⟨rfl, HX.out.2⟩
    · have hg7 : decide ((60 : Int) < g) = false := decide_eq_false hg6
      have hr6 : (60 : Int) < r := by omega
      clear h hb
      go_enter Tryd.func6, Tryd.ntmps6
      go_upto_region 1 with fail
      rw [HX.out.1]
      go_wp2_with fail
      go_ret2
      exact ⟨rfl, HX.out.2⟩

set_option maxRecDepth 100000 in
set_option maxHeartbeats 4000000 in
theorem normal_of_ok (t : Bool) (g r : Nat) (w : World) (hs : ¬ ShapeBad t (g : Int) (r : Int)) (hg6 : g ≤ 60 ∧ r ≤ 60) :
    Calls Tryd.prog 6 #[.agg #[.bool t, .int .i64 (g : Int), .int .i64 (r : Int)]] w fun e w' => ((fitsB t (g : Int) (r : Int) = true ∧ ∃ v, e = .returned (.tuple #[v, .int .i64 0]) ∧ Ints w' v (normW t g r)) ∨ (fitsB t (g : Int) (r : Int) = false ∧ e = .returned (.tuple #[.slice none 0 0, .int .i64 2]))) ∧ Below w.heap.size w w' := by
  obtain ⟨i0, hi0, hz0, hz1, hz2⟩ := info_parts Tryd.infoi
  have hB : Below w.heap.size w (w.alloc (.cells #[.bool t, .int .i64 (g : Int), .int .i64 (r : Int)] 23)) := (Below.refl _ w).alloc (Nat.le_refl _) _
  obtain ⟨y0, y1, y2⟩ := box3_new w (.bool t) (.int .i64 (g : Int)) (.int .i64 (r : Int)) 23
  obtain ⟨V, hV⟩ : ∃ V, w.alloc (.cells #[.bool t, .int .i64 (g : Int), .int .i64 (r : Int)] 23) = V := ⟨_, rfl⟩
  obtain ⟨p, hp⟩ : ∃ p, w.heap.size = p := ⟨_, rfl⟩
  have HX : Hid (w.alloc (.cells #[.bool t, .int .i64 (g : Int), .int .i64 (r : Int)] 23) = V ∧ w.heap.size = p) := ⟨hV, hp⟩
  have HBW : Hid (Below w.heap.size w V) := by rw [← hV]; exact hB
  rw [hV, hp] at y0 y1 y2
  have gb : decide ((g : Int) < 0) = false := decide_eq_false (by omega)
  have rb : decide ((r : Int) < 0) = false := decide_eq_false (by omega)
  have gb6 : decide ((60 : Int) < (g : Int)) = false := decide_eq_false (by omega)
  have rb6 : decide ((60 : Int) < (r : Int)) = false := decide_eq_false (by omega)
  have htg : t = true ∨ (t = false ∧ 0 < g) := by
    cases t with
    | true => exact .inl rfl
    | false =>
      refine .inr ⟨rfl, ?_⟩
      rcases Nat.eq_zero_or_pos g with e | e
      · exact absurd (.inr (.inr ⟨rfl, by omega⟩)) hs
      · exact e
  obtain ⟨q, hq⟩ : ∃ q, fitsB t (g : Int) (r : Int) = q := ⟨_, rfl⟩
  have HFT : Hid (q = fitsB t (g : Int) (r : Int)) := hq.symm
  rw [hq]
  clear hB hV hp hs hq
  rcases htg with rfl | ⟨rfl, hgp⟩
  · go_enter Tryd.func6, Tryd.ntmps6
    go_upto_region 1 with fail
    rw [HX.out.1, HX.out.2]
    go_cut [25] from 8 to 25 (fun x wx => x = .bool false ∧ wx = V)
    case first =>
      by_cases hg0 : g = 0
      · subst hg0
        rw [show ((0 : Nat) : Int) = 0 from rfl] at y1
        go_wp2_with fail
        go_meet
        exact ⟨rfl, rfl⟩
      · have hg1 : ((g : Int) == 0) = false := beq_false_of_ne (by omega)
        go_wp2_with fail
        go_meet
        exact ⟨rfl, rfl⟩
    obtain ⟨rfl, hcut'⟩ := hcut
    replace hcut' := hcut'.symm
    subst hcut'
    have HV0 : Hid (OutAt V (gW true 0) (.slice none 0 0) V) := ⟨World.ownsRow_nil _ _ _ _, Below.refl _ _⟩
    have HY : Hid (V.cell? ⟨p, 0, none⟩ = some (.bool true) ∧ V.cell? ⟨p, 1, none⟩ = some (.int .i64 (g : Int)) ∧ V.cell? ⟨p, 2, none⟩ = some (.int .i64 (r : Int))) := ⟨y0, y1, y2⟩
    go_wp2_with fail
    clear y0 y1 y2
    go_loopw [4, 5, 6] (fun v nx q W => ∃ k : Nat, k ≤ g ∧ nx = .int .i64 (gN true k) ∧ q = .int .i64 k ∧ Hid (OutAt V (gW true k) v W)) (fun _ _ q _ => g - (intOf q).toNat)
    case atStart => exact ⟨0, by omega, rfl, rfl, HV0.out⟩
    case round =>
      obtain ⟨k, hk, rfl, rfl, HK⟩ := hrel
      have z0 := (HK.out.2.cell (p := ⟨p, 0, none⟩) (cell_lt HY.out.1)).trans HY.out.1
      have z1 := (HK.out.2.cell (p := ⟨p, 1, none⟩) (cell_lt HY.out.2.1)).trans HY.out.2.1
      have z2 := (HK.out.2.cell (p := ⟨p, 2, none⟩) (cell_lt HY.out.2.2)).trans HY.out.2.2
      by_cases hkg : k < g
      · have hgb := gN_bound (t := true) (g := k) (by omega)
        obtain ⟨nx, hnx⟩ : ∃ nx, gN true k = nx := ⟨_, rfl⟩
        have HS1 := Hid.mk' (gW_true k nx hnx)
        rw [hnx] at hgb ⊢
        have own := HK.out.1
        have hlen : (gW true k).length ≤ 240 := by rw [gW_len]; simp; omega
        obtain ⟨ln, hln⟩ : ∃ ln, (gW true k).length = ln := ⟨_, rfl⟩
        have HLN : Hid ((gW true k).length = ln) := hln
        rw [hln] at own hlen
        have hsz := HK.out.2.size
        clear hnx hln
        go_wp2_with (first
          | (at_builtin; refine wpList_append_own_at _ rfl (.tmp 42) (.tmp 51) 25 rfl V.heap.size 3 i0 (.int .i64 0) 1 8 Tryd.underlying25 hi0 hz0 hz1 hz2 rfl (by decide) _ ln _ rfl (own.alloc _) ⟨_, 0, none⟩ 4 4 [.int .i64 nx, .int .i64 (nx + 1), .int .i64 (-nx), .int .i64 (-nx - 1)] rfl rfl (cells_new _ _ _) (by simp [Value.oneCell']) (by unfold maxLen; omega) (by omega) (by simp; omega) ?_; intro v5 w5 hown5 hg5 hn5 hl5)
          | fail)
        go_roundw
        case rel =>
          refine ⟨k + 1, by omega, by rw [HS1.out.2], by go_num, ?_⟩
          rw [HS1.out.1]
          exact outAt_more HK.out (by rw [HLN.out]; exact hown5) hg5
        case measure => simp [intOf]; omega
      · obtain rfl : k = g := by omega
        have hgb := gN_bound (t := true) (g := k) hg6.1
        obtain ⟨b0, hb0⟩ : ∃ b0, gN true k = b0 := ⟨_, rfl⟩
        have HB0 : Hid (gN true k = b0) := hb0
        rw [hb0] at hgb ⊢
        have HZ0 : Hid (OutAt V (gW true k ++ rW b0 0) u4 wr) := by
          show OutAt V (gW true k ++ []) u4 wr
          rw [List.append_nil]; exact HK.out
        have hgl : (gW true k).length ≤ 240 := by rw [gW_len]; simp; omega
        clear hb0
        go_wp2_with fail
        clear z0 z1 z2
        go_loopw [4, 5, 7] (fun v nx q W => ∃ j : Nat, j ≤ r ∧ nx = .int .i64 (b0 + 2 * (j : Int)) ∧ q = .int .i64 j ∧ Hid (OutAt V (gW true k ++ rW b0 j) v W)) (fun _ _ q _ => r - (intOf q).toNat)
        case atStart => exact ⟨0, by omega, by simp, rfl, HZ0.out⟩
        case round =>
          obtain ⟨j, hj, rfl, rfl, HJ⟩ := hrel
          have z1 := (HJ.out.2.cell (p := ⟨p, 1, none⟩) (cell_lt HY.out.2.1)).trans HY.out.2.1
          have z2 := (HJ.out.2.cell (p := ⟨p, 2, none⟩) (cell_lt HY.out.2.2)).trans HY.out.2.2
          by_cases hjr : j < r
          · obtain ⟨nx, hnx⟩ : ∃ nx, b0 + 2 * (j : Int) = nx := ⟨_, rfl⟩
            have HS1 := Hid.mk' (rW_next b0 j nx hnx)
            have HS2 : Hid (b0 + 2 * ((j + 1 : Nat) : Int) = nx + 2) := by show b0 + 2 * ((j + 1 : Nat) : Int) = nx + 2; omega
            have hnb : 1 ≤ nx ∧ nx ≤ 400 := by omega
            rw [hnx]
            have own := HJ.out.1
            have hlen : (gW true k ++ rW b0 j).length ≤ 500 := by rw [List.length_append, rW_len]; omega
            obtain ⟨ln, hln⟩ : ∃ ln, (gW true k ++ rW b0 j).length = ln := ⟨_, rfl⟩
            have HLN : Hid ((gW true k ++ rW b0 j).length = ln) := hln
            rw [hln] at own hlen
            have hsz := HJ.out.2.size
            clear hnx hln
            go_wp2_with (first
              | (at_builtin; refine wpList_append_own_at _ rfl (.tmp 68) (.tmp 74) 25 rfl V.heap.size 3 i0 (.int .i64 0) 1 8 Tryd.underlying25 hi0 hz0 hz1 hz2 rfl (by decide) _ ln _ rfl (own.alloc _) ⟨_, 0, none⟩ 3 3 [.int .i64 nx, .int .i64 (nx + 1), .int .i64 (-nx)] rfl rfl (cells_new _ _ _) (by simp [Value.oneCell']) (by unfold maxLen; omega) (by omega) (by simp; omega) ?_; intro v5 w5 hown5 hg5 hn5 hl5)
              | fail)
            go_roundw
            case rel =>
              refine ⟨j + 1, by omega, by rw [HS2.out], by go_num, ?_⟩
              rw [HS1.out, ← List.append_assoc]
              exact outAt_more HJ.out (by rw [HLN.out]; exact hown5) hg5
            case measure => simp [intOf]; omega
          · obtain rfl : j = r := by omega
            have HEND : Hid (Below w.heap.size w wr) := HBW.out.trans (HJ.out.2.mono HBW.out.size)
            have hlt : (gW true k ++ rW b0 j).length = 4 * k + 3 * j := by rw [List.length_append, rW_len, gW_len]; simp
            have hbe : b0 = 2 * (k : Int) + 1 := by rw [← HB0.out]; unfold gN; simp
            have own := HJ.out.1
            obtain ⟨a4, c4, rfl⟩ := own_slice own
            obtain ⟨ln, hln⟩ : ∃ ln, (gW true k ++ rW b0 j).length = ln := ⟨_, rfl⟩
            have HIN : Hid (Ints wr (.slice a4 ln c4) (gW true k ++ rW b0 j) ∧ wr.ownsRow V.heap.size 3 1 (.slice a4 ln c4) ln (intsV (gW true k ++ rW b0 j)) ∧ (gW true k ++ rW b0 j).length = ln) := by
              rw [← hln]
              exact ⟨own_ints HJ.out.1, HJ.out.1, rfl⟩
            rw [hln] at hlt ⊢
            clear hln own
            by_cases hzz : k = 0 ∧ j = 0
            · obtain ⟨rfl, rfl⟩ := hzz
              rw [show ((0 : Nat) : Int) = 0 from rfl] at z1 z2
              have hln0 : ln = 0 := by omega
              subst hln0
              have HF1 : Hid (fitsB true ((0 : Nat) : Int) ((0 : Nat) : Int) = true) := by show fitsB true ((0 : Nat) : Int) ((0 : Nat) : Int) = true; decide
              have own := HIN.out.2.1
              have hsz := HJ.out.2.size
              clear hlt hbe hgl hj
              go_wp2_with (first
                | (at_builtin; refine wpList_append_own_at _ rfl (.tmp 86) (.tmp 87) 25 rfl V.heap.size 3 i0 (.int .i64 0) 1 8 Tryd.underlying25 hi0 hz0 hz1 hz2 rfl (by decide) _ 0 _ rfl (own.alloc _) ⟨_, 0, none⟩ 2 2 [.int .i64 1, .int .i64 (-1)] rfl rfl (cells_new _ _ _) (by simp [Value.oneCell']) (by unfold maxLen; omega) (by omega) (by simp; omega) ?_; intro v5 w5 hown5 hg5 hn5 hl5; obtain ⟨a5, c5, rfl⟩ := own_slice hown5)
                | fail)
              go_ret2
              have h9 := outAt_more (l := []) (m := [1, -1]) (v := .slice a4 0 c4) (w := V) ⟨HIN.out.2.1, HJ.out.2⟩ hown5 hg5
              exact ⟨.inl ⟨HFT.out.trans HF1.out, _, rfl, own_ints h9.1⟩, HBW.out.trans (h9.2.mono HBW.out.size)⟩
            · have HNZ : Hid (¬ (k = 0 ∧ j = 0)) := hzz
              go_upto_region 20 with fail
              go_cut [85] from 78 to 85 (fun x wx => x = .bool false ∧ wx = wr)
              case first =>
                clear hlt hbe hgl
                by_cases hk0 : k = 0
                · have hj0 : ((j : Int) == 0) = false := beq_false_of_ne (by omega)
                  subst hk0
                  rw [show ((0 : Nat) : Int) = 0 from rfl] at z1
                  go_wp2_with fail
                  go_meet
                  exact ⟨rfl, rfl⟩
                · have hk1 : ((k : Int) == 0) = false := beq_false_of_ne (by omega)
                  go_wp2_with fail
                  go_meet
                  exact ⟨rfl, rfl⟩
              obtain ⟨rfl, hcut'⟩ := hcut
              replace hcut' := hcut'.symm
              subst hcut'
              by_cases hfit : 2 * (k : Int) + 2 * (j : Int) ≤ 60
              · have hf1 : fitsB true (k : Int) (j : Int) = true := decide_eq_true ⟨by omega, by omega, by simp; omega⟩
                have d1 : decide ((60 : Int) < b0 + 2 * (j : Int) - 1) = false := decide_eq_false (by omega)
                have d2 : decide ((120 : Int) < (ln : Int)) = false := decide_eq_false (by omega)
                clear hlt hbe
                go_wp2_with fail
                go_ret2
                refine ⟨.inl ⟨HFT.out.trans hf1, _, rfl, ?_⟩, HEND.out⟩
                unfold normW
                rw [if_neg HNZ.out, HB0.out]
                exact HIN.out.1
              · have hf1 : fitsB true (k : Int) (j : Int) = false := decide_eq_false (by simp; omega)
                have d1 : (60 : Int) < b0 + 2 * (j : Int) - 1 := by omega
                clear hlt hbe
                go_wp2_with fail
                go_ret2
                exact ⟨.inr ⟨HFT.out.trans hf1, rfl⟩, HEND.out⟩
  · have hg1 : ((g : Int) == 0) = false := beq_false_of_ne (by omega)
    go_enter Tryd.func6, Tryd.ntmps6
    go_upto_region 1 with fail
    rw [HX.out.1, HX.out.2]
    have HV0 : Hid (OutAt V (gW false 0) (.slice none 0 0) V) := ⟨World.ownsRow_nil _ _ _ _, Below.refl _ _⟩
    have HY : Hid (V.cell? ⟨p, 0, none⟩ = some (.bool false) ∧ V.cell? ⟨p, 1, none⟩ = some (.int .i64 (g : Int)) ∧ V.cell? ⟨p, 2, none⟩ = some (.int .i64 (r : Int))) := ⟨y0, y1, y2⟩
    go_wp2_with fail
    clear y0 y1 y2
    go_loopw [4, 5, 6] (fun v nx q W => ∃ k : Nat, k ≤ g ∧ nx = .int .i64 (gN false k) ∧ q = .int .i64 k ∧ Hid (OutAt V (gW false k) v W)) (fun _ _ q _ => g - (intOf q).toNat)
    case atStart => exact ⟨0, by omega, rfl, rfl, HV0.out⟩
    case round =>
      obtain ⟨k, hk, rfl, rfl, HK⟩ := hrel
      have z0 := (HK.out.2.cell (p := ⟨p, 0, none⟩) (cell_lt HY.out.1)).trans HY.out.1
      have z1 := (HK.out.2.cell (p := ⟨p, 1, none⟩) (cell_lt HY.out.2.1)).trans HY.out.2.1
      have z2 := (HK.out.2.cell (p := ⟨p, 2, none⟩) (cell_lt HY.out.2.2)).trans HY.out.2.2
      by_cases hkg : k < g
      · have hgb := gN_bound (t := false) (g := k) (by omega)
        obtain ⟨nx, hnx⟩ : ∃ nx, gN false k = nx := ⟨_, rfl⟩
        have HS1 := Hid.mk' (gW_false k nx hnx)
        rw [hnx] at hgb ⊢
        have own := HK.out.1
        have hlen : (gW false k).length ≤ 240 := by rw [gW_len]; simp; omega
        obtain ⟨ln, hln⟩ : ∃ ln, (gW false k).length = ln := ⟨_, rfl⟩
        have HLN : Hid ((gW false k).length = ln) := hln
        rw [hln] at own hlen
        have hsz := HK.out.2.size
        clear hnx hln
        go_wp2_with (first
          | (at_builtin; refine wpList_append_own_at _ rfl (.tmp 55) (.tmp 58) 25 rfl V.heap.size 3 i0 (.int .i64 0) 1 8 Tryd.underlying25 hi0 hz0 hz1 hz2 rfl (by decide) _ ln _ rfl (own.alloc _) ⟨_, 0, none⟩ 2 2 [.int .i64 nx, .int .i64 nx] rfl rfl (cells_new _ _ _) (by simp [Value.oneCell']) (by unfold maxLen; omega) (by omega) (by simp; omega) ?_; intro v5 w5 hown5 hg5 hn5 hl5)
          | fail)
        go_roundw
        case rel =>
          refine ⟨k + 1, by omega, by rw [HS1.out.2], by go_num, ?_⟩
          rw [HS1.out.1]
          exact outAt_more HK.out (by rw [HLN.out]; exact hown5) hg5
        case measure => simp [intOf]; omega
      · obtain rfl : k = g := by omega
        have hgb := gN_bound (t := false) (g := k) hg6.1
        obtain ⟨b0, hb0⟩ : ∃ b0, gN false k = b0 := ⟨_, rfl⟩
        have HB0 : Hid (gN false k = b0) := hb0
        rw [hb0] at hgb ⊢
        have HZ0 : Hid (OutAt V (gW false k ++ rW b0 0) u4 wr) := by
          show OutAt V (gW false k ++ []) u4 wr
          rw [List.append_nil]; exact HK.out
        have hgl : (gW false k).length ≤ 240 := by rw [gW_len]; simp; omega
        clear hb0
        go_wp2_with fail
        clear z0 z1 z2
        go_loopw [4, 5, 7] (fun v nx q W => ∃ j : Nat, j ≤ r ∧ nx = .int .i64 (b0 + 2 * (j : Int)) ∧ q = .int .i64 j ∧ Hid (OutAt V (gW false k ++ rW b0 j) v W)) (fun _ _ q _ => r - (intOf q).toNat)
        case atStart => exact ⟨0, by omega, by simp, rfl, HZ0.out⟩
        case round =>
          obtain ⟨j, hj, rfl, rfl, HJ⟩ := hrel
          have z1 := (HJ.out.2.cell (p := ⟨p, 1, none⟩) (cell_lt HY.out.2.1)).trans HY.out.2.1
          have z2 := (HJ.out.2.cell (p := ⟨p, 2, none⟩) (cell_lt HY.out.2.2)).trans HY.out.2.2
          by_cases hjr : j < r
          · obtain ⟨nx, hnx⟩ : ∃ nx, b0 + 2 * (j : Int) = nx := ⟨_, rfl⟩
            have HS1 := Hid.mk' (rW_next b0 j nx hnx)
            have HS2 : Hid (b0 + 2 * ((j + 1 : Nat) : Int) = nx + 2) := by show b0 + 2 * ((j + 1 : Nat) : Int) = nx + 2; omega
            have hnb : 1 ≤ nx ∧ nx ≤ 400 := by omega
            rw [hnx]
            have own := HJ.out.1
            have hlen : (gW false k ++ rW b0 j).length ≤ 500 := by rw [List.length_append, rW_len]; omega
            obtain ⟨ln, hln⟩ : ∃ ln, (gW false k ++ rW b0 j).length = ln := ⟨_, rfl⟩
            have HLN : Hid ((gW false k ++ rW b0 j).length = ln) := hln
            rw [hln] at own hlen
            have hsz := HJ.out.2.size
            clear hnx hln
            go_wp2_with (first
              | (at_builtin; refine wpList_append_own_at _ rfl (.tmp 68) (.tmp 74) 25 rfl V.heap.size 3 i0 (.int .i64 0) 1 8 Tryd.underlying25 hi0 hz0 hz1 hz2 rfl (by decide) _ ln _ rfl (own.alloc _) ⟨_, 0, none⟩ 3 3 [.int .i64 nx, .int .i64 (nx + 1), .int .i64 (-nx)] rfl rfl (cells_new _ _ _) (by simp [Value.oneCell']) (by unfold maxLen; omega) (by omega) (by simp; omega) ?_; intro v5 w5 hown5 hg5 hn5 hl5)
              | fail)
            go_roundw
            case rel =>
              refine ⟨j + 1, by omega, by rw [HS2.out], by go_num, ?_⟩
              rw [HS1.out, ← List.append_assoc]
              exact outAt_more HJ.out (by rw [HLN.out]; exact hown5) hg5
            case measure => simp [intOf]; omega
          · obtain rfl : j = r := by omega
            have HEND : Hid (Below w.heap.size w wr) := HBW.out.trans (HJ.out.2.mono HBW.out.size)
            have hlt : (gW false k ++ rW b0 j).length = 2 * k + 3 * j := by rw [List.length_append, rW_len, gW_len]; simp
            have hbe : b0 = (k : Int) + 1 := by rw [← HB0.out]; unfold gN; simp
            have own := HJ.out.1
            obtain ⟨a4, c4, rfl⟩ := own_slice own
            obtain ⟨ln, hln⟩ : ∃ ln, (gW false k ++ rW b0 j).length = ln := ⟨_, rfl⟩
            have HIN : Hid (Ints wr (.slice a4 ln c4) (gW false k ++ rW b0 j) ∧ wr.ownsRow V.heap.size 3 1 (.slice a4 ln c4) ln (intsV (gW false k ++ rW b0 j)) ∧ (gW false k ++ rW b0 j).length = ln) := by
              rw [← hln]
              exact ⟨own_ints HJ.out.1, HJ.out.1, rfl⟩
            rw [hln] at hlt ⊢
            clear hln own
            have HNZ : Hid (¬ (k = 0 ∧ j = 0)) := by show ¬ (k = 0 ∧ j = 0); omega
            by_cases hfit : (k : Int) + 2 * (j : Int) ≤ 60
            · have hf1 : fitsB false (k : Int) (j : Int) = true := decide_eq_true ⟨by omega, by omega, by simp; omega⟩
              have d1 : decide ((60 : Int) < b0 + 2 * (j : Int) - 1) = false := decide_eq_false (by omega)
              have d2 : decide ((120 : Int) < (ln : Int)) = false := decide_eq_false (by omega)
              clear hlt hbe
              go_wp2_with fail
              go_ret2
              refine ⟨.inl ⟨HFT.out.trans hf1, _, rfl, ?_⟩, HEND.out⟩
              unfold normW
              rw [if_neg HNZ.out, HB0.out]
              exact HIN.out.1
            · have hf1 : fitsB false (k : Int) (j : Int) = false := decide_eq_false (by simp; omega)
              have d1 : (60 : Int) < b0 + 2 * (j : Int) - 1 := by omega
              clear hlt hbe
              go_wp2_with fail
              go_ret2
              exact ⟨.inr ⟨HFT.out.trans hf1, rfl⟩, HEND.out⟩

end Go.Proofs.YtkaplnjknobdpaaDoor
