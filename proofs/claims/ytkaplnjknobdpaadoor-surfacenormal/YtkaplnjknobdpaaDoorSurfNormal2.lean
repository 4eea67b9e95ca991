/- Normal's letters. -/
import Derived.Test.YtkaplnjknobdpaaDoorSurfNormal
import Derived.Laws.StructEq
namespace Go.Proofs.YtkaplnjknobdpaaDoor
open Go.RowKit Go.Sort

def intsV (l : List Int) : List Value := l.map (Value.int .i64)
theorem intsV_app (l m : List Int) : intsV (l ++ m) = intsV l ++ intsV m := by unfold intsV; rw [List.map_append]
theorem intsV_len (l : List Int) : (intsV l).length = l.length := by simp [intsV]
theorem own_ints {W : World} {base : Nat} {v : Value} {l : List Int} (h : W.ownsRow base 3 1 v l.length (intsV l)) : Ints W v l := slice_of_owns (S := anyBlock) h (fun _ _ _ => trivial)

/-- A row of letters of the call's own. -/
def OutAt (w : World) (l : List Int) (v : Value) (W : World) : Prop := W.ownsRow w.heap.size 3 1 v l.length (intsV l) ∧ Below w.heap.size w W
theorem outAt_more {w wr w5 : World} {l m : List Int} {v v5 : Value} {o : Obj} (h : OutAt w l v wr) (hown : w5.ownsRow w.heap.size 3 1 v5 (l.length + m.length) (intsV l ++ intsV m)) (hg : (wr.alloc o).grownBy w5 v.ownBlock) : OutAt w (l ++ m) v5 w5 := by
  refine ⟨by rw [List.length_append, intsV_app]; exact hown, ?_⟩
  have hs := h.2.size
  exact (h.2.alloc hs o).grown hg (by simp; omega) (fun b hb => (h.1.lt b hb).1)

theorem ints_new (V : World) (l : List Int) : Ints (V.alloc (.cells (intsV l).toArray 3)) (.slice (some ⟨V.heap.size, 0, none⟩) l.length l.length) l := by
  have h := cells_new V (intsV l) 3
  refine ⟨some ⟨V.heap.size, 0, none⟩, l.length, by simp, ⟨by simp, fun h => by cases h⟩, fun _ => ⟨V.heap.size, 0, rfl, trivial, fun k u hu => ?_⟩⟩
  have := h k u hu
  rwa [Addr.add_lit] at this

theorem gW_true (k : Nat) (nx : Int) (h : gN true k = nx) : gW true (k + 1) = gW true k ++ [nx, nx + 1, -nx, -nx - 1] ∧ gN true (k + 1) = nx + 2 := by
  unfold gN at h ⊢
  simp only [if_true] at h ⊢
  refine ⟨?_, by omega⟩
  show gW true k ++ _ = _
  rw [if_pos rfl, ← h]
  have e1 : 2 * (k : Int) + 2 = 2 * (k : Int) + 1 + 1 := by omega
  have e2 : -(2 * (k : Int) + 2) = -(2 * (k : Int) + 1) - 1 := by omega
  rw [e1] at e2 ⊢
  rw [e2]
theorem gW_false (k : Nat) (nx : Int) (h : gN false k = nx) : gW false (k + 1) = gW false k ++ [nx, nx] ∧ gN false (k + 1) = nx + 1 := by
  unfold gN at h ⊢
  simp only [Bool.false_eq_true, if_false] at h ⊢
  refine ⟨?_, by omega⟩
  show gW false k ++ _ = _
  rw [if_neg (by decide), ← h]
theorem rW_next (b : Int) (k : Nat) (nx : Int) (h : b + 2 * (k : Int) = nx) : rW b (k + 1) = rW b k ++ [nx, nx + 1, -nx] := by
  show rW b k ++ _ = _
  rw [← h]
theorem gN_bound {t : Bool} {g : Nat} (hg : g ≤ 60) : 1 ≤ gN t g ∧ gN t g ≤ 200 := by unfold gN; cases t <;> simp <;> omega

set_option maxRecDepth 100000 in
set_option maxHeartbeats 4000000 in
theorem normal_ok (t : Bool) (g r : Nat) (w : World) (hs : ¬ ShapeBad t (g : Int) (r : Int)) (hf : fitsB t (g : Int) (r : Int) = true) :
    Calls Tryd.prog 5 #[.agg #[.bool t, .int .i64 (g : Int), .int .i64 (r : Int)]] w fun e w' => ∃ v, e = .returned (.tuple #[v, .nilIface]) ∧ Ints w' v (normW t g r) ∧ Below w.heap.size w w' := by
  obtain ⟨i0, hi0, hz0, hz1, hz2⟩ := info_parts Tryd.infoi
  have hfb := of_decide_eq_true hf
  have hg6 : g ≤ 60 ∧ r ≤ 60 := by omega
  have hBa : Below w.heap.size w (w.alloc (.cells #[.bool t, .int .i64 (g : Int), .int .i64 (r : Int)] 30)) := (Below.refl _ w).alloc (Nat.le_refl _) _
  have q := cells_new w [.bool t, .int .i64 (g : Int), .int .i64 (r : Int)] 30
  have hfi := fits_ t (g : Int) (r : Int) (w.alloc (.cells #[.bool t, .int .i64 (g : Int), .int .i64 (r : Int)] 30)) hs
  rw [hf] at hfi
  obtain ⟨X, hX⟩ : ∃ X, w.alloc (.cells #[.bool t, .int .i64 (g : Int), .int .i64 (r : Int)] 30) = X := ⟨_, rfl⟩
  obtain ⟨p, hp⟩ : ∃ p, w.heap.size = p := ⟨_, rfl⟩
  have HQ : Hid (X.cell? ⟨p, 0, none⟩ = some (.bool t) ∧ X.cell? ⟨p, 1, none⟩ = some (.int .i64 (g : Int)) ∧ X.cell? ⟨p, 2, none⟩ = some (.int .i64 (r : Int)) ∧ w.heap.size = p ∧ Below w.heap.size w X) := by
    have q0 := q 0 _ rfl
    have q1 := q 1 _ rfl
    have q2 := q 2 _ rfl
    rw [Addr.add_lit, Nat.zero_add] at q0 q1 q2
    rw [← hX, ← hp]
    exact ⟨q0, q1, q2, rfl, hBa⟩
  have g0 : (0 : Int) ≤ (g : Int) := by omega
  have r0 : (0 : Int) ≤ (r : Int) := by omega
  have gb : decide ((g : Int) < 0) = false := decide_eq_false (by omega)
  have rb : decide ((r : Int) < 0) = false := decide_eq_false (by omega)
  have htg : t = true ∨ (t = false ∧ 0 < g) := by
    cases t with
    | true => exact .inl rfl
    | false =>
      refine .inr ⟨rfl, ?_⟩
      rcases Nat.eq_zero_or_pos g with e | e
      · exact absurd (.inr (.inr ⟨rfl, by omega⟩)) hs
      · exact e
  have HS : Hid (¬ ShapeBad t (g : Int) (r : Int)) := hs
  obtain ⟨x0, x1, x2, -, -⟩ := HQ.out
  rw [hX] at hfi
  have HX : Hid (w.alloc (.cells #[.bool t, .int .i64 (g : Int), .int .i64 (r : Int)] 30) = X) := hX
  have HPP : Hid (w.heap.size = p) := hp
  clear q hBa hs hf hfb hX hp
  rcases htg with rfl | ⟨rfl, hgp⟩
  · go_enter Tryd.func5, Tryd.ntmps5
    go_upto_region 1 with fail
    rw [HX.out, HPP.out]
    go_upto_region 5 with (go_at_call 12; refine hfi.mono ?_; rintro e V ⟨rfl, hV⟩; have y0 := (hV.cell (p := ⟨p, 0, none⟩) (cell_lt x0)).trans x0; have y1 := (hV.cell (p := ⟨p, 1, none⟩) (cell_lt x1)).trans x1; have y2 := (hV.cell (p := ⟨p, 2, none⟩) (cell_lt x2)).trans x2; have HV := Hid.mk' hV; clear hV hfi)
    by_cases hz : g = 0 ∧ r = 0
    · obtain ⟨rfl, rfl⟩ := hz
      rw [show ((0 : Nat) : Int) = 0 from rfl] at y1 y2
      go_wp2_with fail
      have HB : Hid (Below w.heap.size w V) := HQ.out.2.2.2.2.trans (HV.out.mono HQ.out.2.2.2.2.size)
      have hin := ints_new V [1, -1]
      go_ret2
      exact ⟨_, rfl, hin, HB.out.alloc HB.out.size _⟩
    · have HNZ : Hid (¬ (g = 0 ∧ r = 0)) := hz
      go_cut [31] from 29 to 31 (fun x wx => x = .bool false ∧ wx = V)
      case first =>
        by_cases hg0 : g = 0
        · have hr0 : ((r : Int) == 0) = false := beq_false_of_ne (by omega)
          subst hg0
          rw [show ((0 : Nat) : Int) = 0 from rfl] at y1
          go_wp2_with fail
          go_meet
          exact ⟨rfl, rfl⟩
        · have hgn : ((g : Int) == 0) = false := beq_false_of_ne (by omega)
          go_wp2_with fail
          go_meet
          exact ⟨rfl, rfl⟩
      obtain ⟨rfl, hcut'⟩ := hcut
      replace hcut' := hcut'.symm
      subst hcut'
      clear x0 x1 x2
      have HV0 : Hid (OutAt V (gW true 0) (.slice none 0 0) V) := ⟨World.ownsRow_nil _ _ _ _, Below.refl _ _⟩
      have HBW : Hid (Below w.heap.size w V) := HQ.out.2.2.2.2.trans (HV.out.mono HQ.out.2.2.2.2.size)
      have HY : Hid (V.cell? ⟨p, 0, none⟩ = some (.bool true) ∧ V.cell? ⟨p, 2, none⟩ = some (.int .i64 (r : Int))) := ⟨y0, y2⟩
      go_wp2_with fail
      clear y0 y1 y2
      go_loopw [4, 5, 35] (fun v nx q W => ∃ k : Nat, k ≤ g ∧ nx = .int .i64 (gN true k) ∧ q = .int .i64 k ∧ Hid (OutAt V (gW true k) v W)) (fun _ _ q _ => g - (intOf q).toNat)
      case atStart => exact ⟨0, by omega, rfl, rfl, HV0.out⟩
      case round =>
        obtain ⟨k, hk, rfl, rfl, HK⟩ := hrel
        have z0 := (HK.out.2.cell (p := ⟨p, 0, none⟩) (cell_lt HY.out.1)).trans HY.out.1
        have z2 := (HK.out.2.cell (p := ⟨p, 2, none⟩) (cell_lt HY.out.2)).trans HY.out.2
        by_cases hkg : k < g
        · have hgb := gN_bound (t := true) (g := k) (by omega)
          obtain ⟨nx, hnx⟩ : ∃ nx, gN true k = nx := ⟨_, rfl⟩
          have HS1 := Hid.mk' (gW_true k nx hnx)
          rw [hnx] at hgb ⊢
          have own := HK.out.1
          have hlen : (gW true k).length ≤ 240 := by rw [gW_len]; simp; omega
          obtain ⟨ln, hln⟩ : ∃ ln, (gW true k).length = ln := ⟨_, rfl⟩
          have HLN : Hid ((gW true k).length = ln) := hln
          rw [hln] at own hlen
          have hsz := HK.out.2.size
          clear hnx hln
          go_wp2_with (first
            | (at_builtin; refine wpList_append_own_at _ rfl (.tmp 39) (.tmp 48) 25 rfl V.heap.size 3 i0 (.int .i64 0) 1 8 Tryd.underlying25 hi0 hz0 hz1 hz2 rfl (by decide) _ ln _ rfl (own.alloc _) ⟨_, 0, none⟩ 4 4 [.int .i64 nx, .int .i64 (nx + 1), .int .i64 (-nx), .int .i64 (-nx - 1)] rfl rfl (cells_new _ _ _) (by simp [Value.oneCell']) (by unfold maxLen; omega) (by omega) (by simp; omega) ?_; intro v5 w5 hown5 hg5 hn5 hl5)
            | fail)
          go_roundw
          case rel =>
            refine ⟨k + 1, by omega, by rw [HS1.out.2], by go_num, ?_⟩
            rw [HS1.out.1]
            exact outAt_more HK.out (by rw [HLN.out]; exact hown5) hg5
          case measure => simp [intOf]; omega
        · obtain rfl : k = g := by omega
          have hgb := gN_bound (t := true) (g := k) hg6.1
          obtain ⟨b0, hb0⟩ : ∃ b0, gN true k = b0 := ⟨_, rfl⟩
          have HB0 : Hid (gN true k = b0) := hb0
          rw [hb0] at hgb ⊢
          have HZ0 : Hid (OutAt V (gW true k ++ rW b0 0) u4 wr) := by
            show OutAt V (gW true k ++ []) u4 wr
            rw [List.append_nil]; exact HK.out
          have hgl : (gW true k).length ≤ 240 := by rw [gW_len]; simp; omega
          clear hb0
          go_wp2_with fail
          clear z0 z2
          go_loopw [4, 5, 62] (fun v nx q W => ∃ j : Nat, j ≤ r ∧ nx = .int .i64 (b0 + 2 * (j : Int)) ∧ q = .int .i64 j ∧ Hid (OutAt V (gW true k ++ rW b0 j) v W)) (fun _ _ q _ => r - (intOf q).toNat)
          case atStart => exact ⟨0, by omega, by simp, rfl, HZ0.out⟩
          case round =>
            obtain ⟨j, hj, rfl, rfl, HJ⟩ := hrel
            by_cases hjr : j < r
            · obtain ⟨nx, hnx⟩ : ∃ nx, b0 + 2 * (j : Int) = nx := ⟨_, rfl⟩
              have HS1 := Hid.mk' (rW_next b0 j nx hnx)
              have HS2 : Hid (b0 + 2 * ((j + 1 : Nat) : Int) = nx + 2) := by show b0 + 2 * ((j + 1 : Nat) : Int) = nx + 2; omega
              have hnb : 1 ≤ nx ∧ nx ≤ 400 := by omega
              rw [hnx]
              have own := HJ.out.1
              have hlen : (gW true k ++ rW b0 j).length ≤ 500 := by rw [List.length_append, rW_len]; omega
              obtain ⟨ln, hln⟩ : ∃ ln, (gW true k ++ rW b0 j).length = ln := ⟨_, rfl⟩
              have HLN : Hid ((gW true k ++ rW b0 j).length = ln) := hln
              rw [hln] at own hlen
              have hsz := HJ.out.2.size
              clear hnx hln
              go_wp2_with (first
                | (at_builtin; refine wpList_append_own_at _ rfl (.tmp 64) (.tmp 70) 25 rfl V.heap.size 3 i0 (.int .i64 0) 1 8 Tryd.underlying25 hi0 hz0 hz1 hz2 rfl (by decide) _ ln _ rfl (own.alloc _) ⟨_, 0, none⟩ 3 3 [.int .i64 nx, .int .i64 (nx + 1), .int .i64 (-nx)] rfl rfl (cells_new _ _ _) (by simp [Value.oneCell']) (by unfold maxLen; omega) (by omega) (by simp; omega) ?_; intro v5 w5 hown5 hg5 hn5 hl5)
                | fail)
              go_roundw
              case rel =>
                refine ⟨j + 1, by omega, by rw [HS2.out], by go_num, ?_⟩
                rw [HS1.out, ← List.append_assoc]
                exact outAt_more HJ.out (by rw [HLN.out]; exact hown5) hg5
              case measure => simp [intOf]; omega
            · obtain rfl : j = r := by omega
              go_wp2_with fail
              go_ret2
              refine ⟨_, rfl, ?_, HBW.out.trans (HJ.out.2.mono HBW.out.size)⟩
              have h9 := own_ints HJ.out.1
              unfold normW
              rw [if_neg HNZ.out, HB0.out]
              exact h9
  · have hg1 : ((g : Int) == 0) = false := beq_false_of_ne (by omega)
    have HNZ : Hid (¬ (g = 0 ∧ r = 0)) := by show ¬ (g = 0 ∧ r = 0); omega
    go_enter Tryd.func5, Tryd.ntmps5
    go_upto_region 1 with fail
    rw [HX.out, HPP.out]
    go_upto_region 7 with (go_at_call 12; refine hfi.mono ?_; rintro e V ⟨rfl, hV⟩; have y0 := (hV.cell (p := ⟨p, 0, none⟩) (cell_lt x0)).trans x0; have y1 := (hV.cell (p := ⟨p, 1, none⟩) (cell_lt x1)).trans x1; have y2 := (hV.cell (p := ⟨p, 2, none⟩) (cell_lt x2)).trans x2; have HV := Hid.mk' hV; clear hV hfi)
    clear x0 x1 x2
    have HV0 : Hid (OutAt V (gW false 0) (.slice none 0 0) V) := ⟨World.ownsRow_nil _ _ _ _, Below.refl _ _⟩
    have HBW : Hid (Below w.heap.size w V) := HQ.out.2.2.2.2.trans (HV.out.mono HQ.out.2.2.2.2.size)
    have HY : Hid (V.cell? ⟨p, 0, none⟩ = some (.bool false) ∧ V.cell? ⟨p, 2, none⟩ = some (.int .i64 (r : Int))) := ⟨y0, y2⟩
    go_wp2_with fail
    clear y0 y1 y2
    go_loopw [4, 5, 35] (fun v nx q W => ∃ k : Nat, k ≤ g ∧ nx = .int .i64 (gN false k) ∧ q = .int .i64 k ∧ Hid (OutAt V (gW false k) v W)) (fun _ _ q _ => g - (intOf q).toNat)
    case atStart => exact ⟨0, by omega, rfl, rfl, HV0.out⟩
    case round =>
      obtain ⟨k, hk, rfl, rfl, HK⟩ := hrel
      have z0 := (HK.out.2.cell (p := ⟨p, 0, none⟩) (cell_lt HY.out.1)).trans HY.out.1
      have z2 := (HK.out.2.cell (p := ⟨p, 2, none⟩) (cell_lt HY.out.2)).trans HY.out.2
      by_cases hkg : k < g
      · have hgb := gN_bound (t := false) (g := k) (by omega)
        obtain ⟨nx, hnx⟩ : ∃ nx, gN false k = nx := ⟨_, rfl⟩
        have HS1 := Hid.mk' (gW_false k nx hnx)
        rw [hnx] at hgb ⊢
        have own := HK.out.1
        have hlen : (gW false k).length ≤ 240 := by rw [gW_len]; simp; omega
        obtain ⟨ln, hln⟩ : ∃ ln, (gW false k).length = ln := ⟨_, rfl⟩
        have HLN : Hid ((gW false k).length = ln) := hln
        rw [hln] at own hlen
        have hsz := HK.out.2.size
        clear hnx hln
        go_wp2_with (first
          | (at_builtin; refine wpList_append_own_at _ rfl (.tmp 52) (.tmp 55) 25 rfl V.heap.size 3 i0 (.int .i64 0) 1 8 Tryd.underlying25 hi0 hz0 hz1 hz2 rfl (by decide) _ ln _ rfl (own.alloc _) ⟨_, 0, none⟩ 2 2 [.int .i64 nx, .int .i64 nx] rfl rfl (cells_new _ _ _) (by simp [Value.oneCell']) (by unfold maxLen; omega) (by omega) (by simp; omega) ?_; intro v5 w5 hown5 hg5 hn5 hl5)
          | fail)
        go_roundw
        case rel =>
          refine ⟨k + 1, by omega, by rw [HS1.out.2], by go_num, ?_⟩
          rw [HS1.out.1]
          exact outAt_more HK.out (by rw [HLN.out]; exact hown5) hg5
        case measure => simp [intOf]; omega
      · obtain rfl : k = g := by omega
        have hgb := gN_bound (t := false) (g := k) hg6.1
        obtain ⟨b0, hb0⟩ : ∃ b0, gN false k = b0 := ⟨_, rfl⟩
        have HB0 : Hid (gN false k = b0) := hb0
        rw [hb0] at hgb ⊢
        have HZ0 : Hid (OutAt V (gW false k ++ rW b0 0) u4 wr) := by
          show OutAt V (gW false k ++ []) u4 wr
          rw [List.append_nil]; exact HK.out
        have hgl : (gW false k).length ≤ 240 := by rw [gW_len]; simp; omega
        clear hb0
        go_wp2_with fail
        clear z0 z2
        go_loopw [4, 5, 62] (fun v nx q W => ∃ j : Nat, j ≤ r ∧ nx = .int .i64 (b0 + 2 * (j : Int)) ∧ q = .int .i64 j ∧ Hid (OutAt V (gW false k ++ rW b0 j) v W)) (fun _ _ q _ => r - (intOf q).toNat)
        case atStart => exact ⟨0, by omega, by simp, rfl, HZ0.out⟩
        case round =>
          obtain ⟨j, hj, rfl, rfl, HJ⟩ := hrel
          by_cases hjr : j < r
          · obtain ⟨nx, hnx⟩ : ∃ nx, b0 + 2 * (j : Int) = nx := ⟨_, rfl⟩
            have HS1 := Hid.mk' (rW_next b0 j nx hnx)
            have HS2 : Hid (b0 + 2 * ((j + 1 : Nat) : Int) = nx + 2) := by show b0 + 2 * ((j + 1 : Nat) : Int) = nx + 2; omega
            have hnb : 1 ≤ nx ∧ nx ≤ 400 := by omega
            rw [hnx]
            have own := HJ.out.1
            have hlen : (gW false k ++ rW b0 j).length ≤ 500 := by rw [List.length_append, rW_len]; omega
            obtain ⟨ln, hln⟩ : ∃ ln, (gW false k ++ rW b0 j).length = ln := ⟨_, rfl⟩
            have HLN : Hid ((gW false k ++ rW b0 j).length = ln) := hln
            rw [hln] at own hlen
            have hsz := HJ.out.2.size
            clear hnx hln
            go_wp2_with (first
              | (at_builtin; refine wpList_append_own_at _ rfl (.tmp 64) (.tmp 70) 25 rfl V.heap.size 3 i0 (.int .i64 0) 1 8 Tryd.underlying25 hi0 hz0 hz1 hz2 rfl (by decide) _ ln _ rfl (own.alloc _) ⟨_, 0, none⟩ 3 3 [.int .i64 nx, .int .i64 (nx + 1), .int .i64 (-nx)] rfl rfl (cells_new _ _ _) (by simp [Value.oneCell']) (by unfold maxLen; omega) (by omega) (by simp; omega) ?_; intro v5 w5 hown5 hg5 hn5 hl5)
              | fail)
            go_roundw
            case rel =>
              refine ⟨j + 1, by omega, by rw [HS2.out], by go_num, ?_⟩
              rw [HS1.out, ← List.append_assoc]
              exact outAt_more HJ.out (by rw [HLN.out]; exact hown5) hg5
            case measure => simp [intOf]; omega
          · obtain rfl : j = r := by omega
            go_wp2_with fail
            go_ret2
            refine ⟨_, rfl, ?_, HBW.out.trans (HJ.out.2.mono HBW.out.size)⟩
            have h9 := own_ints HJ.out.1
            unfold normW
            rw [if_neg HNZ.out, HB0.out]
            exact h9

end Go.Proofs.YtkaplnjknobdpaaDoor
