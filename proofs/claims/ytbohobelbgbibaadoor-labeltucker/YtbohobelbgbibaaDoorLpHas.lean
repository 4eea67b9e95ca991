/- Whether a room has a side; its other door. -/
import Derived.Test.YtbohobelbgbibaaDoorLpHouse
namespace Go.Proofs.YtbohobelbgbibaaDoor
open Go.RowKit Go.Sort

theorem side_at0 (w : World) (a b c d e f : Value) : (Instr.index 75 (.agg #[a, b, c, d, e, f]) (.int .i64 0)).run Tryd.prog w = .ok (.agg #[a, b]) w := by simp [Instr.index, go_sem]
theorem side_at1 (w : World) (a b c d e f : Value) : (Instr.index 75 (.agg #[a, b, c, d, e, f]) (.int .i64 1)).run Tryd.prog w = .ok (.agg #[c, d]) w := by simp [Instr.index, go_sem]
theorem side_at2 (w : World) (a b c d e f : Value) : (Instr.index 75 (.agg #[a, b, c, d, e, f]) (.int .i64 2)).run Tryd.prog w = .ok (.agg #[e, f]) w := by simp [Instr.index, go_sem]
attribute [local go_sem] side_equal tri_equal side_at0 side_at1 side_at2

def eqS (a b : T2) : Bool := (a.1 == b.1) && (a.2 == b.2)
theorem eqS_iff (a b : T2) : eqS a b = true ↔ a = b := by
  obtain ⟨a1, a2⟩ := a
  obtain ⟨b1, b2⟩ := b
  simp [eqS]
/-- Whether a triple has a side. -/
def hasB (t : T3) (s : T2) : Bool := eqS (t.1, t.2.1) s || (eqS (t.1, t.2.2) s || eqS (t.2.1, t.2.2) s)

/-- Three numbers and two that were just boxed. -/
theorem box32 (w : World) (x y z p q : Value) (t u : TypeId) : ((w.alloc (.cells #[x, y, z] t)).alloc (.cells #[p, q] u)).cell? ⟨w.heap.size, 0, none⟩ = some x ∧ ((w.alloc (.cells #[x, y, z] t)).alloc (.cells #[p, q] u)).cell? ⟨w.heap.size, 1, none⟩ = some y ∧ ((w.alloc (.cells #[x, y, z] t)).alloc (.cells #[p, q] u)).cell? ⟨w.heap.size, 2, none⟩ = some z ∧ ((w.alloc (.cells #[x, y, z] t)).alloc (.cells #[p, q] u)).cell? ⟨w.heap.size + 1, 0, none⟩ = some p ∧ ((w.alloc (.cells #[x, y, z] t)).alloc (.cells #[p, q] u)).cell? ⟨w.heap.size + 1, 1, none⟩ = some q ∧ Below w.heap.size w ((w.alloc (.cells #[x, y, z] t)).alloc (.cells #[p, q] u)) := by
  have h1 := cells_new w [x, y, z] t
  have h2 := cells_new (w.alloc (.cells #[x, y, z] t)) [p, q] u
  have a0 := h1 0 _ rfl
  have a1 := h1 1 _ rfl
  have a2 := h1 2 _ rfl
  have b0 := h2 0 _ rfl
  have b1 := h2 1 _ rfl
  rw [Addr.add_lit, Nat.zero_add] at a0 a1 a2 b0 b1
  rw [World.size_alloc] at b0 b1
  exact ⟨(World.cell?_alloc_lt _ _ ⟨w.heap.size, 0, none⟩ (by simp)).trans a0, (World.cell?_alloc_lt _ _ ⟨w.heap.size, 1, none⟩ (by simp)).trans a1, (World.cell?_alloc_lt _ _ ⟨w.heap.size, 2, none⟩ (by simp)).trans a2, b0, b1, ((Below.refl _ w).alloc (Nat.le_refl _) _).alloc (by simp) _⟩
/-- Two numbers that were just boxed. -/
theorem box2 (w : World) (x y : Value) (t : TypeId) : (w.alloc (.cells #[x, y] t)).cell? ⟨w.heap.size, 0, none⟩ = some x ∧ (w.alloc (.cells #[x, y] t)).cell? ⟨w.heap.size, 1, none⟩ = some y ∧ Below w.heap.size w (w.alloc (.cells #[x, y] t)) := by
  refine ⟨by simp, by simp, (Below.refl _ w).alloc (Nat.le_refl _) _⟩

set_option maxRecDepth 100000 in
set_option maxHeartbeats 1000000 in
theorem has_ (t : T3) (s : T2) (w : World) :
    Calls Tryd.prog 66 #[aggT t, aggS s] w fun e w' => e = .returned (.bool (hasB t s)) ∧ Below w.heap.size w w' := by
  have hsd := fun V => sides_ t V
  obtain ⟨x, y, z⟩ := t
  obtain ⟨p, q⟩ := s
  unfold hasB eqS
  unfold aggT sidesV at hsd
  unfold aggT aggS
  dsimp only at hsd ⊢
  obtain ⟨a0, a1, a2, b0, b1, hB⟩ := box32 w (.int .i64 x) (.int .i64 y) (.int .i64 z) (.int .i64 p) (.int .i64 q) 36 55
  obtain ⟨W2, hW2⟩ : ∃ W2, (w.alloc (.cells #[.int .i64 x, .int .i64 y, .int .i64 z] 36)).alloc (.cells #[.int .i64 p, .int .i64 q] 55) = W2 := ⟨_, rfl⟩
  rw [hW2] at a0 a1 a2 b0 b1 hB
  have HW := Hid.mk' hW2
  obtain ⟨rs, hrs⟩ : ∃ rs, w.heap.size = rs := ⟨_, rfl⟩
  have HRS := Hid.mk' hrs
  have HB := Hid.mk' hB
  rw [hrs] at a0 a1 a2 b0 b1
  have HC : Hid (∀ V, Below W2.heap.size W2 V → V.cell? ⟨rs + 1, 0, none⟩ = some (.int .i64 p) ∧ V.cell? ⟨rs + 1, 1, none⟩ = some (.int .i64 q)) := fun V hV => ⟨(hV.cell (p := ⟨rs + 1, 0, none⟩) (cell_lt b0)).trans b0, (hV.cell (p := ⟨rs + 1, 1, none⟩) (cell_lt b1)).trans b1⟩
  have hsd2 := hsd W2
  obtain ⟨e0, he0⟩ : ∃ e, ((x == p) && (y == q)) = e := ⟨_, rfl⟩
  obtain ⟨e1, he1⟩ : ∃ e, ((x == p) && (z == q)) = e := ⟨_, rfl⟩
  obtain ⟨e2, he2⟩ : ∃ e, ((y == p) && (z == q)) = e := ⟨_, rfl⟩
  have HE0 := Hid.mk' he0
  have HE1 := Hid.mk' he1
  have HE2 := Hid.mk' he2
  rw [he0, he1, he2]
  clear hW2 hrs hB hsd he0 he1 he2 b0 b1
  go_enter Tryd.func66, Tryd.ntmps66
  go_upto_region 1 with fail
  rw [HW.out, HRS.out]
  go_wp2_with (first
    | (go_at_call 40; refine hsd2.mono ?_; rintro e W3 ⟨rfl, hb⟩; have H3 := Hid.mk' hb; clear hb hsd2)
    | fail)
  go_loopw [9] (fun p W => ∃ k : Nat, k ≤ 3 ∧ p = .int .i64 (k : Int) ∧ Hid ((0 < k → e0 = false) ∧ (1 < k → e1 = false) ∧ (2 < k → e2 = false) ∧ Below W2.heap.size W2 W)) (fun p _ => 3 - (intOf p).toNat)
  case atStart => exact ⟨0, by omega, rfl, fun h => by omega, fun h => by omega, fun h => by omega, H3.out⟩
  case round =>
    obtain ⟨k, hk, rfl, HK⟩ := hrel
    obtain ⟨b0, b1⟩ := HC.out wr HK.out.2.2.2
    obtain rfl | rfl | rfl | rfl : k = 0 ∨ k = 1 ∨ k = 2 ∨ k = 3 := by omega
    · go_upto_region 4 with fail
      obtain ⟨c0, c1, hB4⟩ := box2 wr (.int .i64 x) (.int .i64 y) 55
      obtain ⟨W4, hW4⟩ : ∃ W4, wr.alloc (.cells #[.int .i64 x, .int .i64 y] 55) = W4 := ⟨_, rfl⟩
      rw [hW4] at c0 c1 hB4 ⊢
      have d0 := (hB4.cell (p := ⟨rs + 1, 0, none⟩) (cell_lt b0)).trans b0
      have d1 := (hB4.cell (p := ⟨rs + 1, 1, none⟩) (cell_lt b1)).trans b1
      obtain ⟨r4, hr4⟩ : ∃ r, wr.heap.size = r := ⟨_, rfl⟩
      rw [hr4] at c0 c1 ⊢
      have H4 : Hid (Below W2.heap.size W2 W4) := HK.out.2.2.2.trans (hB4.mono HK.out.2.2.2.size)
      clear hW4 hB4 b0 b1 hr4
      have he := HE0.out
      cases e0 with
      | true =>
        go_wp2_with fail
        go_ret
        exact ⟨by simp, HB.out.trans (H4.out.mono HB.out.size)⟩
      | false =>
        go_wp2_with fail
        go_roundw
        case rel => exact ⟨1, by omega, by go_num, fun _ => trivial, fun h => by omega, fun h => by omega, H4.out⟩
        case measure => simp [intOf]
    · go_upto_region 4 with fail
      obtain ⟨c0, c1, hB4⟩ := box2 wr (.int .i64 x) (.int .i64 z) 55
      obtain ⟨W4, hW4⟩ : ∃ W4, wr.alloc (.cells #[.int .i64 x, .int .i64 z] 55) = W4 := ⟨_, rfl⟩
      rw [hW4] at c0 c1 hB4 ⊢
      have d0 := (hB4.cell (p := ⟨rs + 1, 0, none⟩) (cell_lt b0)).trans b0
      have d1 := (hB4.cell (p := ⟨rs + 1, 1, none⟩) (cell_lt b1)).trans b1
      obtain ⟨r4, hr4⟩ : ∃ r, wr.heap.size = r := ⟨_, rfl⟩
      rw [hr4] at c0 c1 ⊢
      have H4 : Hid (Below W2.heap.size W2 W4) := HK.out.2.2.2.trans (hB4.mono HK.out.2.2.2.size)
      clear hW4 hB4 b0 b1 hr4
      have he := HE1.out
      cases e1 with
      | true =>
        go_wp2_with fail
        go_ret
        exact ⟨by simp, HB.out.trans (H4.out.mono HB.out.size)⟩
      | false =>
        go_wp2_with fail
        go_roundw
        case rel => exact ⟨2, by omega, by go_num, fun _ => HK.out.1 (by omega), fun _ => trivial, fun h => by omega, H4.out⟩
        case measure => simp [intOf]
    · go_upto_region 4 with fail
      obtain ⟨c0, c1, hB4⟩ := box2 wr (.int .i64 y) (.int .i64 z) 55
      obtain ⟨W4, hW4⟩ : ∃ W4, wr.alloc (.cells #[.int .i64 y, .int .i64 z] 55) = W4 := ⟨_, rfl⟩
      rw [hW4] at c0 c1 hB4 ⊢
      have d0 := (hB4.cell (p := ⟨rs + 1, 0, none⟩) (cell_lt b0)).trans b0
      have d1 := (hB4.cell (p := ⟨rs + 1, 1, none⟩) (cell_lt b1)).trans b1
      obtain ⟨r4, hr4⟩ : ∃ r, wr.heap.size = r := ⟨_, rfl⟩
      rw [hr4] at c0 c1 ⊢
      have H4 : Hid (Below W2.heap.size W2 W4) := HK.out.2.2.2.trans (hB4.mono HK.out.2.2.2.size)
      clear hW4 hB4 b0 b1 hr4
      have he := HE2.out
      cases e2 with
      | true =>
        go_wp2_with fail
        go_ret
        exact ⟨by simp, HB.out.trans (H4.out.mono HB.out.size)⟩
      | false =>
        go_wp2_with fail
        go_roundw
        case rel => exact ⟨3, by omega, by go_num, fun _ => HK.out.1 (by omega), fun _ => HK.out.2.1 (by omega), fun _ => trivial, H4.out⟩
        case measure => simp [intOf]
    · have HF : Hid ((e0 || (e1 || e2)) = false ∧ Below w.heap.size w wr) := ⟨by rw [HK.out.1 (by omega), HK.out.2.1 (by omega), HK.out.2.2.1 (by omega)]; rfl, HB.out.trans (HK.out.2.2.2.mono HB.out.size)⟩
      go_wp2_with fail
      go_ret
      exact ⟨by rw [HF.out.1]; rfl, HF.out.2⟩

end Go.Proofs.YtbohobelbgbibaaDoor
