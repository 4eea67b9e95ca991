/- The room beyond a door, by the program. -/
import Derived.Test.YtcciinaeplppiaaDoorLpHas
namespace Go.Proofs.YtcciinaeplppiaaDoor
open Go.RowKit Go.Sort
attribute [local go_sem] side_equal tri_equal

def eqT (a b : T3) : Bool := (a.1 == b.1) && ((a.2.1 == b.2.1) && (a.2.2 == b.2.2))
theorem eqT_iff (a b : T3) : eqT a b = true ↔ a = b := by
  obtain ⟨a1, a2, a3⟩ := a
  obtain ⟨b1, b2, b3⟩ := b
  simp [eqT]
/-- Whether a room is not the one that is left, and has the door. -/
def beyB (t left : T3) (s : T2) : Bool := !eqT t left && hasB t s
def BeyAt (l : List T3) (left : T3) (s : T2) (k : Nat) : Prop := ∃ t, l[k]? = some t ∧ beyB t left s = true

/-- Three things that were just laid. -/
theorem box223 (w : World) (h1 h2 p q x y z : Value) (t1 t2 t3 : TypeId) : ∃ W2, ((w.alloc (.cells #[h1, h2] t1)).alloc (.cells #[p, q] t2)).alloc (.cells #[x, y, z] t3) = W2 ∧ W2.cell? ⟨w.heap.size, 0, none⟩ = some h1 ∧ W2.cell? ⟨w.heap.size, 1, none⟩ = some h2 ∧ W2.cell? ⟨w.heap.size + 1, 0, none⟩ = some p ∧ W2.cell? ⟨w.heap.size + 1, 1, none⟩ = some q ∧ W2.cell? ⟨w.heap.size + 2, 0, none⟩ = some x ∧ W2.cell? ⟨w.heap.size + 2, 1, none⟩ = some y ∧ W2.cell? ⟨w.heap.size + 2, 2, none⟩ = some z ∧ (∀ t, W2.frozen? ⟨w.heap.size + 2, t, none⟩ = false) ∧ (∀ t, W2.frozen? ⟨w.heap.size + 1, t, none⟩ = false) ∧ Below w.heap.size w W2 := by
  obtain ⟨A, hA⟩ : ∃ A, w.alloc (.cells #[h1, h2] t1) = A := ⟨_, rfl⟩
  obtain ⟨B, hB⟩ : ∃ B, A.alloc (.cells #[p, q] t2) = B := ⟨_, rfl⟩
  have sA : A.heap.size = w.heap.size + 1 := by rw [← hA]; simp
  have sB : B.heap.size = w.heap.size + 2 := by rw [← hB]; simp [sA]
  have bA : Below w.heap.size w A := by rw [← hA]; exact (Below.refl _ w).alloc (Nat.le_refl _) _
  have bB : Below A.heap.size A B := by rw [← hB]; exact (Below.refl _ A).alloc (Nat.le_refl _) _
  have bD : Below B.heap.size B (B.alloc (.cells #[x, y, z] t3)) := (Below.refl _ B).alloc (Nat.le_refl _) _
  have cA := cells_new w [h1, h2] t1
  have cB := cells_new A [p, q] t2
  have cD := cells_new B [x, y, z] t3
  have a0 := cA 0 _ rfl
  have a1 := cA 1 _ rfl
  have b0 := cB 0 _ rfl
  have b1 := cB 1 _ rfl
  have d0 := cD 0 _ rfl
  have d1 := cD 1 _ rfl
  have d2 := cD 2 _ rfl
  rw [Addr.add_lit, Nat.zero_add] at a0 a1 b0 b1 d0 d1 d2
  rw [show (List.toArray [h1, h2]) = #[h1, h2] from rfl, hA] at a0 a1
  rw [show (List.toArray [p, q]) = #[p, q] from rfl, hB, sA] at b0 b1
  rw [sB] at d0 d1 d2
  have hz : ∀ t, B.frozen? ⟨w.heap.size + 1, t, none⟩ = false := fun t => by rw [← sA, ← hB]; simp
  have uB : ∀ {g k : Nat} {vv : Value}, B.cell? ⟨g, k, none⟩ = some vv → (B.alloc (.cells #[x, y, z] t3)).cell? ⟨g, k, none⟩ = some vv := fun {g k vv} h => (bD.cell (p := ⟨g, k, none⟩) (cell_lt h)).trans h
  have uA : ∀ {g k : Nat} {vv : Value}, A.cell? ⟨g, k, none⟩ = some vv → B.cell? ⟨g, k, none⟩ = some vv := fun {g k vv} h => (bB.cell (p := ⟨g, k, none⟩) (cell_lt h)).trans h
  refine ⟨_, by rw [hA, hB], uB (uA a0), uB (uA a1), uB b0, uB b1, d0, d1, d2, fun t => ?_, fun t => ?_, ?_⟩
  · rw [← sB]; simp
  · exact (World.frozen?_of_block (a := ⟨w.heap.size + 1, t, none⟩) (bD.block (w.heap.size + 1) (cell_lt b0))).trans (hz t)
  · exact (bA.trans (bB.mono bA.size)).trans (bD.mono (by omega))

set_option maxRecDepth 100000 in
set_option maxHeartbeats 2000000 in
theorem beyond_ {l : List T3} (s : T2) (left : T3) (vl : Value) (nl cl : Nat) (al : Option Addr) (vr : Value) (w : World) (hvl : vl = .slice al nl cl) (hr : TriRd w vr l) (h9 : l.length ≤ 1000000) :
    Calls Tryd.prog 50 #[.agg #[vl, vr], aggS s, aggT left] w fun e w' => ((∃ k, e = .returned (.tuple #[.int .i64 (k : Nat), .bool true]) ∧ BeyAt l left s k ∧ ∀ j, j < k → ¬ BeyAt l left s j) ∨ (e = .returned (.tuple #[.int .i64 0, .bool false]) ∧ ∀ j, ¬ BeyAt l left s j)) ∧ Below w.heap.size w w' := by
  subst hvl
  have HRD := Hid.mk' hr
  obtain ⟨ar, cr, rfl, -⟩ := hr
  have hha := fun (t : T3) V => has_ t s V
  obtain ⟨p, q⟩ := s
  obtain ⟨lx, ly, lz⟩ := left
  have HSP : Hid (∀ k, k < l.length → ∃ t, l[k]? = some t ∧ (BeyAt l (lx, ly, lz) (p, q) k ↔ beyB t (lx, ly, lz) (p, q) = true)) := fun k hk => ⟨_, List.getElem?_eq_getElem hk, by
    unfold BeyAt
    rw [List.getElem?_eq_getElem hk]
    exact ⟨fun ⟨t, h1, h2⟩ => by rw [Option.some.inj h1]; exact h2, fun h => ⟨_, rfl, h⟩⟩⟩
  have HNO : Hid (∀ j, l.length ≤ j → ¬ BeyAt l (lx, ly, lz) (p, q) j) := fun j hj ⟨t, h1, _⟩ => by rw [List.getElem?_eq_none hj] at h1; cases h1
  unfold aggT aggS at hha ⊢
  dsimp only at hha ⊢
  obtain ⟨W2, hW2, g0, g1, s0, s1, t0, t1, t2, -, -, hB⟩ := box223 w (.slice al nl cl) (.slice ar l.length cr) (.int .i64 p) (.int .i64 q) (.int .i64 lx) (.int .i64 ly) (.int .i64 lz) 67 55 36
  have HW := Hid.mk' hW2
  have HB := Hid.mk' hB
  obtain ⟨rs, hrs⟩ : ∃ rs, w.heap.size = rs := ⟨_, rfl⟩
  have HRS := Hid.mk' hrs
  rw [hrs] at g0 g1 t0 t1 t2 s0 s1
  have HC : Hid (∀ V, Below W2.heap.size W2 V → V.cell? ⟨rs + 1, 0, none⟩ = some (.int .i64 p) ∧ V.cell? ⟨rs + 1, 1, none⟩ = some (.int .i64 q) ∧ V.cell? ⟨rs + 2, 0, none⟩ = some (.int .i64 lx) ∧ V.cell? ⟨rs + 2, 1, none⟩ = some (.int .i64 ly) ∧ V.cell? ⟨rs + 2, 2, none⟩ = some (.int .i64 lz) ∧ TriRd V (.slice ar l.length cr) l) := fun V hV => by
    have up : ∀ {g k : Nat} {vv : Value}, W2.cell? ⟨g, k, none⟩ = some vv → V.cell? ⟨g, k, none⟩ = some vv := fun {g k vv} h => (hV.cell (p := ⟨g, k, none⟩) (cell_lt h)).trans h
    exact ⟨up s0, up s1, up t0, up t1, up t2, (HRD.out.below hB).below hV⟩
  obtain ⟨m, hm⟩ : ∃ m, l.length = m := ⟨_, rfl⟩
  have HM := Hid.mk' hm
  rw [hm] at g1 HW HSP HNO HC h9 ⊢
  clear hW2 hrs hB hm HRD s0 s1 t0 t1 t2
  go_enter Tryd.func50, Tryd.ntmps50
  go_upto_region 1 with fail
  rw [HW.out, HRS.out]
  go_wp2_with fail
  go_loopw [13] (fun pk W => ∃ k : Nat, k ≤ m ∧ pk = .int .i64 (k : Int) ∧ Hid ((∀ j, j < k → ¬ BeyAt l (lx, ly, lz) (p, q) j) ∧ Below W2.heap.size W2 W)) (fun pk _ => m - (intOf pk).toNat)
  case atStart => exact ⟨0, by omega, rfl, fun j hj => by omega, Below.refl _ _⟩
  case round =>
    obtain ⟨k, hk, rfl, HK⟩ := hrel
    obtain ⟨b0, b1, b2, b3, b4, hrd⟩ := HC.out wr HK.out.2
    by_cases hkm : k < m
    · obtain ⟨t, ht1, ht2⟩ := HSP.out k hkm
      have HBK := Hid.mk' ht2
      obtain ⟨a1, c1, ea, hx⟩ := hrd
      rw [HM.out] at ea hx
      cases ea
      obtain ⟨g, rfl, hcell⟩ := hx (by omega)
      obtain ⟨d0, d1, d2⟩ := hcell k _ ht1
      obtain ⟨x, y, z⟩ := t
      dsimp only at d0 d1 d2
      have hcal := hha (x, y, z)
      dsimp only at hcal
      have y0 : (0 : Int) ≤ (k : Int) := by omega
      have y1 : (k : Int) < (m : Int) := by omega
      clear ht1 ht2 hx hcell hha
      go_upto_region 4 with fail
      obtain ⟨c0, c1, c2, hB4, -⟩ := box3 wr (.int .i64 x) (.int .i64 y) (.int .i64 z) 36
      obtain ⟨W4, hW4⟩ : ∃ W4, wr.alloc (.cells #[.int .i64 x, .int .i64 y, .int .i64 z] 36) = W4 := ⟨_, rfl⟩
      rw [hW4] at c0 c1 c2 hB4 ⊢
      obtain ⟨r4, hr4⟩ : ∃ r, wr.heap.size = r := ⟨_, rfl⟩
      rw [hr4] at c0 c1 c2 ⊢
      have H4 : Hid (Below W2.heap.size W2 W4) := HK.out.2.trans (hB4.mono HK.out.2.size)
      clear hW4 hB4 b0 b1 b2 b3 b4 hr4 d0 d1 d2
      obtain ⟨b0, b1, b2, b3, b4, -⟩ := HC.out W4 H4.out
      have hcall := hcal W4
      obtain ⟨e0, he0⟩ : ∃ e, ((x == lx) && ((y == ly) && (z == lz))) = e := ⟨_, rfl⟩
      obtain ⟨f0, hf0⟩ : ∃ f, hasB (x, y, z) (p, q) = f := ⟨_, rfl⟩
      rw [hf0] at hcall
      have HBE : Hid (BeyAt l (lx, ly, lz) (p, q) k ↔ (!e0 && f0) = true) := by
        have h := HBK.out
        unfold beyB at h
        rw [hf0, show eqT (x, y, z) (lx, ly, lz) = e0 from he0] at h
        exact h
      have HNX : Hid ((!e0 && f0) = false → ∀ j, j < k + 1 → ¬ BeyAt l (lx, ly, lz) (p, q) j) := fun h j hj => by
        rcases Nat.lt_or_ge j k with h1 | h1
        · exact HK.out.1 j h1
        · obtain rfl : j = k := by omega
          rw [HBE.out, h]; simp
      clear hcal hf0 HBK
      cases e0 with
      | true =>
        go_wp2_with fail
        go_roundw
        case rel => exact ⟨k + 1, by omega, by go_num, HNX.out rfl, H4.out⟩
        case measure => simp [intOf]; omega
      | false =>
        cases f0 with
        | false =>
          go_wp2_with (first
            | (go_at_call 66; refine hcall.mono ?_; rintro e W5 ⟨rfl, hb⟩; have H5 : Hid (Below W2.heap.size W2 W5) := (H4.out.trans (hb.mono H4.out.size)); clear hb hcall)
            | fail)
          go_roundw
          case rel => exact ⟨k + 1, by omega, by go_num, HNX.out rfl, H5.out⟩
          case measure => simp [intOf]; omega
        | true =>
          have HYE : Hid (BeyAt l (lx, ly, lz) (p, q) k) := HBE.out.2 rfl
          go_wp2_with (first
            | (go_at_call 66; refine hcall.mono ?_; rintro e W5 ⟨rfl, hb⟩; have H5 : Hid (Below w.heap.size w W5) := (HB.out.trans ((H4.out.trans (hb.mono H4.out.size)).mono HB.out.size)); clear hb hcall)
            | fail)
          go_ret2
          exact ⟨.inl ⟨k, rfl, HYE.out, HK.out.1⟩, H5.out⟩
    · have HA : Hid ((∀ j, ¬ BeyAt l (lx, ly, lz) (p, q) j) ∧ Below w.heap.size w wr) := ⟨fun j => by
        rcases Nat.lt_or_ge j m with h | h
        · exact HK.out.1 j (by omega)
        · exact HNO.out j h, HB.out.trans (HK.out.2.mono HB.out.size)⟩
      go_wp2_with fail
      go_ret2
      exact ⟨.inr ⟨rfl, HA.out.1⟩, HA.out.2⟩

end Go.Proofs.YtcciinaeplppiaaDoor
