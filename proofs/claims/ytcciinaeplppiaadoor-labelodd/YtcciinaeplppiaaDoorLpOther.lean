/- The other door of a room, by the program. -/
import Derived.Test.YtcciinaeplppiaaDoorLpHas
import Derived.Test.YtcciinaeplppiaaDoorLabFault
namespace Go.Proofs.YtcciinaeplppiaaDoor
open Go.RowKit Go.Sort
attribute [local go_sem] side_equal tri_equal side_at0 side_at1 side_at2

def dB (ls : List Int) (x y : Nat) : Bool := labA ls x + labA ls y == 1
def sN (x y : Nat) : T2 := ((x : Int), (y : Int))
/-- The other door, and whether there is one. -/
def otherF (ls : List Int) (a b c : Nat) (s : T2) : T2 × Bool :=
  if (!eqS (sN a b) s && dB ls a b) = true then (sN a b, true) else if (!eqS (sN a c) s && dB ls a c) = true then (sN a c, true) else if (!eqS (sN b c) s && dB ls b c) = true then (sN b c, true) else ((0, 0), false)

/-- Four things that were just laid. -/
theorem box4 (w : World) (h1 h2 x y z p q u v : Value) (t1 t2 t3 t4 : TypeId) : ∃ W2, (((w.alloc (.cells #[h1, h2] t1)).alloc (.cells #[x, y, z] t2)).alloc (.cells #[p, q] t3)).alloc (.cells #[u, v] t4) = W2 ∧ W2.cell? ⟨w.heap.size, 0, none⟩ = some h1 ∧ W2.cell? ⟨w.heap.size, 1, none⟩ = some h2 ∧ W2.cell? ⟨w.heap.size + 1, 0, none⟩ = some x ∧ W2.cell? ⟨w.heap.size + 1, 1, none⟩ = some y ∧ W2.cell? ⟨w.heap.size + 1, 2, none⟩ = some z ∧ W2.cell? ⟨w.heap.size + 2, 0, none⟩ = some p ∧ W2.cell? ⟨w.heap.size + 2, 1, none⟩ = some q ∧ W2.cell? ⟨w.heap.size + 3, 0, none⟩ = some u ∧ W2.cell? ⟨w.heap.size + 3, 1, none⟩ = some v ∧ (∀ t, W2.frozen? ⟨w.heap.size + 3, t, none⟩ = false) ∧ Below w.heap.size w W2 := by
  obtain ⟨A, hA⟩ : ∃ A, w.alloc (.cells #[h1, h2] t1) = A := ⟨_, rfl⟩
  obtain ⟨B, hB⟩ : ∃ B, A.alloc (.cells #[x, y, z] t2) = B := ⟨_, rfl⟩
  obtain ⟨C, hC⟩ : ∃ C, B.alloc (.cells #[p, q] t3) = C := ⟨_, rfl⟩
  have sA : A.heap.size = w.heap.size + 1 := by rw [← hA]; simp
  have sB : B.heap.size = w.heap.size + 2 := by rw [← hB]; simp [sA]
  have sC : C.heap.size = w.heap.size + 3 := by rw [← hC]; simp [sB]
  have bA : Below w.heap.size w A := by rw [← hA]; exact (Below.refl _ w).alloc (Nat.le_refl _) _
  have bB : Below A.heap.size A B := by rw [← hB]; exact (Below.refl _ A).alloc (Nat.le_refl _) _
  have bC : Below B.heap.size B C := by rw [← hC]; exact (Below.refl _ B).alloc (Nat.le_refl _) _
  have bD : Below C.heap.size C (C.alloc (.cells #[u, v] t4)) := (Below.refl _ C).alloc (Nat.le_refl _) _
  have cA := cells_new w [h1, h2] t1
  have cB := cells_new A [x, y, z] t2
  have cC := cells_new B [p, q] t3
  have cD := cells_new C [u, v] t4
  have a0 := cA 0 _ rfl
  have a1 := cA 1 _ rfl
  have b0 := cB 0 _ rfl
  have b1 := cB 1 _ rfl
  have b2 := cB 2 _ rfl
  have c0 := cC 0 _ rfl
  have c1 := cC 1 _ rfl
  have d0 := cD 0 _ rfl
  have d1 := cD 1 _ rfl
  rw [Addr.add_lit, Nat.zero_add] at a0 a1 b0 b1 b2 c0 c1 d0 d1
  rw [show (List.toArray [h1, h2]) = #[h1, h2] from rfl, hA] at a0 a1
  rw [show (List.toArray [x, y, z]) = #[x, y, z] from rfl, hB, sA] at b0 b1 b2
  rw [show (List.toArray [p, q]) = #[p, q] from rfl, hC, sB] at c0 c1
  rw [sC] at d0 d1
  have up : ∀ {g k : Nat} {vv : Value}, C.cell? ⟨g, k, none⟩ = some vv → (C.alloc (.cells #[u, v] t4)).cell? ⟨g, k, none⟩ = some vv := fun {g k vv} h => (bD.cell (p := ⟨g, k, none⟩) (cell_lt h)).trans h
  have uB : ∀ {g k : Nat} {vv : Value}, B.cell? ⟨g, k, none⟩ = some vv → C.cell? ⟨g, k, none⟩ = some vv := fun {g k vv} h => (bC.cell (p := ⟨g, k, none⟩) (cell_lt h)).trans h
  have uA : ∀ {g k : Nat} {vv : Value}, A.cell? ⟨g, k, none⟩ = some vv → B.cell? ⟨g, k, none⟩ = some vv := fun {g k vv} h => (bB.cell (p := ⟨g, k, none⟩) (cell_lt h)).trans h
  refine ⟨_, by rw [hA, hB, hC], up (uB (uA a0)), up (uB (uA a1)), up (uB b0), up (uB b1), up (uB b2), up c0, up c1, d0, d1, fun t => ?_, ?_⟩
  · rw [← sC]; simp
  · exact ((bA.trans (bB.mono bA.size)).trans (bC.mono (by omega))).trans (bD.mono (by omega))

set_option maxRecDepth 100000 in
set_option maxHeartbeats 2000000 in
theorem other_ {ls : List Int} (a b c : Nat) (s : T2) (vl : Value) (ar : Option Addr) (nr cr : Nat) (w : World) (hl : Ints w vl ls) (ha : a < ls.length) (hb : b < ls.length) (hc : c < ls.length) (hlab : ∀ k, k < ls.length → 0 ≤ labA ls k ∧ labA ls k ≤ 2) :
    Calls Tryd.prog 51 #[.agg #[vl, .slice ar nr cr], aggT ((a : Int), (b : Int), (c : Int)), aggS s] w fun e w' => e = .returned (.tuple #[aggS (otherF ls a b c s).1, .bool (otherF ls a b c s).2]) ∧ Below w.heap.size w w' := by
  have hsd := fun V => sides_ ((a : Int), (b : Int), (c : Int)) V
  have HLS := Hid.mk' hl
  obtain ⟨al, cl, rfl, -, -⟩ := hl.open_
  have hdo := fun (x y : Nat) (V : World) (hV : Below w.heap.size w V) (hx : x < ls.length) (hy : y < ls.length) => door_ x y _ _ V (HLS.out.below hV) hx hy (hlab x hx) (hlab y hy) ar nr cr rfl
  have HDO := Hid.mk' hdo
  obtain ⟨p, q⟩ := s
  unfold aggT sidesV at hsd
  unfold aggT
  dsimp only at hsd ⊢
  obtain ⟨W2, hW2, g0, g1, t0, t1, t2, s0, s1, r0, r1, hfz, hB⟩ := box4 w (.slice al ls.length cl) (.slice ar nr cr) (.int .i64 (a : Int)) (.int .i64 (b : Int)) (.int .i64 (c : Int)) (.int .i64 p) (.int .i64 q) (.int .i64 0) (.int .i64 0) 67 36 55 55
  have HW := Hid.mk' hW2
  have HB := Hid.mk' hB
  obtain ⟨rs, hrs⟩ : ∃ rs, w.heap.size = rs := ⟨_, rfl⟩
  have HRS := Hid.mk' hrs
  rw [hrs] at g0 g1 t0 t1 t2 s0 s1 r0 r1 hfz
  have HSC : Hid (∀ V x y, Below W2.heap.size W2 V → Below w.heap.size w ((V.setCell ⟨rs + 3, 0, none⟩ x).setCell ⟨rs + 3, 1, none⟩ y)) := fun V x y hV => ((hB.trans (hV.mono hB.size)).setCell (p := ⟨rs + 3, 0, none⟩) (by show w.heap.size ≤ rs + 3; omega) _).setCell (p := ⟨rs + 3, 1, none⟩) (by show w.heap.size ≤ rs + 3; omega) _
  obtain ⟨m, hm⟩ : ∃ m, ls.length = m := ⟨_, rfl⟩
  rw [hm] at g0 HDO HW HLS ha hb hc ⊢
  have HC : Hid (∀ V, Below W2.heap.size W2 V → V.cell? ⟨rs, 0, none⟩ = some (.slice al m cl) ∧ V.cell? ⟨rs, 1, none⟩ = some (.slice ar nr cr) ∧ V.cell? ⟨rs + 2, 0, none⟩ = some (.int .i64 p) ∧ V.cell? ⟨rs + 2, 1, none⟩ = some (.int .i64 q) ∧ V.cell? ⟨rs + 3, 0, none⟩ = some (.int .i64 0) ∧ V.cell? ⟨rs + 3, 1, none⟩ = some (.int .i64 0) ∧ V.frozen? ⟨rs + 3, 0, none⟩ = false ∧ V.frozen? ⟨rs + 3, 1, none⟩ = false) := fun V hV => by
    have up : ∀ {g k : Nat} {vv : Value}, W2.cell? ⟨g, k, none⟩ = some vv → V.cell? ⟨g, k, none⟩ = some vv := fun {g k vv} h => (hV.cell (p := ⟨g, k, none⟩) (cell_lt h)).trans h
    exact ⟨up g0, up g1, up s0, up s1, up r0, up r1, (World.frozen?_of_block (a := ⟨rs + 3, 0, none⟩) (hV.block (rs + 3) (cell_lt r0))).trans (hfz 0), (World.frozen?_of_block (a := ⟨rs + 3, 1, none⟩) (hV.block (rs + 3) (cell_lt r1))).trans (hfz 1)⟩
  have hsd2 := hsd W2
  obtain ⟨R, hR⟩ : ∃ R, otherF ls a b c (p, q) = R := ⟨_, rfl⟩
  rw [hR]
  unfold otherF at hR
  obtain ⟨e0, he0⟩ : ∃ e, (((a : Int) == p) && ((b : Int) == q)) = e := ⟨_, rfl⟩
  obtain ⟨e1, he1⟩ : ∃ e, (((a : Int) == p) && ((c : Int) == q)) = e := ⟨_, rfl⟩
  obtain ⟨e2, he2⟩ : ∃ e, (((b : Int) == p) && ((c : Int) == q)) = e := ⟨_, rfl⟩
  have HE0 := Hid.mk' he0
  have HE1 := Hid.mk' he1
  have HE2 := Hid.mk' he2
  rw [show eqS (sN a b) (p, q) = e0 from he0, show eqS (sN a c) (p, q) = e1 from he1, show eqS (sN b c) (p, q) = e2 from he2] at hR
  obtain ⟨f0, hf0⟩ : ∃ f, dB ls a b = f := ⟨_, rfl⟩
  obtain ⟨f1, hf1⟩ : ∃ f, dB ls a c = f := ⟨_, rfl⟩
  obtain ⟨f2, hf2⟩ : ∃ f, dB ls b c = f := ⟨_, rfl⟩
  have hd0 := fun V hV => HDO.out a b V hV ha hb
  have hd1 := fun V hV => HDO.out a c V hV ha hc
  have hd2 := fun V hV => HDO.out b c V hV hb hc
  rw [show (labA ls a + labA ls b == 1) = f0 from hf0] at hd0
  rw [show (labA ls a + labA ls c == 1) = f1 from hf1] at hd1
  rw [show (labA ls b + labA ls c == 1) = f2 from hf2] at hd2
  unfold aggS at hd0 hd1 hd2 ⊢
  dsimp only at hd0 hd1 hd2 ⊢
  rw [hf0, hf1, hf2] at hR
  have HR := Hid.mk' hR
  have HD0 := Hid.mk' hd0
  have HD1 := Hid.mk' hd1
  have HD2 := Hid.mk' hd2
  clear hW2 hrs hB hsd he0 he1 he2 hf0 hf1 hf2 g0 g1 s0 s1 r0 r1 hfz hdo hl hlab hm hd0 hd1 hd2 HDO HLS ha hb hc hR
  go_enter Tryd.func51, Tryd.ntmps51
  go_upto_region 1 with fail
  rw [HW.out, HRS.out]
  go_wp2_with (first
    | (go_at_call 40; refine hsd2.mono ?_; rintro e W3 ⟨rfl, hb⟩; have H3 := Hid.mk' hb; clear hb hsd2)
    | fail)
  clear t0 t1 t2
  go_loopw [12] (fun p W => ∃ k : Nat, k ≤ 3 ∧ p = .int .i64 (k : Int) ∧ Hid ((0 < k → (!e0 && f0) = false) ∧ (1 < k → (!e1 && f1) = false) ∧ (2 < k → (!e2 && f2) = false) ∧ Below W2.heap.size W2 W)) (fun p _ => 3 - (intOf p).toNat)
  case atStart => exact ⟨0, by omega, rfl, fun h => by omega, fun h => by omega, fun h => by omega, H3.out⟩
  case round =>
    obtain ⟨k, hk, rfl, HK⟩ := hrel
    obtain ⟨b0, b1, b2, b3, b4, b5, b6, b7⟩ := HC.out wr HK.out.2.2.2
    obtain rfl | rfl | rfl | rfl : k = 0 ∨ k = 1 ∨ k = 2 ∨ k = 3 := by omega
    · go_upto_region 4 with fail
      obtain ⟨c0, c1, hB4⟩ := box2 wr (.int .i64 (a : Int)) (.int .i64 (b : Int)) 55
      obtain ⟨W4, hW4⟩ : ∃ W4, wr.alloc (.cells #[.int .i64 (a : Int), .int .i64 (b : Int)] 55) = W4 := ⟨_, rfl⟩
      rw [hW4] at c0 c1 hB4 ⊢
      obtain ⟨r4, hr4⟩ : ∃ r, wr.heap.size = r := ⟨_, rfl⟩
      rw [hr4] at c0 c1 ⊢
      have H4 : Hid (Below W2.heap.size W2 W4) := HK.out.2.2.2.trans (hB4.mono HK.out.2.2.2.size)
      clear hW4 hB4 b0 b1 b2 b3 b4 b5 b6 b7 hr4
      obtain ⟨b0, b1, b2, b3, -, -, -, -⟩ := HC.out W4 H4.out
      have he := HE0.out
      cases e0 with
      | true =>
        go_wp2_with fail
        go_roundw
        case rel => exact ⟨1, by omega, by go_num, fun _ => rfl, fun h => by omega, fun h => by omega, H4.out⟩
        case measure => simp [intOf]
      | false =>
        have hcall := HD0.out W4 (HB.out.trans (H4.out.mono HB.out.size))
        cases f0 with
        | false =>
          go_wp2_with (first
            | (go_at_call 33; refine hcall.mono ?_; rintro e W5 ⟨rfl, hb⟩; have H5 : Hid (Below W2.heap.size W2 W5) := (H4.out.trans (hb.mono H4.out.size)); clear hb hcall)
            | fail)
          go_roundw
          case rel => exact ⟨1, by omega, by go_num, fun _ => rfl, fun h => by omega, fun h => by omega, H5.out⟩
          case measure => simp [intOf]
        | true =>
          go_wp2_with (first
            | (go_at_call 33; refine hcall.mono ?_; rintro e W5 ⟨rfl, hb⟩; have H5 : Hid (Below W2.heap.size W2 W5) := (H4.out.trans (hb.mono H4.out.size)); have e5 := (hb.cell (p := ⟨r4, 0, none⟩) (cell_lt c0)).trans c0; have e6 := (hb.cell (p := ⟨r4, 1, none⟩) (cell_lt c1)).trans c1; obtain ⟨-, -, -, -, h4, h5, h6, h7⟩ := HC.out W5 H5.out; clear hb hcall)
            | fail)
          obtain ⟨x0, x1⟩ := two_put h4 h5 (.int .i64 (a : Int)) (.int .i64 (b : Int))
          have hR := HR.out
          rw [if_pos (by rfl)] at hR
          subst hR
          refine bodyPost_ret (v := .tuple #[.agg #[.int .i64 (a : Int), .int .i64 (b : Int)], .bool true]) ?_ rfl ⟨rfl, HSC.out W5 _ _ H5.out⟩
          simp [results, Tryd.f51, go_sem, x0, x1]
    · go_upto_region 4 with fail
      obtain ⟨c0, c1, hB4⟩ := box2 wr (.int .i64 (a : Int)) (.int .i64 (c : Int)) 55
      obtain ⟨W4, hW4⟩ : ∃ W4, wr.alloc (.cells #[.int .i64 (a : Int), .int .i64 (c : Int)] 55) = W4 := ⟨_, rfl⟩
      rw [hW4] at c0 c1 hB4 ⊢
      obtain ⟨r4, hr4⟩ : ∃ r, wr.heap.size = r := ⟨_, rfl⟩
      rw [hr4] at c0 c1 ⊢
      have H4 : Hid (Below W2.heap.size W2 W4) := HK.out.2.2.2.trans (hB4.mono HK.out.2.2.2.size)
      clear hW4 hB4 b0 b1 b2 b3 b4 b5 b6 b7 hr4
      obtain ⟨b0, b1, b2, b3, -, -, -, -⟩ := HC.out W4 H4.out
      have he := HE1.out
      cases e1 with
      | true =>
        go_wp2_with fail
        go_roundw
        case rel => exact ⟨2, by omega, by go_num, fun _ => HK.out.1 (by omega), fun _ => rfl, fun h => by omega, H4.out⟩
        case measure => simp [intOf]
      | false =>
        have hcall := HD1.out W4 (HB.out.trans (H4.out.mono HB.out.size))
        cases f1 with
        | false =>
          go_wp2_with (first
            | (go_at_call 33; refine hcall.mono ?_; rintro e W5 ⟨rfl, hb⟩; have H5 : Hid (Below W2.heap.size W2 W5) := (H4.out.trans (hb.mono H4.out.size)); clear hb hcall)
            | fail)
          go_roundw
          case rel => exact ⟨2, by omega, by go_num, fun _ => HK.out.1 (by omega), fun _ => rfl, fun h => by omega, H5.out⟩
          case measure => simp [intOf]
        | true =>
          go_wp2_with (first
            | (go_at_call 33; refine hcall.mono ?_; rintro e W5 ⟨rfl, hb⟩; have H5 : Hid (Below W2.heap.size W2 W5) := (H4.out.trans (hb.mono H4.out.size)); have e5 := (hb.cell (p := ⟨r4, 0, none⟩) (cell_lt c0)).trans c0; have e6 := (hb.cell (p := ⟨r4, 1, none⟩) (cell_lt c1)).trans c1; obtain ⟨-, -, -, -, h4, h5, h6, h7⟩ := HC.out W5 H5.out; clear hb hcall)
            | fail)
          obtain ⟨x0, x1⟩ := two_put h4 h5 (.int .i64 (a : Int)) (.int .i64 (c : Int))
          have hR := HR.out
          rw [if_neg (by rw [HK.out.1 (by omega)]; simp), if_pos (by rfl)] at hR
          subst hR
          refine bodyPost_ret (v := .tuple #[.agg #[.int .i64 (a : Int), .int .i64 (c : Int)], .bool true]) ?_ rfl ⟨rfl, HSC.out W5 _ _ H5.out⟩
          simp [results, Tryd.f51, go_sem, x0, x1]
    · go_upto_region 4 with fail
      obtain ⟨c0, c1, hB4⟩ := box2 wr (.int .i64 (b : Int)) (.int .i64 (c : Int)) 55
      obtain ⟨W4, hW4⟩ : ∃ W4, wr.alloc (.cells #[.int .i64 (b : Int), .int .i64 (c : Int)] 55) = W4 := ⟨_, rfl⟩
      rw [hW4] at c0 c1 hB4 ⊢
      obtain ⟨r4, hr4⟩ : ∃ r, wr.heap.size = r := ⟨_, rfl⟩
      rw [hr4] at c0 c1 ⊢
      have H4 : Hid (Below W2.heap.size W2 W4) := HK.out.2.2.2.trans (hB4.mono HK.out.2.2.2.size)
      clear hW4 hB4 b0 b1 b2 b3 b4 b5 b6 b7 hr4
      obtain ⟨b0, b1, b2, b3, -, -, -, -⟩ := HC.out W4 H4.out
      have he := HE2.out
      cases e2 with
      | true =>
        go_wp2_with fail
        go_roundw
        case rel => exact ⟨3, by omega, by go_num, fun _ => HK.out.1 (by omega), fun _ => HK.out.2.1 (by omega), fun _ => rfl, H4.out⟩
        case measure => simp [intOf]
      | false =>
        have hcall := HD2.out W4 (HB.out.trans (H4.out.mono HB.out.size))
        cases f2 with
        | false =>
          go_wp2_with (first
            | (go_at_call 33; refine hcall.mono ?_; rintro e W5 ⟨rfl, hb⟩; have H5 : Hid (Below W2.heap.size W2 W5) := (H4.out.trans (hb.mono H4.out.size)); clear hb hcall)
            | fail)
          go_roundw
          case rel => exact ⟨3, by omega, by go_num, fun _ => HK.out.1 (by omega), fun _ => HK.out.2.1 (by omega), fun _ => rfl, H5.out⟩
          case measure => simp [intOf]
        | true =>
          go_wp2_with (first
            | (go_at_call 33; refine hcall.mono ?_; rintro e W5 ⟨rfl, hb⟩; have H5 : Hid (Below W2.heap.size W2 W5) := (H4.out.trans (hb.mono H4.out.size)); have e5 := (hb.cell (p := ⟨r4, 0, none⟩) (cell_lt c0)).trans c0; have e6 := (hb.cell (p := ⟨r4, 1, none⟩) (cell_lt c1)).trans c1; obtain ⟨-, -, -, -, h4, h5, h6, h7⟩ := HC.out W5 H5.out; clear hb hcall)
            | fail)
          obtain ⟨x0, x1⟩ := two_put h4 h5 (.int .i64 (b : Int)) (.int .i64 (c : Int))
          have hR := HR.out
          rw [if_neg (by rw [HK.out.1 (by omega)]; simp), if_neg (by rw [HK.out.2.1 (by omega)]; simp), if_pos (by rfl)] at hR
          subst hR
          refine bodyPost_ret (v := .tuple #[.agg #[.int .i64 (b : Int), .int .i64 (c : Int)], .bool true]) ?_ rfl ⟨rfl, HSC.out W5 _ _ H5.out⟩
          simp [results, Tryd.f51, go_sem, x0, x1]
    · go_wp2_with fail
      obtain ⟨x0, x1⟩ := two_put b4 b5 (.int .i64 0) (.int .i64 0)
      have hR := HR.out
      rw [if_neg (by rw [HK.out.1 (by omega)]; simp), if_neg (by rw [HK.out.2.1 (by omega)]; simp), if_neg (by rw [HK.out.2.2.1 (by omega)]; simp)] at hR
      subst hR
      refine bodyPost_ret (v := .tuple #[.agg #[.int .i64 0, .int .i64 0], .bool false]) ?_ rfl ⟨rfl, HSC.out wr _ _ HK.out.2.2.2⟩
      simp [results, Tryd.f51, go_sem, x0, x1]

end Go.Proofs.YtcciinaeplppiaaDoor
