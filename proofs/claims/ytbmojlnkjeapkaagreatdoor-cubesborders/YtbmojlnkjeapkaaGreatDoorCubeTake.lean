/- What take does: the corner and what it is the first corner of come to what was there, as far as a full square has them. -/
import Derived.Test.YtbmojlnkjeapkaaGreatDoorHeldQuiet
import Derived.Test.YtbmojlnkjeapkaaGreatDoorCubeBad
import Derived.Deep.DeepCutAuto
import Derived.Deep.RegionLaw
namespace Go.Proofs.YtbmojlnkjeapkaaGreatDoor
open Go.RowKit Go.Sort Go.Maps

/-- The parts of an image under way: behind block B the maps, the struct that holds them, and the squares. -/
structure PartsMid (W : World) (B : Nat) (C : List Sq) (E : List (Sq × Sq)) (n : List Sq) (v : Value) : Prop where
  c0 : W.cell? ⟨B + 3, 0, none⟩ = some (.map (some (B + 1)))
  c1 : W.cell? ⟨B + 3, 1, none⟩ = some (.map (some (B + 2)))
  c2 : W.cell? ⟨B + 3, 2, none⟩ = some v
  fz : W.frozen? ⟨B + 3, 2, none⟩ = false
  corners : MapIx W 59 (B + 1) (C.map keyC)
  edges : MapIx W 96 (B + 2) (E.map keyD)
  squares : SqRow (B + 4) W v n

theorem PartsMid.kept {W W' : World} {B : Nat} {C : List Sq} {E : List (Sq × Sq)} {n : List Sq} {v : Value} {row : Option Nat} (h : PartsMid W B C E n v) (hg : W.grownBy W' row) (hr : ∀ b, row = some b → W.heap.size ≤ b) : PartsMid W' B C E n v := by
  have hl := cell_lt h.c0
  have h3 : some (B + 3) ≠ row := fun e => by have := hr _ e.symm; simp only at hl; omega
  refine ⟨(far_c hg ⟨B + 3, 0, none⟩ hl h3).trans h.c0, (far_c hg ⟨B + 3, 1, none⟩ hl h3).trans h.c1, (far_c hg ⟨B + 3, 2, none⟩ hl h3).trans h.c2, (far_f hg ⟨B + 3, 2, none⟩ hl h3).trans h.fz, h.corners.kept hg (fun e => ?_), h.edges.kept hg (fun e => ?_), h.squares.keep hg (fun b hb e => ?_)⟩
  · have := hr _ e.symm; have := h.corners.lt; omega
  · have := hr _ e.symm; have := h.edges.lt; omega
  · have := hr _ e; have := h.squares.lt hb; omega
theorem PartsMid.below {W W' : World} {B : Nat} {C : List Sq} {E : List (Sq × Sq)} {n : List Sq} {v : Value} (h : PartsMid W B C E n v) (hB : Below W.heap.size W W') : PartsMid W' B C E n v := h.kept (Below.grownBy hB) (fun _ e => by cases e)
theorem PartsMid.corner {W W' : World} {B : Nat} {C C' : List Sq} {E : List (Sq × Sq)} {n : List Sq} {v : Value} (h : PartsMid W B C E n v) (hg : W.grownBy W' (some (B + 1))) (hC : MapIx W' 59 (B + 1) (C'.map keyC)) : PartsMid W' B C' E n v := by
  have hl := cell_lt h.c0
  have h3 : some (B + 3) ≠ some (B + 1) := by simp
  refine ⟨(far_c hg ⟨B + 3, 0, none⟩ hl h3).trans h.c0, (far_c hg ⟨B + 3, 1, none⟩ hl h3).trans h.c1, (far_c hg ⟨B + 3, 2, none⟩ hl h3).trans h.c2, (far_f hg ⟨B + 3, 2, none⟩ hl h3).trans h.fz, hC, h.edges.kept hg (by simp), h.squares.keep hg (fun b hb e => ?_)⟩
  have := h.squares.lt hb; simp at e; omega
theorem PartsMid.edge {W W' : World} {B : Nat} {C : List Sq} {E E' : List (Sq × Sq)} {n : List Sq} {v : Value} (h : PartsMid W B C E n v) (hg : W.grownBy W' (some (B + 2))) (hE : MapIx W' 96 (B + 2) (E'.map keyD)) : PartsMid W' B C E' n v := by
  have hl := cell_lt h.c0
  have h3 : some (B + 3) ≠ some (B + 2) := by simp
  refine ⟨(far_c hg ⟨B + 3, 0, none⟩ hl h3).trans h.c0, (far_c hg ⟨B + 3, 1, none⟩ hl h3).trans h.c1, (far_c hg ⟨B + 3, 2, none⟩ hl h3).trans h.c2, (far_f hg ⟨B + 3, 2, none⟩ hl h3).trans h.fz, h.corners.kept hg (by simp), hE, h.squares.keep hg (fun b hb e => ?_)⟩
  have := h.squares.lt hb; simp at e; omega
theorem PartsMid.square {W W1 : World} {B : Nat} {C : List Sq} {E : List (Sq × Sq)} {n k : List Sq} {v v' : Value} (h : PartsMid W B C E n v) (hg : W.grownBy W1 v.ownBlock) (ho : SqRow (B + 4) W1 v' k) : PartsMid (W1.setCell ⟨B + 3, 2, none⟩ v') B C E k v' := by
  have hl := cell_lt h.c0
  have hv : ∀ b, v.ownBlock = some b → B + 4 ≤ b := fun b hb => (h.squares.lt hb).1
  have h3 : some (B + 3) ≠ v.ownBlock := fun e => by have := hv _ e.symm; omega
  have k2 := (far_c hg ⟨B + 3, 2, none⟩ hl h3).trans h.c2
  refine ⟨?_, ?_, World.cell?_setCell_same' _ _ _ (by rw [k2]; rfl), ?_, (h.corners.kept hg (fun e => by have := hv _ e.symm; omega)).setCell (by simp) _, (h.edges.kept hg (fun e => by have := hv _ e.symm; omega)).setCell (by simp) _, ?_⟩
  · rw [World.cell?_setCell_other _ _ _ _ (by simp)]; exact (far_c hg ⟨B + 3, 0, none⟩ hl h3).trans h.c0
  · rw [World.cell?_setCell_other _ _ _ _ (by simp)]; exact (far_c hg ⟨B + 3, 1, none⟩ hl h3).trans h.c1
  · rw [World.frozen?_setCell]; exact (far_f hg ⟨B + 3, 2, none⟩ hl h3).trans h.fz
  · exact ownsRow_setCell_below ho (by simp) _

/-- A corner of an image that is not great. -/
def Near (a : Sq) : Prop := (0 ≤ a.1 ∧ a.1 ≤ 1000) ∧ (0 ≤ a.2 ∧ a.2 ≤ 1000)
theorem Near.small {a : Sq} (h : Near a) : Small a := by unfold Near at h; unfold Small; omega
theorem Near.right {a : Sq} (h : Near a) : Small (a.1 + 1, a.2) := by unfold Near at h; unfold Small; simp only; omega
theorem Near.down {a : Sq} (h : Near a) : Small (a.1, a.2 + 1) := by unfold Near at h; unfold Small; simp only; omega

/-- take under way. -/
structure TakeMid (W V : World) (B ab : Nat) (x y : Int) (C : List Sq) (E : List (Sq × Sq)) (n : List Sq) (v : Value) : Prop where
  parts : PartsMid V B C E n v
  below : Below (B + 1) W V
  x0 : V.cell? ⟨ab, 0, none⟩ = some (.int .i64 x)
  y0 : V.cell? ⟨ab, 1, none⟩ = some (.int .i64 y)

theorem grown_drew {W V : World} {row : Option Nat} (h : W.drew.grownBy V row) : W.grownBy V row := ⟨h.os, h.tape, h.output, h.size, h.block⟩

theorem TakeMid.drop {W V : World} {B ab : Nat} {x y : Int} {C : List Sq} {E : List (Sq × Sq)} {n : List Sq} {v : Value} (h : TakeMid W V B ab x y C E n v) {V' : World} (hB : Below V.heap.size V V') : TakeMid W V' B ab x y C E n v := by
  have h0 := cell_lt h.parts.c0
  have h1 := cell_lt h.x0
  simp only at h0 h1
  exact ⟨h.parts.below hB, h.below.trans (hB.mono (by omega)), (hB.cell (p := ⟨ab, 0, none⟩) h1).trans h.x0, (hB.cell (p := ⟨ab, 1, none⟩) h1).trans h.y0⟩

theorem TakeMid.corner {W V V' : World} {B ab : Nat} {x y : Int} {C C' : List Sq} {E : List (Sq × Sq)} {n : List Sq} {v : Value} (h : TakeMid W V B ab x y C E n v) (hab : B + 3 < ab) (hg : V.grownBy V' (some (B + 1))) (hC : MapIx V' 59 (B + 1) (C'.map keyC)) : TakeMid W V' B ab x y C' E n v := by
  have h0 := cell_lt h.parts.c0
  have h1 := cell_lt h.x0
  simp only at h0 h1
  exact ⟨h.parts.corner hg hC, h.below.grown hg (by omega) (fun b hb => by cases hb; omega), (far_c hg ⟨ab, 0, none⟩ h1 (by simp; omega)).trans h.x0, (far_c hg ⟨ab, 1, none⟩ h1 (by simp; omega)).trans h.y0⟩

theorem TakeMid.edge {W V V' : World} {B ab : Nat} {x y : Int} {C : List Sq} {E E' : List (Sq × Sq)} {n : List Sq} {v : Value} (h : TakeMid W V B ab x y C E n v) (hab : B + 3 < ab) (hg : V.grownBy V' (some (B + 2))) (hE : MapIx V' 96 (B + 2) (E'.map keyD)) : TakeMid W V' B ab x y C E' n v := by
  have h0 := cell_lt h.parts.c0
  have h1 := cell_lt h.x0
  simp only at h0 h1
  exact ⟨h.parts.edge hg hE, h.below.grown hg (by omega) (fun b hb => by cases hb; omega), (far_c hg ⟨ab, 0, none⟩ h1 (by simp; omega)).trans h.x0, (far_c hg ⟨ab, 1, none⟩ h1 (by simp; omega)).trans h.y0⟩

theorem two_on {B ab : Nat} {w0 W1 U V : World} {x y : Value} (hl1 : ab < W1.heap.size) (hBs : B ≤ W1.heap.size) (h2 : W1.cell? ⟨ab, 0, none⟩ = some x ∧ W1.cell? ⟨ab, 1, none⟩ = some y) (HC : Hid (Below B w0 U ∧ Below W1.heap.size W1 U)) (hV : Below U.heap.size U V) :
    Hid (Below B w0 V ∧ Below W1.heap.size W1 V) ∧ V.cell? ⟨ab, 0, none⟩ = some x ∧ V.cell? ⟨ab, 1, none⟩ = some y := by
  have h := HC.out.2.trans (hV.mono HC.out.2.size)
  refine ⟨⟨HC.out.1.trans (hV.mono ?_), h⟩, (h.cell (p := ⟨ab, 0, none⟩) hl1).trans h2.1, (h.cell (p := ⟨ab, 1, none⟩) hl1).trans h2.2⟩
  have := HC.out.2.size
  omega

set_option maxRecDepth 100000 in
set_option maxHeartbeats 4000000 in
theorem take_ (vm : Value) (m : List (List UInt8)) (w0 : World) (hm : Strs w0 vm m) (hi : Img m) (B : Nat) (hB : B = w0.heap.size) (W : World) (hW : Below B w0 W) (done : List Sq) (hdone : done.length ≤ 10000) (hnear : ∀ a ∈ done, Near a)
    (x y : Int) (hxy : Near (x, y)) (hno : (x, y) ∉ done) (v : Value) (hP : PartsMid W B (cornersL (fullAt m (wide m) m.length) done) (edgesL (fullAt m (wide m) m.length) done) (squaresL (fullAt m (wide m) m.length) done) v) :
    Calls Tryz.prog 37 #[.pointer (some ⟨B + 3, 0, none⟩), vm, cornerV (x, y)] W fun e W' => e = .returned (.tuple #[]) ∧ Below (B + 1) W W' ∧
      ∃ v', PartsMid W' B (cornersL (fullAt m (wide m) m.length) (done ++ [(x, y)])) (edgesL (fullAt m (wide m) m.length) (done ++ [(x, y)])) (squaresL (fullAt m (wide m) m.length) (done ++ [(x, y)])) v' := by
  obtain ⟨i0, hi0, hz0, hz1, hz2⟩ := info_parts Tryz.info59
  obtain ⟨f, hf⟩ : ∃ f, fullAt m (wide m) m.length = f := ⟨_, rfl⟩
  have hfull : ∀ (x' y' : Int) (V : World), Below B w0 V → (-1000000 ≤ x' ∧ x' ≤ 1000000) → (-1000000 ≤ y' ∧ y' ≤ 1000000) → Calls Tryz.prog 49 #[vm, cornerV (x', y')] V fun e w' => e = .returned (.bool (f x' y')) ∧ Below V.heap.size V w' := fun x' y' V hV hx hy => by rw [← hf]; exact full_ vm m V (hm.below (by rw [← hB]; exact hV)) hi x' y' hx hy
  have hplus : ∀ (dx dy : Int) (V : World), (-1 ≤ dx ∧ dx ≤ 1) → (-1 ≤ dy ∧ dy ≤ 1) → Calls Tryz.prog 45 #[cornerV (x, y), .int .i64 dx, .int .i64 dy] V fun e w' => e = .returned (cornerV (x + dx, y + dy)) ∧ Below V.heap.size V w' := fun dx dy V h1 h2 => plus_ x y dx dy hxy.small.1 hxy.small.2 h1 h2 V
  rw [hf] at hP ⊢
  have hx := hxy.1
  have hy := hxy.2
  simp only at hx hy
  have HP : Hid (PartsMid W B (cornersL f done) (edgesL f done) (squaresL f done) v) := hP
  have HN : Hid ((∀ a ∈ done, Near a) ∧ Near (x, y) ∧ (x, y) ∉ done ∧ done.length ≤ 10000) := ⟨hnear, hxy, hno, hdone⟩
  have HW : Hid (Below B w0 W) := hW
  have hBa : Below W.heap.size W (W.alloc (.cells #[.int .i64 x, .int .i64 y] 59)) := (Below.refl _ W).alloc (Nat.le_refl _) _
  have hlt := cell_lt hP.c0
  simp only at hlt
  have h2 := two_cells W (.int .i64 x) (.int .i64 y) 59
  unfold cornerV at hfull hplus ⊢
  clear hm hi hP hf hnear hno hdone hW hxy hB
  go_enter Tryz.func37, Tryz.ntmps37
  go_upto_region 1 with fail
  obtain ⟨W1, hW1⟩ : ∃ W1, W.alloc (.cells #[.int .i64 x, .int .i64 y] 59) = W1 := ⟨_, rfl⟩
  obtain ⟨ab, hab⟩ : ∃ ab, W.heap.size = ab := ⟨_, rfl⟩
  rw [hW1, hab] at h2
  rw [hW1] at hBa
  rw [hW1, hab]
  have hcur : Below B w0 W1 := HW.out.trans (hBa.mono (by omega))
  have hl1 : ab < W1.heap.size := by rw [← hW1, ← hab]; simp
  rw [hab] at hlt
  have HP1 : Hid (PartsMid W1 B (cornersL f done) (edgesL f done) (squaresL f done) v) := HP.out.below hBa
  have HB1 : Hid (Below (B + 1) W W1) := hBa.mono (by omega)
  clear hW1 hBa HP
  go_upto_region 2 with (go_at_call 49; refine (hfull x y _ hcur (by omega) (by omega)).mono ?_; rintro e W2 ⟨rfl, hB2⟩)
  have hBs : B ≤ W1.heap.size := by omega
  have hcur2 : Below B w0 W2.drew := (hcur.trans (hB2.mono (by omega))).drew
  have HB2 : Hid (Below W1.heap.size W1 W2.drew) := hB2.drew
  have c0 : W2.cell? ⟨ab, 0, none⟩ = some (.int .i64 x) := (hB2.cell (p := ⟨ab, 0, none⟩) hl1).trans h2.1
  have c1 : W2.cell? ⟨ab, 1, none⟩ = some (.int .i64 y) := (hB2.cell (p := ⟨ab, 1, none⟩) hl1).trans h2.2
  go_cut [7, 8] from 12 to 19 (fun s7 s8 wx => s7 = .bool (f (x - 1) y) ∧ s8 = .bool (f x (y - 1)) ∧ Hid (Below W1.heap.size W1 wx))
  case first =>
    have HC : Hid (Below B w0 W2.drew ∧ Below W1.heap.size W1 W2.drew) := ⟨hcur2, HB2.out⟩
    go_region_held3 (fun V => V.cell? ⟨ab, 0, none⟩ = some (.int .i64 x) ∧ V.cell? ⟨ab, 1, none⟩ = some (.int .i64 y)) (go_keep) (first
      | (go_at_call 45; refine (hplus _ _ _ (by decide) (by decide)).mono ?_; rintro e V ⟨rfl, hV⟩; obtain ⟨HC, k0, k1⟩ := two_on hl1 hBs h2 HC hV)
      | (go_at_call 49; refine (hfull _ _ _ HC.out.1 (by omega) (by omega)).mono ?_; rintro e V ⟨rfl, hV⟩; obtain ⟨HC, k0, k1⟩ := two_on hl1 hBs h2 HC hV))
    all_goals go_wp2_with fail
    all_goals go_meet
    all_goals exact ⟨by rw [show x - 1 = x + -1 by omega], by rw [show y - 1 = y + -1 by omega], HC.out.2⟩
  obtain ⟨rfl, rfl, HB3⟩ := hcut
  have d0 : wc.cell? ⟨ab, 0, none⟩ = some (.int .i64 x) := (HB3.out.cell (p := ⟨ab, 0, none⟩) hl1).trans h2.1
  have d1 : wc.cell? ⟨ab, 1, none⟩ = some (.int .i64 y) := (HB3.out.cell (p := ⟨ab, 1, none⟩) hl1).trans h2.2
  have hcur3 : Below B w0 wc := hcur.trans (HB3.out.mono hBs)
  clear c0 c1 HB2 hB2 hcur2
  obtain ⟨W3, hW3⟩ : ∃ W3, W3 = wc := ⟨_, rfl⟩
  subst hW3
  obtain ⟨l, hl⟩ : ∃ l, f (x - 1) y = l := ⟨_, rfl⟩
  obtain ⟨u, hu⟩ : ∃ u, f x (y - 1) = u := ⟨_, rfl⟩
  obtain ⟨h, hh⟩ : ∃ h, f x y = h := ⟨_, rfl⟩
  rw [hl, hu, hh]
  go_upto_region 3 with fail
  go_cut [32] from 20 to 32 (fun s wx => s = .bool (cornerB f (x, y)) ∧ Hid (Below W1.heap.size W1 wx))
  case first =>
    have hcb : cornerB f (x, y) = (h || l || u || f (x - 1) (y - 1)) := by unfold cornerB; simp only; rw [hh, hl, hu]
    have HCB : Hid (cornerB f (x, y) = (h || l || u || f (x - 1) (y - 1))) := hcb
    clear hcb hh hl hu
    cases h <;> cases l <;> cases u
    case false.false.false =>
      go_wp2_with (first
        | (go_at_call 45; refine (hplus (-1) (-1) _ (by decide) (by decide)).mono ?_; rintro e V ⟨rfl, hV⟩; have HV : Hid (Below W3.heap.size W3 V) := hV; clear hV)
        | (go_at_call 49; refine (hfull _ _ _ (hcur3.trans (HV.out.mono (by have := HB3.out.size; omega))) (by omega) (by omega)).mono ?_; rintro e V2 ⟨rfl, hV2⟩; have HV2 : Hid (Below W3.heap.size W3 V2) := HV.out.trans (hV2.mono HV.out.size); clear hV2)
        | fail)
      go_meet
      refine ⟨?_, HB3.out.trans (HV2.out.mono HB3.out.size)⟩
      rw [HCB.out]; simp [Int.sub_eq_add_neg]
    all_goals
      go_wp2_with fail
      go_meet
      exact ⟨by rw [HCB.out]; simp, HB3.out⟩
  obtain ⟨rfl, HB4⟩ := hcut
  have HM4 : Hid (TakeMid W wc B ab x y (cornersL f done) (edgesL f done) (squaresL f done) v) := ⟨HP1.out.below HB4.out, HB1.out.trans (HB4.out.mono (by omega)), (HB4.out.cell (p := ⟨ab, 0, none⟩) hl1).trans h2.1, (HB4.out.cell (p := ⟨ab, 1, none⟩) hl1).trans h2.2⟩
  obtain ⟨W4, hW4⟩ : ∃ W4, W4 = wc := ⟨_, rfl⟩
  subst hW4
  have HH : Hid (f x y = h ∧ f (x - 1) y = l ∧ f x (y - 1) = u) := ⟨hh, hl, hu⟩
  clear HB4 HB3 HP1 HB1 hcur hcur3 d0 d1 h2 hl1 hBs hh hl hu hfull HW
  go_upto_if 32 with fail
  go_cut [] from 32 to 38 (fun wx => Hid (TakeMid W wx B ab x y (cornersL f (done ++ [(x, y)])) (edgesL f done) (squaresL f done) v))
  case first =>
    cases hcb : cornerB f (x, y) with
    | false =>
      have HE : Hid (cornersL f (done ++ [(x, y)]) = cornersL f done) := by show _ = _; rw [cornersL_snoc, hcb]; simp
      clear hcb
      go_wp2_with fail
      go_meet
      show TakeMid _ _ _ _ _ _ _ _ _ _
      rw [HE.out]; exact HM4.out
    | true =>
      have HE : Hid (cornersL f (done ++ [(x, y)]) = cornersL f done ++ [(x, y)]) := by show _ = _; rw [cornersL_snoc, hcb]; simp
      have hnum := number_mc (B + 1) (cornersL f done) (x, y) W4.drew (HM4.out.parts.corners.below (Below.refl _ W4).drew) (Nat.le_trans (List.length_filter_le ..) (Nat.le_trans HN.out.2.2.2 (by decide))) HN.out.2.1.small (fun b hb => (HN.out.1 b (cornersL_mem hb)).small) (fun hb => HN.out.2.2.1 (cornersL_mem hb))
      unfold cornerV at hnum
      have k0 := HM4.out.x0
      have k1 := HM4.out.y0
      have k2 := HM4.out.parts.c0
      clear hcb
      go_wp2_with fail
      go_region_held3 (fun V => V.cell? ⟨ab, 0, none⟩ = some (.int .i64 x) ∧ V.cell? ⟨ab, 1, none⟩ = some (.int .i64 y) ∧ V.cell? ⟨B + 3, 0, none⟩ = some (.map (some (B + 1)))) (first | (refine ⟨?_, ?_, ?_⟩ <;> assumption) | go_keep) ((go_at_call 50; refine hnum.mono ?_; rintro e V ⟨rfl, hV, hgV⟩; have HM5 : Hid (TakeMid W V B ab x y (cornersL f done ++ [(x, y)]) (edgesL f done) (squaresL f done) v) := HM4.out.corner hlt (grown_drew hgV) hV; have l0 := HM5.out.x0; have l1 := HM5.out.y0; have l2 := HM5.out.parts.c0; clear hV hgV))
      all_goals go_wp2_with fail
      all_goals go_meet
      all_goals show TakeMid _ _ _ _ _ _ _ _ _ _
      all_goals rw [HE.out]; exact HM5.out
  have HM5 := hcut
  clear HM4 hcut
  obtain ⟨W5, hW5⟩ : ∃ W5, W5 = wc := ⟨_, rfl⟩
  subst hW5
  obtain ⟨E1, hE1⟩ : ∃ E1, edgesL f done ++ (if rightB f (x, y) then [((x, y), (x + 1, y))] else []) = E1 := ⟨_, rfl⟩
  have hrb : rightB f (x, y) = (h || u) := by unfold rightB; simp only; rw [HH.out.1, HH.out.2.2]
  have hdb : downB f (x, y) = (h || l) := by unfold downB; simp only; rw [HH.out.1, HH.out.2.1]
  have hE2 : edgesL f (done ++ [(x, y)]) = E1 ++ (if downB f (x, y) then [((x, y), (x, y + 1))] else []) := by rw [edgesL_snoc, hE1]
  have HE2 : Hid (edgesL f (done ++ [(x, y)]) = E1 ++ (if downB f (x, y) then [((x, y), (x, y + 1))] else [])) := hE2
  rw [hrb] at hE1
  have HE1 : Hid (edgesL f done ++ (if (h || u) = true then [((x, y), (x + 1, y))] else []) = E1) := hE1
  have HDB : Hid (downB f (x, y) = (h || l)) := hdb
  have HL1 : Hid ((edgesL f done).length ≤ 20000 ∧ ∀ b ∈ edgesL f done, Small b.1 ∧ Small b.2) := by
    refine ⟨?_, fun b hb => ?_⟩
    · have h1 : (edgesL f done).length ≤ 2 * done.length := by
        rw [edgesL_len]; unfold edgesN
        have := List.countP_le_length (p := rightB f) (l := done)
        have := List.countP_le_length (p := downB f) (l := done)
        omega
      have := HN.out.2.2.2
      omega
    · have h1 := edgesL_mem hb
      have h3 := HN.out.1 b.1 h1.1
      refine ⟨h3.small, ?_⟩
      rcases h1.2 with e | e
      · rw [e]; exact h3.right
      · rw [e]; exact h3.down
  clear hrb hdb hE2 hE1
  go_upto_region 5 with fail
  go_cut [42] from 39 to 42 (fun s wx => s = .bool (h || u) ∧ W5 = wx)
  case first =>
    cases h <;> cases u
    all_goals
      go_wp2_with fail
      go_meet
      exact ⟨rfl, rfl⟩
  obtain ⟨rfl, hwx⟩ := hcut
  subst hwx
  go_upto_if 42 with fail
  go_cut [] from 42 to 51 (fun wx => Hid (TakeMid W wx B ab x y (cornersL f (done ++ [(x, y)])) E1 (squaresL f done) v))
  case first =>
    cases hcb : (h || u) with
    | false =>
      have HE : Hid (E1 = edgesL f done) := by show _ = _; rw [← HE1.out, hcb]; simp
      clear hcb
      go_wp2_with fail
      go_meet
      show TakeMid _ _ _ _ _ _ _ _ _ _
      rw [HE.out]; exact HM5.out
    | true =>
      have HE : Hid (E1 = edgesL f done ++ [((x, y), (x + 1, y))]) := by show _ = _; rw [← HE1.out, hcb]; simp
      have hpl := hplus 1 0 W5.drew (by decide) (by decide)
      have k0 := HM5.out.x0
      have k1 := HM5.out.y0
      have k2 := HM5.out.parts.c1
      clear hcb
      go_wp2_with fail
      go_region_held3 (fun V => V.cell? ⟨ab, 0, none⟩ = some (.int .i64 x) ∧ V.cell? ⟨ab, 1, none⟩ = some (.int .i64 y) ∧ V.cell? ⟨B + 3, 1, none⟩ = some (.map (some (B + 2)))) (first | (refine ⟨?_, ?_, ?_⟩ <;> assumption) | go_keep) (first
        | (go_at_call 45; refine hpl.mono ?_; rintro e V ⟨rfl, hV⟩; have HM6 : Hid (TakeMid W V B ab x y (cornersL f (done ++ [(x, y)])) (edgesL f done) (squaresL f done) v) := (HM5.out.drop (Below.refl _ W5).drew).drop hV; have l0 := HM6.out.x0; have l1 := HM6.out.y0; have l2 := HM6.out.parts.c1; clear hV)
        | (go_at_call 51; refine (number_me (B + 2) (edgesL f done) (x, y) (x + 1, y) _ HM6.out.parts.edges (Nat.le_trans HL1.out.1 (by decide)) HN.out.2.1.small HN.out.2.1.right HL1.out.2 (fun hb => HN.out.2.2.1 (edgesL_mem hb).1)).mono ?_; rintro e V2 ⟨rfl, hV2, hgV2⟩; have HM7 : Hid (TakeMid W V2 B ab x y (cornersL f (done ++ [(x, y)])) (edgesL f done ++ [((x, y), (x + 1, y))]) (squaresL f done) v) := HM6.out.edge hlt hgV2 hV2; have l0 := HM7.out.x0; have l1 := HM7.out.y0; have l2 := HM7.out.parts.c1; clear hV2 hgV2))
      all_goals go_wp2_with fail
      all_goals go_meet
      all_goals show TakeMid _ _ _ _ _ _ _ _ _ _
      all_goals rw [HE.out]; exact HM7.out
  have HM6 := hcut
  clear HM5 hcut
  obtain ⟨W6, hW6⟩ : ∃ W6, W6 = wc := ⟨_, rfl⟩
  subst hW6
  have HL2 : Hid (E1.length ≤ 20001 ∧ (∀ b ∈ E1, Small b.1 ∧ Small b.2) ∧ ((x, y), (x, y + 1)) ∉ E1) := by
    rw [← HE1.out]
    refine ⟨?_, fun b hb => ?_, fun hb => ?_⟩
    · have := HL1.out.1
      rw [List.length_append]
      split <;> simp <;> omega
    · rcases List.mem_append.1 hb with hb | hb
      · exact HL1.out.2 b hb
      · split at hb
        · cases List.mem_singleton.1 hb; exact ⟨HN.out.2.1.small, HN.out.2.1.right⟩
        · cases hb
    · rcases List.mem_append.1 hb with hb | hb
      · exact HN.out.2.2.1 (edgesL_mem hb).1
      · split at hb
        · have := List.mem_singleton.1 hb
          simp at this
          omega
        · cases hb
  go_upto_region 7 with fail
  go_cut [55] from 52 to 55 (fun s wx => s = .bool (h || l) ∧ W6 = wx)
  case first =>
    cases h <;> cases l
    all_goals
      go_wp2_with fail
      go_meet
      exact ⟨rfl, rfl⟩
  obtain ⟨rfl, hwx⟩ := hcut
  subst hwx
  go_upto_if 55 with fail
  go_cut [] from 55 to 64 (fun wx => Hid (TakeMid W wx B ab x y (cornersL f (done ++ [(x, y)])) (edgesL f (done ++ [(x, y)])) (squaresL f done) v))
  case first =>
    cases hcb : (h || l) with
    | false =>
      have HE : Hid (edgesL f (done ++ [(x, y)]) = E1) := by show _ = _; rw [HE2.out, HDB.out, hcb]; simp
      clear hcb
      go_wp2_with fail
      go_meet
      show TakeMid _ _ _ _ _ _ _ _ _ _
      rw [HE.out]; exact HM6.out
    | true =>
      have HE : Hid (edgesL f (done ++ [(x, y)]) = E1 ++ [((x, y), (x, y + 1))]) := by show _ = _; rw [HE2.out, HDB.out, hcb]; simp
      have hpl := hplus 0 1 W6.drew (by decide) (by decide)
      have k0 := HM6.out.x0
      have k1 := HM6.out.y0
      have k2 := HM6.out.parts.c1
      clear hcb
      go_wp2_with fail
      go_region_held3 (fun V => V.cell? ⟨ab, 0, none⟩ = some (.int .i64 x) ∧ V.cell? ⟨ab, 1, none⟩ = some (.int .i64 y) ∧ V.cell? ⟨B + 3, 1, none⟩ = some (.map (some (B + 2)))) (first | (refine ⟨?_, ?_, ?_⟩ <;> assumption) | go_keep) (first
        | (go_at_call 45; refine hpl.mono ?_; rintro e V ⟨rfl, hV⟩; have HM7 : Hid (TakeMid W V B ab x y (cornersL f (done ++ [(x, y)])) E1 (squaresL f done) v) := (HM6.out.drop (Below.refl _ W6).drew).drop hV; have l0 := HM7.out.x0; have l1 := HM7.out.y0; have l2 := HM7.out.parts.c1; clear hV)
        | (go_at_call 51; refine (number_me (B + 2) E1 (x, y) (x, y + 1) _ HM7.out.parts.edges (Nat.le_trans HL2.out.1 (by decide)) HN.out.2.1.small HN.out.2.1.down HL2.out.2.1 HL2.out.2.2).mono ?_; rintro e V2 ⟨rfl, hV2, hgV2⟩; have HM8 : Hid (TakeMid W V2 B ab x y (cornersL f (done ++ [(x, y)])) (E1 ++ [((x, y), (x, y + 1))]) (squaresL f done) v) := HM7.out.edge hlt hgV2 hV2; have l0 := HM8.out.x0; have l1 := HM8.out.y0; have l2 := HM8.out.parts.c1; clear hV2 hgV2))
      all_goals go_wp2_with fail
      all_goals go_meet
      all_goals show TakeMid _ _ _ _ _ _ _ _ _ _
      all_goals rw [HE.out]; exact HM8.out
  have HM7 := hcut
  clear HM6 hcut
  obtain ⟨W7, hW7⟩ : ∃ W7, W7 = wc := ⟨_, rfl⟩
  subst hW7
  cases h with
  | false =>
    have HE : Hid (squaresL f (done ++ [(x, y)]) = squaresL f done) := by
      show squaresL f (done ++ [(x, y)]) = squaresL f done
      rw [squaresL_snoc, if_neg (by unfold hereB; simp only; rw [HH.out.1]; simp), List.append_nil]
    go_wp2_with fail
    refine bodyPost_end (v := .tuple #[]) ?_ rfl ⟨rfl, HM7.out.below, v, by rw [HE.out]; exact HM7.out.parts⟩
    simp [results, Tryz.f37, go_sem]
  | true =>
    have HE : Hid (squaresL f (done ++ [(x, y)]) = squaresL f done ++ [(x, y)]) := by
      show squaresL f (done ++ [(x, y)]) = squaresL f done ++ [(x, y)]
      rw [squaresL_snoc, if_pos (by unfold hereB; exact HH.out.1)]
    have hnle0 : (squaresL f done).length ≤ 10000 := by
      have h1 : (squaresL f done).length ≤ done.length := List.length_filter_le ..
      have := HN.out.2.2.2
      omega
    obtain ⟨SL, hSL⟩ : ∃ SL, squaresL f done = SL := ⟨_, rfl⟩
    rw [hSL] at HM7 HE hnle0
    have hrow : W7.ownsRow (B + 4) 59 2 v SL.length (sqCells SL) := HM7.out.parts.squares
    obtain ⟨n, hn⟩ : ∃ n, SL.length = n := ⟨_, rfl⟩
    have HNL : Hid (SL.length = n) := hn
    obtain ⟨xs, hxs⟩ : ∃ xs, sqCells SL = xs := ⟨_, rfl⟩
    have HXS : Hid (sqCells SL = xs) := hxs
    rw [hn, hxs] at hrow
    have hnle : n ≤ 10000 := by omega
    obtain ⟨av, cv, rfl⟩ := own_slice hrow
    clear hSL hxs hnle0
    have hrowd : (W7.alloc (.cells #[.int .i64 x, .int .i64 y] 59)).ownsRow (B + 4) 59 2 (.slice av n cv) n xs := hrow.alloc _
    have k0 := HM7.out.x0
    have k1 := HM7.out.y0
    have k2 := HM7.out.parts.c2
    have k3 := HM7.out.parts.fz
    have hl7 : B + 4 ≤ W7.heap.size := by have := cell_lt k2; simp only at this; omega
    have HB7 : Hid (∀ b, (Value.slice av n cv).ownBlock = some b → B + 4 ≤ b) := fun b hb => (HM7.out.parts.squares.lt hb).1
    have k2a : ∀ o, (W7.alloc o).cell? ⟨B + 3, 2, none⟩ = some (.slice av n cv) := fun o => (World.cell?_alloc_lt W7 o ⟨B + 3, 2, none⟩ (show B + 3 < W7.heap.size by omega)).trans k2
    clear hn hrow
    go_wp2_with fail
    go_region_law (refine step_append_wide (by rfl) (.tmp 70) (.tmp 72) 54 (by rfl) (B + 4) 59 i0 (.agg #[.int .i64 0, .int .i64 0]) 2 16 Tryz.underlying54 hi0 hz0 hz1 hz2 (by rfl) (by decide) (.slice av n cv) n xs (by simp [Act.eval]) hrowd ⟨W7.heap.size, 0, none⟩ 1 1 [.int .i64 x, .int .i64 y] (by simp [Act.eval]) (by rfl) (cells_new W7 [.int .i64 x, .int .i64 y] 59) (by simp [Value.oneCell']) (by unfold maxLen; omega) (by omega) (by simp; omega) ?_; intro v9 w9 hown9 hg9 hl9; obtain ⟨a9, c9, rfl⟩ := own_slice hown9; have hgg : W7.grownBy w9 (Value.slice av n cv).ownBlock := (World.grownBy_alloc W7 (.cells #[.int .i64 x, .int .i64 y] 59) (Value.slice av n cv).ownBlock).trans ⟨hg9.os, hg9.tape, hg9.output, hg9.size, hg9.block⟩; have HG9 : Hid (W7.grownBy w9 (Value.slice av n cv).ownBlock) := hgg; have q2 : w9.cell? ⟨B + 3, 2, none⟩ = some (.slice av n cv) := (far_c HG9.out ⟨B + 3, 2, none⟩ (by simp only; omega) (fun e => by have := HB7.out _ e.symm; simp only at this; omega)).trans k2; have q3 : w9.frozen? ⟨B + 3, 2, none⟩ = false := (far_f HG9.out ⟨B + 3, 2, none⟩ (by simp only; omega) (fun e => by have := HB7.out _ e.symm; simp only at this; omega)).trans k3; have HO9 : Hid (SqRow (B + 4) w9 (.slice a9 (n + 1) c9) (SL ++ [(x, y)])) := (by unfold SqRow; rw [sqCells_snoc, List.length_append, HNL.out, HXS.out]; exact hown9); clear hown9 hg9 hl9 hgg)
    all_goals go_wp2_with fail
    all_goals refine bodyPost_end (v := .tuple #[]) ?_ rfl ⟨rfl, (HM7.out.below.grown HG9.out (by omega) (fun b hb => by have := HB7.out b hb; omega)).setCell (by simp) _, _, by rw [HE.out]; exact HM7.out.parts.square HG9.out HO9.out⟩
    all_goals simp [results, Tryz.f37, go_sem]

end Go.Proofs.YtbmojlnkjeapkaaGreatDoor
