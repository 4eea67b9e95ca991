/- How many products of classes are new: the program's count. -/
import Derived.Test.YtldknhganoiajaaGreatDoorRegionGrow
namespace Go.Proofs.YtldknhganoiajaaGreatDoor
open Go.RowKit Go.Sort Go.Maps Go.Deep

/-- A sorter and what multiplies, in a world. -/
structure TwoAt (all : List (List Int)) (i k : Nat) (W : World) (base bx g1 K p0 p1 p2 g2 g3 : Nat) (T : Tb) : Prop where
  box : W.cell? ⟨bx, 0, none⟩ = some (.map (some g1))
  tab : TbAt W base g1 (nD all (i + k)) K T
  ends : EndsAt base (nD all (i + k)) W p0 p1 p2 g2 g3 (fun x => if x < nD all (i + k) then fstN all i k x else 0) (fun x => if x < nD all (i + k) then lstN all i k x else 0)
  bas : base ≤ g1
  low : base ≤ W.heap.size
theorem TwoAt.sorted {all : List (List Int)} {i k : Nat} {W W' : World} {base bx g1 K p0 p1 p2 g2 g3 : Nat} {T : Tb} (h : TwoAt all i k W base bx g1 K p0 p1 p2 g2 g3 T) {T' : Tb} {K' : Nat} (ht : TbAt W' base g1 (nD all (i + k)) K' T') (hg : W.grownBy W' (some g1)) : TwoAt all i k W' base bx g1 K' p0 p1 p2 g2 g3 T' := by
  refine ⟨?_, ht, h.ends.past h.tab hg, h.bas, Nat.le_trans h.low hg.size⟩
  obtain ⟨D, ⟨es, clock, h9, -⟩, -⟩ := h.tab
  rw [World.cell?_of_block (hg.block bx (cell_lt h.box) (fun e => by
    cases e
    have := h.box
    simp [World.cell?, h9] at this))]
  exact h.box
theorem TwoAt.below {all : List (List Int)} {i k : Nat} {W W' : World} {base bx g1 K p0 p1 p2 g2 g3 : Nat} {T : Tb} (h : TwoAt all i k W base bx g1 K p0 p1 p2 g2 g3 T) (hB : Below W.heap.size W W') : TwoAt all i k W' base bx g1 K p0 p1 p2 g2 g3 T :=
  ⟨(hB.cell (p := ⟨bx, 0, none⟩) (cell_lt h.box)).trans h.box, h.tab.later hB, h.ends.below hB, h.bas, Nat.le_trans h.low hB.size⟩

def SortK (all : List (List Int)) (m A : Nat) (w : World) (v : Value) : Prop :=
  ∃ bx g1 K, v = .func (.func 77) #[] #[.pointer (some ⟨bx, 0, none⟩)] ∧ w.cell? ⟨bx, 0, none⟩ = some (.map (some g1)) ∧ TbAt w A g1 (nD all m) K (fedB (rowsD all m)) ∧ K ≤ 1000 ∧ A ≤ g1
def CupK (all : List (List Int)) (i k A : Nat) (w : World) (v : Value) : Prop :=
  ∃ p0 p1 p2 g2 g3, v = .func (.func 63) #[] #[.pointer (some ⟨p0, 0, none⟩), .pointer (some ⟨p1, 0, none⟩), .pointer (some ⟨p2, 0, none⟩)] ∧ EndsAt A (nD all (i + k)) w p0 p1 p2 g2 g3 (fun x => if x < nD all (i + k) then fstN all i k x else 0) (fun x => if x < nD all (i + k) then lstN all i k x else 0)
theorem SortK.below {all : List (List Int)} {m A : Nat} {w w' : World} {v : Value} (h : SortK all m A w v) (hB : Below w.heap.size w w') : SortK all m A w' v := by
  obtain ⟨bx, g1, K, h1, h2, h3, h4⟩ := h
  exact ⟨bx, g1, K, h1, (hB.cell (p := ⟨bx, 0, none⟩) (cell_lt h2)).trans h2, h3.later hB, h4⟩
theorem CupK.below {all : List (List Int)} {i k A : Nat} {w w' : World} {v : Value} (h : CupK all i k A w v) (hB : Below w.heap.size w w') : CupK all i k A w' v := by
  obtain ⟨p0, p1, p2, g2, g3, h1, h2⟩ := h
  exact ⟨p0, p1, p2, g2, g3, h1, h2.below hB⟩
theorem TbAt.lower {W : World} {base base' g n N : Nat} {B : Tb} (h : TbAt W base g n N B) (hb : base' ≤ base) : TbAt W base' g n N B := by
  obtain ⟨D, h1, h2, h3⟩ := h
  refine ⟨D, h1, h2, fun k y hk => ?_⟩
  obtain ⟨q1, u, q2, q3⟩ := h3 k y hk
  exact ⟨q1, u, q2, q3.mono (fun b _ hs => Nat.le_trans hb hs)⟩
theorem EndsAt.lower {B B' n : Nat} {W : World} {p0 p1 p2 g1 g2 : Nat} {f1 f2 : Nat → Nat} (h : EndsAt B n W p0 p1 p2 g1 g2 f1 f2) (hb : B' ≤ B) : EndsAt B' n W p0 p1 p2 g1 g2 f1 f2 :=
  ⟨h.c0, h.c1, h.c2, h.r1, h.r2, h.dis, Nat.le_trans hb h.base.1, Nat.le_trans hb h.base.2⟩
def dstR (i : Nat) : Nat := if i < 9 then 16 + i else i
theorem dstR_inj (i j : Nat) (hi : i < 11) (hj : j < 11) (h : dstR i = dstR j) : i = j := by
  unfold dstR at h
  split at h <;> split at h <;> omega
theorem dstR_lt (i : Nat) (h : i < 11) : dstR i < 25 := by unfold dstR; split <;> omega
theorem dstR_ge (i : Nat) (h : i < 11) : 9 ≤ dstR i := by unfold dstR; split <;> omega
/-- What the slots of the drawn region hold. -/
def spR (all : List (List Int)) (i k A : Nat) (aF : Option Addr) (cF T g : Nat) (j : Nat) (w : World) (v : Value) : Prop := match j with
  | 0 => v = .agg #[.slice aF T cF, .map (some g)]
  | 1 => v = .int .i64 (i : Int)
  | 2 => v = .int .i64 (k : Int)
  | 3 => v = .int .i64 ((i : Int) + (k : Int))
  | 4 => SortK all (i + k) A w v
  | 5 => v = .agg #[.slice aF T cF, .map (some g)]
  | 6 => v = .int .i64 (i : Int)
  | 7 => v = .int .i64 (k : Int)
  | 8 => CupK all i k A w v
  | 9 => SortK all (i + k) A w v
  | _ => CupK all i k A w v
theorem spR_below {all : List (List Int)} {i k A : Nat} {aF : Option Addr} {cF T g : Nat} : ∀ (j : Nat) (w w' : World) (v : Value), j < 11 → Below w.heap.size w w' → spR all i k A aF cF T g j w v → spR all i k A aF cF T g j w' v := by
  intro j w w' v hi hB h
  match j, hi with
  | 0, _ | 1, _ | 2, _ | 3, _ | 5, _ | 6, _ | 7, _ => exact h
  | 4, _ | 9, _ => exact SortK.below h hB
  | 8, _ | 10, _ => exact CupK.below h hB
  | q + 11, hq => exact absurd hq (by omega)

set_option maxRecDepth 100000 in
set_option maxHeartbeats 8000000 in
theorem products_ {l all : List (List Int)} (hg : Good l all) (h60 : all.length ≤ 60) (i k n : Nat) (hn : n ≤ 100) (hik : i + k < n) (v vc : Value) (w : World) (h : ShapeAt w v all) (hT : TabOk w) (hc : ClsR w vc n all) :
    Calls Tryz.prog 19 #[v, .int .i64 (i : Int), .int .i64 (k : Int), vc] w fun e w' => e = .returned (.int .i64 ((cntB (fedB (rowsD all (i + k))) (prodL all i k (clsP all i) (clsP all k)) : Nat) : Int)) ∧ Below w.heap.size w w' := by
  have hn6 := cnt60 h60 (i + k)
  obtain ⟨vF, g, rfl, ⟨aF, cF, rfl⟩, hB1, hz1, hS⟩ := shape_box h
  obtain ⟨W1, hW1⟩ : ∃ W1, w.alloc (.cells #[.slice aF (topN all) cF, .map (some g)] 46) = W1 := ⟨_, rfl⟩
  have HW1 := Hid.mk' hW1
  rw [hW1] at hB1 hz1 hS
  have HS := Hid.mk' hS
  have HB1 := Hid.mk' hB1
  have HZ1 := Hid.mk' hz1
  have HT := Hid.mk' hT
  have HTB : Hid (∀ V, Below (w.heap.size + 1) W1 V → TabOk V) := fun V hV => HT.out.below (HB1.out.trans (hV.mono (by omega)))
  have HC1 : Hid (∀ V, Below (w.heap.size + 1) W1 V → Calls Tryz.prog 35 #[.agg #[.slice aF (topN all) cF, .map (some g)], .int .i64 ((i : Int) + (k : Int))] V fun e w' => ∃ f, e = .returned f ∧ SorterAt w' V.heap.size (nD all (i + k)) f (fedB (rowsD all (i + k))) ∧ Below V.heap.size V w') := fun V hV => sorterOf_ hg h60 (i + k) (by omega) _ V (HS.out V hV).1 (HTB.out V hV)
  have HC2 : Hid (∀ V, Below (w.heap.size + 1) W1 V → Calls Tryz.prog 38 #[.agg #[.slice aF (topN all) cF, .map (some g)], .int .i64 (i : Int), .int .i64 (k : Int)] V fun e w' => CupSaysF all i k V e w') := fun V hV => cup_ hg h60 _ i k (by omega) (by omega) V (HS.out V hV).1
  have HRL := Hid.mk' (rowsD_lt all (i + k) (show (ofDim all ((i + k : Nat) : Int)).length ≤ 64 by unfold nD at hn6; omega))
  have HG := Hid.mk' (And.intro hg h60)
  obtain ⟨ac, cc, rfl, hx⟩ := hc.open_
  obtain ⟨bc, oc, rfl, hbc, hcx⟩ := hx (by omega)
  have HCX := Hid.mk' hcx
  have HBC := Hid.mk' hbc
  obtain ⟨T, hTT⟩ : ∃ T, topN all = T := ⟨_, rfl⟩
  rw [hTT] at HW1 HS HC1 HC2 ⊢
  clear h hS hTT hW1 hB1 hz1 hg h60 hT hx hcx hc hbc
  obtain ⟨Z, hZ⟩ : ∃ Z, cntB (fedB (rowsD all (i + k))) (prodL all i k (clsP all i) (clsP all k)) = Z := ⟨_, rfl⟩
  have HZZ := Hid.mk' hZ
  rw [hZ]
  clear hZ
  go_enter Tryz.func19, Tryz.ntmps19
  go_upto_region 1 with fail
  rw [HW1.out]
  have hb0 : Below (w.heap.size + 1) W1 W1 := Below.refl _ _
  have HV0 : Hid (Below (w.heap.size + 1) W1 W1 ∧ Below W1.heap.size W1 W1) := ⟨hb0, Below.refl _ _⟩
  have b0 := (HS.out W1 hb0).2.1
  have b1 := (HS.out W1 hb0).2.2.1
  clear hb0
  have hwrap : IntKind.i64.wrap ((i : Int) + (k : Int)) = (i : Int) + (k : Int) := by simp [IntKind.wrap, IntKind.signed, IntKind.bits]; omega
  -- REGION
  refine region_grow0 (by kernel_rfl) 10 rfl dstR (spR all i k W1.heap.size aF cF T g) dstR_inj (fun i hi => by have := dstR_lt i hi; simp; omega) spR_below (by decide +kernel) (fun j hj L a w9 hG hed => ?_) (fun L a w9 hG hall => ?_)
  · have hB9 : Below (w.heap.size + 1) W1 w9 := hG.bel.mono (by have := HZ1.out; omega)
    have b0 := (HS.out w9 hB9).2.1
    have b1 := (HS.out w9 hB9).2.2.1
    have y1 : a.tmps[1]? = some (.int .i64 (i : Int)) := (hG.oth 1 (fun i hi => by have := dstR_ge i hi; omega)).trans rfl
    have y2 : a.tmps[2]? = some (.int .i64 (k : Int)) := (hG.oth 2 (fun i hi => by have := dstR_ge i hi; omega)).trans rfl
    have y4 : a.tmps[4]? = some (.pointer (some ⟨w.heap.size, 0, none⟩)) := (hG.oth 4 (fun i hi => by have := dstR_ge i hi; omega)).trans rfl
    have hv : ∀ q, q < 11 → q ∈ edgesOf _ j → ∃ v, a.tmps[dstR q]? = some v ∧ spR all i k W1.heap.size aF cF T g q w9 v := fun q hq hq2 => hG.val q hq (hed q hq2)
    match j, hj with
    | 0, _ => exact op_value rfl rfl (by unfold execOp; simp [go_sem, Act.eval, y4, b0, b1]) ⟨_, rfl, rfl, Below.refl _ _⟩
    | 1, _ => exact op_value rfl rfl (by unfold execOp; simp [go_sem, Act.eval, y1]) ⟨_, rfl, rfl, Below.refl _ _⟩
    | 2, _ => exact op_value rfl rfl (by unfold execOp; simp [go_sem, Act.eval, y2]) ⟨_, rfl, rfl, Below.refl _ _⟩
    | 3, _ =>
      obtain ⟨v1, e1, h1⟩ := hv 1 (by omega) (by decide +kernel)
      have z1 : a.tmps[17]? = some v1 := e1
      obtain rfl : v1 = _ := h1
      obtain ⟨v2, e2, h2⟩ := hv 2 (by omega) (by decide +kernel)
      have z2 : a.tmps[18]? = some v2 := e2
      obtain rfl : v2 = _ := h2
      exact op_value rfl rfl (by unfold execOp; simp [go_sem, Act.eval, z1, z2, hwrap]) ⟨_, rfl, rfl, Below.refl _ _⟩
    | 4, _ =>
      obtain ⟨v0, e0, h0⟩ := hv 0 (by omega) (by decide +kernel)
      have z0 : a.tmps[16]? = some v0 := e0
      obtain rfl : v0 = _ := h0
      obtain ⟨v3, e3, h3⟩ := hv 3 (by omega) (by decide +kernel)
      have z3 : a.tmps[19]? = some v3 := e3
      obtain rfl : v3 = _ := h3
      refine op_call rfl rfl (by unfold execOp; simp [go_sem, Act.eval, z0, z3]) _ (HC1.out w9 hB9) fun e w' hh => ?_
      obtain ⟨f, rfl, ⟨bx, g1, K, rfl, hx1, hx2, hx3, hx4, hx5⟩, hb⟩ := hh
      exact ⟨_, rfl, _, rfl, ⟨bx, g1, K, rfl, hx1, hx2.lower hG.bel.size, hx3, Nat.le_trans hG.bel.size hx5⟩, hb⟩
    | 5, _ => exact op_value rfl rfl (by unfold execOp; simp [go_sem, Act.eval, y4, b0, b1]) ⟨_, rfl, rfl, Below.refl _ _⟩
    | 6, _ => exact op_value rfl rfl (by unfold execOp; simp [go_sem, Act.eval, y1]) ⟨_, rfl, rfl, Below.refl _ _⟩
    | 7, _ => exact op_value rfl rfl (by unfold execOp; simp [go_sem, Act.eval, y2]) ⟨_, rfl, rfl, Below.refl _ _⟩
    | 8, _ =>
      obtain ⟨v5, e5, h5⟩ := hv 5 (by omega) (by decide +kernel)
      have z5 : a.tmps[21]? = some v5 := e5
      obtain rfl : v5 = _ := h5
      obtain ⟨v6, e6, h6⟩ := hv 6 (by omega) (by decide +kernel)
      have z6 : a.tmps[22]? = some v6 := e6
      obtain rfl : v6 = _ := h6
      obtain ⟨v7, e7, h7⟩ := hv 7 (by omega) (by decide +kernel)
      have z7 : a.tmps[23]? = some v7 := e7
      obtain rfl : v7 = _ := h7
      refine op_call rfl rfl (by unfold execOp; simp [go_sem, Act.eval, z5, z6, z7]) _ (HC2.out w9 hB9) fun e w' hh => ?_
      obtain ⟨p0, p1, p2, g2, g3, rfl, hx1, hb⟩ := hh
      exact ⟨_, rfl, _, rfl, ⟨p0, p1, p2, g2, g3, rfl, hx1.lower hG.bel.size⟩, hb⟩
    | 9, _ =>
      obtain ⟨v4, e4, h4⟩ := hv 4 (by omega) (by decide +kernel)
      have z4 : a.tmps[20]? = some v4 := e4
      exact op_value rfl rfl (by unfold execOp; simp [go_sem, Act.eval, z4]) ⟨_, rfl, h4, Below.refl _ _⟩
    | 10, _ =>
      obtain ⟨v8, e8, h8⟩ := hv 8 (by omega) (by decide +kernel)
      have z8 : a.tmps[24]? = some v8 := e8
      exact op_value rfl rfl (by unfold execOp; simp [go_sem, Act.eval, z8]) ⟨_, rfl, h8, Below.refl _ _⟩
    | q + 11, hq => exact absurd hq (by omega)
  · skip
    obtain ⟨v0, e0, h0⟩ := hall 0 (by omega)
    obtain ⟨v1, e1, h1⟩ := hall 1 (by omega)
    obtain ⟨v2, e2, h2⟩ := hall 2 (by omega)
    obtain ⟨v3, e3, h3⟩ := hall 3 (by omega)
    obtain ⟨v4, e4, h4⟩ := hall 4 (by omega)
    obtain ⟨v5, e5, h5⟩ := hall 5 (by omega)
    obtain ⟨v6, e6, h6⟩ := hall 6 (by omega)
    obtain ⟨v7, e7, h7⟩ := hall 7 (by omega)
    obtain ⟨v8, e8, h8⟩ := hall 8 (by omega)
    obtain ⟨v9, e9, h9⟩ := hall 9 (by omega)
    obtain ⟨v10, e10, h10⟩ := hall 10 (by omega)
    obtain rfl : v0 = _ := h0
    obtain rfl : v1 = _ := h1
    obtain rfl : v2 = _ := h2
    obtain rfl : v3 = _ := h3
    obtain rfl : v5 = _ := h5
    obtain rfl : v6 = _ := h6
    obtain rfl : v7 = _ := h7
    have ha : a = ⟨#[.agg #[.slice aF T cF, .map (some g)], .int .i64 (i : Int), .int .i64 (k : Int), .slice (some ⟨bc, oc, none⟩) n cc, .pointer (some ⟨w.heap.size, 0, none⟩), undef, undef, undef, .int .i64 0, v9, v10, undef, undef, undef, undef, undef, .agg #[.slice aF T cF, .map (some g)], .int .i64 (i : Int), .int .i64 (k : Int), .int .i64 ((i : Int) + (k : Int)), v4, .agg #[.slice aF T cF, .map (some g)], .int .i64 (i : Int), .int .i64 (k : Int), v8, undef, undef, undef, undef, undef, undef, undef, undef, undef, undef, undef, undef, undef, undef, undef, undef, undef, undef, undef, undef, undef, undef, undef, undef, undef, undef, undef, undef, undef, undef, undef, undef, undef, undef, undef, undef, undef, undef, undef, undef, undef], []⟩ := by
      refine act_eq (l := [.agg #[.slice aF T cF, .map (some g)], .int .i64 (i : Int), .int .i64 (k : Int), .slice (some ⟨bc, oc, none⟩) n cc, .pointer (some ⟨w.heap.size, 0, none⟩), undef, undef, undef, .int .i64 0, v9, v10, undef, undef, undef, undef, undef, .agg #[.slice aF T cF, .map (some g)], .int .i64 (i : Int), .int .i64 (k : Int), .int .i64 ((i : Int) + (k : Int)), v4, .agg #[.slice aF T cF, .map (some g)], .int .i64 (i : Int), .int .i64 (k : Int), v8, undef, undef, undef, undef, undef, undef, undef, undef, undef, undef, undef, undef, undef, undef, undef, undef, undef, undef, undef, undef, undef, undef, undef, undef, undef, undef, undef, undef, undef, undef, undef, undef, undef, undef, undef, undef, undef, undef, undef, undef, undef]) (by rw [hG.asz]; rfl) (fun q hq => ?_) hG.dfr
      match q, hq with
      | 0, _ => exact (hG.oth 0 (fun i hi => by unfold dstR; split <;> omega)).trans rfl
      | 1, _ => exact (hG.oth 1 (fun i hi => by unfold dstR; split <;> omega)).trans rfl
      | 2, _ => exact (hG.oth 2 (fun i hi => by unfold dstR; split <;> omega)).trans rfl
      | 3, _ => exact (hG.oth 3 (fun i hi => by unfold dstR; split <;> omega)).trans rfl
      | 4, _ => exact (hG.oth 4 (fun i hi => by unfold dstR; split <;> omega)).trans rfl
      | 5, _ => exact (hG.oth 5 (fun i hi => by unfold dstR; split <;> omega)).trans rfl
      | 6, _ => exact (hG.oth 6 (fun i hi => by unfold dstR; split <;> omega)).trans rfl
      | 7, _ => exact (hG.oth 7 (fun i hi => by unfold dstR; split <;> omega)).trans rfl
      | 8, _ => exact (hG.oth 8 (fun i hi => by unfold dstR; split <;> omega)).trans rfl
      | 9, _ => exact e9
      | 10, _ => exact e10
      | 11, _ => exact (hG.oth 11 (fun i hi => by unfold dstR; split <;> omega)).trans rfl
      | 12, _ => exact (hG.oth 12 (fun i hi => by unfold dstR; split <;> omega)).trans rfl
      | 13, _ => exact (hG.oth 13 (fun i hi => by unfold dstR; split <;> omega)).trans rfl
      | 14, _ => exact (hG.oth 14 (fun i hi => by unfold dstR; split <;> omega)).trans rfl
      | 15, _ => exact (hG.oth 15 (fun i hi => by unfold dstR; split <;> omega)).trans rfl
      | 16, _ => exact e0
      | 17, _ => exact e1
      | 18, _ => exact e2
      | 19, _ => exact e3
      | 20, _ => exact e4
      | 21, _ => exact e5
      | 22, _ => exact e6
      | 23, _ => exact e7
      | 24, _ => exact e8
      | 25, _ => exact (hG.oth 25 (fun i hi => by unfold dstR; split <;> omega)).trans rfl
      | 26, _ => exact (hG.oth 26 (fun i hi => by unfold dstR; split <;> omega)).trans rfl
      | 27, _ => exact (hG.oth 27 (fun i hi => by unfold dstR; split <;> omega)).trans rfl
      | 28, _ => exact (hG.oth 28 (fun i hi => by unfold dstR; split <;> omega)).trans rfl
      | 29, _ => exact (hG.oth 29 (fun i hi => by unfold dstR; split <;> omega)).trans rfl
      | 30, _ => exact (hG.oth 30 (fun i hi => by unfold dstR; split <;> omega)).trans rfl
      | 31, _ => exact (hG.oth 31 (fun i hi => by unfold dstR; split <;> omega)).trans rfl
      | 32, _ => exact (hG.oth 32 (fun i hi => by unfold dstR; split <;> omega)).trans rfl
      | 33, _ => exact (hG.oth 33 (fun i hi => by unfold dstR; split <;> omega)).trans rfl
      | 34, _ => exact (hG.oth 34 (fun i hi => by unfold dstR; split <;> omega)).trans rfl
      | 35, _ => exact (hG.oth 35 (fun i hi => by unfold dstR; split <;> omega)).trans rfl
      | 36, _ => exact (hG.oth 36 (fun i hi => by unfold dstR; split <;> omega)).trans rfl
      | 37, _ => exact (hG.oth 37 (fun i hi => by unfold dstR; split <;> omega)).trans rfl
      | 38, _ => exact (hG.oth 38 (fun i hi => by unfold dstR; split <;> omega)).trans rfl
      | 39, _ => exact (hG.oth 39 (fun i hi => by unfold dstR; split <;> omega)).trans rfl
      | 40, _ => exact (hG.oth 40 (fun i hi => by unfold dstR; split <;> omega)).trans rfl
      | 41, _ => exact (hG.oth 41 (fun i hi => by unfold dstR; split <;> omega)).trans rfl
      | 42, _ => exact (hG.oth 42 (fun i hi => by unfold dstR; split <;> omega)).trans rfl
      | 43, _ => exact (hG.oth 43 (fun i hi => by unfold dstR; split <;> omega)).trans rfl
      | 44, _ => exact (hG.oth 44 (fun i hi => by unfold dstR; split <;> omega)).trans rfl
      | 45, _ => exact (hG.oth 45 (fun i hi => by unfold dstR; split <;> omega)).trans rfl
      | 46, _ => exact (hG.oth 46 (fun i hi => by unfold dstR; split <;> omega)).trans rfl
      | 47, _ => exact (hG.oth 47 (fun i hi => by unfold dstR; split <;> omega)).trans rfl
      | 48, _ => exact (hG.oth 48 (fun i hi => by unfold dstR; split <;> omega)).trans rfl
      | 49, _ => exact (hG.oth 49 (fun i hi => by unfold dstR; split <;> omega)).trans rfl
      | 50, _ => exact (hG.oth 50 (fun i hi => by unfold dstR; split <;> omega)).trans rfl
      | 51, _ => exact (hG.oth 51 (fun i hi => by unfold dstR; split <;> omega)).trans rfl
      | 52, _ => exact (hG.oth 52 (fun i hi => by unfold dstR; split <;> omega)).trans rfl
      | 53, _ => exact (hG.oth 53 (fun i hi => by unfold dstR; split <;> omega)).trans rfl
      | 54, _ => exact (hG.oth 54 (fun i hi => by unfold dstR; split <;> omega)).trans rfl
      | 55, _ => exact (hG.oth 55 (fun i hi => by unfold dstR; split <;> omega)).trans rfl
      | 56, _ => exact (hG.oth 56 (fun i hi => by unfold dstR; split <;> omega)).trans rfl
      | 57, _ => exact (hG.oth 57 (fun i hi => by unfold dstR; split <;> omega)).trans rfl
      | 58, _ => exact (hG.oth 58 (fun i hi => by unfold dstR; split <;> omega)).trans rfl
      | 59, _ => exact (hG.oth 59 (fun i hi => by unfold dstR; split <;> omega)).trans rfl
      | 60, _ => exact (hG.oth 60 (fun i hi => by unfold dstR; split <;> omega)).trans rfl
      | 61, _ => exact (hG.oth 61 (fun i hi => by unfold dstR; split <;> omega)).trans rfl
      | 62, _ => exact (hG.oth 62 (fun i hi => by unfold dstR; split <;> omega)).trans rfl
      | 63, _ => exact (hG.oth 63 (fun i hi => by unfold dstR; split <;> omega)).trans rfl
      | 64, _ => exact (hG.oth 64 (fun i hi => by unfold dstR; split <;> omega)).trans rfl
      | 65, _ => exact (hG.oth 65 (fun i hi => by unfold dstR; split <;> omega)).trans rfl
      | q + 66, hq => exact absurd hq (by simp)
    subst ha
  -- BEHIND
    obtain ⟨bx, g1, K, rfl, q1, q2, q3, q4⟩ := h9
    obtain ⟨p0, p1, p2, g2, g3, rfl, q5⟩ := h10
    have HX : Hid (TwoAt all i k w9 W1.heap.size bx g1 K p0 p1 p2 g2 g3 (fedB (rowsD all (i + k))) ∧ K ≤ 1000 ∧ Below W1.heap.size W1 w9) := ⟨⟨q1, q2, q5, q4, hG.bel.size⟩, q3, hG.bel⟩
    rename_i hK
    refine hK _ _ ?_
    clear q1 q2 q3 q4 q5 hG hall hK h4 h8 e0 e1 e2 e3 e4 e5 e6 e7 e8 e9 e10
    have HBW : Hid (∀ W, Below W1.heap.size W1 W → Below w.heap.size w W ∧ Below (w.heap.size + 1) W1 W) := fun W hW => ⟨HB1.out.trans (hW.mono (by have := HZ1.out; omega)), hW.mono (by have := HZ1.out; omega)⟩
    obtain ⟨aA, cA, r1, r2⟩ := HCX.out i (by omega)
    obtain ⟨aB, cB, r3, r4⟩ := HCX.out k (by omega)
    obtain ⟨aD, cD, r5, -⟩ := HCX.out (i + k) hik
    have HRD : Hid (∀ W, Below W1.heap.size W1 W → W.cell? ⟨bc, oc + i, none⟩ = some (.slice aA (clsP all i).length cA) ∧ W.cell? ⟨bc, oc + k, none⟩ = some (.slice aB (clsP all k).length cB) ∧ W.cell? ⟨bc, oc + (i + k), none⟩ = some (.slice aD (clsP all (i + k)).length cD) ∧ WsIn anyBlock W (.slice aA (clsP all i).length cA) (nD all i) (clsP all i) ∧ WsIn anyBlock W (.slice aB (clsP all k).length cB) (nD all k) (clsP all k)) := fun W hW => by
      have h1 := (HBW.out W hW).1
      exact ⟨(h1.cell (p := ⟨bc, oc + i, none⟩) HBC.out).trans r1, (h1.cell (p := ⟨bc, oc + k, none⟩) HBC.out).trans r3, (h1.cell (p := ⟨bc, oc + (i + k), none⟩) HBC.out).trans r5, r2.below h1, r4.below h1⟩
    have HLE : Hid (cntB (fedB (rowsD all (i + k))) (prodL all i k (clsP all i) (clsP all k)) ≤ (clsP all (i + k)).length) := ring_le HG.out.1 HG.out.2 (clsP_is HG.out.1 HG.out.2 i) (clsP_is HG.out.1 HG.out.2 k) (cocP_spec HG.out.1 HG.out.2 (i + k))
    have hA60 := clsP_len HG.out.1 HG.out.2 i
    have hB60 := clsP_len HG.out.1 HG.out.2 k
    have hD60 := clsP_len HG.out.1 HG.out.2 (i + k)
    have HCU : Hid (∀ (S S' : Nat → Prop) (f g : Nat) (u v : Value) (W : World) (p0 p1 p2 g2 g3 : Nat), EndsAt W1.heap.size (nD all (i + k)) W p0 p1 p2 g2 g3 (fun x => if x < nD all (i + k) then fstN all i k x else 0) (fun x => if x < nD all (i + k) then lstN all i k x else 0) → WordIn S W u (nD all i) f → WordIn S' W v (nD all k) g → Calls Tryz.prog 63 #[u, v, .pointer (some ⟨p0, 0, none⟩), .pointer (some ⟨p1, 0, none⟩), .pointer (some ⟨p2, 0, none⟩)] W fun e w' => ∃ r, e = .returned r ∧ WordIn (fun b => W.heap.size ≤ b) w' r (nD all (i + k)) (cupW all i k f g) ∧ Below W.heap.size W w') := fun S S' f g u v W p0 p1 p2 g2 g3 h1 h2 h3 => cup1_ HG.out.1 HG.out.2 i k W1.heap.size p0 p1 p2 g2 g3 f g u v W h1 h2 h3
    have HPC : Hid (∀ x, x < (clsP all i).length → ∀ y, cntB (fedB (rowsD all (i + k))) (preP all i k (clsP all i) (clsP all k) x y) ≤ cntB (fedB (rowsD all (i + k))) (prodL all i k (clsP all i) (clsP all k)) ∧ (preP all i k (clsP all i) (clsP all k) x y).length ≤ 3600) := fun x hx y => ⟨preP_cnt hx y _, preP_len hx hA60 hB60 y⟩
    have HPE : Hid (preP all i k (clsP all i) (clsP all k) (clsP all i).length 0 = prodL all i k (clsP all i) (clsP all k) ∧ preP all i k (clsP all i) (clsP all k) 0 0 = [] ∧ (∀ x, x < (clsP all i).length → preP all i k (clsP all i) (clsP all k) (x + 1) 0 = preP all i k (clsP all i) (clsP all k) x (clsP all k).length) ∧ ∀ x y, y < (clsP all k).length → preP all i k (clsP all i) (clsP all k) x (y + 1) = preP all i k (clsP all i) (clsP all k) x y ++ [cupW all i k ((clsP all i)[x]?.getD 0) ((clsP all k)[y]?.getD 0)]) := ⟨preP_end .., preP_zero .., fun x hx => preP_x hx, fun x y hy => preP_y hy⟩
    have HOK : Hid (∀ x, x < (clsP all i).length → ∀ y, TbOk ((preP all i k (clsP all i) (clsP all k) x y).foldl putB (fedB (rowsD all (i + k))))) := fun x hx y => by
      obtain ⟨R, e⟩ := preP_pre (all := all) (i := i) (k := k) (A := clsP all i) (B := clsP all k) hx y
      refine fed_fold HRL.out (fun r hr => ?_)
      have hr2 : r ∈ prodL all i k (clsP all i) (clsP all k) := by rw [e]; exact List.mem_append_left _ hr
      exact lt64 (prodL_is HG.out.1 HG.out.2 (clsP_is HG.out.1 HG.out.2 i).is (clsP_is HG.out.1 HG.out.2 k).is r hr2).1 (by omega)
    obtain ⟨A, hAA⟩ : ∃ A, clsP all i = A := ⟨_, rfl⟩
    obtain ⟨B, hBB⟩ : ∃ B, clsP all k = B := ⟨_, rfl⟩
    obtain ⟨mD, hmD⟩ : ∃ m, (clsP all (i + k)).length = m := ⟨_, rfl⟩
    rw [hAA] at HRD HLE HPC HPE HOK hA60 HZZ
    rw [hBB] at HRD HLE HPC HPE HOK hB60 HZZ
    rw [hmD] at HRD HLE hD60
    obtain ⟨mA, hmA⟩ : ∃ m, A.length = m := ⟨_, rfl⟩
    obtain ⟨mB, hmB⟩ : ∃ m, B.length = m := ⟨_, rfl⟩
    have HMA := Hid.mk' (And.intro hmA hmB)
    rw [hmA] at HRD HPC HPE HOK hA60
    rw [hmB] at HRD HPE hB60
    obtain ⟨N, hN⟩ : ∃ n, nD all (i + k) = n := ⟨_, rfl⟩
    obtain ⟨B0, hB0⟩ : ∃ b, fedB (rowsD all (i + k)) = b := ⟨_, rfl⟩
    have HNN := Hid.mk' hN
    rw [hB0] at HLE HPC HOK HX HZZ
    have c0 := (HRD.out w9 HX.out.2.2).1
    have z0 : (0 : Int) ≤ (i : Int) := by omega
    have z1 : (i : Int) < (n : Int) := by omega
    have z2 : (0 : Int) ≤ (k : Int) := by omega
    have z3 : (k : Int) < (n : Int) := by omega
    have z4 : (0 : Int) ≤ (i : Int) + (k : Int) := by omega
    have z5 : (i : Int) + (k : Int) < (n : Int) := by omega
    clear r1 r2 r3 r4 r5 hAA hBB hmD hmA hmB hB0 hN
    go_wp2_with fail
    go_loopw [11, 30] (fun c p W => ∃ (x : Nat), x ≤ mA ∧ p = .int .i64 (x : Int) ∧ c = .int .i64 ((cntB B0 (preP all i k A B x 0) : Nat) : Int) ∧ Hid (TwoAt all i k W W1.heap.size bx g1 (K + (preP all i k A B x 0).length) p0 p1 p2 g2 g3 ((preP all i k A B x 0).foldl putB B0) ∧ Below W1.heap.size W1 W)) (fun _ p _ => mA - (intOf p).toNat)
    case atStart =>
      refine ⟨0, by omega, rfl, ?_, ?_, ?_⟩
      · rw [HPE.out.2.1]; rfl
      · rw [HPE.out.2.1]; exact HX.out.1
      · exact HX.out.2.2
    case round =>
      obtain ⟨x, hx, rfl, rfl, HK⟩ := hrel
      by_cases hlt : x < mA
      · have hrd := HRD.out wr HK.out.2
        obtain ⟨a0, c9, e0, hA⟩ := hrd.2.2.2.1.open_
        rw [HMA.out.1] at e0 hA
        cases e0
        obtain ⟨bA, oA, rfl, hA2⟩ := hA (by omega)
        obtain ⟨af, mf, cf, f1, f2⟩ := hA2 x hlt
        have HF := Hid.mk' f2
        have c1 := hrd.2.1
        clear hA hA2 f2 hrd c0
        go_wp2_with fail
        go_loopw [11, 39] (fun c p W => ∃ (y : Nat), y ≤ mB ∧ p = .int .i64 (y : Int) ∧ c = .int .i64 ((cntB B0 (preP all i k A B x y) : Nat) : Int) ∧ Hid (TwoAt all i k W W1.heap.size bx g1 (K + (preP all i k A B x y).length) p0 p1 p2 g2 g3 ((preP all i k A B x y).foldl putB B0) ∧ Below W1.heap.size W1 W ∧ WordIn anyBlock W (.slice af mf cf) (nD all i) (A[x]?.getD 0))) (fun _ p _ => mB - (intOf p).toNat)
        case atStart => exact ⟨0, by omega, rfl, rfl, HK.out.1, HK.out.2, HF.out⟩
        case round =>
          obtain ⟨y, hy, rfl, rfl, HJ⟩ := hrel
          by_cases hyt : y < mB
          · have hrd := HRD.out wr HJ.out.2.1
            obtain ⟨a0, c9, e0, hB⟩ := hrd.2.2.2.2.open_
            rw [HMA.out.2] at e0 hB
            cases e0
            obtain ⟨bB, oB, rfl, hB2⟩ := hB (by omega)
            obtain ⟨ag, mg, cg, g4, g5⟩ := hB2 y hyt
            have c2 := hrd.2.2.1
            have HGW := Hid.mk' g5
            have hpc := HPC.out x hlt y
            have hcm : cntB B0 (preP all i k A B x y) ≤ mD := Nat.le_trans hpc.1 HLE.out
            have HPC1 := Hid.mk' hpc
            have hcu := HCU.out _ _ (A[x]?.getD 0) (B[y]?.getD 0) (.slice af mf cf) (.slice ag mg cg) wr p0 p1 p2 g2 g3 HJ.out.1.ends HJ.out.2.2 g5
            have HPY : Hid (preP all i k A B x (y + 1) = preP all i k A B x y ++ [cupW all i k (A[x]?.getD 0) (B[y]?.getD 0)]) := HPE.out.2.2.2 x y hyt
            clear hB hB2 g5 hrd hpc
            obtain ⟨q, hq⟩ : ∃ q, cntB B0 (preP all i k A B x y) = q := ⟨_, rfl⟩
            have HQ := Hid.mk' hq
            rw [hq] at hcm ⊢
            clear hq
            by_cases he : q = mD
            · have HEZ : Hid (q = Z) := by
                show q = Z
                have h1 := HPC1.out.1
                have h2 := HLE.out
                rw [HQ.out, HZZ.out] at h1
                rw [HZZ.out] at h2
                omega
              subst he
              go_wp2_with fail
              go_ret
              exact ⟨by rw [HEZ.out]; rfl, (HBW.out _ HJ.out.2.1).1⟩
            · have hne : (((q : Nat) : Int) == ((mD : Nat) : Int)) = false := by simp; omega
              go_wp2_with fail
              refine hcu.mono ?_
              clear hcu hne c1 c2 f1 g4
              rintro e V1 ⟨r, rfl, hr, hV1⟩
              obtain ⟨ar, mr, cr, rfl⟩ := hr.form
              have HV1 : Hid (TwoAt all i k V1 W1.heap.size bx g1 (K + (preP all i k A B x y).length) p0 p1 p2 g2 g3 ((preP all i k A B x y).foldl putB B0) ∧ Below W1.heap.size W1 V1 ∧ WordIn anyBlock V1 (.slice af mf cf) (nD all i) (A[x]?.getD 0)) := ⟨HJ.out.1.below hV1, HJ.out.2.1.trans (hV1.mono HJ.out.2.1.size), HJ.out.2.2.below hV1⟩
              have hTB := HTB.out V1 (HBW.out V1 HV1.out.2.1).2
              have HTB1 := Hid.mk' hTB
              have hst := sort_ (.slice ar mr cr) (nD all (i + k)) _ W1.heap.size bx g1 _ _ V1 hTB hr HV1.out.1.box HV1.out.1.tab (HOK.out x hlt y) (by have := HPC1.out.2; have := HX.out.2.1; omega) HV1.out.1.low
              have HLN : Hid ((preP all i k A B x (y + 1)).length = (preP all i k A B x y).length + 1) := by
                show _ = _
                rw [HPY.out]; simp
              have HFO : Hid ((preP all i k A B x (y + 1)).foldl putB B0 = putB ((preP all i k A B x y).foldl putB B0) (cupW all i k (A[x]?.getD 0) (B[y]?.getD 0))) := by
                show _ = _
                rw [HPY.out, List.foldl_append]; rfl
              have HCN : Hid (cntB B0 (preP all i k A B x (y + 1)) = q + nw (redB ((preP all i k A B x y).foldl putB B0) (cupW all i k (A[x]?.getD 0) (B[y]?.getD 0)))) := by
                show _ = _
                rw [HPY.out, cntB_snoc, HQ.out]
              obtain ⟨z, hz⟩ : ∃ z, redB ((preP all i k A B x y).foldl putB B0) (cupW all i k (A[x]?.getD 0) (B[y]?.getD 0)) = z := ⟨_, rfl⟩
              rw [hz] at hst HCN
              rw [← HFO.out] at hst
              clear hr hV1 hTB hz
              go_wp2_with fail
              refine hst.mono ?_
              clear hst
              rintro e V2 ⟨u2, rfl, hu2, ht2, hg2⟩
              have HV2 : Hid (TwoAt all i k V2 W1.heap.size bx g1 (K + (preP all i k A B x (y + 1)).length) p0 p1 p2 g2 g3 ((preP all i k A B x (y + 1)).foldl putB B0) ∧ Below W1.heap.size W1 V2 ∧ WordIn anyBlock V2 (.slice af mf cf) (nD all i) (A[x]?.getD 0)) := by
                have hb1 := HV1.out.2.1
                refine ⟨HV1.out.1.sorted (by rw [HLN.out, ← Nat.add_assoc]; exact ht2) hg2, hb1.grown hg2 hb1.size (fun j hj => by cases hj; exact HV1.out.1.bas), ?_⟩
                obtain ⟨D, hm, -⟩ := HV1.out.1.tab
                exact HV1.out.2.2.past hm hg2
              obtain ⟨a2, m2, c2, rfl⟩ := hu2.form
              have hiz := isZero_ _ _ z V2 hu2 (HTB.out V2 (HBW.out V2 HV2.out.2.1).2)
              clear hu2 ht2 hg2 HV1 HTB1
              rcases Nat.eq_zero_or_pos z with h0 | h0
              · have hd0 : decide (z = 0) = true := decide_eq_true h0
                have HCE : Hid (cntB B0 (preP all i k A B x (y + 1)) = q) := by
                  show _ = _
                  rw [HCN.out, h0]; rfl
                rw [hd0] at hiz
                clear h0 hd0
                go_wp2_with fail
                refine hiz.mono ?_
                clear hiz
                rintro e V ⟨rfl, hVV⟩
                obtain rfl : V2 = V := hVV.symm
                go_wp2_with fail
                go_roundw
                case rel => exact ⟨y + 1, by omega, by go_num, by rw [HCE.out], HV2.out⟩
                case measure => simp [intOf]; omega
              · have hd0 : decide (z = 0) = false := decide_eq_false (by omega)
                have HCE : Hid (cntB B0 (preP all i k A B x (y + 1)) = q + 1) := by
                  show _ = _
                  rw [HCN.out]; unfold nw; rw [if_neg (by omega)]
                rw [hd0] at hiz
                clear h0 hd0
                go_wp2_with fail
                refine hiz.mono ?_
                clear hiz
                rintro e V ⟨rfl, hVV⟩
                obtain rfl : V2 = V := hVV.symm
                go_wp2_with fail
                go_roundw
                case rel => exact ⟨y + 1, by omega, by go_num, by rw [HCE.out]; go_num, HV2.out⟩
                case measure => simp [intOf]; omega
          · have hym : y = mB := by omega
            subst hym
            have HEX : Hid (preP all i k A B x y = preP all i k A B (x + 1) 0) := (HPE.out.2.2.1 x hlt).symm
            rw [HEX.out] at HJ ⊢
            go_wp2_with fail
            go_roundw
            case rel => exact ⟨x + 1, by omega, by go_num, rfl, HJ.out.1, HJ.out.2.1⟩
            case measure => simp [intOf]; omega
      · have hxm : x = mA := by omega
        subst hxm
        rw [HPE.out.1, HZZ.out]
        go_wp2_with fail
        go_ret
        exact ⟨rfl, (HBW.out _ HK.out.2).1⟩

end Go.Proofs.YtldknhganoiajaaGreatDoor
