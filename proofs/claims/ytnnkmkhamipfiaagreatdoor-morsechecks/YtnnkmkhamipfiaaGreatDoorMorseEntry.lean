/- Sums of signs are added. Word of a number of more than one word. entry: a sum of signs as a number, where it is not too great. -/
import Derived.Test.YtnnkmkhamipfiaaGreatDoorNatPoke
import Derived.Test.YtnnkmkhamipfiaaGreatDoorRegionGrow
namespace Go.Proofs.YtnnkmkhamipfiaaGreatDoor
open Go.RowKit Go.Sort

/-- What the slots of 'plus' hold. -/
def spA (p : Nat) (x1 x2 x3 x4 : Value) (X Y : Nat) (i : Nat) (w : World) (v : Value) : Prop := match i with
  | 0 => v = .pointer (some ⟨p, 0, none⟩)
  | 1 => v = x1
  | 2 => v = .pointer (some ⟨p + 1, 0, none⟩)
  | 3 => v = x3
  | 4 => NatT w v X
  | 5 => v = .pointer (some ⟨p, 1, none⟩)
  | 6 => v = x2
  | 7 => v = .pointer (some ⟨p + 1, 1, none⟩)
  | 8 => v = x4
  | 9 => NatT w v Y
  | _ => SumAt w v (X, Y)
theorem spA_below {p : Nat} {x1 x2 x3 x4 : Value} {X Y : Nat} : ∀ (i : Nat) (w w' : World) (v : Value), i < 11 → Below w.heap.size w w' → spA p x1 x2 x3 x4 X Y i w v → spA p x1 x2 x3 x4 X Y i w' v := by
  intro i w w' v hi hB h
  match i, hi with
  | 0, _ | 1, _ | 2, _ | 3, _ | 5, _ | 6, _ | 7, _ | 8, _ => exact h
  | 4, _ | 9, _ => exact NatT.below h hB
  | 10, _ => exact SumAt.below h hB
  | k + 11, hk => exact absurd hk (by omega)
/-- Two sums behind pointers, and one that is still blank. -/
structure PlusAt (W : World) (p : Nat) (x1 x2 x3 x4 : Value) : Prop where
  a0 : W.cell? ⟨p, 0, none⟩ = some x1
  a1 : W.cell? ⟨p, 1, none⟩ = some x2
  b0 : W.cell? ⟨p + 1, 0, none⟩ = some x3
  b1 : W.cell? ⟨p + 1, 1, none⟩ = some x4
  c : W.heap[p + 1 + 1]? = some (.cells #[.slice none 0 0, .slice none 0 0] 92 (0, 0))
theorem plus_at (w : World) (x1 x2 x3 x4 : Value) {p : Nat} (hp : w.heap.size = p) : PlusAt (((w.alloc (.cells #[x1, x2] 92)).alloc (.cells #[x3, x4] 92)).alloc (.cells #[.slice none 0 0, .slice none 0 0] 92)) p x1 x2 x3 x4 := by
  subst hp
  obtain ⟨a0, a1⟩ := two_cells w x1 x2 92
  obtain ⟨b0, b1⟩ := two_cells (w.alloc (.cells #[x1, x2] 92)) x3 x4 92
  rw [World.size_alloc] at b0 b1
  refine ⟨?_, ?_, ?_, ?_, ?_⟩
  · rw [World.cell?_alloc_lt _ _ _ (by simp <;> omega), World.cell?_alloc_lt _ _ _ (by simp)]; exact a0
  · rw [World.cell?_alloc_lt _ _ _ (by simp <;> omega), World.cell?_alloc_lt _ _ _ (by simp)]; exact a1
  · rw [World.cell?_alloc_lt _ _ _ (by simp)]; exact b0
  · rw [World.cell?_alloc_lt _ _ _ (by simp)]; exact b1
  · have := (Go.MapKept.heap_alloc ((w.alloc (.cells #[x1, x2] 92)).alloc (.cells #[x3, x4] 92)) (.cells #[.slice none 0 0, .slice none 0 0] 92)).1
    rw [World.size_alloc, World.size_alloc] at this
    exact this
theorem PlusAt.below {W W' : World} {p : Nat} {x1 x2 x3 x4 : Value} (h : PlusAt W p x1 x2 x3 x4) (hB : Below W.heap.size W W') : PlusAt W' p x1 x2 x3 x4 :=
  ⟨(hB.cell (p := ⟨p, 0, none⟩) (cell_lt h.a0)).trans h.a0, (hB.cell (p := ⟨p, 1, none⟩) (cell_lt h.a1)).trans h.a1, (hB.cell (p := ⟨p + 1, 0, none⟩) (cell_lt h.b0)).trans h.b0, (hB.cell (p := ⟨p + 1, 1, none⟩) (cell_lt h.b1)).trans h.b1, (hB.block (p + 1 + 1) (Array.getElem?_eq_some_iff.1 h.c).1).trans h.c⟩

/-- A sum that lies in a box of its own. -/
def BoxS (W : World) (b : Nat) (v1 v2 : Value) : Prop := W.heap[b]? = some (.cells #[v1, v2] 92 (0, 0))
theorem BoxS.cells {W : World} {b : Nat} {v1 v2 : Value} (h : BoxS W b v1 v2) : (∀ i, W.cell? ⟨b, i, none⟩ = #[v1, v2][i]?) ∧ ∀ i, W.frozen? ⟨b, i, none⟩ = false :=
  ⟨fun i => by simp [World.cell?, show W.heap[b]? = _ from h], fun i => by simp [World.frozen?, show W.heap[b]? = _ from h]⟩
/-- A sum's box is written. -/
theorem put2 {W : World} {b : Nat} {c1 c2 : Value} (x y : Value) (hc : BoxS W b c1 c2) :
    BoxS ((W.setCell ⟨b, 0, none⟩ x).setCell ⟨b, 1, none⟩ y) b x y ∧ Below b W ((W.setCell ⟨b, 0, none⟩ x).setCell ⟨b, 1, none⟩ y) := by
  refine ⟨?_, ((Below.refl _ W).setCell (p := ⟨b, 0, none⟩) (Nat.le_refl _) _).setCell (p := ⟨b, 1, none⟩) (Nat.le_refl _) _⟩
  have h1 := heap_setCell_same W b 0 #[c1, c2] 92 x hc
  have h2 := heap_setCell_same (W.setCell ⟨b, 0, none⟩ x) b 1 _ 92 y h1
  exact h2
theorem BoxS.none {W : World} {b : Nat} {v1 v2 : Value} (h : BoxS W b v1 v2) : ∀ cur, W.heap[b]? ≠ some (.cells cur 128 (0, 0)) := fun cur e => by
  rw [show W.heap[b]? = _ from h] at e
  cases e
theorem NatT.poke2 {W : World} {v : Value} {x b : Nat} {u1 u2 c1 c2 : Value} (h : NatT W v x) (hc : BoxS W b c1 c2) : NatT ((W.setCell ⟨b, 0, none⟩ u1).setCell ⟨b, 1, none⟩ u2) v x :=
  h.poke hc.none (fun b' _ hne => (Below.heap_setCell _ _ _ b' (fun e => hne e)).trans (Below.heap_setCell _ _ _ b' (fun e => hne e)))

set_option maxRecDepth 100000 in
set_option maxHeartbeats 4000000 in
theorem sum_plus {u v : Value} {p q : Nat × Nat} (w : World) (h : SumAt w u p) (k : SumAt w v q) (hp : p.1 < NatTop ∧ p.2 < NatTop) (hq : q.1 < NatTop ∧ q.2 < NatTop) :
    Calls Tryz.prog 65 #[u, v] w fun e w' => ∃ x, e = .returned x ∧ SumAt w' x (addP p q) ∧ Below w.heap.size w w' := by
  obtain ⟨v1, v2, rfl, h1, h2⟩ := h
  obtain ⟨u1, u2, rfl, k1, k2⟩ := k
  obtain ⟨a1, n1, c1, rfl⟩ := h1.form
  obtain ⟨a2, n2, c2, rfl⟩ := h2.form
  obtain ⟨a3, n3, c3, rfl⟩ := k1.form
  obtain ⟨a4, n4, c4, rfl⟩ := k2.form
  obtain ⟨pb, hpb⟩ : ∃ pb, w.heap.size = pb := ⟨_, rfl⟩
  have hpl := plus_at w (.slice a1 n1 c1) (.slice a2 n2 c2) (.slice a3 n3 c3) (.slice a4 n4 c4) hpb
  have hBX : Below pb w (((w.alloc (.cells #[.slice a1 n1 c1, .slice a2 n2 c2] 92)).alloc (.cells #[.slice a3 n3 c3, .slice a4 n4 c4] 92)).alloc (.cells #[.slice none 0 0, .slice none 0 0] 92)) := by
    rw [← hpb]
    exact (((Below.refl _ w).alloc (Nat.le_refl _) _).alloc (by simp) _).alloc (by simp <;> omega) _
  obtain ⟨X, hX⟩ : ∃ X, ((w.alloc (.cells #[.slice a1 n1 c1, .slice a2 n2 c2] 92)).alloc (.cells #[.slice a3 n3 c3, .slice a4 n4 c4] 92)).alloc (.cells #[.slice none 0 0, .slice none 0 0] 92) = X := ⟨_, rfl⟩
  have hXs : X.heap.size = pb + 3 := by rw [← hX]; simp [← hpb]
  rw [hX] at hpl hBX
  have hBX' : Below w.heap.size w X := by rw [hpb]; exact hBX
  have HS : Hid (NatT X (.slice a1 n1 c1) p.1 ∧ NatT X (.slice a2 n2 c2) p.2 ∧ NatT X (.slice a3 n3 c3) q.1 ∧ NatT X (.slice a4 n4 c4) q.2) := ⟨h1.below hBX', h2.below hBX', k1.below hBX', k2.below hBX'⟩
  have HX : Hid (w.heap.size = pb ∧ X.heap.size = pb + 3 ∧ Below pb w X) := ⟨hpb, hXs, hBX⟩
  have HP : Hid (PlusAt X pb (.slice a1 n1 c1) (.slice a2 n2 c2) (.slice a3 n3 c3) (.slice a4 n4 c4)) := hpl
  have HT : Hid ((p.1 < NatTop ∧ p.2 < NatTop) ∧ q.1 < NatTop ∧ q.2 < NatTop) := ⟨hp, hq⟩
  have b0 := hpl.b0
  have b1 := hpl.b1
  have a0 := hpl.a0
  have a9 := hpl.a1
  have hzc : ∀ i, X.cell? ⟨pb + 1 + 1, i, none⟩ = #[Value.slice none 0 0, .slice none 0 0][i]? := fun i => by simp [World.cell?, hpl.c]
  have hzf : ∀ i, X.frozen? ⟨pb + 1 + 1, i, none⟩ = false := fun i => by simp [World.frozen?, hpl.c]
  have d0 : X.cell? ⟨pb + 1 + 1, 0, none⟩ = some (.slice none 0 0) := hzc 0
  have d1 : X.cell? ⟨pb + 1 + 1, 1, none⟩ = some (.slice none 0 0) := hzc 1
  have g0 := hzf 0
  have g1 := hzf 1
  have hz1 := isZero_ X (HS.out.2.2.1.1)
  have hz2 := isZero_ X (HS.out.2.2.2.1)
  clear h1 h2 k1 k2 hpl hBX hBX' hXs hp hq hzc hzf
  have hback : SumAt X (.agg #[.slice a1 n1 c1, .slice a2 n2 c2]) p := ⟨_, _, rfl, HS.out.1, HS.out.2.1⟩
  have HBK := Hid.mk' hback
  clear hback
  go_enter Tryz.func65, Tryz.ntmps65
  go_upto_region 1 with fail
  clear hX hpb
  obtain ⟨e1, he1⟩ : ∃ e1, (q.1 == 0) = e1 := ⟨_, rfl⟩
  obtain ⟨e2, he2⟩ : ∃ e2, (q.2 == 0) = e2 := ⟨_, rfl⟩
  have HE : Hid ((q.1 == 0) = e1 ∧ (q.2 == 0) = e2) := ⟨he1, he2⟩
  rw [he1] at hz1
  rw [he2] at hz2
  clear he1 he2
  obtain ⟨w9, hw9⟩ : ∃ w9, w9 = w := ⟨_, rfl⟩
  subst hw9
  cases e1 with
  | false =>
    go_wp2_with (first
      | (go_at_call 75; refine hz1.mono ?_; rintro e V ⟨rfl, hv⟩; obtain rfl : X = V := hv.symm; clear hv hz1)
      | fail)
    refine region_grow (by kernel_rfl) 11 rfl (fun i => 14 + i) (spA pb (.slice a1 n1 c1) (.slice a2 n2 c2) (.slice a3 n3 c3) (.slice a4 n4 c4) (p.1 + q.1) (p.2 + q.2)) (fun i j _ _ h => by omega) (fun i hi => by simp; omega) spA_below (by decide +kernel) (by decide +kernel) (fun jo hj LL a w hG hed => ?_) (fun LL a w hG hed => ?_)
    · skip
      have hx := HP.out.below hG.bel
      have hs := HS.out
      have y2 : a.tmps[2]? = some (.pointer (some ⟨pb, 0, none⟩)) := (hG.oth 2 (fun i hi => by omega)).trans rfl
      have y3 : a.tmps[3]? = some (.pointer (some ⟨pb + 1, 0, none⟩)) := (hG.oth 3 (fun i hi => by omega)).trans rfl
      have hv : ∀ jj, jj < 11 → jj ∈ edgesOf _ jo → ∃ v, a.tmps[(fun i => 14 + i) jj]? = some v ∧ (spA pb (.slice a1 n1 c1) (.slice a2 n2 c2) (.slice a3 n3 c3) (.slice a4 n4 c4) (p.1 + q.1) (p.2 + q.2)) jj w v := fun jj hq hq2 => hG.val jj hq (hed jj hq2)
      match jo, hj with
      | 0, _ =>
        exact op_value rfl rfl (by unfold execOp; simp [go_sem, Act.eval, y2]) ⟨_, rfl, rfl, Below.refl _ _⟩
      | 1, _ =>
        obtain ⟨v0, e0, h0⟩ := hv 0 (by omega) (by decide +kernel)
        have z0 : a.tmps[14]? = some v0 := e0
        obtain rfl : v0 = _ := h0
        exact op_value rfl rfl (by unfold execOp; simp [go_sem, Act.eval, z0, hx.a0]) ⟨_, rfl, rfl, Below.refl _ _⟩
      | 2, _ =>
        exact op_value rfl rfl (by unfold execOp; simp [go_sem, Act.eval, y3]) ⟨_, rfl, rfl, Below.refl _ _⟩
      | 3, _ =>
        obtain ⟨v2, e2, h2⟩ := hv 2 (by omega) (by decide +kernel)
        have z2 : a.tmps[16]? = some v2 := e2
        obtain rfl : v2 = _ := h2
        exact op_value rfl rfl (by unfold execOp; simp [go_sem, Act.eval, z2, hx.b0]) ⟨_, rfl, rfl, Below.refl _ _⟩
      | 4, _ =>
        obtain ⟨v1, e1, h1⟩ := hv 1 (by omega) (by decide +kernel)
        have z1 : a.tmps[15]? = some v1 := e1
        obtain rfl : v1 = _ := h1
        obtain ⟨v3, e3, h3⟩ := hv 3 (by omega) (by decide +kernel)
        have z3 : a.tmps[17]? = some v3 := e3
        obtain rfl : v3 = _ := h3
        refine op_call rfl rfl (by unfold execOp; simp [go_sem, Act.eval, z1, z3]) _ (plus_t w (hs.1.below hG.bel).1 (hs.2.2.1.below hG.bel).1 HT.out.1.1 HT.out.2.1) fun e w' hh => ?_
        obtain ⟨v, rfl, hn, hb, ht⟩ := hh
        exact ⟨v, rfl, v, rfl, ⟨hn, ht⟩, hb⟩
      | 5, _ =>
        exact op_value rfl rfl (by unfold execOp; simp [go_sem, Act.eval, y2]) ⟨_, rfl, rfl, Below.refl _ _⟩
      | 6, _ =>
        obtain ⟨v5, e5, h5⟩ := hv 5 (by omega) (by decide +kernel)
        have z5 : a.tmps[19]? = some v5 := e5
        obtain rfl : v5 = _ := h5
        exact op_value rfl rfl (by unfold execOp; simp [go_sem, Act.eval, z5, hx.a1]) ⟨_, rfl, rfl, Below.refl _ _⟩
      | 7, _ =>
        exact op_value rfl rfl (by unfold execOp; simp [go_sem, Act.eval, y3]) ⟨_, rfl, rfl, Below.refl _ _⟩
      | 8, _ =>
        obtain ⟨v7, e7, h7⟩ := hv 7 (by omega) (by decide +kernel)
        have z7 : a.tmps[21]? = some v7 := e7
        obtain rfl : v7 = _ := h7
        exact op_value rfl rfl (by unfold execOp; simp [go_sem, Act.eval, z7, hx.b1]) ⟨_, rfl, rfl, Below.refl _ _⟩
      | 9, _ =>
        obtain ⟨v6, e6, h6⟩ := hv 6 (by omega) (by decide +kernel)
        have z6 : a.tmps[20]? = some v6 := e6
        obtain rfl : v6 = _ := h6
        obtain ⟨v8, e8, h8⟩ := hv 8 (by omega) (by decide +kernel)
        have z8 : a.tmps[22]? = some v8 := e8
        obtain rfl : v8 = _ := h8
        refine op_call rfl rfl (by unfold execOp; simp [go_sem, Act.eval, z6, z8]) _ (plus_t w (hs.2.1.below hG.bel).1 (hs.2.2.2.below hG.bel).1 HT.out.1.2 HT.out.2.2) fun e w' hh => ?_
        obtain ⟨v, rfl, hn, hb, ht⟩ := hh
        exact ⟨v, rfl, v, rfl, ⟨hn, ht⟩, hb⟩
      | 10, _ =>
        obtain ⟨v4, e4, h4⟩ := hv 4 (by omega) (by decide +kernel)
        have z4 : a.tmps[18]? = some v4 := e4
        obtain ⟨v9, e9, h9⟩ := hv 9 (by omega) (by decide +kernel)
        have z9 : a.tmps[23]? = some v9 := e9
        obtain ⟨a5, m5, c5, rfl⟩ := NatT.form h4
        obtain ⟨a6, m6, c6, rfl⟩ := NatT.form h9
        exact op_value rfl rfl (by unfold execOp; simp [go_sem, Act.eval, z4, z9]) ⟨.agg #[.slice a5 m5 c5, .slice a6 m6 c6], rfl, ⟨.slice a5 m5 c5, .slice a6 m6 c6, rfl, h4, h9⟩, Below.refl _ _⟩
      | q + 11, hq => exact absurd hq (by omega)
    · skip
      obtain ⟨v10, e10, h10⟩ := hG.val 10 (by omega) (hed 10 (by decide +kernel))
      have z10 : a.tmps[24]? = some v10 := e10
      obtain ⟨vo, vu, rfl, ho, hu⟩ := h10
      obtain ⟨a5, m5, c5, rfl⟩ := ho.form
      obtain ⟨a6, m6, c6, rfl⟩ := hu.form
      have y4 : a.tmps[4]? = some (.pointer (some ⟨pb + 1 + 1, 0, none⟩)) := (hG.oth 4 (fun i hi => by omega)).trans rfl
      have hc := (HP.out.below hG.bel).c
      have cc : ∀ i, w.cell? ⟨pb + 1 + 1, i, none⟩ = #[Value.slice none 0 0, .slice none 0 0][i]? := fun i => by simp [World.cell?, hc]
      have ff : ∀ i, w.frozen? ⟨pb + 1 + 1, i, none⟩ = false := fun i => by simp [World.frozen?, hc]
      refine op_skip rfl rfl (by unfold execOp; simp [go_sem, Act.eval, y4, z10, cc, ff]; rfl) ?_
      rename_i hK
      refine hK _ _ ?_
      obtain ⟨hs2, hB2⟩ := put2 (.slice a5 m5 c5) (.slice a6 m6 c6) hc
      have s0 := hs2.cells.1 0
      have s1 := hs2.cells.1 1
      have hBB : Below pb w9 _ := (HX.out.2.2.trans (hG.bel.mono (by rw [HX.out.2.1]; omega))).trans (hB2.mono (by omega))
      change Code.wp Tryz.prog Code.ret _ (a.put none undef) _
      refine wp_ret ?_
      show bodyPost Tryz.prog Tryz.f65 (fun e w' => ∃ x, e = .returned x ∧ SumAt w' x (addP p q) ∧ Below w9.heap.size w9 w') Exit.ret (a.put none undef) _
      refine bodyPost_ret (v := .agg #[.slice a5 m5 c5, .slice a6 m6 c6]) ?_ (hG.dfr.trans rfl) ⟨_, rfl, ⟨_, _, rfl, NatT.poke2 ho hc, NatT.poke2 hu hc⟩, by rw [HX.out.1]; exact hBB⟩
      simp [results, Tryz.f65, go_sem, Act.put, y4, s0, s1]
  | true =>
    cases e2 with
    | false =>
      go_wp2_with (first
        | (go_at_call 75; refine hz1.mono ?_; rintro e V ⟨rfl, hv⟩; obtain rfl : X = V := hv.symm; clear hv hz1)
        | (go_at_call 75; refine hz2.mono ?_; rintro e V ⟨rfl, hv⟩; obtain rfl : X = V := hv.symm; clear hv hz2)
        | fail)
      refine region_grow (by kernel_rfl) 11 rfl (fun i => 14 + i) (spA pb (.slice a1 n1 c1) (.slice a2 n2 c2) (.slice a3 n3 c3) (.slice a4 n4 c4) (p.1 + q.1) (p.2 + q.2)) (fun i j _ _ h => by omega) (fun i hi => by simp; omega) spA_below (by decide +kernel) (by decide +kernel) (fun jo hj LL a w hG hed => ?_) (fun LL a w hG hed => ?_)
      · skip
        have hx := HP.out.below hG.bel
        have hs := HS.out
        have y2 : a.tmps[2]? = some (.pointer (some ⟨pb, 0, none⟩)) := (hG.oth 2 (fun i hi => by omega)).trans rfl
        have y3 : a.tmps[3]? = some (.pointer (some ⟨pb + 1, 0, none⟩)) := (hG.oth 3 (fun i hi => by omega)).trans rfl
        have hv : ∀ jj, jj < 11 → jj ∈ edgesOf _ jo → ∃ v, a.tmps[(fun i => 14 + i) jj]? = some v ∧ (spA pb (.slice a1 n1 c1) (.slice a2 n2 c2) (.slice a3 n3 c3) (.slice a4 n4 c4) (p.1 + q.1) (p.2 + q.2)) jj w v := fun jj hq hq2 => hG.val jj hq (hed jj hq2)
        match jo, hj with
        | 0, _ =>
          exact op_value rfl rfl (by unfold execOp; simp [go_sem, Act.eval, y2]) ⟨_, rfl, rfl, Below.refl _ _⟩
        | 1, _ =>
          obtain ⟨v0, e0, h0⟩ := hv 0 (by omega) (by decide +kernel)
          have z0 : a.tmps[14]? = some v0 := e0
          obtain rfl : v0 = _ := h0
          exact op_value rfl rfl (by unfold execOp; simp [go_sem, Act.eval, z0, hx.a0]) ⟨_, rfl, rfl, Below.refl _ _⟩
        | 2, _ =>
          exact op_value rfl rfl (by unfold execOp; simp [go_sem, Act.eval, y3]) ⟨_, rfl, rfl, Below.refl _ _⟩
        | 3, _ =>
          obtain ⟨v2, e2, h2⟩ := hv 2 (by omega) (by decide +kernel)
          have z2 : a.tmps[16]? = some v2 := e2
          obtain rfl : v2 = _ := h2
          exact op_value rfl rfl (by unfold execOp; simp [go_sem, Act.eval, z2, hx.b0]) ⟨_, rfl, rfl, Below.refl _ _⟩
        | 4, _ =>
          obtain ⟨v1, e1, h1⟩ := hv 1 (by omega) (by decide +kernel)
          have z1 : a.tmps[15]? = some v1 := e1
          obtain rfl : v1 = _ := h1
          obtain ⟨v3, e3, h3⟩ := hv 3 (by omega) (by decide +kernel)
          have z3 : a.tmps[17]? = some v3 := e3
          obtain rfl : v3 = _ := h3
          refine op_call rfl rfl (by unfold execOp; simp [go_sem, Act.eval, z1, z3]) _ (plus_t w (hs.1.below hG.bel).1 (hs.2.2.1.below hG.bel).1 HT.out.1.1 HT.out.2.1) fun e w' hh => ?_
          obtain ⟨v, rfl, hn, hb, ht⟩ := hh
          exact ⟨v, rfl, v, rfl, ⟨hn, ht⟩, hb⟩
        | 5, _ =>
          exact op_value rfl rfl (by unfold execOp; simp [go_sem, Act.eval, y2]) ⟨_, rfl, rfl, Below.refl _ _⟩
        | 6, _ =>
          obtain ⟨v5, e5, h5⟩ := hv 5 (by omega) (by decide +kernel)
          have z5 : a.tmps[19]? = some v5 := e5
          obtain rfl : v5 = _ := h5
          exact op_value rfl rfl (by unfold execOp; simp [go_sem, Act.eval, z5, hx.a1]) ⟨_, rfl, rfl, Below.refl _ _⟩
        | 7, _ =>
          exact op_value rfl rfl (by unfold execOp; simp [go_sem, Act.eval, y3]) ⟨_, rfl, rfl, Below.refl _ _⟩
        | 8, _ =>
          obtain ⟨v7, e7, h7⟩ := hv 7 (by omega) (by decide +kernel)
          have z7 : a.tmps[21]? = some v7 := e7
          obtain rfl : v7 = _ := h7
          exact op_value rfl rfl (by unfold execOp; simp [go_sem, Act.eval, z7, hx.b1]) ⟨_, rfl, rfl, Below.refl _ _⟩
        | 9, _ =>
          obtain ⟨v6, e6, h6⟩ := hv 6 (by omega) (by decide +kernel)
          have z6 : a.tmps[20]? = some v6 := e6
          obtain rfl : v6 = _ := h6
          obtain ⟨v8, e8, h8⟩ := hv 8 (by omega) (by decide +kernel)
          have z8 : a.tmps[22]? = some v8 := e8
          obtain rfl : v8 = _ := h8
          refine op_call rfl rfl (by unfold execOp; simp [go_sem, Act.eval, z6, z8]) _ (plus_t w (hs.2.1.below hG.bel).1 (hs.2.2.2.below hG.bel).1 HT.out.1.2 HT.out.2.2) fun e w' hh => ?_
          obtain ⟨v, rfl, hn, hb, ht⟩ := hh
          exact ⟨v, rfl, v, rfl, ⟨hn, ht⟩, hb⟩
        | 10, _ =>
          obtain ⟨v4, e4, h4⟩ := hv 4 (by omega) (by decide +kernel)
          have z4 : a.tmps[18]? = some v4 := e4
          obtain ⟨v9, e9, h9⟩ := hv 9 (by omega) (by decide +kernel)
          have z9 : a.tmps[23]? = some v9 := e9
          obtain ⟨a5, m5, c5, rfl⟩ := NatT.form h4
          obtain ⟨a6, m6, c6, rfl⟩ := NatT.form h9
          exact op_value rfl rfl (by unfold execOp; simp [go_sem, Act.eval, z4, z9]) ⟨.agg #[.slice a5 m5 c5, .slice a6 m6 c6], rfl, ⟨.slice a5 m5 c5, .slice a6 m6 c6, rfl, h4, h9⟩, Below.refl _ _⟩
        | q + 11, hq => exact absurd hq (by omega)
      · skip
        obtain ⟨v10, e10, h10⟩ := hG.val 10 (by omega) (hed 10 (by decide +kernel))
        have z10 : a.tmps[24]? = some v10 := e10
        obtain ⟨vo, vu, rfl, ho, hu⟩ := h10
        obtain ⟨a5, m5, c5, rfl⟩ := ho.form
        obtain ⟨a6, m6, c6, rfl⟩ := hu.form
        have y4 : a.tmps[4]? = some (.pointer (some ⟨pb + 1 + 1, 0, none⟩)) := (hG.oth 4 (fun i hi => by omega)).trans rfl
        have hc := (HP.out.below hG.bel).c
        have cc : ∀ i, w.cell? ⟨pb + 1 + 1, i, none⟩ = #[Value.slice none 0 0, .slice none 0 0][i]? := fun i => by simp [World.cell?, hc]
        have ff : ∀ i, w.frozen? ⟨pb + 1 + 1, i, none⟩ = false := fun i => by simp [World.frozen?, hc]
        refine op_skip rfl rfl (by unfold execOp; simp [go_sem, Act.eval, y4, z10, cc, ff]; rfl) ?_
        rename_i hK
        refine hK _ _ ?_
        obtain ⟨hs2, hB2⟩ := put2 (.slice a5 m5 c5) (.slice a6 m6 c6) hc
        have s0 := hs2.cells.1 0
        have s1 := hs2.cells.1 1
        have hBB : Below pb w9 _ := (HX.out.2.2.trans (hG.bel.mono (by rw [HX.out.2.1]; omega))).trans (hB2.mono (by omega))
        change Code.wp Tryz.prog Code.ret _ (a.put none undef) _
        refine wp_ret ?_
        show bodyPost Tryz.prog Tryz.f65 (fun e w' => ∃ x, e = .returned x ∧ SumAt w' x (addP p q) ∧ Below w9.heap.size w9 w') Exit.ret (a.put none undef) _
        refine bodyPost_ret (v := .agg #[.slice a5 m5 c5, .slice a6 m6 c6]) ?_ (hG.dfr.trans rfl) ⟨_, rfl, ⟨_, _, rfl, NatT.poke2 ho hc, NatT.poke2 hu hc⟩, by rw [HX.out.1]; exact hBB⟩
        simp [results, Tryz.f65, go_sem, Act.put, y4, s0, s1]
    | true =>
      have hq : q = (0, 0) := by
        have h1 : q.1 = 0 := by simpa using HE.out.1
        have h2 : q.2 = 0 := by simpa using HE.out.2
        exact Prod.ext h1 h2
      go_wp2_with (first
        | (go_at_call 75; refine hz1.mono ?_; rintro e V ⟨rfl, hv⟩; obtain rfl : X = V := hv.symm; clear hv hz1)
        | (go_at_call 75; refine hz2.mono ?_; rintro e V ⟨rfl, hv⟩; obtain rfl : X = V := hv.symm; clear hv hz2)
        | fail)
      have hc := HP.out.c
      obtain ⟨hs2, hB2⟩ := put2 (.slice a1 n1 c1) (.slice a2 n2 c2) hc
      have s0 := hs2.cells.1 0
      have s1 := hs2.cells.1 1
      have hBB : Below pb w9 _ := HX.out.2.2.trans (hB2.mono (by omega))
      refine bodyPost_ret (v := .agg #[.slice a1 n1 c1, .slice a2 n2 c2]) ?_ rfl ⟨_, rfl, ⟨_, _, rfl, ?_, ?_⟩, by rw [HX.out.1]; exact hBB⟩
      · simp [results, Tryz.f65, go_sem, s0, s1]
      · rw [hq]; exact NatT.poke2 HS.out.1 hc
      · rw [hq]; exact NatT.poke2 HS.out.2.1 hc

end Go.Proofs.YtnnkmkhamipfiaaGreatDoor

namespace Go.Proofs.YtnnkmkhamipfiaaGreatDoor
open Go.RowKit Go.Sort

set_option maxRecDepth 100000 in
theorem word_great {va : Value} {x : Nat} (w : World) (ha : NatAt w va x) (hx : WB ≤ x) (hx2 : x < NatTop) :
    Calls Tryz.prog 74 #[va] w fun e w' => e = .returned (.tuple #[.int .u64 0, .bool false]) ∧ w' = w := by
  obtain ⟨n, F, ⟨aa, ca, rfl, hca, hxa⟩, hdF, hlF, rfl⟩ := ha
  have hn2 : 2 ≤ n := by
    rcases Nat.lt_or_ge n 2 with h | h
    · exfalso
      have hc : n = 0 ∨ n = 1 := by omega
      rcases hc with rfl | rfl
      · exact absurd (show WB ≤ 0 from hx) (by decide)
      · have h1 := hdF 0 (by omega)
        simp [vF] at hx
        omega
    · exact h
  have hn3 := NatAt.len hlF hx2
  have hb0 : ((n : Int) == 0) = false := beq_false_of_ne (by omega)
  have hb1 : ((n : Int) == 1) = false := beq_false_of_ne (by omega)
  clear hdF hlF hxa hx hx2
  go_enter Tryz.func74, Tryz.ntmps74
  go_wp2_with fail
  go_ret2
  exact ⟨rfl, rfl⟩

end Go.Proofs.YtnnkmkhamipfiaaGreatDoor

namespace Go.Proofs.YtnnkmkhamipfiaaGreatDoor
open Go.RowKit Go.Sort

def dstB (i : Nat) : Nat := if i < 10 then 8 + i else i - 6
theorem dstB_inj (i j : Nat) (hi : i < 12) (hj : j < 12) (h : dstB i = dstB j) : i = j := by
  unfold dstB at h
  split at h <;> split at h <;> omega
theorem dstB_lt (i : Nat) (h : i < 12) : dstB i < 18 := by unfold dstB; split <;> omega
theorem dstB_ge (i : Nat) (h : i < 12) : 4 ≤ dstB i ∧ dstB i ≠ 6 ∧ dstB i ≠ 7 := by unfold dstB; split <;> omega
/-- What the slots hold. -/
def spB (p : Nat) (x1 x2 : Value) (X Y : Nat) (i : Nat) (w : World) (v : Value) : Prop := match i with
  | 0 => v = .pointer (some ⟨p, 0, none⟩)
  | 1 => v = x1
  | 2 => v = .pointer (some ⟨p, 1, none⟩)
  | 3 => v = x2
  | 4 => NatAt w v X
  | 5 => v = .pointer (some ⟨p, 1, none⟩)
  | 6 => v = x2
  | 7 => v = .pointer (some ⟨p, 0, none⟩)
  | 8 => v = x1
  | 9 => NatAt w v Y
  | 10 => NatAt w v X
  | _ => NatAt w v Y
theorem spB_below {p : Nat} {x1 x2 : Value} {X Y : Nat} : ∀ (i : Nat) (w w' : World) (v : Value), i < 12 → Below w.heap.size w w' → spB p x1 x2 X Y i w v → spB p x1 x2 X Y i w' v := by
  intro i w w' v hi hB h
  match i, hi with
  | 0, _ | 1, _ | 2, _ | 3, _ | 5, _ | 6, _ | 7, _ | 8, _ => exact h
  | 4, _ | 9, _ | 10, _ | 11, _ => exact NatAt.below h hB
  | k + 12, hk => exact absurd hk (by omega)
/-- What entry answers. -/
def entV (x : Int) : Value := if x.natAbs ≤ 1048576 then .tuple #[.int .i64 x, .bool true] else .tuple #[.int .i64 0, .bool false]

set_option maxRecDepth 100000 in
set_option maxHeartbeats 4000000 in
theorem sum_entry {u : Value} {p : Nat × Nat} (w : World) (h : SumAt w u p) (hp : p.1 + p.2 < NatTop) :
    Calls Tryz.prog 41 #[u] w fun e w' => e = .returned (entV (netP p)) ∧ Below w.heap.size w w' := by
  obtain ⟨v1, v2, rfl, h1, h2⟩ := h
  obtain ⟨a1, n1, c1, rfl⟩ := h1.form
  obtain ⟨a2, n2, c2, rfl⟩ := h2.form
  have hBa : Below w.heap.size w (w.alloc (.cells #[.slice a1 n1 c1, .slice a2 n2 c2] 92)) := (Below.refl _ w).alloc (Nat.le_refl _) _
  have hce := two_cells w (.slice a1 n1 c1) (.slice a2 n2 c2) 92
  obtain ⟨X, hX⟩ : ∃ X, w.alloc (.cells #[.slice a1 n1 c1, .slice a2 n2 c2] 92) = X := ⟨_, rfl⟩
  obtain ⟨pb, hpb⟩ : ∃ pb, w.heap.size = pb := ⟨_, rfl⟩
  have hXs : X.heap.size = pb + 1 := by rw [← hX, World.size_alloc, hpb]
  rw [hX] at hce hBa
  have HS : Hid (NatAt X (.slice a1 n1 c1) p.1 ∧ NatAt X (.slice a2 n2 c2) p.2) := ⟨(h1.below hBa).1, (h2.below hBa).1⟩
  rw [hpb] at hce
  have HC := Hid.mk' hce
  have HB : Hid (Below w.heap.size w X ∧ w.heap.size = pb ∧ X.heap.size = pb + 1) := ⟨hBa, hpb, hXs⟩
  have HT : Hid (p.1 < NatTop ∧ p.2 < NatTop) := ⟨by omega, by omega⟩
  have HN : Hid (p.1 + p.2 < NatTop) := hp
  clear h1 h2 hBa hce hp hXs
  obtain ⟨w9, hw9⟩ : ∃ w9, w9 = w := ⟨_, rfl⟩
  subst hw9
  go_enter Tryz.func41, Tryz.ntmps41
  go_upto_region 1 with fail
  try rw [hX]
  try rw [hpb]
  clear hX hpb
  refine region_grow0 (by kernel_rfl) 11 rfl dstB (spB pb (.slice a1 n1 c1) (.slice a2 n2 c2) (p.1 - p.2) (p.2 - p.1)) dstB_inj (fun i hi => by have := dstB_lt i hi; simp; omega) spB_below (by decide +kernel) (fun jo hj LL a w hG hed => ?_) (fun LL a w hG hall => ?_)
  · skip
    have hc0s : pb < X.heap.size := by rw [HB.out.2.2]; omega
    have cc0 := (hG.bel.cell (p := ⟨pb, 0, none⟩) hc0s).trans HC.out.1
    have cc1 := (hG.bel.cell (p := ⟨pb, 1, none⟩) hc0s).trans HC.out.2
    have y1 : a.tmps[1]? = some (.pointer (some ⟨pb, 0, none⟩)) := (hG.oth 1 (fun i hi => by have := dstB_ge i hi; have := dstB_lt i hi; omega)).trans rfl
    have hv : ∀ jj, jj < 12 → jj ∈ edgesOf _ jo → ∃ v, a.tmps[dstB jj]? = some v ∧ (spB pb (.slice a1 n1 c1) (.slice a2 n2 c2) (p.1 - p.2) (p.2 - p.1)) jj w v := fun jj hq hq2 => hG.val jj hq (hed jj hq2)
    match jo, hj with
    | 0, _ =>
      exact op_value rfl rfl (by unfold execOp; simp [go_sem, Act.eval, y1]) ⟨_, rfl, rfl, Below.refl _ _⟩
    | 1, _ =>
      obtain ⟨v0, e0, h0⟩ := hv 0 (by omega) (by decide +kernel)
      have z0 : a.tmps[8]? = some v0 := e0
      obtain rfl : v0 = _ := h0
      exact op_value rfl rfl (by unfold execOp; simp [go_sem, Act.eval, z0, cc0]) ⟨_, rfl, rfl, Below.refl _ _⟩
    | 2, _ =>
      exact op_value rfl rfl (by unfold execOp; simp [go_sem, Act.eval, y1]) ⟨_, rfl, rfl, Below.refl _ _⟩
    | 3, _ =>
      obtain ⟨v2, e2, h2⟩ := hv 2 (by omega) (by decide +kernel)
      have z2 : a.tmps[10]? = some v2 := e2
      obtain rfl : v2 = _ := h2
      exact op_value rfl rfl (by unfold execOp; simp [go_sem, Act.eval, z2, cc1]) ⟨_, rfl, rfl, Below.refl _ _⟩
    | 4, _ =>
      obtain ⟨v1, e1, h1⟩ := hv 1 (by omega) (by decide +kernel)
      have z1 : a.tmps[9]? = some v1 := e1
      obtain rfl : v1 = _ := h1
      obtain ⟨v3, e3, h3⟩ := hv 3 (by omega) (by decide +kernel)
      have z3 : a.tmps[11]? = some v3 := e3
      obtain rfl : v3 = _ := h3
      refine op_call rfl rfl (by unfold execOp; simp [go_sem, Act.eval, z1, z3]) _ (minus_ w (HS.out.1.below hG.bel) (HS.out.2.below hG.bel) HT.out.1 HT.out.2) fun e w' hh => ?_
      obtain ⟨v, rfl, hn, hb⟩ := hh
      exact ⟨v, rfl, v, rfl, hn, hb⟩
    | 5, _ =>
      exact op_value rfl rfl (by unfold execOp; simp [go_sem, Act.eval, y1]) ⟨_, rfl, rfl, Below.refl _ _⟩
    | 6, _ =>
      obtain ⟨v5, e5, h5⟩ := hv 5 (by omega) (by decide +kernel)
      have z5 : a.tmps[13]? = some v5 := e5
      obtain rfl : v5 = _ := h5
      exact op_value rfl rfl (by unfold execOp; simp [go_sem, Act.eval, z5, cc1]) ⟨_, rfl, rfl, Below.refl _ _⟩
    | 7, _ =>
      exact op_value rfl rfl (by unfold execOp; simp [go_sem, Act.eval, y1]) ⟨_, rfl, rfl, Below.refl _ _⟩
    | 8, _ =>
      obtain ⟨v7, e7, h7⟩ := hv 7 (by omega) (by decide +kernel)
      have z7 : a.tmps[15]? = some v7 := e7
      obtain rfl : v7 = _ := h7
      exact op_value rfl rfl (by unfold execOp; simp [go_sem, Act.eval, z7, cc0]) ⟨_, rfl, rfl, Below.refl _ _⟩
    | 9, _ =>
      obtain ⟨v6, e6, h6⟩ := hv 6 (by omega) (by decide +kernel)
      have z6 : a.tmps[14]? = some v6 := e6
      obtain rfl : v6 = _ := h6
      obtain ⟨v8, e8, h8⟩ := hv 8 (by omega) (by decide +kernel)
      have z8 : a.tmps[16]? = some v8 := e8
      obtain rfl : v8 = _ := h8
      refine op_call rfl rfl (by unfold execOp; simp [go_sem, Act.eval, z6, z8]) _ (minus_ w (HS.out.2.below hG.bel) (HS.out.1.below hG.bel) HT.out.2 HT.out.1) fun e w' hh => ?_
      obtain ⟨v, rfl, hn, hb⟩ := hh
      exact ⟨v, rfl, v, rfl, hn, hb⟩
    | 10, _ =>
      obtain ⟨v4, e4, h4⟩ := hv 4 (by omega) (by decide +kernel)
      have z4 : a.tmps[12]? = some v4 := e4
      exact op_value rfl rfl (by unfold execOp; simp [go_sem, Act.eval, z4]) ⟨v4, rfl, h4, Below.refl _ _⟩
    | 11, _ =>
      obtain ⟨v9, e9, h9⟩ := hv 9 (by omega) (by decide +kernel)
      have z9 : a.tmps[17]? = some v9 := e9
      exact op_value rfl rfl (by unfold execOp; simp [go_sem, Act.eval, z9]) ⟨v9, rfl, h9, Below.refl _ _⟩
    | q + 12, hq => exact absurd hq (by omega)
  · skip
    obtain ⟨v0, e0, h0⟩ := hall 0 (by omega)
    obtain ⟨v1, e1, h1⟩ := hall 1 (by omega)
    obtain ⟨v2, e2, h2⟩ := hall 2 (by omega)
    obtain ⟨v3, e3, h3⟩ := hall 3 (by omega)
    obtain ⟨v4, e4, h4⟩ := hall 4 (by omega)
    obtain ⟨v5, e5, h5⟩ := hall 5 (by omega)
    obtain ⟨v6, e6, h6⟩ := hall 6 (by omega)
    obtain ⟨v7, e7, h7⟩ := hall 7 (by omega)
    obtain ⟨v8, e8, h8⟩ := hall 8 (by omega)
    obtain ⟨v9, e9, h9⟩ := hall 9 (by omega)
    obtain ⟨v10, e10, h10⟩ := hall 10 (by omega)
    obtain ⟨v11, e11, h11⟩ := hall 11 (by omega)
    obtain rfl : v0 = _ := h0
    obtain rfl : v1 = _ := h1
    obtain rfl : v2 = _ := h2
    obtain rfl : v3 = _ := h3
    obtain rfl : v5 = _ := h5
    obtain rfl : v6 = _ := h6
    obtain rfl : v7 = _ := h7
    obtain rfl : v8 = _ := h8
    obtain ⟨a5, m5, c5, rfl⟩ := NatAt.form h10
    obtain ⟨a6, m6, c6, rfl⟩ := NatAt.form h11
    have ha : a = ⟨#[.agg #[.slice a1 n1 c1, .slice a2 n2 c2], .pointer (some ⟨pb, 0, none⟩), .int .i64 0, .bool false, .slice a5 m5 c5, .slice a6 m6 c6, undef, undef, .pointer (some ⟨pb, 0, none⟩), .slice a1 n1 c1, .pointer (some ⟨pb, 1, none⟩), .slice a2 n2 c2, v4, .pointer (some ⟨pb, 1, none⟩), .slice a2 n2 c2, .pointer (some ⟨pb, 0, none⟩), .slice a1 n1 c1, v9, undef, undef, undef, undef, undef, undef, undef, undef, undef, undef, undef, undef, undef, undef, undef, undef, undef, undef, undef, undef], []⟩ := by
      refine act_eq (l := [.agg #[.slice a1 n1 c1, .slice a2 n2 c2], .pointer (some ⟨pb, 0, none⟩), .int .i64 0, .bool false, .slice a5 m5 c5, .slice a6 m6 c6, undef, undef, .pointer (some ⟨pb, 0, none⟩), .slice a1 n1 c1, .pointer (some ⟨pb, 1, none⟩), .slice a2 n2 c2, v4, .pointer (some ⟨pb, 1, none⟩), .slice a2 n2 c2, .pointer (some ⟨pb, 0, none⟩), .slice a1 n1 c1, v9, undef, undef, undef, undef, undef, undef, undef, undef, undef, undef, undef, undef, undef, undef, undef, undef, undef, undef, undef, undef]) (by rw [hG.asz]; rfl) (fun q hq => ?_) hG.dfr
      match q, hq with
      | 0, _ => exact (hG.oth 0 (fun i hi => by have := dstB_ge i hi; have := dstB_lt i hi; omega)).trans rfl
      | 1, _ => exact (hG.oth 1 (fun i hi => by have := dstB_ge i hi; have := dstB_lt i hi; omega)).trans rfl
      | 2, _ => exact (hG.oth 2 (fun i hi => by have := dstB_ge i hi; have := dstB_lt i hi; omega)).trans rfl
      | 3, _ => exact (hG.oth 3 (fun i hi => by have := dstB_ge i hi; have := dstB_lt i hi; omega)).trans rfl
      | 4, _ => exact e10
      | 5, _ => exact e11
      | 6, _ => exact (hG.oth 6 (fun i hi => by have := dstB_ge i hi; have := dstB_lt i hi; omega)).trans rfl
      | 7, _ => exact (hG.oth 7 (fun i hi => by have := dstB_ge i hi; have := dstB_lt i hi; omega)).trans rfl
      | 8, _ => exact e0
      | 9, _ => exact e1
      | 10, _ => exact e2
      | 11, _ => exact e3
      | 12, _ => exact e4
      | 13, _ => exact e5
      | 14, _ => exact e6
      | 15, _ => exact e7
      | 16, _ => exact e8
      | 17, _ => exact e9
      | 18, _ => exact (hG.oth 18 (fun i hi => by have := dstB_ge i hi; have := dstB_lt i hi; omega)).trans rfl
      | 19, _ => exact (hG.oth 19 (fun i hi => by have := dstB_ge i hi; have := dstB_lt i hi; omega)).trans rfl
      | 20, _ => exact (hG.oth 20 (fun i hi => by have := dstB_ge i hi; have := dstB_lt i hi; omega)).trans rfl
      | 21, _ => exact (hG.oth 21 (fun i hi => by have := dstB_ge i hi; have := dstB_lt i hi; omega)).trans rfl
      | 22, _ => exact (hG.oth 22 (fun i hi => by have := dstB_ge i hi; have := dstB_lt i hi; omega)).trans rfl
      | 23, _ => exact (hG.oth 23 (fun i hi => by have := dstB_ge i hi; have := dstB_lt i hi; omega)).trans rfl
      | 24, _ => exact (hG.oth 24 (fun i hi => by have := dstB_ge i hi; have := dstB_lt i hi; omega)).trans rfl
      | 25, _ => exact (hG.oth 25 (fun i hi => by have := dstB_ge i hi; have := dstB_lt i hi; omega)).trans rfl
      | 26, _ => exact (hG.oth 26 (fun i hi => by have := dstB_ge i hi; have := dstB_lt i hi; omega)).trans rfl
      | 27, _ => exact (hG.oth 27 (fun i hi => by have := dstB_ge i hi; have := dstB_lt i hi; omega)).trans rfl
      | 28, _ => exact (hG.oth 28 (fun i hi => by have := dstB_ge i hi; have := dstB_lt i hi; omega)).trans rfl
      | 29, _ => exact (hG.oth 29 (fun i hi => by have := dstB_ge i hi; have := dstB_lt i hi; omega)).trans rfl
      | 30, _ => exact (hG.oth 30 (fun i hi => by have := dstB_ge i hi; have := dstB_lt i hi; omega)).trans rfl
      | 31, _ => exact (hG.oth 31 (fun i hi => by have := dstB_ge i hi; have := dstB_lt i hi; omega)).trans rfl
      | 32, _ => exact (hG.oth 32 (fun i hi => by have := dstB_ge i hi; have := dstB_lt i hi; omega)).trans rfl
      | 33, _ => exact (hG.oth 33 (fun i hi => by have := dstB_ge i hi; have := dstB_lt i hi; omega)).trans rfl
      | 34, _ => exact (hG.oth 34 (fun i hi => by have := dstB_ge i hi; have := dstB_lt i hi; omega)).trans rfl
      | 35, _ => exact (hG.oth 35 (fun i hi => by have := dstB_ge i hi; have := dstB_lt i hi; omega)).trans rfl
      | 36, _ => exact (hG.oth 36 (fun i hi => by have := dstB_ge i hi; have := dstB_lt i hi; omega)).trans rfl
      | 37, _ => exact (hG.oth 37 (fun i hi => by have := dstB_ge i hi; have := dstB_lt i hi; omega)).trans rfl
      | q + 38, hq => exact absurd hq (by simp)
    have HM : Hid (NatAt w (.slice a5 m5 c5) (p.1 - p.2) ∧ NatAt w (.slice a6 m6 c6) (p.2 - p.1) ∧ Below w9.heap.size w9 w) := ⟨h10, h11, HB.out.1.trans (hG.bel.mono HB.out.1.size)⟩
    have hpl := plus_ w h10 h11 (by have := HN.out; omega) (by have := HN.out; omega)
    rename_i hK
    refine hK _ _ ?_
    rw [ha]
    clear ha hG hall hK h4 h9 h10 h11 e0 e1 e2 e3 e4 e5 e6 e7 e8 e9 e10 e11
    have HE : Hid ((netP p).natAbs = (p.1 - p.2) + (p.2 - p.1)) := by
      show _ = _
      unfold netP; omega
    obtain ⟨s, hs⟩ : ∃ s, (p.1 - p.2) + (p.2 - p.1) = s := ⟨_, rfl⟩
    have HSS : Hid ((p.1 - p.2) + (p.2 - p.1) = s) := hs
    rw [hs] at hpl HE
    clear hs
    rcases Nat.lt_or_ge s WB with hw | hw
    · have HW := Hid.mk' hw
      by_cases hle : s ≤ 1048576
      · have hiz : ∀ V, Below w.heap.size w V → Calls Tryz.prog 75 #[.slice a5 m5 c5] V fun e w' => e = .returned (.bool (p.1 - p.2 == 0)) ∧ w' = V := fun V hV => isZero_ V (HM.out.1.below hV)
        have HIZ := Hid.mk' hiz
        have hng : decide ((1048576 : Int) < (s : Int)) = false := decide_eq_false (by omega)
        clear hiz hw
        go_upto_region 3 with (first
          | (go_at_call 73; refine hpl.mono ?_; rintro e V2 ⟨v7, rfl, hn, hb⟩; obtain ⟨a7, m7, c7, rfl⟩ := hn.form; have hwd := word_ V2 hn HW.out; have HB2 : Hid (Below w.heap.size w V2) := hb; clear hpl hn hb)
          | (go_at_call 74; refine hwd.mono ?_; rintro e V3 ⟨rfl, hv⟩; obtain rfl : V2 = V3 := hv.symm; clear hv hwd)
          | fail)
        have hi := HIZ.out V2 HB2.out
        by_cases hz : p.1 - p.2 = 0
        · have HV : Hid (entV (netP p) = .tuple #[.int .i64 (-(s : Int)), .bool true]) := by
            show _ = _
            unfold entV
            rw [if_pos (by rw [HE.out]; exact hle)]
            have : netP p = -(s : Int) := by have := HSS.out; unfold netP; omega
            rw [this]
          rw [show (p.1 - p.2 == 0) = true from by simp [hz]] at hi
          have hle2 : (s : Int) ≤ 1048576 := by omega
          clear hz hle
          go_wp2_with (first
            | (go_at_call 75; refine hi.mono ?_; rintro e V4 ⟨rfl, hv⟩; obtain rfl : V2 = V4 := hv.symm; clear hv hi)
            | fail)
          go_ret2
          rw [HV.out]
          exact ⟨rfl, HM.out.2.2.trans (HB2.out.mono HM.out.2.2.size)⟩
        · have HV : Hid (entV (netP p) = .tuple #[.int .i64 (s : Int), .bool true]) := by
            show _ = _
            unfold entV
            rw [if_pos (by rw [HE.out]; exact hle)]
            have : netP p = (s : Int) := by have := HSS.out; unfold netP; omega
            rw [this]
          rw [show (p.1 - p.2 == 0) = false from beq_false_of_ne hz] at hi
          have hle2 : (s : Int) ≤ 1048576 := by omega
          clear hz hle
          go_wp2_with (first
            | (go_at_call 75; refine hi.mono ?_; rintro e V4 ⟨rfl, hv⟩; obtain rfl : V2 = V4 := hv.symm; clear hv hi)
            | fail)
          go_ret2
          rw [HV.out]
          exact ⟨rfl, HM.out.2.2.trans (HB2.out.mono HM.out.2.2.size)⟩
      · have HV : Hid (entV (netP p) = .tuple #[.int .i64 0, .bool false]) := by
          show _ = _
          unfold entV
          rw [if_neg (by rw [HE.out]; exact hle)]
        have hng : decide ((1048576 : Int) < (s : Int)) = true := decide_eq_true (by omega)
        clear hw hle
        go_wp2_with (first
          | (go_at_call 73; refine hpl.mono ?_; rintro e V2 ⟨v7, rfl, hn, hb⟩; obtain ⟨a7, m7, c7, rfl⟩ := hn.form; have hwd := word_ V2 hn HW.out; have HB2 : Hid (Below w.heap.size w V2) := hb; clear hpl hn hb)
          | (go_at_call 74; refine hwd.mono ?_; rintro e V3 ⟨rfl, hv⟩; obtain rfl : V2 = V3 := hv.symm; clear hv hwd)
          | fail)
        go_ret2
        rw [HV.out]
        exact ⟨rfl, HM.out.2.2.trans (HB2.out.mono HM.out.2.2.size)⟩
    · have HV : Hid (entV (netP p) = .tuple #[.int .i64 0, .bool false]) := by
        show _ = _
        unfold entV
        rw [if_neg (by rw [HE.out]; unfold WB at hw; omega)]
      have HWW : Hid (WB ≤ s ∧ s < NatTop) := ⟨hw, by have := HN.out; have := HSS.out; omega⟩
      clear hw
      go_wp2_with (first
        | (go_at_call 73; refine hpl.mono ?_; rintro e V2 ⟨v7, rfl, hn, hb⟩; obtain ⟨a7, m7, c7, rfl⟩ := hn.form; have hwd := word_great V2 hn HWW.out.1 HWW.out.2; have HB2 : Hid (Below w.heap.size w V2) := hb; clear hpl hn hb)
        | (go_at_call 74; refine hwd.mono ?_; rintro e V3 ⟨rfl, hv⟩; obtain rfl : V2 = V3 := hv.symm; clear hv hwd)
        | fail)
      go_ret2
      rw [HV.out]
      exact ⟨rfl, HM.out.2.2.trans (HB2.out.mono HM.out.2.2.size)⟩

end Go.Proofs.YtnnkmkhamipfiaaGreatDoor
