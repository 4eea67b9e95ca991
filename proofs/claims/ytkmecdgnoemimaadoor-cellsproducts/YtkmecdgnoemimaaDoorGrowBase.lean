/- What the reference's IndexOf answers: where a face stands. The reference's grower: what it holds, and what a call on it may change. -/
import Derived.Test.YtkmecdgnoemimaaDoorFacetsOf
import Derived.Test.YtkmecdgnoemimaaDoorProductGood
namespace Go.Proofs.YtkmecdgnoemimaaDoor
open Go.RowKit Go.Sort

set_option maxRecDepth 100000 in
theorem index_of (va vf : Value) (all : List (List Int)) (f : List Int) (w : World) (ha : Rows w va all) (hf : Ints w vf f) (hl : all.length ≤ 1000) (hx : ∀ x ∈ all, x.length ≤ 1000000) :
    Calls Tryd.prog 57 #[va, vf] w fun e w' => ∃ i : Int, e = .returned (.int .i64 i) ∧ (0 ≤ i ↔ f ∈ all) ∧ -1 ≤ i ∧ ∃ q, w' = w.drewN q := by
  obtain ⟨a, ca, rfl, -, hc⟩ := ha.open_
  have HX : Hid (∀ x ∈ all, x.length ≤ 1000000) := hx
  have HFI : Hid (Ints w vf f) := hf
  obtain ⟨af, cf, rfl, -, -⟩ := hf.open_
  clear hx ha hf
  go_enter Tryd.func57, Tryd.ntmps57
  go_wp2
  go_loopw [5] (fun p wr => ∃ k n : Nat, k ≤ all.length ∧ p = .int .i64 k ∧ wr = w.drewN n ∧ ∀ x ∈ all.take k, x ≠ f)
    (fun p _ => all.length - (intOf p).toNat)
  case atStart => exact ⟨0, 0, by omega, rfl, rfl, by simp⟩
  case round =>
    obtain ⟨k, n, hk, rfl, hw, hno⟩ := hrel
    have HW : Hid (wr = w.drewN n) := hw
    have HN : Hid (∀ x ∈ all.take k, x ≠ f) := hno
    by_cases hlt : k < all.length
    · obtain ⟨b, o, rfl, -, hb, c⟩ := hc (by omega)
      obtain ⟨a1, p1, g1, i1⟩ := c k hlt
      have hlen : (all[k]?.getD []).length ≤ 1000000 := HX.out _ (by rw [List.getElem?_eq_getElem hlt]; simp)
      have hmm : all[k]?.getD [] ∈ all := by rw [List.getElem?_eq_getElem hlt]; simp
      obtain ⟨x, hxe⟩ : ∃ x, all[k]?.getD [] = x := ⟨_, rfl⟩
      rw [hxe] at g1 i1 hlen hmm
      have g2 : wr.cell? ⟨b, o + k, none⟩ = some (.slice a1 x.length p1) := by rw [hw]; exact g1
      have hsi := same_ints (.slice a1 x.length p1) (.slice af f.length cf) x f wr (by rw [hw]; exact i1) (by rw [hw]; exact HFI.out) hlen
      have HXE : Hid (all[k]?.getD [] = x) := hxe
      clear hxe i1 g1 hc c hw hno
      by_cases he : x = f
      · rw [decide_eq_true he] at hsi
        have HM : Hid (f ∈ all) := by rw [← he]; exact hmm
        clear he
        go_wp2_with fail
        refine hsi.mono ?_
        rintro e w2 ⟨rfl, q, rfl⟩
        clear hsi
        go_wp2
        go_ret
        exact ⟨k, rfl, ⟨fun _ => HM.out, fun _ => by omega⟩, by omega, n + q, by rw [HW.out, World.drewN_drewN]⟩
      · rw [decide_eq_false he] at hsi
        have HNE : Hid (¬ x = f) := he
        clear he
        go_wp2_with fail
        refine hsi.mono ?_
        rintro e w2 ⟨rfl, q, rfl⟩
        clear hsi
        go_wp2
        go_roundw
        case rel =>
          refine ⟨k + 1, n + q, by omega, by go_num, by rw [HW.out, World.drewN_drewN], fun y hy => ?_⟩
          rw [List.take_add_one, List.getElem?_eq_getElem hlt] at hy
          rcases List.mem_append.1 hy with h | h
          · exact HN.out y h
          · have e : all[k] = x := by have := HXE.out; rwa [List.getElem?_eq_getElem hlt, Option.getD_some] at this
            simp at h; rw [h, e]; exact HNE.out
        case measure => simp [intOf]; omega
    · obtain rfl : k = all.length := by omega
      have hno' := HN.out
      rw [List.take_length] at hno'
      have HNN : Hid (∀ x ∈ all, x ≠ f) := hno'
      clear hc hno hno'
      go_wp2
      go_ret
      exact ⟨-1, rfl, ⟨fun h => by omega, fun h => absurd rfl (HNN.out f h)⟩, by omega, n, rfl⟩

end Go.Proofs.YtkmecdgnoemimaaDoor

namespace Go.Proofs.YtkmecdgnoemimaaDoor
open Go.RowKit Go.Shelf Go.Sort Go.Maps Go.Deep

/-- What a call on the grower leaves as it is. -/
def Rest (P : Nat) (v : Value) (W W' : World) : Prop := W.heap.size ≤ W'.heap.size ∧ ∀ b, b < W.heap.size → b ≠ P → some b ≠ v.ownBlock → W'.heap[b]? = W.heap[b]?
/-- The sets lie where they lay, or in new memory. -/
def OwnNext (W : World) (v v' : Value) : Prop := v'.ownBlock = v.ownBlock ∨ ∃ b, v'.ownBlock = some b ∧ W.heap.size ≤ b
theorem Rest.refl (P : Nat) (v : Value) (W : World) : Rest P v W W := ⟨Nat.le_refl _, fun _ _ _ _ => rfl⟩
theorem Rest.of_below {P : Nat} {v : Value} {W W' : World} (h : Below W.heap.size W W') : Rest P v W W' := ⟨h.size, fun b hb _ _ => h.block b hb⟩
theorem OwnNext.refl (W : World) (v : Value) : OwnNext W v v := .inl rfl
theorem OwnNext.far {W : World} {v v' : Value} (h : OwnNext W v v') {b : Nat} (hb : b < W.heap.size) (hne : some b ≠ v.ownBlock) : some b ≠ v'.ownBlock := fun e => by
  rcases h with h | ⟨c, h, hc⟩
  · exact hne (e.trans h)
  · rw [h] at e; cases e; omega
theorem Rest.trans {P : Nat} {v v' : Value} {W W' W'' : World} (h : Rest P v W W') (ho : OwnNext W v v') (k : Rest P v' W' W'') : Rest P v W W'' :=
  ⟨Nat.le_trans h.1 k.1, fun b hb hP hv => (k.2 b (by have := h.1; omega) hP (ho.far hb hv)).trans (h.2 b hb hP hv)⟩
theorem OwnNext.trans {W W' : World} {v v' v'' : Value} (h : OwnNext W v v') (k : OwnNext W' v' v'') (hs : W.heap.size ≤ W'.heap.size) : OwnNext W v v'' := by
  rcases k with k | ⟨c, k, hc⟩
  · rcases h with h | ⟨b, h, hb⟩
    · exact .inl (k.trans h)
    · exact .inr ⟨b, k.trans h, hb⟩
  · exact .inr ⟨c, k, by omega⟩
/-- Numbers that no call on the grower changes. -/
def SetIn (P : Nat) (v : Value) (W : World) (u : Value) (x : List Int) : Prop := IntsIn (fun b => P + 1 ≤ b ∧ some b ≠ v.ownBlock) W u x
theorem SetIn.rest {P : Nat} {v v' u : Value} {W W' : World} {x : List Int} (h : SetIn P v W u x) (hr : Rest P v W W') (ho : OwnNext W v v') : SetIn P v' W' u x := by
  have h' : IntsIn (fun b => P + 1 ≤ b ∧ some b ≠ v.ownBlock ∧ some b ≠ v'.ownBlock) W u x := SliceIn.mono h (fun b hb hne => ⟨hne.1, hne.2, ho.far hb hne.2⟩)
  have h'' : IntsIn (fun b => P + 1 ≤ b ∧ some b ≠ v.ownBlock ∧ some b ≠ v'.ownBlock) W' u x := SliceIn.keep h' (fun b hb hne => hr.2 b hb (by have := hne.1; omega) hne.2.1)
  exact SliceIn.mono h'' (fun b _ hne => ⟨hne.1, hne.2.2⟩)
theorem SetIn.below {P : Nat} {v u : Value} {W W' : World} {x : List Int} (h : SetIn P v W u x) (hB : Below W.heap.size W W') : SetIn P v W' u x := SliceIn.below h hB
theorem SetIn.nil (P : Nat) (v : Value) (W : World) : SetIn P v W (.slice none 0 0) [] := SliceIn.nil _ _
theorem SetIn.ints {P : Nat} {v u : Value} {W : World} {x : List Int} (h : SetIn P v W u x) : Ints W u x := SliceIn.mono h (fun _ _ _ => trivial)

/-- The grower. -/
structure GrowS (P : Nat) (w0 : World) (va vb vv vw : Value) (W : World) (vo : Value) (outs : List (List Int)) : Prop where
  under : Below P w0 W
  c0 : W.cell? ⟨P, 0, none⟩ = some va
  c1 : W.cell? ⟨P, 1, none⟩ = some vb
  c2 : W.cell? ⟨P, 2, none⟩ = some vv
  c3 : W.cell? ⟨P, 3, none⟩ = some vw
  c4 : W.cell? ⟨P, 4, none⟩ = some (.int .i64 600)
  c5 : W.cell? ⟨P, 5, none⟩ = some vo
  z5 : W.frozen? ⟨P, 5, none⟩ = false
  own : OwnRows (P + 1) W vo outs
theorem GrowS.lt {P : Nat} {w0 : World} {va vb vv vw : Value} {W : World} {vo : Value} {outs : List (List Int)} (h : GrowS P w0 va vb vv vw W vo outs) : P < W.heap.size := cell_lt h.c0
theorem GrowS.below {P : Nat} {w0 : World} {va vb vv vw : Value} {W W' : World} {vo : Value} {outs : List (List Int)} (h : GrowS P w0 va vb vv vw W vo outs) (hB : Below W.heap.size W W') : GrowS P w0 va vb vv vw W' vo outs where
  under := h.under.trans (hB.mono (Nat.le_of_lt h.lt))
  c0 := (hB.cell (p := ⟨P, 0, none⟩) h.lt).trans h.c0
  c1 := (hB.cell (p := ⟨P, 1, none⟩) h.lt).trans h.c1
  c2 := (hB.cell (p := ⟨P, 2, none⟩) h.lt).trans h.c2
  c3 := (hB.cell (p := ⟨P, 3, none⟩) h.lt).trans h.c3
  c4 := (hB.cell (p := ⟨P, 4, none⟩) h.lt).trans h.c4
  c5 := (hB.cell (p := ⟨P, 5, none⟩) h.lt).trans h.c5
  z5 := (hB.frozen (p := ⟨P, 5, none⟩) h.lt).trans h.z5
  own := h.own.below hB
/-- What a call on the grower does. -/
structure GrowTo (P : Nat) (w0 : World) (va vb vv vw : Value) (W : World) (vo : Value) (W' : World) (vo' : Value) (outs : List (List Int)) : Prop where
  st : GrowS P w0 va vb vv vw W' vo' outs
  rest : Rest P vo W W'
  next : OwnNext W vo vo'
theorem GrowTo.trans {P : Nat} {w0 : World} {va vb vv vw : Value} {W W' W'' : World} {vo vo' vo'' : Value} {outs outs' : List (List Int)} (h : GrowTo P w0 va vb vv vw W vo W' vo' outs) (k : GrowTo P w0 va vb vv vw W' vo' W'' vo'' outs') : GrowTo P w0 va vb vv vw W vo W'' vo'' outs' :=
  ⟨k.st, h.rest.trans h.next k.rest, h.next.trans k.next h.rest.1⟩
theorem GrowTo.below {P : Nat} {w0 : World} {va vb vv vw : Value} {W W' W'' : World} {vo vo' : Value} {outs : List (List Int)} (h : GrowTo P w0 va vb vv vw W vo W' vo' outs) (hB : Below W'.heap.size W' W'') : GrowTo P w0 va vb vv vw W vo W'' vo' outs :=
  h.trans ⟨h.st.below hB, Rest.of_below hB, OwnNext.refl _ _⟩
theorem GrowS.refl {P : Nat} {w0 : World} {va vb vv vw : Value} {W : World} {vo : Value} {outs : List (List Int)} (h : GrowS P w0 va vb vv vw W vo outs) : GrowTo P w0 va vb vv vw W vo W vo outs := ⟨h, Rest.refl _ _ _, OwnNext.refl _ _⟩

/-- A set more. -/
theorem GrowS.push {P : Nat} {w0 : World} {va vb vv vw : Value} {W w2 : World} {vo v2 u : Value} {outs : List (List Int)} {x : List Int} {vs : List Value} {o : Obj} (h : GrowS P w0 va vb vv vw W vo outs)
    (ho1 : W.ownsRow (P + 1) 37 1 vo outs.length vs) (ho2 : ∀ (k' : Nat) (u : Value) (x : List Int), vs[k']? = some u → outs[k']? = some x → IntsIn (fun b => P + 1 ≤ b ∧ some b ≠ vo.ownBlock) W u x)
    (hu : SetIn P vo W u x) (hown : w2.ownsRow (P + 1) 37 1 v2 (outs.length + 1) (vs ++ [u])) (hg : (W.alloc o).grownBy w2 vo.ownBlock) (hl : v2.ownBlock = vo.ownBlock ∨ v2.ownBlock = some (W.alloc o).heap.size) :
    GrowTo P w0 va vb vv vw W vo (w2.setCell ⟨P, 5, none⟩ v2) v2 (outs ++ [x]) := by
  have hpush := OwnRows.push ho1 ho2 hu hown hg hl
  have hlt := h.lt
  have hs2 := hg.size
  rw [World.size_alloc] at hs2
  have hne : some P ≠ vo.ownBlock := fun e => by have := (h.own.block e.symm).1; omega
  have far : ∀ k v, W.cell? ⟨P, k, none⟩ = some v → w2.cell? ⟨P, k, none⟩ = some v := fun k v hc => far_cell hg (p := ⟨P, k, none⟩) hc hne
  have d5 := far_kept hg (p := ⟨P, 5, none⟩) ⟨h.c5, h.z5⟩ hne
  have oth : ∀ k v, k ≠ 5 → W.cell? ⟨P, k, none⟩ = some v → (w2.setCell ⟨P, 5, none⟩ v2).cell? ⟨P, k, none⟩ = some v := fun k v hk hc => by
    rw [World.cell?_setCell_other _ _ _ _ (fun e => hk (by have := congrArg Addr.off e; simpa using this.symm))]; exact far k v hc
  refine ⟨⟨?_, oth 0 _ (by omega) h.c0, oth 1 _ (by omega) h.c1, oth 2 _ (by omega) h.c2, oth 3 _ (by omega) h.c3, oth 4 _ (by omega) h.c4, World.cell?_setCell_same' _ _ _ (by rw [d5.1]; rfl), by rw [World.frozen?_setCell]; exact d5.2, hpush.setCell (p := ⟨P, 5, none⟩) (by show P < P + 1; omega) _⟩, ⟨?_, ?_⟩, ?_⟩
  · have hB2 : Below P w0 w2 := (h.under.alloc (Nat.le_of_lt hlt) o).grown hg (by simp; omega) (fun j hj => by have := (h.own.block hj).1; omega)
    exact hB2.setCell (p := ⟨P, 5, none⟩) (Nat.le_refl _) _
  · rw [World.size_setCell]; omega
  · intro b hb hbP hbv
    rw [blk_setCell_other w2 ⟨P, 5, none⟩ v2 b (fun e => hbP (by first | exact e | exact e.symm)), hg.block b (by simp; omega) hbv]
    exact (World.grownBy_alloc W o none).block b hb (by simp)
  · rcases hl with hl | hl
    · exact .inl hl
    · exact .inr ⟨_, hl, by simp⟩

/-- What one pair tells. -/
def growC (p q : List (List Int)) (V W : List Int) (n : Nat) (set : List Int) (x y : Nat) (f g : List Int) (c : Nat × Nat) : List (List Int) :=
  if set ≠ [] ∧ c = (x, y) then [] else
  if insR (vAt V c.1) f ∈ p ∧ insR (vAt W c.2) g ∈ q then growL p q V W n (set ++ [code W.length c]) c.1 c.2 (insR (vAt V c.1) f) (insR (vAt W c.2) g) else []
/-- What a row of pairs tells. -/
def growRow (p q : List (List Int)) (V W : List Int) (n : Nat) (set : List Int) (x y : Nat) (f g : List Int) (i : Nat) : List (List Int) := (List.range' y (W.length - y)).flatMap (fun k => growC p q V W n set x y f g (i, k))
theorem growL_rows (p q : List (List Int)) (V W : List Int) (n : Nat) (set : List Int) (x y : Nat) (f g : List Int) :
    growL p q V W (n + 1) set x y f g = (if set = [] then [] else [set]) ++ (List.range' x (V.length - x)).flatMap (growRow p q V W n set x y f g) := by
  simp only [growL, pairsFrom, List.flatMap_assoc]
  congr 1
  have cong : ∀ {l : List Nat} {u v : Nat → List (List Int)}, (∀ x ∈ l, u x = v x) → l.flatMap u = l.flatMap v := by
    intro l u v h
    induction l with
    | nil => rfl
    | cons x l ih => rw [List.flatMap_cons, List.flatMap_cons, h x (by simp), ih (fun y hy => h y (by simp [hy]))]
  refine cong (fun i _ => ?_)
  rw [List.flatMap_map]
  rfl
theorem flat_snoc {β : Type} (x j : Nat) (F : Nat → List β) : (List.range' x (j + 1)).flatMap F = (List.range' x j).flatMap F ++ F (x + j) := by
  rw [List.range'_1_concat, List.flatMap_append]; simp
theorem take_again {β : Type} (n : Nat) (L M : List β) : ((L.take n) ++ M).take n = (L ++ M).take n := by
  rw [List.take_append, List.take_append, List.take_take, Nat.min_self, List.length_take]
  congr 1
  rcases Nat.le_total L.length n with h | h
  · rw [Nat.min_eq_right h]
  · rw [Nat.min_eq_left h, Nat.sub_self, Nat.sub_eq_zero_of_le h]
theorem insR_len (v : Int) : ∀ l : List Int, (insR v l).length ≤ l.length + 1
  | [] => by simp [insR]
  | a :: l => by
    have := insR_len v l
    simp only [insR]
    split
    · simp
    · split
      · simp
      · simp; omega

end Go.Proofs.YtkmecdgnoemimaaDoor
