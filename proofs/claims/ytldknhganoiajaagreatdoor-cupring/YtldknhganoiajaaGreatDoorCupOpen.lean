/- The shape of a complex, made. -/
import Derived.Test.YtldknhganoiajaaGreatDoorCupShape
import Derived.Deep.Light
namespace Go.Proofs.YtldknhganoiajaaGreatDoor
open Go.RowKit Go.Sort Go.Maps Go.Deep

theorem faces_good {a : Nat → Addr} {s : Nat → ByteArray} {l all : List (List Int)} (hg : Good l all) (vl : Value) (d : Int) (w : World) (hE : Errs a s w) (hl : Rows w vl l) (hll : l.length ≤ 100000) (hle : ∀ x ∈ l, x.length ≤ 1000) :
    Calls Tryz.prog 33 #[.agg #[vl], .int .i64 d] w fun e w' => ∃ v, e = .returned (.tuple #[v, .nilIface]) ∧ RowsIn (fun b => w.heap.size ≤ b) w' v (ofDim all d) ∧ Below w.heap.size w w' := by
  refine (faces_own vl l d w hE hl hll hle).mono ?_
  rintro e w' ⟨hB, ⟨j, hb', rfl⟩ | ⟨all', v, g', rfl, vs, h1, h2⟩⟩
  · exact (bad_good hb' hg).elim
  · obtain rfl := good_one hg g'
    exact ⟨v, rfl, ⟨vs, slice_of_owns h1 (fun b hb _ => hb), by have := h1.1; simpa using this, fun k u x hu hx => SliceIn.mono (h2 k u x hu hx) (fun _ _ h => h.1)⟩, hB⟩
theorem vector_good {a : Nat → Addr} {s : Nat → ByteArray} {l all : List (List Int)} (hg : Good l all) (vl : Value) (w : World) (hE : Errs a s w) (hl : Rows w vl l) (hll : l.length ≤ 100000) (hle : ∀ x ∈ l, x.length ≤ 1000) :
    Calls Tryz.prog 32 #[.agg #[vl]] w fun e w' => (∃ b c, e = .returned (.tuple #[.slice b (topN all) c, .nilIface])) ∧ Below w.heap.size w w' := by
  refine (vector_call vl l w hE hl hll hle).mono ?_
  rintro e w' ⟨hB, ⟨j, hb', rfl⟩ | ⟨all', v, g', rfl, hi⟩⟩
  · exact (bad_good hb' hg).elim
  · obtain rfl := good_one hg g'
    obtain ⟨b, c, rfl, -⟩ := hi.open_
    rw [vecOf_length]
    exact ⟨⟨b, c, rfl⟩, hB⟩
theorem vector_bad {a : Nat → Addr} {s : Nat → ByteArray} {l : List (List Int)} {i : Nat} (hb : BadAt l i) (vl : Value) (w : World) (hE : Errs a s w) (hl : Rows w vl l) (hll : l.length ≤ 100000) (hle : ∀ x ∈ l, x.length ≤ 1000) :
    Calls Tryz.prog 32 #[.agg #[vl]] w fun e w' => e = .returned (.tuple #[.slice none 0 0, .iface 179 (.pointer (some (a i)))]) ∧ Below w.heap.size w w' := by
  refine (vector_call vl l w hE hl hll hle).mono ?_
  rintro e w' ⟨hB, ⟨j, hb', rfl⟩ | ⟨all', v, g', rfl, hi⟩⟩
  · rw [bad_one hb hb']; exact ⟨rfl, hB⟩
  · exact (bad_good hb g').elim

theorem cells_two (w : World) (x y : Value) (t : TypeId) : ((w.alloc (.cells #[x, y] t)).cell? ⟨w.heap.size, 0, none⟩ = some x ∧ (w.alloc (.cells #[x, y] t)).cell? ⟨w.heap.size, 1, none⟩ = some y) ∧ ∀ o, (w.alloc (.cells #[x, y] t)).frozen? ⟨w.heap.size, o, none⟩ = false := by
  have h := World.alloc_heap_new w (.cells #[x, y] t)
  refine ⟨⟨?_, ?_⟩, fun o => ?_⟩
  · simp only [World.cell?, h]; rfl
  · simp only [World.cell?, h]; rfl
  · simp only [World.frozen?, h]; simp

/-- Two cells of a block are written. -/
theorem two_set {W : World} {P : Nat} {x0 y0 : Value} (c0 : W.cell? ⟨P, 0, none⟩ = some x0) (c1 : W.cell? ⟨P, 1, none⟩ = some y0) (x y : Value) :
    ((W.setCell ⟨P, 0, none⟩ x).setCell ⟨P, 1, none⟩ y).cell? ⟨P, 0, none⟩ = some x ∧ ((W.setCell ⟨P, 0, none⟩ x).setCell ⟨P, 1, none⟩ y).cell? ⟨P, 1, none⟩ = some y := by
  have e1 : (W.setCell ⟨P, 0, none⟩ x).cell? ⟨P, 0, none⟩ = some x := World.cell?_setCell_same' _ _ _ (by rw [c0]; rfl)
  have e2 : (W.setCell ⟨P, 0, none⟩ x).cell? ⟨P, 1, none⟩ = some y0 := (World.cell?_setCell_other _ _ _ _ (fun e => by have := congrArg Addr.off e; simp at this)).trans c1
  exact ⟨(World.cell?_setCell_other _ _ _ _ (fun e => by have := congrArg Addr.off e; simp at this)).trans e1, World.cell?_setCell_same' _ _ _ (by rw [e2]; rfl)⟩
theorem below_cells2 {B : Nat} {w W : World} (h : Below B w W) {P : Nat} (hP : B ≤ P) (x y : Value) : Below B w ((W.setCell ⟨P, 0, none⟩ x).setCell ⟨P, 1, none⟩ y) := (h.setCell (p := ⟨P, 0, none⟩) hP x).setCell (p := ⟨P, 1, none⟩) hP y

theorem OwnTexts.kept {base : Nat} {w w' : World} {v : Value} {xss : List (List (List UInt8))} {g : Nat} (h : OwnTexts base w v xss) (hg : w.grownBy w' (some g)) (hlt : g < base) : OwnTexts base w' v xss := by
  obtain ⟨vs, h1, h2⟩ := h
  refine ⟨vs, h1.kept hg ?_, fun k u x hu hx => SliceIn.keep (h2 k u x hu hx) (fun b hb hs => hg.block b hb (fun e => by cases e; omega))⟩
  cases e : v.ownBlock with
  | none => exact .inl rfl
  | some b => exact .inr fun e' => by cases e'; have := (h1.lt _ e).1; omega

/-- All faces of the dimensions below K. -/
def upToD (all : List (List Int)) (K : Nat) : List (List Int) := (List.range K).flatMap (fun d => ofDim all ((d : Nat) : Int))
theorem upToD_succ (all : List (List Int)) (K : Nat) : upToD all (K + 1) = upToD all K ++ ofDim all (K : Int) := by simp [upToD, List.range_succ, List.flatMap_append]
theorem upToD_mem {all : List (List Int)} {K : Nat} {x : List Int} : x ∈ upToD all K ↔ x ∈ all ∧ ∃ d, d < K ∧ (x.length : Int) - 1 = (d : Int) := by
  unfold upToD ofDim
  simp only [List.mem_flatMap, List.mem_range, List.mem_filter, decide_eq_true_eq]
  constructor
  · rintro ⟨d, h1, h2, h3⟩; exact ⟨h2, d, h1, h3⟩
  · rintro ⟨h2, d, h1, h3⟩; exact ⟨d, h1, h2, h3⟩
theorem facesT_take {all : List (List Int)} {K : Nat} (hK : K < topN all) : (facesT all).take (K + 1) = (facesT all).take K ++ [(ofDim all (K : Int)).map txt] := by
  have hl : K < (facesT all).length := by simp [facesT]; exact hK
  rw [List.take_add_one, List.getElem?_eq_getElem hl]
  simp [facesT]

/-- Where open stands, but for the numbers. -/
structure OpFix (w : World) (all : List (List Int)) (vl : Value) (P g Q K : Nat) (vF : Value) (W : World) : Prop where
  box : W.cell? ⟨w.heap.size, 0, none⟩ = some vl
  res0 : W.cell? ⟨P, 0, none⟩ = some (.slice none 0 0)
  res1 : W.cell? ⟨P, 1, none⟩ = some (.map none)
  resz : ∀ o, W.frozen? ⟨P, o, none⟩ = false
  st0 : W.cell? ⟨Q, 0, none⟩ = some vF
  st1 : W.cell? ⟨Q, 1, none⟩ = some (.map (some g))
  stz : ∀ o, W.frozen? ⟨Q, o, none⟩ = false
  rows : OwnTexts (Q + 1) W vF ((facesT all).take K)
  below : Below w.heap.size w W
  ord : w.heap.size < P ∧ P < g ∧ g < Q ∧ Q < W.heap.size
theorem OpFix.kept {w : World} {all : List (List Int)} {vl : Value} {P g Q K : Nat} {vF : Value} {W W' : World} (h : OpFix w all vl P g Q K vF W) (hg : W.grownBy W' (some g)) : OpFix w all vl P g Q K vF W' where
  box := (hg.cell h.box (by have := h.ord; simp; omega))
  res0 := (hg.cell h.res0 (by have := h.ord; simp; omega))
  res1 := (hg.cell h.res1 (by have := h.ord; simp; omega))
  resz := fun o => (hg.frozen_far ⟨P, o, none⟩ (by have := h.ord; show P < _; omega) (by have := h.ord; simp; omega)).trans (h.resz o)
  st0 := (hg.cell h.st0 (by have := h.ord; simp; omega))
  st1 := (hg.cell h.st1 (by have := h.ord; simp; omega))
  stz := fun o => (hg.frozen_far ⟨Q, o, none⟩ (by have := h.ord; show Q < _; omega) (by have := h.ord; simp; omega)).trans (h.stz o)
  rows := h.rows.kept hg (by have := h.ord; omega)
  below := h.below.grown hg h.below.size (fun k hk => by cases hk; have := h.ord; omega)
  ord := by have := h.ord; have := hg.size; omega
theorem OpFix.later {w : World} {all : List (List Int)} {vl : Value} {P g Q K : Nat} {vF : Value} {W W' : World} (h : OpFix w all vl P g Q K vF W) (hB : Below W.heap.size W W') : OpFix w all vl P g Q K vF W' := h.kept ((Below.grownBy hB).but _)
/-- .. one dimension more. -/
theorem OpFix.more {w : World} {all : List (List Int)} {vl : Value} {P g Q K : Nat} {vF v2 u : Value} {W W2 : World} {o : Obj} {vs : List Value} (h : OpFix w all vl P g Q K vF W) (hK : K < topN all)
    (h1 : W.ownsRow (Q + 1) 73 1 vF ((facesT all).take K).length vs) (h2 : ∀ (k : Nat) (u : Value) (x : List (List UInt8)), vs[k]? = some u → ((facesT all).take K)[k]? = some x → StrsIn (fun b => Q + 1 ≤ b ∧ some b ≠ vF.ownBlock) W u x)
    (hu : StrsIn (fun b => Q + 1 ≤ b ∧ some b ≠ vF.ownBlock) W u ((ofDim all (K : Int)).map txt)) (hown : W2.ownsRow (Q + 1) 73 1 v2 (((facesT all).take K).length + 1) (vs ++ [u])) (hg : (W.alloc o).grownBy W2 vF.ownBlock) (hl : v2.ownBlock = vF.ownBlock ∨ v2.ownBlock = some (W.alloc o).heap.size) :
    OpFix w all vl P g Q (K + 1) v2 (W2.setCell ⟨Q, 0, none⟩ v2) := by
  have ho := h.ord
  have hp := OwnTexts.push h1 h2 hu hown hg hl
  have hfar : ∀ b, b < W.heap.size → b ≤ Q → W2.heap[b]? = W.heap[b]? := fun b hb hq => by
    rw [hg.block b (by simp; omega) (fun e => by have := (h.rows.block e.symm).1; omega)]
    exact (World.grownBy_alloc W o none).block b hb (by simp)
  have hc : ∀ {p : Addr} {v : Value}, W.cell? p = some v → p.block ≤ Q → W2.cell? p = some v := fun {p v} hv hq => (World.cell?_of_block (hfar p.block (cell_lt hv) hq)).trans hv
  have hz : ∀ p : Addr, p.block < W.heap.size → p.block ≤ Q → W2.frozen? p = W.frozen? p := fun p hb hq => World.frozen?_of_block (hfar p.block hb hq)
  have hs : W.heap.size ≤ W2.heap.size := by have := hg.size; simp at this; omega
  have hBw : Below w.heap.size w W2 := (h.below.alloc h.below.size o).grown hg (by have := h.below.size; simp; omega) (fun j hj => by have := (h.rows.block hj).1; omega)
  refine ⟨?_, ?_, ?_, fun o' => ?_, ?_, ?_, fun o' => ?_, ?_, hBw.setCell (p := ⟨Q, 0, none⟩) (by show w.heap.size ≤ Q; omega) _, by rw [World.size_setCell]; omega⟩
  · exact (World.cell?_setCell_other _ _ _ _ (fun e => by have := congrArg Addr.block e; simp at this; omega)).trans (hc h.box (by show w.heap.size ≤ Q; omega))
  · exact (World.cell?_setCell_other _ _ _ _ (fun e => by have := congrArg Addr.block e; simp at this; omega)).trans (hc h.res0 (by show P ≤ Q; omega))
  · exact (World.cell?_setCell_other _ _ _ _ (fun e => by have := congrArg Addr.block e; simp at this; omega)).trans (hc h.res1 (by show P ≤ Q; omega))
  · rw [World.frozen?_setCell]; exact (hz ⟨P, o', none⟩ (by show P < _; omega) (by show P ≤ Q; omega)).trans (h.resz o')
  · exact World.cell?_setCell_same' _ _ _ (by rw [hc h.st0 (by show Q ≤ Q; omega)]; rfl)
  · exact (World.cell?_setCell_other _ _ _ _ (fun e => by have := congrArg Addr.off e; simp at this)).trans (hc h.st1 (by show Q ≤ Q; omega))
  · rw [World.frozen?_setCell]; exact (hz ⟨Q, o', none⟩ (by show Q < _; omega) (by show Q ≤ Q; omega)).trans (h.stz o')
  · rw [facesT_take hK]
    exact hp.kept (grown_word W2 ⟨Q, 0, none⟩ v2) (by show Q < Q + 1; omega)

set_option maxRecDepth 100000 in
set_option maxHeartbeats 1000000 in
theorem cupOpen_bad {a : Nat → Addr} {s : Nat → ByteArray} {l : List (List Int)} {i : Nat} (hb : BadAt l i) (vl : Value) (w : World) (hE : Errs a s w) (hl : Rows w vl l) (hll : l.length ≤ 100000) (hle : ∀ x ∈ l, x.length ≤ 1000) :
    Calls Tryz.prog 17 #[.agg #[vl]] w fun e w' => e = .returned (.tuple #[.agg #[.slice none 0 0, .map none], .iface 179 (.pointer (some (a i)))]) ∧ Below w.heap.size w w' := by
  obtain ⟨al, cl, rfl, -, -⟩ := hl.open_
  have hB1 : Below w.heap.size w ((w.alloc (.cells #[.slice al l.length cl] 31)).alloc (.cells #[.slice none 0 0, .map none] 46)) := ((Below.refl _ w).alloc (Nat.le_refl _) _).alloc (by simp) _
  have hv := vector_bad hb (.slice al l.length cl) _ (hE.below hB1) (hl.below hB1) hll hle
  have q0 := (box_new w (.slice al l.length cl) 31).1
  have q1 := cells_two (w.alloc (.cells #[.slice al l.length cl] 31)) (.slice none 0 0) (.map none) 46
  rw [World.size_alloc] at q1
  have q2 : ((w.alloc (.cells #[.slice al l.length cl] 31)).alloc (.cells #[.slice none 0 0, .map none] 46)).cell? ⟨w.heap.size, 0, none⟩ = some (.slice al l.length cl) := (World.cell?_alloc_lt _ _ ⟨w.heap.size, 0, none⟩ (by simp)).trans q0
  obtain ⟨W1, hW1⟩ : ∃ W1, (w.alloc (.cells #[.slice al l.length cl] 31)).alloc (.cells #[.slice none 0 0, .map none] 46) = W1 := ⟨_, rfl⟩
  have hz1 : W1.heap.size = w.heap.size + 2 := by rw [← hW1]; simp
  rw [hW1] at hB1 hv q1 q2
  obtain ⟨ev, hev⟩ : ∃ ev : Addr, a i = ev := ⟨_, rfl⟩
  rw [hev] at hv ⊢
  have HW1 := Hid.mk' hW1
  have HB1 := Hid.mk' hB1
  have HZ1 := Hid.mk' hz1
  clear hE hl hll hle hb hev hW1 hB1 hz1
  go_enter Tryz.func17, Tryz.ntmps17
  go_upto_region 1 with fail
  rw [HW1.out]
  go_wp2_with fail
  refine hv.mono ?_
  clear hv
  rintro e W2 ⟨rfl, hB2⟩
  have c0 : W2.cell? ⟨w.heap.size + 1, 0, none⟩ = some (.slice none 0 0) := (hB2.cell (p := ⟨w.heap.size + 1, 0, none⟩) (by rw [HZ1.out]; show w.heap.size + 1 < w.heap.size + 2; omega)).trans q1.1.1
  have c1 : W2.cell? ⟨w.heap.size + 1, 1, none⟩ = some (.map none) := (hB2.cell (p := ⟨w.heap.size + 1, 1, none⟩) (by rw [HZ1.out]; show w.heap.size + 1 < w.heap.size + 2; omega)).trans q1.1.2
  have z0 : ∀ o, W2.frozen? ⟨w.heap.size + 1, o, none⟩ = false := fun o => (hB2.frozen (p := ⟨w.heap.size + 1, o, none⟩) (by rw [HZ1.out]; show w.heap.size + 1 < w.heap.size + 2; omega)).trans (q1.2 o)
  have z1 := z0 0
  have z2 := z0 1
  have HB2 : Hid (Below w.heap.size w W2) := HB1.out.trans (hB2.mono HB1.out.size)
  obtain ⟨P, hP⟩ : ∃ P, w.heap.size + 1 = P := ⟨_, rfl⟩
  have HP := Hid.mk' hP
  rw [hP] at c0 c1 z0 z1 z2
  rw [hP]
  clear hP q1 q2 hB2
  go_wp2_with fail
  refine bodyPost_ret (v := .tuple #[.agg #[.slice none 0 0, .map none], .iface 179 (.pointer (some ev))]) ?_ rfl ?_
  · have c2 := two_set c0 c1 (.slice none 0 0) (.map none)
    simp [results, Tryz.f17, go_sem, c2.1, c2.2]
  · exact ⟨rfl, below_cells2 HB2.out (by have := HP.out; omega) _ _⟩

end Go.Proofs.YtldknhganoiajaaGreatDoor
