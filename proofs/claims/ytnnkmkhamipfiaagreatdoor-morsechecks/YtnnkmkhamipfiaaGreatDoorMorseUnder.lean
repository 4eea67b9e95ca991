/- What lies far from a row that grows is kept. A matrix that is made: its struct, and the numbers so far. A shape and what is left of it, as they read. What the reference's under answers. -/
import Derived.Test.YtnnkmkhamipfiaaGreatDoorRefPart
import Derived.Test.YtnnkmkhamipfiaaGreatDoorHeap
import Derived.Deep.OwnRows
import Derived.BigQuiet
import Derived.Deep.QuietTactic
namespace Go.Proofs.YtnnkmkhamipfiaaGreatDoor
open Go.RowKit Go.Sort

theorem below_nil {W W' : World} (h : W.drew.grownBy W' (Value.slice none 0 0).ownBlock) : Below W.heap.size W W' := ⟨h.os, h.tape, h.output, h.size, fun k hk => h.block k hk (by simp [Value.ownBlock])⟩
theorem far_kept {w1 w2 : World} {o : Obj} {row : Option Nat} (hg : (w1.alloc o).grownBy w2 row) {p : Addr} {v : Value} (h : w1.cell? p = some v ∧ w1.frozen? p = false) (hne : some p.block ≠ row) : w2.cell? p = some v ∧ w2.frozen? p = false := by
  have hb := box_alloc o h
  have hlt := cell_lt hb.1
  exact ⟨(hg.cell_far p hlt hne).trans hb.1, (hg.frozen_far p hlt hne).trans hb.2⟩
theorem far_cell {w1 w2 : World} {o : Obj} {row : Option Nat} (hg : (w1.alloc o).grownBy w2 row) {p : Addr} {v : Value} (h : w1.cell? p = some v) (hne : some p.block ≠ row) : w2.cell? p = some v := by
  have hlt := cell_lt h
  exact (hg.cell_far p (by simp; omega) hne).trans (cell_kept h (World.grownBy_alloc w1 o none) (fun r e => by cases e))
theorem ints_made {W : World} {base : Nat} {t : TypeId} {v : Value} {x : List Int} (h : W.ownsRow base t 1 v (0 + (x.map (Value.int .i64)).length) ([] ++ x.map (Value.int .i64))) : IntsIn (fun b => base ≤ b) W v x := by
  have := slice_of_owns (S := fun b => base ≤ b) h (fun b hb _ => hb)
  rw [List.nil_append] at this
  exact this

end Go.Proofs.YtnnkmkhamipfiaaGreatDoor

namespace Go.Proofs.YtnnkmkhamipfiaaGreatDoor
open Go.RowKit Go.Sort

/-- A variable that holds a matrix. -/
structure MatBox (B : Nat) (W : World) (r c : Int) (v : Value) : Prop where
  c0 : W.cell? ⟨B, 0, none⟩ = some (.int .i64 r) ∧ W.frozen? ⟨B, 0, none⟩ = false
  c1 : W.cell? ⟨B, 1, none⟩ = some (.int .i64 c) ∧ W.frozen? ⟨B, 1, none⟩ = false
  c2 : W.cell? ⟨B, 2, none⟩ = some v ∧ W.frozen? ⟨B, 2, none⟩ = false
theorem matBox_new (W : World) (r c : Int) (v : Value) (t : TypeId) : MatBox W.heap.size (W.alloc (.cells #[.int .i64 r, .int .i64 c, v] t)) r c v := by
  have h := World.alloc_heap_new W (.cells #[.int .i64 r, .int .i64 c, v] t)
  refine ⟨⟨?_, ?_⟩, ⟨?_, ?_⟩, ⟨?_, ?_⟩⟩
  all_goals first
    | (unfold World.cell?; rw [h]; rfl)
    | (unfold World.frozen?; rw [h]; rfl)
theorem MatBox.lt {B : Nat} {W : World} {r c : Int} {v : Value} (h : MatBox B W r c v) : B < W.heap.size := cell_lt h.c0.1
theorem MatBox.below {B : Nat} {W W' : World} {r c : Int} {v : Value} (h : MatBox B W r c v) (hB : Below W.heap.size W W') : MatBox B W' r c v :=
  ⟨⟨(hB.cell (p := ⟨B, 0, none⟩) h.lt).trans h.c0.1, (hB.frozen (p := ⟨B, 0, none⟩) h.lt).trans h.c0.2⟩, ⟨(hB.cell (p := ⟨B, 1, none⟩) h.lt).trans h.c1.1, (hB.frozen (p := ⟨B, 1, none⟩) h.lt).trans h.c1.2⟩, ⟨(hB.cell (p := ⟨B, 2, none⟩) h.lt).trans h.c2.1, (hB.frozen (p := ⟨B, 2, none⟩) h.lt).trans h.c2.2⟩⟩
theorem MatBox.far {B : Nat} {W W' : World} {r c : Int} {v : Value} {o : Obj} {row : Option Nat} (h : MatBox B W r c v) (hg : (W.alloc o).grownBy W' row) (hne : some B ≠ row) : MatBox B W' r c v :=
  ⟨far_kept hg (p := ⟨B, 0, none⟩) h.c0 hne, far_kept hg (p := ⟨B, 1, none⟩) h.c1 hne, far_kept hg (p := ⟨B, 2, none⟩) h.c2 hne⟩
theorem addr_ne {B B' o o' : Nat} (h : B ≠ B' ∨ o ≠ o') : (⟨B, o, none⟩ : Addr) ≠ ⟨B', o', none⟩ := fun e => by
  have h1 : B = B' := congrArg Addr.block e
  have h2 : o = o' := congrArg Addr.off e
  rcases h with h | h
  · exact h h1
  · exact h h2
theorem MatBox.set {B : Nat} {W : World} {r c : Int} {v : Value} (h : MatBox B W r c v) (u : Value) : MatBox B (W.setCell ⟨B, 2, none⟩ u) r c u := by
  refine ⟨⟨?_, ?_⟩, ⟨?_, ?_⟩, ⟨?_, ?_⟩⟩
  · rw [World.cell?_setCell_other _ _ _ _ (addr_ne (.inr (by decide)))]; exact h.c0.1
  · rw [World.frozen?_setCell]; exact h.c0.2
  · rw [World.cell?_setCell_other _ _ _ _ (addr_ne (.inr (by decide)))]; exact h.c1.1
  · rw [World.frozen?_setCell]; exact h.c1.2
  · exact World.cell?_setCell_same' _ _ _ (by rw [h.c2.1]; rfl)
  · rw [World.frozen?_setCell]; exact h.c2.2
theorem MatBox.other {B B' : Nat} {W : World} {r c : Int} {v : Value} (h : MatBox B W r c v) (hne : B' ≠ B) (o : Nat) (u : Value) : MatBox B (W.setCell ⟨B', o, none⟩ u) r c v := by
  refine ⟨⟨?_, ?_⟩, ⟨?_, ?_⟩, ⟨?_, ?_⟩⟩
  · rw [World.cell?_setCell_other _ _ _ _ (addr_ne (.inl hne))]; exact h.c0.1
  · rw [World.frozen?_setCell]; exact h.c0.2
  · rw [World.cell?_setCell_other _ _ _ _ (addr_ne (.inl hne))]; exact h.c1.1
  · rw [World.frozen?_setCell]; exact h.c1.2
  · rw [World.cell?_setCell_other _ _ _ _ (addr_ne (.inl hne))]; exact h.c2.1
  · rw [World.frozen?_setCell]; exact h.c2.2
/-- The whole is stored. -/
theorem MatBox.put {B : Nat} {W : World} {r c : Int} {v : Value} (h : MatBox B W r c v) (r' c' : Int) (u : Value) : MatBox B (((W.setCell ⟨B, 0, none⟩ (.int .i64 r')).setCell ⟨B, 1, none⟩ (.int .i64 c')).setCell ⟨B, 2, none⟩ u) r' c' u := by
  refine ⟨⟨?_, ?_⟩, ⟨?_, ?_⟩, ⟨?_, ?_⟩⟩
  · rw [World.cell?_setCell_other _ _ _ _ (addr_ne (.inr (by decide))), World.cell?_setCell_other _ _ _ _ (addr_ne (.inr (by decide)))]
    exact World.cell?_setCell_same' _ _ _ (by rw [h.c0.1]; rfl)
  · rw [World.frozen?_setCell, World.frozen?_setCell, World.frozen?_setCell]; exact h.c0.2
  · rw [World.cell?_setCell_other _ _ _ _ (addr_ne (.inr (by decide)))]
    exact World.cell?_setCell_same' _ _ _ (by rw [World.cell?_setCell_other _ _ _ _ (addr_ne (.inr (by decide))), h.c1.1]; rfl)
  · rw [World.frozen?_setCell, World.frozen?_setCell, World.frozen?_setCell]; exact h.c1.2
  · exact World.cell?_setCell_same' _ _ _ (by rw [World.cell?_setCell_other _ _ _ _ (addr_ne (.inr (by decide))), World.cell?_setCell_other _ _ _ _ (addr_ne (.inr (by decide))), h.c2.1]; rfl)
  · rw [World.frozen?_setCell, World.frozen?_setCell, World.frozen?_setCell]; exact h.c2.2

/-- The result's variable, the matrix, and its first n numbers. -/
structure MatAt (L : List Int) (r c : Int) (w : World) (n : Nat) (v : Value) (W : World) : Prop where
  zero : MatBox w.heap.size W 0 0 (.slice none 0 0)
  out : MatBox (w.heap.size + 1) W r c v
  own : W.ownsRow (w.heap.size + 2) 3 1 v n ((L.take n).map (Value.int .i64))
  size : w.heap.size + 2 ≤ W.heap.size
  below : Below w.heap.size w W
theorem mat_start (L : List Int) (r c : Int) (w : World) (t : TypeId) : MatAt L r c w 0 (.slice none 0 0) ((w.alloc (.cells #[.int .i64 0, .int .i64 0, .slice none 0 0] t)).alloc (.cells #[.int .i64 r, .int .i64 c, .slice none 0 0] t)) where
  zero := (matBox_new w 0 0 (.slice none 0 0) t).below ((Below.refl _ _).alloc (Nat.le_refl _) _)
  out := by
    have := matBox_new (w.alloc (.cells #[.int .i64 0, .int .i64 0, .slice none 0 0] t)) r c (.slice none 0 0) t
    rwa [World.size_alloc] at this
  own := by simp; exact World.ownsRow_nil _ _ _ _
  size := by simp
  below := ((Below.refl _ w).alloc (Nat.le_refl _) _).alloc (by simp) _
theorem MatAt.later {L : List Int} {r c : Int} {w : World} {n : Nat} {v : Value} {W W' : World} (h : MatAt L r c w n v W) (hB : Below W.heap.size W W') : MatAt L r c w n v W' where
  zero := h.zero.below hB
  out := h.out.below hB
  own := h.own.kept (Below.grownBy hB) (by cases v.ownBlock <;> simp)
  size := Nat.le_trans h.size hB.size
  below := h.below.trans (hB.mono h.below.size)
theorem MatAt.ne {L : List Int} {r c : Int} {w : World} {n : Nat} {v : Value} {W : World} (h : MatAt L r c w n v W) : some w.heap.size ≠ v.ownBlock ∧ some (w.heap.size + 1) ≠ v.ownBlock :=
  ⟨fun e => by have := (h.own.lt _ e.symm).1; omega, fun e => by have := (h.own.lt _ e.symm).1; omega⟩
/-- One more number: behind its append, ahead of the store. -/
theorem MatAt.grown {L : List Int} {r c : Int} {w : World} {n : Nat} {v : Value} {W W' : World} {o : Obj} (h : MatAt L r c w n v W) (hg : (W.alloc o).grownBy W' v.ownBlock) :
    MatBox w.heap.size W' 0 0 (.slice none 0 0) ∧ MatBox (w.heap.size + 1) W' r c v ∧ w.heap.size + 2 ≤ W'.heap.size ∧ Below w.heap.size w W' := by
  have h1 := hg.size
  rw [World.size_alloc] at h1
  have h2 := h.size
  exact ⟨h.zero.far hg h.ne.1, h.out.far hg h.ne.2, by omega, (h.below.alloc h.below.size o).grown hg (by simp; omega) (fun j hj => by have := (h.own.lt j hj).1; omega)⟩
theorem MatAt.step {L : List Int} {r c : Int} {w : World} {n : Nat} {v v' : Value} {W W' : World} {o : Obj} {x : Int} (h : MatAt L r c w n v W) (hx : L[n]? = some x) (hg : (W.alloc o).grownBy W' v.ownBlock)
    (hown : W'.ownsRow (w.heap.size + 2) 3 1 v' (n + 1) ((L.take n).map (Value.int .i64) ++ [.int .i64 x])) : MatAt L r c w (n + 1) v' (W'.setCell ⟨w.heap.size + 1, 2, none⟩ v') := by
  obtain ⟨g1, g2, g3, g4⟩ := h.grown hg
  refine ⟨g1.other (by omega) _ _, g2.set v', ?_, by rw [World.size_setCell]; exact g3, g4.setCell (p := ⟨w.heap.size + 1, 2, none⟩) (by show w.heap.size ≤ w.heap.size + 1; omega) _⟩
  rw [List.take_add_one, hx, List.map_append]
  exact ownsRow_setCell_below hown (show (⟨w.heap.size + 1, 2, none⟩ : Addr).block < w.heap.size + 2 by show w.heap.size + 1 < w.heap.size + 2; omega) v'
/-- The numbers, all there. -/
theorem MatAt.ints {L : List Int} {r c : Int} {w : World} {n : Nat} {v : Value} {W : World} (h : MatAt L r c w n v W) (hn : n = L.length) : IntsIn (fun b => w.heap.size + 2 ≤ b) W v L := by
  have := slice_of_owns (S := fun b => w.heap.size + 2 ≤ b) h.own (fun b hb _ => hb)
  rw [hn, List.take_length] at this
  exact this
theorem mat_put_below {n B : Nat} {w W : World} (h : Below n w W) (a b c : Value) (hB : n ≤ B := by exact Nat.le_refl _) : Below n w (((W.setCell ⟨B, 0, none⟩ a).setCell ⟨B, 1, none⟩ b).setCell ⟨B, 2, none⟩ c) :=
  ((h.setCell (p := ⟨B, 0, none⟩) hB _).setCell (p := ⟨B, 1, none⟩) hB _).setCell (p := ⟨B, 2, none⟩) hB _
theorem ints_set {S : Nat → Prop} {W : World} {v : Value} {L : List Int} {p : Addr} (h : IntsIn S W v L) (hp : ¬ S p.block) (u : Value) : IntsIn S (W.setCell p u) v L :=
  SliceIn.keep h (fun b _ hb => Below.heap_setCell W p u b (fun e => hp (e ▸ hb)))

end Go.Proofs.YtnnkmkhamipfiaaGreatDoor

namespace Go.Proofs.YtnnkmkhamipfiaaGreatDoor
open Go.RowKit Go.Sort

def allD (_ _ : Nat) : Bool := true
def allL (_ : Nat) : Bool := true
theorem ovD_all (L : List (List Int)) (i : Nat) : ovD L allD i = ovL L allL i := rfl

/-- The faces over each face; the sides of a face. -/
def overI (L : List (List Int)) (i : Nat) : List Int := (ovD L allD i).map fun (k : Nat) => (k : Int)
def oversI (L : List (List Int)) : List (List Int) := (List.range L.length).map (overI L)
def sidesI (L : List (List Int)) (k : Nat) : List Duo := (sidD L allD k).map (sideP L k)
theorem oversI_len (L : List (List Int)) : (oversI L).length = L.length := by simp [oversI]
theorem oversI_at {L : List (List Int)} {i : Nat} (h : i < L.length) : (oversI L)[i]?.getD [] = overI L i := by unfold oversI; rw [List.getElem?_map, List.getElem?_range h]; rfl

/-- A slice of slices of sides. -/
def SidesIn (S : Nat → Prop) (W : World) (v : Value) (L : List (List Int)) : Prop := ∃ vs : List Value, SliceIn S W v vs ∧ vs.length = L.length ∧ ∀ (k : Nat) (u : Value), vs[k]? = some u → DuoIn S W u (sidesI L k)

structure ShapeIn (S : Nat → Prop) (W : World) (L : List (List Int)) (ad aS ao : Option Addr) (cd cs co : Nat) : Prop where
  dims : IntsIn S W (.slice ad L.length cd) (L.map fun x => (x.length : Int) - 1)
  sides : SidesIn S W (.slice aS L.length cs) L
  over : RowsIn S W (.slice ao L.length co) (oversI L)

theorem SidesIn.keep {S : Nat → Prop} {W W' : World} {v : Value} {L : List (List Int)} (h : SidesIn S W v L) (hs : W.heap.size ≤ W'.heap.size) (hk : ∀ b, b < W.heap.size → S b → W'.heap[b]? = W.heap[b]?) : SidesIn S W' v L := by
  obtain ⟨vs, h1, h2, h3⟩ := h
  exact ⟨vs, SliceIn.keep h1 hk, h2, fun k u hu => (h3 k u hu).keep hs hk⟩
theorem RowsIn.keep' {S : Nat → Prop} {W W' : World} {v : Value} {xss : List (List Int)} (h : RowsIn S W v xss) (hk : ∀ b, b < W.heap.size → S b → W'.heap[b]? = W.heap[b]?) : RowsIn S W' v xss := by
  obtain ⟨vs, h1, h2, h3⟩ := h
  exact ⟨vs, SliceIn.keep h1 hk, h2, fun k u x hu hx => SliceIn.keep (h3 k u x hu hx) hk⟩
theorem ShapeIn.keep {S : Nat → Prop} {W W' : World} {L : List (List Int)} {ad aS ao : Option Addr} {cd cs co : Nat} (h : ShapeIn S W L ad aS ao cd cs co) (hs : W.heap.size ≤ W'.heap.size) (hk : ∀ b, b < W.heap.size → S b → W'.heap[b]? = W.heap[b]?) : ShapeIn S W' L ad aS ao cd cs co :=
  ⟨SliceIn.keep h.dims hk, h.sides.keep hs hk, h.over.keep' hk⟩
theorem ShapeIn.below {S : Nat → Prop} {W W' : World} {L : List (List Int)} {ad aS ao : Option Addr} {cd cs co : Nat} (h : ShapeIn S W L ad aS ao cd cs co) (hB : Below W.heap.size W W') : ShapeIn S W' L ad aS ao cd cs co := h.keep hB.size (fun b hb _ => hB.block b hb)
theorem ShapeIn.mono {S S' : Nat → Prop} {W : World} {L : List (List Int)} {ad aS ao : Option Addr} {cd cs co : Nat} (h : ShapeIn S W L ad aS ao cd cs co) (hs : ∀ b, b < W.heap.size → S b → S' b) : ShapeIn S' W L ad aS ao cd cs co := by
  refine ⟨SliceIn.mono h.dims hs, ?_, h.over.mono hs⟩
  obtain ⟨vs, h1, h2, h3⟩ := h.sides
  exact ⟨vs, SliceIn.mono h1 hs, h2, fun k u hu => (h3 k u hu).mono hs⟩

def shapeV (n : Nat) (ad aS ao : Option Addr) (cd cs co : Nat) : Value := .agg #[.slice ad n cd, .slice aS n cs, .slice ao n co]
def restV (n : Nat) (ad aS ao : Option Addr) (cd cs co gl gc : Nat) : Value := .agg #[.slice ad n cd, .slice aS n cs, .slice ao n co, .slice (some ⟨gl, 0, none⟩) n n, .slice (some ⟨gc, 0, none⟩) n n]

/-- What is left of a shape: the shape lies below B, what is left and how many are over each face behind it. -/
structure RestAt (B : Nat) (W : World) (L : List (List Int)) (ad aS ao : Option Addr) (cd cs co gl gc : Nat) (left : Nat → Bool) : Prop where
  shape : ShapeIn (fun b => b < B) W L ad aS ao cd cs co
  lefts : W.rowIs gl 4 L.length (fun i => .bool (left i))
  counts : W.rowIs gc 3 L.length (fun i => .int .i64 ((ovL L left i).length : Int))
  bl : B ≤ gl
  bc : B ≤ gc
  ne : gl ≠ gc

theorem RestAt.below {B : Nat} {W W' : World} {L : List (List Int)} {ad aS ao : Option Addr} {cd cs co gl gc : Nat} {left : Nat → Bool} (h : RestAt B W L ad aS ao cd cs co gl gc left) (hB : Below W.heap.size W W') : RestAt B W' L ad aS ao cd cs co gl gc left :=
  ⟨h.shape.below hB, h.lefts.of_block (hB.block gl h.lefts.lt), h.counts.of_block (hB.block gc h.counts.lt), h.bl, h.bc, h.ne⟩
theorem ShapeIn.kept {B : Nat} {W W' : World} {L : List (List Int)} {ad aS ao : Option Addr} {cd cs co gl gc : Nat} (h : ShapeIn (fun b => b < B) W L ad aS ao cd cs co) (hl : B ≤ gl) (hc : B ≤ gc) (hK : KeepBut W W' gl gc) : ShapeIn (fun b => b < B) W' L ad aS ao cd cs co :=
  h.keep hK.size (fun b hb hS => hK.block b hb (fun e => by have hS : b < B := hS; omega) (fun e => by have hS : b < B := hS; omega))

theorem KeepBut.trans {W W1 W2 : World} {r g : Nat} (h : KeepBut W W1 r g) (h' : KeepBut W1 W2 r g) : KeepBut W W2 r g :=
  ⟨h'.os.trans h.os, h'.tape.trans h.tape, h'.output.trans h.output, Nat.le_trans h.size h'.size, fun b hb h1 h2 => (h'.block b (Nat.lt_of_lt_of_le hb h.size) h1 h2).trans (h.block b hb h1 h2)⟩
theorem KeepBut.below {W W1 W2 : World} {r g : Nat} (h : KeepBut W W1 r g) (hB : Below W1.heap.size W1 W2) : KeepBut W W2 r g := h.on (Below.grownBy hB) (fun b e => by cases e)

/-- A struct of two in a variable. -/
theorem two_box (W : World) (x y : Value) (t : TypeId) : (W.alloc (.cells #[x, y] t)).cell? ⟨W.heap.size, 0, none⟩ = some x ∧ (W.alloc (.cells #[x, y] t)).cell? ⟨W.heap.size, 1, none⟩ = some y := by
  constructor <;> simp

theorem one_ex {l : List Nat} (h : l.length = 1) : ∃ k, l = [k] := by
  match l, h with
  | [k], _ => exact ⟨k, rfl⟩
theorem int_one {l : List Nat} : ((l.length : Int) = 1) ↔ ∃ k, l = [k] := ⟨fun h => one_ex (by omega), fun ⟨k, h⟩ => by rw [h]; rfl⟩

end Go.Proofs.YtnnkmkhamipfiaaGreatDoor

namespace Go.Proofs.YtnnkmkhamipfiaaGreatDoor
open Go.RowKit Go.Sort

set_option maxRecDepth 100000 in
set_option maxHeartbeats 1000000 in
theorem under_q {L : List (List Int)} (vL : Value) (i k : Nat) (w : World) (hL : Rows w vL L) (hi : i < L.length) (hk : k < L.length) (hL6 : L.length ≤ 1000) (hx : ∀ x ∈ L, x.length ≤ 1000) :
    Calls Tryz.prog 36 #[vL, .int .i64 (i : Int), .int .i64 (k : Int)] w fun e w' => e = .returned (.bool (underB (faceAt L i) (faceAt L k))) ∧ ∃ q, w' = w.drewN q := by
  obtain ⟨aL, cL, rfl, -, hrows⟩ := hL.open_
  obtain ⟨bL, oL, rfl, -, hbl, hrw⟩ := hrows (by omega)
  obtain ⟨ai, pi, gi, ii⟩ := hrw i hi
  obtain ⟨ak, pk, gk, ik⟩ := hrw k hk
  have hli := hx _ (faceAt_mem hi)
  have hlk := hx _ (faceAt_mem hk)
  obtain ⟨x, hx1⟩ : ∃ x, faceAt L i = x := ⟨_, rfl⟩
  obtain ⟨y, hy1⟩ : ∃ y, faceAt L k = y := ⟨_, rfl⟩
  have hxe : L[i]?.getD [] = x := hx1
  have hye : L[k]?.getD [] = y := hy1
  rw [hxe] at gi ii
  rw [hye] at gk ik
  rw [hx1] at hli ⊢
  rw [hy1] at hlk ⊢
  have hpo : ∀ q, Calls Tryz.prog 60 #[.slice ai x.length pi, .slice ak y.length pk] (w.drewN q) _ := fun q => part_of _ _ x y (w.drewN q) (show Ints w _ x from ii) (show Ints w _ y from ik) (by omega) (by omega)
  obtain ⟨n, hn⟩ : ∃ n, L.length = n := ⟨_, rfl⟩
  rw [hn] at hi hk hL6 ⊢
  have z0 : (0 : Int) ≤ (i : Int) := by omega
  have z1 : (i : Int) < (n : Int) := by omega
  have z2 : (0 : Int) ≤ (k : Int) := by omega
  have z3 : (k : Int) < (n : Int) := by omega
  obtain ⟨m, hm⟩ : ∃ m, x.length = m := ⟨_, rfl⟩
  obtain ⟨q, hq⟩ : ∃ q, y.length = q := ⟨_, rfl⟩
  have hu : underB x y = (decide (m + 1 = q) && partB x y) := by unfold underB; rw [hm, hq]
  rw [hu]
  rw [hm] at gi hpo hli
  rw [hq] at gk hpo hlk
  clear hL hrows hrw hx hxe hye hx1 hy1 ii ik hn hm hq hu
  by_cases e : m + 1 = q
  · subst e
    rw [decide_eq_true rfl, Bool.true_and]
    cases hpp : partB x y with
    | true =>
      have hpp' : x.all (fun v => y.contains v) = true := hpp
      rw [hpp'] at hpo
      clear hpp hpp'
      go_enter Tryz.func36, Tryz.ntmps36
      go_wp2_with fail
      go_quiet ((go_at_call 60; exact Calls.quiet_of (hpo _)))
      go_wp2_with fail
      go_ret
      exact ⟨rfl, _, rfl⟩
    | false =>
      have hpp' : x.all (fun v => y.contains v) = false := hpp
      rw [hpp'] at hpo
      clear hpp hpp'
      go_enter Tryz.func36, Tryz.ntmps36
      go_wp2_with fail
      go_quiet ((go_at_call 60; exact Calls.quiet_of (hpo _)))
      go_wp2_with fail
      go_ret
      exact ⟨rfl, _, rfl⟩
  · rw [decide_eq_false e, Bool.false_and]
    have hb : ((m : Int) + 1 == (q : Int)) = false := beq_false_of_ne (by omega)
    clear hpo
    go_enter Tryz.func36, Tryz.ntmps36
    go_wp2_with fail
    go_quiet (fail)
    go_wp2_with fail
    go_ret
    exact ⟨rfl, _, rfl⟩
theorem under_ {L : List (List Int)} (vL : Value) (i k : Nat) (w : World) (hL : Rows w vL L) (hi : i < L.length) (hk : k < L.length) (hL6 : L.length ≤ 1000) (hx : ∀ x ∈ L, x.length ≤ 1000) :
    Calls Tryz.prog 36 #[vL, .int .i64 (i : Int), .int .i64 (k : Int)] w fun e w' => e = .returned (.bool (underB (faceAt L i) (faceAt L k))) ∧ Below w.heap.size w w' := (under_q vL i k w hL hi hk hL6 hx).mono fun e w' h => by
  obtain ⟨h1, q, rfl⟩ := h
  exact ⟨h1, rfl, rfl, rfl, Nat.le_refl _, fun _ _ => rfl⟩

end Go.Proofs.YtnnkmkhamipfiaaGreatDoor
