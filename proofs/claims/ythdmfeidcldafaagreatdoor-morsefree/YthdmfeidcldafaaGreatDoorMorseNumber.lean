/- What number answers: the shape of a complex, or which error. -/
import Derived.Test.YthdmfeidcldafaaGreatDoorAppendTypes
import Derived.Test.YthdmfeidcldafaaGreatDoorMorseAdd
import Derived.Test.YthdmfeidcldafaaGreatDoorBorderMath2
import Derived.Test.YthdmfeidcldafaaGreatDoorBoundary
import Derived.Test.YthdmfeidcldafaaGreatDoorReadsFV
namespace Go.Proofs.YthdmfeidcldafaaGreatDoor
open Go.RowKit Go.Sort

theorem Tryz.info104 : (Tryz.prog.info? 104).map (fun i => (i.zero, i.size, i.bytes)) = some (some (.slice none 0 0), 1, 24) := by kernel_rfl

def noShape (v : Value) : Value := .tuple #[.agg #[.slice none 0 0, .slice none 0 0, .slice none 0 0], v]

/-- What number answers. -/
def NumSays (a : Nat → Addr) (l : List (List Int)) (w : World) (e : Ending) (w' : World) : Prop :=
  Below w.heap.size w w' ∧ ((∃ i, BadAt l i ∧ e = .returned (noShape (.iface 176 (.pointer (some (a i)))))) ∨
    ∃ all ad aS ao cd cs co, Good l all ∧ e = .returned (.tuple #[shapeV (numL all).length ad aS ao cd cs co, .nilIface]) ∧ ShapeIn (fun b => w.heap.size ≤ b) w' (numL all) ad aS ao cd cs co)

/-- The variable s, its tables and its dimensions. -/
structure NumAt (base sb : Nat) (css1 css2 : List (List Value)) (ds : List Int) (T : Nat → Prop) (W0 W : World) (vd vS vO : Value) (vs1 vs2 : List Value) : Prop where
  dims : W.ownsRow base 3 1 vd ds.length (ds.map (Value.int .i64))
  t1 : TabAt base 104 106 2 W vS vs1 css1
  t2 : TabAt base 51 3 1 W vO vs2 css2
  dis : ∀ b, TabBlock vS vs1 b → ¬ TabBlock vO vs2 b
  disd : ∀ b, vd.ownBlock = some b → ¬ TabBlock vS vs1 b ∧ ¬ TabBlock vO vs2 b
  c0 : W.cell? ⟨sb, 0, none⟩ = some vd ∧ W.frozen? ⟨sb, 0, none⟩ = false
  c1 : W.cell? ⟨sb, 1, none⟩ = some vS ∧ W.frozen? ⟨sb, 1, none⟩ = false
  c2 : W.cell? ⟨sb, 2, none⟩ = some vO ∧ W.frozen? ⟨sb, 2, none⟩ = false
  sbl : sb < base
  keep : KeepOff T W0 W
  Ts : T sb
  bd : ∀ b, vd.ownBlock = some b → T b ∨ W0.heap.size ≤ b
  b1 : ∀ b, TabBlock vS vs1 b → T b ∨ W0.heap.size ≤ b
  b2 : ∀ b, TabBlock vO vs2 b → T b ∨ W0.heap.size ≤ b

section
variable {base sb : Nat} {css1 css2 : List (List Value)} {ds : List Int} {T : Nat → Prop} {W0 W W' : World} {vd vS vO : Value} {vs1 vs2 : List Value}

theorem NumAt.below (h : NumAt base sb css1 css2 ds T W0 W vd vS vO vs1 vs2) (hB : Below W.heap.size W W') : NumAt base sb css1 css2 ds T W0 W' vd vS vO vs1 vs2 where
  dims := h.dims.kept (Below.grownBy hB) (by cases vd.ownBlock <;> simp)
  t1 := h.t1.below hB
  t2 := h.t2.below hB
  dis := h.dis
  disd := h.disd
  c0 := ⟨(hB.cell (p := ⟨sb, 0, none⟩) (cell_lt h.c0.1)).trans h.c0.1, (hB.frozen (p := ⟨sb, 0, none⟩) (cell_lt h.c0.1)).trans h.c0.2⟩
  c1 := ⟨(hB.cell (p := ⟨sb, 1, none⟩) (cell_lt h.c1.1)).trans h.c1.1, (hB.frozen (p := ⟨sb, 1, none⟩) (cell_lt h.c1.1)).trans h.c1.2⟩
  c2 := ⟨(hB.cell (p := ⟨sb, 2, none⟩) (cell_lt h.c2.1)).trans h.c2.1, (hB.frozen (p := ⟨sb, 2, none⟩) (cell_lt h.c2.1)).trans h.c2.2⟩
  sbl := h.sbl
  keep := h.keep.on (Below.grownBy hB) (fun b e => by cases e)
  Ts := h.Ts
  bd := h.bd
  b1 := h.b1
  b2 := h.b2

/-- A new start: what is kept from here on. -/
theorem NumAt.start (h : NumAt base sb css1 css2 ds T W0 W vd vS vO vs1 vs2) (T' : Nat → Prop) (hs : T' sb) (hd : ∀ b, vd.ownBlock = some b → T' b) (h1 : ∀ b, TabBlock vS vs1 b → T' b) (h2 : ∀ b, TabBlock vO vs2 b → T' b) : NumAt base sb css1 css2 ds T' W W vd vS vO vs1 vs2 :=
  ⟨h.dims, h.t1, h.t2, h.dis, h.disd, h.c0, h.c1, h.c2, h.sbl, KeepOff.refl _ _, hs, fun b e => .inl (hd b e), fun b e => .inl (h1 b e), fun b e => .inl (h2 b e)⟩

/-- One dimension's number more. -/
theorem NumAt.push {o : Obj} {vd' : Value} {x : Int} (h : NumAt base sb css1 css2 ds T W0 W vd vS vO vs1 vs2) (hown : W'.ownsRow base 3 1 vd' (ds.length + 1) (ds.map (Value.int .i64) ++ [.int .i64 x])) (hg : (W.alloc o).grownBy W' vd.ownBlock) (hl : vd'.ownBlock = vd.ownBlock ∨ vd'.ownBlock = some (W.alloc o).heap.size) :
    NumAt base sb css1 css2 (ds ++ [x]) T W0 (W'.setCell ⟨sb, 0, none⟩ vd') vd' vS vO vs1 vs2 := by
  have hsz := hg.size
  rw [World.size_alloc] at hsz
  have hbd : ∀ b, vd'.ownBlock = some b → vd.ownBlock = some b ∨ b = W.heap.size + 1 := fun b hb => by
    rcases hl with e | e
    · exact .inl (e.symm.trans hb)
    · right; rw [e] at hb; simpa using hb.symm
  have hsbW : sb < W.heap.size := cell_lt h.c0.1
  have hvsb : ∀ b, vd.ownBlock = some b → b ≠ sb := fun b hb => by have := (h.dims.lt b hb).1; have := h.sbl; omega
  have kp : ∀ j v, j ≠ 0 → (W.cell? ⟨sb, j, none⟩ = some v ∧ W.frozen? ⟨sb, j, none⟩ = false) → ((W'.setCell ⟨sb, 0, none⟩ vd').cell? ⟨sb, j, none⟩ = some v ∧ (W'.setCell ⟨sb, 0, none⟩ vd').frozen? ⟨sb, j, none⟩ = false) := fun j v hj hc => by
    have := far_kept hg (p := ⟨sb, j, none⟩) hc (fun e => hvsb sb e.symm rfl)
    exact ⟨(World.cell?_setCell_other _ _ _ _ (addr_ne (.inr (Ne.symm hj)))).trans this.1, by rw [World.frozen?_setCell]; exact this.2⟩
  have h0 := far_kept hg (p := ⟨sb, 0, none⟩) h.c0 (fun e => hvsb sb e.symm rfl)
  have hs1 : ∀ b, TabBlock vS vs1 b → b ≠ sb := fun b hb => by have := (h.t1.lt hb).1; have := h.sbl; omega
  have hs2 : ∀ b, TabBlock vO vs2 b → b ≠ sb := fun b hb => by have := (h.t2.lt hb).1; have := h.sbl; omega
  refine ⟨?_, ?_, ?_, h.dis, fun b hb => ?_, ⟨World.cell?_setCell_same' _ _ _ (by rw [h0.1]; rfl), by rw [World.frozen?_setCell]; exact h0.2⟩, kp 1 _ (by decide) h.c1, kp 2 _ (by decide) h.c2, h.sbl, ?_, h.Ts, fun b hb => ?_, h.b1, h.b2⟩
  · rw [List.length_append, List.map_append]
    exact hown.kept (grown_one W' ⟨sb, 0, none⟩ vd') (not_own fun b hb e => by
      cases e
      rcases hbd sb hb with h1 | h1
      · exact hvsb sb h1 rfl
      · omega)
  · exact ((h.t1.kept (World.grownBy_alloc W o none) (fun b e => by cases e)).kept hg (fun b e => (h.disd b e).1)).kept (grown_one W' ⟨sb, 0, none⟩ vd') (fun b e hb => by cases e; exact hs1 sb hb rfl)
  · exact ((h.t2.kept (World.grownBy_alloc W o none) (fun b e => by cases e)).kept hg (fun b e => (h.disd b e).2)).kept (grown_one W' ⟨sb, 0, none⟩ vd') (fun b e hb => by cases e; exact hs2 sb hb rfl)
  · rcases hbd b hb with h1 | h1
    · exact h.disd b h1
    · exact ⟨fun hb' => by have := (h.t1.lt hb').2; omega, fun hb' => by have := (h.t2.lt hb').2; omega⟩
  · exact ((h.keep.on (World.grownBy_alloc W o none) (fun b e => by cases e)).on hg (fun b e => h.bd b e)).on (grown_one W' ⟨sb, 0, none⟩ vd') (fun b e => by cases e; exact .inl h.Ts)
  · rcases hbd b hb with h1 | h1
    · exact h.bd b h1
    · right; have := h.keep.size; omega

theorem tab_more_block {v v' : Value} {vs : List Value} {n : Nat} {W : World} (hl : ∀ b, v'.ownBlock = some b → v.ownBlock = some b ∨ W.heap.size ≤ b) {b : Nat} (hb : TabBlock v' (vs ++ List.replicate n (.slice none 0 0)) b) : TabBlock v vs b ∨ W.heap.size ≤ b := by
  rcases hb with hb | ⟨k, u, hu, hb⟩
  · rcases hl b hb with h | h
    · exact .inl (.inl h)
    · exact .inr h
  · rw [List.getElem?_append] at hu
    split at hu
    · exact .inl (.inr ⟨k, u, hu, hb⟩)
    · rw [List.getElem?_replicate] at hu
      split at hu
      · obtain rfl := Option.some.inj hu
        cases hb
      · cases hu

/-- More rows for the sides. -/
theorem NumAt.moreS {vS' : Value} {n : Nat} (h : NumAt base sb css1 css2 ds T W0 W vd vS vO vs1 vs2) (hown : W'.ownsRow base 104 1 vS' (css1.length + n) (vs1 ++ List.replicate n (.slice none 0 0))) (hg : W.grownBy W' vS.ownBlock) (hl : ∀ b, vS'.ownBlock = some b → vS.ownBlock = some b ∨ W.heap.size ≤ b) :
    NumAt base sb (css1 ++ List.replicate n []) css2 ds T W0 (W'.setCell ⟨sb, 1, none⟩ vS') vd vS' vO (vs1 ++ List.replicate n (.slice none 0 0)) vs2 := by
  have hs1 : ∀ b, TabBlock vS vs1 b → b ≠ sb := fun b hb => by have := (h.t1.lt hb).1; have := h.sbl; omega
  have hs2 : ∀ b, TabBlock vO vs2 b → b ≠ sb := fun b hb => by have := (h.t2.lt hb).1; have := h.sbl; omega
  have hsd : ∀ b, vd.ownBlock = some b → b ≠ sb := fun b hb => by have := (h.dims.lt b hb).1; have := h.sbl; omega
  have hsbW : sb < W.heap.size := cell_lt h.c0.1
  have hbl : ∀ b, TabBlock vS' (vs1 ++ List.replicate n (.slice none 0 0)) b → TabBlock vS vs1 b ∨ W.heap.size ≤ b := fun b hb => tab_more_block hl hb
  have far : ∀ j v, (W.cell? ⟨sb, j, none⟩ = some v ∧ W.frozen? ⟨sb, j, none⟩ = false) → (W'.cell? ⟨sb, j, none⟩ = some v ∧ W'.frozen? ⟨sb, j, none⟩ = false) := fun j v hc => by
    have hb := hg.block sb hsbW (fun e => hs1 sb (.inl e.symm) rfl)
    exact ⟨(World.cell?_of_block (a := ⟨sb, j, none⟩) hb).trans hc.1, (World.frozen?_of_block (a := ⟨sb, j, none⟩) hb).trans hc.2⟩
  have kp : ∀ j v, j ≠ 1 → (W.cell? ⟨sb, j, none⟩ = some v ∧ W.frozen? ⟨sb, j, none⟩ = false) → ((W'.setCell ⟨sb, 1, none⟩ vS').cell? ⟨sb, j, none⟩ = some v ∧ (W'.setCell ⟨sb, 1, none⟩ vS').frozen? ⟨sb, j, none⟩ = false) := fun j v hj hc =>
    ⟨(World.cell?_setCell_other _ _ _ _ (addr_ne (.inr (Ne.symm hj)))).trans (far j v hc).1, by rw [World.frozen?_setCell]; exact (far j v hc).2⟩
  refine ⟨?_, ?_, ?_, fun b hb hb2 => ?_, fun b hb => ⟨fun hb2 => ?_, (h.disd b hb).2⟩, kp 0 _ (by decide) h.c0, ⟨World.cell?_setCell_same' _ _ _ (by rw [(far 1 _ h.c1).1]; rfl), by rw [World.frozen?_setCell]; exact (far 1 _ h.c1).2⟩, kp 2 _ (by decide) h.c2, h.sbl, ?_, h.Ts, h.bd, fun b hb => ?_, h.b2⟩
  · exact (h.dims.kept hg (not_own fun b hb e => (h.disd b hb).1 (.inl e))).kept (grown_one W' ⟨sb, 1, none⟩ vS') (not_own fun b hb e => hsd b hb (Option.some.inj e).symm)
  · refine (h.t1.more hown hg hl).kept (grown_one W' ⟨sb, 1, none⟩ vS') (fun b e hb => ?_)
    obtain rfl : sb = b := Option.some.inj e
    rcases hbl sb hb with h1 | h1
    · exact hs1 sb h1 rfl
    · omega
  · exact (h.t2.kept hg (fun b e => h.dis b (.inl e))).kept (grown_one W' ⟨sb, 1, none⟩ vS') (fun b e hb => hs2 b hb (Option.some.inj e).symm)
  · rcases hbl b hb with h1 | h1
    · exact h.dis b h1 hb2
    · have := (h.t2.lt hb2).2; omega
  · rcases hbl b hb2 with h1 | h1
    · exact (h.disd b hb).1 h1
    · have := (h.dims.lt b hb).2; omega
  · exact (h.keep.on hg (fun b e => h.b1 b (.inl e))).on (grown_one W' ⟨sb, 1, none⟩ vS') (fun b e => by obtain rfl : sb = b := Option.some.inj e; exact .inl h.Ts)
  · rcases hbl b hb with h1 | h1
    · exact h.b1 b h1
    · right; have := h.keep.size; omega

/-- More rows for the faces over each. -/
theorem NumAt.moreO {vO' : Value} {n : Nat} (h : NumAt base sb css1 css2 ds T W0 W vd vS vO vs1 vs2) (hown : W'.ownsRow base 51 1 vO' (css2.length + n) (vs2 ++ List.replicate n (.slice none 0 0))) (hg : W.grownBy W' vO.ownBlock) (hl : ∀ b, vO'.ownBlock = some b → vO.ownBlock = some b ∨ W.heap.size ≤ b) :
    NumAt base sb css1 (css2 ++ List.replicate n []) ds T W0 (W'.setCell ⟨sb, 2, none⟩ vO') vd vS vO' vs1 (vs2 ++ List.replicate n (.slice none 0 0)) := by
  have hs1 : ∀ b, TabBlock vS vs1 b → b ≠ sb := fun b hb => by have := (h.t1.lt hb).1; have := h.sbl; omega
  have hs2 : ∀ b, TabBlock vO vs2 b → b ≠ sb := fun b hb => by have := (h.t2.lt hb).1; have := h.sbl; omega
  have hsd : ∀ b, vd.ownBlock = some b → b ≠ sb := fun b hb => by have := (h.dims.lt b hb).1; have := h.sbl; omega
  have hsbW : sb < W.heap.size := cell_lt h.c0.1
  have hbl : ∀ b, TabBlock vO' (vs2 ++ List.replicate n (.slice none 0 0)) b → TabBlock vO vs2 b ∨ W.heap.size ≤ b := fun b hb => tab_more_block hl hb
  have far : ∀ j v, (W.cell? ⟨sb, j, none⟩ = some v ∧ W.frozen? ⟨sb, j, none⟩ = false) → (W'.cell? ⟨sb, j, none⟩ = some v ∧ W'.frozen? ⟨sb, j, none⟩ = false) := fun j v hc => by
    have hb := hg.block sb hsbW (fun e => hs2 sb (.inl e.symm) rfl)
    exact ⟨(World.cell?_of_block (a := ⟨sb, j, none⟩) hb).trans hc.1, (World.frozen?_of_block (a := ⟨sb, j, none⟩) hb).trans hc.2⟩
  have kp : ∀ j v, j ≠ 2 → (W.cell? ⟨sb, j, none⟩ = some v ∧ W.frozen? ⟨sb, j, none⟩ = false) → ((W'.setCell ⟨sb, 2, none⟩ vO').cell? ⟨sb, j, none⟩ = some v ∧ (W'.setCell ⟨sb, 2, none⟩ vO').frozen? ⟨sb, j, none⟩ = false) := fun j v hj hc =>
    ⟨(World.cell?_setCell_other _ _ _ _ (addr_ne (.inr (Ne.symm hj)))).trans (far j v hc).1, by rw [World.frozen?_setCell]; exact (far j v hc).2⟩
  refine ⟨?_, ?_, ?_, fun b hb hb2 => ?_, fun b hb => ⟨(h.disd b hb).1, fun hb2 => ?_⟩, kp 0 _ (by decide) h.c0, kp 1 _ (by decide) h.c1, ⟨World.cell?_setCell_same' _ _ _ (by rw [(far 2 _ h.c2).1]; rfl), by rw [World.frozen?_setCell]; exact (far 2 _ h.c2).2⟩, h.sbl, ?_, h.Ts, h.bd, h.b1, fun b hb => ?_⟩
  · exact (h.dims.kept hg (not_own fun b hb e => (h.disd b hb).2 (.inl e))).kept (grown_one W' ⟨sb, 2, none⟩ vO') (not_own fun b hb e => hsd b hb (Option.some.inj e).symm)
  · exact (h.t1.kept hg (fun b e hb => h.dis b hb (.inl e))).kept (grown_one W' ⟨sb, 2, none⟩ vO') (fun b e hb => hs1 b hb (Option.some.inj e).symm)
  · refine (h.t2.more hown hg hl).kept (grown_one W' ⟨sb, 2, none⟩ vO') (fun b e hb => ?_)
    obtain rfl : sb = b := Option.some.inj e
    rcases hbl sb hb with h1 | h1
    · exact hs2 sb h1 rfl
    · omega
  · rcases hbl b hb2 with h1 | h1
    · exact h.dis b hb h1
    · have := (h.t1.lt hb).2; omega
  · rcases hbl b hb2 with h1 | h1
    · exact (h.disd b hb).2 h1
    · have := (h.dims.lt b hb).2; omega
  · exact (h.keep.on hg (fun b e => h.b2 b (.inl e))).on (grown_one W' ⟨sb, 2, none⟩ vO') (fun b e => by obtain rfl : sb = b := Option.some.inj e; exact .inl h.Ts)
  · rcases hbl b hb with h1 | h1
    · exact h.b2 b h1
    · right; have := h.keep.size; omega

end

end Go.Proofs.YthdmfeidcldafaaGreatDoor
