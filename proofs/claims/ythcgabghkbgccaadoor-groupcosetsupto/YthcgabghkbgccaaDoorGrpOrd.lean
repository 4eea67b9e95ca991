/- An order, a row and rows that grow beside each other. -/
import Derived.Test.YthcgabghkbgccaaDoorGrpCopy
import Derived.Test.YthcgabghkbgccaaDoorGrpFin
namespace Go.Proofs.YthcgabghkbgccaaDoor
open Go.RowKit Go.Sort

structure OrdAt (b0 : Nat) (W : World) (vo vr vout : Value) (ord : List Nat) (row : List Int) (out : List (List Int)) : Prop where
  o : W.ownsRow b0 3 1 vo ord.length (ord.map fun (i : Nat) => Value.int .i64 (i : Int))
  r : W.ownsRow b0 3 1 vr row.length (row.map (Value.int .i64))
  outs : ∃ vs, W.ownsRow b0 27 1 vout out.length vs ∧ ∀ (k : Nat) (u : Value) (x : List Int), vs[k]? = some u → out[k]? = some x → IntsIn (fun b => b0 ≤ b ∧ vo.ownBlock ≠ some b ∧ vr.ownBlock ≠ some b ∧ vout.ownBlock ≠ some b) W u x
  a1 : ∀ b, vo.ownBlock = some b → vr.ownBlock ≠ some b
  a2 : ∀ b, vo.ownBlock = some b → vout.ownBlock ≠ some b
  a3 : ∀ b, vr.ownBlock = some b → vout.ownBlock ≠ some b

section
variable {b0 : Nat} {W W' : World} {vo vr vout v' : Value} {ord : List Nat} {row : List Int} {out : List (List Int)} {ob : Obj}
theorem grown_block {v : Value} (hg : (W.alloc ob).grownBy W' v.ownBlock) {b : Nat} (hb : b < W.heap.size) (hne : v.ownBlock ≠ some b) : W'.heap[b]? = W.heap[b]? := (hg.block b (by rw [World.size_alloc]; omega) fun e => hne e.symm).trans (Below.heap_alloc W ob b hb)
theorem new_block {v v' : Value} (hl : v'.ownBlock = v.ownBlock ∨ v'.ownBlock = some (W.alloc ob).heap.size) {b : Nat} (e : v'.ownBlock = some b) : v.ownBlock = some b ∨ W.heap.size ≤ b := by
  rw [World.size_alloc] at hl
  rcases hl with k | k
  · exact .inl (k.symm.trans e)
  · have := Option.some.inj (e.symm.trans k); exact .inr (by omega)
theorem OrdAt.keep (h : OrdAt b0 W vo vr vout ord row out) (hk : ∀ b, b < W.heap.size → b0 ≤ b → W'.heap[b]? = W.heap[b]?) : OrdAt b0 W' vo vr vout ord row out := by
  obtain ⟨vs, h1, h2⟩ := h.outs
  exact ⟨own_kept h.o fun b e hb => hk b hb (h.o.lt b e).1, own_kept h.r fun b e hb => hk b hb (h.r.lt b e).1, ⟨vs, own_kept h1 fun b e hb => hk b hb (h1.lt b e).1, fun k u x hu hx => SliceIn.keep (h2 k u x hu hx) fun b hb hS => hk b hb hS.1⟩, h.a1, h.a2, h.a3⟩
/-- The order grows. -/
theorem OrdAt.order (h : OrdAt b0 W vo vr vout ord row out) {t : Nat} (hown : W'.ownsRow b0 3 1 v' (ord.length + 1) ((ord.map fun (i : Nat) => Value.int .i64 (i : Int)) ++ [.int .i64 (t : Int)])) (hg : (W.alloc ob).grownBy W' vo.ownBlock) (hl : v'.ownBlock = vo.ownBlock ∨ v'.ownBlock = some (W.alloc ob).heap.size) : OrdAt b0 W' v' vr vout (ord ++ [t]) row out := by
  obtain ⟨vs, h1, h2⟩ := h.outs
  refine ⟨by rw [List.length_append, List.map_append]; exact hown, own_kept h.r fun b e hb => grown_block hg hb fun e' => h.a1 b e' e, ⟨vs, own_kept h1 fun b e hb => grown_block hg hb fun e' => h.a2 b e' e, fun k u x hu hx => ?_⟩, fun b e e' => ?_, fun b e e' => ?_, h.a3⟩
  · refine SliceIn.keep (SliceIn.mono (h2 k u x hu hx) (S' := fun b => (b0 ≤ b ∧ v'.ownBlock ≠ some b ∧ vr.ownBlock ≠ some b ∧ vout.ownBlock ≠ some b) ∧ vo.ownBlock ≠ some b) fun b hb hS => ⟨⟨hS.1, fun e => ?_, hS.2.2⟩, hS.2.1⟩) (fun b hb hS => grown_block hg hb hS.2) |> fun h9 => SliceIn.mono h9 fun b _ hS => hS.1
    rcases new_block hl e with k | k
    · exact hS.2.1 k
    · omega
  · rcases new_block hl e with k | k
    · exact h.a1 b k e'
    · have := (h.r.lt b e').2; omega
  · rcases new_block hl e with k | k
    · exact h.a2 b k e'
    · have := (h1.lt b e').2; omega
/-- The row grows. -/
theorem OrdAt.rowed (h : OrdAt b0 W vo vr vout ord row out) {t : Int} (hown : W'.ownsRow b0 3 1 v' (row.length + 1) ((row.map (Value.int .i64)) ++ [.int .i64 t])) (hg : (W.alloc ob).grownBy W' vr.ownBlock) (hl : v'.ownBlock = vr.ownBlock ∨ v'.ownBlock = some (W.alloc ob).heap.size) : OrdAt b0 W' vo v' vout ord (row ++ [t]) out := by
  obtain ⟨vs, h1, h2⟩ := h.outs
  refine ⟨own_kept h.o fun b e hb => grown_block hg hb fun e' => h.a1 b e e', by rw [List.length_append, List.map_append]; exact hown, ⟨vs, own_kept h1 fun b e hb => grown_block hg hb fun e' => h.a3 b e' e, fun k u x hu hx => ?_⟩, fun b e e' => ?_, h.a2, fun b e e' => ?_⟩
  · refine SliceIn.keep (SliceIn.mono (h2 k u x hu hx) (S' := fun b => (b0 ≤ b ∧ vo.ownBlock ≠ some b ∧ v'.ownBlock ≠ some b ∧ vout.ownBlock ≠ some b) ∧ vr.ownBlock ≠ some b) fun b hb hS => ⟨⟨hS.1, hS.2.1, fun e => ?_, hS.2.2.2⟩, hS.2.2.1⟩) (fun b hb hS => grown_block hg hb hS.2) |> fun h9 => SliceIn.mono h9 fun b _ hS => hS.1
    rcases new_block hl e with k | k
    · exact hS.2.2.1 k
    · omega
  · rcases new_block hl e' with k | k
    · exact h.a1 b e k
    · have := (h.o.lt b e).2; omega
  · rcases new_block hl e with k | k
    · exact h.a3 b k e'
    · have := (h1.lt b e').2; omega
/-- The row is put behind the others. -/
theorem OrdAt.push (h : OrdAt b0 W vo vr vout ord row out) (vs : List Value) (hvs : W.ownsRow b0 27 1 vout out.length vs ∧ ∀ (k : Nat) (u : Value) (x : List Int), vs[k]? = some u → out[k]? = some x → IntsIn (fun b => b0 ≤ b ∧ vo.ownBlock ≠ some b ∧ vr.ownBlock ≠ some b ∧ vout.ownBlock ≠ some b) W u x)
    (hown : W'.ownsRow b0 27 1 v' (out.length + 1) (vs ++ [vr])) (hg : (W.alloc ob).grownBy W' vout.ownBlock) (hl : v'.ownBlock = vout.ownBlock ∨ v'.ownBlock = some (W.alloc ob).heap.size) : OrdAt b0 W' vo (.slice none 0 0) v' ord [] (out ++ [row]) := by
  have hlen : vs.length = out.length := by have := hvs.1.1; omega
  refine ⟨own_kept h.o fun b e hb => grown_block hg hb fun e' => h.a2 b e e', World.ownsRow_nil _ _ _ _, ⟨vs ++ [vr], by rw [List.length_append]; exact hown, fun k u x hu hx => ?_⟩, fun b _ e => (by cases e), fun b e e' => ?_, fun b e => (by cases e)⟩
  · have hw : IntsIn (fun b => b0 ≤ b ∧ vo.ownBlock ≠ some b ∧ vout.ownBlock ≠ some b) W u x := by
      rcases Nat.lt_or_ge k out.length with hk | hk
      · rw [List.getElem?_append_left (by omega)] at hu hx
        exact SliceIn.mono (hvs.2 k u x hu hx) fun b _ hS => ⟨hS.1, hS.2.1, hS.2.2.2⟩
      · rw [List.getElem?_append_right (by omega)] at hu hx
        have hk0 : k - vs.length = 0 := by
          rcases Nat.eq_zero_or_pos (k - vs.length) with e | e
          · exact e
          · rw [List.getElem?_eq_none (by simp; omega)] at hu; cases hu
        rw [hk0] at hu
        rw [← hlen, hk0] at hx
        have e1 : vr = u := Option.some.inj hu
        have e2 : row = x := Option.some.inj hx
        subst e1 e2
        exact slice_of_owns h.r fun b h3 h4 => ⟨h3, fun e => h.a1 b e h4, h.a3 b h4⟩
    refine SliceIn.keep (SliceIn.mono hw (S' := fun b => (b0 ≤ b ∧ vo.ownBlock ≠ some b ∧ (Value.slice none 0 0).ownBlock ≠ some b ∧ v'.ownBlock ≠ some b) ∧ vout.ownBlock ≠ some b) fun b hb hS => ⟨⟨hS.1, hS.2.1, (fun e => by cases e), fun e => ?_⟩, hS.2.2⟩) (fun b hb hS => grown_block hg hb hS.2) |> fun h9 => SliceIn.mono h9 fun b _ hS => hS.1
    rcases new_block hl e with k | k
    · exact hS.2.2 k
    · omega
  · rcases new_block hl e' with k | k
    · exact h.a2 b e k
    · have := (h.o.lt b e).2; omega
theorem OrdAt.rows (h : OrdAt b0 W vo vr vout ord row out) : Rows W vout out := by
  obtain ⟨vs, h1, h2⟩ := h.outs
  exact ⟨vs, slice_of_owns h1 (fun _ _ _ => trivial), by have := h1.1; simpa using this, fun k u x hu hx => (h2 k u x hu hx).any⟩
end

end Go.Proofs.YthcgabghkbgccaaDoor
