/- The table that is told: its order and rows, and how they lie in memory. -/
import Derived.Test.YtmaopnbnbiediaaDoorGrpBegin
namespace Go.Proofs.YtmaopnbnbiediaaDoor
open Go.RowKit Go.Sort

def numV (ord : List Nat) (t : Nat) : Int := if t ∈ ord then (ord.idxOf t : Int) + 1 else 0

/-- Cosets that stand for themselves, each once. -/
structure OrdOk (s : Cos) (ord : List Nat) : Prop where
  nodup : ord.Nodup
  lt : ∀ a ∈ ord, a < s.R.length
  root : ∀ a ∈ ord, s.cls a = a
theorem OrdOk.few {s : Cos} {ord : List Nat} (h : OrdOk s ord) : ord.length ≤ s.R.length := by
  have := nodup_le h.nodup (Y := List.range s.R.length) (fun a ha => List.mem_range.2 (h.lt a ha))
  rwa [List.length_range] at this
theorem OrdOk.more {s : Cos} {ord : List Nat} (h : OrdOk s ord) {t : Nat} (ht : t ∉ ord) (hl : t < s.R.length) (hr : s.cls t = t) : OrdOk s (ord ++ [t]) := by
  refine ⟨?_, fun a ha => ?_, fun a ha => ?_⟩
  · rw [List.nodup_append]
    exact ⟨h.nodup, by simp, fun a ha b hb e => by rw [List.mem_singleton.1 hb] at e; exact ht (e ▸ ha)⟩
  · rcases List.mem_append.1 ha with ha | ha
    · exact h.lt a ha
    · rw [List.mem_singleton.1 ha]; exact hl
  · rcases List.mem_append.1 ha with ha | ha
    · exact h.root a ha
    · rw [List.mem_singleton.1 ha]; exact hr
theorem numV_in {ord : List Nat} {t : Nat} (h : t ∈ ord) : numV ord t = (ord.idxOf t : Int) + 1 := if_pos h
theorem numV_out {ord : List Nat} {t : Nat} (h : t ∉ ord) : numV ord t = 0 := if_neg h
theorem numV_more {ord : List Nat} {t : Nat} (h : t ∉ ord) (u : Nat) : (if u = t then ((ord.length + 1 : Nat) : Int) else numV ord u) = numV (ord ++ [t]) u := by
  by_cases e : u = t
  · subst e
    rw [if_pos rfl, numV_in (List.mem_append.2 (.inr (List.mem_singleton.2 rfl))), List.idxOf_append, if_neg h]
    simp
  · rw [if_neg e]
    by_cases e2 : u ∈ ord
    · rw [numV_in e2, numV_in (List.mem_append.2 (.inl e2)), List.idxOf_append, if_pos e2]
    · rw [numV_out e2, numV_out fun h3 => ?_]
      rcases List.mem_append.1 h3 with h3 | h3
      · exact e2 h3
      · exact e (List.mem_singleton.1 h3)

/-- A row of numbers of the call's own in a block that is no other's. -/
def rowTo (r : List Int) (x : Nat) : Int := r[x]?.getD 0

/-- What the telling has laid: the order, the numbers, the rows. -/
structure ToldAt (b0 N : Nat) (W : World) (vo vout : Value) (g4 : Nat) (ord : List Nat) (nm : List Nat) (out : List (List Int)) (Z : Nat → Prop) : Prop where
  o : W.ownsRow b0 3 1 vo ord.length (ord.map fun (i : Nat) => Value.int .i64 (i : Int))
  num : W.rowIs g4 3 N (fun t => .int .i64 (numV nm t))
  outs : ∃ vs, W.ownsRow b0 42 1 vout out.length vs ∧ ∀ (k : Nat) (u : Value) (x : List Int), vs[k]? = some u → out[k]? = some x → IntsIn (fun b => b0 ≤ b ∧ b ≠ g4 ∧ vo.ownBlock ≠ some b ∧ vout.ownBlock ≠ some b ∧ ¬ Z b) W u x
  lo4 : b0 ≤ g4
  o4 : vo.ownBlock ≠ some g4
  u4 : vout.ownBlock ≠ some g4
  ou : ∀ b, vo.ownBlock = some b → vout.ownBlock ≠ some b
  z4 : ¬ Z g4
  zo : ∀ b, vo.ownBlock = some b → ¬ Z b
  zu : ∀ b, vout.ownBlock = some b → ¬ Z b

theorem own_keep {W W' : World} {b0 : Nat} {t : TypeId} {v : Value} {n : Nat} {xs : List Value} (h : W.ownsRow b0 t 1 v n xs) (hk : ∀ b, v.ownBlock = some b → W'.heap[b]? = W.heap[b]?) : W'.ownsRow b0 t 1 v n xs := by
  refine ⟨h.1, h.2.imp id fun ⟨g', cap, cur, e, k1, k2, k3⟩ => ⟨g', cap, cur, e, k1, ?_, k3⟩⟩
  subst e
  exact (hk g' rfl).trans k2

section
variable {b0 N g4 : Nat} {W W' : World} {vo vout : Value} {ord nm : List Nat} {out : List (List Int)} {Z : Nat → Prop}
/-- It reads on where what is not of Z is kept. -/
theorem ToldAt.keep (h : ToldAt b0 N W vo vout g4 ord nm out Z) (hk : ∀ b, b < W.heap.size → b0 ≤ b → ¬ Z b → W'.heap[b]? = W.heap[b]?) : ToldAt b0 N W' vo vout g4 ord nm out Z := by
  refine ⟨own_keep h.o fun b e => hk b (h.o.lt b e).2 (h.o.lt b e).1 (h.zo b e), h.num.of_block (hk g4 h.num.lt h.lo4 h.z4), ?_, h.lo4, h.o4, h.u4, h.ou, h.z4, h.zo, h.zu⟩
  obtain ⟨vs, h1, h2⟩ := h.outs
  exact ⟨vs, own_keep h1 fun b e => hk b (h1.lt b e).2 (h1.lt b e).1 (h.zu b e), fun k u x hu hx => SliceIn.keep (h2 k u x hu hx) fun b hb hS => hk b hb hS.1 hS.2.2.2.2⟩
theorem ToldAt.below (h : ToldAt b0 N W vo vout g4 ord nm out Z) (hB : Below W.heap.size W W') : ToldAt b0 N W' vo vout g4 ord nm out Z := h.keep fun b hb _ _ => hB.block b hb
theorem ToldAt.turn {Y : Nat → Prop} (h : ToldAt b0 N W vo vout g4 ord nm out Z) (hz : ∀ b, b < W.heap.size → Y b → Z b) : ToldAt b0 N W vo vout g4 ord nm out Y := by
  refine ⟨h.o, h.num, ?_, h.lo4, h.o4, h.u4, h.ou, fun y => h.z4 (hz _ h.num.lt y), fun b e y => h.zo b e (hz b (h.o.lt b e).2 y), ?_⟩
  · obtain ⟨vs, h1, h2⟩ := h.outs
    exact ⟨vs, h1, fun k u x hu hx => SliceIn.mono (h2 k u x hu hx) fun b hb hS => ⟨hS.1, hS.2.1, hS.2.2.1, hS.2.2.2.1, fun y => hS.2.2.2.2 (hz b hb y)⟩⟩
  · obtain ⟨vs, h1, h2⟩ := h.outs
    exact fun b e y => h.zu b e (hz b (h1.lt b e).2 y)
/-- The order grows; then the number is written. -/
theorem ToldAt.order {t : Nat} {v' : Value} {o : Obj} {w1 : World} (h : ToldAt b0 N W vo vout g4 ord nm out Z) (hZ : ∀ b, W.heap.size ≤ b → ¬ Z b)
    (hown : w1.ownsRow b0 3 1 v' (ord.length + 1) ((ord.map fun (i : Nat) => Value.int .i64 (i : Int)) ++ [.int .i64 (t : Int)])) (hg : (W.alloc o).grownBy w1 vo.ownBlock) (hl : v'.ownBlock = vo.ownBlock ∨ v'.ownBlock = some (W.alloc o).heap.size) : ToldAt b0 N w1 v' vout g4 (ord ++ [t]) nm out Z := by
  obtain ⟨vs, h1, h2⟩ := h.outs
  rw [World.size_alloc] at hl
  have hk : ∀ b, b < W.heap.size → vo.ownBlock ≠ some b → w1.heap[b]? = W.heap[b]? := fun b k1 k2 => (hg.block b (by rw [World.size_alloc]; omega) (fun e => k2 e.symm)).trans (Below.heap_alloc W o b k1)
  have h4 := h.num.lt
  refine ⟨by rw [List.length_append, List.map_append]; exact hown, h.num.of_block (hk g4 h4 h.o4), ⟨vs, own_keep h1 fun b e => hk b (h1.lt b e).2 fun e2 => h.ou b e2 e, fun k u x hu hx => ?_⟩, h.lo4, fun e => ?_, h.u4, fun b e e2 => ?_, h.z4, fun b e => ?_, h.zu⟩
  · have h5 : IntsIn (fun b => (b0 ≤ b ∧ b ≠ g4 ∧ vo.ownBlock ≠ some b ∧ vout.ownBlock ≠ some b ∧ ¬ Z b) ∧ v'.ownBlock ≠ some b) W u x := SliceIn.mono (h2 k u x hu hx) fun b hb hS => ⟨hS, fun e => by
      rcases hl with hl | hl
      · exact hS.2.2.1 (hl ▸ e)
      · rw [hl] at e; have := Option.some.inj e; omega⟩
    exact SliceIn.mono (SliceIn.keep h5 fun b hb hS => hk b hb hS.1.2.2.1) fun b _ hS => ⟨hS.1.1, hS.1.2.1, hS.2, hS.1.2.2.2.1, hS.1.2.2.2.2⟩
  · rcases hl with hl | hl
    · exact h.o4 (hl ▸ e)
    · rw [hl] at e; have := Option.some.inj e; omega
  · rcases hl with hl | hl
    · exact h.ou b (hl ▸ e) e2
    · rw [hl] at e; have := Option.some.inj e; have := (h1.lt b e2).2; omega
  · rcases hl with hl | hl
    · exact h.zo b (hl ▸ e)
    · rw [hl] at e; have := Option.some.inj e; exact hZ b (by omega)
/-- The number is written. -/
theorem ToldAt.number {t : Nat} {nm' : List Nat} {m : Int} (h : ToldAt b0 N W vo vout g4 ord nm out Z) (hm : ∀ u, (if u = t then m else numV nm u) = numV nm' u) : ToldAt b0 N (W.setCell ⟨g4, t, none⟩ (.int .i64 m)) vo vout g4 ord nm' out Z := by
  have hk : ∀ b, b ≠ g4 → (W.setCell ⟨g4, t, none⟩ (.int .i64 m)).heap[b]? = W.heap[b]? := fun b hb => Below.heap_setCell W ⟨g4, t, none⟩ _ b hb
  obtain ⟨vs, h1, h2⟩ := h.outs
  refine ⟨own_keep h.o fun b e => hk b fun e2 => h.o4 (e2 ▸ e), (h.num.set t (.int .i64 m)).congr fun u _ => ?_, ⟨vs, own_keep h1 fun b e => hk b fun e2 => h.u4 (e2 ▸ e), fun k u x hu hx => SliceIn.keep (h2 k u x hu hx) fun b hb hS => hk b hS.2.1⟩, h.lo4, h.o4, h.u4, h.ou, h.z4, h.zo, h.zu⟩
  rw [← hm u]
  split <;> rfl
/-- A row more. -/
theorem ToldAt.rowed {v' u : Value} {r : List Int} {o : Obj} {w1 : World} (h : ToldAt b0 N W vo vout g4 ord nm out Z) (hu : IntsIn (fun b => b0 ≤ b ∧ Z b) W u r) (vs : List Value) (hvs : W.ownsRow b0 42 1 vout out.length vs ∧ ∀ (k : Nat) (u : Value) (x : List Int), vs[k]? = some u → out[k]? = some x → IntsIn (fun b => b0 ≤ b ∧ b ≠ g4 ∧ vo.ownBlock ≠ some b ∧ vout.ownBlock ≠ some b ∧ ¬ Z b) W u x)
    (hown : w1.ownsRow b0 42 1 v' (out.length + 1) (vs ++ [u])) (hg : (W.alloc o).grownBy w1 vout.ownBlock) (hl : v'.ownBlock = vout.ownBlock ∨ v'.ownBlock = some (W.alloc o).heap.size) : ToldAt b0 N w1 vo v' g4 ord nm (out ++ [r]) (fun _ => False) := by
  obtain ⟨h1, h2⟩ := hvs
  rw [World.size_alloc] at hl
  have hk : ∀ b, b < W.heap.size → vout.ownBlock ≠ some b → w1.heap[b]? = W.heap[b]? := fun b k1 k2 => (hg.block b (by rw [World.size_alloc]; omega) (fun e => k2 e.symm)).trans (Below.heap_alloc W o b k1)
  have h4 := h.num.lt
  have hnew : ∀ b, b < W.heap.size → vout.ownBlock ≠ some b → v'.ownBlock ≠ some b := fun b hb k e => by
    rcases hl with hl | hl
    · exact k (hl ▸ e)
    · rw [hl] at e; have := Option.some.inj e; omega
  have key : ∀ {u : Value} {x : List Int}, IntsIn (fun b => b0 ≤ b ∧ b ≠ g4 ∧ vo.ownBlock ≠ some b ∧ vout.ownBlock ≠ some b) W u x → IntsIn (fun b => b0 ≤ b ∧ b ≠ g4 ∧ vo.ownBlock ≠ some b ∧ v'.ownBlock ≠ some b ∧ ¬ False) w1 u x := fun {u x} hx => by
    have h5 : IntsIn (fun b => (b0 ≤ b ∧ b ≠ g4 ∧ vo.ownBlock ≠ some b ∧ vout.ownBlock ≠ some b) ∧ v'.ownBlock ≠ some b) W u x := SliceIn.mono hx fun b hb hS => ⟨hS, hnew b hb hS.2.2.2⟩
    exact SliceIn.mono (SliceIn.keep h5 fun b hb hS => hk b hb hS.1.2.2.2) fun b _ hS => ⟨hS.1.1, hS.1.2.1, hS.1.2.2.1, hS.2, id⟩
  have hvl : vs.length = out.length := by have := h1.1; simpa using this
  refine ⟨own_keep h.o fun b e => hk b (h.o.lt b e).2 (h.ou b e), h.num.of_block (hk g4 h4 h.u4), ⟨vs ++ [u], by rw [List.length_append]; exact hown, fun k u' x' hu' hx' => ?_⟩, h.lo4, h.o4, hnew g4 h4 h.u4, fun b e => hnew b (h.o.lt b e).2 (h.ou b e), id, fun _ _ => id, fun _ _ => id⟩
  rw [List.getElem?_append] at hu' hx'
  rw [hvl] at hu'
  by_cases hk : k < out.length
  · rw [if_pos hk] at hu' hx'
    exact key (SliceIn.mono (h2 k u' x' hu' hx') fun b _ hS => ⟨hS.1, hS.2.1, hS.2.2.1, hS.2.2.2.1⟩)
  · rw [if_neg hk] at hu' hx'
    have h0 : k - out.length = 0 := by
      rcases Nat.eq_zero_or_pos (k - out.length) with h | h
      · exact h
      · rw [List.getElem?_eq_none (by simp; omega)] at hu'; cases hu'
    rw [h0] at hu' hx'
    simp at hu' hx'
    subst hu'; subst hx'
    exact key (SliceIn.mono hu fun b _ hS => ⟨hS.1, fun e => h.z4 (e ▸ hS.2), fun e => h.zo b e hS.2, fun e => h.zu b e hS.2⟩)
theorem ToldAt.rows (h : ToldAt b0 N W vo vout g4 ord nm out Z) : Rows W vout out := by
  obtain ⟨vs, h1, h2⟩ := h.outs
  exact ⟨vs, slice_of_owns h1 (fun _ _ _ => trivial), by have := h1.1; simpa using this, fun k u x hu hx => (h2 k u x hu hx).any⟩
end

/-- The row while it is told. -/
theorem rowK_len (s : Cos) (a : Nat) : ∀ (k : Nat) (ord : List Nat), (rowK s a k ord).2.length = k
  | 0, ord => rfl
  | k + 1, ord => by
    have ih := rowK_len s a k ord
    unfold rowK
    dsimp only
    split <;> simp [ih]
theorem rowK_in {s : Cos} {a k : Nat} {ord : List Nat} {t : Nat} (ht : s.cls (ent s.R a k).toNat = t) (h : t ∈ (rowK s a k ord).1) : rowK s a (k + 1) ord = ((rowK s a k ord).1, (rowK s a k ord).2 ++ [(((rowK s a k ord).1.idxOf t : Nat) : Int)]) := by
  rw [rowK, ht]
  rw [if_pos h]
theorem rowK_out {s : Cos} {a k : Nat} {ord : List Nat} {t : Nat} (ht : s.cls (ent s.R a k).toNat = t) (h : t ∉ (rowK s a k ord).1) : rowK s a (k + 1) ord = ((rowK s a k ord).1 ++ [t], (rowK s a k ord).2 ++ [(((rowK s a k ord).1.length : Nat) : Int)]) := by
  rw [rowK, ht]
  rw [if_neg h]
theorem rowTo_more (r : List Int) (y : Int) {k : Nat} (hk : r.length = k) (x : Nat) : (if x = k then y else rowTo r x) = rowTo (r ++ [y]) x := by
  unfold rowTo
  by_cases e : x = k
  · subst e; subst hk
    rw [if_pos rfl, List.getElem?_append_right (Nat.le_refl _), Nat.sub_self]; rfl
  · rw [if_neg e]
    by_cases e2 : x < r.length
    · rw [List.getElem?_append_left e2]
    · rw [List.getElem?_eq_none (by omega), List.getElem?_eq_none (by simp; omega)]

end Go.Proofs.YtmaopnbnbiediaaDoor
