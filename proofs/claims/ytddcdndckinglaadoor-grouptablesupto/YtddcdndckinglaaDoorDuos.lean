/- Slices of pairs of numbers, as they read. -/
import Derived.Test.YtddcdndckinglaaDoorAppendWide
import Derived.Laws.OwnMore
namespace Go.Proofs.YtddcdndckinglaaDoor
open Go.RowKit Go.Sort

abbrev Duo := Int × Int

/-- Their cells. -/
def duoCells (l : List Duo) : List Value := l.flatMap fun a => [.int .i64 a.1, .int .i64 a.2]
theorem duoCells_snoc (l : List Duo) (a : Duo) : duoCells (l ++ [a]) = duoCells l ++ [.int .i64 a.1, .int .i64 a.2] := by simp [duoCells]
theorem duoCells_len (l : List Duo) : (duoCells l).length = l.length * 2 := by
  induction l with
  | nil => rfl
  | cons a l ih => unfold duoCells at ih ⊢; rw [List.flatMap_cons, List.length_append, ih]; simp; omega
theorem duoCells_at : ∀ {l : List Duo} {k : Nat} (hk : k < l.length), (duoCells l)[k * 2]? = some (.int .i64 l[k].1) ∧ (duoCells l)[k * 2 + 1]? = some (.int .i64 l[k].2)
  | a :: l, 0, _ => by constructor <;> rfl
  | a :: l, k + 1, hk => by
    have h := duoCells_at (l := l) (k := k) (by simpa using hk)
    have e : duoCells (a :: l) = .int .i64 a.1 :: .int .i64 a.2 :: duoCells l := rfl
    rw [e, show (k + 1) * 2 = k * 2 + 2 by omega]
    simpa using h

/-- A row of the call's own that holds these pairs. -/
def DuoRow (base : Nat) (t : TypeId) (W : World) (v : Value) (l : List Duo) : Prop := W.ownsRow base t 2 v l.length (duoCells l)

/-- A slice that reads as these pairs, in a block of S. -/
def DuoIn (S : Nat → Prop) (W : World) (v : Value) (l : List Duo) : Prop :=
  ∃ a cap, v = .slice a l.length cap ∧ (0 < l.length → ∃ g o, a = some ⟨g, o, none⟩ ∧ S g ∧ g < W.heap.size ∧ ∀ k (hk : k < l.length), W.cell? ⟨g, o + k * 2, none⟩ = some (.int .i64 l[k].1) ∧ W.cell? ⟨g, o + (k * 2 + 1), none⟩ = some (.int .i64 l[k].2))

theorem DuoIn.nil (S : Nat → Prop) (W : World) : DuoIn S W (.slice none 0 0) [] := ⟨none, 0, rfl, fun h => by cases h⟩
theorem DuoRow.reads {base : Nat} {t : TypeId} {W : World} {v : Value} {l : List Duo} {S : Nat → Prop} (h : DuoRow base t W v l) (hS : ∀ b, base ≤ b → v.ownBlock = some b → S b) : DuoIn S W v l := by
  rcases h.2 with ⟨rfl, hn⟩ | ⟨g, cap, cur, rfl, hb, hg, _⟩
  · exact ⟨none, 0, by rw [hn], fun h0 => by omega⟩
  · refine ⟨some ⟨g, 0, none⟩, cap, rfl, fun _ => ⟨g, 0, rfl, hS g hb rfl, (Array.getElem?_eq_some_iff.1 hg).1, fun k hk => ?_⟩⟩
    have h1 := duoCells_at hk
    have h2 := World.ownsRow.cells h (g := g) rfl _ _ h1.1
    have h3 := World.ownsRow.cells h (g := g) rfl _ _ h1.2
    rw [Addr.add_lit] at h2 h3
    exact ⟨h2, h3⟩
theorem DuoIn.keep {S : Nat → Prop} {W W' : World} {v : Value} {l : List Duo} (h : DuoIn S W v l) (hs : W.heap.size ≤ W'.heap.size) (hk : ∀ b, b < W.heap.size → S b → W'.heap[b]? = W.heap[b]?) : DuoIn S W' v l := by
  obtain ⟨a, cap, e, h1⟩ := h
  refine ⟨a, cap, e, fun h0 => ?_⟩
  obtain ⟨g, o, e1, e2, e3, e4⟩ := h1 h0
  refine ⟨g, o, e1, e2, by omega, fun k hk' => ?_⟩
  have hb := hk g e3 e2
  exact ⟨(World.cell?_of_block hb).trans (e4 k hk').1, (World.cell?_of_block hb).trans (e4 k hk').2⟩
theorem DuoIn.below {S : Nat → Prop} {W W' : World} {v : Value} {l : List Duo} (h : DuoIn S W v l) (hB : Below W.heap.size W W') : DuoIn S W' v l := h.keep hB.size (fun b hb _ => hB.block b hb)
theorem DuoIn.mono {S S' : Nat → Prop} {W : World} {v : Value} {l : List Duo} (h : DuoIn S W v l) (hs : ∀ b, b < W.heap.size → S b → S' b) : DuoIn S' W v l := by
  obtain ⟨a, cap, e, h1⟩ := h
  refine ⟨a, cap, e, fun h0 => ?_⟩
  obtain ⟨g, o, e1, e2, e3, e4⟩ := h1 h0
  exact ⟨g, o, e1, hs g e3 e2, e3, e4⟩
theorem DuoRow.below {base : Nat} {t : TypeId} {W W' : World} {v : Value} {l : List Duo} (h : DuoRow base t W v l) (hB : Below W.heap.size W W') : DuoRow base t W' v l := World.ownsRow.kept h (Below.grownBy hB) (by cases v.ownBlock <;> simp)

end Go.Proofs.YtddcdndckinglaaDoor
