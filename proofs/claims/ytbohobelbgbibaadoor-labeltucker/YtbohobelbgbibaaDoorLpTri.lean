/- Slices of triples of numbers, as they read. -/
import Derived.Test.YtbohobelbgbibaaDoorLabSpots
import Derived.Laws.OwnMore
namespace Go.Proofs.YtbohobelbgbibaaDoor
open Go.RowKit Go.Sort

abbrev T3 := Int × Int × Int
/-- A triple's cells. -/
def encT (a : T3) : List Value := [.int .i64 a.1, .int .i64 a.2.1, .int .i64 a.2.2]
def t3Cells (l : List T3) : List Value := l.flatMap encT
theorem t3Cells_app (l m : List T3) : t3Cells (l ++ m) = t3Cells l ++ t3Cells m := by simp [t3Cells]
theorem t3Cells_len (l : List T3) : (t3Cells l).length = l.length * 3 := by
  induction l with
  | nil => rfl
  | cons s l ih => show (encT s ++ t3Cells l).length = _; rw [List.length_append, ih]; simp only [encT, List.length_cons, List.length_nil]; omega
theorem t3Cells_at {l : List T3} {k : Nat} {s : T3} (h : l[k]? = some s) : (t3Cells l)[k * 3]? = some (.int .i64 s.1) ∧ (t3Cells l)[k * 3 + 1]? = some (.int .i64 s.2.1) ∧ (t3Cells l)[k * 3 + 2]? = some (.int .i64 s.2.2) := by
  induction l generalizing k with
  | nil => simp at h
  | cons x l ih =>
    have e : t3Cells (x :: l) = [.int .i64 x.1, .int .i64 x.2.1, .int .i64 x.2.2] ++ t3Cells l := rfl
    rw [e]
    cases k with
    | zero =>
      obtain rfl := Option.some.inj h
      exact ⟨rfl, rfl, rfl⟩
    | succ k =>
      obtain ⟨h1, h2, h3⟩ := ih (by simpa using h)
      rw [Nat.succ_mul, List.getElem?_append_right (by simp), List.getElem?_append_right (by simp), List.getElem?_append_right (by simp)]
      exact ⟨h1, h2, h3⟩
/-- Triples in a row of their own. -/
def TriRow (base : Nat) (W : World) (v : Value) (l : List T3) : Prop := W.ownsRow base 36 3 v l.length (t3Cells l)
theorem TriRow.form {base : Nat} {W : World} {v : Value} {l : List T3} (h : TriRow base W v l) : ∃ a c, v = .slice a l.length c := by
  obtain ⟨_, h⟩ := h
  rcases h with ⟨rfl, h⟩ | ⟨g, cap, cur, rfl, _⟩
  · rw [h]; exact ⟨_, _, rfl⟩
  · exact ⟨_, _, rfl⟩
theorem TriRow.nil (base : Nat) (W : World) : TriRow base W (.slice none 0 0) [] := World.ownsRow_nil _ _ _ _
/-- A slice that reads as these triples. -/
def TriRd (W : World) (v : Value) (l : List T3) : Prop := ∃ a cap, v = .slice a l.length cap ∧ (0 < l.length → ∃ g, a = some ⟨g, 0, none⟩ ∧ ∀ k t, l[k]? = some t → W.cell? ⟨g, k * 3, none⟩ = some (.int .i64 t.1) ∧ W.cell? ⟨g, k * 3 + 1, none⟩ = some (.int .i64 t.2.1) ∧ W.cell? ⟨g, k * 3 + 2, none⟩ = some (.int .i64 t.2.2))
theorem TriRow.reads {base : Nat} {W : World} {v : Value} {l : List T3} (h : TriRow base W v l) : TriRd W v l := by
  have h0 : W.ownsRow base 36 3 v l.length (t3Cells l) := h
  rcases h.2 with ⟨rfl, hn⟩ | ⟨g, cap, cur, rfl, hb, hg, _⟩
  · exact ⟨none, 0, by rw [hn], fun h0 => by omega⟩
  · refine ⟨some ⟨g, 0, none⟩, cap, rfl, fun _ => ⟨g, rfl, fun k t hk => ?_⟩⟩
    have hl : k < l.length := (List.getElem?_eq_some_iff.1 hk).1
    have hs := t3Cells_len l
    obtain ⟨h1, h2, h3⟩ := t3Cells_at hk
    exact ⟨by rw [h0.cellAt (k * 3) (by omega)]; exact h1, by rw [h0.cellAt (k * 3 + 1) (by omega)]; exact h2, by rw [h0.cellAt (k * 3 + 2) (by omega)]; exact h3⟩
theorem TriRd.below {W W' : World} {v : Value} {l : List T3} (h : TriRd W v l) (hB : Below W.heap.size W W') : TriRd W' v l := by
  obtain ⟨a, cap, e, h1⟩ := h
  refine ⟨a, cap, e, fun h0 => ?_⟩
  obtain ⟨g, e1, e2⟩ := h1 h0
  refine ⟨g, e1, fun k t hk => ?_⟩
  obtain ⟨c1, c2, c3⟩ := e2 k t hk
  exact ⟨(hB.cell (p := ⟨g, k * 3, none⟩) (cell_lt c1)).trans c1, (hB.cell (p := ⟨g, k * 3 + 1, none⟩) (cell_lt c2)).trans c2, (hB.cell (p := ⟨g, k * 3 + 2, none⟩) (cell_lt c3)).trans c3⟩
theorem TriRow.below {base : Nat} {W W' : World} {v : Value} {l : List T3} (h : TriRow base W v l) (hB : Below W.heap.size W W') : TriRow base W' v l := World.ownsRow.kept h (Below.grownBy hB) (by cases v.ownBlock <;> simp)
theorem Tryd.infoT3 : (Tryd.prog.info? 36).map (fun i => (i.zero, i.size, i.bytes)) = some (some (.agg #[.int .i64 0, .int .i64 0, .int .i64 0]), 3, 24) := by kernel_rfl

/-- A triple that was just boxed. -/
theorem box3 (w : World) (x y z : Value) (t : TypeId) : (w.alloc (.cells #[x, y, z] t)).cell? ⟨w.heap.size, 0, none⟩ = some x ∧ (w.alloc (.cells #[x, y, z] t)).cell? ⟨w.heap.size, 1, none⟩ = some y ∧ (w.alloc (.cells #[x, y, z] t)).cell? ⟨w.heap.size, 2, none⟩ = some z ∧ Below w.heap.size w (w.alloc (.cells #[x, y, z] t)) ∧ (w.alloc (.cells #[x, y, z] t)).heap.size = w.heap.size + 1 := by
  refine ⟨by simp, by simp, by simp, (Below.refl _ w).alloc (Nat.le_refl _) _, by simp⟩

def spT (s : Spt) : T3 := ((s.1 : Int), (s.2.1 : Int), (s.2.2 : Int))
/-- The points of a triangle in m - 1 parts; of m = 0: none. -/
def ptsL (m : Nat) : List Spt := allS (m - 1) m
theorem ptsL_spots (n : Nat) : ptsL (n + 1) = spotsL n := rfl

end Go.Proofs.YtbohobelbgbibaaDoor
