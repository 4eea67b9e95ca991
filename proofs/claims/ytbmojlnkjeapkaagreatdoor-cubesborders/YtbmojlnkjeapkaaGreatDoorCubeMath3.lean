/- Corners and edges as keys of maps. What number does: the key is new there, and its place is how many were there. The four cells that a corner is the first of, told by a number; how many of a dimension there are; how far neighbours are; no program is spoken of. -/
import Derived.Test.YtbmojlnkjeapkaaGreatDoorCubeErr
import Derived.DeepKeys4
import Derived.Maps.OwnSet
import Derived.Test.YtbmojlnkjeapkaaGreatDoorCubeMath2
namespace Go.Proofs.YtbmojlnkjeapkaaGreatDoor
open Go.RowKit Go.Sort Go.Maps

theorem laid_out : laidOutB Tryz.prog = true := by kernel_rfl
theorem row_corner : (59 : TypeId) < Tryz.prog.types.size := of_decide_eq_true (by kernel_rfl)
theorem wide_corner : (match Tryz.prog.underlying 59 with | some (.array _ _) | some (.struct _) => true | _ => false) = true := by kernel_rfl
set_option maxRecDepth 100000 in
theorem law_corner : Keyed Tryz.prog 59 := Keyed.of_law (deep_law_laid laid_out (m := 2) (by omega) row_corner (by kernel_rfl) wide_corner)
theorem row_edge : (96 : TypeId) < Tryz.prog.types.size := of_decide_eq_true (by kernel_rfl)
theorem wide_edge : (match Tryz.prog.underlying 96 with | some (.array _ _) | some (.struct _) => true | _ => false) = true := by kernel_rfl
set_option maxRecDepth 100000 in
theorem law_edge : Keyed Tryz.prog 96 := Keyed.of_law (deep_law_laid laid_out (m := 3) (by omega) row_edge (by kernel_rfl) wide_edge)

theorem wfI {x : Int} (h0 : -10000000 ≤ x) (h1 : x ≤ 10000000) : (Lit.int .i64 x).wf = true := by
  have e1 : IntKind.min .i64 = -9223372036854775808 := rfl
  have e2 : IntKind.max .i64 = 9223372036854775807 := rfl
  simp only [Lit.wf, e1, e2, Bool.and_eq_true, decide_eq_true_eq]
  omega

theorem cells_corner : Tryz.prog.cellsOf 59 = 2 := by kernel_rfl
theorem cells_edge : Tryz.prog.cellsOf 96 = 4 := by kernel_rfl
theorem cells_int : Tryz.prog.cellsOf 3 = 1 := by kernel_rfl
set_option maxRecDepth 100000 in
theorem key_corner : Tryz.prog.keyType 59 = true := by kernel_rfl
set_option maxRecDepth 100000 in
theorem key_edge : Tryz.prog.keyType 96 = true := by kernel_rfl
theorem types_many : Tryz.prog.types.size = (Tryz.prog.types.size - 2) + 1 + 1 := by have : 2 < Tryz.prog.types.size := of_decide_eq_true (by kernel_rfl); omega

theorem lits_corner {x y : Int} (hx : (Lit.int .i64 x).wf = true) (hy : (Lit.int .i64 y).wf = true) (d : Nat) : Tryz.prog.keyLits (d + 1 + 1) 59 [.int .i64 x, .int .i64 y] = some [.int .i64 x, .int .i64 y] := by
  unfold Program.keyLits
  simp only [Tryz.underlying59]
  rw [if_pos ⟨by rw [cells_corner]; rfl, by simp⟩]
  simp [Program.keyLits, Tryz.underlying3, cells_int, hx, hy]

theorem corner_key {x y : Int} (hx : (Lit.int .i64 x).wf = true) (hy : (Lit.int .i64 y).wf = true) : keyOf Tryz.prog 59 (.agg #[.int .i64 x, .int .i64 y]) = some (.string (keyBytes [.int .i64 x, .int .i64 y])) := by
  unfold keyOf
  simp only [Tryz.underlying59]
  rw [if_pos (by simp [Value.formed, Tryz.underlying59, cells_corner, key_corner]), types_many]
  simp only [Value.cells]
  rw [lits_corner hx hy]
  rfl

theorem edge_key {x y u v : Int} (hx : (Lit.int .i64 x).wf = true) (hy : (Lit.int .i64 y).wf = true) (hu : (Lit.int .i64 u).wf = true) (hv : (Lit.int .i64 v).wf = true) : keyOf Tryz.prog 96 (.agg #[.int .i64 x, .int .i64 y, .int .i64 u, .int .i64 v]) = some (.string (keyBytes [.int .i64 x, .int .i64 y, .int .i64 u, .int .i64 v])) := by
  unfold keyOf
  simp only [Tryz.underlying96]
  rw [if_pos (by simp [Value.formed, Tryz.underlying96, cells_edge, key_edge]), types_many]
  simp only [Value.cells]
  unfold Program.keyLits
  simp only [Tryz.underlying96]
  rw [if_pos ⟨by rw [cells_edge]; rfl, by simp⟩]
  simp [cells_corner, lits_corner, hx, hy, hu, hv]

/-- A corner's key, an edge's key; unlike ones are of unlike keys. -/
def keyC (a : Sq) : Lit := .string (keyBytes [.int .i64 a.1, .int .i64 a.2])
def keyE (a b : Sq) : Lit := .string (keyBytes [.int .i64 a.1, .int .i64 a.2, .int .i64 b.1, .int .i64 b.2])

/-- A square or corner with small numbers. -/
def Small (a : Sq) : Prop := (-1000000 ≤ a.1 ∧ a.1 ≤ 1000000) ∧ (-1000000 ≤ a.2 ∧ a.2 ≤ 1000000)

theorem Small.key {a : Sq} (h : Small a) : keyOf Tryz.prog 59 (cornerV a) = some (keyC a) := by
  unfold Small at h
  exact corner_key (wfI (by omega) (by omega)) (wfI (by omega) (by omega))

theorem keyC_inj {a b : Sq} (ha : Small a) (hb : Small b) (h : keyC a = keyC b) : a = b := by
  have e : cornerV a = cornerV b := law_corner.inj ha.key (by rw [h]; exact hb.key)
  unfold cornerV at e
  simp at e
  exact Prod.ext e.1 e.2

end Go.Proofs.YtbmojlnkjeapkaaGreatDoor

namespace Go.Proofs.YtbmojlnkjeapkaaGreatDoor
open Go.RowKit Go.Sort Go.Maps

/-- The datum of a number. -/
def numD (n : Nat) : DataW Unit := .lit (.int .i64 (n : Int))

set_option maxRecDepth 100000 in
set_option maxHeartbeats 1000000 in
theorem number_c (b n : Nat) (D : DataW Unit) (a : Sq) (w : World) (hM : w.ownsMap Tryz.prog 59 (plainElem Tryz.prog 3) b n D) (hn : n ≤ 100000) (ha : Small a) :
    Calls Tryz.prog 50 #[.map (some b), cornerV a] w fun e w' => e = .returned (.tuple #[]) ∧ w'.ownsMap Tryz.prog 59 (plainElem Tryz.prog 3) b (n + 1) (D.put (keyC a) (numD (Maps.size D))) ∧ w.grownBy w' (some b) := by
  have hkey := ha.key
  have hsz := hM.size_le
  have hwf : (Lit.int .i64 ((Maps.size D : Nat) : Int)).wf = true := wfI (by omega) (by omega)
  have hM1 : (w.alloc (.cells #[.int .i64 a.1, .int .i64 a.2] 59)).ownsMap Tryz.prog 59 (plainElem Tryz.prog 3) b n D := hM.alloc _
  have hg0 := World.grownBy_alloc w (.cells #[.int .i64 a.1, .int .i64 a.2] 59) (some b)
  unfold cornerV at hkey ⊢
  clear hM
  go_enter Tryz.func50, Tryz.ntmps50
  go_wp2_with (first
    | (at_len; refine wpList_len_own _ rfl _ 52 rfl 59 3 Tryz.underlying52 _ b n D rfl hM1 ?_)
    | (at_mapUpdate; refine wpList_mapUpdate_own _ rfl _ _ _ 52 rfl 59 3 law_corner Tryz.underlying52 _ b n D rfl hM1 (by unfold maxLen; omega) _ _ _ rfl rfl hkey _ [] (plainElem_int Tryz.underlying3 hwf) ?_; intro w1 hown1 hg1)
    | go_in)
  refine bodyPost_end (v := .tuple #[]) ?_ rfl ⟨rfl, hown1, hg0.trans hg1⟩
  simp [results, Tryz.f50, go_sem]

/-- An edge's value. -/
def edgeV (a c : Sq) : Value := .agg #[.int .i64 a.1, .int .i64 a.2, .int .i64 c.1, .int .i64 c.2]
theorem edge_of {a c : Sq} (ha : Small a) (hc : Small c) : keyOf Tryz.prog 96 (edgeV a c) = some (keyE a c) := by
  unfold Small at ha hc
  exact edge_key (wfI (by omega) (by omega)) (wfI (by omega) (by omega)) (wfI (by omega) (by omega)) (wfI (by omega) (by omega))
theorem keyE_inj {a c x y : Sq} (ha : Small a) (hc : Small c) (hx : Small x) (hy : Small y) (h : keyE a c = keyE x y) : a = x ∧ c = y := by
  have e : edgeV a c = edgeV x y := law_edge.inj (edge_of ha hc) (by rw [h]; exact edge_of hx hy)
  unfold edgeV at e
  simp at e
  exact ⟨Prod.ext e.1 e.2.1, Prod.ext e.2.2.1 e.2.2.2⟩

set_option maxRecDepth 100000 in
set_option maxHeartbeats 1000000 in
theorem number_e (b n : Nat) (D : DataW Unit) (a c : Sq) (w : World) (hM : w.ownsMap Tryz.prog 96 (plainElem Tryz.prog 3) b n D) (hn : n ≤ 100000) (ha : Small a) (hc : Small c) :
    Calls Tryz.prog 51 #[.map (some b), edgeV a c] w fun e w' => e = .returned (.tuple #[]) ∧ w'.ownsMap Tryz.prog 96 (plainElem Tryz.prog 3) b (n + 1) (D.put (keyE a c) (numD (Maps.size D))) ∧ w.grownBy w' (some b) := by
  have hkey := edge_of ha hc
  have hsz := hM.size_le
  have hwf : (Lit.int .i64 ((Maps.size D : Nat) : Int)).wf = true := wfI (by omega) (by omega)
  have hM1 : (w.alloc (.cells #[.int .i64 a.1, .int .i64 a.2, .int .i64 c.1, .int .i64 c.2] 96)).ownsMap Tryz.prog 96 (plainElem Tryz.prog 3) b n D := hM.alloc _
  have hg0 := World.grownBy_alloc w (.cells #[.int .i64 a.1, .int .i64 a.2, .int .i64 c.1, .int .i64 c.2] 96) (some b)
  unfold edgeV at hkey ⊢
  clear hM
  go_enter Tryz.func51, Tryz.ntmps51
  go_wp2_with (first
    | (at_len; refine wpList_len_own _ rfl _ 53 rfl 96 3 Tryz.underlying53 _ b n D rfl hM1 ?_)
    | (at_mapUpdate; refine wpList_mapUpdate_own _ rfl _ _ _ 53 rfl 96 3 law_edge Tryz.underlying53 _ b n D rfl hM1 (by unfold maxLen; omega) _ _ _ rfl rfl hkey _ [] (plainElem_int Tryz.underlying3 hwf) ?_; intro w1 hown1 hg1)
    | go_in)
  refine bodyPost_end (v := .tuple #[]) ?_ rfl ⟨rfl, hown1, hg0.trans hg1⟩
  simp [results, Tryz.f51, go_sem]

end Go.Proofs.YtbmojlnkjeapkaaGreatDoor

namespace Go.Proofs.YtbmojlnkjeapkaaGreatDoor

/-- The four cells at a corner: the corner, the edge to the right, the edge downward, the square; a cell's dimension. -/
def kindB (f : Int → Int → Bool) (k : Nat) : Sq → Bool := if k = 0 then cornerB f else if k = 1 then rightB f else if k = 2 then downB f else hereB f
def kindD (k : Nat) : Nat := k % 2 + k / 2

theorem hit_kind {f : Int → Int → Bool} (hf : Fenced f) {x y : Int} (hx : 0 ≤ x) (hy : 0 ≤ y) {k : Nat} (hk : k < 4) : HitAny f (2 * x + ((k % 2 : Nat) : Int)) (2 * y + ((k / 2 : Nat) : Int)) ↔ kindB f k (x, y) = true := by
  obtain rfl | rfl | rfl | rfl : k = 0 ∨ k = 1 ∨ k = 2 ∨ k = 3 := by omega
  · simpa [kindB] using hit_corner hf hx hy
  · simpa [kindB] using hit_right hf hx hy
  · simpa [kindB] using hit_down hf hx hy
  · simpa [kindB] using hit_here (f := f) hx hy

/-- How many of the first k cells at a corner are of the dimension and there. -/
def cellsAt (f : Int → Int → Bool) (d : Int) (a : Sq) : Nat → Nat
  | 0 => 0
  | k + 1 => cellsAt f d a k + (if (kindD k : Int) = d ∧ kindB f k a = true then 1 else 0)

/-- How many those of a list have. -/
def cellsN (f : Int → Int → Bool) (d : Int) : List Sq → Nat
  | [] => 0
  | a :: l => cellsAt f d a 4 + cellsN f d l

theorem cellsN_append (f : Int → Int → Bool) (d : Int) (l r : List Sq) : cellsN f d (l ++ r) = cellsN f d l + cellsN f d r := by
  induction l with
  | nil => simp [cellsN]
  | cons a l ih => simp only [List.cons_append, cellsN, ih]; omega

theorem cellsAt_le (f : Int → Int → Bool) (d : Int) (a : Sq) (k : Nat) : cellsAt f d a k ≤ k := by
  induction k with
  | zero => simp [cellsAt]
  | succ k ih => unfold cellsAt; split <;> omega

theorem cellsN_le (f : Int → Int → Bool) (d : Int) (l : List Sq) : cellsN f d l ≤ 4 * l.length := by
  induction l with
  | nil => simp [cellsN]
  | cons a l ih => have := cellsAt_le f d a 4; simp only [cellsN, List.length_cons]; omega

theorem cellsN_zero (f : Int → Int → Bool) (l : List Sq) : cellsN f 0 l = cornersN f l := by
  induction l with
  | nil => rfl
  | cons a l ih =>
    unfold cellsN cornersN
    rw [List.countP_cons, ih]
    unfold cornersN
    simp only [cellsAt, kindD, kindB]
    simp
    split <;> omega

theorem cellsN_one (f : Int → Int → Bool) (l : List Sq) : cellsN f 1 l = edgesN f l := by
  induction l with
  | nil => rfl
  | cons a l ih =>
    unfold cellsN edgesN
    rw [List.countP_cons, List.countP_cons, ih]
    unfold edgesN
    simp only [cellsAt, kindD, kindB]
    simp
    split <;> split <;> omega

theorem cellsN_two (f : Int → Int → Bool) (l : List Sq) : cellsN f 2 l = squaresN f l := by
  induction l with
  | nil => rfl
  | cons a l ih =>
    unfold cellsN squaresN
    rw [List.countP_cons, ih]
    unfold squaresN
    simp only [cellsAt, kindD, kindB]
    simp
    split <;> omega

/-- A cell at a corner, by twice its middle; those of the first k that are of the dimension and there; those of a list. -/
def cellOf (a : Sq) (k : Nat) : Sq := (2 * a.1 + ((k % 2 : Nat) : Int), 2 * a.2 + ((k / 2 : Nat) : Int))
def cellsAtL (f : Int → Int → Bool) (d : Int) (a : Sq) : Nat → List Sq
  | 0 => []
  | k + 1 => cellsAtL f d a k ++ (if (kindD k : Int) = d ∧ kindB f k a = true then [cellOf a k] else [])
def cellsL (f : Int → Int → Bool) (d : Int) (l : List Sq) : List Sq := l.flatMap fun a => cellsAtL f d a 4

theorem cellsAtL_len (f : Int → Int → Bool) (d : Int) (a : Sq) (k : Nat) : (cellsAtL f d a k).length = cellsAt f d a k := by
  induction k with
  | zero => rfl
  | succ k ih => unfold cellsAtL cellsAt; rw [List.length_append, ih]; split <;> rfl
theorem cellsL_len (f : Int → Int → Bool) (d : Int) (l : List Sq) : (cellsL f d l).length = cellsN f d l := by
  induction l with
  | nil => rfl
  | cons a l ih => unfold cellsL at ih ⊢; rw [List.flatMap_cons, List.length_append, ih, cellsAtL_len]; rfl
theorem cellsL_snoc (f : Int → Int → Bool) (d : Int) (l : List Sq) (a : Sq) : cellsL f d (l ++ [a]) = cellsL f d l ++ cellsAtL f d a 4 := by simp [cellsL]

/-- The corners, edges and squares of a list's corners, each told by what it is. -/
def cornersL (f : Int → Int → Bool) (l : List Sq) : List Sq := l.filter (cornerB f)
def edgesL (f : Int → Int → Bool) (l : List Sq) : List (Sq × Sq) := l.flatMap fun a => (if rightB f a then [(a, (a.1 + 1, a.2))] else []) ++ (if downB f a then [(a, (a.1, a.2 + 1))] else [])

/-- The squares of a list's corners. -/
def squaresL (f : Int → Int → Bool) (l : List Sq) : List Sq := l.filter (hereB f)
theorem squaresL_len (f : Int → Int → Bool) (l : List Sq) : (squaresL f l).length = squaresN f l := by unfold squaresL squaresN; rw [List.countP_eq_length_filter]
theorem squaresL_snoc (f : Int → Int → Bool) (l : List Sq) (a : Sq) : squaresL f (l ++ [a]) = squaresL f l ++ (if hereB f a then [a] else []) := by
  unfold squaresL
  rw [List.filter_append]
  cases h : hereB f a <;> simp [h]

theorem cornersL_len (f : Int → Int → Bool) (l : List Sq) : (cornersL f l).length = cornersN f l := by unfold cornersL cornersN; rw [List.countP_eq_length_filter]
theorem edgesL_len (f : Int → Int → Bool) (l : List Sq) : (edgesL f l).length = edgesN f l := by
  unfold edgesL edgesN
  induction l with
  | nil => rfl
  | cons a l ih =>
    rw [List.flatMap_cons, List.length_append, ih, List.countP_cons, List.countP_cons]
    cases rightB f a <;> cases downB f a <;> simp <;> omega
theorem cornersL_mem {f : Int → Int → Bool} {l : List Sq} {a : Sq} (h : a ∈ cornersL f l) : a ∈ l := (List.mem_filter.1 h).1
theorem edgesL_mem {f : Int → Int → Bool} {l : List Sq} {e : Sq × Sq} (h : e ∈ edgesL f l) : e.1 ∈ l ∧ (e.2 = (e.1.1 + 1, e.1.2) ∨ e.2 = (e.1.1, e.1.2 + 1)) := by
  unfold edgesL at h
  obtain ⟨a, ha, h⟩ := List.mem_flatMap.1 h
  rcases List.mem_append.1 h with h | h
  · split at h
    · cases List.mem_singleton.1 h; exact ⟨ha, .inl rfl⟩
    · cases h
  · split at h
    · cases List.mem_singleton.1 h; exact ⟨ha, .inr rfl⟩
    · cases h
theorem cornersL_snoc (f : Int → Int → Bool) (l : List Sq) (a : Sq) : cornersL f (l ++ [a]) = cornersL f l ++ (if cornerB f a then [a] else []) := by
  unfold cornersL
  rw [List.filter_append]
  cases h : cornerB f a <;> simp [h]
theorem edgesL_snoc (f : Int → Int → Bool) (l : List Sq) (a : Sq) : edgesL f (l ++ [a]) = edgesL f l ++ (if rightB f a then [(a, (a.1 + 1, a.2))] else []) ++ (if downB f a then [(a, (a.1, a.2 + 1))] else []) := by
  unfold edgesL
  rw [List.flatMap_append]
  simp

end Go.Proofs.YtbmojlnkjeapkaaGreatDoor
