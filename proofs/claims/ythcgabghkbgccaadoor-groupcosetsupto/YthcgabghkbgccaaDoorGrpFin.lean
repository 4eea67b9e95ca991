/- The reference's cosets while they are found, as they lie in memory behind a pointer. -/
import Derived.Test.YthcgabghkbgccaaDoorGrpMem
import Derived.Test.YthcgabghkbgccaaDoorGrpSim
namespace Go.Proofs.YthcgabghkbgccaaDoor
open Go.RowKit Go.Sort

/-- The first n of cap cells of a block hold numbers. -/
def LeastRow (W : World) (g n cap : Nat) (f : Nat → Int) : Prop := n ≤ cap ∧ ∃ F, W.rowIs g 3 cap F ∧ ∀ i, i < n → F i = .int .i64 (f i)
theorem LeastRow.cell {W : World} {g n cap : Nat} {f : Nat → Int} (h : LeastRow W g n cap f) {i : Nat} (hi : i < n) : W.cell? ⟨g, i, none⟩ = some (.int .i64 (f i)) := by
  obtain ⟨h1, F, h2, h3⟩ := h
  rw [h2.cell (by omega), h3 i hi]
theorem LeastRow.frozen {W : World} {g n cap : Nat} {f : Nat → Int} (h : LeastRow W g n cap f) (i : Nat) : W.frozen? ⟨g, i, none⟩ = false := by
  obtain ⟨h1, F, h2, h3⟩ := h
  exact h2.frozen i
theorem LeastRow.lt {W : World} {g n cap : Nat} {f : Nat → Int} (h : LeastRow W g n cap f) : g < W.heap.size := by
  obtain ⟨h1, F, h2, h3⟩ := h
  exact h2.lt
theorem LeastRow.of_block {W W' : World} {g n cap : Nat} {f : Nat → Int} (h : LeastRow W g n cap f) (e : W'.heap[g]? = W.heap[g]?) : LeastRow W' g n cap f := by
  obtain ⟨h1, F, h2, h3⟩ := h
  exact ⟨h1, F, h2.of_block e, h3⟩
theorem LeastRow.congr {W : World} {g n cap : Nat} {f f' : Nat → Int} (h : LeastRow W g n cap f) (e : ∀ i, i < n → f i = f' i) : LeastRow W g n cap f' := by
  obtain ⟨h1, F, h2, h3⟩ := h
  exact ⟨h1, F, h2, fun i hi => by rw [h3 i hi, e i hi]⟩
theorem LeastRow.set {W : World} {g n cap : Nat} {f : Nat → Int} (h : LeastRow W g n cap f) (i : Nat) (v : Int) : LeastRow (W.setCell ⟨g, i, none⟩ (.int .i64 v)) g n cap (fun j => if j = i then v else f j) := by
  obtain ⟨h1, F, h2, h3⟩ := h
  refine ⟨h1, _, h2.set i (.int .i64 v), fun j hj => ?_⟩
  show (if j = i then Value.int .i64 v else F j) = Value.int .i64 (if j = i then v else f j)
  by_cases e : j = i
  · rw [if_pos e, if_pos e]
  · rw [if_neg e, if_neg e, h3 j hj]
theorem LeastRow.own {W : World} {B g n cap : Nat} {f : Nat → Int} (h : LeastRow W g n cap f) (hB : B ≤ g) (hc : cap ≤ maxLen) : W.ownsRow B 3 1 (.slice (some ⟨g, 0, none⟩) n cap) n ((List.range n).map fun i => .int .i64 (f i)) := by
  obtain ⟨h1, F, ⟨c, h2, h3, h4⟩, h5⟩ := h
  refine ⟨by simp, .inr ⟨g, cap, c, rfl, hB, h2, h1, hc, by omega, ?_⟩⟩
  refine List.ext_getElem? fun i => ?_
  rw [List.getElem?_take, Nat.mul_one, List.getElem?_map]
  by_cases hi : i < n
  · rw [if_pos hi, List.getElem?_range hi, Array.getElem?_toList, h4 i (by omega), h5 i hi]; rfl
  · rw [if_neg hi, List.getElem?_eq_none (by simpa using hi)]; rfl
theorem own_least {W : World} {B g n cap : Nat} {f : Nat → Int} (h : W.ownsRow B 3 1 (.slice (some ⟨g, 0, none⟩) n cap) n ((List.range n).map fun i => .int .i64 (f i))) : LeastRow W g n cap f ∧ B ≤ g ∧ cap ≤ maxLen := by
  obtain ⟨_, h⟩ := h
  rcases h with ⟨h0, _⟩ | ⟨g', cap', cur, hv, h1, h2, h3, h4, h5, h6⟩
  · cases h0
  · cases hv
    refine ⟨⟨h3, fun i => cur[i]?.getD undef, ⟨cur, h2, by omega, fun i hi => ?_⟩, fun i hi => ?_⟩, h1, h4⟩
    · show cur[i]? = some (cur[i]?.getD undef)
      rw [Array.getElem?_eq_getElem (by omega)]; rfl
    · have := congrArg (fun l => l[i]?) h6
      simp only [List.getElem?_take, Nat.mul_one, if_pos hi, List.getElem?_map, List.getElem?_range hi, Array.getElem?_toList, Option.map_some] at this
      show cur[i]?.getD undef = _
      rw [this]; rfl

def rowV (n b c : Nat) : Value := if n = 0 then .slice none 0 0 else .slice (some ⟨b, 0, none⟩) (2 * n) c
theorem rowV_pos {n b c : Nat} (h : 0 < n) : rowV n b c = .slice (some ⟨b, 0, none⟩) (2 * n) c := if_neg (by omega)

/-- The reference's cosets behind the pointer to block P. -/
structure FinIn (B : Nat) (X : Nat → Prop) (P n : Nat) (W : World) (t : Cos) (v0 v1 : Value) (rb cp : Nat → Nat) : Prop where
  p0 : W.cell? ⟨P, 0, none⟩ = some v0
  p1 : W.cell? ⟨P, 1, none⟩ = some v1
  p2 : W.cell? ⟨P, 2, none⟩ = some (.bool false)
  z0 : W.frozen? ⟨P, 0, none⟩ = false
  z1 : W.frozen? ⟨P, 1, none⟩ = false
  outer : W.ownsRow B 27 1 v0 t.R.length ((List.range t.R.length).map fun k => rowV n (rb k) (cp k))
  inner : 0 < n → ∀ k, k < t.R.length → LeastRow W (rb k) (2 * n) (cp k) (fun x => ent t.R k x)
  of : W.ownsRow B 3 1 v1 t.R.length ((List.range t.R.length).map fun i => .int .i64 (t.cls i : Int))
  inj : 0 < n → ∀ j k, j < t.R.length → k < t.R.length → rb j = rb k → j = k
  ab : some P ≠ v0.ownBlock ∧ some P ≠ v1.ownBlock ∧ ∀ b, v0.ownBlock = some b → v1.ownBlock ≠ some b
  rg : 0 < n → ∀ k, k < t.R.length → some (rb k) ≠ v0.ownBlock ∧ some (rb k) ≠ v1.ownBlock ∧ rb k ≠ P
  own : B ≤ P ∧ (0 < n → ∀ k, k < t.R.length → B ≤ rb k)
  notX : ¬ X P ∧ (∀ b, v0.ownBlock = some b → ¬ X b) ∧ (∀ b, v1.ownBlock = some b → ¬ X b) ∧ (0 < n → ∀ k, k < t.R.length → ¬ X (rb k))
  wide : Wide n t.R
def FinAt (B : Nat) (X : Nat → Prop) (P n : Nat) (W : World) (t : Cos) : Prop := ∃ v0 v1 rb cp, FinIn B X P n W t v0 v1 rb cp

section
variable {B : Nat} {X : Nat → Prop} {P n : Nat} {W W' : World} {t : Cos} {v0 v1 : Value} {rb cp : Nat → Nat}

theorem own_kept {W W' : World} {B : Nat} {e : TypeId} {v : Value} {n : Nat} {xs : List Value} (h : W.ownsRow B e 1 v n xs) (hk : ∀ b, v.ownBlock = some b → b < W.heap.size → W'.heap[b]? = W.heap[b]?) : W'.ownsRow B e 1 v n xs := by
  have hl := h.lt
  refine ⟨h.1, h.2.imp id fun ⟨g, cap, cur, e, h1, h2, h3⟩ => ⟨g, cap, cur, e, h1, ?_, h3⟩⟩
  subst e
  exact (hk g rfl (hl g rfl).2).trans h2
/-- It reads on where its blocks are kept. -/
theorem FinIn.keep (h : FinIn B X P n W t v0 v1 rb cp) (hs : ∀ b, b < W.heap.size → (b = P ∨ v0.ownBlock = some b ∨ v1.ownBlock = some b ∨ (0 < n ∧ ∃ k, k < t.R.length ∧ b = rb k)) → W'.heap[b]? = W.heap[b]?) : FinIn B X P n W' t v0 v1 rb cp := by
  have hP := cell_lt h.p0
  have eP := hs P hP (.inl rfl)
  exact ⟨(World.cell?_of_block (a := ⟨P, 0, none⟩) eP).trans h.p0, (World.cell?_of_block (a := ⟨P, 1, none⟩) eP).trans h.p1, (World.cell?_of_block (a := ⟨P, 2, none⟩) eP).trans h.p2, (World.frozen?_of_block (a := ⟨P, 0, none⟩) eP).trans h.z0, (World.frozen?_of_block (a := ⟨P, 1, none⟩) eP).trans h.z1, own_kept h.outer (fun b e hb => hs b hb (.inr (.inl e))), fun hn k hk => (h.inner hn k hk).of_block (hs _ (h.inner hn k hk).lt (.inr (.inr (.inr ⟨hn, k, hk, rfl⟩)))), own_kept h.of (fun b e hb => hs b hb (.inr (.inr (.inl e)))), h.inj, h.ab, h.rg, h.own, h.notX, h.wide⟩
theorem FinIn.below (h : FinIn B X P n W t v0 v1 rb cp) (hB : Below W.heap.size W W') : FinIn B X P n W' t v0 v1 rb cp := h.keep fun b hb _ => hB.block b hb
theorem FinAt.below (h : FinAt B X P n W t) (hB : Below W.heap.size W W') : FinAt B X P n W' t := by
  obtain ⟨v0, v1, rb, cp, h⟩ := h
  exact ⟨v0, v1, rb, cp, h.below hB⟩
/-- What lies below B or in X may be written. -/
theorem FinIn.grown {row : Option Nat} (h : FinIn B X P n W t v0 v1 rb cp) (hg : W.grownBy W' row) (hr : ∀ b, row = some b → b < B ∨ X b) : FinIn B X P n W' t v0 v1 rb cp := h.keep fun b hb hb' => hg.block b hb fun e => by
  have hG := h.outer.lt
  have hH := h.of.lt
  rcases hr b e.symm with hx | hx
  · rcases hb' with rfl | e' | e' | ⟨hn, k, hk, rfl⟩
    · have := h.own.1; omega
    · have := (hG b e').1; omega
    · have := (hH b e').1; omega
    · have := h.own.2 hn k hk; omega
  · rcases hb' with rfl | e' | e' | ⟨hn, k, hk, rfl⟩
    · exact h.notX.1 hx
    · exact h.notX.2.1 b e' hx
    · exact h.notX.2.2.1 b e' hx
    · exact h.notX.2.2.2 hn k hk hx
theorem FinAt.grown {row : Option Nat} (h : FinAt B X P n W t) (hg : W.grownBy W' row) (hr : ∀ b, row = some b → b < B ∨ X b) : FinAt B X P n W' t := by
  obtain ⟨v0, v1, rb, cp, h⟩ := h
  exact ⟨v0, v1, rb, cp, h.grown hg hr⟩
theorem FinAt.turn {Y : Nat → Prop} (h : FinAt B X P n W t) (hx : ∀ b, b < W.heap.size → Y b → X b) : FinAt B Y P n W t := by
  obtain ⟨v0, v1, rb, cp, h⟩ := h
  exact ⟨v0, v1, rb, cp, { h with notX := ⟨fun y => h.notX.1 (hx _ (cell_lt h.p0) y), fun b e y => h.notX.2.1 b e (hx _ (h.outer.lt b e).2 y), fun b e y => h.notX.2.2.1 b e (hx _ (h.of.lt b e).2 y), fun hn k hk y => h.notX.2.2.2 hn k hk (hx _ (h.inner hn k hk).lt y)⟩ }⟩
/-- Where there are rows, they and the classes lie in blocks. -/
theorem FinIn.open_ (h : FinIn B X P n W t v0 v1 rb cp) (hN : 0 < t.R.length) : ∃ G cG H cH, v0 = .slice (some ⟨G, 0, none⟩) t.R.length cG ∧ v1 = .slice (some ⟨H, 0, none⟩) t.R.length cH := by
  obtain ⟨G, cG, e1, -⟩ := h.outer.form hN
  obtain ⟨H, cH, e2, -⟩ := h.of.form hN
  exact ⟨G, cG, H, cH, e1, e2⟩
theorem FinIn.of_at {G cG H cH : Nat} (h : FinIn B X P n W t (.slice (some ⟨G, 0, none⟩) t.R.length cG) (.slice (some ⟨H, 0, none⟩) t.R.length cH) rb cp) {i : Nat} (hi : i < t.R.length) : W.cell? ⟨H, i, none⟩ = some (.int .i64 (t.cls i : Int)) := by
  have := h.of.cells (g := H) rfl i (.int .i64 (t.cls i : Int)) (by rw [List.getElem?_map, List.getElem?_range hi]; rfl)
  rwa [Addr.add_lit, Nat.zero_add] at this
theorem FinIn.row_at {G cG H cH : Nat} (h : FinIn B X P n W t (.slice (some ⟨G, 0, none⟩) t.R.length cG) (.slice (some ⟨H, 0, none⟩) t.R.length cH) rb cp) {i : Nat} (hi : i < t.R.length) : W.cell? ⟨G, i, none⟩ = some (rowV n (rb i) (cp i)) := by
  have := h.outer.cells (g := G) rfl i (rowV n (rb i) (cp i)) (by rw [List.getElem?_map, List.getElem?_range hi]; rfl)
  rwa [Addr.add_lit, Nat.zero_add] at this
/-- A number of a row is written. -/
theorem FinIn.set_ent (h : FinIn B X P n W t v0 v1 rb cp) {i x : Nat} (hi : i < t.R.length) (hx : x < 2 * n) (v : Int) :
    FinIn B X P n (W.setCell ⟨rb i, x, none⟩ (.int .i64 v)) ⟨putE t.R i x v, t.cls⟩ v0 v1 rb cp ∧ Kp B X W (W.setCell ⟨rb i, x, none⟩ (.int .i64 v)) := by
  have hn : 0 < n := by omega
  have hne : ∀ b, b ≠ rb i → (W.setCell ⟨rb i, x, none⟩ (.int .i64 v)).heap[b]? = W.heap[b]? := fun b e => Below.heap_setCell W ⟨rb i, x, none⟩ _ b e
  have hri := h.rg hn i hi
  have eP := hne P hri.2.2.symm
  have el := putE_len t.R i x v
  refine ⟨⟨(World.cell?_of_block (a := ⟨P, 0, none⟩) eP).trans h.p0, (World.cell?_of_block (a := ⟨P, 1, none⟩) eP).trans h.p1, (World.cell?_of_block (a := ⟨P, 2, none⟩) eP).trans h.p2, (World.frozen?_of_block (a := ⟨P, 0, none⟩) eP).trans h.z0, (World.frozen?_of_block (a := ⟨P, 1, none⟩) eP).trans h.z1, ?_, fun _ k hk => ?_, ?_, by rw [el]; exact h.inj, h.ab, by rw [el]; exact h.rg, by rw [el]; exact h.own, by rw [el]; exact h.notX, putE_wide h.wide _ _ _⟩, Kp.grown (grown_at _ _ _) (fun b e => by cases e; exact ⟨h.own.2 hn i hi, h.notX.2.2.2 hn i hi⟩)⟩
  · rw [el]
    exact own_kept h.outer fun b e _ => hne b fun e' => hri.1 (by rw [e, e'])
  · rw [el] at hk
    by_cases e : k = i
    · subst e
      refine ((h.inner hn k hk).set x v).congr fun y hy => ?_
      rw [ent_put h.wide hk hx]
      by_cases e2 : y = x
      · rw [if_pos e2, if_pos ⟨rfl, e2⟩]
      · rw [if_neg e2, if_neg fun h => e2 h.2]
    · refine ((h.inner hn k hk).of_block (hne _ fun e' => e (h.inj hn _ _ hk hi e'))).congr fun y hy => ?_
      rw [ent_put h.wide hi hx, if_neg fun h => e h.1]
  · rw [el]
    exact own_kept h.of fun b e _ => hne b fun e' => hri.2.1 (by rw [e, e'])
/-- Classes are joined. -/
theorem FinIn.set_of {H cH : Nat} (h : FinIn B X P n W t v0 (.slice (some ⟨H, 0, none⟩) t.R.length cH) rb cp) {cls : Nat → Nat} (hl : LeastRow W' H t.R.length cH (fun i => (cls i : Int))) (hk : KeepBut W W' H H) :
    FinIn B X P n W' ⟨t.R, cls⟩ v0 (.slice (some ⟨H, 0, none⟩) t.R.length cH) rb cp ∧ Kp B X W W' := by
  obtain ⟨-, h1, h2⟩ := own_least h.of
  have hne : ∀ b, b < W.heap.size → b ≠ H → W'.heap[b]? = W.heap[b]? := fun b hb e => hk.block b hb e e
  have hP := cell_lt h.p0
  have eP := hne P hP (fun e => h.ab.2.1 (congrArg some e))
  refine ⟨⟨(World.cell?_of_block (a := ⟨P, 0, none⟩) eP).trans h.p0, (World.cell?_of_block (a := ⟨P, 1, none⟩) eP).trans h.p1, (World.cell?_of_block (a := ⟨P, 2, none⟩) eP).trans h.p2, (World.frozen?_of_block (a := ⟨P, 0, none⟩) eP).trans h.z0, (World.frozen?_of_block (a := ⟨P, 1, none⟩) eP).trans h.z1, own_kept h.outer fun b e hb => hne b hb fun e' => h.ab.2.2 b e (congrArg some e'.symm), fun hn k hk' => (h.inner hn k hk').of_block (hne _ (h.inner hn k hk').lt fun e => (h.rg hn k hk').2.1 (congrArg some e)), hl.own h1 h2, h.inj, h.ab, h.rg, h.own, h.notX, h.wide⟩, hk.os, hk.tape, hk.output, hk.size, fun b hb hx => hne b hb fun e => ?_⟩
  subst e
  rcases hx with hx | hx
  · omega
  · exact h.notX.2.2.1 b rfl hx
end

end Go.Proofs.YthcgabghkbgccaaDoor
