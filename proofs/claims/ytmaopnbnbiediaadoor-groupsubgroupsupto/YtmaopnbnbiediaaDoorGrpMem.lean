/- Cosets while they are opened, as they lie in memory behind a pointer. -/
import Derived.Test.YtmaopnbnbiediaaDoorWrapI
import Derived.Deep.OwnRows
namespace Go.Proofs.YtmaopnbnbiediaaDoor
open Go.RowKit Go.Sort

theorem grown_at (W : World) (p : Addr) (v : Value) : W.grownBy (W.setCell p v) (some p.block) := ⟨rfl, rfl, rfl, by simp, fun k _ hk => Below.heap_setCell W p v k (fun e => hk (by rw [e]))⟩

/-- What a call on the opened cosets leaves as it is: all that lies below B, and the blocks of X. -/
structure Kp (B : Nat) (X : Nat → Prop) (W W' : World) : Prop where
  os : W'.os = W.os
  tape : W'.tape = W.tape
  output : W'.output = W.output
  size : W.heap.size ≤ W'.heap.size
  block : ∀ b, b < W.heap.size → (b < B ∨ X b) → W'.heap[b]? = W.heap[b]?

section
variable {B : Nat} {X : Nat → Prop} {W W' W'' : World}
theorem Kp.refl (B : Nat) (X : Nat → Prop) (W : World) : Kp B X W W := ⟨rfl, rfl, rfl, Nat.le_refl _, fun _ _ _ => rfl⟩
theorem Kp.trans (h : Kp B X W W') (k : Kp B X W' W'') : Kp B X W W'' := ⟨k.os.trans h.os, k.tape.trans h.tape, k.output.trans h.output, Nat.le_trans h.size k.size, fun b hb hx => (k.block b (Nat.lt_of_lt_of_le hb h.size) hx).trans (h.block b hb hx)⟩
theorem Kp.grown {row : Option Nat} (hg : W.grownBy W' row) (hr : ∀ b, row = some b → B ≤ b ∧ ¬ X b) : Kp B X W W' := ⟨hg.os, hg.tape, hg.output, hg.size, fun b hb hx => hg.block b hb fun e => by
  have := hr b e.symm
  rcases hx with hx | hx
  · omega
  · exact this.2 hx⟩
theorem Kp.of_below (h : Below W.heap.size W W') : Kp B X W W' := ⟨h.os, h.tape, h.output, h.size, fun b hb _ => h.block b hb⟩
theorem Kp.on {row : Option Nat} (h : Kp B X W W') (hg : W'.grownBy W'' row) (hr : ∀ b, row = some b → W.heap.size ≤ b ∨ (B ≤ b ∧ ¬ X b)) : Kp B X W W'' := ⟨hg.os.trans h.os, hg.tape.trans h.tape, hg.output.trans h.output, Nat.le_trans h.size hg.size, fun b hb hx => (hg.block b (Nat.lt_of_lt_of_le hb h.size) fun e => by
  rcases hr b e.symm with h1 | ⟨h1, h2⟩
  · omega
  · rcases hx with hx | hx
    · omega
    · exact h2 hx).trans (h.block b hb hx)⟩
theorem Kp.drew (h : Kp B X W W') : Kp B X W W'.drew := h.trans (Kp.of_below (Below.refl _ W').drew)
theorem Kp.below (h : Kp B X W W') (hB : B ≤ W.heap.size) : Below B W W' := ⟨h.os, h.tape, h.output, h.size, fun b hb => h.block b (by omega) (.inl hb)⟩
theorem Kp.mono {Y : Nat → Prop} (h : Kp B X W W') (hx : ∀ b, Y b → b < W.heap.size → X b) : Kp B Y W W' := ⟨h.os, h.tape, h.output, h.size, fun b hb hy => h.block b hb (hy.imp id fun y => hx b y hb)⟩
theorem Kp.cell (h : Kp B X W W') {p : Addr} {v : Value} (hc : W.cell? p = some v) (hx : p.block < B ∨ X p.block) : W'.cell? p = some v := (World.cell?_of_block (h.block p.block (cell_lt hc) hx)).trans hc
theorem Kp.frozen (h : Kp B X W W') {p : Addr} (hp : p.block < W.heap.size) (hx : p.block < B ∨ X p.block) : W'.frozen? p = W.frozen? p := World.frozen?_of_block (h.block p.block hp hx)
end

/-- The opened cosets behind the pointer to block P. -/
structure OpIn (B : Nat) (X : Nat → Prop) (P n : Nat) (W : World) (s : Cos) (G cG H cH : Nat) (rb c : Nat → Nat) : Prop where
  p0 : W.cell? ⟨P, 0, none⟩ = some (.slice (some ⟨G, 0, none⟩) s.R.length cG)
  p1 : W.cell? ⟨P, 1, none⟩ = some (.int .i64 (n : Int))
  p2 : W.cell? ⟨P, 2, none⟩ = some (.slice (some ⟨H, 0, none⟩) s.R.length cH)
  z0 : W.frozen? ⟨P, 0, none⟩ = false
  z2 : W.frozen? ⟨P, 2, none⟩ = false
  outer : W.ownsRow B 42 1 (.slice (some ⟨G, 0, none⟩) s.R.length cG) s.R.length ((List.range s.R.length).map fun k => .slice (some ⟨rb k, 0, none⟩) (2 * n) (2 * n))
  inner : ∀ k, k < s.R.length → W.rowIs (rb k) 3 (2 * n) (fun x => .int .i64 (ent s.R k x))
  sm : W.ownsRow B 3 1 (.slice (some ⟨H, 0, none⟩) s.R.length cH) s.R.length ((List.range s.R.length).map fun i => .int .i64 (c i : Int))
  inj : ∀ j k, j < s.R.length → k < s.R.length → rb j = rb k → j = k
  gh : G ≠ H ∧ G ≠ P ∧ H ≠ P
  rg : ∀ k, k < s.R.length → rb k ≠ G ∧ rb k ≠ H ∧ rb k ≠ P
  own : B ≤ P ∧ ∀ k, k < s.R.length → B ≤ rb k
  notX : ¬ X P ∧ ¬ X G ∧ ¬ X H ∧ ∀ k, k < s.R.length → ¬ X (rb k)
  wide : Wide n s.R
  few : s.R.length ≤ 5000
  pos : 0 < s.R.length
  lead : Leads s.R.length c s.cls
  far : ∀ i, s.R.length ≤ i → s.cls i = i
def OpAt (B : Nat) (X : Nat → Prop) (P n : Nat) (W : World) (s : Cos) : Prop := ∃ G cG H cH rb c, OpIn B X P n W s G cG H cH rb c

section
variable {B : Nat} {X : Nat → Prop} {P n : Nat} {W W' : World} {s : Cos} {G cG H cH : Nat} {rb c : Nat → Nat}

/-- It reads on where its blocks are kept. -/
theorem OpIn.keep (h : OpIn B X P n W s G cG H cH rb c) (hs : ∀ b, b < W.heap.size → (b = P ∨ b = G ∨ b = H ∨ ∃ k, k < s.R.length ∧ b = rb k) → W'.heap[b]? = W.heap[b]?) (_hz : W.heap.size ≤ W'.heap.size) : OpIn B X P n W' s G cG H cH rb c := by
  have hP := cell_lt h.p0
  have eP := hs P hP (.inl rfl)
  have hG := (h.outer.lt G rfl).2
  have hH := (h.sm.lt H rfl).2
  refine ⟨(World.cell?_of_block (a := ⟨P, 0, none⟩) eP).trans h.p0, (World.cell?_of_block (a := ⟨P, 1, none⟩) eP).trans h.p1, (World.cell?_of_block (a := ⟨P, 2, none⟩) eP).trans h.p2, (World.frozen?_of_block (a := ⟨P, 0, none⟩) eP).trans h.z0, (World.frozen?_of_block (a := ⟨P, 2, none⟩) eP).trans h.z2, ?_, fun k hk => (h.inner k hk).of_block (hs _ (h.inner k hk).lt (.inr (.inr (.inr ⟨k, hk, rfl⟩)))), ?_, h.inj, h.gh, h.rg, h.own, h.notX, h.wide, h.few, h.pos, h.lead, h.far⟩
  · refine ⟨h.outer.1, h.outer.2.imp id fun ⟨g, cap, cur, e, h1, h2, h3⟩ => ⟨g, cap, cur, e, h1, ?_, h3⟩⟩
    cases e
    exact (hs G hG (.inr (.inl rfl))).trans h2
  · refine ⟨h.sm.1, h.sm.2.imp id fun ⟨g, cap, cur, e, h1, h2, h3⟩ => ⟨g, cap, cur, e, h1, ?_, h3⟩⟩
    cases e
    exact (hs H hH (.inr (.inr (.inl rfl)))).trans h2
theorem OpIn.below (h : OpIn B X P n W s G cG H cH rb c) (hB : Below W.heap.size W W') : OpIn B X P n W' s G cG H cH rb c := h.keep (fun b hb _ => hB.block b hb) hB.size
theorem OpAt.below (h : OpAt B X P n W s) (hB : Below W.heap.size W W') : OpAt B X P n W' s := by
  obtain ⟨G, cG, H, cH, rb, c, h⟩ := h
  exact ⟨G, cG, H, cH, rb, c, h.below hB⟩
theorem OpAt.drew (h : OpAt B X P n W s) : OpAt B X P n W.drew s := h.below (Below.refl _ W).drew
theorem OpIn.grown {row : Option Nat} (h : OpIn B X P n W s G cG H cH rb c) (hg : W.grownBy W' row) (hr : ∀ b, row = some b → X b) : OpIn B X P n W' s G cG H cH rb c := h.keep (fun b hb hb' => hg.block b hb fun e => by
  have hx := hr b e.symm
  rcases hb' with rfl | rfl | rfl | ⟨k, hk, rfl⟩
  · exact h.notX.1 hx
  · exact h.notX.2.1 hx
  · exact h.notX.2.2.1 hx
  · exact h.notX.2.2.2 k hk hx) hg.size
theorem OpAt.grown {row : Option Nat} (h : OpAt B X P n W s) (hg : W.grownBy W' row) (hr : ∀ b, row = some b → X b) : OpAt B X P n W' s := by
  obtain ⟨G, cG, H, cH, rb, c, h⟩ := h
  exact ⟨G, cG, H, cH, rb, c, h.grown hg hr⟩
/-- Of another set of kept blocks: new ones may come to it. -/
theorem OpAt.turn {Y : Nat → Prop} (h : OpAt B X P n W s) (hx : ∀ b, b < W.heap.size → Y b → X b) : OpAt B Y P n W s := by
  obtain ⟨G, cG, H, cH, rb, c, h⟩ := h
  have hG := (h.outer.lt G rfl).2
  have hH := (h.sm.lt H rfl).2
  exact ⟨G, cG, H, cH, rb, c, { h with notX := ⟨fun y => h.notX.1 (hx _ (cell_lt h.p0) y), fun y => h.notX.2.1 (hx _ hG y), fun y => h.notX.2.2.1 (hx _ hH y), fun k hk y => h.notX.2.2.2 k hk (hx _ (h.inner k hk).lt y)⟩ }⟩
/-- What lies in a block that is not its own may be written. -/
theorem OpAt.poke {p : Addr} {v : Value} (h : OpAt B X P n W s) (hp : p.block < B ∨ X p.block) : OpAt B X P n (W.setCell p v) s := by
  obtain ⟨G, cG, H, cH, rb, c, h⟩ := h
  have hG := (h.outer.lt G rfl).1
  have hH := (h.sm.lt H rfl).1
  refine ⟨G, cG, H, cH, rb, c, h.keep (fun b hb hb' => Below.heap_setCell W p v b fun e => ?_) (by simp)⟩
  subst e
  rcases hb' with e | e | e | ⟨k, hk, e⟩
  · rcases hp with hp | hp
    · have := h.own.1; omega
    · exact h.notX.1 (e ▸ hp)
  · rcases hp with hp | hp
    · omega
    · exact h.notX.2.1 (e ▸ hp)
  · rcases hp with hp | hp
    · omega
    · exact h.notX.2.2.1 (e ▸ hp)
  · rcases hp with hp | hp
    · have := h.own.2 k hk; omega
    · exact h.notX.2.2.2 k hk (e ▸ hp)
theorem OpIn.same_at (h : OpIn B X P n W s G cG H cH rb c) {i : Nat} (hi : i < s.R.length) : W.cell? ⟨H, i, none⟩ = some (.int .i64 (c i : Int)) := by
  have := h.sm.cells (g := H) rfl i (.int .i64 (c i : Int)) (by rw [List.getElem?_map, List.getElem?_range hi]; rfl)
  rwa [Addr.add_lit, Nat.zero_add] at this
theorem OpIn.row_at (h : OpIn B X P n W s G cG H cH rb c) {i : Nat} (hi : i < s.R.length) : W.cell? ⟨G, i, none⟩ = some (.slice (some ⟨rb i, 0, none⟩) (2 * n) (2 * n)) := by
  have := h.outer.cells (g := G) rfl i (.slice (some ⟨rb i, 0, none⟩) (2 * n) (2 * n)) (by rw [List.getElem?_map, List.getElem?_range hi]; rfl)
  rwa [Addr.add_lit, Nat.zero_add] at this
theorem OpIn.ent_at (h : OpIn B X P n W s G cG H cH rb c) {i x : Nat} (hi : i < s.R.length) (hx : x < 2 * n) : W.cell? ⟨rb i, x, none⟩ = some (.int .i64 (ent s.R i x)) := (h.inner i hi).cell hx
/-- A number of 'same' is written. -/
theorem OpIn.set_same (h : OpIn B X P n W s G cG H cH rb c) {i : Nat} (hi : i < s.R.length) (m : Nat) {cls' : Nat → Nat} (hL : Leads s.R.length (fun j => if j = i then m else c j) cls') (hf : ∀ j, s.R.length ≤ j → cls' j = j) :
    OpIn B X P n (W.setCell ⟨H, i, none⟩ (.int .i64 (m : Int))) ⟨s.R, cls'⟩ G cG H cH rb (fun j => if j = i then m else c j) ∧ Kp B X W (W.setCell ⟨H, i, none⟩ (.int .i64 (m : Int))) := by
  have hne : ∀ b, b ≠ H → (W.setCell ⟨H, i, none⟩ (.int .i64 (m : Int))).heap[b]? = W.heap[b]? := fun b e => Below.heap_setCell W ⟨H, i, none⟩ _ b e
  have eP := hne P h.gh.2.2.symm
  refine ⟨⟨(World.cell?_of_block (a := ⟨P, 0, none⟩) eP).trans h.p0, (World.cell?_of_block (a := ⟨P, 1, none⟩) eP).trans h.p1, (World.cell?_of_block (a := ⟨P, 2, none⟩) eP).trans h.p2, (World.frozen?_of_block (a := ⟨P, 0, none⟩) eP).trans h.z0, (World.frozen?_of_block (a := ⟨P, 2, none⟩) eP).trans h.z2, ?_, fun k hk => (h.inner k hk).of_block (hne _ (h.rg k hk).2.1), ?_, h.inj, h.gh, h.rg, h.own, h.notX, h.wide, h.few, h.pos, hL, hf⟩, Kp.grown (grown_at _ _ _) (fun b e => by cases e; exact ⟨(h.sm.lt H rfl).1, h.notX.2.2.1⟩)⟩
  · exact h.outer.kept (grown_at W ⟨H, i, none⟩ _) (.inr fun e => h.gh.1 (Option.some.inj e))
  · have := (h.sm.stored i (.int .i64 (m : Int))).1
    refine cast (congrArg _ ?_) this
    refine List.ext_getElem? fun j => ?_
    rw [List.getElem?_set]
    by_cases e : i = j
    · subst e
      rw [if_pos rfl, if_pos (by simpa using hi), List.getElem?_map, List.getElem?_range hi]
      simp
    · rw [if_neg e, List.getElem?_map, List.getElem?_map]
      cases hr : (List.range s.R.length)[j]? with
      | none => rfl
      | some q =>
        have hq : q = j := by
          have := List.getElem?_eq_some_iff.1 hr
          obtain ⟨h1, h2⟩ := this
          rw [List.getElem_range] at h2
          exact h2.symm
        subst hq
        simp [Ne.symm e]
/-- A number of a row is written. -/
theorem OpIn.set_ent (h : OpIn B X P n W s G cG H cH rb c) {i x : Nat} (hi : i < s.R.length) (hx : x < 2 * n) (v : Int) :
    OpIn B X P n (W.setCell ⟨rb i, x, none⟩ (.int .i64 v)) ⟨putE s.R i x v, s.cls⟩ G cG H cH rb c ∧ Kp B X W (W.setCell ⟨rb i, x, none⟩ (.int .i64 v)) := by
  have hne : ∀ b, b ≠ rb i → (W.setCell ⟨rb i, x, none⟩ (.int .i64 v)).heap[b]? = W.heap[b]? := fun b e => Below.heap_setCell W ⟨rb i, x, none⟩ _ b e
  have eP := hne P (h.rg i hi).2.2.symm
  have el := putE_len s.R i x v
  refine ⟨⟨by rw [el]; exact (World.cell?_of_block (a := ⟨P, 0, none⟩) eP).trans h.p0, (World.cell?_of_block (a := ⟨P, 1, none⟩) eP).trans h.p1, by rw [el]; exact (World.cell?_of_block (a := ⟨P, 2, none⟩) eP).trans h.p2, (World.frozen?_of_block (a := ⟨P, 0, none⟩) eP).trans h.z0, (World.frozen?_of_block (a := ⟨P, 2, none⟩) eP).trans h.z2, ?_, fun k hk => ?_, ?_, by rw [el]; exact h.inj, h.gh, by rw [el]; exact h.rg, by rw [el]; exact h.own, by rw [el]; exact h.notX, putE_wide h.wide _ _ _, by rw [el]; exact h.few, by rw [el]; exact h.pos, by rw [el]; exact h.lead, by rw [el]; exact h.far⟩, Kp.grown (grown_at _ _ _) (fun b e => by cases e; exact ⟨h.own.2 i hi, h.notX.2.2.2 i hi⟩)⟩
  · rw [el]
    exact h.outer.kept (grown_at W ⟨rb i, x, none⟩ _) (.inr fun e => (h.rg i hi).1 (Option.some.inj e).symm)
  · rw [el] at hk
    by_cases e : k = i
    · subst e
      refine ((h.inner k hk).set x (.int .i64 v)).congr fun y hy => ?_
      rw [ent_put h.wide hk hx]
      by_cases e2 : y = x
      · rw [if_pos e2, if_pos ⟨rfl, e2⟩]
      · rw [if_neg e2, if_neg fun h => e2 h.2]
    · refine ((h.inner k hk).of_block (hne _ fun e' => e (h.inj _ _ hk hi e'))).congr fun y hy => ?_
      rw [ent_put h.wide hi hx, if_neg fun h => e h.1]
  · rw [el]
    exact h.sm.kept (grown_at W ⟨rb i, x, none⟩ _) (.inr fun e => (h.rg i hi).2.1 (Option.some.inj e).symm)
end

end Go.Proofs.YtmaopnbnbiediaaDoor
