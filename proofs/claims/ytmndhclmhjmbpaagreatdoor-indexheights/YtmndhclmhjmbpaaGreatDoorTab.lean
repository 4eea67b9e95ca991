/- A map of numbers whose keys are pairs: what it says is below a bound. A later world, but for two blocks. A table: a row of the call's own whose elements are rows of the call's own, each in a block of its own; one of them may grow. -/
import Derived.Test.YtmndhclmhjmbpaaGreatDoorShelfS
import Derived.Test.YtmndhclmhjmbpaaGreatDoorHeap
import Derived.DeepKeys4
import Derived.Maps.OwnSet
namespace Go.Proofs.YtmndhclmhjmbpaaGreatDoor
open Go.RowKit Go.Sort Go.Maps

theorem laid_outI : laidOutB Tryz.prog = true := by kernel_rfl
theorem row_duo : (166 : TypeId) < Tryz.prog.types.size := of_decide_eq_true (by kernel_rfl)
theorem wide_duo : (match Tryz.prog.underlying 166 with | some (.array _ _) | some (.struct _) => true | _ => false) = true := by kernel_rfl
set_option maxRecDepth 100000 in
theorem law_duo : Keyed Tryz.prog 166 := Keyed.of_law (deep_law_laid laid_outI (m := 2) (by omega) row_duo (by kernel_rfl) wide_duo)
theorem cells_intI : Tryz.prog.cellsOf 3 = 1 := by kernel_rfl
theorem cells_duo : Tryz.prog.cellsOf 166 = 2 := by kernel_rfl
set_option maxRecDepth 100000 in
theorem key_duo : Tryz.prog.keyType 166 = true := by kernel_rfl
theorem types_manyI : Tryz.prog.types.size = (Tryz.prog.types.size - 2) + 1 + 1 := by have : 2 < Tryz.prog.types.size := of_decide_eq_true (by kernel_rfl); omega
theorem wfIx {x : Int} (h0 : -10000000 ≤ x) (h1 : x ≤ 10000000) : (Lit.int .i64 x).wf = true := by
  have e1 : IntKind.min .i64 = -9223372036854775808 := rfl
  have e2 : IntKind.max .i64 = 9223372036854775807 := rfl
  simp only [Lit.wf, e1, e2, Bool.and_eq_true, decide_eq_true_eq]
  omega
theorem lits_duo {x y : Int} (hx : (Lit.int .i64 x).wf = true) (hy : (Lit.int .i64 y).wf = true) (d : Nat) : Tryz.prog.keyLits (d + 1 + 1) 166 [.int .i64 x, .int .i64 y] = some [.int .i64 x, .int .i64 y] := by
  unfold Program.keyLits
  simp only [Tryz.underlying166]
  rw [if_pos (by rw [cells_duo]; rfl)]
  simp [Program.keyLits, Tryz.underlying3, cells_intI, hx, hy, List.range, List.range.loop]
theorem duo_key {x y : Int} (hx : (Lit.int .i64 x).wf = true) (hy : (Lit.int .i64 y).wf = true) : keyOf Tryz.prog 166 (.agg #[.int .i64 x, .int .i64 y]) = some (.string (keyBytes [.int .i64 x, .int .i64 y])) := by
  unfold keyOf
  simp only [Tryz.underlying166]
  rw [if_pos (by simp [Value.formed, Tryz.underlying166, cells_duo, key_duo]), types_manyI]
  simp only [Value.cells]
  rw [lits_duo hx hy]
  rfl

theorem zero_i64I (w : World) : (zeroValue 3).run Tryz.prog w = .ok (.int .i64 0) w := by kernel_rfl
/-- Block b is a map of numbers by at most m pairs; what it says of any pair is below n. -/
def NumM (n m b : Nat) (W : World) : Prop := ∃ (D : DataW Unit), W.ownsMap Tryz.prog 166 (plainElem Tryz.prog 3) b m D ∧ ∀ x : List UInt8, ∃ j : Nat, (j = 0 ∨ j < n) ∧ D.atKey (.string x) (.lit (.int .i64 0)) = .lit (.int .i64 (j : Int))
theorem NumM.kept {n m b : Nat} {W W' : World} {row : Option Nat} (h : NumM n m b W) (hg : W.grownBy W' row) (hne : some b ≠ row) : NumM n m b W' := by
  obtain ⟨D, h1, h2⟩ := h
  exact ⟨D, h1.kept hg hne, h2⟩
theorem NumM.below {n m b : Nat} {W W' : World} (h : NumM n m b W) (hB : Below W.heap.size W W') : NumM n m b W' := h.kept (Below.grownBy hB) (by simp)
theorem NumM.drew {n m b : Nat} {W : World} (h : NumM n m b W) : NumM n m b W.drew := h
theorem NumM.lt {n m b : Nat} {W : World} (h : NumM n m b W) : b < W.heap.size := by
  obtain ⟨D, h1, _⟩ := h
  exact h1.lt
theorem NumM.setCell {n m b : Nat} {W : World} (h : NumM n m b W) {a : Addr} (ha : b ≠ a.block) (u : Value) : NumM n m b (W.setCell a u) := by
  obtain ⟨D, h1, h2⟩ := h
  exact ⟨D, h1.setCell ha u, h2⟩
theorem numM_new (n : Nat) (W : World) : NumM n 0 W.heap.size (W.alloc (.map #[] 0)) := ⟨.map [], World.ownsMap_made W _ _ _, fun _ => ⟨0, .inl rfl, rfl⟩⟩
theorem NumM.look {n m b : Nat} {W : World} (h : NumM n m b W) {x y : Int} (hx : -10000000 ≤ x ∧ x ≤ 10000000) (hy : -10000000 ≤ y ∧ y ≤ 10000000) :
    ∃ j : Nat, (j = 0 ∨ j < n) ∧ (Instr.lookup 165 (.map (some b)) (.agg #[.int .i64 x, .int .i64 y]) false).run Tryz.prog W = .ok (.int .i64 (j : Int)) W := by
  obtain ⟨D, h1, h3⟩ := h
  obtain ⟨c, hrun, hat, -⟩ := h1.lookup_int law_duo Tryz.underlying165 Tryz.underlying3 (zero_i64I _) (duo_key (wfIx hx.1 hx.2) (wfIx hy.1 hy.2))
  obtain ⟨j, hj, hj2⟩ := h3 (keyBytes [.int .i64 x, .int .i64 y])
  rw [hj2] at hat
  cases hat
  exact ⟨j, hj, hrun⟩
theorem NumM.put {n m b k : Nat} {W : World} (h : NumM n m b W) (hm : m ≤ 1000) (hk : k < n) (hk2 : k ≤ 100000) {x y : Int} (hx : -10000000 ≤ x ∧ x ≤ 10000000) (hy : -10000000 ≤ y ∧ y ≤ 10000000) :
    ∃ W', (Instr.mapUpdate 165 (.map (some b)) (.agg #[.int .i64 x, .int .i64 y]) (.int .i64 (k : Int))).run Tryz.prog W = .ok () W' ∧ NumM n (m + 1) b W' ∧ W.grownBy W' (some b) := by
  obtain ⟨D, h1, h3⟩ := h
  obtain ⟨W', hrun, hown, hg⟩ := h1.update law_duo Tryz.underlying165 (by unfold maxLen; omega) (duo_key (wfIx hx.1 hx.2) (wfIx hy.1 hy.2)) (plainElem_int Tryz.underlying3 (wfIx (x := (k : Int)) (by omega) (by omega)))
  refine ⟨W', hrun, ⟨_, hown, fun z => ?_⟩, hg⟩
  by_cases e : z = keyBytes [.int .i64 x, .int .i64 y]
  · subst e
    exact ⟨k, .inr hk, by rw [atKey_put_same h1.isMap (show WideAt.IsKeyLit (.string _) from trivial)]⟩
  · obtain ⟨j, hj, hj2⟩ := h3 z
    exact ⟨j, hj, by rw [atKey_put_other (fun h => e (by cases h; rfl))]; exact hj2⟩

end Go.Proofs.YtmndhclmhjmbpaaGreatDoor

namespace Go.Proofs.YtmndhclmhjmbpaaGreatDoor
open Go.RowKit Go.Sort

/-- A later world, but for two blocks. -/
structure KeepBut (W0 W : World) (r g : Nat) : Prop where
  os : W.os = W0.os
  tape : W.tape = W0.tape
  output : W.output = W0.output
  size : W0.heap.size ≤ W.heap.size
  block : ∀ b, b < W0.heap.size → b ≠ r → b ≠ g → W.heap[b]? = W0.heap[b]?

theorem KeepBut.refl (W : World) (r g : Nat) : KeepBut W W r g := ⟨rfl, rfl, rfl, Nat.le_refl _, fun _ _ _ _ => rfl⟩
theorem KeepBut.on {W0 W W' : World} {r g : Nat} {row : Option Nat} (h : KeepBut W0 W r g) (hg : W.grownBy W' row) (hr : ∀ b, row = some b → b = r ∨ b = g ∨ W0.heap.size ≤ b) : KeepBut W0 W' r g :=
  ⟨hg.os.trans h.os, hg.tape.trans h.tape, hg.output.trans h.output, Nat.le_trans h.size hg.size, fun b hb h1 h2 => (hg.block b (Nat.lt_of_lt_of_le hb h.size) (fun e => by rcases hr b e.symm with e' | e' | e'; exact h1 e'; exact h2 e'; omega)).trans (h.block b hb h1 h2)⟩
theorem KeepBut.cell {W0 W : World} {r g : Nat} (h : KeepBut W0 W r g) {p : Addr} (hp : p.block < W0.heap.size) (h1 : p.block ≠ r) (h2 : p.block ≠ g) : W.cell? p = W0.cell? p := World.cell?_of_block (h.block p.block hp h1 h2)
theorem KeepBut.frozen {W0 W : World} {r g : Nat} (h : KeepBut W0 W r g) {p : Addr} (hp : p.block < W0.heap.size) (h1 : p.block ≠ r) (h2 : p.block ≠ g) : W.frozen? p = W0.frozen? p := World.frozen?_of_block (h.block p.block hp h1 h2)

end Go.Proofs.YtmndhclmhjmbpaaGreatDoor

namespace Go.Proofs.YtmndhclmhjmbpaaGreatDoor
open Go.RowKit Go.Sort

structure TabAt (base : Nat) (te t : TypeId) (sz : Nat) (W : World) (v : Value) (vs : List Value) (css : List (List Value)) : Prop where
  outer : W.ownsRow base te 1 v css.length vs
  inner : ∀ (k : Nat) (u : Value) (cs : List Value), vs[k]? = some u → css[k]? = some cs → ∃ n, W.ownsRow base t sz u n cs
  out : ∀ (k : Nat) (u : Value), vs[k]? = some u → ∀ b, u.ownBlock = some b → v.ownBlock ≠ some b
  apart : ∀ (j k : Nat) (u u' : Value), j ≠ k → vs[j]? = some u → vs[k]? = some u' → ∀ b, u.ownBlock = some b → u'.ownBlock ≠ some b

section
variable {base : Nat} {te t : TypeId} {sz : Nat} {W W' : World} {v : Value} {vs : List Value} {css : List (List Value)}

theorem TabAt.len (h : TabAt base te t sz W v vs css) : vs.length = css.length := by have := h.outer.1; simpa using this

/-- The blocks of a table. -/
def TabBlock (v : Value) (vs : List Value) (b : Nat) : Prop := v.ownBlock = some b ∨ ∃ (k : Nat) (u : Value), vs[k]? = some u ∧ u.ownBlock = some b

theorem TabAt.lt (h : TabAt base te t sz W v vs css) {b : Nat} (hb : TabBlock v vs b) : base ≤ b ∧ b < W.heap.size := by
  rcases hb with hb | ⟨k, u, hu, hb⟩
  · exact h.outer.lt b hb
  · have hk : k < css.length := by rw [← h.len]; exact (List.getElem?_eq_some_iff.1 hu).1
    obtain ⟨n, ho⟩ := h.inner k u _ hu (List.getElem?_eq_getElem hk)
    exact ho.lt b hb

theorem not_own {u : Value} {row : Option Nat} (h : ∀ b, u.ownBlock = some b → row ≠ some b) : u.ownBlock = none ∨ u.ownBlock ≠ row := by
  cases e : u.ownBlock with
  | none => exact .inl rfl
  | some b => exact .inr fun e' => h b e e'.symm

theorem TabAt.kept {row : Option Nat} (h : TabAt base te t sz W v vs css) (hg : W.grownBy W' row) (hr : ∀ b, row = some b → ¬ TabBlock v vs b) : TabAt base te t sz W' v vs css where
  outer := h.outer.kept hg (not_own fun b hb e => hr b e (.inl hb))
  inner := fun k u cs hu hc => by
    obtain ⟨n, ho⟩ := h.inner k u cs hu hc
    exact ⟨n, ho.kept hg (not_own fun b hb e => hr b e (.inr ⟨k, u, hu, hb⟩))⟩
  out := h.out
  apart := h.apart
theorem TabAt.below (h : TabAt base te t sz W v vs css) (hB : Below W.heap.size W W') : TabAt base te t sz W' v vs css := h.kept (Below.grownBy hB) (fun b e => by cases e)
theorem TabAt.drew (h : TabAt base te t sz W v vs css) : TabAt base te t sz W.drew v vs css := h.below (Below.refl _ W).drew

theorem tabAt_nil (base : Nat) (te t : TypeId) (sz : Nat) (W : World) : TabAt base te t sz W (.slice none 0 0) [] [] where
  outer := World.ownsRow_nil _ _ _ _
  inner := fun k u cs hu => by simp at hu
  out := fun k u hu => by simp at hu
  apart := fun j k u u' _ hu => by simp at hu

/-- More rows, each empty. -/
theorem TabAt.more {v' : Value} {n : Nat} (h : TabAt base te t sz W v vs css) (hown : W'.ownsRow base te 1 v' (css.length + n) (vs ++ List.replicate n (.slice none 0 0))) (hg : W.grownBy W' v.ownBlock) (hl : ∀ b, v'.ownBlock = some b → v.ownBlock = some b ∨ W.heap.size ≤ b) :
    TabAt base te t sz W' v' (vs ++ List.replicate n (.slice none 0 0)) (css ++ List.replicate n []) := by
  have hvl := h.len
  have key : ∀ (k : Nat) (u : Value), (vs ++ List.replicate n (Value.slice none 0 0))[k]? = some u → (vs[k]? = some u) ∨ (vs.length ≤ k ∧ u = .slice none 0 0) := fun k u hu => by
    rw [List.getElem?_append] at hu
    split at hu
    · exact .inl hu
    · rw [List.getElem?_replicate] at hu
      split at hu
      · exact .inr ⟨by omega, (Option.some.inj hu).symm⟩
      · cases hu
  refine ⟨by simpa using hown, fun k u cs hu hc => ?_, fun k u hu b hb => ?_, fun j k u u' hne hu hu' b hb => ?_⟩
  · rcases key k u hu with h1 | ⟨h1, rfl⟩
    · have hk : k < css.length := by rw [← hvl]; exact (List.getElem?_eq_some_iff.1 h1).1
      rw [List.getElem?_append_left hk] at hc
      obtain ⟨m, ho⟩ := h.inner k u cs h1 hc
      exact ⟨m, ho.kept hg (not_own fun b hb e => h.out k u h1 b hb e)⟩
    · rw [List.getElem?_append_right (by omega), List.getElem?_replicate] at hc
      split at hc
      · obtain rfl := Option.some.inj hc
        exact ⟨0, World.ownsRow_nil _ _ _ _⟩
      · cases hc
  · rcases key k u hu with h1 | ⟨_, rfl⟩
    · intro e
      have h2 := h.lt (.inr ⟨k, u, h1, hb⟩)
      rcases hl b e with h3 | h3
      · exact h.out k u h1 b hb h3
      · omega
    · cases hb
  · rcases key j u hu with h1 | ⟨_, rfl⟩
    · rcases key k u' hu' with h2 | ⟨_, rfl⟩
      · exact h.apart j k u u' hne h1 h2 b hb
      · intro e; cases e
    · cases hb

/-- One row grows: behind the append, and behind the store. -/
theorem TabAt.put {g n cap k m : Nat} {u u' : Value} {cs cs' : List Value} {o : Obj} (h : TabAt base te t sz W (.slice (some ⟨g, 0, none⟩) n cap) vs css) (hu : vs[k]? = some u) (hc : css[k]? = some cs) (hn : n = css.length)
    (hown : W'.ownsRow base t sz u' m cs') (hg : (W.alloc o).grownBy W' u.ownBlock) (hl : u'.ownBlock = u.ownBlock ∨ u'.ownBlock = some (W.alloc o).heap.size) :
    TabAt base te t sz (W'.setCell ⟨g, k, none⟩ u') (.slice (some ⟨g, 0, none⟩) n cap) (vs.set k u') (css.set k cs') ∧ ∀ b, TabBlock (.slice (some ⟨g, 0, none⟩) n cap) (vs.set k u') b → TabBlock (.slice (some ⟨g, 0, none⟩) n cap) vs b ∨ W.heap.size ≤ b := by
  subst hn
  have hvg : (Value.slice (some ⟨g, 0, none⟩) css.length cap).ownBlock = some g := rfl
  have hgl := h.lt (b := g) (.inl hvg)
  have hkl : k < vs.length := (List.getElem?_eq_some_iff.1 hu).1
  have hub : ∀ b, u.ownBlock = some b → b ≠ g ∧ b < W.heap.size := fun b hb => ⟨fun e => h.out k u hu b hb (by rw [hvg, e]), (h.lt (.inr ⟨k, u, hu, hb⟩)).2⟩
  have hub' : ∀ b, u'.ownBlock = some b → u.ownBlock = some b ∨ b = W.heap.size + 1 := fun b hb => by
    rcases hl with e | e
    · exact .inl (e.symm.trans hb)
    · right; rw [e] at hb; simpa using hb.symm
  have hne' : ∀ b, u'.ownBlock = some b → b ≠ g := fun b hb => by
    rcases hub' b hb with h1 | h1
    · exact (hub b h1).1
    · omega
  have ho1 := (h.outer.alloc o).kept hg (not_own fun b hb e => (hub b e).1 (by rw [hvg] at hb; exact (Option.some.inj hb).symm))
  have hst := ho1.stored k u'
  have sel : ∀ (j : Nat) (x : Value), (vs.set k u')[j]? = some x → (j = k ∧ x = u') ∨ (j ≠ k ∧ vs[j]? = some x) := fun j x hx => by
    by_cases e : k = j
    · rw [List.getElem?_set, if_pos e, if_pos hkl] at hx
      exact .inl ⟨e.symm, (Option.some.inj hx).symm⟩
    · rw [List.getElem?_set, if_neg e] at hx
      exact .inr ⟨fun e' => e e'.symm, hx⟩
  refine ⟨⟨by rw [List.length_set]; exact hst.1, fun j x c hx hcx => ?_, fun j x hx b hb => ?_, fun j i x y hne hx hy b hb => ?_⟩, fun b hb => ?_⟩
  · rcases sel j x hx with ⟨rfl, rfl⟩ | ⟨e, hx⟩
    · rw [List.getElem?_set, if_pos rfl, if_pos (by rw [← h.len]; exact hkl)] at hcx
      obtain rfl := Option.some.inj hcx
      exact ⟨m, hown.kept hst.2 (not_own fun b hb e => hne' b hb (Option.some.inj e).symm)⟩
    · rw [List.getElem?_set, if_neg (Ne.symm e)] at hcx
      obtain ⟨p, ho⟩ := h.inner j x c hx hcx
      refine ⟨p, ((ho.alloc o).kept hg (not_own fun b hb e' => h.apart j k x u e hx hu b hb e')).kept hst.2 (not_own fun b hb e' => ?_)⟩
      exact h.out j x hx b hb (by rw [hvg, ← Option.some.inj e'])
  · rw [hvg]
    rcases sel j x hx with ⟨rfl, rfl⟩ | ⟨e, hx⟩
    · exact fun e => hne' b hb (Option.some.inj e).symm
    · exact h.out j x hx b hb
  · rcases sel j x hx with ⟨rfl, rfl⟩ | ⟨e, hx'⟩
    · rcases sel i y hy with ⟨rfl, rfl⟩ | ⟨e', hy⟩
      · exact absurd rfl hne
      · rcases hub' b hb with h1 | h1
        · exact h.apart j i u y hne hu hy b h1
        · intro e2
          have := (h.lt (.inr ⟨i, y, hy, e2⟩)).2
          omega
    · have hx2 := hx'
      clear hx'
      rcases sel i y hy with ⟨rfl, rfl⟩ | ⟨e', hy⟩
      · intro e2
        rcases hub' b e2 with h1 | h1
        · exact h.apart j i x u hne hx2 hu b hb h1
        · have := (h.lt (.inr ⟨j, x, hx2, hb⟩)).2
          omega
      · exact h.apart j i x y hne hx2 hy b hb
  · rcases hb with hb | ⟨j, x, hx, hb⟩
    · exact .inl (.inl hb)
    · rcases sel j x hx with ⟨rfl, rfl⟩ | ⟨e, hx⟩
      · rcases hub' b hb with h1 | h1
        · exact .inl (.inr ⟨j, u, hu, h1⟩)
        · right; omega
      · exact .inl (.inr ⟨j, x, hx, hb⟩)

end

end Go.Proofs.YtmndhclmhjmbpaaGreatDoor
