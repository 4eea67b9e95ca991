/- A table: a row of the call's own whose elements are rows of the call's own, each in a block of its own; one of them may grow. -/
import Derived.Test.YtkaplnjknobdpaaDoorDuos
import Derived.Test.YtkaplnjknobdpaaDoorKeepBut
namespace Go.Proofs.YtkaplnjknobdpaaDoor
open Go.RowKit Go.Sort

structure TabAt (base : Nat) (te t : TypeId) (sz : Nat) (W : World) (v : Value) (vs : List Value) (css : List (List Value)) : Prop where
  outer : W.ownsRow base te 1 v css.length vs
  inner : ∀ (k : Nat) (u : Value) (cs : List Value), vs[k]? = some u → css[k]? = some cs → ∃ n, W.ownsRow base t sz u n cs
  out : ∀ (k : Nat) (u : Value), vs[k]? = some u → ∀ b, u.ownBlock = some b → v.ownBlock ≠ some b
  apart : ∀ (j k : Nat) (u u' : Value), j ≠ k → vs[j]? = some u → vs[k]? = some u' → ∀ b, u.ownBlock = some b → u'.ownBlock ≠ some b

section
variable {base : Nat} {te t : TypeId} {sz : Nat} {W W' : World} {v : Value} {vs : List Value} {css : List (List Value)}

theorem TabAt.len (h : TabAt base te t sz W v vs css) : vs.length = css.length := by have := h.outer.1; simpa using this

/-- The blocks of a table. -/
def TabBlock (v : Value) (vs : List Value) (b : Nat) : Prop := v.ownBlock = some b ∨ ∃ (k : Nat) (u : Value), vs[k]? = some u ∧ u.ownBlock = some b

theorem TabAt.lt (h : TabAt base te t sz W v vs css) {b : Nat} (hb : TabBlock v vs b) : base ≤ b ∧ b < W.heap.size := by
  rcases hb with hb | ⟨k, u, hu, hb⟩
  · exact h.outer.lt b hb
  · have hk : k < css.length := by rw [← h.len]; exact (List.getElem?_eq_some_iff.1 hu).1
    obtain ⟨n, ho⟩ := h.inner k u _ hu (List.getElem?_eq_getElem hk)
    exact ho.lt b hb

theorem not_own {u : Value} {row : Option Nat} (h : ∀ b, u.ownBlock = some b → row ≠ some b) : u.ownBlock = none ∨ u.ownBlock ≠ row := by
  cases e : u.ownBlock with
  | none => exact .inl rfl
  | some b => exact .inr fun e' => h b e e'.symm

theorem TabAt.kept {row : Option Nat} (h : TabAt base te t sz W v vs css) (hg : W.grownBy W' row) (hr : ∀ b, row = some b → ¬ TabBlock v vs b) : TabAt base te t sz W' v vs css where
  outer := h.outer.kept hg (not_own fun b hb e => hr b e (.inl hb))
  inner := fun k u cs hu hc => by
    obtain ⟨n, ho⟩ := h.inner k u cs hu hc
    exact ⟨n, ho.kept hg (not_own fun b hb e => hr b e (.inr ⟨k, u, hu, hb⟩))⟩
  out := h.out
  apart := h.apart
theorem TabAt.below (h : TabAt base te t sz W v vs css) (hB : Below W.heap.size W W') : TabAt base te t sz W' v vs css := h.kept (Below.grownBy hB) (fun b e => by cases e)
theorem TabAt.drew (h : TabAt base te t sz W v vs css) : TabAt base te t sz W.drew v vs css := h.below (Below.refl _ W).drew

theorem tabAt_nil (base : Nat) (te t : TypeId) (sz : Nat) (W : World) : TabAt base te t sz W (.slice none 0 0) [] [] where
  outer := World.ownsRow_nil _ _ _ _
  inner := fun k u cs hu => by simp at hu
  out := fun k u hu => by simp at hu
  apart := fun j k u u' _ hu => by simp at hu

/-- More rows, each empty. -/
theorem TabAt.more {v' : Value} {n : Nat} (h : TabAt base te t sz W v vs css) (hown : W'.ownsRow base te 1 v' (css.length + n) (vs ++ List.replicate n (.slice none 0 0))) (hg : W.grownBy W' v.ownBlock) (hl : ∀ b, v'.ownBlock = some b → v.ownBlock = some b ∨ W.heap.size ≤ b) :
    TabAt base te t sz W' v' (vs ++ List.replicate n (.slice none 0 0)) (css ++ List.replicate n []) := by
  have hvl := h.len
  have key : ∀ (k : Nat) (u : Value), (vs ++ List.replicate n (Value.slice none 0 0))[k]? = some u → (vs[k]? = some u) ∨ (vs.length ≤ k ∧ u = .slice none 0 0) := fun k u hu => by
    rw [List.getElem?_append] at hu
    split at hu
    · exact .inl hu
    · rw [List.getElem?_replicate] at hu
      split at hu
      · exact .inr ⟨by omega, (Option.some.inj hu).symm⟩
      · cases hu
  refine ⟨by simpa using hown, fun k u cs hu hc => ?_, fun k u hu b hb => ?_, fun j k u u' hne hu hu' b hb => ?_⟩
  · rcases key k u hu with h1 | ⟨h1, rfl⟩
    · have hk : k < css.length := by rw [← hvl]; exact (List.getElem?_eq_some_iff.1 h1).1
      rw [List.getElem?_append_left hk] at hc
      obtain ⟨m, ho⟩ := h.inner k u cs h1 hc
      exact ⟨m, ho.kept hg (not_own fun b hb e => h.out k u h1 b hb e)⟩
    · rw [List.getElem?_append_right (by omega), List.getElem?_replicate] at hc
      split at hc
      · obtain rfl := Option.some.inj hc
        exact ⟨0, World.ownsRow_nil _ _ _ _⟩
      · cases hc
  · rcases key k u hu with h1 | ⟨_, rfl⟩
    · intro e
      have h2 := h.lt (.inr ⟨k, u, h1, hb⟩)
      rcases hl b e with h3 | h3
      · exact h.out k u h1 b hb h3
      · omega
    · cases hb
  · rcases key j u hu with h1 | ⟨_, rfl⟩
    · rcases key k u' hu' with h2 | ⟨_, rfl⟩
      · exact h.apart j k u u' hne h1 h2 b hb
      · intro e; cases e
    · cases hb

/-- One row grows: behind the append, and behind the store. -/
theorem TabAt.put {g n cap k m : Nat} {u u' : Value} {cs cs' : List Value} {o : Obj} (h : TabAt base te t sz W (.slice (some ⟨g, 0, none⟩) n cap) vs css) (hu : vs[k]? = some u) (hc : css[k]? = some cs) (hn : n = css.length)
    (hown : W'.ownsRow base t sz u' m cs') (hg : (W.alloc o).grownBy W' u.ownBlock) (hl : u'.ownBlock = u.ownBlock ∨ u'.ownBlock = some (W.alloc o).heap.size) :
    TabAt base te t sz (W'.setCell ⟨g, k, none⟩ u') (.slice (some ⟨g, 0, none⟩) n cap) (vs.set k u') (css.set k cs') ∧ ∀ b, TabBlock (.slice (some ⟨g, 0, none⟩) n cap) (vs.set k u') b → TabBlock (.slice (some ⟨g, 0, none⟩) n cap) vs b ∨ W.heap.size ≤ b := by
  subst hn
  have hvg : (Value.slice (some ⟨g, 0, none⟩) css.length cap).ownBlock = some g := rfl
  have hgl := h.lt (b := g) (.inl hvg)
  have hkl : k < vs.length := (List.getElem?_eq_some_iff.1 hu).1
  have hub : ∀ b, u.ownBlock = some b → b ≠ g ∧ b < W.heap.size := fun b hb => ⟨fun e => h.out k u hu b hb (by rw [hvg, e]), (h.lt (.inr ⟨k, u, hu, hb⟩)).2⟩
  have hub' : ∀ b, u'.ownBlock = some b → u.ownBlock = some b ∨ b = W.heap.size + 1 := fun b hb => by
    rcases hl with e | e
    · exact .inl (e.symm.trans hb)
    · right; rw [e] at hb; simpa using hb.symm
  have hne' : ∀ b, u'.ownBlock = some b → b ≠ g := fun b hb => by
    rcases hub' b hb with h1 | h1
    · exact (hub b h1).1
    · omega
  have ho1 := (h.outer.alloc o).kept hg (not_own fun b hb e => (hub b e).1 (by rw [hvg] at hb; exact (Option.some.inj hb).symm))
  have hst := ho1.stored k u'
  have sel : ∀ (j : Nat) (x : Value), (vs.set k u')[j]? = some x → (j = k ∧ x = u') ∨ (j ≠ k ∧ vs[j]? = some x) := fun j x hx => by
    by_cases e : k = j
    · rw [List.getElem?_set, if_pos e, if_pos hkl] at hx
      exact .inl ⟨e.symm, (Option.some.inj hx).symm⟩
    · rw [List.getElem?_set, if_neg e] at hx
      exact .inr ⟨fun e' => e e'.symm, hx⟩
  refine ⟨⟨by rw [List.length_set]; exact hst.1, fun j x c hx hcx => ?_, fun j x hx b hb => ?_, fun j i x y hne hx hy b hb => ?_⟩, fun b hb => ?_⟩
  · rcases sel j x hx with ⟨rfl, rfl⟩ | ⟨e, hx⟩
    · rw [List.getElem?_set, if_pos rfl, if_pos (by rw [← h.len]; exact hkl)] at hcx
      obtain rfl := Option.some.inj hcx
      exact ⟨m, hown.kept hst.2 (not_own fun b hb e => hne' b hb (Option.some.inj e).symm)⟩
    · rw [List.getElem?_set, if_neg (Ne.symm e)] at hcx
      obtain ⟨p, ho⟩ := h.inner j x c hx hcx
      refine ⟨p, ((ho.alloc o).kept hg (not_own fun b hb e' => h.apart j k x u e hx hu b hb e')).kept hst.2 (not_own fun b hb e' => ?_)⟩
      exact h.out j x hx b hb (by rw [hvg, ← Option.some.inj e'])
  · rw [hvg]
    rcases sel j x hx with ⟨rfl, rfl⟩ | ⟨e, hx⟩
    · exact fun e => hne' b hb (Option.some.inj e).symm
    · exact h.out j x hx b hb
  · rcases sel j x hx with ⟨rfl, rfl⟩ | ⟨e, hx'⟩
    · rcases sel i y hy with ⟨rfl, rfl⟩ | ⟨e', hy⟩
      · exact absurd rfl hne
      · rcases hub' b hb with h1 | h1
        · exact h.apart j i u y hne hu hy b h1
        · intro e2
          have := (h.lt (.inr ⟨i, y, hy, e2⟩)).2
          omega
    · have hx2 := hx'
      clear hx'
      rcases sel i y hy with ⟨rfl, rfl⟩ | ⟨e', hy⟩
      · intro e2
        rcases hub' b e2 with h1 | h1
        · exact h.apart j i x u hne hx2 hu b hb h1
        · have := (h.lt (.inr ⟨j, x, hx2, hb⟩)).2
          omega
      · exact h.apart j i x y hne hx2 hy b hb
  · rcases hb with hb | ⟨j, x, hx, hb⟩
    · exact .inl (.inl hb)
    · rcases sel j x hx with ⟨rfl, rfl⟩ | ⟨e, hx⟩
      · rcases hub' b hb with h1 | h1
        · exact .inl (.inr ⟨j, u, hu, h1⟩)
        · right; omega
      · exact .inl (.inr ⟨j, x, hx, hb⟩)

end

end Go.Proofs.YtkaplnjknobdpaaDoor
