/- A table of rows of numbers that grow in place by whole slices. -/
import Derived.Test.YtmndhclmhjmbpaaGreatDoorTab
import Derived.Test.YtmndhclmhjmbpaaGreatDoorIdxSorted
namespace Go.Proofs.YtmndhclmhjmbpaaGreatDoor
open Go.RowKit Go.Sort

section
variable {base : Nat} {te t : TypeId} {sz : Nat} {W W' : World} {v : Value} {vs : List Value} {css : List (List Value)}
theorem TabAt.put0 {g n cap k m : Nat} {u u' : Value} {cs cs' : List Value} (h : TabAt base te t sz W (.slice (some ⟨g, 0, none⟩) n cap) vs css) (hu : vs[k]? = some u) (hc : css[k]? = some cs) (hn : n = css.length)
    (hown : W'.ownsRow base t sz u' m cs') (hg : W.grownBy W' u.ownBlock) (hl : u'.ownBlock = u.ownBlock ∨ u'.ownBlock = some W.heap.size) :
    TabAt base te t sz (W'.setCell ⟨g, k, none⟩ u') (.slice (some ⟨g, 0, none⟩) n cap) (vs.set k u') (css.set k cs') ∧ ∀ b, TabBlock (.slice (some ⟨g, 0, none⟩) n cap) (vs.set k u') b → TabBlock (.slice (some ⟨g, 0, none⟩) n cap) vs b ∨ W.heap.size ≤ b := by
  subst hn
  have hvg : (Value.slice (some ⟨g, 0, none⟩) css.length cap).ownBlock = some g := rfl
  have hgl := h.lt (b := g) (.inl hvg)
  have hkl : k < vs.length := (List.getElem?_eq_some_iff.1 hu).1
  have hub : ∀ b, u.ownBlock = some b → b ≠ g ∧ b < W.heap.size := fun b hb => ⟨fun e => h.out k u hu b hb (by rw [hvg, e]), (h.lt (.inr ⟨k, u, hu, hb⟩)).2⟩
  have hub' : ∀ b, u'.ownBlock = some b → u.ownBlock = some b ∨ b = W.heap.size := fun b hb => by
    rcases hl with e | e
    · exact .inl (e.symm.trans hb)
    · right; rw [e] at hb; simpa using hb.symm
  have hne' : ∀ b, u'.ownBlock = some b → b ≠ g := fun b hb => by
    rcases hub' b hb with h1 | h1
    · exact (hub b h1).1
    · omega
  have ho1 := h.outer.kept hg (not_own fun b hb e => (hub b e).1 (by rw [hvg] at hb; exact (Option.some.inj hb).symm))
  have hst := ho1.stored k u'
  have sel : ∀ (j : Nat) (x : Value), (vs.set k u')[j]? = some x → (j = k ∧ x = u') ∨ (j ≠ k ∧ vs[j]? = some x) := fun j x hx => by
    by_cases e : k = j
    · rw [List.getElem?_set, if_pos e, if_pos hkl] at hx
      exact .inl ⟨e.symm, (Option.some.inj hx).symm⟩
    · rw [List.getElem?_set, if_neg e] at hx
      exact .inr ⟨fun e' => e e'.symm, hx⟩
  refine ⟨⟨by rw [List.length_set]; exact hst.1, fun j x c hx hcx => ?_, fun j x hx b hb => ?_, fun j i x y hne hx hy b hb => ?_⟩, fun b hb => ?_⟩
  · rcases sel j x hx with ⟨rfl, rfl⟩ | ⟨e, hx⟩
    · rw [List.getElem?_set, if_pos rfl, if_pos (by rw [← h.len]; exact hkl)] at hcx
      obtain rfl := Option.some.inj hcx
      exact ⟨m, hown.kept hst.2 (not_own fun b hb e => hne' b hb (Option.some.inj e).symm)⟩
    · rw [List.getElem?_set, if_neg (Ne.symm e)] at hcx
      obtain ⟨p, ho⟩ := h.inner j x c hx hcx
      refine ⟨p, (ho.kept hg (not_own fun b hb e' => h.apart j k x u e hx hu b hb e')).kept hst.2 (not_own fun b hb e' => ?_)⟩
      exact h.out j x hx b hb (by rw [hvg, ← Option.some.inj e'])
  · rw [hvg]
    rcases sel j x hx with ⟨rfl, rfl⟩ | ⟨e, hx⟩
    · exact fun e => hne' b hb (Option.some.inj e).symm
    · exact h.out j x hx b hb
  · rcases sel j x hx with ⟨rfl, rfl⟩ | ⟨e, hx'⟩
    · rcases sel i y hy with ⟨rfl, rfl⟩ | ⟨e', hy⟩
      · exact absurd rfl hne
      · rcases hub' b hb with h1 | h1
        · exact h.apart j i u y hne hu hy b h1
        · intro e2
          have := (h.lt (.inr ⟨i, y, hy, e2⟩)).2
          omega
    · have hx2 := hx'
      clear hx'
      rcases sel i y hy with ⟨rfl, rfl⟩ | ⟨e', hy⟩
      · intro e2
        rcases hub' b e2 with h1 | h1
        · exact h.apart j i x u hne hx2 hu b hb h1
        · have := (h.lt (.inr ⟨j, x, hx2, hb⟩)).2
          omega
      · exact h.apart j i x y hne hx2 hy b hb
  · rcases hb with hb | ⟨j, x, hx, hb⟩
    · exact .inl (.inl hb)
    · rcases sel j x hx with ⟨rfl, rfl⟩ | ⟨e, hx⟩
      · rcases hub' b hb with h1 | h1
        · exact .inl (.inr ⟨j, u, hu, h1⟩)
        · right; omega
      · exact .inl (.inr ⟨j, x, hx, hb⟩)
end

/-- A table of n rows, each of at most K numbers, in no block of X. -/
def NearT (base n g K : Nat) (X : Nat → Prop) (W : World) : Prop := ∃ (vs : List Value) (css : List (List Value)), TabAt base 23 3 1 W (.slice (some ⟨g, 0, none⟩) n n) vs css ∧ css.length = n ∧ (∀ cs ∈ css, cs.length ≤ K) ∧ ∀ b, TabBlock (.slice (some ⟨g, 0, none⟩) n n) vs b → ¬ X b

theorem nearT_new (w : World) (n base : Nat) (hb : base ≤ w.heap.size) (hn : n ≤ 100000) : NearT base n w.heap.size 0 (fun _ => False) (w.alloc (.cells (madeCells #[.slice none 0 0] n) 23)) := by
  have hrep : madeCells #[Value.slice none 0 0] n = (List.replicate n (Value.slice none 0 0)).toArray := by
    refine Array.ext (by simp [madeCells]) fun i h1 h2 => ?_
    simp [madeCells, Nat.mod_one]
  refine ⟨List.replicate n (.slice none 0 0), List.replicate n [], ⟨?_, ?_, ?_, ?_⟩, by simp, fun cs hc => by rw [(List.mem_replicate.1 hc).2]; exact Nat.le_refl _, fun _ _ h => h⟩
  · rw [List.length_replicate]
    refine ⟨by simp, .inr ⟨w.heap.size, n, _, rfl, hb, (Go.MapKept.heap_alloc w _).1, by simp, by unfold maxLen; omega, by rw [hrep]; simp, ?_⟩⟩
    rw [hrep]
    simp
  · intro k u cs hu hc
    rw [List.getElem?_replicate] at hu hc
    split at hu
    · rename_i h
      rw [if_pos h] at hc
      cases hu; cases hc
      exact ⟨0, World.ownsRow_nil _ _ _ _⟩
    · cases hu
  · intro k u hu b hb
    rw [List.getElem?_replicate] at hu
    split at hu
    · cases hu; cases hb
    · cases hu
  · intro j k u u' _ hu _ b hb
    rw [List.getElem?_replicate] at hu
    split at hu
    · cases hu; cases hb
    · cases hu
theorem NearT.below {X : Nat → Prop} {base n g K : Nat} {W W' : World} (h : NearT base n g K X W) (hB : Below W.heap.size W W') : NearT base n g K X W' := by
  obtain ⟨vs, css, h1, h2⟩ := h
  exact ⟨vs, css, h1.below hB, h2⟩
theorem NearT.drew {X : Nat → Prop} {base n g K : Nat} {W : World} (h : NearT base n g K X W) : NearT base n g K X W.drew := by
  obtain ⟨vs, css, h1, h2⟩ := h
  exact ⟨vs, css, h1.drew, h2⟩
theorem NearT.kept {X : Nat → Prop} {base n g K : Nat} {W W' : World} {row : Option Nat} (h : NearT base n g K X W) (hg : W.grownBy W' row) (hr : ∀ b, row = some b → b < base ) : NearT base n g K X W' := by
  obtain ⟨vs, css, h1, h2⟩ := h
  exact ⟨vs, css, h1.kept hg (fun b e hT => by have := (h1.lt hT).1; have := hr b e; omega), h2⟩
theorem NearT.keptX {X : Nat → Prop} {base n g K : Nat} {W W' : World} {row : Option Nat} (h : NearT base n g K X W) (hg : W.grownBy W' row) (hr : ∀ b, row = some b → X b) : NearT base n g K X W' := by
  obtain ⟨vs, css, h1, h2, h3, h4⟩ := h
  exact ⟨vs, css, h1.kept hg (fun b e hT => h4 b hT (hr b e)), h2, h3, h4⟩
theorem NearT.more {X : Nat → Prop} {base n g K K' : Nat} {W : World} (h : NearT base n g K X W) (hk : K ≤ K') : NearT base n g K' X W := by
  obtain ⟨vs, css, h1, h2, h3, h4⟩ := h
  exact ⟨vs, css, h1, h2, fun cs hc => Nat.le_trans (h3 cs hc) hk, h4⟩
theorem NearT.blocks {X : Nat → Prop} {base n g K : Nat} {W : World} (h : NearT base n g K X W) : NearT base n g K (fun b => W.heap.size ≤ b) W := by
  obtain ⟨vs, css, h1, h2, h3, _⟩ := h
  exact ⟨vs, css, h1, h2, h3, fun b hb hx => by have := (h1.lt hb).2; omega⟩
theorem NearT.sets {X X' : Nat → Prop} {base n g K : Nat} {W : World} (h : NearT base n g K X W) (hs : ∀ b, b < W.heap.size → X' b → X b) : NearT base n g K X' W := by
  obtain ⟨vs, css, h1, h2, h3, h4⟩ := h
  exact ⟨vs, css, h1, h2, h3, fun b hb hx => h4 b hb (hs b (h1.lt hb).2 hx)⟩
theorem NearT.lt {X : Nat → Prop} {base n g K : Nat} {W : World} (h : NearT base n g K X W) : base ≤ g ∧ g < W.heap.size := by
  obtain ⟨vs, css, h1, _⟩ := h
  exact h1.lt (.inl rfl)
/-- One row of the table: it may grow by a slice. -/
theorem NearT.row {X : Nat → Prop} {base n g K k : Nat} {W : World} (h : NearT base n g K X W) (hX : ∀ b, X b → b < W.heap.size) (hk : k < n) : ∃ (a : Option Addr) (m c : Nat) (cs : List Value), W.cell? ⟨g, k, none⟩ = some (.slice a m c) ∧ W.ownsRow base 3 1 (.slice a m c) m cs ∧ cs.length = m ∧ m ≤ K ∧ base ≤ g ∧ (∀ b, X b → (Value.slice a m c).ownBlock ≠ some b ∧ b ≠ g) ∧ (∀ b, (Value.slice a m c).ownBlock = some b → base ≤ b) ∧
    ∀ (W' : World) (u' : Value) (news : List Value) (x : Nat), W'.ownsRow base 3 1 u' x (cs ++ news) → W.grownBy W' (Value.slice a m c).ownBlock → (u'.ownBlock = (Value.slice a m c).ownBlock ∨ u'.ownBlock = some W.heap.size) →
      NearT base n g (K + news.length) X (W'.setCell ⟨g, k, none⟩ u') ∧ (W'.cell? ⟨g, k, none⟩ = some (.slice a m c) ∧ W'.frozen? ⟨g, k, none⟩ = false) := by
  obtain ⟨vs, css, h1, h2, h3, h4⟩ := h
  have hkv : k < vs.length := by rw [h1.len, h2]; exact hk
  have hkc : k < css.length := by rw [h2]; exact hk
  have hu := List.getElem?_eq_getElem hkv
  have hc := List.getElem?_eq_getElem hkc
  obtain ⟨x, ho⟩ := h1.inner k _ _ hu hc
  have hx : css[k].length = x := by have := ho.1; omega
  obtain ⟨a, c, hf⟩ : ∃ a c, vs[k] = .slice a x c := by
    rcases ho.2 with ⟨e, e2⟩ | ⟨gg, cap, cur, e, _⟩
    · exact ⟨none, 0, by rw [e, e2]⟩
    · exact ⟨_, cap, e⟩
  rw [hf] at hu ho
  have hcell := World.ownsRow.cells h1.outer (g := g) rfl k _ hu
  rw [Addr.add_lit, Nat.zero_add] at hcell
  have hgb := h1.lt (b := g) (.inl rfl)
  have hne : ∀ b, (Value.slice a x c).ownBlock = some b → b ≠ g := fun b hb e => h1.out k _ hu b hb (by rw [e]; rfl)
  have hfr : W.frozen? ⟨g, k, none⟩ = false := by
    rcases h1.outer.2 with ⟨e, e2⟩ | ⟨gg, cap, cur, e, _, hh, _⟩
    · cases e
    · cases e
      simp [World.frozen?, hh]
  refine ⟨a, x, c, css[k], hcell, ho, hx, by rw [← hx]; exact h3 _ (List.getElem_mem hkc), hgb.1, fun b hb => ⟨fun e => h4 b (.inr ⟨k, _, hu, e⟩) hb, fun e => h4 b (.inl (by rw [e]; rfl)) hb⟩, fun b hb => (h1.lt (.inr ⟨k, _, hu, hb⟩)).1, fun W' u' news y hown hg hl => ⟨?_, ?_⟩⟩
  · obtain ⟨hT, hTB⟩ := h1.put0 hu hc h2.symm hown hg hl
    refine ⟨_, _, hT, by simp [h2], fun cs hcs => ?_, fun b hb hx => ?_⟩
    rotate_left
    · rcases hTB b hb with e | e
      · exact h4 b e hx
      · have := hX b hx; omega
    rcases List.mem_or_eq_of_mem_set hcs with hm | hm
    · have := h3 _ hm; omega
    · rw [hm, List.length_append]
      have := h3 _ (List.getElem_mem hkc)
      omega
  · have hb : W'.heap[g]? = W.heap[g]? := hg.block g hgb.2 (fun e => hne g e.symm rfl)
    exact ⟨(World.cell?_of_block (a := ⟨g, k, none⟩) hb).trans hcell, (World.frozen?_of_block (a := ⟨g, k, none⟩) hb).trans hfr⟩

end Go.Proofs.YtmndhclmhjmbpaaGreatDoor
