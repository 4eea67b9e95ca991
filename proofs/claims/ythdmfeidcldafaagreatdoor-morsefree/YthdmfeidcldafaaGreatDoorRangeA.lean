/- Where the pairs go wrong is one place; a set of small facts for the statement on free faces. What is left is no bad list of sets: Make has no error on it. A range over an iterator that lays memory alone; the loop's body writes what is its own. -/
import Derived.Test.YthdmfeidcldafaaGreatDoorMorseCollapse
import Derived.Test.YthdmfeidcldafaaGreatDoorMorseRest
import Derived.Test.YthdmfeidcldafaaGreatDoorHeap
import Derived.Test.YthdmfeidcldafaaGreatDoorTab
namespace Go.Proofs.YthdmfeidcldafaaGreatDoor
open Go.RowKit Go.Sort

theorem goes_take {L : List (List Int)} : ∀ {ps : List Duo} {left : Nat → Bool} (k : Nat), Goes L left ps → Goes L left (ps.take k)
  | [], _, _, _ => by rw [List.take_nil]; trivial
  | _ :: _, _, 0, _ => trivial
  | _ :: ps, _, k + 1, h => ⟨h.1, goes_take (ps := ps) k h.2⟩
theorem goes_free {L : List (List Int)} {ps : List Duo} {left : Nat → Bool} {k : Nat} (hk : k < ps.length) (h : Goes L left ps) : FreeP L (leftBy left (ps.take k)) ps[k] := by
  have h1 := goes_take (k + 1) h
  rw [take_duo hk] at h1
  exact (goes_snoc.1 h1).2
theorem goes_free' {L : List (List Int)} {ps : List Duo} {left : Nat → Bool} {j k : Nat} (hk : k < ps.length) (hj : k < j) (h : Goes L left (ps.take j)) : FreeP L (leftBy left (ps.take k)) ps[k] := by
  have h1 := goes_take (k + 1) h
  rw [List.take_take, Nat.min_eq_left (by omega), take_duo hk] at h1
  exact (goes_snoc.1 h1).2
/-- The first wrong pair is one. -/
theorem wrong_one {L : List (List Int)} {ps : List Duo} {left : Nat → Bool} {j k : Nat} (hj : j < ps.length) (hk : k < ps.length) (gj : Goes L left (ps.take j)) (gk : Goes L left (ps.take k)) (nj : ¬ FreeP L (leftBy left (ps.take j)) ps[j]) (nk : ¬ FreeP L (leftBy left (ps.take k)) ps[k]) : j = k := by
  rcases Nat.lt_trichotomy j k with h | h | h
  · exact absurd (goes_free' hj h gk) nj
  · exact h
  · exact absurd (goes_free' hk h gj) nk

end Go.Proofs.YthdmfeidcldafaaGreatDoor

namespace Go.Proofs.YthdmfeidcldafaaGreatDoor
open Go.RowKit Go.Sort

theorem left_mem {all : List (List Int)} {left : Nat → Bool} {x : List Int} (h : x ∈ leftTo (numL all) left (numL all).length) : x ∈ all := by
  obtain ⟨i, hi, rfl⟩ := List.mem_map.1 h
  have hi := List.mem_range.1 (List.mem_filter.1 hi).1
  exact (numTo_mem.1 (faceAt_mem hi)).1
theorem good_sets {l all : List (List Int)} (g : Good l all) : ∀ x ∈ all, SetOk x := fun x hx => by
  obtain ⟨h1, t, ht, hs⟩ := (g.isAll.mem x).1 hx
  obtain ⟨y, hy, rfl⟩ := List.mem_map.1 ht
  have hy2 := g.ok y hy
  have hr : Rising x := (srt_rising hy2.2.1).sublist hs
  exact ⟨h1, rising_nodup hr, fun v hv => hy2.2.2 v ((srt_mem y v).1 (hs.subset hv))⟩
theorem left_ok {l all : List (List Int)} (g : Good l all) (left : Nat → Bool) : ∀ x ∈ leftTo (numL all) left (numL all).length, SetOk x := fun x hx => good_sets g x (left_mem hx)
theorem left_few {l all : List (List Int)} (g : Good l all) (left : Nat → Bool) : ¬ Over ((leftTo (numL all) left (numL all).length).map srt) := by
  have hr : ∀ x ∈ leftTo (numL all) left (numL all).length, Rising x := fun x hx => good_rising g x (left_mem hx)
  rw [map_srt hr]
  rintro (⟨t, ht, h7⟩ | ⟨X, hn, h6, hx⟩)
  · have := g.short t (left_mem ht); omega
  · have := nodup_le hn (fun x hx' => by
      obtain ⟨h1, t, ht, hs⟩ := hx x hx'
      obtain ⟨h2, u, hu, hs2⟩ := (g.isAll.mem t).1 (left_mem ht)
      exact (g.isAll.mem x).2 ⟨h1, u, hu, hs.trans hs2⟩)
    have := g.length
    omega

end Go.Proofs.YthdmfeidcldafaaGreatDoor

namespace Go.Proofs.YthdmfeidcldafaaGreatDoor
open Go.RowKit Go.Shelf Go.Sort Go.Maps

/-- What a round keeps: all but the body's own blocks; new ones of these are fresh. -/
structure RoundKept {α : Type} (M : List α → World → Nat → Prop) (pre : List α) (x : α) (W W' : World) : Prop where
  size : W.heap.size ≤ W'.heap.size
  block : ∀ b, b < W.heap.size → ¬ M pre W b → W'.heap[b]? = W.heap[b]?
  fresh : ∀ b, M (pre ++ [x]) W' b → M pre W b ∨ W.heap.size ≤ b

/-- An iterator that lays memory alone, and reads the blocks S of what was there. -/
def SeqA {α : Type} (P : Program) (gf : Nat) (fb lb : Array Value) (enc : α → Value) (xs : List α) (S : Nat → Prop) (w : World) : Prop :=
  ∀ (l : Nat) (J : List α → World → Prop) (M : List α → World → Nat → Prop) (W : World), Below w.heap.size w W →
    (∀ s A C, J s A → Below A.heap.size A C → J s C ∧ ∀ b, M s C b → M s A b) →
    (∀ s A b, J s A → M s A b → ¬ S b ∧ b < A.heap.size) →
    (∀ pre x W1, J pre W1 → pre.length < xs.length → YieldAt Fence.wide 8 P l #[enc x] W1 fun e W' => e = .returned (.bool true) ∧ J (pre ++ [x]) W' ∧ RoundKept M pre x W1 W') →
    J [] W →
    CallsIn Fence.wide 9 P gf ((fb ++ #[.func (.yield l) #[] #[]]) ++ lb) W fun e W' => (∃ v, e = .returned v) ∧ J xs W'

/-- How a round ends. -/
def roundA {α : Type} (I : List α → World → Prop) (M : List α → World → Nat → Prop) (pre : List α) (x : α) (W : World) : Exit → Act → World → Prop
  | .normal, _, W' => I (pre ++ [x]) W' ∧ RoundKept M pre x W W'
  | .ret, _, _ => False
  | .exit _, _, _ => False
  | .goto _, _, _ => False
  | .panic _, _, _ => False
  | .outgrown, _, _ => False

theorem keep_put {W : World} {r D : Nat} {o' : Obj} : KeepBut W (W.putObj r o') D r :=
  have h := grownBy_putObj' W r o'
  ⟨h.os, h.tape, h.output, h.size, fun b hb _ h2 => h.block b hb (fun e => by cases e; exact h2 rfl)⟩

theorem range_a {α : Type} {P : Program} {g : Operand} {ps : Array Tmp} {assign body : Code} {Q : Exit → Act → World → Prop} {a : Act} {w w0 : World} {gf : Nat} {fb lb : Array Value} {enc : α → Value} {xs : List α} {S : Nat → Prop}
    (hg : a.eval g = .func (.func gf) fb lb) (eg : ∀ args w, (callFunc gf args).run P w = .ok (.enter gf args) w) (hseq : SeqA P gf fb lb enc xs S w0) (hS : ∀ b, S b → b < w0.heap.size) (hb0 : Below w0.heap.size w0 w) (hps : ps.size = 1)
    (I : List α → World → Prop) (M : List α → World → Nat → Prop)
    (hI : ∀ s A C, I s A → KeepBut A C w.heap.size (w.heap.size + 1) → I s C ∧ ∀ b, M s C b → M s A b)
    (hM : ∀ s A b, I s A → M s A b → (¬ S b ∧ b < A.heap.size) ∧ b ≠ w.heap.size ∧ b ≠ w.heap.size + 1)
    (h0 : I [] w) (a₁ : α → World → Act) (f₁ : α → World → World) (hgrow : ∀ x W, Below W.heap.size W (f₁ x W))
    (hassign : ∀ (l : Nat) (x : α) (W : World) (K : Act → World → Prop), K (a₁ x W) (f₁ x W) → assign.wpIn (Fence.wide.inRound l) 8 P (Exit.then K (fun _ _ _ => False)) { tmps := (ps.zip #[enc x]).foldl (fun t (p, v) => t.setIfInBounds p v) a.tmps, defers := [] } W)
    (hbody : ∀ (l : Nat) (pre : List α) (x : α) (W Wb : World), I pre Wb → KeepBut (f₁ x W) Wb w.heap.size (w.heap.size + 1) → w.heap.size + 2 ≤ W.heap.size → pre.length < xs.length → body.wpIn (Fence.wide.inRound l) 8 P (roundA I M pre x Wb) (a₁ x W) Wb)
    (hdone : ∀ W : World, I xs W → W.heap[w.heap.size]? = some (.deferred (some [])) → Q .normal { a with defers := { target := .collected w.heap.size, args := #[] } :: a.defers } W) :
    (Code.rangeFunc g ps assign body).wpIn Fence.wide 10 P Q a w := by
  refine wpIn_rangeFunc fun fn hfn => ?_
  let R : LoopState → Option Code → Loop := fun st pe => { state := st, pending := pe, fn := fn, tmps := a.tmps, params := ps, assign := assign, body := body, defers := w.heap.size }
  let W1 : World := (w.alloc (.deferred (some []))).alloc (.loop (R .ready none))
  have hs1 : W1.heap.size = w.heap.size + 2 := by simp [W1]
  have hB1 : Below w.heap.size w W1 := ((Below.refl _ w).alloc (Nat.le_refl _) _).alloc (by simp) _
  have hL1 : W1.heap[w.heap.size + 1]? = some (.loop (R .ready none)) := by
    have := World.alloc_heap_new (w.alloc (.deferred (some []))) (.loop (R .ready none))
    rwa [World.size_alloc] at this
  have hD1 : W1.heap[w.heap.size]? = some (.deferred (some [])) := (Below.heap_alloc _ _ _ (by simp)).trans (World.alloc_heap_new w _)
  refine ⟨w.heap.size + 1, [{ target := .collected w.heap.size, args := #[] }], W1, { target := .fn (.func gf) lb, args := fb ++ #[.func (.yield (w.heap.size + 1)) #[] #[]] }, W1, gf, (fb ++ #[.func (.yield (w.heap.size + 1)) #[] #[]]) ++ lb, W1,
    run_enterLoop_outer _ _ _ _ _, by simp only [resolve, hg]; simp [go_sem], fun _ _ => trivial, by simp [invoke, go_sem, eg], fun _ => by decide, ?_⟩
  have kb : ∀ {A C : World}, Below A.heap.size A C → KeepBut A C w.heap.size (w.heap.size + 1) := fun h => ⟨h.os, h.tape, h.output, h.size, fun b hb _ _ => h.block b hb⟩
  have k1 : KeepBut w W1 w.heap.size (w.heap.size + 1) := ⟨hB1.os, hB1.tape, hB1.output, hB1.size, fun b hb _ _ => hB1.block b hb⟩
  refine (hseq (w.heap.size + 1)
    (fun pre W => I pre W ∧ W.heap[w.heap.size + 1]? = some (.loop (R .ready none)) ∧ W.heap[w.heap.size]? = some (.deferred (some [])))
    (fun pre W b => M pre W b ∨ b = w.heap.size + 1)
    W1 (hb0.trans (hB1.mono hb0.size))
    (fun s A C h hB => ⟨⟨(hI s A C h.1 (kb hB)).1, (hB.block _ (Array.getElem?_eq_some_iff.1 h.2.1).1).trans h.2.1, (hB.block _ (Array.getElem?_eq_some_iff.1 h.2.2).1).trans h.2.2⟩, fun b hb => hb.imp ((hI s A C h.1 (kb hB)).2 b) id⟩)
    (fun s A b h hb => hb.elim (fun hm => (hM s A b h.1 hm).1) (fun e => by subst e; exact ⟨fun h => by have := hS _ h; have := hb0.size; omega, (Array.getElem?_eq_some_iff.1 h.2.1).1⟩))
    ?round ⟨(hI _ _ _ h0 k1).1, hL1, hD1⟩).mono ?behind
  case behind =>
    rintro e W2 ⟨⟨v, rfl⟩, hi, hl, hd⟩
    exact ⟨none, _, run_endLoop hl (by simp [R]), hdone _ (hI _ _ _ hi keep_put).1 ((World.putObj_heap_other (by omega)).trans hd)⟩
  case round =>
    rintro pre x W ⟨hi, hl, hd⟩ hpx
    have hlt := (Array.getElem?_eq_some_iff.1 hl).1
    have hdl := (Array.getElem?_eq_some_iff.1 hd).1
    have hg1 := hgrow x W
    have hi0 := hI _ _ _ hi (kb hg1)
    have hl0 := (hg1.block _ hlt).trans hl
    have hd0 := (hg1.block _ hdl).trans hd
    refine ⟨fn, _, assign, body, run_yield hl (by simp [R, hps]), roundIn_of_wpIn hfn (hassign _ x W _ ⟨_, run_beginRound hl0 rfl, ?_⟩)⟩
    obtain ⟨Wb, hWb⟩ : ∃ Wb, (f₁ x W).putObj (w.heap.size + 1) (.loop { R .ready none with state := .busy }) = Wb := ⟨_, rfl⟩
    have hl2 : Wb.heap[w.heap.size + 1]? = some (.loop { R .ready none with state := .busy }) := by rw [← hWb]; exact World.putObj_heap_same (Array.getElem?_eq_some_iff.1 hl0).1
    have hd2 : Wb.heap[w.heap.size]? = some (.deferred (some [])) := by rw [← hWb]; exact (World.putObj_heap_other (by omega)).trans hd0
    have hkb : KeepBut (f₁ x W) Wb w.heap.size (w.heap.size + 1) := by rw [← hWb]; exact keep_put
    have hib := hI _ _ _ hi0.1 hkb
    rw [show (f₁ x W).putObj (w.heap.size + 1) (.loop { R .ready none with state := .busy }) = Wb from hWb]
    refine wpIn_mono (hbody _ pre x W Wb hib.1 hkb (by omega) hpx) ?_
    rintro e b3 W3 h3
    cases e with
    | normal =>
      obtain ⟨hi3, hr3⟩ := h3
      have hnm : ∀ b, b = w.heap.size ∨ b = w.heap.size + 1 → ¬ M pre Wb b := fun b hb hm => by have := (hM _ _ _ hib.1 hm).2; omega
      have hl3 := (hr3.block _ (Array.getElem?_eq_some_iff.1 hl2).1 (hnm _ (.inr rfl))).trans hl2
      have hd3 := (hr3.block _ (Array.getElem?_eq_some_iff.1 hd2).1 (hnm _ (.inl rfl))).trans hd2
      have hk4 : ∀ o', KeepBut W3 (W3.putObj (w.heap.size + 1) o') w.heap.size (w.heap.size + 1) := fun o' => keep_put
      have hi4 := fun o' => hI _ _ _ hi3 (hk4 o')
      refine ⟨_, _, run_endRound none hl3, rfl, ⟨(hi4 _).1, World.putObj_heap_same (Array.getElem?_eq_some_iff.1 hl3).1, (World.putObj_heap_other (by omega)).trans hd3⟩, ?_⟩
      refine ⟨Nat.le_trans hg1.size (Nat.le_trans hkb.size (Nat.le_trans hr3.size (hk4 _).size)), fun b hb hnb => ?_, fun b hb => ?_⟩
      · have h1 : b ≠ w.heap.size + 1 := fun e => hnb (.inr e)
        have h2 : ¬ M pre Wb b := fun hm => hnb (.inl (hi0.2 b (hib.2 b hm)))
        by_cases hbd : b = w.heap.size
        · subst hbd
          rw [World.putObj_heap_other (by omega), hd3, hd]
        · exact ((hk4 _).block b (by have := hg1.size; have := hkb.size; have := hr3.size; omega) hbd h1).trans ((hr3.block b (by have := hg1.size; have := hkb.size; omega) h2).trans ((hkb.block b (by have := hg1.size; omega) hbd h1).trans (hg1.block b hb)))
      · rcases hb with hb | hb
        · rcases hr3.fresh b ((hi4 _).2 b hb) with h | h
          · exact .inl (.inl (hi0.2 b (hib.2 b h)))
          · exact .inr (Nat.le_trans (Nat.le_trans hg1.size hkb.size) h)
        · exact .inl (.inr hb)
    | ret => exact h3.elim
    | exit id => exact h3.elim
    | goto t => exact h3.elim
    | panic c => exact h3.elim
    | outgrown => exact h3.elim

end Go.Proofs.YthdmfeidcldafaaGreatDoor
