/- A range over an iterator that writes, between two rounds, what it has laid itself. -/
import Derived.Test.YtkmecdgnoemimaaDoorHeap
namespace Go.Proofs.YtkmecdgnoemimaaDoor
open Go.RowKit Go.Shelf Go.Sort Go.Maps

/-- Nothing is said of what lies from B on. -/
def Heedless {α : Type} (B : Nat) (J : α → World → Prop) : Prop := ∀ s A C, J s A → Below B A C → J s C

/-- An iterator of texts that may write what it has laid itself. -/
def SeqB (P : Program) (gf : Nat) (lb : Array Value) (xs : List Fc) (w : World) : Prop :=
  ∀ (l : Nat) (J Jx : List Fc → World → Prop) (W : World), Below w.heap.size w W → Heedless W.heap.size J → Heedless W.heap.size Jx →
    (∀ pre x W1, J pre W1 → pre.length < xs.length → YieldAt Fence.wide 8 P l #[encStr x.1] W1 fun e W' =>
      (e = .returned (.bool true) ∧ J (pre ++ [x]) W' ∧ BelowC w.heap.size W1 W') ∨ (e = .returned (.bool false) ∧ Jx (pre ++ [x]) W')) →
    J [] W →
    CallsIn Fence.wide 9 P gf (#[.func (.yield l) #[] #[]] ++ lb) W fun e W' => (∃ v, e = .returned v) ∧ (J xs W' ∨ ∃ pre, pre <+: xs ∧ Jx pre W')

/-- How a round may end: it goes on, or the function returns. -/
def roundB (B n : Nat) (I Ix : List Fc → World → Prop) (ys : List Fc) (W : World) : Exit → Act → World → Prop
  | .normal, _, W' => KeepsFrom B W W' ∧ BelowC n W W' ∧ I ys W'
  | .ret, _, W' => KeepsFrom B W W' ∧ Ix ys W'
  | .exit _, _, _ => False
  | .goto _, _, _ => False
  | .panic _, _, _ => False
  | .outgrown, _, _ => False

theorem below_put {B r : Nat} {W : World} {o o' : Obj} (h : W.heap[r]? = some o) (hr : B ≤ r) : Below B W (W.putObj r o') :=
  (Below.refl B W).grown (grownBy_putObj' W r o') (by have := (Array.getElem?_eq_some_iff.1 h).1; omega) (fun k e => by cases e; exact hr)

theorem range_b {P : Program} {g : Operand} {ps : Array Tmp} {assign body : Code} {Q : Exit → Act → World → Prop} {a : Act} {w w0 : World} {gf : Nat} {lb : Array Value} {xs : List Fc}
    (hg : a.eval g = .func (.func gf) #[] lb) (eg : ∀ args w, (callFunc gf args).run P w = .ok (.enter gf args) w) (hseq : SeqB P gf lb xs w0) (hb0 : Below w0.heap.size w0 w) (hps : ps.size = 1)
    (I Ix : List Fc → World → Prop) (hI : Heedless w.heap.size I) (hIx : Heedless w.heap.size Ix) (h0 : I [] w) (a₁ : Fc → Act)
    (hassign : ∀ (l : Nat) (x : Fc) (W : World) (K : Act → World → Prop), K (a₁ x) W → assign.wpIn (Fence.wide.inRound l) 8 P (Exit.then K (fun _ _ _ => False)) { tmps := (ps.zip #[encStr x.1]).foldl (fun t (p, v) => t.setIfInBounds p v) a.tmps, defers := [] } W)
    (hbody : ∀ (l : Nat) (pre : List Fc) (x : Fc) (W : World), I pre W → body.wpIn (Fence.wide.inRound l) 8 P (roundB w.heap.size w0.heap.size I Ix (pre ++ [x]) W) (a₁ x) W)
    (hdone : ∀ W : World, I xs W → W.heap[w.heap.size]? = some (.deferred (some [])) → Q .normal { a with defers := { target := .collected w.heap.size, args := #[] } :: a.defers } W)
    (hstop : ∀ (pre : List Fc) (W : World), pre <+: xs → Ix pre W → W.heap[w.heap.size]? = some (.deferred (some [])) → Code.ret.wpIn Fence.wide 10 P Q { a with defers := { target := .collected w.heap.size, args := #[] } :: a.defers } W) :
    (Code.rangeFunc g ps assign body).wpIn Fence.wide 10 P Q a w := by
  refine wpIn_rangeFunc fun fn hfn => ?_
  -- the loop's record in each of its states
  let R : LoopState → Option Code → Loop := fun st pe => { state := st, pending := pe, fn := fn, tmps := a.tmps, params := ps, assign := assign, body := body, defers := w.heap.size }
  let W1 : World := (w.alloc (.deferred (some []))).alloc (.loop (R .ready none))
  have hs1 : W1.heap.size = w.heap.size + 2 := by simp [W1]
  have hB1 : Below w.heap.size w W1 := ((Below.refl _ w).alloc (Nat.le_refl _) _).alloc (by simp) _
  have hL1 : W1.heap[w.heap.size + 1]? = some (.loop (R .ready none)) := by
    have := World.alloc_heap_new (w.alloc (.deferred (some []))) (.loop (R .ready none))
    rwa [World.size_alloc] at this
  have hD1 : W1.heap[w.heap.size]? = some (.deferred (some [])) := (Below.heap_alloc _ _ _ (by simp)).trans (World.alloc_heap_new w _)
  refine ⟨w.heap.size + 1, [{ target := .collected w.heap.size, args := #[] }], W1, { target := .fn (.func gf) lb, args := #[.func (.yield (w.heap.size + 1)) #[] #[]] }, W1, gf, #[.func (.yield (w.heap.size + 1)) #[] #[]] ++ lb, W1,
    run_enterLoop_outer _ _ _ _ _, by simp only [resolve, hg]; simp [go_sem], fun _ _ => trivial, by simp [invoke, go_sem, eg], fun _ => by decide, ?_⟩
  -- what the loop keeps by heart, besides the caller's own
  have stay : ∀ {A C : World} {o : Obj} {k : Nat}, k < w.heap.size + 2 → Below W1.heap.size A C → A.heap[k]? = some o → C.heap[k]? = some o := fun hk h ho => (h.block _ (by omega)).trans ho
  refine (hseq (w.heap.size + 1)
    (fun pre W => I pre W ∧ W.heap[w.heap.size + 1]? = some (.loop (R .ready none)) ∧ W.heap[w.heap.size]? = some (.deferred (some [])))
    (fun pre W => Ix pre W ∧ W.heap[w.heap.size + 1]? = some (.loop (R .done (some .ret))) ∧ W.heap[w.heap.size]? = some (.deferred (some [])))
    W1 (hb0.trans (hB1.mono hb0.size))
    (fun s A C h hB => ⟨hI s A C h.1 (hB.mono (by omega)), stay (by omega) hB h.2.1, stay (by omega) hB h.2.2⟩)
    (fun s A C h hB => ⟨hIx s A C h.1 (hB.mono (by omega)), stay (by omega) hB h.2.1, stay (by omega) hB h.2.2⟩)
    ?round ⟨hI _ _ _ h0 hB1, hL1, hD1⟩).mono ?behind
  case behind =>
    rintro e W2 ⟨⟨v, rfl⟩, ⟨hi, hl, hd⟩ | ⟨pre, hpre, hi, hl, hd⟩⟩
    · exact ⟨none, _, run_endLoop hl (by simp [R]), hdone _ (hI _ _ _ hi (below_put hl (by omega))) ((World.putObj_heap_other (by omega)).trans hd)⟩
    · exact ⟨some .ret, _, run_endLoop hl (by simp [R]), hstop pre _ hpre (hIx _ _ _ hi (below_put hl (by omega))) ((World.putObj_heap_other (by omega)).trans hd)⟩
  case round =>
    rintro pre x W ⟨hi, hl, hd⟩ -
    have hlt := (Array.getElem?_eq_some_iff.1 hl).1
    refine ⟨fn, _, assign, body, run_yield hl (by simp [R, hps]), roundIn_of_wpIn hfn (hassign _ x W _ ⟨_, run_beginRound hl rfl, ?_⟩)⟩
    have hb := below_put (B := w.heap.size) (o' := .loop { R .ready none with state := .busy }) hl (by omega)
    have hl2 : (W.putObj (w.heap.size + 1) (.loop { R .ready none with state := .busy })).heap[w.heap.size + 1]? = some (.loop { R .ready none with state := .busy }) := World.putObj_heap_same hlt
    have hd2 : (W.putObj (w.heap.size + 1) (.loop { R .ready none with state := .busy })).heap[w.heap.size]? = some (.deferred (some [])) := (World.putObj_heap_other (by omega)).trans hd
    have hc : BelowC w0.heap.size W (W.putObj (w.heap.size + 1) (.loop { R .ready none with state := .busy })) := belowC_b (w := w) hb0.size _ _ _ _ (by omega) hl rfl rfl
    refine wpIn_mono (hbody _ pre x _ (hI _ _ _ hi hb)) ?_
    rintro e b3 W3 h3
    cases e with
    | normal =>
      obtain ⟨hk, hc3, hi3⟩ := h3
      have hl3 := hk.same _ _ (by omega) hl2 rfl
      exact ⟨_, _, run_endRound none hl3, .inl ⟨rfl, ⟨hI _ _ _ hi3 (below_put hl3 (by omega)), World.putObj_heap_same (Array.getElem?_eq_some_iff.1 hl3).1, (World.putObj_heap_other (by omega)).trans (hk.same _ _ (Nat.le_refl _) hd2 rfl)⟩,
        belowC_t (belowC_t hc hc3) (belowC_b (w := w) hb0.size _ _ _ _ (by omega) hl3 rfl rfl)⟩⟩
    | ret =>
      obtain ⟨hk, hi3⟩ := h3
      have hl3 := hk.same _ _ (by omega) hl2 rfl
      exact ⟨_, _, run_endRound (some .ret) hl3, .inr ⟨rfl, hIx _ _ _ hi3 (below_put hl3 (by omega)), World.putObj_heap_same (Array.getElem?_eq_some_iff.1 hl3).1, (World.putObj_heap_other (by omega)).trans (hk.same _ _ (Nat.le_refl _) hd2 rfl)⟩⟩
    | exit id => exact h3.elim
    | goto t => exact h3.elim
    | panic c => exact h3.elim
    | outgrown => exact h3.elim

end Go.Proofs.YtkmecdgnoemimaaDoor
