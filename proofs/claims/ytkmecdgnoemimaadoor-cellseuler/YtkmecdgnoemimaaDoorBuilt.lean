/- A text with each byte raised. Joins: which sets are wrong; what texts are raised and put together; the verdict on any sets. A range over an iterator that writes, between two rounds, what it has laid itself. What built answers: the complex of what an iterator hands on; and slices.Values of whatever slice of texts. -/
import Derived.Test.YtkmecdgnoemimaaDoorMath2
import Derived.Test.YtkmecdgnoemimaaDoorJoinMath
import Derived.Test.YtkmecdgnoemimaaDoorHeap
import Derived.Test.YtkmecdgnoemimaaDoorMake
namespace Go.Proofs.YtkmecdgnoemimaaDoor

/-- A text with each byte raised. -/
def raiseU (up : Nat) (t : List UInt8) : List UInt8 := t.map (fun b => b + UInt8.ofNat up)
theorem raiseU_length (up : Nat) (t : List UInt8) : (raiseU up t).length = t.length := by simp [raiseU]

end Go.Proofs.YtkmecdgnoemimaaDoor

namespace Go.Proofs.YtkmecdgnoemimaaDoor
open Go.RowKit Go.Sort

theorem good_nil : Good [] [] where
  ok := fun x hx => by cases hx
  few := by
    rintro (⟨t, ht, _⟩ | ⟨X, _, hl, hx⟩)
    · cases ht
    · cases X with
      | nil => simp at hl
      | cons x X => obtain ⟨_, t, ht, _⟩ := hx x (by simp); cases ht
  isAll := ⟨List.Pairwise.nil, fun x => ⟨fun h => by simp at h, fun h => by obtain ⟨_, t, ht, _⟩ := h; simp at ht⟩⟩
  same := rfl

theorem Good.nonneg {l p : List (List Int)} (g : Good l p) : ∀ x ∈ p, ∀ v ∈ x, 0 ≤ v := fun _ hx v hv => ((face_ok_of g hx).1.2.2 v hv).1
theorem Good.top {l p : List (List Int)} (g : Good l p) : topV p ≤ 99 := by
  rcases topV_in g.nonneg with h | ⟨x, hx, hv⟩
  · omega
  · exact ((face_ok_of g hx).1.2.2 _ hv).2
/-- The join's sets. -/
def joinS (p q : List (List Int)) : List (List Int) := stepI p (q.map (raise (topV p + 1)))

theorem cat_rising {x y : List Int} (hx : Rising x) (hy : Rising y) (h : ∀ u ∈ x, ∀ v ∈ y, u < v) : Rising (x ++ y) := List.pairwise_append.2 ⟨hx, hy, h⟩
theorem join_low {a b p q : List (List Int)} (ga : Good a p) (gb : Good b q) {x y : List Int} (hx : x ∈ p) (hy : y ∈ q) : ∀ u ∈ x, ∀ v ∈ raise (topV p + 1) y, u < v := by
  intro u hu v hv
  obtain ⟨v', hv', rfl⟩ := List.mem_map.1 hv
  have h1 := topV_max ga.rising hx hu
  have h2 := gb.nonneg y hy v' hv'
  omega
theorem join_rising {a b p q : List (List Int)} (ga : Good a p) (gb : Good b q) : ∀ t ∈ joinS p q, Rising t := by
  intro t ht
  rcases step_mem.1 ht with h | h | ⟨x, hx, z, hz, rfl⟩
  · exact ga.rising t h
  · obtain ⟨y, hy, rfl⟩ := List.mem_map.1 h
    exact raise_rising (gb.rising y hy)
  · obtain ⟨y, hy, rfl⟩ := List.mem_map.1 hz
    exact cat_rising (ga.rising x hx) (raise_rising (gb.rising y hy)) (join_low ga gb hx hy)
theorem raise_ok {b q : List (List Int)} (gb : Good b q) {up : Int} (h0 : 0 ≤ up) (h : up + topV q ≤ 99) {y : List Int} (hy : y ∈ q) : SetOk (raise up y) := by
  have hf := face_ok_of gb hy
  refine ⟨fun e => hf.1.1 (by simpa [raise] using e), (raise_rising hf.2).imp (fun h => Int.ne_of_lt h), fun v hv => ?_⟩
  obtain ⟨v', hv', rfl⟩ := List.mem_map.1 hv
  have h1 := topV_max gb.rising hy hv'
  have h2 := (hf.1.2.2 v' hv').1
  omega
theorem join_ok {a b p q : List (List Int)} (ga : Good a p) (gb : Good b q) : (∀ t ∈ joinS p q, SetOk t) ↔ topV p + 1 + topV q ≤ 99 := by
  have hup : 0 ≤ topV p + 1 := by have := topV_ge (l := p); omega
  constructor
  · intro h
    rcases topV_in gb.nonneg with e | ⟨x, hx, hv⟩
    · have := ga.top; omega
    · have h1 := h (raise (topV p + 1) x) (step_mem.2 (.inr (.inl (List.mem_map.2 ⟨x, hx, rfl⟩))))
      have h2 := h1.2.2 (topV q + (topV p + 1)) (List.mem_map.2 ⟨_, hv, rfl⟩)
      omega
  · intro h t ht
    rcases step_mem.1 ht with h' | h' | ⟨x, hx, z, hz, rfl⟩
    · exact (face_ok_of ga h').1
    · obtain ⟨y, hy, rfl⟩ := List.mem_map.1 h'
      exact raise_ok gb hup h hy
    · obtain ⟨y, hy, rfl⟩ := List.mem_map.1 hz
      have h1 := (face_ok_of ga hx).1
      have h2 := raise_ok gb hup h hy
      refine ⟨fun e => h1.1 (List.append_eq_nil_iff.1 e).1, (cat_rising (ga.rising x hx) (raise_rising (gb.rising y hy)) (join_low ga gb hx hy)).imp (fun h => Int.ne_of_lt h), fun v hv => ?_⟩
      rcases List.mem_append.1 hv with hv | hv
      · exact h1.2.2 v hv
      · exact h2.2.2 v hv

theorem raiseU_ints {up : Nat} {t : List UInt8} (h : ∀ v ∈ ints t, v + up ≤ 255) : ints (raiseU up t) = raise up (ints t) := by
  unfold raiseU raise ints
  rw [List.map_map, List.map_map]
  refine List.map_congr_left (fun b hb => ?_)
  have h1 := h (b.toNat : Int) (List.mem_map.2 ⟨b, hb, rfl⟩)
  simp only [Function.comp, UInt8.toNat_add, UInt8.toNat_ofNat']
  have : (b.toNat + up % 2 ^ 8) % 2 ^ 8 = b.toNat + up := by omega
  rw [this]; simp
/-- Texts of one of each. -/
def stepU (f g : List (List UInt8)) : List (List UInt8) := f ++ g ++ f.flatMap (fun x => g.map (fun y => x ++ y))
theorem ints_append (x y : List UInt8) : ints (x ++ y) = ints x ++ ints y := by simp [ints]
theorem stepU_ints (f g : List (List UInt8)) : (stepU f g).map ints = stepI (f.map ints) (g.map ints) := by
  unfold stepU stepI
  rw [List.map_append, List.map_append]
  congr 1
  induction f with
  | nil => rfl
  | cons x f ih =>
    simp only [List.flatMap_cons, List.map_append, List.map_cons, List.map_map] at ih ⊢
    rw [ih]
    congr 1
    refine List.map_congr_left (fun y _ => ?_)
    simp [Function.comp, ints_append]

end Go.Proofs.YtkmecdgnoemimaaDoor

namespace Go.Proofs.YtkmecdgnoemimaaDoor
open Go.RowKit Go.Shelf Go.Sort Go.Maps

/-- Nothing is said of what lies from B on. -/
def Heedless {α : Type} (B : Nat) (J : α → World → Prop) : Prop := ∀ s A C, J s A → Below B A C → J s C

/-- An iterator of texts that may write what it has laid itself. -/
def SeqB (P : Program) (gf : Nat) (lb : Array Value) (xs : List Fc) (w : World) : Prop :=
  ∀ (l : Nat) (J Jx : List Fc → World → Prop) (W : World), Below w.heap.size w W → Heedless W.heap.size J → Heedless W.heap.size Jx →
    (∀ pre x W1, J pre W1 → pre.length < xs.length → YieldAt Fence.wide 8 P l #[encStr x.1] W1 fun e W' =>
      (e = .returned (.bool true) ∧ J (pre ++ [x]) W' ∧ BelowC w.heap.size W1 W') ∨ (e = .returned (.bool false) ∧ Jx (pre ++ [x]) W')) →
    J [] W →
    CallsIn Fence.wide 9 P gf (#[.func (.yield l) #[] #[]] ++ lb) W fun e W' => (∃ v, e = .returned v) ∧ (J xs W' ∨ ∃ pre, pre <+: xs ∧ Jx pre W')

/-- How a round may end: it goes on, or the function returns. -/
def roundB (B n : Nat) (I Ix : List Fc → World → Prop) (ys : List Fc) (W : World) : Exit → Act → World → Prop
  | .normal, _, W' => KeepsFrom B W W' ∧ BelowC n W W' ∧ I ys W'
  | .ret, _, W' => KeepsFrom B W W' ∧ Ix ys W'
  | .exit _, _, _ => False
  | .goto _, _, _ => False
  | .panic _, _, _ => False
  | .outgrown, _, _ => False

theorem below_put {B r : Nat} {W : World} {o o' : Obj} (h : W.heap[r]? = some o) (hr : B ≤ r) : Below B W (W.putObj r o') :=
  (Below.refl B W).grown (grownBy_putObj' W r o') (by have := (Array.getElem?_eq_some_iff.1 h).1; omega) (fun k e => by cases e; exact hr)

theorem range_b {P : Program} {g : Operand} {ps : Array Tmp} {assign body : Code} {Q : Exit → Act → World → Prop} {a : Act} {w w0 : World} {gf : Nat} {lb : Array Value} {xs : List Fc}
    (hg : a.eval g = .func (.func gf) #[] lb) (eg : ∀ args w, (callFunc gf args).run P w = .ok (.enter gf args) w) (hseq : SeqB P gf lb xs w0) (hb0 : Below w0.heap.size w0 w) (hps : ps.size = 1)
    (I Ix : List Fc → World → Prop) (hI : Heedless w.heap.size I) (hIx : Heedless w.heap.size Ix) (h0 : I [] w) (a₁ : Fc → Act)
    (hassign : ∀ (l : Nat) (x : Fc) (W : World) (K : Act → World → Prop), K (a₁ x) W → assign.wpIn (Fence.wide.inRound l) 8 P (Exit.then K (fun _ _ _ => False)) { tmps := (ps.zip #[encStr x.1]).foldl (fun t (p, v) => t.setIfInBounds p v) a.tmps, defers := [] } W)
    (hbody : ∀ (l : Nat) (pre : List Fc) (x : Fc) (W : World), I pre W → body.wpIn (Fence.wide.inRound l) 8 P (roundB w.heap.size w0.heap.size I Ix (pre ++ [x]) W) (a₁ x) W)
    (hdone : ∀ W : World, I xs W → W.heap[w.heap.size]? = some (.deferred (some [])) → Q .normal { a with defers := { target := .collected w.heap.size, args := #[] } :: a.defers } W)
    (hstop : ∀ (pre : List Fc) (W : World), pre <+: xs → Ix pre W → W.heap[w.heap.size]? = some (.deferred (some [])) → Code.ret.wpIn Fence.wide 10 P Q { a with defers := { target := .collected w.heap.size, args := #[] } :: a.defers } W) :
    (Code.rangeFunc g ps assign body).wpIn Fence.wide 10 P Q a w := by
  refine wpIn_rangeFunc fun fn hfn => ?_
  -- the loop's record in each of its states
  let R : LoopState → Option Code → Loop := fun st pe => { state := st, pending := pe, fn := fn, tmps := a.tmps, params := ps, assign := assign, body := body, defers := w.heap.size }
  let W1 : World := (w.alloc (.deferred (some []))).alloc (.loop (R .ready none))
  have hs1 : W1.heap.size = w.heap.size + 2 := by simp [W1]
  have hB1 : Below w.heap.size w W1 := ((Below.refl _ w).alloc (Nat.le_refl _) _).alloc (by simp) _
  have hL1 : W1.heap[w.heap.size + 1]? = some (.loop (R .ready none)) := by
    have := World.alloc_heap_new (w.alloc (.deferred (some []))) (.loop (R .ready none))
    rwa [World.size_alloc] at this
  have hD1 : W1.heap[w.heap.size]? = some (.deferred (some [])) := (Below.heap_alloc _ _ _ (by simp)).trans (World.alloc_heap_new w _)
  refine ⟨w.heap.size + 1, [{ target := .collected w.heap.size, args := #[] }], W1, { target := .fn (.func gf) lb, args := #[.func (.yield (w.heap.size + 1)) #[] #[]] }, W1, gf, #[.func (.yield (w.heap.size + 1)) #[] #[]] ++ lb, W1,
    run_enterLoop_outer _ _ _ _ _, by simp only [resolve, hg]; simp [go_sem], fun _ _ => trivial, by simp [invoke, go_sem, eg], fun _ => by decide, ?_⟩
  -- what the loop keeps by heart, besides the caller's own
  have stay : ∀ {A C : World} {o : Obj} {k : Nat}, k < w.heap.size + 2 → Below W1.heap.size A C → A.heap[k]? = some o → C.heap[k]? = some o := fun hk h ho => (h.block _ (by omega)).trans ho
  refine (hseq (w.heap.size + 1)
    (fun pre W => I pre W ∧ W.heap[w.heap.size + 1]? = some (.loop (R .ready none)) ∧ W.heap[w.heap.size]? = some (.deferred (some [])))
    (fun pre W => Ix pre W ∧ W.heap[w.heap.size + 1]? = some (.loop (R .done (some .ret))) ∧ W.heap[w.heap.size]? = some (.deferred (some [])))
    W1 (hb0.trans (hB1.mono hb0.size))
    (fun s A C h hB => ⟨hI s A C h.1 (hB.mono (by omega)), stay (by omega) hB h.2.1, stay (by omega) hB h.2.2⟩)
    (fun s A C h hB => ⟨hIx s A C h.1 (hB.mono (by omega)), stay (by omega) hB h.2.1, stay (by omega) hB h.2.2⟩)
    ?round ⟨hI _ _ _ h0 hB1, hL1, hD1⟩).mono ?behind
  case behind =>
    rintro e W2 ⟨⟨v, rfl⟩, ⟨hi, hl, hd⟩ | ⟨pre, hpre, hi, hl, hd⟩⟩
    · exact ⟨none, _, run_endLoop hl (by simp [R]), hdone _ (hI _ _ _ hi (below_put hl (by omega))) ((World.putObj_heap_other (by omega)).trans hd)⟩
    · exact ⟨some .ret, _, run_endLoop hl (by simp [R]), hstop pre _ hpre (hIx _ _ _ hi (below_put hl (by omega))) ((World.putObj_heap_other (by omega)).trans hd)⟩
  case round =>
    rintro pre x W ⟨hi, hl, hd⟩ -
    have hlt := (Array.getElem?_eq_some_iff.1 hl).1
    refine ⟨fn, _, assign, body, run_yield hl (by simp [R, hps]), roundIn_of_wpIn hfn (hassign _ x W _ ⟨_, run_beginRound hl rfl, ?_⟩)⟩
    have hb := below_put (B := w.heap.size) (o' := .loop { R .ready none with state := .busy }) hl (by omega)
    have hl2 : (W.putObj (w.heap.size + 1) (.loop { R .ready none with state := .busy })).heap[w.heap.size + 1]? = some (.loop { R .ready none with state := .busy }) := World.putObj_heap_same hlt
    have hd2 : (W.putObj (w.heap.size + 1) (.loop { R .ready none with state := .busy })).heap[w.heap.size]? = some (.deferred (some [])) := (World.putObj_heap_other (by omega)).trans hd
    have hc : BelowC w0.heap.size W (W.putObj (w.heap.size + 1) (.loop { R .ready none with state := .busy })) := belowC_b (w := w) hb0.size _ _ _ _ (by omega) hl rfl rfl
    refine wpIn_mono (hbody _ pre x _ (hI _ _ _ hi hb)) ?_
    rintro e b3 W3 h3
    cases e with
    | normal =>
      obtain ⟨hk, hc3, hi3⟩ := h3
      have hl3 := hk.same _ _ (by omega) hl2 rfl
      exact ⟨_, _, run_endRound none hl3, .inl ⟨rfl, ⟨hI _ _ _ hi3 (below_put hl3 (by omega)), World.putObj_heap_same (Array.getElem?_eq_some_iff.1 hl3).1, (World.putObj_heap_other (by omega)).trans (hk.same _ _ (Nat.le_refl _) hd2 rfl)⟩,
        belowC_t (belowC_t hc hc3) (belowC_b (w := w) hb0.size _ _ _ _ (by omega) hl3 rfl rfl)⟩⟩
    | ret =>
      obtain ⟨hk, hi3⟩ := h3
      have hl3 := hk.same _ _ (by omega) hl2 rfl
      exact ⟨_, _, run_endRound (some .ret) hl3, .inr ⟨rfl, hIx _ _ _ hi3 (below_put hl3 (by omega)), World.putObj_heap_same (Array.getElem?_eq_some_iff.1 hl3).1, (World.putObj_heap_other (by omega)).trans (hk.same _ _ (Nat.le_refl _) hd2 rfl)⟩⟩
    | exit id => exact h3.elim
    | goto t => exact h3.elim
    | panic c => exact h3.elim
    | outgrown => exact h3.elim

end Go.Proofs.YtkmecdgnoemimaaDoor

namespace Go.Proofs.YtkmecdgnoemimaaDoor
open Go.RowKit Go.Shelf Go.Sort Go.Maps Go.Deep

attribute [local go_sem] Oper.semAt_some

set_option maxRecDepth 100000 in
theorem values_none (F : Fence) (n : Nat) (hF : F.fn 63) (hro : F.round = none) (l Bs cap : Nat) (a : Option Addr) (J Jx : List Fc → World → Prop)
    (W : World) (hBs : W.cell? ⟨Bs, 0, none⟩ = some (.slice a 0 cap)) (h0 : J [] W) :
    CallsIn F n Tryd.prog 63 #[.func (.yield l) #[] #[], .pointer (some ⟨Bs, 0, none⟩)] W fun e W' => (∃ v, e = .returned v) ∧
      ((∃ ys, ys = ([] : List Fc) ∧ J ys W') ∨ (∃ pre, pre <+: ([] : List Fc) ∧ Jx pre W')) := by
  refine callsIn_of_wp Tryd.func63 rfl hF ?_ hro
  simp only [Tryd.ntmps63, List.size_toArray, List.length_cons, List.length_nil, Nat.reduceAdd, Nat.reduceSub, Array.replicate_succ, Array.replicate_zero, List.push_toArray, List.append_toArray, List.nil_append, List.cons_append]
  gi_wp2
  gi_loopw [7] (fun i wr => i = .int .i64 0 ∧ wr = W) (fun _ _ => 0)
  case atStart => exact ⟨rfl, rfl⟩
  case round =>
    obtain ⟨rfl, rfl⟩ := hrel
    gi_wp2
    go_end0
    exact ⟨⟨_, rfl⟩, .inl ⟨_, rfl, h0⟩⟩

/-- slices.Values of a slice of texts, wherever it lies. -/
theorem values_any (W : World) (a : Option Addr) (n cap : Nat) (xs : List Fc) (hn : xs.length = n) (hz : xs.length ≤ 100000) (hs : Strs W (.slice a n cap) (xs.map Subtype.val)) :
    SeqStopsK Fence.wide 9 Tryd.prog 63 #[.pointer (some ⟨W.heap.size, 0, none⟩)] (fun x : Fc => #[encStr x.1]) (Below (W.alloc (.cells #[.slice a n cap] 52)).heap.size) (fun ys => ys = xs) (fun pre => pre <+: xs) xs.length (W.alloc (.cells #[.slice a n cap] 52)) := by
  intro l J Jx W2 hW _ _ hY h0
  have hbn := box_new W (.slice a n cap) 52
  have hb2 := (hW.cell (p := ⟨W.heap.size, 0, none⟩) (by simp)).trans hbn.1
  subst hn
  cases xs with
  | nil => exact values_none Fence.wide 9 trivial rfl l W.heap.size cap a J Jx W2 hb2 h0
  | cons x0 xs =>
    obtain ⟨a', cap', e, -, hx⟩ := hs.open_
    obtain ⟨rfl, rfl⟩ : a = a' ∧ cap = cap' := by simpa using e
    obtain ⟨b, off, rfl, -, hbl, hc⟩ := hx (by simp)
    refine values_rounds Fence.wide 9 trivial rfl (by decide) l W.heap.size _ b off cap (x0 :: xs) hz (by simp; omega) J Jx hY W2 hb2 (fun j hj => ?_) h0
    rw [hW.cell (p := ⟨b, off + j, none⟩) (by simp; omega)]
    have h1 := hc j (by simpa using hj)
    rw [List.getElem?_map, List.getElem?_eq_getElem hj, Option.map_some, Option.getD_some] at h1
    exact cell_kept h1 (World.grownBy_alloc W _ none) (fun r e => by cases e)

theorem seq_later {gf : Nat} {lb : Array Value} {xs : List Fc} {w w' : World} (h : SeqStopsK Fence.wide 9 Tryd.prog gf lb (fun x : Fc => #[encStr x.1]) (BelowC w.heap.size) (fun ys => ys = xs) (fun pre => pre <+: xs) xs.length w) (hB : Below w.heap.size w w') :
    SeqStopsK Fence.wide 9 Tryd.prog gf lb (fun x : Fc => #[encStr x.1]) (BelowC w'.heap.size) (fun ys => ys = xs) (fun pre => pre <+: xs) xs.length w' := by
  intro l J Jx W hW hJ hJx hY h0
  refine h l J Jx W (hB.trans (hW.mono hB.size)) hJ hJx (fun pre x W1 hj hp => ?_) h0
  obtain ⟨fn, tmps, assign, body, hy, hR⟩ := hY pre x W1 hj hp
  refine ⟨fn, tmps, assign, body, hy, hR.mono ?_⟩
  rintro e W' (⟨rfl, h1, h2⟩ | ⟨rfl, h1⟩)
  · exact .inl ⟨rfl, h1, h2.1.mono hB.size, h2.2⟩
  · exact .inr ⟨rfl, h1⟩

/-- What built answers. -/
def BuiltSays (a : Nat → Addr) (ts : List (List UInt8)) (w : World) (e : Ending) (w' : World) : Prop :=
  Below w.heap.size w w' ∧ ((Over ts ∧ e = .returned (.tuple #[.agg #[.slice none 0 0], .iface 165 (.pointer (some (a 1)))])) ∨
    (¬ Over ts ∧ ∃ v ss, e = .returned (.tuple #[.agg #[v], .nilIface]) ∧ OwnRows w.heap.size w' v ((srtS ss).map ints) ∧ ss.Nodup ∧ ∀ x, x ∈ ss ↔ FaceOf ts x ∧ ¬ InnerOf ts x))

set_option maxRecDepth 100000 in
set_option maxHeartbeats 1000000 in
theorem builtC_ {a : Nat → Addr} {s : Nat → ByteArray} (gf : Nat) (lb : Array Value) (xs : List Fc) (w : World) (hE : Errs a s w)
    (hent : ∀ args w, (callFunc gf args).run Tryd.prog w = .ok (.enter gf args) w)
    (hseq : SeqStopsK Fence.wide 9 Tryd.prog gf lb (fun x : Fc => #[encStr x.1]) (BelowC w.heap.size) (fun ys => ys = xs) (fun pre => pre <+: xs) xs.length w) :
    Calls Tryd.prog 27 #[.func (.func gf) #[] lb] w fun e w' => BuiltSays a (xs.map Subtype.val) w e w' := by
  have hBa : Below w.heap.size w (w.alloc (.cells #[.slice none 0 0] 27)) := (Below.refl _ w).alloc (Nat.le_refl _) _
  have hgat := heapC_ gf lb xs (w.alloc (.cells #[.slice none 0 0] 27)) (hE.below hBa) hent (seq_later hseq hBa)
  have hbox := box_new w (.slice none 0 0) 27
  obtain ⟨ts, hts⟩ : ∃ ts, xs.map Subtype.val = ts := ⟨_, rfl⟩
  rw [hts] at hgat ⊢
  clear hseq hent hts
  go_enter Tryd.func27, Tryd.ntmps27
  go_wp2_with fail
  refine hgat.mono ?_
  clear hgat
  rintro e w2 ⟨hB2, ⟨b, F, G, rfl, hP, hH⟩ | ⟨hov, rfl⟩⟩
  · have hfew := (hH.pile 0).few
    have hsh := (hH.pile 0).short
    have htold := told_ b F G w2 hP (by omega) (fun x hx => by have := hsh x hx; omega)
    have HH : Hid (Heaped ts F G) := hH
    clear hP hH hsh hfew
    go_wp2_with fail
    refine htold.mono ?_
    clear htold
    rintro e w3 ⟨v, ss, rfl, h1, h2, h3, h4⟩
    have H1 : Hid (OwnRows w2.heap.size w3 v ((srtS ss).map ints)) := h1
    obtain ⟨a3, c3, rfl, -, -⟩ := h1.rows.open_
    have hB3 := below_after hB2 h4
    have c1 : w3.cell? ⟨w.heap.size, 0, none⟩ = some (.slice none 0 0) := (hB3.cell (p := ⟨w.heap.size, 0, none⟩) (by simp)).trans hbox.1
    have z1 : w3.frozen? ⟨w.heap.size, 0, none⟩ = false := (hB3.frozen (p := ⟨w.heap.size, 0, none⟩) (by simp)).trans hbox.2
    have c2 := World.cell?_setCell_same' w3 ⟨w.heap.size, 0, none⟩ (.slice a3 ((srtS ss).map ints).length c3) (by rw [c1]; rfl)
    rw [List.length_map] at c2
    clear h1
    go_wp2
    refine bodyPost_ret (v := .tuple #[.agg #[.slice a3 (srtS ss).length c3], .nilIface]) ?_ rfl ?_
    · simp [results, Tryd.f27, go_sem, c2]
    · have h1 := H1.out
      rw [List.length_map] at h1
      refine ⟨(below_out hB3).setCell (p := ⟨w.heap.size, 0, none⟩) (Nat.le_refl _) _, .inr ⟨HH.out.notOver, _, ss, rfl, ?_, h2, fun x => ?_⟩⟩
      · exact (h1.setCell (p := ⟨w.heap.size, 0, none⟩) (by have := hB2.size; simp at this; show w.heap.size < w2.heap.size; omega) _).lower (by have := hB2.size; simp at this; omega)
      · rw [h3, HH.out.mem, HH.out.memG]
  · have hB3 := below_after hB2 (Below.refl _ w2)
    have c1 : w2.cell? ⟨w.heap.size, 0, none⟩ = some (.slice none 0 0) := (hB3.cell (p := ⟨w.heap.size, 0, none⟩) (by simp)).trans hbox.1
    have z1 : w2.frozen? ⟨w.heap.size, 0, none⟩ = false := (hB3.frozen (p := ⟨w.heap.size, 0, none⟩) (by simp)).trans hbox.2
    have c2 := World.cell?_setCell_same' w2 ⟨w.heap.size, 0, none⟩ (.slice none 0 0) (by rw [c1]; rfl)
    have HOV : Hid (Over ts) := hov
    clear hov
    go_wp2
    refine bodyPost_ret (v := .tuple #[.agg #[.slice none 0 0], .iface 165 (.pointer (some (a 1)))]) ?_ rfl ?_
    · simp [results, Tryd.f27, go_sem, c2]
    · exact ⟨(below_out hB3).setCell (p := ⟨w.heap.size, 0, none⟩) (Nat.le_refl _) _, .inl ⟨HOV.out, rfl⟩⟩

theorem built_ {a : Nat → Addr} {s : Nat → ByteArray} (gf : Nat) (lb : Array Value) (xs : List Fc) (w : World) (hE : Errs a s w)
    (hent : ∀ args w, (callFunc gf args).run Tryd.prog w = .ok (.enter gf args) w)
    (hseq : SeqStopsK Fence.wide 9 Tryd.prog gf lb (fun x : Fc => #[encStr x.1]) (Below w.heap.size) (fun ys => ys = xs) (fun pre => pre <+: xs) xs.length w) :
    Calls Tryd.prog 27 #[.func (.func gf) #[] lb] w fun e w' => BuiltSays a (xs.map Subtype.val) w e w' := builtC_ gf lb xs w hE hent (seq_less hseq)

end Go.Proofs.YtkmecdgnoemimaaDoor
