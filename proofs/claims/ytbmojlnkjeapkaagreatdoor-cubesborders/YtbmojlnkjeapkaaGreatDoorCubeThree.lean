/- 'right, below, across := ..': three calls, three new variables, three stores, in whatever order: by what holds at each set of operations. -/
import Derived.Test.YtbmojlnkjeapkaaGreatDoorCubeEnds2
import Derived.Test.YtbmojlnkjeapkaaGreatDoorOrderInv
namespace Go.Proofs.YtbmojlnkjeapkaaGreatDoor
open Go.RowKit Go.Sort Go.Maps

def plusOp (t : Tmp) (dx dy : Int) : Op := .call { callee := .value (.func 45), args := #[.tmp t, .const (.int .i64 dx), .const (.int .i64 dy)], argTypes := #[59, 3, 3] }

theorem run_load2 {o : Oper} {t : Tmp} {a : Act} {w : World} {B : Nat} {x y : Int} (ho : o.op = .load 59 (.tmp t)) (he : a.tmps[t]? = some (.pointer (some ⟨B, 0, none⟩))) (c0 : w.cell? ⟨B, 0, none⟩ = some (.int .i64 x)) (c1 : w.cell? ⟨B, 1, none⟩ = some (.int .i64 y)) :
    (execOp a.eval o).run Tryz.prog w = .ok (.value (.agg #[.int .i64 x, .int .i64 y])) w := by
  unfold execOp
  simp [ho, he, go_sem, c0, c1]

theorem run_plus2 {o : Oper} {t : Tmp} {dx dy : Int} {a : Act} {w : World} {v : Value} (ho : o.op = plusOp t dx dy) (he : a.tmps[t]? = some v) :
    (execOp a.eval o).run Tryz.prog w = .ok (.enter 45 #[v, .int .i64 dx, .int .i64 dy]) w := by
  unfold execOp
  simp [ho, plusOp, he, go_sem, Act.eval]

theorem run_alloc2 {o : Oper} {a : Act} {w : World} (ho : o.op = .alloc 59) :
    (execOp a.eval o).run Tryz.prog w = .ok (.value (.pointer (some ⟨w.heap.size, 0, none⟩))) (w.alloc (.cells #[.int .i64 0, .int .i64 0] 59)) := by
  unfold execOp
  simp [ho, go_sem]

theorem run_store2 {o : Oper} {t s : Tmp} {a : Act} {w : World} {p : Nat} {x y : Int} {f : Nat → Value} (ho : o.op = .store 59 (.tmp t) (.tmp s)) (he : a.tmps[t]? = some (.pointer (some ⟨p, 0, none⟩))) (hv : a.tmps[s]? = some (.agg #[.int .i64 x, .int .i64 y])) (hr : w.rowIs p 59 2 f) :
    (execOp a.eval o).run Tryz.prog w = .ok .skip ((w.setCell ⟨p, 0, none⟩ (.int .i64 x)).setCell ⟨p, 1, none⟩ (.int .i64 y)) := by
  have c0 := hr.cell (i := 0) (by omega)
  have c1 := hr.cell (i := 1) (by omega)
  have f0 := hr.frozen 0
  have f1 := hr.frozen 1
  unfold execOp
  simp [ho, he, hv, go_sem, c0, c1, f0, f1]

/-- The two numbers beside a corner, by the operation that makes them. -/
def dxOf : Nat → Int
  | 1 => 1
  | 5 => 1
  | _ => 0
def dyOf : Nat → Int
  | 3 => 1
  | 5 => 1
  | _ => 0
def valAt (x y : Int) (i : Nat) : Value := .agg #[.int .i64 (x + dxOf i), .int .i64 (y + dyOf i)]
def cellAt (x y : Int) (i j : Nat) : Value := if j = 0 then .int .i64 (x + dxOf (2 * i - 11)) else .int .i64 (y + dyOf (2 * i - 11))
def ptrV (p : Nat) : Value := .pointer (some ⟨p, 0, none⟩)

/-- What holds when the listed operations have come up. -/
structure ThreeAt (a0 : Act) (X : World) (x y : Int) (L : Array Bool) (a : Act) (w : World) : Prop where
  size : L.size = 12
  asz : a.tmps.size = 88
  dfr : a.defers = a0.defers
  oth : ∀ s, s ≠ 6 → s ≠ 7 → s ≠ 8 → (s < 24 ∨ 29 < s) → a.tmps[s]? = a0.tmps[s]?
  bel : Below X.heap.size X w
  sto : ∀ i, 6 ≤ i → i < 9 → L.getD (i + 3) false = true → L.getD i false = true
  val : ∀ i, i < 6 → L.getD i false = true → a.tmps[24 + i]? = some (valAt x y i)
  ptr : ∀ i, 6 ≤ i → i < 9 → L.getD i false = true → ∃ p, a.tmps[i]? = some (ptrV p) ∧ X.heap.size ≤ p ∧ w.rowIs p 59 2 (fun j => if L.getD (i + 3) false = true then cellAt x y i j else .int .i64 0)
  dis : ∀ i j, 6 ≤ i → i < 9 → 6 ≤ j → j < 9 → i ≠ j → L.getD i false = true → L.getD j false = true → a.tmps[i]? ≠ a.tmps[j]?

theorem getD_set {L : Array Bool} {i : Nat} (hi : i < L.size) (j : Nat) (d : Bool) : (L.setIfInBounds i true).getD j d = if j = i then true else L.getD j d := by
  by_cases e : j = i
  · subst e; simp [Array.getD, hi]
  · rw [if_neg e]
    rw [Array.getD_eq_getD_getElem?, Array.getD_eq_getD_getElem?, Array.getElem?_setIfInBounds, if_neg (Ne.symm e)]

theorem put_slot {a : Act} {d s : Nat} {v : Value} (hd : d < a.tmps.size) : (a.put (some d) v).tmps[s]? = if s = d then some v else a.tmps[s]? := by
  unfold Act.put
  by_cases e : s = d
  · subst e; simp [hd]
  · rw [if_neg e]
    simp [Ne.symm e]

theorem unl {L : Array Bool} {i : Nat} (h : L.getD i true = false) : L.getD i false = false := by
  unfold Array.getD at h ⊢
  split at h
  · rename_i hi; rw [dif_pos hi]; exact h
  · cases h

theorem ThreeAt.value {a0 : Act} {X : World} {x y : Int} {L : Array Bool} {a : Act} {w w' : World} (h : ThreeAt a0 X x y L a w) {i : Nat} (hi : i < 6) (hB : Below w.heap.size w w') : ThreeAt a0 X x y (L.setIfInBounds i true) (a.put (some (24 + i)) (valAt x y i)) w' := by
  have hl : i < L.size := by rw [h.size]; omega
  have hd : 24 + i < a.tmps.size := by rw [h.asz]; omega
  refine ⟨by simp [h.size], by simp [Act.put, h.asz], h.dfr, fun s h6 h7 h8 h9 => ?_, h.bel.trans (hB.mono h.bel.size), fun j h6 h9 hj => ?_, fun j hj hlj => ?_, fun j h6 h9 hlj => ?_, fun j k j6 j9 k6 k9 hne hj hk => ?_⟩
  · rw [put_slot hd, if_neg (by omega)]; exact h.oth s h6 h7 h8 h9
  · rw [getD_set hl, if_neg (by omega)] at hj ⊢; exact h.sto j h6 h9 hj
  · rw [put_slot hd]
    by_cases e : j = i
    · subst e; rw [if_pos rfl]
    · rw [if_neg (by omega)]
      rw [getD_set hl, if_neg e] at hlj
      exact h.val j hj hlj
  · rw [getD_set hl, if_neg (by omega)] at hlj
    obtain ⟨p, h1, h2, h3⟩ := h.ptr j h6 h9 hlj
    refine ⟨p, by rw [put_slot hd, if_neg (by omega)]; exact h1, h2, ?_⟩
    rw [getD_set hl, if_neg (by omega)]
    exact h3.of_block (hB.block p h3.lt)
  · rw [getD_set hl, if_neg (by omega)] at hj hk
    rw [put_slot hd, put_slot hd, if_neg (by omega), if_neg (by omega)]
    exact h.dis j k j6 j9 k6 k9 hne hj hk

theorem ThreeAt.alloc {a0 : Act} {X : World} {x y : Int} {L : Array Bool} {a : Act} {w : World} (h : ThreeAt a0 X x y L a w) {i : Nat} (h6 : 6 ≤ i) (h9 : i < 9) (hun : L.getD i true = false) : ThreeAt a0 X x y (L.setIfInBounds i true) (a.put (some i) (ptrV w.heap.size)) (w.alloc (.cells #[.int .i64 0, .int .i64 0] 59)) := by
  have hl : i < L.size := by rw [h.size]; omega
  have hd : i < a.tmps.size := by rw [h.asz]; omega
  have hst : L.getD (i + 3) false ≠ true := fun e => by have := h.sto i h6 h9 e; rw [unl hun] at this; cases this
  have hB : Below w.heap.size w (w.alloc (.cells #[.int .i64 0, .int .i64 0] 59)) := (Below.refl _ w).alloc (Nat.le_refl _) _
  refine ⟨by simp [h.size], by simp [Act.put, h.asz], h.dfr, fun s s6 s7 s8 s9 => ?_, h.bel.trans (hB.mono h.bel.size), fun j j6 j9 hj => ?_, fun j hj hlj => ?_, fun j j6 j9 hlj => ?_, fun j k j6 j9 k6 k9 hne hj hk => ?_⟩
  · rw [put_slot hd, if_neg (by omega)]; exact h.oth s s6 s7 s8 s9
  · rw [getD_set hl, if_neg (by omega)] at hj
    rw [getD_set hl]
    split
    · rfl
    · exact h.sto j j6 j9 hj
  · rw [put_slot hd, if_neg (by omega)]
    rw [getD_set hl, if_neg (by omega)] at hlj
    exact h.val j hj hlj
  · rw [getD_set hl, if_neg (by omega)]
    by_cases e : j = i
    · subst e
      refine ⟨w.heap.size, by rw [put_slot hd, if_pos rfl], h.bel.size, ?_⟩
      refine World.rowIs_alloc w #[.int .i64 0, .int .i64 0] 59 _ (fun q hq => ?_)
      rw [if_neg hst]
      have : q = 0 ∨ q = 1 := by simp at hq; omega
      rcases this with rfl | rfl <;> rfl
    · rw [getD_set hl, if_neg e] at hlj
      obtain ⟨p, h1, h2, h3⟩ := h.ptr j j6 j9 hlj
      exact ⟨p, by rw [put_slot hd, if_neg e]; exact h1, h2, h3.alloc _⟩
  · have key : ∀ k, 6 ≤ k → k < 9 → k ≠ i → L.getD k false = true → a.tmps[k]? ≠ some (ptrV w.heap.size) := fun k k6 k9 hki hk e => by
      obtain ⟨p, h1, _, h3⟩ := h.ptr k k6 k9 hk
      rw [h1] at e
      have hp := h3.lt
      simp [ptrV] at e
      first | done | omega
    rw [getD_set hl] at hj hk
    rw [put_slot hd, put_slot hd]
    by_cases ej : j = i
    · have ek : k ≠ i := fun e => hne (by omega)
      rw [if_neg ek] at hk
      rw [if_pos ej, if_neg ek]
      exact fun e => key k k6 k9 ek hk e.symm
    · rw [if_neg ej] at hj
      rw [if_neg ej]
      by_cases ek : k = i
      · rw [if_pos ek]; exact key j j6 j9 ej hj
      · rw [if_neg ek] at hk
        rw [if_neg ek]
        exact h.dis j k j6 j9 k6 k9 hne hj hk

theorem ThreeAt.store {a0 : Act} {X : World} {x y : Int} {L : Array Bool} {a : Act} {w : World} (h : ThreeAt a0 X x y L a w) {i p : Nat} (h6 : 6 ≤ i) (h9 : i < 9) (hli : L.getD i false = true) (hp : a.tmps[i]? = some (ptrV p)) :
    ThreeAt a0 X x y (L.setIfInBounds (i + 3) true) (a.put none undef) ((w.setCell ⟨p, 0, none⟩ (cellAt x y i 0)).setCell ⟨p, 1, none⟩ (cellAt x y i 1)) := by
  have hl : i + 3 < L.size := by rw [h.size]; omega
  obtain ⟨p', h1, h2, h3⟩ := h.ptr i h6 h9 hli
  have hpp : p' = p := by rw [h1] at hp; simpa [ptrV] using hp
  subst hpp
  refine ⟨by simp [h.size], h.asz, h.dfr, h.oth, (h.bel.setCell (p := ⟨p', 0, none⟩) h2 _).setCell (p := ⟨p', 1, none⟩) h2 _, fun j j6 j9 hj => ?_, fun j hj hlj => ?_, fun j j6 j9 hlj => ?_, fun j k j6 j9 k6 k9 hne hj hk => ?_⟩
  · rw [getD_set hl, if_neg (by omega)]
    rw [getD_set hl] at hj
    by_cases e : j + 3 = i + 3
    · obtain rfl : j = i := by omega
      exact hli
    · rw [if_neg e] at hj; exact h.sto j j6 j9 hj
  · rw [getD_set hl, if_neg (by omega)] at hlj
    exact h.val j hj hlj
  · rw [getD_set hl, if_neg (by omega)] at hlj
    rw [getD_set hl]
    by_cases e : j = i
    · subst e
      refine ⟨p', h1, h2, ?_⟩
      refine ((h3.set 0 (cellAt x y j 0)).set 1 (cellAt x y j 1)).congr (fun q hq => ?_)
      have : q = 0 ∨ q = 1 := by omega
      rcases this with rfl | rfl <;> simp
    · rw [if_neg (by omega)]
      obtain ⟨q, g1, g2, g3⟩ := h.ptr j j6 j9 hlj
      have hqp : q ≠ p' := fun e' => by
        have := h.dis j i j6 j9 h6 h9 e hlj hli
        rw [g1, h1, e'] at this
        exact this rfl
      exact ⟨q, g1, g2, (g3.setOther hqp _).setOther hqp _⟩
  · rw [getD_set hl, if_neg (by omega)] at hj hk
    exact h.dis j k j6 j9 k6 k9 hne hj hk

theorem op_at {ops : Array Oper} {T : List (Op × Option Tmp × Option (Nat × Bool))} (hsh : ops.toList.map (fun o => (o.op, o.dst, o.guard)) = T) {i : Nat} {t : Op × Option Tmp × Option (Nat × Bool)} (h : T[i]? = some t) : ∃ o, ops[i]? = some o ∧ o.op = t.1 ∧ o.dst = t.2.1 ∧ o.guard = t.2.2 := by
  rw [← hsh, List.getElem?_map] at h
  obtain ⟨o, h1, h2⟩ := Option.map_eq_some_iff.1 h
  exact ⟨o, by simpa using h1, by rw [← h2], by rw [← h2], by rw [← h2]⟩

def bitOf (b : Bool) : Nat := if b = true then 0 else 1
def leftOf12 (L : Array Bool) : Nat := bitOf (L.getD 0 true) + bitOf (L.getD 1 true) + bitOf (L.getD 2 true) + bitOf (L.getD 3 true) + bitOf (L.getD 4 true) + bitOf (L.getD 5 true) + bitOf (L.getD 6 true) + bitOf (L.getD 7 true) + bitOf (L.getD 8 true) + bitOf (L.getD 9 true) + bitOf (L.getD 10 true) + bitOf (L.getD 11 true)
theorem left_lt {L : Array Bool} (hs : L.size = 12) {i : Nat} (hi : i < 12) (h : L.getD i true = false) : leftOf12 (L.setIfInBounds i true) < leftOf12 L := by
  have hl : i < L.size := by omega
  have e1 : bitOf true = 0 := rfl
  have e2 : bitOf false = 1 := rfl
  unfold leftOf12
  simp only [getD_set hl]
  have hc : i = 0 ∨ i = 1 ∨ i = 2 ∨ i = 3 ∨ i = 4 ∨ i = 5 ∨ i = 6 ∨ i = 7 ∨ i = 8 ∨ i = 9 ∨ i = 10 ∨ i = 11 := by omega
  rcases hc with rfl | rfl | rfl | rfl | rfl | rfl | rfl | rfl | rfl | rfl | rfl | rfl <;> simp [h, e1, e2] <;> omega

/-- Which operation waits for which, as far as it is used. -/
def threeEdges : List (Nat × Nat) := [(1, 0), (3, 2), (5, 4), (9, 6), (9, 1), (10, 7), (10, 3), (11, 8), (11, 5)]

set_option maxHeartbeats 4000000 in
/-- Three corners beside one, each in a variable of its own. -/
theorem three_region {ops : Array Oper} {id : Nat} {Q : Exit → Act → World → Prop} {a0 : Act} {X : World} {B : Nat} {x y : Int}
    (hsh : ops.toList.map (fun o => (o.op, o.dst, o.guard)) = [(.load 59 (.tmp 5), some 24, none), (plusOp 24 1 0, some 25, none), (.load 59 (.tmp 5), some 26, none), (plusOp 26 0 1, some 27, none), (.load 59 (.tmp 5), some 28, none), (plusOp 28 1 1, some 29, none),
      (.alloc 59, some 6, none), (.alloc 59, some 7, none), (.alloc 59, some 8, none), (.store 59 (.tmp 6) (.tmp 25), none, none), (.store 59 (.tmp 7) (.tmp 27), none, none), (.store 59 (.tmp 8) (.tmp 29), none, none)])
    (hed : threeEdges.all (fun p => ((ops[p.1]?).map (fun o => o.after.any (fun e => e.on == p.2 && Region.binds .any e))).getD false) = true)
    (hbk : (List.range ops.size).all (fun i => ((ops[i]?).map (fun o => o.after.all (fun e => decide (e.on < i)))).getD true) = true)
    (h5 : a0.tmps[5]? = some (.pointer (some ⟨B, 0, none⟩))) (hsz : a0.tmps.size = 88) (hB : B < X.heap.size) (c0 : X.cell? ⟨B, 0, none⟩ = some (.int .i64 x)) (c1 : X.cell? ⟨B, 1, none⟩ = some (.int .i64 y)) (hx : -1000 ≤ x ∧ x ≤ 1000) (hy : -1000 ≤ y ∧ y ≤ 1000)
    (h : ∀ p6 p7 p8 w', Below X.heap.size X w' → X.heap.size ≤ p6 → X.heap.size ≤ p7 → X.heap.size ≤ p8 → w'.cell? ⟨p6, 0, none⟩ = some (.int .i64 (x + 1)) → w'.cell? ⟨p6, 1, none⟩ = some (.int .i64 y) → w'.cell? ⟨p7, 0, none⟩ = some (.int .i64 x) → w'.cell? ⟨p7, 1, none⟩ = some (.int .i64 (y + 1)) → w'.cell? ⟨p8, 0, none⟩ = some (.int .i64 (x + 1)) → w'.cell? ⟨p8, 1, none⟩ = some (.int .i64 (y + 1)) →
      Q .normal (((((((((a0.put (some 24) (cornerV (x, y))).put (some 25) (cornerV (x + 1, y))).put (some 26) (cornerV (x, y))).put (some 27) (cornerV (x, y + 1))).put (some 28) (cornerV (x, y))).put (some 29) (cornerV (x + 1, y + 1))).put (some 6) (.pointer (some ⟨p6, 0, none⟩))).put (some 7) (.pointer (some ⟨p7, 0, none⟩))).put (some 8) (.pointer (some ⟨p8, 0, none⟩))) w') :
    (Code.region id ops true).wp Tryz.prog Q a0 X := by
  have hops : ops.size = 12 := by have := congrArg List.length hsh; simpa using this
  have hE : ∀ p ∈ threeEdges, ∀ L, p.1 ∈ Region.ready .any ops L → L.getD p.2 false = true := fun p hp L hr => by
    have h1 := List.all_eq_true.1 hed p hp
    obtain ⟨h2, _, h4⟩ := ready_spec hr
    rw [Array.getElem?_eq_getElem h2] at h1
    simp only [Option.map_some, Option.getD_some] at h1
    obtain ⟨e, he, h5⟩ := Array.any_eq_true'.1 h1
    rw [Bool.and_eq_true] at h5
    have := h4 _ (Array.getElem?_eq_getElem h2) e he h5.2
    rwa [eq_of_beq h5.1] at this
  have hBk : ∀ (i : Nat) (o : Oper), ops[i]? = some o → ∀ e ∈ o.after, e.on < i := fun i o ho e he => by
    have hi : i < ops.size := (Array.getElem?_eq_some_iff.1 ho).1
    have h1 := List.all_eq_true.1 hbk i (List.mem_range.2 hi)
    rw [ho] at h1
    simp only [Option.map_some, Option.getD_some] at h1
    simpa using (Array.all_eq_true_iff_forall_mem.1 h1) e he
  have hpl : ∀ i, i < 6 → ∀ V : World, Calls Tryz.prog 45 #[valAt x y 0, .int .i64 (dxOf i), .int .i64 (dyOf i)] V fun e w' => e = .returned (valAt x y i) ∧ Below V.heap.size V w' := fun i hi V => by
    have hd : (-1 ≤ dxOf i ∧ dxOf i ≤ 1) ∧ (-1 ≤ dyOf i ∧ dyOf i ≤ 1) := by
      have hc : i = 0 ∨ i = 1 ∨ i = 2 ∨ i = 3 ∨ i = 4 ∨ i = 5 := by omega
      rcases hc with rfl | rfl | rfl | rfl | rfl | rfl <;> decide
    have := plus_ x y (dxOf i) (dyOf i) (by omega) (by omega) hd.1 hd.2 V
    have e0 : valAt x y 0 = cornerV (x, y) := by simp [valAt, cornerV, dxOf, dyOf]
    rw [e0]
    exact this
  refine region_inv (by kernel_rfl) (ThreeAt a0 X x y) leftOf12 ?_ (by rw [hops]; decide) ?_ ?_
  · rw [hops]
    have hf : ∀ i, (Array.replicate 12 false).getD i false = false := fun i => by
      unfold Array.getD
      split
      · simp
      · rfl
    exact ⟨by simp, hsz, rfl, fun _ _ _ _ _ => rfl, (Below.refl _ X).drew, fun i _ _ h => by (rw [hf] at h; cases h), fun i _ h => by (rw [hf] at h; cases h), fun i _ _ h => by (rw [hf] at h; cases h), fun i j _ _ _ _ _ h => by (rw [hf] at h; cases h)⟩
  · intro L a w hI i hr
    obtain ⟨hi, hun, -⟩ := ready_spec hr
    rw [hops] at hi
    refine ⟨left_lt hI.size hi hun, ?_⟩
    have a5 : a.tmps[5]? = some (.pointer (some ⟨B, 0, none⟩)) := (hI.oth 5 (by omega) (by omega) (by omega) (by omega)).trans h5
    have w0 := (hI.bel.cell (p := ⟨B, 0, none⟩) hB).trans c0
    have w1 := (hI.bel.cell (p := ⟨B, 1, none⟩) hB).trans c1
    have ev : ∀ j, dxOf j = 0 → dyOf j = 0 → valAt x y j = .agg #[.int .i64 x, .int .i64 y] := fun j h1 h2 => by simp [valAt, h1, h2]
    have ld : ∀ j t, j < 6 → dxOf j = 0 → dyOf j = 0 → ops[j]? = some t → t.op = .load 59 (.tmp 5) → t.dst = some (24 + j) → t.guard = none → wpOp Tryz.prog ops Q j (ThreeAt a0 X x y (L.setIfInBounds j true)) a w := fun j t hj h1 h2 h3 h4 h5 h6 => by
      refine op_value h3 h6 (run_load2 h4 a5 w0 w1) ?_
      rw [h5, ← ev j h1 h2]
      exact hI.value hj (Below.refl _ w)
    have cl : ∀ j t, 1 ≤ j → j < 6 → dxOf (j - 1) = 0 → dyOf (j - 1) = 0 → (j, j - 1) ∈ threeEdges → j = i → ops[j]? = some t → t.op = plusOp (24 + (j - 1)) (dxOf j) (dyOf j) → t.dst = some (24 + j) → t.guard = none → wpOp Tryz.prog ops Q j (ThreeAt a0 X x y (L.setIfInBounds j true)) a w := fun j t hj0 hj h1 h2 hm hji h3 h4 h5 h6 => by
      have hl := hE (j, j - 1) hm L (by rw [hji]; exact hr)
      have hv := hI.val (j - 1) (by omega) hl
      rw [ev _ h1 h2, ← ev 0 rfl rfl] at hv
      refine op_call h3 h6 (run_plus2 h4 hv) _ (hpl j hj w) ?_
      rintro e w' ⟨rfl, hB'⟩
      exact ⟨_, rfl, by rw [h5]; exact hI.value hj hB'⟩
    have al : ∀ j t, 6 ≤ j → j < 9 → j = i → ops[j]? = some t → t.op = .alloc 59 → t.dst = some j → t.guard = none → wpOp Tryz.prog ops Q j (ThreeAt a0 X x y (L.setIfInBounds j true)) a w := fun j t h1 h2 hji h3 h4 h5 h6 => by
      refine op_value h3 h6 (run_alloc2 h4) ?_
      rw [h5]
      exact hI.alloc h1 h2 (by rw [hji]; exact hun)
    have st : ∀ j t, 6 ≤ j → j < 9 → j + 3 = i → (j + 3, j) ∈ threeEdges → (j + 3, 2 * j - 11) ∈ threeEdges → 2 * j - 11 < 6 → ops[j + 3]? = some t → t.op = .store 59 (.tmp j) (.tmp (24 + (2 * j - 11))) → t.dst = none → t.guard = none → wpOp Tryz.prog ops Q (j + 3) (ThreeAt a0 X x y (L.setIfInBounds (j + 3) true)) a w := fun j t h1 h2 hji hm1 hm2 h7 h3 h4 h5 h6 => by
      have hl := hE (j + 3, j) hm1 L (by rw [hji]; exact hr)
      have hl2 := hE (j + 3, 2 * j - 11) hm2 L (by rw [hji]; exact hr)
      obtain ⟨p, g1, g2, g3⟩ := hI.ptr j h1 h2 hl
      refine op_skip h3 h6 (run_store2 h4 g1 (hI.val _ h7 hl2) g3) ?_
      rw [h5]
      exact hI.store h1 h2 hl g1
    have hc : i = 0 ∨ i = 1 ∨ i = 2 ∨ i = 3 ∨ i = 4 ∨ i = 5 ∨ i = 6 ∨ i = 7 ∨ i = 8 ∨ i = 9 ∨ i = 10 ∨ i = 11 := by omega
    obtain ⟨t, t0, t1, t2, t3⟩ := op_at hsh (i := i) (t := _) (List.getElem?_eq_getElem (by simpa using hi))
    rcases hc with rfl | rfl | rfl | rfl | rfl | rfl | rfl | rfl | rfl | rfl | rfl | rfl
    · exact ld 0 t (by decide) rfl rfl t0 t1 t2 t3
    · exact cl 1 t (by decide) (by decide) rfl rfl (by decide) rfl t0 t1 t2 t3
    · exact ld 2 t (by decide) rfl rfl t0 t1 t2 t3
    · exact cl 3 t (by decide) (by decide) rfl rfl (by decide) rfl t0 t1 t2 t3
    · exact ld 4 t (by decide) rfl rfl t0 t1 t2 t3
    · exact cl 5 t (by decide) (by decide) rfl rfl (by decide) rfl t0 t1 t2 t3
    · exact al 6 t (by decide) (by decide) rfl t0 t1 t2 t3
    · exact al 7 t (by decide) (by decide) rfl t0 t1 t2 t3
    · exact al 8 t (by decide) (by decide) rfl t0 t1 t2 t3
    · exact st 6 t (by decide) (by decide) rfl (by decide) (by decide) (by decide) t0 t1 t2 t3
    · exact st 7 t (by decide) (by decide) rfl (by decide) (by decide) (by decide) t0 t1 t2 t3
    · exact st 8 t (by decide) (by decide) rfl (by decide) (by decide) (by decide) t0 t1 t2 t3
  · intro L a w hI hr
    have hl : ∀ i, i < 12 → L.getD i false = true := fun i hi => by
      have h1 := all_listed hBk (by rw [hops]; exact hI.size) hr i (by omega)
      have h2 : i < L.size := by rw [hI.size]; exact hi
      simpa [Array.getD, h2] using h1
    obtain ⟨p6, g6, b6, r6⟩ := hI.ptr 6 (by omega) (by omega) (hl 6 (by omega))
    obtain ⟨p7, g7, b7, r7⟩ := hI.ptr 7 (by omega) (by omega) (hl 7 (by omega))
    obtain ⟨p8, g8, b8, r8⟩ := hI.ptr 8 (by omega) (by omega) (hl 8 (by omega))
    simp only [hl 9 (by omega), hl 10 (by omega), hl 11 (by omega), if_true] at r6 r7 r8
    have k60 := r6.cell (i := 0) (by omega)
    have k61 := r6.cell (i := 1) (by omega)
    have k70 := r7.cell (i := 0) (by omega)
    have k71 := r7.cell (i := 1) (by omega)
    have k80 := r8.cell (i := 0) (by omega)
    have k81 := r8.cell (i := 1) (by omega)
    simp [cellAt, dxOf, dyOf] at k60 k61 k70 k71 k80 k81
    have hq := h p6 p7 p8 w hI.bel b6 b7 b8 k60 k61 k70 k71 k80 k81
    have ea : a = (((((((((a0.put (some 24) (cornerV (x, y))).put (some 25) (cornerV (x + 1, y))).put (some 26) (cornerV (x, y))).put (some 27) (cornerV (x, y + 1))).put (some 28) (cornerV (x, y))).put (some 29) (cornerV (x + 1, y + 1))).put (some 6) (.pointer (some ⟨p6, 0, none⟩))).put (some 7) (.pointer (some ⟨p7, 0, none⟩))).put (some 8) (.pointer (some ⟨p8, 0, none⟩))) := by
      have v0 := hI.val 0 (by omega) (hl 0 (by omega))
      have v1 := hI.val 1 (by omega) (hl 1 (by omega))
      have v2 := hI.val 2 (by omega) (hl 2 (by omega))
      have v3 := hI.val 3 (by omega) (hl 3 (by omega))
      have v4 := hI.val 4 (by omega) (hl 4 (by omega))
      have v5 := hI.val 5 (by omega) (hl 5 (by omega))
      simp [valAt, dxOf, dyOf] at v0 v1 v2 v3 v4 v5
      have psz : ∀ (b : Act) (d : Option Tmp) (v : Value), (b.put d v).tmps.size = b.tmps.size := fun b d v => by cases d <;> simp [Act.put]
      have ext : ∀ p q : Act, p.tmps = q.tmps → p.defers = q.defers → p = q := by
        rintro ⟨_, _⟩ ⟨_, _⟩ h1 h2
        cases h1; cases h2; rfl
      have pdf : ∀ (b : Act) (d : Option Tmp) (v : Value), (b.put d v).defers = b.defers := fun b d v => by cases d <;> rfl
      refine ext _ _ (Array.ext_getElem? fun s => ?_) (by rw [pdf, pdf, pdf, pdf, pdf, pdf, pdf, pdf, pdf]; exact hI.dfr)
      have P : ∀ (b : Act), b.tmps.size = 88 → ∀ (d : Nat), d < 88 → ∀ (v : Value), (b.put (some d) v).tmps[s]? = if s = d then some v else b.tmps[s]? := fun b h1 d h2 v => put_slot (by omega)
      have z1 : (a0.put (some 24) (cornerV (x, y))).tmps.size = 88 := (psz _ _ _).trans hsz
      have z2 := (psz _ (some 25) (cornerV (x + 1, y))).trans z1
      have z3 := (psz _ (some 26) (cornerV (x, y))).trans z2
      have z4 := (psz _ (some 27) (cornerV (x, y + 1))).trans z3
      have z5 := (psz _ (some 28) (cornerV (x, y))).trans z4
      have z6 := (psz _ (some 29) (cornerV (x + 1, y + 1))).trans z5
      have z7 := (psz _ (some 6) (.pointer (some ⟨p6, 0, none⟩))).trans z6
      have z8 := (psz _ (some 7) (.pointer (some ⟨p7, 0, none⟩))).trans z7
      rw [P _ z8 8 (by decide), P _ z7 7 (by decide), P _ z6 6 (by decide), P _ z5 29 (by decide), P _ z4 28 (by decide), P _ z3 27 (by decide), P _ z2 26 (by decide), P _ z1 25 (by decide), P _ hsz 24 (by decide)]
      clear z1 z2 z3 z4 z5 z6 z7 z8
      by_cases e8 : s = 8
      · subst e8; rw [if_pos rfl]; exact g8
      rw [if_neg e8]
      by_cases e7 : s = 7
      · subst e7; rw [if_pos rfl]; exact g7
      rw [if_neg e7]
      by_cases e6 : s = 6
      · subst e6; rw [if_pos rfl]; exact g6
      rw [if_neg e6]
      by_cases e29 : s = 29
      · subst e29; rw [if_pos rfl]; exact v5
      rw [if_neg e29]
      by_cases e28 : s = 28
      · subst e28; rw [if_pos rfl]; exact v4
      rw [if_neg e28]
      by_cases e27 : s = 27
      · subst e27; rw [if_pos rfl]; exact v3
      rw [if_neg e27]
      by_cases e26 : s = 26
      · subst e26; rw [if_pos rfl]; exact v2
      rw [if_neg e26]
      by_cases e25 : s = 25
      · subst e25; rw [if_pos rfl]; exact v1
      rw [if_neg e25]
      by_cases e24 : s = 24
      · subst e24; rw [if_pos rfl]; exact v0
      rw [if_neg e24]
      exact hI.oth s e6 e7 e8 (by omega)
    rw [ea]
    exact hq

end Go.Proofs.YtbmojlnkjeapkaaGreatDoor
