/- An error of *api.Fault in memory. The faces of a good complex, numbered. A region that draws its order, by what holds at each set of operations that have come up: each such set is looked at once, whatever the order was. A region that draws its order, whose operations read, call what lays memory of its own, and at the end store once: by what holds of each operation's slot, whatever the order. -/
import Derived.Test.YtnnkmkhamipfiaaGreatDoorBase
import Derived.Test.YtnnkmkhamipfiaaGreatDoorMorseNumber
import Derived.Orders
namespace Go.Proofs.YtnnkmkhamipfiaaGreatDoor
open Go.RowKit Go.Sort

theorem fault_cells (W : World) (x y : Value) (t : TypeId) : (W.alloc (.cells #[x, y] t)).cell? ⟨W.heap.size, 0, none⟩ = some x ∧ (W.alloc (.cells #[x, y] t)).cell? ⟨W.heap.size, 0 + 1, none⟩ = some y := by
  constructor <;> simp
/-- An error of *api.Fault: its place and the error that it holds. -/
def FaultAt (a : Nat → Addr) (w : World) (ve : Value) (i : Nat) (p : Int) : Prop :=
  ∃ q, ve = .iface 118 (.pointer (some ⟨q, 0, none⟩)) ∧ w.cell? ⟨q, 0, none⟩ = some (.int .i64 p) ∧ w.cell? ⟨q, 0 + 1, none⟩ = some (.iface 250 (.pointer (some (a i))))
theorem FaultAt.below {a : Nat → Addr} {w w' : World} {ve : Value} {i : Nat} {p : Int} (h : FaultAt a w ve i p) (hB : Below w.heap.size w w') : FaultAt a w' ve i p := by
  obtain ⟨q, h1, h2, h3⟩ := h
  exact ⟨q, h1, (hB.cell (p := ⟨q, 0, none⟩) (cell_lt h2)).trans h2, (hB.cell (p := ⟨q, 0 + 1, none⟩) (cell_lt h3)).trans h3⟩

end Go.Proofs.YtnnkmkhamipfiaaGreatDoor

namespace Go.Proofs.YtnnkmkhamipfiaaGreatDoor
open Go.RowKit Go.Sort

theorem good_faces {l all : List (List Int)} (g : Good l all) : FaceList (numL all) := faceList_of (fun t ht => by obtain ⟨y, hy, rfl⟩ := List.mem_map.1 ht; exact srt_rising (g.ok y hy).2.1) (order_nodup g.isAll.order) g.isAll

end Go.Proofs.YtnnkmkhamipfiaaGreatDoor

namespace Go.Proofs.YtnnkmkhamipfiaaGreatDoor
open Go.RowKit

section
variable {P : Program} {ops : Array Oper} {Q : Exit → Act → World → Prop}

theorem wpAny_inv {md : Region.Mode} (I : Array Bool → Act → World → Prop) (m : Array Bool → Nat) (hstep : ∀ listed a w, I listed a w → ∀ i ∈ Region.ready md ops listed, m (listed.setIfInBounds i true) < m listed ∧ wpOp P ops Q i (I (listed.setIfInBounds i true)) a w)
    (hend : ∀ listed a w, I listed a w → Region.ready md ops listed = [] → Q .normal a w) : ∀ fuel listed a w, m listed ≤ fuel → I listed a w → wpAny P md ops Q fuel listed a w
  | 0, listed, a, w, hm, h => by
    have h0 : Region.ready md ops listed = [] := by
      rcases e : Region.ready md ops listed with _ | ⟨i, l⟩
      · rfl
      · have := (hstep listed a w h i (by rw [e]; exact .head _)).1
        omega
    exact ⟨h0, hend listed a w h h0⟩
  | fuel + 1, listed, a, w, hm, h => ⟨hend listed a w h, fun i hi => by
      have h1 := hstep listed a w h i hi
      exact wpOp_mono (fun a' w' h' => wpAny_inv I m hstep hend fuel _ a' w' (by omega) h') h1.2⟩

theorem region_inv {id : Nat} {a : Act} {w : World} (hm : P.follows .mixedOrders = true) (I : Array Bool → Act → World → Prop) (m : Array Bool → Nat) (h0 : I (Array.replicate ops.size false) a w.drew) (hs : m (Array.replicate ops.size false) ≤ ops.size)
    (hstep : ∀ listed a w, I listed a w → ∀ i ∈ Region.ready .any ops listed, m (listed.setIfInBounds i true) < m listed ∧ wpOp P ops Q i (I (listed.setIfInBounds i true)) a w)
    (hend : ∀ listed a w, I listed a w → Region.ready .any ops listed = [] → Q .normal a w) : (Code.region id ops true).wp P Q a w :=
  wp_region_any hm (wpAny_inv I m hstep hend _ _ _ _ hs h0)

theorem ready_spec {md : Region.Mode} {listed : Array Bool} {i : Nat} (h : i ∈ Region.ready md ops listed) : i < ops.size ∧ listed.getD i true = false ∧ ∀ o, ops[i]? = some o → ∀ e ∈ o.after, Region.binds md e = true → listed.getD e.on false = true := by
  unfold Region.ready at h
  rw [List.mem_filter, List.mem_range] at h
  obtain ⟨h1, h2⟩ := h
  rw [Bool.and_eq_true] at h2
  refine ⟨h1, by simpa using h2.1, fun o ho e he hb => ?_⟩
  have h3 := h2.2
  rw [ho] at h3
  simp only [Option.map_some, Option.getD_some] at h3
  have h4 := (Array.all_eq_true_iff_forall_mem.1 h3) e he
  simpa [hb] using h4

/-- Where every edge points back: if none may come up, all have. -/
theorem all_listed {md : Region.Mode} {listed : Array Bool} (hB : ∀ (i : Nat) (o : Oper), ops[i]? = some o → ∀ e ∈ o.after, e.on < i) (hs : listed.size = ops.size) (h : Region.ready md ops listed = []) : ∀ i, i < ops.size → listed.getD i true = true := by
  intro i
  induction i using Nat.strongRecOn with
  | ind i ih =>
    intro hi
    cases hl : listed.getD i true with
    | true => rfl
    | false =>
      exfalso
      have hm : i ∈ Region.ready md ops listed := by
        unfold Region.ready
        rw [List.mem_filter, List.mem_range]
        refine ⟨hi, ?_⟩
        rw [hl, Array.getElem?_eq_getElem hi]
        simp only [Bool.not_false, Bool.true_and, Option.map_some, Option.getD_some]
        refine Array.all_eq_true_iff_forall_mem.2 fun e he => ?_
        have hlt := hB i _ (Array.getElem?_eq_getElem hi) e he
        have h2 := ih e.on hlt (by omega)
        have h3 : listed.getD e.on false = true := by
          have h4 : e.on < listed.size := by omega
          simpa [Array.getD, h4] using h2
        simp [h3]
      rw [h] at hm
      cases hm

/-- One operation that comes to a value. -/
theorem op_value {i : Nat} {o : Oper} {a : Act} {w w' : World} {v : Value} {K : Act → World → Prop} (ho : ops[i]? = some o) (hg : o.guard = none) (hr : (execOp a.eval o).run P w = .ok (.value v) w') (h : K (a.put o.dst v) w') : wpOp P ops Q i K a w := by
  unfold wpOp
  simp only [ho]
  rw [if_pos (by simp [Region.wanted, hg])]
  exact .inl (by unfold Oper.wp; rw [hr]; exact h)

/-- .. that is carried out, and leaves no value. -/
theorem op_skip {i : Nat} {o : Oper} {a : Act} {w w' : World} {K : Act → World → Prop} (ho : ops[i]? = some o) (hg : o.guard = none) (hr : (execOp a.eval o).run P w = .ok .skip w') (h : K (a.put o.dst undef) w') : wpOp P ops Q i K a w := by
  unfold wpOp
  simp only [ho]
  rw [if_pos (by simp [Region.wanted, hg])]
  exact .inl (by unfold Oper.wp; rw [hr]; exact h)

/-- .. that calls. -/
theorem op_call {i : Nat} {o : Oper} {a : Act} {w w' : World} {f : FuncId} {args : Array Value} {K : Act → World → Prop} (ho : ops[i]? = some o) (hg : o.guard = none) (hr : (execOp a.eval o).run P w = .ok (.enter f args) w') (R : Ending → World → Prop) (hc : Calls P f args w' R) (h : ∀ e w'', R e w'' → ∃ v, e = .returned v ∧ K (a.put o.dst v) w'') : wpOp P ops Q i K a w := by
  unfold wpOp
  simp only [ho]
  rw [if_pos (by simp [Region.wanted, hg])]
  refine .inl ?_
  unfold Oper.wp
  rw [hr]
  refine Calls.mono hc fun e w'' he => ?_
  obtain ⟨v, rfl, hk⟩ := h e w'' he
  exact hk

end

end Go.Proofs.YtnnkmkhamipfiaaGreatDoor

namespace Go.Proofs.YtnnkmkhamipfiaaGreatDoor
open Go.RowKit

theorem getD_put {L : Array Bool} {i : Nat} (hi : i < L.size) (j : Nat) (d : Bool) : (L.setIfInBounds i true).getD j d = if j = i then true else L.getD j d := by
  by_cases e : j = i
  · subst e; simp [Array.getD, hi]
  · rw [if_neg e]
    rw [Array.getD_eq_getD_getElem?, Array.getD_eq_getD_getElem?, Array.getElem?_setIfInBounds, if_neg (Ne.symm e)]
theorem put_at {a : Act} {d s : Nat} {v : Value} (hd : d < a.tmps.size) : (a.put (some d) v).tmps[s]? = if s = d then some v else a.tmps[s]? := by
  unfold Act.put
  by_cases e : s = d
  · subst e; simp [hd]
  · rw [if_neg e]
    simp [Ne.symm e]

/-- What an operation waits for. -/
def edgesOf (ops : Array Oper) (i : Nat) : List Nat := match ops[i]? with
  | none => []
  | some o => (o.after.toList.filter fun e => Region.binds .any e).map (·.on)
/-- What a list of operations waits for, so many steps back. -/
def backTo (ops : Array Oper) : Nat → List Nat → List Nat
  | 0, S => S
  | k + 1, S => backTo ops k (S ++ S.flatMap (edgesOf ops))
/-- What has come up is closed. -/
def Down (ops : Array Oper) (L : Array Bool) : Prop := ∀ i, L.getD i false = true → ∀ j ∈ edgesOf ops i, L.getD j false = true
theorem back_listed {ops : Array Oper} {L : Array Bool} (hD : Down ops L) : ∀ (k : Nat) {S : List Nat}, (∀ i ∈ S, L.getD i false = true) → ∀ i ∈ backTo ops k S, L.getD i false = true
  | 0, S, h => h
  | k + 1, S, h => back_listed hD k fun i hi => by
    rcases List.mem_append.1 hi with hi | hi
    · exact h i hi
    · obtain ⟨j, hj, hij⟩ := List.mem_flatMap.1 hi
      exact hD j (h j hj) i hij

def backB (ops : Array Oper) : Bool := (List.range ops.size).all fun i => match ops[i]? with
  | none => true
  | some o => o.after.all fun e => decide (e.on < i)
theorem back_of {ops : Array Oper} (h : backB ops = true) (i : Nat) (o : Oper) (ho : ops[i]? = some o) : ∀ e ∈ o.after, e.on < i := fun e he => by
  have hi : i < ops.size := (Array.getElem?_eq_some_iff.1 ho).1
  have h1 := List.all_eq_true.1 h i (List.mem_range.2 hi)
  rw [ho] at h1
  exact of_decide_eq_true ((Array.all_eq_true_iff_forall_mem.1 h1) e he)

/-- What holds when the listed operations have come up. -/
structure GrowAt (ops : Array Oper) (m : Nat) (dst : Nat → Nat) (sp : Nat → World → Value → Prop) (a0 : Act) (X : World) (L : Array Bool) (a : Act) (w : World) : Prop where
  size : L.size = m + 1
  asz : a.tmps.size = a0.tmps.size
  dfr : a.defers = a0.defers
  oth : ∀ s, (∀ i, i < m → s ≠ dst i) → a.tmps[s]? = a0.tmps[s]?
  bel : Below X.heap.size X w
  val : ∀ i, i < m → L.getD i false = true → ∃ v, a.tmps[dst i]? = some v ∧ sp i w v
  down : Down ops L

/-- .. where each comes to a value. -/
structure GrowAt0 (ops : Array Oper) (m : Nat) (dst : Nat → Nat) (sp : Nat → World → Value → Prop) (a0 : Act) (X : World) (L : Array Bool) (a : Act) (w : World) : Prop where
  size : L.size = ops.size
  asz : a.tmps.size = a0.tmps.size
  dfr : a.defers = a0.defers
  oth : ∀ s, (∀ i, i < m → s ≠ dst i) → a.tmps[s]? = a0.tmps[s]?
  bel : Below X.heap.size X w
  val : ∀ i, i < m → L.getD i false = true → ∃ v, a.tmps[dst i]? = some v ∧ sp i w v

section
variable {P : Program} {ops : Array Oper} {Q : Exit → Act → World → Prop}
theorem listed_count {L : Array Bool} {i : Nat} (hi : i < L.size) (h : L.getD i true = false) : (L.setIfInBounds i true).count false < L.count false := by
  have h1 : L[i] = false := by simpa [Array.getD, hi] using h
  rw [Array.setIfInBounds, dif_pos hi, Array.count_set]
  have : 0 < L.count false := Array.count_pos_iff.2 (by rw [← h1]; exact Array.getElem_mem _)
  simp [h1]
  omega
theorem region_grow {id : Nat} {a0 : Act} {X : World} (hm : P.follows .mixedOrders = true) (m : Nat) (hn : ops.size = m + 1) (dst : Nat → Nat) (sp : Nat → World → Value → Prop)
    (hinj : ∀ i j, i < m → j < m → dst i = dst j → i = j) (hlt : ∀ i, i < m → dst i < a0.tmps.size) (hstab : ∀ i w w' v, i < m → Below w.heap.size w w' → sp i w v → sp i w' v)
    (hback : backB ops = true) (hall : ∀ i, i < m → i ∈ backTo ops m (edgesOf ops m))
    (hop : ∀ i, i < m → ∀ L a w, GrowAt ops m dst sp a0 X L a w → (∀ j ∈ edgesOf ops i, L.getD j false = true) → wpOp P ops Q i (fun a' w' => ∃ v, a' = a.put (some (dst i)) v ∧ sp i w' v ∧ Below w.heap.size w w') a w)
    (hst : ∀ L a w, GrowAt ops m dst sp a0 X L a w → (∀ j ∈ edgesOf ops m, L.getD j false = true) → wpOp P ops Q m (fun a' w' => Q .normal a' w') a w) : (Code.region id ops true).wp P Q a0 X := by
  refine region_inv hm (fun L a w => (L.getD m false = false ∧ GrowAt ops m dst sp a0 X L a w) ∨ (L.size = m + 1 ∧ (∀ i, i < m + 1 → L.getD i true = true) ∧ Q .normal a w)) (fun L => L.count false) ?_ ?_ ?_ ?_
  · left
    have h0 : ∀ i, (Array.replicate ops.size false).getD i false = false := fun i => by
      unfold Array.getD
      split <;> simp
    refine ⟨h0 m, ⟨by simp [hn], rfl, rfl, fun s _ => rfl, (Below.refl _ X).drew, fun i _ h => ?_, fun i h => ?_⟩⟩
    · rw [h0] at h; cases h
    · rw [h0] at h; cases h
  · exact Nat.le_trans Array.count_le_size (by simp)
  · intro L a w hI i hi
    obtain ⟨k1, k2, k3⟩ := ready_spec hi
    rcases hI with ⟨hL, hG⟩ | ⟨hs, hA, _⟩
    · have hiL : i < L.size := by rw [hG.size, ← hn]; exact k1
      refine ⟨listed_count hiL k2, ?_⟩
      have hed : ∀ j ∈ edgesOf ops i, L.getD j false = true := fun j hj => by
        unfold edgesOf at hj
        rw [Array.getElem?_eq_getElem k1] at hj
        simp only [List.mem_map, List.mem_filter, Array.mem_toList_iff] at hj
        obtain ⟨e, ⟨he, hb⟩, rfl⟩ := hj
        exact k3 _ (Array.getElem?_eq_getElem k1) e he hb
      by_cases him : i < m
      · refine wpOp_mono (fun a' w' h' => ?_) (hop i him L a w hG hed)
        obtain ⟨v, rfl, hv, hB⟩ := h'
        have hd : dst i < a.tmps.size := by rw [hG.asz]; exact hlt i him
        left
        refine ⟨by rw [getD_put hiL, if_neg (by omega)]; exact hL, ⟨by simp [hG.size], by simp [Act.put, hG.asz], hG.dfr, fun s hs => ?_, hG.bel.trans (hB.mono hG.bel.size), fun j hj hlj => ?_, fun j hlj q hq => ?_⟩⟩
        · rw [put_at hd, if_neg (hs i him)]
          exact hG.oth s hs
        · by_cases e : j = i
          · subst e
            exact ⟨v, by rw [put_at hd, if_pos rfl], hv⟩
          · rw [getD_put hiL, if_neg e] at hlj
            obtain ⟨u, h1, h2⟩ := hG.val j hj hlj
            exact ⟨u, by rw [put_at hd, if_neg fun e2 => e (hinj j i hj him e2)]; exact h1, hstab j w w' u hj hB h2⟩
        · rw [getD_put hiL]
          split
          · rfl
          · by_cases e : j = i
            · subst e; exact hed q hq
            · rw [getD_put hiL, if_neg e] at hlj
              exact hG.down j hlj q hq
      · obtain rfl : m = i := by omega
        refine wpOp_mono (fun a' w' h' => ?_) (hst L a w hG hed)
        right
        refine ⟨by simp [hG.size], fun j hj => ?_, h'⟩
        rw [getD_put hiL]
        split
        · rfl
        · rename_i e
          have h1 := back_listed hG.down m hed j (hall j (by omega))
          have h2 : j < L.size := by rw [hG.size]; exact hj
          simpa [Array.getD, h2] using h1
    · rw [hA i (by omega)] at k2; cases k2
  · intro L a w hI hr
    rcases hI with ⟨hL, hG⟩ | ⟨_, _, hQ⟩
    · exfalso
      have h1 := all_listed (back_of hback) (by rw [hG.size, hn]) hr m (by omega)
      have h2 : m < L.size := by rw [hG.size]; omega
      simp [Array.getD, h2] at h1 hL
      rw [h1] at hL
      cases hL
    · exact hQ

/-- The same without a store: all operations come to a value. -/
theorem region_grow0 {id : Nat} {a0 : Act} {X : World} (hm : P.follows .mixedOrders = true) (m : Nat) (hn : ops.size = m + 1) (dst : Nat → Nat) (sp : Nat → World → Value → Prop)
    (hinj : ∀ i j, i < m + 1 → j < m + 1 → dst i = dst j → i = j) (hlt : ∀ i, i < m + 1 → dst i < a0.tmps.size) (hstab : ∀ i w w' v, i < m + 1 → Below w.heap.size w w' → sp i w v → sp i w' v)
    (hback : backB ops = true)
    (hop : ∀ i, i < m + 1 → ∀ L a w, GrowAt0 ops (m + 1) dst sp a0 X L a w → (∀ j ∈ edgesOf ops i, L.getD j false = true) → wpOp P ops Q i (fun a' w' => ∃ v, a' = a.put (some (dst i)) v ∧ sp i w' v ∧ Below w.heap.size w w') a w)
    (hend : ∀ L a w, GrowAt0 ops (m + 1) dst sp a0 X L a w → (∀ i, i < m + 1 → ∃ v, a.tmps[dst i]? = some v ∧ sp i w v) → Q .normal a w) : (Code.region id ops true).wp P Q a0 X := by
  refine region_inv hm (fun L a w => GrowAt0 ops (m + 1) dst sp a0 X L a w) (fun L => L.count false) ?_ ?_ ?_ ?_
  · have h0 : ∀ i, (Array.replicate ops.size false).getD i false = false := fun i => by
      unfold Array.getD
      split <;> simp
    refine ⟨by simp, rfl, rfl, fun s _ => rfl, (Below.refl _ X).drew, fun i _ h => ?_⟩
    rw [h0] at h; cases h
  · exact Nat.le_trans Array.count_le_size (by simp)
  · intro L a w hG i hi
    obtain ⟨k1, k2, k3⟩ := ready_spec hi
    have hiL : i < L.size := by rw [hG.size]; exact k1
    refine ⟨listed_count hiL k2, ?_⟩
    have hed : ∀ j ∈ edgesOf ops i, L.getD j false = true := fun j hj => by
      unfold edgesOf at hj
      rw [Array.getElem?_eq_getElem k1] at hj
      simp only [List.mem_map, List.mem_filter, Array.mem_toList_iff] at hj
      obtain ⟨e, ⟨he, hb⟩, rfl⟩ := hj
      exact k3 _ (Array.getElem?_eq_getElem k1) e he hb
    have him : i < m + 1 := by omega
    refine wpOp_mono (fun a' w' h' => ?_) (hop i him L a w hG hed)
    obtain ⟨v, rfl, hv, hB⟩ := h'
    have hd : dst i < a.tmps.size := by rw [hG.asz]; exact hlt i him
    refine ⟨by simp [hG.size], by simp [Act.put, hG.asz], hG.dfr, fun s hs => ?_, hG.bel.trans (hB.mono hG.bel.size), fun j hj hlj => ?_⟩
    · rw [put_at hd, if_neg (hs i him)]
      exact hG.oth s hs
    · by_cases e : j = i
      · subst e
        exact ⟨v, by rw [put_at hd, if_pos rfl], hv⟩
      · rw [getD_put hiL, if_neg e] at hlj
        obtain ⟨u, h1, h2⟩ := hG.val j hj hlj
        exact ⟨u, by rw [put_at hd, if_neg fun e2 => e (hinj j i hj him e2)]; exact h1, hstab j w w' u hj hB h2⟩
  · intro L a w hG hr
    refine hend L a w hG fun i hi => hG.val i hi ?_
    have h1 := all_listed (back_of hback) hG.size hr i (by omega)
    have h2 : i < L.size := by rw [hG.size, hn]; exact hi
    simpa [Array.getD, h2] using h1
end

theorem act_eq {a : Act} {l : List Value} {d : List Deferred} (hs : a.tmps.size = l.length) (h : ∀ q, q < l.length → a.tmps[q]? = l[q]?) (hd : a.defers = d) : a = ⟨l.toArray, d⟩ := by
  obtain ⟨t, e⟩ := a
  simp only at hs h hd
  subst hd
  congr 1
  refine Array.ext_getElem? fun i => ?_
  by_cases hi : i < l.length
  · rw [h i hi]; simp
  · rw [Array.getElem?_eq_none (by omega), Array.getElem?_eq_none (by simp; omega)]

end Go.Proofs.YtnnkmkhamipfiaaGreatDoor
