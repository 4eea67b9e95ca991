/- A region that draws its order, whose operations read, call what lays memory of its own, and at the end store once: by what holds of each operation's slot, whatever the order. A frame some of whose slots are known anew. Vertices are at most a hundred; a shape's numbers and faces. An error of *api.Fault in memory. -/
import Derived.Test.YthmjdfjchhohgaaGreatDoorOrderInv
import Derived.Laws.Tables
import Derived.Test.YthmjdfjchhohgaaGreatDoorIdxCmp
import Derived.Test.YthmjdfjchhohgaaGreatDoorIdxInv
import Derived.Test.YthmjdfjchhohgaaGreatDoorIdxRowBox
import Derived.Test.YthmjdfjchhohgaaGreatDoorBase
namespace Go.Proofs.YthmjdfjchhohgaaGreatDoor
open Go.RowKit

theorem getD_put {L : Array Bool} {i : Nat} (hi : i < L.size) (j : Nat) (d : Bool) : (L.setIfInBounds i true).getD j d = if j = i then true else L.getD j d := by
  by_cases e : j = i
  · subst e; simp [Array.getD, hi]
  · rw [if_neg e]
    rw [Array.getD_eq_getD_getElem?, Array.getD_eq_getD_getElem?, Array.getElem?_setIfInBounds, if_neg (Ne.symm e)]
theorem put_at {a : Act} {d s : Nat} {v : Value} (hd : d < a.tmps.size) : (a.put (some d) v).tmps[s]? = if s = d then some v else a.tmps[s]? := by
  unfold Act.put
  by_cases e : s = d
  · subst e; simp [hd]
  · rw [if_neg e]
    simp [Ne.symm e]

/-- What an operation waits for. -/
def edgesOf (ops : Array Oper) (i : Nat) : List Nat := match ops[i]? with
  | none => []
  | some o => (o.after.toList.filter fun e => Region.binds .any e).map (·.on)
/-- What a list of operations waits for, so many steps back. -/
def backTo (ops : Array Oper) : Nat → List Nat → List Nat
  | 0, S => S
  | k + 1, S => backTo ops k (S ++ S.flatMap (edgesOf ops))
/-- What has come up is closed. -/
def Down (ops : Array Oper) (L : Array Bool) : Prop := ∀ i, L.getD i false = true → ∀ j ∈ edgesOf ops i, L.getD j false = true
theorem back_listed {ops : Array Oper} {L : Array Bool} (hD : Down ops L) : ∀ (k : Nat) {S : List Nat}, (∀ i ∈ S, L.getD i false = true) → ∀ i ∈ backTo ops k S, L.getD i false = true
  | 0, S, h => h
  | k + 1, S, h => back_listed hD k fun i hi => by
    rcases List.mem_append.1 hi with hi | hi
    · exact h i hi
    · obtain ⟨j, hj, hij⟩ := List.mem_flatMap.1 hi
      exact hD j (h j hj) i hij

def backB (ops : Array Oper) : Bool := (List.range ops.size).all fun i => match ops[i]? with
  | none => true
  | some o => o.after.all fun e => decide (e.on < i)
theorem back_of {ops : Array Oper} (h : backB ops = true) (i : Nat) (o : Oper) (ho : ops[i]? = some o) : ∀ e ∈ o.after, e.on < i := fun e he => by
  have hi : i < ops.size := (Array.getElem?_eq_some_iff.1 ho).1
  have h1 := List.all_eq_true.1 h i (List.mem_range.2 hi)
  rw [ho] at h1
  exact of_decide_eq_true ((Array.all_eq_true_iff_forall_mem.1 h1) e he)

/-- What holds when the listed operations have come up. -/
structure GrowAt (ops : Array Oper) (m : Nat) (dst : Nat → Nat) (sp : Nat → World → Value → Prop) (a0 : Act) (X : World) (L : Array Bool) (a : Act) (w : World) : Prop where
  size : L.size = m + 1
  asz : a.tmps.size = a0.tmps.size
  dfr : a.defers = a0.defers
  oth : ∀ s, (∀ i, i < m → s ≠ dst i) → a.tmps[s]? = a0.tmps[s]?
  bel : Below X.heap.size X w
  val : ∀ i, i < m → L.getD i false = true → ∃ v, a.tmps[dst i]? = some v ∧ sp i w v
  down : Down ops L

/-- .. where each comes to a value. -/
structure GrowAt0 (ops : Array Oper) (m : Nat) (dst : Nat → Nat) (sp : Nat → World → Value → Prop) (a0 : Act) (X : World) (L : Array Bool) (a : Act) (w : World) : Prop where
  size : L.size = ops.size
  asz : a.tmps.size = a0.tmps.size
  dfr : a.defers = a0.defers
  oth : ∀ s, (∀ i, i < m → s ≠ dst i) → a.tmps[s]? = a0.tmps[s]?
  bel : Below X.heap.size X w
  val : ∀ i, i < m → L.getD i false = true → ∃ v, a.tmps[dst i]? = some v ∧ sp i w v

section
variable {P : Program} {ops : Array Oper} {Q : Exit → Act → World → Prop}
theorem listed_count {L : Array Bool} {i : Nat} (hi : i < L.size) (h : L.getD i true = false) : (L.setIfInBounds i true).count false < L.count false := by
  have h1 : L[i] = false := by simpa [Array.getD, hi] using h
  rw [Array.setIfInBounds, dif_pos hi, Array.count_set]
  have : 0 < L.count false := Array.count_pos_iff.2 (by rw [← h1]; exact Array.getElem_mem _)
  simp [h1]
  omega
theorem region_grow {id : Nat} {a0 : Act} {X : World} (hm : P.follows .mixedOrders = true) (m : Nat) (hn : ops.size = m + 1) (dst : Nat → Nat) (sp : Nat → World → Value → Prop)
    (hinj : ∀ i j, i < m → j < m → dst i = dst j → i = j) (hlt : ∀ i, i < m → dst i < a0.tmps.size) (hstab : ∀ i w w' v, i < m → Below w.heap.size w w' → sp i w v → sp i w' v)
    (hback : backB ops = true) (hall : ∀ i, i < m → i ∈ backTo ops m (edgesOf ops m))
    (hop : ∀ i, i < m → ∀ L a w, GrowAt ops m dst sp a0 X L a w → (∀ j ∈ edgesOf ops i, L.getD j false = true) → wpOp P ops Q i (fun a' w' => ∃ v, a' = a.put (some (dst i)) v ∧ sp i w' v ∧ Below w.heap.size w w') a w)
    (hst : ∀ L a w, GrowAt ops m dst sp a0 X L a w → (∀ j ∈ edgesOf ops m, L.getD j false = true) → wpOp P ops Q m (fun a' w' => Q .normal a' w') a w) : (Code.region id ops true).wp P Q a0 X := by
  refine region_inv hm (fun L a w => (L.getD m false = false ∧ GrowAt ops m dst sp a0 X L a w) ∨ (L.size = m + 1 ∧ (∀ i, i < m + 1 → L.getD i true = true) ∧ Q .normal a w)) (fun L => L.count false) ?_ ?_ ?_ ?_
  · left
    have h0 : ∀ i, (Array.replicate ops.size false).getD i false = false := fun i => by
      unfold Array.getD
      split <;> simp
    refine ⟨h0 m, ⟨by simp [hn], rfl, rfl, fun s _ => rfl, (Below.refl _ X).drew, fun i _ h => ?_, fun i h => ?_⟩⟩
    · rw [h0] at h; cases h
    · rw [h0] at h; cases h
  · exact Nat.le_trans Array.count_le_size (by simp)
  · intro L a w hI i hi
    obtain ⟨k1, k2, k3⟩ := ready_spec hi
    rcases hI with ⟨hL, hG⟩ | ⟨hs, hA, _⟩
    · have hiL : i < L.size := by rw [hG.size, ← hn]; exact k1
      refine ⟨listed_count hiL k2, ?_⟩
      have hed : ∀ j ∈ edgesOf ops i, L.getD j false = true := fun j hj => by
        unfold edgesOf at hj
        rw [Array.getElem?_eq_getElem k1] at hj
        simp only [List.mem_map, List.mem_filter, Array.mem_toList_iff] at hj
        obtain ⟨e, ⟨he, hb⟩, rfl⟩ := hj
        exact k3 _ (Array.getElem?_eq_getElem k1) e he hb
      by_cases him : i < m
      · refine wpOp_mono (fun a' w' h' => ?_) (hop i him L a w hG hed)
        obtain ⟨v, rfl, hv, hB⟩ := h'
        have hd : dst i < a.tmps.size := by rw [hG.asz]; exact hlt i him
        left
        refine ⟨by rw [getD_put hiL, if_neg (by omega)]; exact hL, ⟨by simp [hG.size], by simp [Act.put, hG.asz], hG.dfr, fun s hs => ?_, hG.bel.trans (hB.mono hG.bel.size), fun j hj hlj => ?_, fun j hlj q hq => ?_⟩⟩
        · rw [put_at hd, if_neg (hs i him)]
          exact hG.oth s hs
        · by_cases e : j = i
          · subst e
            exact ⟨v, by rw [put_at hd, if_pos rfl], hv⟩
          · rw [getD_put hiL, if_neg e] at hlj
            obtain ⟨u, h1, h2⟩ := hG.val j hj hlj
            exact ⟨u, by rw [put_at hd, if_neg fun e2 => e (hinj j i hj him e2)]; exact h1, hstab j w w' u hj hB h2⟩
        · rw [getD_put hiL]
          split
          · rfl
          · by_cases e : j = i
            · subst e; exact hed q hq
            · rw [getD_put hiL, if_neg e] at hlj
              exact hG.down j hlj q hq
      · obtain rfl : m = i := by omega
        refine wpOp_mono (fun a' w' h' => ?_) (hst L a w hG hed)
        right
        refine ⟨by simp [hG.size], fun j hj => ?_, h'⟩
        rw [getD_put hiL]
        split
        · rfl
        · rename_i e
          have h1 := back_listed hG.down m hed j (hall j (by omega))
          have h2 : j < L.size := by rw [hG.size]; exact hj
          simpa [Array.getD, h2] using h1
    · rw [hA i (by omega)] at k2; cases k2
  · intro L a w hI hr
    rcases hI with ⟨hL, hG⟩ | ⟨_, _, hQ⟩
    · exfalso
      have h1 := all_listed (back_of hback) (by rw [hG.size, hn]) hr m (by omega)
      have h2 : m < L.size := by rw [hG.size]; omega
      simp [Array.getD, h2] at h1 hL
      rw [h1] at hL
      cases hL
    · exact hQ

/-- The same without a store: all operations come to a value. -/
theorem region_grow0 {id : Nat} {a0 : Act} {X : World} (hm : P.follows .mixedOrders = true) (m : Nat) (hn : ops.size = m + 1) (dst : Nat → Nat) (sp : Nat → World → Value → Prop)
    (hinj : ∀ i j, i < m + 1 → j < m + 1 → dst i = dst j → i = j) (hlt : ∀ i, i < m + 1 → dst i < a0.tmps.size) (hstab : ∀ i w w' v, i < m + 1 → Below w.heap.size w w' → sp i w v → sp i w' v)
    (hback : backB ops = true)
    (hop : ∀ i, i < m + 1 → ∀ L a w, GrowAt0 ops (m + 1) dst sp a0 X L a w → (∀ j ∈ edgesOf ops i, L.getD j false = true) → wpOp P ops Q i (fun a' w' => ∃ v, a' = a.put (some (dst i)) v ∧ sp i w' v ∧ Below w.heap.size w w') a w)
    (hend : ∀ L a w, GrowAt0 ops (m + 1) dst sp a0 X L a w → (∀ i, i < m + 1 → ∃ v, a.tmps[dst i]? = some v ∧ sp i w v) → Q .normal a w) : (Code.region id ops true).wp P Q a0 X := by
  refine region_inv hm (fun L a w => GrowAt0 ops (m + 1) dst sp a0 X L a w) (fun L => L.count false) ?_ ?_ ?_ ?_
  · have h0 : ∀ i, (Array.replicate ops.size false).getD i false = false := fun i => by
      unfold Array.getD
      split <;> simp
    refine ⟨by simp, rfl, rfl, fun s _ => rfl, (Below.refl _ X).drew, fun i _ h => ?_⟩
    rw [h0] at h; cases h
  · exact Nat.le_trans Array.count_le_size (by simp)
  · intro L a w hG i hi
    obtain ⟨k1, k2, k3⟩ := ready_spec hi
    have hiL : i < L.size := by rw [hG.size]; exact k1
    refine ⟨listed_count hiL k2, ?_⟩
    have hed : ∀ j ∈ edgesOf ops i, L.getD j false = true := fun j hj => by
      unfold edgesOf at hj
      rw [Array.getElem?_eq_getElem k1] at hj
      simp only [List.mem_map, List.mem_filter, Array.mem_toList_iff] at hj
      obtain ⟨e, ⟨he, hb⟩, rfl⟩ := hj
      exact k3 _ (Array.getElem?_eq_getElem k1) e he hb
    have him : i < m + 1 := by omega
    refine wpOp_mono (fun a' w' h' => ?_) (hop i him L a w hG hed)
    obtain ⟨v, rfl, hv, hB⟩ := h'
    have hd : dst i < a.tmps.size := by rw [hG.asz]; exact hlt i him
    refine ⟨by simp [hG.size], by simp [Act.put, hG.asz], hG.dfr, fun s hs => ?_, hG.bel.trans (hB.mono hG.bel.size), fun j hj hlj => ?_⟩
    · rw [put_at hd, if_neg (hs i him)]
      exact hG.oth s hs
    · by_cases e : j = i
      · subst e
        exact ⟨v, by rw [put_at hd, if_pos rfl], hv⟩
      · rw [getD_put hiL, if_neg e] at hlj
        obtain ⟨u, h1, h2⟩ := hG.val j hj hlj
        exact ⟨u, by rw [put_at hd, if_neg fun e2 => e (hinj j i hj him e2)]; exact h1, hstab j w w' u hj hB h2⟩
  · intro L a w hG hr
    refine hend L a w hG fun i hi => hG.val i hi ?_
    have h1 := all_listed (back_of hback) hG.size hr i (by omega)
    have h2 : i < L.size := by rw [hG.size, hn]; exact hi
    simpa [Array.getD, h2] using h1
end

theorem act_eq {a : Act} {l : List Value} {d : List Deferred} (hs : a.tmps.size = l.length) (h : ∀ q, q < l.length → a.tmps[q]? = l[q]?) (hd : a.defers = d) : a = ⟨l.toArray, d⟩ := by
  obtain ⟨t, e⟩ := a
  simp only at hs h hd
  subst hd
  congr 1
  refine Array.ext_getElem? fun i => ?_
  by_cases hi : i < l.length
  · rw [h i hi]; simp
  · rw [Array.getElem?_eq_none (by omega), Array.getElem?_eq_none (by simp; omega)]

end Go.Proofs.YthmjdfjchhohgaaGreatDoor

namespace Go.Proofs.YthmjdfjchhohgaaGreatDoor
open Go.RowKit

theorem fold_puts {b : Array Value} : ∀ (D : List (Nat × Value)) (t : Array Value), b.size = t.size → (∀ p ∈ D, b[p.1]? = some p.2) → (∀ s, (∀ p ∈ D, s ≠ p.1) → b[s]? = t[s]?) → D.foldl (fun t p => t.setIfInBounds p.1 p.2) t = b
  | [], t, _, _, ho => (Array.ext_getElem? fun i => ho i fun p hp => by cases hp).symm
  | p :: D, t, hs, hD, ho => by
    rw [List.foldl_cons]
    refine fold_puts D _ (by simpa using hs) (fun q hq => hD q (List.mem_cons_of_mem _ hq)) fun s hn => ?_
    rw [Array.getElem?_setIfInBounds]
    by_cases e : p.1 = s
    · have h1 := hD p List.mem_cons_self
      have h2 : p.1 < t.size := by rw [← hs]; exact (Array.getElem?_eq_some_iff.1 h1).1
      rw [if_pos e, if_pos h2, ← e, h1]
    · rw [if_neg e]
      exact ho s fun q hq => by
        rcases List.mem_cons.1 hq with h | h
        · rw [h]; exact fun e2 => e e2.symm
        · exact hn q h
/-- A frame by what it was and what some slots hold now. -/
theorem act_puts {a a0 : Act} (hs : a.tmps.size = a0.tmps.size) (hd : a.defers = a0.defers) (D : List (Nat × Value)) (hD : ∀ p ∈ D, a.tmps[p.1]? = some p.2) (ho : ∀ s, (∀ p ∈ D, s ≠ p.1) → a.tmps[s]? = a0.tmps[s]?) : a = ⟨D.foldl (fun t p => t.setIfInBounds p.1 p.2) a0.tmps, a0.defers⟩ := by
  rw [fold_puts D a0.tmps hs hD ho, ← hd]

section
variable {P : Program} {o : Oper} {ev : Operand → Value} {w w' : World} {t : TypeId}
theorem exec_load {x : Operand} {p v : Value} (ho : o.op = .load t x) (hx : ev x = p) (h : (Instr.loadAt t p).run P w = .ok v w) : (execOp ev o).run P w = .ok (.value v) w := by
  unfold execOp
  simp only [ho, hx, Sem.run_bind, h, Result.andThen_ok, Sem.run_pure]
theorem exec_store {x y : Operand} {p v : Value} (ho : o.op = .store t x y) (hx : ev x = p) (hy : ev y = v) (h : (Instr.storeAt t p v).run P w = .ok () w') : (execOp ev o).run P w = .ok .skip w' := by
  unfold execOp
  simp only [ho, hx, hy, Sem.run_bind, h, Result.andThen_ok, Sem.run_pure]
theorem exec_build {parts : Array (Nat × Operand)} {vs : Array (Nat × Value)} {cells : Array Value} (ho : o.op = .build t parts) (hx : (parts.map fun (i, x) => (i, ev x)) = vs) (h : P.built t vs.toList = some cells) : (execOp ev o).run P w = .ok (.value (.agg cells)) w := by
  unfold execOp
  simp only [ho, hx, Sem.run_bind, run_build w t _ cells h, Result.andThen_ok, Sem.run_pure]
end
theorem eval_tmp {a : Act} {k : Nat} {v : Value} (h : a.tmps[k]? = some v) : a.eval (.tmp k) = v := by
  simp [Act.eval, h]

end Go.Proofs.YthmjdfjchhohgaaGreatDoor

namespace Go.Proofs.YthmjdfjchhohgaaGreatDoor
open Go.RowKit Go.Sort

theorem verts_len {l p : List (List Int)} (g : Good l p) : (vertI p).length ≤ 100 := by
  have h := nodup_le (rising_nodup (vertI_rising g.isAll.order)) (Y := (List.range 100).map fun k : Nat => (k : Int)) (fun v hv => by
    have := (face_ok_of g (vertI_mem.1 hv)).1.2.2 v (by simp)
    exact List.mem_map.2 ⟨v.toNat, List.mem_range.2 (by omega), by omega⟩)
  simpa using h

theorem verts_in {l p : List (List Int)} (g : Good l p) : ∀ v ∈ vertI p, 0 ≤ v ∧ v ≤ 99 := fun v hv => by
  have := (face_ok_of g (vertI_mem.1 hv)).1.2.2 v (by simp)
  omega
theorem ShpIn.numbered {S : Nat → Prop} {l p : List (List Int)} {vs vf : Value} {f : List Int} {W : World} (h : ShpIn S W vs p) (hg : Good l p) (hf : Ints W vf f) (hl : f.length = (vertI p).length) :
    Calls Tryz.prog 56 #[vs, vf] W fun e w' => e = .returned (.agg (numC fun k => hiF (vertI p) f (k : Int)).toArray) ∧ Below W.heap.size W w' := by
  obtain ⟨a, c, rfl, hr⟩ := h
  have hf0 := hf
  obtain ⟨af, cf, rfl, -, -⟩ := hf.open_
  have h0l : (ofDim p 0).length = (vertI p).length := by rw [ofDim_zero, List.length_map]
  rw [h0l]
  refine numbered_arr _ _ _ _ _ _ _ _ _ _ _ _ _ _ _ _ _ _ _ _ _ _ (vertI p) f W ?_ hf0 (rising_nodup (vertI_rising hg.isAll.order)) (verts_in hg) hl (verts_len hg)
  have := (hr 0 (by omega)).any
  rw [show ((0 : Nat) : Int) = 0 from rfl, h0l, ofDim_zero] at this
  exact this

theorem ix_bad_or_good (l : List (List Int)) : (∃ j, BadAt l j) ∨ ∃ all, Good l all := by
  by_cases h1 : ∀ x ∈ l, SetOk x
  · by_cases h2 : Over (l.map srt)
    · exact .inl ⟨1, .inr (.inl ⟨rfl, h1, h2⟩)⟩
    · by_cases h3 : ∃ all, Good l all
      · exact .inr h3
      · exact .inl ⟨2, .inr (.inr ⟨rfl, h1, h2, fun all ha hf => h3 ⟨all, h1, h2, ha, hf⟩⟩)⟩
  · exact .inl ⟨3, .inl ⟨rfl, h1⟩⟩

/-- Faces in a row of one's own, whose heads lead to blocks that S tells of. -/
def FacesIs (S : Nat → Prop) (B : Nat) (w : World) (v : Value) (L : List (List Int)) : Prop :=
  ∃ a c us, v = .slice a L.length c ∧ w.ownsRow B 23 1 (.slice a L.length c) L.length us ∧ HeadsIn S w us L
theorem FacesIs.below {S : Nat → Prop} {B : Nat} {w w' : World} {v : Value} {L : List (List Int)} (h : FacesIs S B w v L) (hB : Below w.heap.size w w') : FacesIs S B w' v L := by
  obtain ⟨a, c, us, h1, h2, h3⟩ := h
  exact ⟨a, c, us, h1, World.ownsRow.kept h2 (Below.grownBy hB) (by cases (Value.slice a L.length c).ownBlock <;> simp), h3.belowH hB⟩
theorem FacesIs.mono {S S' : Nat → Prop} {B : Nat} {w : World} {v : Value} {L : List (List Int)} (h : FacesIs S B w v L) (hs : ∀ b, b < w.heap.size → S b → S' b) : FacesIs S' B w v L := by
  obtain ⟨a, c, us, h1, h2, h3⟩ := h
  exact ⟨a, c, us, h1, h2, h3.1, fun k u x hu hx => (h3.2 k u x hu hx).mono hs⟩
theorem FacesIs.base {S : Nat → Prop} {B B' : Nat} {w : World} {v : Value} {L : List (List Int)} (h : FacesIs S B w v L) (hB : B' ≤ B) : FacesIs S B' w v L := by
  obtain ⟨a, c, us, h1, h2, h3⟩ := h
  exact ⟨a, c, us, h1, owns_base h2 hB, h3⟩
theorem FacesIs.rows {S : Nat → Prop} {B : Nat} {w : World} {v : Value} {L : List (List Int)} (h : FacesIs S B w v L) : Rows w v L := by
  obtain ⟨a, c, us, rfl, h2, h3⟩ := h
  exact ⟨us, slice_of_owns h2 (fun _ _ _ => trivial), h3.1, fun k u x hu hx => (h3.2 k u x hu hx).mono fun _ _ _ => trivial⟩
/-- Another block is written, none of the faces'. -/
theorem FacesIs.other {S : Nat → Prop} {B g : Nat} {w w' : World} {v : Value} {L : List (List Int)} (h : FacesIs S B w v L) (hg : w.grownBy w' (some g)) (hk : ∀ k, k ≠ g → w'.heap[k]? = w.heap[k]?) (hS : ¬ S g) (ho : v.ownBlock ≠ some g) : FacesIs S B w' v L := by
  obtain ⟨a, c, us, rfl, h2, h3⟩ := h
  exact ⟨a, c, us, rfl, World.ownsRow.kept h2 hg (.inr ho), h3.1, fun k u x hu hx => SliceIn.keep (h3.2 k u x hu hx) fun b _ hb => hk b fun e => hS (e ▸ hb)⟩
theorem all_is {S : Nat → Prop} (vs : Value) (p : List (List Int)) (w : World) (h : ShpIn S w vs p) (hl : (allSh p).length ≤ 100000) :
    Calls Tryz.prog 57 #[vs] w fun e w' => ∃ v, e = .returned v ∧ FacesIs S w.heap.size w' v (allSh p) ∧ Below w.heap.size w w' :=
  (all_own vs p w h hl).mono fun e w' ⟨v, us, h1, h2, h3, h4⟩ => by
    obtain ⟨a, c, rfl⟩ := owns_slice h2
    have e := h3.1
    rw [e] at h1 h2
    exact ⟨_, h1, ⟨a, c, us, rfl, h2, h3⟩, h4⟩
/-- A mapping's box is none of the faces' row. -/
theorem FacesIs.apart {S : Nat → Prop} {B g : Nat} {w : World} {v u : Value} {F : Nat → Int} {L : List (List Int)} (h : FacesIs S B w v L) (hg : MapgAt g w u F) : v.ownBlock ≠ some g := by
  obtain ⟨a, c, us, rfl, h2, h3⟩ := h
  intro e
  rcases h2.2 with ⟨e1, -⟩ | ⟨G, cap, cur, e1, -, hh, -⟩
  · rw [e1] at e; cases e
  · rw [e1] at e
    have e2 : G = g := Option.some.inj e
    subst e2
    unfold MapgAt at hg
    rw [hg] at hh
    cases hh
theorem grown_row {w : World} {g : Nat} {c : Array Value} : w.grownBy (w.setRow g c) (some g) := ⟨rfl, rfl, rfl, by rw [setRow_size]; exact Nat.le_refl _, fun k hk hne => setRow_other _ _ _ _ fun e => hne (by rw [e])⟩

end Go.Proofs.YthmjdfjchhohgaaGreatDoor

namespace Go.Proofs.YthmjdfjchhohgaaGreatDoor
open Go.RowKit Go.Sort

theorem fault_cells (W : World) (x y : Value) (t : TypeId) : (W.alloc (.cells #[x, y] t)).cell? ⟨W.heap.size, 0, none⟩ = some x ∧ (W.alloc (.cells #[x, y] t)).cell? ⟨W.heap.size, 0 + 1, none⟩ = some y := by
  constructor <;> simp
/-- An error of *api.Fault: its place and the error that it holds. -/
def FaultAt (a : Nat → Addr) (w : World) (ve : Value) (i : Nat) (p : Int) : Prop :=
  ∃ q, ve = .iface 93 (.pointer (some ⟨q, 0, none⟩)) ∧ w.cell? ⟨q, 0, none⟩ = some (.int .i64 p) ∧ w.cell? ⟨q, 0 + 1, none⟩ = some (.iface 233 (.pointer (some (a i))))
theorem FaultAt.below {a : Nat → Addr} {w w' : World} {ve : Value} {i : Nat} {p : Int} (h : FaultAt a w ve i p) (hB : Below w.heap.size w w') : FaultAt a w' ve i p := by
  obtain ⟨q, h1, h2, h3⟩ := h
  exact ⟨q, h1, (hB.cell (p := ⟨q, 0, none⟩) (cell_lt h2)).trans h2, (hB.cell (p := ⟨q, 0 + 1, none⟩) (cell_lt h3)).trans h3⟩

end Go.Proofs.YthmjdfjchhohgaaGreatDoor
