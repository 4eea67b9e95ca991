/- A region that draws its order, by what holds at each set of operations that have come up: each such set is looked at once, whatever the order was. -/
import Derived.Test.YtbmojlnkjeapkaaGreatDoorBase
import Derived.Orders
namespace Go.Proofs.YtbmojlnkjeapkaaGreatDoor
open Go.RowKit

section
variable {P : Program} {ops : Array Oper} {Q : Exit → Act → World → Prop}

theorem wpAny_inv {md : Region.Mode} (I : Array Bool → Act → World → Prop) (m : Array Bool → Nat) (hstep : ∀ listed a w, I listed a w → ∀ i ∈ Region.ready md ops listed, m (listed.setIfInBounds i true) < m listed ∧ wpOp P ops Q i (I (listed.setIfInBounds i true)) a w)
    (hend : ∀ listed a w, I listed a w → Region.ready md ops listed = [] → Q .normal a w) : ∀ fuel listed a w, m listed ≤ fuel → I listed a w → wpAny P md ops Q fuel listed a w
  | 0, listed, a, w, hm, h => by
    have h0 : Region.ready md ops listed = [] := by
      rcases e : Region.ready md ops listed with _ | ⟨i, l⟩
      · rfl
      · have := (hstep listed a w h i (by rw [e]; exact .head _)).1
        omega
    exact ⟨h0, hend listed a w h h0⟩
  | fuel + 1, listed, a, w, hm, h => ⟨hend listed a w h, fun i hi => by
      have h1 := hstep listed a w h i hi
      exact wpOp_mono (fun a' w' h' => wpAny_inv I m hstep hend fuel _ a' w' (by omega) h') h1.2⟩

theorem region_inv {id : Nat} {a : Act} {w : World} (hm : P.follows .mixedOrders = true) (I : Array Bool → Act → World → Prop) (m : Array Bool → Nat) (h0 : I (Array.replicate ops.size false) a w.drew) (hs : m (Array.replicate ops.size false) ≤ ops.size)
    (hstep : ∀ listed a w, I listed a w → ∀ i ∈ Region.ready .any ops listed, m (listed.setIfInBounds i true) < m listed ∧ wpOp P ops Q i (I (listed.setIfInBounds i true)) a w)
    (hend : ∀ listed a w, I listed a w → Region.ready .any ops listed = [] → Q .normal a w) : (Code.region id ops true).wp P Q a w :=
  wp_region_any hm (wpAny_inv I m hstep hend _ _ _ _ hs h0)

theorem ready_spec {md : Region.Mode} {listed : Array Bool} {i : Nat} (h : i ∈ Region.ready md ops listed) : i < ops.size ∧ listed.getD i true = false ∧ ∀ o, ops[i]? = some o → ∀ e ∈ o.after, Region.binds md e = true → listed.getD e.on false = true := by
  unfold Region.ready at h
  rw [List.mem_filter, List.mem_range] at h
  obtain ⟨h1, h2⟩ := h
  rw [Bool.and_eq_true] at h2
  refine ⟨h1, by simpa using h2.1, fun o ho e he hb => ?_⟩
  have h3 := h2.2
  rw [ho] at h3
  simp only [Option.map_some, Option.getD_some] at h3
  have h4 := (Array.all_eq_true_iff_forall_mem.1 h3) e he
  simpa [hb] using h4

/-- Where every edge points back: if none may come up, all have. -/
theorem all_listed {md : Region.Mode} {listed : Array Bool} (hB : ∀ (i : Nat) (o : Oper), ops[i]? = some o → ∀ e ∈ o.after, e.on < i) (hs : listed.size = ops.size) (h : Region.ready md ops listed = []) : ∀ i, i < ops.size → listed.getD i true = true := by
  intro i
  induction i using Nat.strongRecOn with
  | ind i ih =>
    intro hi
    cases hl : listed.getD i true with
    | true => rfl
    | false =>
      exfalso
      have hm : i ∈ Region.ready md ops listed := by
        unfold Region.ready
        rw [List.mem_filter, List.mem_range]
        refine ⟨hi, ?_⟩
        rw [hl, Array.getElem?_eq_getElem hi]
        simp only [Bool.not_false, Bool.true_and, Option.map_some, Option.getD_some]
        refine Array.all_eq_true_iff_forall_mem.2 fun e he => ?_
        have hlt := hB i _ (Array.getElem?_eq_getElem hi) e he
        have h2 := ih e.on hlt (by omega)
        have h3 : listed.getD e.on false = true := by
          have h4 : e.on < listed.size := by omega
          simpa [Array.getD, h4] using h2
        simp [h3]
      rw [h] at hm
      cases hm

/-- One operation that comes to a value. -/
theorem op_value {i : Nat} {o : Oper} {a : Act} {w w' : World} {v : Value} {K : Act → World → Prop} (ho : ops[i]? = some o) (hg : o.guard = none) (hr : (execOp a.eval o).run P w = .ok (.value v) w') (h : K (a.put o.dst v) w') : wpOp P ops Q i K a w := by
  unfold wpOp
  simp only [ho]
  rw [if_pos (by simp [Region.wanted, hg])]
  exact .inl (by unfold Oper.wp; rw [hr]; exact h)

/-- .. that is carried out, and leaves no value. -/
theorem op_skip {i : Nat} {o : Oper} {a : Act} {w w' : World} {K : Act → World → Prop} (ho : ops[i]? = some o) (hg : o.guard = none) (hr : (execOp a.eval o).run P w = .ok .skip w') (h : K (a.put o.dst undef) w') : wpOp P ops Q i K a w := by
  unfold wpOp
  simp only [ho]
  rw [if_pos (by simp [Region.wanted, hg])]
  exact .inl (by unfold Oper.wp; rw [hr]; exact h)

/-- .. that calls. -/
theorem op_call {i : Nat} {o : Oper} {a : Act} {w w' : World} {f : FuncId} {args : Array Value} {K : Act → World → Prop} (ho : ops[i]? = some o) (hg : o.guard = none) (hr : (execOp a.eval o).run P w = .ok (.enter f args) w') (R : Ending → World → Prop) (hc : Calls P f args w' R) (h : ∀ e w'', R e w'' → ∃ v, e = .returned v ∧ K (a.put o.dst v) w'') : wpOp P ops Q i K a w := by
  unfold wpOp
  simp only [ho]
  rw [if_pos (by simp [Region.wanted, hg])]
  refine .inl ?_
  unfold Oper.wp
  rw [hr]
  refine Calls.mono hc fun e w'' he => ?_
  obtain ⟨v, rfl, hk⟩ := h e w'' he
  exact hk

end

end Go.Proofs.YtbmojlnkjeapkaaGreatDoor
