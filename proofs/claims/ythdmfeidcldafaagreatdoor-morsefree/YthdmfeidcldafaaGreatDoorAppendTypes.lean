/- The tables of the faces up to a dimension, and of one dimension more; no program is spoken of but the cells' values. A slice appended onto a row of another slice type with the same elements: as onto one of its own type. -/
import Derived.Test.YthdmfeidcldafaaGreatDoorMorseShape
import Derived.Test.YthdmfeidcldafaaGreatDoorBase
import Derived.Laws.OwnMore
namespace Go.Proofs.YthdmfeidcldafaaGreatDoor
open Go.RowKit Go.Sort

theorem at_left {P C : List (List Int)} {i : Nat} (h : i < P.length) : faceAt (P ++ C) i = faceAt P i := by unfold faceAt; rw [List.getElem?_append_left h]
theorem at_right {P C : List (List Int)} {i : Nat} (h : P.length ≤ i) : faceAt (P ++ C) i = faceAt C (i - P.length) := by unfold faceAt; rw [List.getElem?_append_right h]
theorem at_len {C : List (List Int)} {n : Nat} (hC : ∀ x ∈ C, x.length = n) {i : Nat} (h : i < C.length) : (faceAt C i).length = n := hC _ (faceAt_mem h)

theorem under_len {r c : List Int} (h : underB r c = true) : r.length + 1 = c.length := (underB_iff.1 h).1

theorem filter_none {n : Nat} {p : Nat → Bool} (h : ∀ i, i < n → p i = false) : (List.range n).filter p = [] := List.filter_eq_nil_iff.2 fun i hi => by rw [h i (List.mem_range.1 hi)]; simp
theorem filter_front {n m : Nat} {p : Nat → Bool} (h : ∀ i, n ≤ i → i < n + m → p i = false) : (List.range (n + m)).filter p = (List.range n).filter p := by
  induction m with
  | zero => rfl
  | succ m ih =>
    rw [← Nat.add_assoc, List.range_succ, List.filter_append, ih (fun i h1 h2 => h i h1 (by omega))]
    have := h (n + m) (by omega) (by omega)
    simp [this]

/-- One dimension more, and no pair of it done. -/
theorem tables_more {P C : List (List Int)} {d lo : Nat} (hP : ∀ x ∈ P, x.length ≤ d) (hC : ∀ x ∈ C, x.length = d + 1) (hlo : ∀ i, i < lo → (faceAt P i).length < d) (hll : lo ≤ P.length) :
    sidesC (P ++ C) (doneP P.length lo 0 0) = sidesC P allD ++ List.replicate C.length [] ∧ oversC (P ++ C) (doneP P.length lo 0 0) = oversC P allD ++ List.replicate C.length [] := by
  have hlen : (P ++ C).length = P.length + C.length := List.length_append
  have hPl : ∀ i, i < P.length → (faceAt (P ++ C) i).length ≤ d := fun i h => by rw [at_left h]; exact hP _ (faceAt_mem h)
  have hCl : ∀ i, P.length ≤ i → i < P.length + C.length → (faceAt (P ++ C) i).length = d + 1 := fun i h h2 => by rw [at_right h]; exact at_len hC (by omega)
  -- a pair that is under each other and done
  have key : ∀ i k, i < P.length + C.length → k < P.length + C.length → (underB (faceAt (P ++ C) i) (faceAt (P ++ C) k) && doneP P.length lo 0 0 i k) = (decide (i < P.length) && decide (k < P.length) && underB (faceAt (P ++ C) i) (faceAt (P ++ C) k)) := fun i k hi hk => by
    cases hu : underB (faceAt (P ++ C) i) (faceAt (P ++ C) k) with
    | false => simp
    | true =>
      have h1 := under_len hu
      rw [Bool.true_and, Bool.and_true, Bool.eq_iff_iff]
      unfold doneP
      simp only [Bool.or_eq_true, Bool.and_eq_true, decide_eq_true_eq]
      constructor
      · intro h
        by_cases hkP : k < P.length
        · refine ⟨?_, hkP⟩
          rcases Nat.lt_or_ge i P.length with h2 | h2
          · exact h2
          · have := hCl i h2 hi
            have := hPl k hkP
            omega
        · exfalso
          have h3 := hCl k (by omega) hk
          have h4 : i < lo := by omega
          have h5 := hlo i h4
          rw [at_left (by omega)] at h1
          omega
      · intro h; exact .inl h.2
  constructor
  · refine List.ext_getElem? fun k => ?_
    by_cases hk : k < P.length + C.length
    · rw [sidesC_at (by rw [hlen]; exact hk)]
      by_cases hkP : k < P.length
      · rw [List.getElem?_append_left (by rw [sidesC_len]; exact hkP), sidesC_at hkP]
        unfold sidC
        have e1 : sidD (P ++ C) (doneP P.length lo 0 0) k = sidD P allD k := by
          unfold sidD
          rw [hlen, filter_front (fun i h1 h2 => by rw [key i k h2 hk, decide_eq_false (by omega)]; rfl)]
          refine List.filter_congr fun i hi => ?_
          have hi := List.mem_range.1 hi
          rw [key i k (by omega) hk, decide_eq_true hi, decide_eq_true hkP, at_left hi, at_left hkP]
          simp [allD]
        rw [e1]
        congr 2
        refine List.map_congr_left fun i hi => ?_
        have hi := List.mem_range.1 (List.mem_filter.1 hi).1
        unfold sideP
        rw [at_left hi, at_left hkP]
      · rw [List.getElem?_append_right (by rw [sidesC_len]; omega), sidesC_len, List.getElem?_replicate, if_pos (by omega)]
        unfold sidC sidD
        rw [hlen, filter_none (fun i hi => by rw [key i k hi hk, decide_eq_false hkP]; simp)]
        rfl
    · rw [List.getElem?_eq_none (by rw [sidesC_len, hlen]; omega), List.getElem?_eq_none (by rw [List.length_append, sidesC_len, List.length_replicate]; omega)]
  · refine List.ext_getElem? fun i => ?_
    by_cases hi : i < P.length + C.length
    · rw [oversC_at (by rw [hlen]; exact hi)]
      by_cases hiP : i < P.length
      · rw [List.getElem?_append_left (by rw [oversC_len]; exact hiP), oversC_at hiP]
        unfold ovC
        have e1 : ovD (P ++ C) (doneP P.length lo 0 0) i = ovD P allD i := by
          unfold ovD
          rw [hlen, filter_front (fun k h1 h2 => by rw [key i k hi h2, decide_eq_false (show ¬ k < P.length by omega)]; simp)]
          refine List.filter_congr fun k hk => ?_
          have hk := List.mem_range.1 hk
          rw [key i k hi (by omega), decide_eq_true hiP, decide_eq_true hk, at_left hiP, at_left hk]
          simp [allD]
        rw [e1]
      · rw [List.getElem?_append_right (by rw [oversC_len]; omega), oversC_len, List.getElem?_replicate, if_pos (by omega)]
        unfold ovC ovD
        rw [hlen, filter_none (fun k hk => by rw [key i k hi hk, decide_eq_false hiP]; simp)]
        rfl
    · rw [List.getElem?_eq_none (by rw [oversC_len, hlen]; omega), List.getElem?_eq_none (by rw [List.length_append, oversC_len, List.length_replicate]; omega)]

/-- All pairs of it done. -/
theorem tables_done {P C : List (List Int)} {d lo Rn : Nat} (hC : ∀ x ∈ C, x.length = d + 1) (hlo : lo + Rn = P.length) :
    sidesC (P ++ C) (doneP P.length lo Rn 0) = sidesC (P ++ C) allD ∧ oversC (P ++ C) (doneP P.length lo Rn 0) = oversC (P ++ C) allD := by
  have key : ∀ i k, i < (P ++ C).length → k < (P ++ C).length → underB (faceAt (P ++ C) i) (faceAt (P ++ C) k) = true → doneP P.length lo Rn 0 i k = allD i k := fun i k hi hk hu => by
    rw [List.length_append] at hi hk
    have h1 := under_len hu
    unfold doneP allD
    rw [Bool.or_eq_true, Bool.or_eq_true]
    rcases Nat.lt_or_ge k P.length with h | h
    · exact .inl (decide_eq_true h)
    · rcases Nat.lt_or_ge i P.length with h2 | h2
      · exact .inr (.inl (decide_eq_true (by omega)))
      · exfalso
        have e1 := at_len hC (i := i - P.length) (by omega)
        have e2 := at_len hC (i := k - P.length) (by omega)
        rw [at_right h2, at_right h] at h1
        omega
  exact ⟨sidesC_congr key, oversC_congr key⟩

/-- The parts of the list up to a dimension. -/
theorem numTo_len_le {all : List (List Int)} {d : Nat} : ∀ x ∈ numTo all d, x.length ≤ d := fun _ h => (numTo_mem.1 h).2.2
theorem ofDim_len {all : List (List Int)} {d : Nat} : ∀ x ∈ ofDim all (d : Int), x.length = d + 1 := fun x h => by
  have := (List.mem_filter.1 h).2
  rw [decide_eq_true_eq] at this
  omega
theorem ofDim_below {all : List (List Int)} (hs : ∀ x ∈ all, x ≠ []) : ofDim all (-1) = [] := List.filter_eq_nil_iff.2 fun x hx h => by
  rw [decide_eq_true_eq] at h
  exact hs x hx (List.eq_nil_of_length_eq_zero (by omega))

/-- Where the dimension before begins. -/
def loOf (all : List (List Int)) (d : Nat) : Nat := (numTo all d).length - (ofDim all ((d : Int) - 1)).length
theorem lo_facts {all : List (List Int)} (hs : ∀ x ∈ all, x ≠ []) (d : Nat) : loOf all d + (ofDim all ((d : Int) - 1)).length = (numTo all d).length ∧ (∀ i, i < loOf all d → (faceAt (numTo all d) i).length < d) ∧ ∀ r, r < (ofDim all ((d : Int) - 1)).length → faceAt (numTo all d) (loOf all d + r) = faceAt (ofDim all ((d : Int) - 1)) r := by
  cases d with
  | zero =>
    have e : ofDim all (((0 : Nat) : Int) - 1) = [] := ofDim_below hs
    have e2 : numTo all 0 = [] := rfl
    unfold loOf
    rw [e, e2]
    refine ⟨rfl, fun i hi => ?_, fun r hr => ?_⟩
    · simp at hi
    · simp at hr
  | succ d =>
    have e : (((d + 1 : Nat) : Int) - 1) = (d : Int) := by omega
    unfold loOf
    rw [e, numTo_succ, List.length_append]
    refine ⟨by omega, fun i hi => ?_, fun r hr => ?_⟩
    · rw [at_left (by omega)]
      have := numTo_len_le _ (faceAt_mem (L := numTo all d) (i := i) (by omega))
      omega
    · rw [at_right (by omega)]
      congr 1
      omega

end Go.Proofs.YthdmfeidcldafaaGreatDoor

namespace Go.Proofs.YthdmfeidcldafaaGreatDoor
open Go.RowKit Go.Sort

theorem append_types {P : Program} {t u ty e e' : TypeId} (ht : P.underlying t = some (.slice e)) (hu : P.underlying u = some (.slice e')) (a : Option Addr) (n c : Nat) (x : Value) (w : World) : (Builtin.append_ #[t, u] ty #[.slice a n c, x]).run P w = (Builtin.append_ #[t, t] ty #[.slice a n c, x]).run P w := by
  unfold Builtin.append_
  simp [go_sem, run_underlying ht, run_underlying hu, sizeOf]

theorem own_slice {W : World} {base : Nat} {t : TypeId} {k : Nat} {v : Value} {n : Nat} {xs : List Value} (h : W.ownsRow base t k v n xs) : ∃ a cap, v = .slice a n cap := by
  rcases h.2 with ⟨rfl, rfl⟩ | ⟨g, cap, cur, rfl, _⟩
  · exact ⟨_, _, rfl⟩
  · exact ⟨_, _, rfl⟩

/-- As wpList_append_slice, of two types. -/
theorem wpList_append_slice2 {P : Program} {w : World} {ops : Array Oper} {rest : List Oper} {o : Oper} {a : Act} {Q : Exit → Act → World → Prop} (hgd : o.guard = none) (s x : Operand) (t u' e' : TypeId) (hu' : P.underlying u' = some (.slice e'))
    (ho : o.op = .call { callee := .builtin .append, args := #[s, x], argTypes := #[t, u'] })
    (base : Nat) (e : TypeId) (i : TypeInfo) (z : Value) (bytes : Nat) (ht : P.underlying t = some (.slice e)) (hi : P.info? e = some i) (hz : i.zero = some z)
    (hsize : i.size = 1) (hby : i.bytes = bytes) (hzs : z.cells.size = 1)
    (v : Value) (n : Nat) (xs : List Value) (hs : a.eval s = v) (hown : w.ownsRow base e 1 v n xs)
    {S : Nat → Prop} (u : Value) (news : List Value) (hx : a.eval x = u) (hu : SliceIn S w u news) (h1 : ∀ c ∈ news, c.oneCell' = true)
    (hbytes : (n + news.length) * bytes ≤ 140737488355328) (h63 : n + news.length ≤ maxLen) (hbase : base ≤ w.heap.size)
    (h : ∀ v' w', w'.ownsRow base e 1 v' (n + news.length) (xs ++ news) → w.grownBy w' v.ownBlock → (v'.ownBlock = v.ownBlock ∨ v'.ownBlock = some w.heap.size) → wpList P ops Q rest (a.put o.dst v') w') : wpList P ops Q (o :: rest) a w := by
  obtain ⟨av, cv, rfl⟩ := own_slice hown
  obtain ⟨ao, cap, rfl, ⟨hc, hn⟩, hcs⟩ := hu
  refine wpList_plain hgd fun K hK => ?_
  cases ao with
  | none =>
    obtain rfl := hn rfl
    have hnil : news = [] := List.eq_nil_of_length_eq_zero (by omega)
    subst hnil
    have hr := run_append_owned_none (P := P) (w := w) base t o.type e i 1 ht hi _ n xs hown
    rw [← append_types (u := u') ht hu'] at hr
    unfold Oper.wp execOp
    simp only [ho, resolve, invoke, builtin, Sem.run_bind, Sem.run_pure, Result.andThen_ok, List.map_toArray, List.map_cons, List.map_nil, hs, hx, List.length_nil, hr]
    exact hK _ _ (h _ w (by simpa using hown) ⟨rfl, rfl, rfl, Nat.le_refl _, fun _ _ _ => rfl⟩ (.inl rfl))
  | some ad =>
    obtain ⟨v', w', hr, h2, h3, h4, h5⟩ := run_append_own_at (P := P) w base t o.type e i z 1 bytes ht hi hz hsize hby hzs (by decide) _ n xs hown ad news.length cap news (by simp) (fun j c hj => by
      have hl : 0 < news.length := by
        have := (List.getElem?_eq_some_iff.1 hj).1
        omega
      obtain ⟨b, off, e1, _, e3⟩ := hcs hl
      cases e1
      rw [Addr.add_lit]
      exact e3 j c hj) h1 h63 hbytes hbase
    rw [← append_types (u := u') ht hu'] at hr
    unfold Oper.wp execOp
    simp only [ho, resolve, invoke, builtin, Sem.run_bind, Sem.run_pure, Result.andThen_ok, List.map_toArray, List.map_cons, List.map_nil, hs, hx, hr]
    exact hK _ _ (h v' w' h2 h3 h5)

end Go.Proofs.YthdmfeidcldafaaGreatDoor
