/- How great a slice of slices of numbers is that comes in, by the second form's own measure. Classes of numbers that are joined, pair after pair: each class is told by its least number. No Go here. -/
import Derived.Test.YtmaopnbnbiediaaDoorLaid
import Derived.Test.YtmaopnbnbiediaaDoorProg
namespace Go.Proofs.YtmaopnbnbiediaaDoor
open Go.ChangeShapes Go.WideShapes Go.RowKit Go.Deep

theorem bulk_one {H : Type} (d : DataW H) : 1 ≤ Rows.uptoBulk d := by
  cases d with
  | lit l => cases l <;> simp [Rows.uptoBulk]
  | _ => simp [Rows.uptoBulk]
theorem bulk_two {H : Type} (l r : List (DataW H)) : Rows.uptoBulkAll (l ++ r) = Rows.uptoBulkAll l + Rows.uptoBulkAll r := by
  induction l with
  | nil => simp [Rows.uptoBulkAll]
  | cons x l ih => rw [List.cons_append, Rows.uptoBulkAll, Rows.uptoBulkAll, ih]; omega
theorem bulk_len {H : Type} (l : List (DataW H)) : l.length ≤ Rows.uptoBulkAll l := by
  induction l with
  | nil => simp
  | cons x l ih => have := bulk_one x; rw [Rows.uptoBulkAll, List.length_cons]; omega
theorem bulk_lits {H : Type} (a : Addr) (L : Nat) (zs : List Int) : (zs.take L).length + 1 ≤ Rows.uptoBulk (intRow (H := H) .i64 (some a) L zs) := by
  have h : (lits (H := H) .i64 (zs.take L)).length = (zs.take L).length := by simp [lits]
  have h1 := bulk_len (lits (H := H) .i64 (zs.take L))
  show _ ≤ Rows.uptoBulk (.slice (lits .i64 (zs.take L)) (lits .i64 (zs.drop L)))
  simp only [Rows.uptoBulk]
  omega
/-- Rows together: their letters, and how many they are. -/
theorem bulk_rows {H : Type} (len : Nat) (f : Nat → DataW H) (g : Nat → List Int) (h : ∀ r, r < len → (g r).length + 1 ≤ Rows.uptoBulk (f r)) : ((List.range len).map g).flatten.length + len ≤ Rows.uptoBulkAll ((List.range len).map f) := by
  induction len with
  | zero => simp
  | succ n ih =>
    have h1 := ih fun r hr => h r (by omega)
    have h2 := h n (by omega)
    rw [List.range_succ, List.map_append, List.map_append, List.flatten_append, List.length_append, bulk_two]
    have e1 : (List.map g [n]).flatten.length = (g n).length := by simp
    have e2 : Rows.uptoBulkAll (List.map f [n]) = Rows.uptoBulk (f n) := by simp [Rows.uptoBulkAll]
    rw [e1, e2]
    omega

/-- A slice of slices of numbers that comes in reads as rows. -/
theorem rows_of_trodU {H : Type} {enc : TypeId × Value → H} {W : World} {base : Nat} {held : Bool} {fuel : Nat} {cs : List Value} {x : DataW H × List MemPlace}
    (h : DataW.trod enc Tryd.prog W base (fun _ => true) held fuel 22 cs = some x) : ∃ v l, cs = [v] ∧ Rows W v l ∧ l.length ≤ Rows.uptoBulk x.1 ∧ l.flatten.length ≤ Rows.uptoBulk x.1 := by
  rcases open_int_rows Tryd.underlying22 Tryd.underlying42 Tryd.underlying3 Tryd.cellsOfInts Tryd.cellsOfInt h with ⟨rfl, _⟩ | ⟨a, len, cap, A, L, C, Z, rfl, _, hl, _, hxe, hx⟩
  · exact ⟨_, [], rfl, ⟨[], SliceIn.nil _ _, rfl, fun k u x hu => by simp at hu⟩, Nat.zero_le _, Nat.zero_le _⟩
  · refine ⟨_, (List.range len).map fun r => (Z r).take (L r), rfl, ⟨(List.range len).map fun r => .slice (A r) (L r) (C r), ⟨some a, cap, by simp, ⟨by simpa using hl, fun h => by cases h⟩, fun h0 => ?_⟩, by simp, fun k u x hu hx' => ?_⟩, ?_⟩
    · simp at h0
      have hs := World.cell?_spot (hx 0 (by omega)).1
      obtain ⟨b, o, sp⟩ := a
      have hs' : sp = none := by simpa [Addr.add] using hs
      subst hs'
      refine ⟨b, o, rfl, trivial, fun k u hu => ?_⟩
      simp only [List.getElem?_map] at hu
      rcases Nat.lt_or_ge k len with hk | hk
      · rw [List.getElem?_range hk] at hu
        obtain rfl := Option.some.inj hu
        rw [← Addr.add_lit]
        exact (hx k (by omega)).1
      · rw [List.getElem?_eq_none (by simpa using hk)] at hu; cases hu
    · simp only [List.getElem?_map] at hu hx'
      rcases Nat.lt_or_ge k len with hk | hk
      · rw [List.getElem?_range hk] at hu hx'
        obtain rfl := Option.some.inj hu
        obtain rfl := Option.some.inj hx'
        obtain ⟨_, h1, _, h3, _, h5, h6⟩ := hx k (by omega)
        have hlen : ((Z k).take (L k)).length = L k := by rw [List.length_take]; omega
        refine ⟨A k, C k, by simp [Nat.min_eq_left (show L k ≤ (Z k).length by omega)], ⟨by simp; omega, h5⟩, fun h0 => ?_⟩
        simp at h0
        cases hA : A k with
        | none => have := h5 hA; omega
        | some a' =>
          obtain ⟨_, hc⟩ := h6 a' hA
          have hs := World.cell?_spot (hc 0 (by omega))
          obtain ⟨b, o, sp⟩ := a'
          have hs' : sp = none := by simpa [Addr.add] using hs
          subst hs'
          refine ⟨b, o, rfl, trivial, fun j u hu => ?_⟩
          simp only [List.getElem?_map, List.getElem?_take] at hu
          split at hu
          · rename_i hj
            have := hc j (by omega)
            rw [Addr.add_lit] at this
            rw [this]
            rw [List.getElem?_eq_getElem (show j < (Z k).length by omega)] at hu
            obtain rfl := Option.some.inj hu
            simp [List.getD, List.getElem?_eq_getElem (show j < (Z k).length by omega)]
          · cases hu
      · rw [List.getElem?_eq_none (by simpa using hk)] at hu; cases hu

    · have hb := bulk_rows (H := H) len (fun r => intRow .i64 (A r) (L r) (Z r)) (fun r => (Z r).take (L r)) (fun r hr => by
        obtain ⟨_, _, _, h3, _, h5, _⟩ := hx r (by omega)
        cases hA : A r with
        | none =>
          have : (Z r).length = 0 := by rw [h3]; exact h5 hA
          have hz : (Z r).take (L r) = [] := by rw [List.eq_nil_of_length_eq_zero this]; simp
          rw [hz]
          exact bulk_one _
        | some a' => exact bulk_lits _ _ _)
      have hs : Rows.uptoBulkAll ((List.range len).map fun r => intRow (H := H) .i64 (A r) (L r) (Z r)) ≤ Rows.uptoBulk x.1 := by
        rw [hxe]
        simp only [Rows.uptoBulk]
        omega
      refine ⟨?_, ?_⟩
      · rw [List.length_map, List.length_range]
        omega
      · omega
end Go.Proofs.YtmaopnbnbiediaaDoor

namespace Go.Proofs.YtmaopnbnbiediaaDoor

/-- Two classes become one. -/
def joinC (cls : Nat → Nat) (p : Nat × Nat) : Nat → Nat := fun i => if cls i = max (cls p.1) (cls p.2) then min (cls p.1) (cls p.2) else cls i
def joinAll (J : List (Nat × Nat)) : Nat → Nat := J.foldl joinC id
theorem joinAll_snoc (J : List (Nat × Nat)) (p : Nat × Nat) : joinAll (J ++ [p]) = joinC (joinAll J) p := by unfold joinAll; rw [List.foldl_append]; rfl

/-- What a function that tells classes is. -/
structure Cls (cls : Nat → Nat) : Prop where
  le : ∀ i, cls i ≤ i
  idem : ∀ i, cls (cls i) = cls i

theorem Cls.id : Cls (fun i => i) := ⟨fun _ => Nat.le_refl _, fun _ => rfl⟩
theorem joinC_eq {cls : Nat → Nat} {p : Nat × Nat} (i : Nat) (h : cls i ≠ max (cls p.1) (cls p.2)) : joinC cls p i = cls i := if_neg h
theorem joinC_max {cls : Nat → Nat} {p : Nat × Nat} (i : Nat) (h : cls i = max (cls p.1) (cls p.2)) : joinC cls p i = min (cls p.1) (cls p.2) := if_pos h
theorem Cls.join {cls : Nat → Nat} (h : Cls cls) (p : Nat × Nat) : Cls (joinC cls p) := by
  have h1 := h.idem p.1
  have h2 := h.idem p.2
  refine ⟨fun i => ?_, fun i => ?_⟩
  · have := h.le i
    unfold joinC
    split <;> omega
  · by_cases e : cls i = max (cls p.1) (cls p.2)
    · rw [joinC_max i e]
      have hm : cls (min (cls p.1) (cls p.2)) = min (cls p.1) (cls p.2) := by rcases Nat.le_total (cls p.1) (cls p.2) with hl | hl <;> simp [Nat.min_eq_left, Nat.min_eq_right, hl, h1, h2]
      unfold joinC
      rw [hm]
      split <;> omega
    · rw [joinC_eq i e]
      unfold joinC
      rw [h.idem i, if_neg e]

theorem cls_all (J : List (Nat × Nat)) : Cls (joinAll J) := by
  have : ∀ (J : List (Nat × Nat)) (c : Nat → Nat), Cls c → Cls (J.foldl joinC c) := fun J => by
    induction J with
    | nil => exact fun c h => h
    | cons p J ih => exact fun c h => ih _ (h.join p)
  exact this J _ Cls.id

/-- What was one class stays one. -/
theorem joinC_keeps {cls : Nat → Nat} (p : Nat × Nat) {i j : Nat} (h : cls i = cls j) : joinC cls p i = joinC cls p j := by unfold joinC; rw [h]
theorem joinC_joins {cls : Nat → Nat} (p : Nat × Nat) : joinC cls p p.1 = joinC cls p p.2 := by
  unfold joinC
  split <;> split <;> omega
theorem fold_keeps (J : List (Nat × Nat)) : ∀ (c : Nat → Nat) {i j : Nat}, c i = c j → (J.foldl joinC c) i = (J.foldl joinC c) j := by
  induction J with
  | nil => exact fun c _ _ h => h
  | cons p J ih => exact fun c _ _ h => ih _ (joinC_keeps p h)
theorem joined {J : List (Nat × Nat)} {p : Nat × Nat} (h : p ∈ J) : joinAll J p.1 = joinAll J p.2 := by
  have : ∀ (J : List (Nat × Nat)) (c : Nat → Nat), p ∈ J → (J.foldl joinC c) p.1 = (J.foldl joinC c) p.2 := fun J => by
    induction J with
    | nil => exact fun c h => by cases h
    | cons q J ih =>
      intro c h
      rcases List.mem_cons.1 h with rfl | h
      · exact fold_keeps J _ (joinC_joins p)
      · exact ih _ h
  exact this J _ h

/-- What is the same of each joined pair is the same of a class. -/
theorem joined_same {α : Type} {J : List (Nat × Nat)} (f : Nat → α) (h : ∀ p ∈ J, f p.1 = f p.2) (i : Nat) : f (joinAll J i) = f i := by
  have : ∀ (J : List (Nat × Nat)) (c : Nat → Nat), (∀ p ∈ J, f p.1 = f p.2) → (∀ i, f (c i) = f i) → ∀ i, f ((J.foldl joinC c) i) = f i := fun J => by
    induction J with
    | nil => exact fun c _ h => h
    | cons q J ih =>
      refine fun c h hc => ih _ (fun p hp => h p (List.mem_cons_of_mem _ hp)) (fun i => ?_)
      have hq := h q (List.mem_cons_self ..)
      have e1 := hc q.1
      have e2 := hc q.2
      unfold joinC
      split
      · rename_i e
        rcases Nat.le_total (c q.1) (c q.2) with hl | hl
        · rw [Nat.min_eq_left hl, e1, hq, ← e2, ← hc i, e, Nat.max_eq_right hl]
        · rw [Nat.min_eq_right hl, e2, ← hq, ← e1, ← hc i, e, Nat.max_eq_left hl]
      · exact hc i
  exact this J _ h (fun _ => rfl) i

/-- What the program keeps: each number leads to a lesser one of its class, the least one to itself. -/
structure Leads (n : Nat) (c : Nat → Nat) (cls : Nat → Nat) : Prop where
  is : Cls cls
  le : ∀ i, i < n → c i ≤ i
  one : ∀ i, i < n → cls (c i) = cls i
  top : ∀ i, i < n → c i = i → cls i = i
  self : ∀ i, i < n → cls i = i → c i = i

theorem Leads.new (n : Nat) : Leads n (fun i => i) (fun i => i) := ⟨Cls.id, fun _ _ => Nat.le_refl _, fun _ _ => rfl, fun _ _ _ => rfl, fun _ _ _ => rfl⟩
theorem Leads.join {n : Nat} {c cls : Nat → Nat} (h : Leads n c cls) {p : Nat × Nat} (_h1 : p.1 < n) (_h2 : p.2 < n) :
    Leads n (fun i => if i = max (cls p.1) (cls p.2) then min (cls p.1) (cls p.2) else c i) (joinC cls p) := by
  have l1 := h.is.le p.1
  have l2 := h.is.le p.2
  have i1 := h.is.idem p.1
  have i2 := h.is.idem p.2
  have hM : cls (max (cls p.1) (cls p.2)) = max (cls p.1) (cls p.2) := by rcases Nat.le_total (cls p.1) (cls p.2) with hl | hl <;> simp [Nat.max_eq_left, Nat.max_eq_right, hl, i1, i2]
  have hm : cls (min (cls p.1) (cls p.2)) = min (cls p.1) (cls p.2) := by rcases Nat.le_total (cls p.1) (cls p.2) with hl | hl <;> simp [Nat.min_eq_left, Nat.min_eq_right, hl, i1, i2]
  refine ⟨h.is.join p, fun i hi => ?_, fun i hi => ?_, fun i hi e => ?_, fun i hi e => ?_⟩
  · have := h.le i hi
    split <;> omega
  · skip
    split
    · rename_i e
      unfold joinC
      rw [hm, e, hM, if_pos rfl]
      split <;> omega
    · exact joinC_keeps p (h.one i hi)
  · skip
    unfold joinC
    by_cases e1 : i = max (cls p.1) (cls p.2)
    · rw [if_pos e1] at e
      rw [e1, hM, if_pos rfl]
      omega
    · rw [if_neg e1] at e
      rw [h.top i hi e, if_neg e1]
  · skip
    unfold joinC at e
    by_cases e1 : i = max (cls p.1) (cls p.2)
    · rw [if_pos e1]
      rw [e1, hM, if_pos rfl] at e
      omega
    · rw [if_neg e1]
      by_cases e2 : cls i = max (cls p.1) (cls p.2)
      · rw [if_pos e2] at e
        have := h.is.le i
        omega
      · rw [if_neg e2] at e
        exact h.self i hi e

end Go.Proofs.YtmaopnbnbiediaaDoor
