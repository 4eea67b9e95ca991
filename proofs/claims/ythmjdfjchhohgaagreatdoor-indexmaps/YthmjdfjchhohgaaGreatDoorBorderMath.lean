/- Boundaries: what stands in the matrix, and that a boundary has none. -/
import Derived.Test.YthmjdfjchhohgaaGreatDoorMathV
namespace Go.Proofs.YthmjdfjchhohgaaGreatDoor

/-- The sign of a part in a face: by the place of the first vertex that it lacks. -/
def signI (c r : List Int) : Int := match c.findIdx? (fun v => !r.contains v) with
  | some i => sg i
  | none => 0
/-- What stands in a boundary's matrix. -/
def entryI (r c : List Int) : Int := if r.length + 1 = c.length ∧ ∀ v ∈ r, v ∈ c then signI c r else 0
/-- The matrix, row by row. -/
def borderI (R C : List (List Int)) : List Int := R.flatMap (fun r => C.map (fun c => entryI r c))

theorem sg_small (i : Nat) : -1 ≤ sg i ∧ sg i ≤ 1 := by unfold sg; omega
theorem sg_next (i : Nat) : sg (i + 1) = -sg i := by unfold sg; omega
theorem entry_small (r c : List Int) : -1 ≤ entryI r c ∧ entryI r c ≤ 1 := by
  unfold entryI
  split
  · unfold signI
    split
    · exact sg_small _
    · omega
  · omega

theorem erase_mem {c : List Int} (hc : c.Nodup) {j : Nat} (hj : j < c.length) (v : Int) : v ∈ c.eraseIdx j ↔ v ∈ c ∧ v ≠ c[j] := by
  rw [List.mem_eraseIdx_iff_getElem]
  constructor
  · rintro ⟨i, hi, hne, rfl⟩
    exact ⟨List.getElem_mem hi, fun e => hne ((List.getElem_inj hc).1 e)⟩
  · rintro ⟨hv, hne⟩
    obtain ⟨i, hi, rfl⟩ := List.mem_iff_getElem.1 hv
    exact ⟨i, hi, fun e => hne (by subst e; rfl), rfl⟩
theorem sign_erase {c : List Int} (hc : c.Nodup) {j : Nat} (hj : j < c.length) : signI c (c.eraseIdx j) = sg j := by
  have h : c.findIdx? (fun v => !(c.eraseIdx j).contains v) = some j := by
    rw [List.findIdx?_eq_some_iff_getElem]
    refine ⟨hj, ?_, fun i hi => ?_⟩
    · have : (c.eraseIdx j).contains c[j] = false := by
        cases e : (c.eraseIdx j).contains c[j]
        · rfl
        · exact absurd rfl ((erase_mem hc hj _).1 (List.contains_iff_mem.1 e)).2
      rw [this]; rfl
    · have hin : (c.eraseIdx j).contains c[i] = true := List.contains_iff_mem.2 ((erase_mem hc hj _).2 ⟨List.getElem_mem _, fun e => by
        have := (List.getElem_inj hc).1 e
        omega⟩)
      rw [hin]; decide
  unfold signI
  rw [h]
theorem entry_erase {c : List Int} (hc : Rising c) {j : Nat} (hj : j < c.length) : entryI (c.eraseIdx j) c = sg j := by
  have hn := rising_nodup hc
  unfold entryI
  rw [if_pos ⟨by rw [List.length_eraseIdx_of_lt hj]; omega, fun v hv => ((erase_mem hn hj v).1 hv).1⟩, sign_erase hn hj]
theorem part_erase {r c : List Int} (hr : Rising r) (hc : Rising c) (hl : r.length + 1 = c.length) (hs : ∀ v ∈ r, v ∈ c) : ∃ j, j < c.length ∧ r = c.eraseIdx j := by
  have hsub := rising_sub hr hc hs
  obtain ⟨j, hj, hsj⟩ := sub_part hsub (by omega)
  exact ⟨j, hj, hsj.eq_of_length (by rw [List.length_eraseIdx_of_lt hj]; omega)⟩
theorem entry_zero {r c : List Int} (hr : Rising r) (hc : Rising c) (h : ∀ j, j < c.length → r ≠ c.eraseIdx j) : entryI r c = 0 := by
  unfold entryI
  split
  · rename_i h1
    obtain ⟨j, hj, e⟩ := part_erase hr hc h1.1 h1.2
    exact absurd e (h j hj)
  · rfl
theorem erase_inj {c : List Int} (hc : Rising c) {i j : Nat} (hi : i < c.length) (hj : j < c.length) (h : c.eraseIdx i = c.eraseIdx j) : i = j := by
  have hn := rising_nodup hc
  rcases Nat.lt_trichotomy i j with h1 | h1 | h1
  · have h2 := (erase_mem hn hj c[i]).2 ⟨List.getElem_mem hi, fun e => by have := (List.getElem_inj hn).1 e; omega⟩
    rw [← h] at h2
    exact absurd rfl ((erase_mem hn hi _).1 h2).2
  · exact h1
  · have h2 := (erase_mem hn hi c[j]).2 ⟨List.getElem_mem hj, fun e => by have := (List.getElem_inj hn).1 e; omega⟩
    rw [h] at h2
    exact absurd rfl ((erase_mem hn hj _).1 h2).2

/-- Sums. -/
def sumTo (f : Nat → Int) : Nat → Int
  | 0 => 0
  | n + 1 => sumTo f n + f n
theorem sumTo_congr {f g : Nat → Int} : ∀ (n : Nat), (∀ i, i < n → f i = g i) → sumTo f n = sumTo g n
  | 0, _ => rfl
  | n + 1, h => by simp only [sumTo]; rw [sumTo_congr n (fun i hi => h i (by omega)), h n (by omega)]
theorem sumTo_zero {f : Nat → Int} : ∀ (n : Nat), (∀ i, i < n → f i = 0) → sumTo f n = 0
  | 0, _ => rfl
  | n + 1, h => by simp only [sumTo]; rw [sumTo_zero n (fun i hi => h i (by omega)), h n (by omega)]; rfl
theorem sumTo_add (f g : Nat → Int) : ∀ n, sumTo (fun i => f i + g i) n = sumTo f n + sumTo g n
  | 0 => rfl
  | n + 1 => by simp only [sumTo]; rw [sumTo_add f g n]; omega
theorem sumTo_small {f : Nat → Int} {b : Int} (h : ∀ i, -b ≤ f i ∧ f i ≤ b) : ∀ n : Nat, -(n * b) ≤ sumTo f n ∧ sumTo f n ≤ n * b
  | 0 => by simp [sumTo]
  | n + 1 => by
    have h1 := sumTo_small h n
    have h2 := h n
    simp only [sumTo]
    have : ((n + 1 : Nat) : Int) * b = n * b + b := by rw [Int.natCast_add, Int.add_mul]; simp
    rw [this]; omega
theorem sumTo_one {f : Nat → Int} {n k : Nat} (hk : k < n) (h : ∀ i, i < n → i ≠ k → f i = 0) : sumTo f n = f k := by
  induction n with
  | zero => omega
  | succ n ih =>
    simp only [sumTo]
    by_cases e : k = n
    · subst e
      rw [sumTo_zero k (fun i hi => h i (by omega) (by omega))]; omega
    · rw [ih (by omega) (fun i hi hne => h i (by omega) hne), h n (by omega) (fun e' => e e'.symm)]; omega
/-- A sum over a triangle and what stands opposite. -/
theorem triangle {F : Nat → Nat → Int} (h : ∀ i j, i ≤ j → F i j + F (j + 1) i = 0) : ∀ n, sumTo (fun i => sumTo (F i) n) (n + 1) = 0
  | 0 => rfl
  | n + 1 => by
    have ih := triangle h n
    have e1 : sumTo (fun i => sumTo (F i) (n + 1)) (n + 1 + 1) = sumTo (fun i => sumTo (F i) n) (n + 1) + sumTo (fun i => F i n) (n + 1) + sumTo (F (n + 1)) (n + 1) := by
      rw [show sumTo (fun i => sumTo (F i) (n + 1)) (n + 1 + 1) = sumTo (fun i => sumTo (F i) (n + 1)) (n + 1) + sumTo (F (n + 1)) (n + 1) from rfl]
      rw [show (fun i => sumTo (F i) (n + 1)) = (fun i => sumTo (F i) n + F i n) from rfl, sumTo_add]
    have e2 : sumTo (fun i => F i n) (n + 1) + sumTo (F (n + 1)) (n + 1) = 0 := by
      rw [← sumTo_add]
      exact sumTo_zero _ (fun i hi => h i n (by omega))
    rw [e1, ih]; omega

theorem erase_two {α : Type} (c : List α) : ∀ (i j : Nat), i ≤ j → (c.eraseIdx i).eraseIdx j = (c.eraseIdx (j + 1)).eraseIdx i := by
  induction c with
  | nil => intro i j _; simp
  | cons x c ih =>
    intro i j h
    cases i with
    | zero => simp
    | succ i =>
      cases j with
      | zero => omega
      | succ j => simp only [List.eraseIdx_cons_succ]; rw [ih i j (by omega)]

theorem entry_sum {r e : List Int} (hr : Rising r) (he : Rising e) : entryI r e = sumTo (fun j => if r = e.eraseIdx j then sg j else 0) e.length := by
  by_cases h : ∃ j, j < e.length ∧ r = e.eraseIdx j
  · obtain ⟨j, hj, rfl⟩ := h
    rw [entry_erase he hj, sumTo_one hj (fun i hi hne => if_neg (fun h => hne (erase_inj he hi hj h.symm))), if_pos rfl]
  · rw [entry_zero hr he (fun j hj e' => h ⟨j, hj, e'⟩)]
    exact (sumTo_zero _ (fun j hj => if_neg (fun e' => h ⟨j, hj, e'⟩))).symm
/-- A boundary has none: over the places of a face. -/
theorem border_border {r c : List Int} (hr : Rising r) (hc : Rising c) : sumTo (fun i => entryI r (c.eraseIdx i) * sg i) c.length = 0 := by
  cases hn : c.length with
  | zero => rfl
  | succ n =>
    rw [← triangle (F := fun i j => (if r = (c.eraseIdx i).eraseIdx j then sg j else 0) * sg i) ?_ n]
    · refine sumTo_congr _ (fun i hi => ?_)
      rw [entry_sum hr (hc.sublist (List.eraseIdx_sublist c i)), List.length_eraseIdx_of_lt (by omega), hn, Nat.add_sub_cancel]
      have : ∀ (f : Nat → Int) (b : Int) n, sumTo f n * b = sumTo (fun j => f j * b) n := by
        intro f b n
        induction n with
        | zero => simp [sumTo]
        | succ n ih => simp only [sumTo]; rw [Int.add_mul, ih]
      exact this _ _ _
    · intro i j h
      show (if r = (c.eraseIdx i).eraseIdx j then sg j else 0) * sg i + (if r = (c.eraseIdx (j + 1)).eraseIdx i then sg i else 0) * sg (j + 1) = 0
      rw [erase_two c i j h]
      split
      · rw [sg_next, Int.mul_neg, Int.mul_comm (sg i)]; omega
      · simp

/-- A sum over a list. -/
def sumL (h : List Int → Int) : List (List Int) → Int
  | [] => 0
  | x :: l => h x + sumL h l
theorem sumL_perm {h : List Int → Int} {l m : List (List Int)} (hp : l.Perm m) : sumL h l = sumL h m := by
  induction hp with
  | nil => rfl
  | cons x _ ih => simp only [sumL]; omega
  | swap x y l => simp only [sumL]; omega
  | trans _ _ h1 h2 => omega
theorem sumL_filter {h : List Int → Int} {p : List Int → Bool} {l : List (List Int)} (hz : ∀ x ∈ l, p x = false → h x = 0) : sumL h l = sumL h (l.filter p) := by
  induction l with
  | nil => rfl
  | cons x l ih =>
    have ih' := ih (fun y hy => hz y (by simp [hy]))
    cases e : p x with
    | true => rw [List.filter_cons_of_pos e]; simp only [sumL]; omega
    | false => rw [List.filter_cons_of_neg (by rw [e]; decide)]; simp only [sumL]; rw [hz x (by simp) e]; omega
theorem sumL_index (h : List Int → Int) : ∀ (l : List (List Int)), sumL h l = sumTo (fun i => h (l[i]?.getD [])) l.length := by
  have key : ∀ (m l : List (List Int)), sumTo (fun i => h ((m ++ l)[i]?.getD [])) m.length + sumL h l = sumTo (fun i => h ((m ++ l)[i]?.getD [])) (m ++ l).length := by
    intro m l
    induction l generalizing m with
    | nil => simp [sumL]
    | cons x l ih =>
      have := ih (m ++ [x])
      rw [List.append_assoc, List.singleton_append] at this
      rw [← this]
      simp only [sumL, List.length_append, List.length_singleton, sumTo]
      rw [List.getElem?_append_right (Nat.le_refl _)]
      simp
      omega
  intro l
  have := key [] l
  simpa [sumTo] using this
theorem sumL_map (h : List Int → Int) (f : Nat → List Int) (n : Nat) : sumL h ((List.range n).map f) = sumTo (fun i => h (f i)) n := by
  rw [sumL_index, List.length_map, List.length_range]
  exact sumTo_congr n (fun i hi => by simp [hi])

/-- A boundary has none: over all faces of one dimension. -/
theorem border_none {E : List (List Int)} {r c : List Int} (hE : E.Nodup) (hEr : ∀ e ∈ E, Rising e) (hr : Rising r) (hc : Rising c) (hin : ∀ i, i < c.length → c.eraseIdx i ∈ E) : sumTo (fun i => entryI r (E[i]?.getD []) * entryI (E[i]?.getD []) c) E.length = 0 := by
  rw [← sumL_index (fun e => entryI r e * entryI e c) E]
  have hP : ((List.range c.length).map c.eraseIdx).Nodup := List.pairwise_map.2 (List.Pairwise.imp_of_mem (fun {i j} hi hj hne e => hne (erase_inj hc (List.mem_range.1 hi) (List.mem_range.1 hj) e)) List.nodup_range)
  rw [sumL_filter (p := fun e => decide (e ∈ (List.range c.length).map c.eraseIdx)) (fun e he hf => by
    have hf' := of_decide_eq_false hf
    rw [entry_zero (hEr e he) hc (fun j hj e' => hf' (List.mem_map.2 ⟨j, List.mem_range.2 hj, e'.symm⟩))]; simp)]
  have hperm : (E.filter (fun e => decide (e ∈ (List.range c.length).map c.eraseIdx))).Perm ((List.range c.length).map c.eraseIdx) :=
    (List.perm_ext_iff_of_nodup (hE.sublist List.filter_sublist) hP).2 (fun e => by
      rw [List.mem_filter, decide_eq_true_eq]
      refine ⟨fun h => h.2, fun h => ⟨?_, h⟩⟩
      obtain ⟨i, hi, rfl⟩ := List.mem_map.1 h
      exact hin i (List.mem_range.1 hi))
  rw [sumL_perm hperm, sumL_map, ← border_border hr hc]
  exact sumTo_congr _ (fun i hi => by rw [entry_erase hc hi])

theorem border_length (R C : List (List Int)) : (borderI R C).length = R.length * C.length := by
  unfold borderI
  induction R with
  | nil => simp
  | cons r R ih => rw [List.flatMap_cons, List.length_append, ih]; simp [Nat.succ_mul]; omega
theorem border_get {R C : List (List Int)} {i k : Nat} (hi : i < R.length) (hk : k < C.length) : (borderI R C)[i * C.length + k]? = some (entryI (R[i]?.getD []) (C[k]?.getD [])) := by
  unfold borderI
  induction R generalizing i with
  | nil => simp at hi
  | cons r R ih =>
    rw [List.flatMap_cons]
    cases i with
    | zero =>
      rw [Nat.zero_mul, Nat.zero_add, List.getElem?_append_left (by simpa using hk)]
      simp [hk]
    | succ i =>
      rw [List.getElem?_append_right (by simp [Nat.succ_mul]; omega)]
      have e : (i + 1) * C.length + k - (C.map (fun c => entryI r c)).length = i * C.length + k := by simp [Nat.succ_mul]; omega
      rw [e, ih (by simpa using hi)]
      simp

end Go.Proofs.YthmjdfjchhohgaaGreatDoor
