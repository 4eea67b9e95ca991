/- A boundary's matrix as it is filled, column by column. -/
import Derived.Test.YtopopbhpclhinaaDoorBorderMath
namespace Go.Proofs.YtopopbhpclhinaaDoor

/-- What stands at a place when k columns are filled, and of the next one the first j parts. -/
def matTo (R C : List (List Int)) (k j idx : Nat) : Int :=
  if idx % C.length < k then entryI (R[idx / C.length]?.getD []) (C[idx % C.length]?.getD [])
  else if idx % C.length = k ∧ (List.range j).any (fun t => decide (R[idx / C.length]?.getD [] = (C[idx % C.length]?.getD []).eraseIdx t)) = true then entryI (R[idx / C.length]?.getD []) (C[idx % C.length]?.getD []) else 0
theorem matTo_start (R C : List (List Int)) (idx : Nat) : matTo R C 0 0 idx = 0 := by
  unfold matTo
  rw [if_neg (Nat.not_lt_zero _), if_neg (fun h => by simp at h)]
theorem get_inj {R : List (List Int)} (h : R.Nodup) {i j : Nat} (hi : i < R.length) (hj : j < R.length) (e : R[i]?.getD [] = R[j]?.getD []) : i = j := by
  rw [List.getElem?_eq_getElem hi, List.getElem?_eq_getElem hj] at e
  exact (List.getElem_inj h).1 e
theorem place {m i k : Nat} (hk : k < m) : (i * m + k) / m = i ∧ (i * m + k) % m = k := by
  have hm : 0 < m := by omega
  constructor
  · rw [Nat.mul_comm, Nat.mul_add_div hm, Nat.div_eq_of_lt hk]; rfl
  · rw [Nat.mul_comm, Nat.mul_add_mod, Nat.mod_eq_of_lt hk]
theorem place_row {m n idx : Nat} (h : idx < n * m) : idx / m < n := Nat.div_lt_of_lt_mul (by rw [Nat.mul_comm]; exact h)
theorem place_back {m i k idx : Nat} (h1 : idx / m = i) (h2 : idx % m = k) : idx = i * m + k := by
  have := Nat.div_add_mod idx m
  rw [h1, h2, Nat.mul_comm] at this
  exact this.symm
/-- One more part. -/
theorem matTo_step {R C : List (List Int)} (hR : R.Nodup) {k j ri : Nat} (hk : k < C.length) (hri : ri < R.length) (hc : Rising (C[k]?.getD [])) (hj : j < (C[k]?.getD []).length) (he : R[ri]?.getD [] = (C[k]?.getD []).eraseIdx j) {idx : Nat} (hidx : idx < R.length * C.length) :
    matTo R C k (j + 1) idx = if idx = ri * C.length + k then sg j else matTo R C k j idx := by
  by_cases h : idx = ri * C.length + k
  · rw [if_pos h]
    obtain ⟨p1, p2⟩ := place (i := ri) hk
    unfold matTo
    have hany : (List.range (j + 1)).any (fun t => decide (R[ri]?.getD [] = (C[k]?.getD []).eraseIdx t)) = true := List.any_eq_true.2 ⟨j, List.mem_range.2 (by omega), decide_eq_true he⟩
    rw [h, p1, p2, if_neg (Nat.lt_irrefl _), if_pos ⟨rfl, hany⟩, he, entry_erase hc hj]
  · rw [if_neg h]
    unfold matTo
    by_cases h1 : idx % C.length < k
    · rw [if_pos h1, if_pos h1]
    · rw [if_neg h1, if_neg h1]
      by_cases h2 : idx % C.length = k
      · have hne : ¬ R[idx / C.length]?.getD [] = (C[k]?.getD []).eraseIdx j := fun e => h (place_back (get_inj hR (place_row hidx) hri (e.trans he.symm)) h2)
        have e1 : (List.range (j + 1)).any (fun t => decide (R[idx / C.length]?.getD [] = (C[idx % C.length]?.getD []).eraseIdx t)) = (List.range j).any (fun t => decide (R[idx / C.length]?.getD [] = (C[idx % C.length]?.getD []).eraseIdx t)) := by
          rw [List.range_succ, List.any_append, h2]
          simp [hne]
        rw [e1]
      · rw [if_neg (fun h => h2 h.1), if_neg (fun h => h2 h.1)]
/-- A column is full. -/
theorem matTo_full {R C : List (List Int)} {k n idx : Nat} (_hk : k < C.length) (hr : ∀ r ∈ R, Rising r ∧ r ≠ []) (hc : Rising (C[k]?.getD [])) (hn : n = (C[k]?.getD []).length ∨ (C[k]?.getD []).length = 1) (hidx : idx < R.length * C.length) : matTo R C k n idx = matTo R C (k + 1) 0 idx := by
  unfold matTo
  by_cases h1 : idx % C.length < k
  · rw [if_pos h1, if_pos (by omega)]
  · rw [if_neg h1]
    by_cases h2 : idx % C.length = k
    · rw [if_pos (show idx % C.length < k + 1 by omega)]
      split
      · rfl
      · rename_i h3
        have hrow := place_row hidx
        have hm : R[idx / C.length]?.getD [] ∈ R := by rw [List.getElem?_eq_getElem hrow]; exact List.getElem_mem hrow
        rw [h2] at h3 ⊢
        refine (entry_zero (hr _ hm).1 hc (fun t ht e => ?_)).symm
        rcases hn with hn | hn
        · exact h3 ⟨rfl, List.any_eq_true.2 ⟨t, List.mem_range.2 (by omega), decide_eq_true e⟩⟩
        · refine (hr _ hm).2 ?_
          rw [e]
          obtain ⟨v, hv⟩ := List.length_eq_one_iff.1 hn
          rw [hv] at ht ⊢
          have : t = 0 := by simpa using ht
          rw [this]; rfl
    · rw [if_neg (fun h => h2 h.1), if_neg (by omega), if_neg (fun h => by simp at h)]
theorem matTo_all {R C : List (List Int)} {idx : Nat} (hidx : idx < R.length * C.length) : (borderI R C)[idx]? = some (matTo R C C.length 0 idx) := by
  have hm : 0 < C.length := by
    rcases Nat.eq_zero_or_pos C.length with h | h
    · rw [h] at hidx; simp at hidx
    · exact h
  have h1 := Nat.mod_lt idx hm
  have h2 := border_get (R := R) (C := C) (place_row hidx) h1
  rw [← place_back rfl rfl] at h2
  rw [h2]
  unfold matTo
  rw [if_pos h1]

theorem ints_erase (f : List UInt8) (j : Nat) : ints (f.eraseIdx j) = (ints f).eraseIdx j := by
  unfold ints
  induction f generalizing j with
  | nil => simp
  | cons x f ih =>
    cases j with
    | zero => rfl
    | succ j => simp only [List.eraseIdx_cons_succ, List.map_cons]; rw [ih]

end Go.Proofs.YtopopbhpclhinaaDoor
