/- SPERNER: the doors of the rim are an odd number. No Go here. -/
import Derived.Test.YtbohobelbgbibaaDoorLabOdd2
namespace Go.Proofs.YtbohobelbgbibaaDoor

def side0 (p q : Spt) : Bool := nearN p q && (Nat.beq p.2.2 0 && Nat.beq q.2.2 0)
def idxS (n i : Nat) : Nat := (spotsL n).idxOf (i, n - i, 0)
def sideL (n : Nat) : List (Nat × Nat) := (List.range n).map fun i => (idxS n i, idxS n (i + 1))
def inP (x y : Nat) (L : List (Nat × Nat)) : Bool := L.any fun p => Nat.beq p.1 x && Nat.beq p.2 y
def sideRow (l : List Spt) (L : List (Nat × Nat)) (x : Nat) (p : Spt) : Nat → Bool
  | 0 => true
  | y + 1 => ((Nat.ble (x + 1) y && side0 p (spA l y)) == inP x y L) && sideRow l L x p y
def sideAll (l : List Spt) (L : List (Nat × Nat)) : Bool := (List.range l.length).all fun x => sideRow l L x (spA l x) l.length
theorem sideL_all : allN (fun n => sideAll (spotsL n) (sideL n) && (decide (sideL n).Nodup && (sideL n).all fun p => decide (p.1 < (spotsL n).length) && decide (p.2 < (spotsL n).length))) 12 = true := by decide +kernel
theorem inP_mem (x y : Nat) (L : List (Nat × Nat)) : inP x y L = decide ((x, y) ∈ L) := by
  unfold inP
  induction L with
  | nil => simp
  | cons p L ih =>
    obtain ⟨a, b⟩ := p
    rw [List.any_cons, ih, beqN, beqN]
    by_cases e : a = x
    · subst e
      by_cases f : b = y
      · subst f; simp
      · have f' : ¬ y = b := fun h => f h.symm
        simp [f, f']
    · have e' : ¬ x = a := fun h => e h.symm
      simp [e, e']
theorem sideRow_at {l : List Spt} {L : List (Nat × Nat)} {x : Nat} {p : Spt} : ∀ {m y : Nat}, sideRow l L x p m = true → y < m → (decide (x < y) && side0 p (spA l y)) = decide ((x, y) ∈ L)
  | m + 1, y, h, hy => by
    rw [sideRow, Bool.and_eq_true, beq_iff_eq] at h
    rcases Nat.lt_or_ge y m with k | k
    · exact sideRow_at h.2 k
    · obtain rfl : y = m := by omega
      rw [← inP_mem, ← h.1]
      congr 1
      by_cases e : x < y
      · rw [decide_eq_true e]; exact (Nat.ble_eq_true_of_le e).symm
      · rw [decide_eq_false e]
        cases e2 : Nat.ble (x + 1) y with
        | false => rfl
        | true => exact absurd (Nat.le_of_ble_eq_true e2) e
theorem xs_pairs {N : Nat} (f : Nat → Nat → Bool) : ∀ {L : List (Nat × Nat)}, L.Nodup → (∀ p ∈ L, p.1 < N ∧ p.2 < N) → xs (List.range N) (fun x => xs (List.range N) fun y => decide ((x, y) ∈ L) && f x y) = xs L fun p => f p.1 p.2
  | [], _, _ => by
    have : xs (List.range N) (fun x => xs (List.range N) fun y => decide ((x, y) ∈ ([] : List (Nat × Nat))) && f x y) = xs (List.range N) fun _ => false := xs_congr fun x _ => by
      rw [← xs_false (List.range N)]
      exact xs_congr fun y _ => by simp
    rw [this, xs_false]; rfl
  | (a, b) :: L, hnd, hr => by
    rw [List.nodup_cons] at hnd
    obtain ⟨ha, hb⟩ := hr (a, b) (List.mem_cons_self ..)
    have h1 : xs (List.range N) (fun x => xs (List.range N) fun y => decide ((x, y) ∈ (a, b) :: L) && f x y) = xs (List.range N) (fun x => xor ((x == a) && xs (List.range N) fun y => (y == b) && f x y) (xs (List.range N) fun y => decide ((x, y) ∈ L) && f x y)) := xs_congr fun x _ => by
      rw [← xs_and, ← xs_xor]
      refine xs_congr fun y _ => ?_
      by_cases e : x = a
      · by_cases g : y = b
        · subst e; subst g; simp [hnd.1]
        · rw [show (y == b) = false from beq_false_of_ne g]; simp [g]
      · rw [show (x == a) = false from beq_false_of_ne e]; simp [e]
    rw [h1, xs_xor, xs_one ha, xs_one hb, xs_pairs f hnd.2 fun p hp => hr p (List.mem_cons_of_mem _ hp), xs_cons]
theorem xs_steps (c : Nat → Bool) (n : Nat) : xs (List.range n) (fun i => xor (c i) (c (i + 1))) = xor (c 0) (c n) := by
  induction n with
  | zero => simp [xs]
  | succ n ih =>
    rw [List.range_succ, xs_append, ih]
    have : xs [n] (fun i => xor (c i) (c (i + 1))) = xor (c n) (c (n + 1)) := by simp [xs]
    rw [this]
    cases c 0 <;> cases c n <;> cases c (n + 1) <;> rfl
theorem idxS_at {n i : Nat} (hi : i ≤ n) : idxS n i < (spotsL n).length ∧ spA (spotsL n) (idxS n i) = (i, n - i, 0) := by
  have hm : (i, n - i, 0) ∈ spotsL n := by
    unfold spotsL allS rowS
    refine List.mem_flatMap.2 ⟨i, List.mem_range.2 (by omega), List.mem_map.2 ⟨n - i, List.mem_range.2 (by omega), ?_⟩⟩
    rw [Nat.sub_self]
  have hl := List.idxOf_lt_length_iff.2 hm
  refine ⟨hl, ?_⟩
  unfold spA idxS
  rw [List.getElem?_eq_getElem hl, List.getElem_idxOf hl]; rfl
/-- SPERNER. -/
theorem sperner {n : Nat} (_h1 : 1 ≤ n) (hn : n ≤ 12) {ls : List Int} (hg : ∀ j, j < (spotsL n).length → goodAt (spotsL n) ls j) : xs (smallL n) (fullR ls) = true := by
  have hl : ∀ j, j < (spotsL n).length → 0 ≤ labA ls j ∧ labA ls j ≤ 2 := fun j hj => by
    have := hg j hj
    unfold goodAt labOk at this
    omega
  have hok : ∀ j, j < (spotsL n).length → labOk (spA (spotsL n) j) (labA ls j) := fun j hj => hg j hj
  have hA := allN_at sideL_all hn
  rw [Bool.and_eq_true, Bool.and_eq_true] at hA
  obtain ⟨hA1, hA2, hA3⟩ := hA
  have hnd := of_decide_eq_true hA2
  have hlt : ∀ p ∈ sideL n, p.1 < (spotsL n).length ∧ p.2 < (spotsL n).length := fun p hp => by
    have := List.all_eq_true.1 hA3 p hp
    rw [Bool.and_eq_true, decide_eq_true_eq, decide_eq_true_eq] at this
    exact this
  rw [full_sum hl hn]
  have e1 : (xs (List.range (spotsL n).length) fun x => xs (List.range (spotsL n).length) fun y => (decide (x < y) && isDoor (labA ls x) (labA ls y)) && rimB (spA (spotsL n) x) (spA (spotsL n) y)) = xs (List.range (spotsL n).length) fun x => xs (List.range (spotsL n).length) fun y => decide ((x, y) ∈ sideL n) && isDoor (labA ls x) (labA ls y) := by
    refine xs_congr fun x hx => xs_congr fun y hy => ?_
    have hx' := List.mem_range.1 hx
    have hy' := List.mem_range.1 hy
    unfold sideAll at hA1
    have hrow := sideRow_at (List.all_eq_true.1 hA1 x hx) hy'
    rw [← hrow]
    have ox := hok x hx'
    have oy := hok y hy'
    unfold labOk at ox oy
    unfold rimB side0
    cases hd : isDoor (labA ls x) (labA ls y) with
    | false => simp
    | true =>
      unfold isDoor at hd
      simp only [Bool.or_eq_true, Bool.and_eq_true, beq_iff_eq] at hd
      have a1 : (Nat.beq (spA (spotsL n) x).1 0 && Nat.beq (spA (spotsL n) y).1 0) = false := by
        rw [beqN, beqN]
        by_cases k1 : (spA (spotsL n) x).1 = 0 <;> by_cases k2 : (spA (spotsL n) y).1 = 0 <;> simp [k1, k2]
        omega
      have a2 : (Nat.beq (spA (spotsL n) x).2.1 0 && Nat.beq (spA (spotsL n) y).2.1 0) = false := by
        rw [beqN, beqN]
        by_cases k1 : (spA (spotsL n) x).2.1 = 0 <;> by_cases k2 : (spA (spotsL n) y).2.1 = 0 <;> simp [k1, k2]
        omega
      rw [a1, a2]
      simp
  rw [e1, xs_pairs _ hnd hlt]
  unfold sideL
  rw [xs_map]
  have e2 : (xs (List.range n) fun i => isDoor (labA ls (idxS n i, idxS n (i + 1)).1) (labA ls (idxS n i, idxS n (i + 1)).2)) = xs (List.range n) fun i => xor (decide (labA ls (idxS n i) = 0)) (decide (labA ls (idxS n (i + 1)) = 0)) := xs_congr fun i hi => by
    have hi' := List.mem_range.1 hi
    have key : ∀ j, j ≤ n → labA ls (idxS n j) = 0 ∨ labA ls (idxS n j) = 1 := fun j hj => by
      obtain ⟨k1, k2⟩ := idxS_at hj
      have := hok _ k1
      rw [k2] at this
      unfold labOk at this
      dsimp only at this
      omega
    dsimp only
    rcases key i (by omega) with e | e <;> rcases key (i + 1) (by omega) with g | g <;> rw [e, g] <;> rfl
  rw [e2, xs_steps (fun i => decide (labA ls (idxS n i) = 0))]
  have c0 : labA ls (idxS n 0) ≠ 0 := by
    obtain ⟨k1, k2⟩ := idxS_at (Nat.zero_le n)
    have := hok _ k1
    rw [k2] at this
    unfold labOk at this
    dsimp only at this
    omega
  have cn : labA ls (idxS n n) = 0 := by
    obtain ⟨k1, k2⟩ := idxS_at (Nat.le_refl n)
    have := hok _ k1
    rw [k2] at this
    unfold labOk at this
    dsimp only at this
    omega
  rw [decide_eq_false c0, decide_eq_true cn]; rfl
/-- An odd number of small triangles is full. -/
theorem sperner_odd {n : Nat} (h1 : 1 ≤ n) (hn : n ≤ 12) {ls : List Int} (hg : ∀ j, j < (spotsL n).length → goodAt (spotsL n) ls j) : ((smallL n).countP (fullR ls)) % 2 = 1 := by
  have h := sperner h1 hn hg
  rw [xs_count] at h
  exact of_decide_eq_true h

end Go.Proofs.YtbohobelbgbibaaDoor
