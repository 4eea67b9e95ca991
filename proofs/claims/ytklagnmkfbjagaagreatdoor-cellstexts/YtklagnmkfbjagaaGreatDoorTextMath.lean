/- Texts of complexes: how the program reads one, how the document's answer does, byte by byte: the same. -/
import Derived.Test.YtklagnmkfbjagaaGreatDoorMath2
namespace Go.Proofs.YtklagnmkfbjagaaGreatDoor

/-- A digit, and its number. -/
def isD (c : UInt8) : Bool := decide (48 ≤ c.toNat) && decide (c.toNat ≤ 57)
def dv (c : UInt8) : Int := (c.toNat : Int) - 48
theorem isD_iff {c : UInt8} : isD c = true ↔ 48 ≤ c.toNat ∧ c.toNat ≤ 57 := by simp [isD]
theorem isD_not {c : UInt8} (h : isD c = true) : c ≠ 32 ∧ c ≠ 59 := by
  have := isD_iff.1 h
  exact ⟨fun e => by subst e; revert this; decide, fun e => by subst e; revert this; decide⟩

/-- How many blanks stand ahead. -/
def blanks : List UInt8 → Nat
  | [] => 0
  | c :: u => if c = 32 then blanks u + 1 else 0
/-- The number of two digits at most that stands ahead, and how many digits. -/
def num : List UInt8 → Int × Nat
  | [] => (0, 0)
  | c :: u => if isD c = true then
      match u with
      | [] => (dv c, 1)
      | d :: _ => if isD d = true then (10 * dv c + dv d, 2) else (dv c, 1)
    else (0, 0)
/-- The numbers that stand ahead, and how many bytes they take. -/
def rset : Nat → List Int → List UInt8 → List Int × Nat
  | 0, S, _ => (S, 0)
  | n + 1, S, u =>
    if (num u).2 = 0 then (S, 0)
    else if blanks (u.drop (num u).2) = 0 then (S ++ [(num u).1], (num u).2)
    else ((rset n (S ++ [(num u).1]) (u.drop ((num u).2 + blanks (u.drop (num u).2)))).1, (num u).2 + blanks (u.drop (num u).2) + (rset n (S ++ [(num u).1]) (u.drop ((num u).2 + blanks (u.drop (num u).2)))).2)

theorem blanks_le (u : List UInt8) : blanks u ≤ u.length := by
  induction u with
  | nil => exact Nat.le_refl _
  | cons c u ih =>
    simp only [blanks, List.length_cons]
    split <;> omega
theorem num_le (u : List UInt8) : (num u).2 ≤ u.length ∧ (num u).2 ≤ 2 := by
  cases u with
  | nil => simp [num]
  | cons c u =>
    simp only [num]
    split
    · cases u with
      | nil => simp
      | cons d u => simp only []; split <;> simp
    · simp
theorem num_small (u : List UInt8) : 0 ≤ (num u).1 ∧ (num u).1 ≤ 99 := by
  cases u with
  | nil => simp [num]
  | cons c u =>
    simp only [num]
    split
    · rename_i hc
      have h1 := isD_iff.1 hc
      cases u with
      | nil => simp only [dv]; omega
      | cons d u =>
        simp only []
        split
        · rename_i hd
          have h2 := isD_iff.1 hd
          simp only [dv]; omega
        · simp only [dv]; omega
    · simp
theorem blanks_drop (u : List UInt8) : ∀ c t, u.drop (blanks u) = c :: t → c ≠ 32 := by
  induction u with
  | nil => intro c t h; simp at h
  | cons d u ih =>
    intro c t h
    simp only [blanks] at h
    split at h
    · rw [List.drop_succ_cons] at h; exact ih c t h
    · rename_i hd
      rw [List.drop_zero, List.cons.injEq] at h
      rw [← h.1]; exact hd
theorem rset_le : ∀ (n : Nat) (S : List Int) (u : List UInt8), (rset n S u).2 ≤ u.length
  | 0, S, u => Nat.zero_le _
  | n + 1, S, u => by
    simp only [rset]
    have h1 := num_le u
    have h2 := blanks_le (u.drop (num u).2)
    rw [List.length_drop] at h2
    split
    · exact Nat.zero_le _
    · split
      · exact h1.1
      · have := rset_le n (S ++ [(num u).1]) (u.drop ((num u).2 + blanks (u.drop (num u).2)))
        rw [List.length_drop] at this
        simp only []
        omega
theorem rset_all : ∀ (n : Nat) (S : List Int) (u : List UInt8), (∀ v ∈ S, 0 ≤ v ∧ v ≤ 99) → ∀ v ∈ (rset n S u).1, 0 ≤ v ∧ v ≤ 99
  | 0, S, u, h => h
  | n + 1, S, u, h => by
    have h2 : ∀ v ∈ S ++ [(num u).1], 0 ≤ v ∧ v ≤ 99 := fun v hv => by
      rcases List.mem_append.1 hv with hv | hv
      · exact h v hv
      · rw [List.mem_singleton.1 hv]; exact num_small u
    simp only [rset]
    split
    · exact h
    · split
      · exact h2
      · exact rset_all n _ _ h2
theorem rset_len : ∀ (n : Nat) (S : List Int) (u : List UInt8), (rset n S u).1.length ≤ S.length + (rset n S u).2
  | 0, S, u => by simp [rset]
  | n + 1, S, u => by
    simp only [rset]
    split
    · simp
    · split
      · simp only [List.length_append, List.length_singleton]; omega
      · have := rset_len n (S ++ [(num u).1]) (u.drop ((num u).2 + blanks (u.drop (num u).2)))
        simp only [List.length_append, List.length_singleton] at this ⊢
        omega

/-- What reading tells: the place of a byte that cannot stand there, or the sets. -/
inductive Got where
  | bad (i : Nat)
  | sets (l : List (List Int))
/-- The sets that stand ahead. -/
def rd : Nat → List (List Int) → Nat → List UInt8 → Got
  | 0, _, at_, _ => .bad at_
  | n + 1, l, at_, u =>
    match (u.drop (blanks u)).drop (rset (u.length + 1) [] (u.drop (blanks u))).2 with
    | [] => if (rset (u.length + 1) [] (u.drop (blanks u))).1 = [] then .bad (at_ + blanks u + (rset (u.length + 1) [] (u.drop (blanks u))).2) else .sets (l ++ [(rset (u.length + 1) [] (u.drop (blanks u))).1])
    | c :: t => if (rset (u.length + 1) [] (u.drop (blanks u))).1 = [] ∨ c ≠ 59 then .bad (at_ + blanks u + (rset (u.length + 1) [] (u.drop (blanks u))).2) else rd n (l ++ [(rset (u.length + 1) [] (u.drop (blanks u))).1]) (at_ + blanks u + (rset (u.length + 1) [] (u.drop (blanks u))).2 + 1) t

/-- The number that is read is put to the set. -/
def flush (S : List Int) (n : Int) (d : Nat) : List Int := if 0 < d then S ++ [n] else S
/-- What the document's answer tells behind all bytes: the place, or what was read and whether anything but blanks was there. -/
inductive Left where
  | bad (i : Nat)
  | fin (l : List (List Int)) (S : List Int) (b : Bool)
/-- The document's answer, byte by byte. -/
def mach : List (List Int) → List Int → Int → Nat → Bool → Nat → List UInt8 → Left
  | l, S, n, d, b, _, [] => .fin l (flush S n d) b
  | l, S, n, d, b, i, c :: u =>
    if isD c = true then
      if d = 2 then .bad i else if d = 0 then mach l S (dv c) 1 true (i + 1) u else mach l S (n * 10 + dv c) 2 true (i + 1) u
    else if c = 32 then mach l (flush S n d) n 0 b (i + 1) u
    else if c = 59 then if flush S n d = [] then .bad i else mach (l ++ [flush S n d]) [] n 0 true (i + 1) u
    else .bad i

theorem mach_any (l : List (List Int)) (S : List Int) (n n' : Int) (b : Bool) (i : Nat) (u : List UInt8) : mach l S n 0 b i u = mach l S n' 0 b i u := by
  induction u generalizing l S b i with
  | nil => simp [mach, flush]
  | cons c u ih =>
    have hf : ∀ n, flush S n 0 = S := fun _ => if_neg (Nat.lt_irrefl 0)
    simp only [mach, hf]
    split
    · rfl
    · split
      · exact ih ..
      · split
        · split
          · rfl
          · exact ih ..
        · rfl
theorem mach_skip (l : List (List Int)) (S : List Int) (n : Int) (b : Bool) (i : Nat) (u : List UInt8) : mach l S n 0 b i u = mach l S n 0 b (i + blanks u) (u.drop (blanks u)) := by
  induction u generalizing i with
  | nil => rfl
  | cons c u ih =>
    simp only [blanks]
    split
    · rename_i hc
      subst hc
      rw [List.drop_succ_cons, show i + (blanks u + 1) = i + 1 + blanks u by omega, ← ih (i + 1)]
      simp [mach, flush, isD]
    · rfl
/-- Behind the numbers of a set. -/
def endS (l : List (List Int)) (S : List Int) (b : Bool) (i : Nat) : List UInt8 → Left
  | [] => .fin l S b
  | c :: t => if S = [] ∨ c ≠ 59 then .bad i else mach (l ++ [S]) [] 0 0 true (i + 1) t
/-- A number's digits. -/
theorem mach_num (l : List (List Int)) (S : List Int) (n : Int) (b : Bool) (i : Nat) (u : List UInt8) (h : (num u).2 ≠ 0) :
    mach l S n 0 b i u = mach l S (num u).1 (num u).2 true (i + (num u).2) (u.drop (num u).2) ∧ ((num u).2 = 1 → ∀ c t, u.drop 1 = c :: t → isD c = false) ∧ ((num u).2 = 1 ∨ (num u).2 = 2) := by
  cases u with
  | nil => simp [num] at h
  | cons c u =>
    simp only [num] at h ⊢
    split at h
    · rename_i hc
      rw [if_pos hc]
      cases u with
      | nil => exact ⟨by simp [mach, hc], fun _ c t e => by simp at e, .inl rfl⟩
      | cons d u =>
        simp only []
        cases hd : isD d
        · refine ⟨by simp [mach, hc], fun _ c t e => ?_, .inl (by simp)⟩
          simp only [List.drop_succ_cons, List.drop_zero, List.cons.injEq] at e
          rw [← e.1]; exact hd
        · refine ⟨?_, fun e => by simp at e, .inr (by simp)⟩
          simp only [if_true, List.drop_succ_cons, List.drop_zero]
          rw [mach, if_pos hc, if_neg (by omega), if_pos rfl, mach, if_pos hd, if_neg (by omega), if_neg (by omega), Int.mul_comm (dv c) 10]
    · exact absurd rfl h
theorem num_none {c : UInt8} {t : List UInt8} (h : (num (c :: t)).2 = 0) : isD c = false := by
  cases hc : isD c
  · rfl
  · simp only [num, hc, if_true] at h
    cases t with
    | nil => simp at h
    | cons d t => simp only [] at h; split at h <;> simp at h

theorem mach_set : ∀ (N : Nat) (l : List (List Int)) (S : List Int) (n : Int) (b : Bool) (i : Nat) (u : List UInt8), u.length < N → (∀ c t, u = c :: t → c ≠ 32) →
    mach l S n 0 b i u = endS l (rset N S u).1 (b || !u.isEmpty) (i + (rset N S u).2) (u.drop (rset N S u).2)
  | 0, _, _, _, _, _, _, h, _ => by omega
  | N + 1, l, S, n, b, i, u, h, hb => by
    by_cases hk : (num u).2 = 0
    · simp only [rset, if_pos hk, Nat.add_zero, List.drop_zero]
      cases u with
      | nil => simp [mach, endS, flush]
      | cons c t =>
        have h1 := num_none hk
        have h2 := hb c t rfl
        rw [mach, if_neg (by rw [h1]; simp), if_neg h2]
        simp only [endS, flush, Nat.lt_irrefl, if_false]
        by_cases hs : S = []
        · simp only [hs, if_true, true_or]
          split <;> rfl
        · by_cases h3 : c = 59
          · rw [if_pos h3, if_neg hs, if_neg (by simp [hs, h3])]; exact mach_any ..
          · rw [if_neg h3, if_pos (.inr h3)]
    · obtain ⟨h1, h2, h3⟩ := mach_num l S n b i u hk
      have hle := num_le u
      have hne : u ≠ [] := fun e => by subst e; simp [num] at hk
      have hbb : (b || !u.isEmpty) = true := by cases u with | nil => exact absurd rfl hne | cons c t => simp
      have hpos : 0 < (num u).2 := Nat.pos_of_ne_zero hk
      rw [h1, hbb]
      by_cases hm : blanks (u.drop (num u).2) = 0
      · simp only [rset, if_neg hk, if_pos hm]
        cases hr : u.drop (num u).2 with
        | nil => simp [mach, endS, flush, hpos]
        | cons c t =>
          have hc : c ≠ 32 := fun e => by rw [hr, e] at hm; simp [blanks] at hm
          simp only [endS, mach]
          by_cases hd : isD c = true
          · have h59 := (isD_not hd).2
            rcases h3 with e | e
            · have := h2 e c t (by rw [← e]; exact hr)
              rw [hd] at this; cases this
            · rw [if_pos hd, if_pos e, if_pos (Or.inr h59)]
          · rw [if_neg hd, if_neg hc]
            have hfl : flush S (num u).1 (num u).2 = S ++ [(num u).1] := if_pos hpos
            rw [hfl]
            by_cases h59 : c = 59
            · rw [if_pos h59, if_neg (by simp), if_neg (by simp [h59])]; exact mach_any ..
            · rw [if_neg h59, if_pos (.inr h59)]
      · simp only [rset, if_neg hk, if_neg hm]
        have hfl : flush S (num u).1 (num u).2 = S ++ [(num u).1] := if_pos hpos
        obtain ⟨r', hr⟩ : ∃ r', u.drop (num u).2 = 32 :: r' := by
          cases hr : u.drop (num u).2 with
          | nil => rw [hr] at hm; simp [blanks] at hm
          | cons c t =>
            by_cases hc : c = 32
            · exact ⟨t, by rw [hc]⟩
            · rw [hr] at hm; simp [blanks, hc] at hm
        have hbl : blanks (u.drop (num u).2) = blanks r' + 1 := by rw [hr]; simp [blanks]
        have hdr : u.drop ((num u).2 + blanks (u.drop (num u).2)) = r'.drop (blanks r') := by
          rw [← List.drop_drop, hbl, hr, List.drop_succ_cons]
        rw [hr, mach, if_neg (by decide), if_pos rfl, hfl, mach_skip, ← hr, hdr]
        have ih := mach_set N l (S ++ [(num u).1]) (num u).1 true (i + (num u).2 + 1 + blanks r') (r'.drop (blanks r')) (by
          have := congrArg List.length hdr
          rw [List.length_drop] at this
          omega) (blanks_drop r')
        rw [ih, Bool.true_or]
        have e1 : i + (num u).2 + 1 + blanks r' + (rset N (S ++ [(num u).1]) (r'.drop (blanks r'))).2 = i + ((num u).2 + blanks (u.drop (num u).2) + (rset N (S ++ [(num u).1]) (r'.drop (blanks r'))).2) := by omega
        rw [e1, ← hdr, List.drop_drop]

/-- What comes of it, in one way. -/
def outL (T : Nat) : Left → Option (Nat ⊕ List (List Int))
  | .bad i => some (.inl i)
  | .fin l S b => if b = false then none else if S = [] then some (.inl T) else some (.inr (l ++ [S]))
def outG : Got → Option (Nat ⊕ List (List Int))
  | .bad i => some (.inl i)
  | .sets l => some (.inr l)
theorem mach_rd : ∀ (N : Nat) (l : List (List Int)) (n : Int) (b : Bool) (i : Nat) (u : List UInt8), u.length < N → (b = true ∨ blanks u ≠ u.length) → outL (i + u.length) (mach l [] n 0 b i u) = outG (rd N l i u)
  | 0, _, _, _, _, _, h, _ => by omega
  | N + 1, l, n, b, i, u, h, hb => by
    have hbl := blanks_le u
    have hd : (u.drop (blanks u)).length < u.length + 1 := by rw [List.length_drop]; omega
    have hbb : (b || !(u.drop (blanks u)).isEmpty) = true := by
      rcases hb with rfl | hb
      · rfl
      · have : u.drop (blanks u) ≠ [] := fun e => by have := congrArg List.length e; rw [List.length_drop, List.length_nil] at this; omega
        cases hx : u.drop (blanks u) with
        | nil => exact absurd hx this
        | cons c t => simp
    rw [mach_skip, mach_set (u.length + 1) l [] n b (i + blanks u) (u.drop (blanks u)) hd (blanks_drop u), hbb]
    simp only [rd]
    have hle := rset_le (u.length + 1) [] (u.drop (blanks u))
    rw [List.length_drop] at hle
    cases hr : (u.drop (blanks u)).drop (rset (u.length + 1) [] (u.drop (blanks u))).2 with
    | nil =>
      have hT := congrArg List.length hr
      rw [List.length_drop, List.length_drop, List.length_nil] at hT
      simp only [endS, outL]
      by_cases hs : (rset (u.length + 1) [] (u.drop (blanks u))).1 = []
      · simp only [hs, if_true, outG, Bool.true_eq_false, if_false]
        congr 2; omega
      · simp only [hs, if_false, outG, Bool.true_eq_false]
    | cons c t =>
      have hT := congrArg List.length hr
      rw [List.length_drop, List.length_drop, List.length_cons] at hT
      simp only [endS]
      by_cases hs : (rset (u.length + 1) [] (u.drop (blanks u))).1 = [] ∨ c ≠ 59
      · rw [if_pos hs, if_pos hs]; rfl
      · rw [if_neg hs, if_neg hs, ← mach_rd N _ 0 true _ t (by omega) (.inl rfl)]
        congr 1
        omega
theorem begun_blanks (l : List (List Int)) (S : List Int) (n : Int) (i : Nat) (u : List UInt8) (h : blanks u = u.length) : mach l S n 0 false i u = .fin l S false := by
  rw [mach_skip, h, List.drop_length]
  simp [mach, flush]

end Go.Proofs.YtklagnmkfbjagaaGreatDoor
