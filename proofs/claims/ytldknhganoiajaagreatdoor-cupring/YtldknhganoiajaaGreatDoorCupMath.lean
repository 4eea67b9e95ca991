/- Words of 64 bits as sets of numbers: the least number, what is told, sums; spans of words, and two ways to see whether a word is in one. -/
import Derived.Lib.TrailingZeros
namespace Go.Proofs.YtldknhganoiajaaGreatDoor

/-- The least number of a word. -/
def low (x : Nat) : Nat := Lib.ctz 64 x

theorem low_bits {x : Nat} (h0 : x ≠ 0) (h : x < 2 ^ 64) : low x < 64 ∧ x.testBit (low x) = true ∧ ∀ j, j < low x → x.testBit j = false := by
  obtain ⟨m, hm, hk⟩ := Lib.ctzFrom_spec 64 x (by omega) h
  have e : low x = Lib.ctzFrom 64 x := by unfold low Lib.ctz; rw [if_neg h0]
  rw [e]
  refine ⟨hk, ?_, fun j hj => ?_⟩
  · generalize Lib.ctzFrom 64 x = k at hm
    rw [hm, Nat.mul_comm, Nat.testBit_mul_two_pow]
    simp [Nat.testBit_zero]
  · generalize Lib.ctzFrom 64 x = k at hm hj
    rw [hm, Nat.mul_comm, Nat.testBit_mul_two_pow]
    have : ¬ k ≤ j := by omega
    simp [this]
theorem low_zero : low 0 = 64 := rfl
theorem ne_zero_of_bit {x k : Nat} (h : x.testBit k = true) : x ≠ 0 := fun e => by rw [e] at h; simp at h
theorem bit_lt {x k : Nat} (h : x < 2 ^ 64) (hb : x.testBit k = true) : k < 64 := by
  rcases Nat.lt_or_ge k 64 with h1 | h1
  · exact h1
  · rw [Nat.testBit_lt_two_pow (Nat.lt_of_lt_of_le h (Nat.pow_le_pow_right (by decide) h1))] at hb; cases hb
theorem low_is {x k : Nat} (h : x < 2 ^ 64) (hb : x.testBit k = true) (hl : ∀ j, j < k → x.testBit j = false) : low x = k := by
  obtain ⟨h1, h2, h3⟩ := low_bits (ne_zero_of_bit hb) h
  rcases Nat.lt_trichotomy (low x) k with h4 | h4 | h4
  · rw [hl _ h4] at h2; cases h2
  · exact h4
  · rw [h3 _ h4] at hb; cases hb
theorem bits_zero {x : Nat} (h : ∀ k, x.testBit k = false) : x = 0 := Nat.eq_of_testBit_eq (fun k => by rw [h k]; simp)
theorem xor_lt {x y n : Nat} (hx : x < 2 ^ n) (hy : y < 2 ^ n) : x ^^^ y < 2 ^ n := Nat.xor_lt_two_pow hx hy
theorem xor_zero_eq {x y : Nat} (h : x ^^^ y = 0) : x = y := Nat.eq_of_testBit_eq (fun k => by
  have := congrArg (fun z => z.testBit k) h
  simp only [Nat.testBit_xor, Nat.zero_testBit] at this
  revert this; cases x.testBit k <;> cases y.testBit k <;> simp)
theorem xor_xor (x y : Nat) : x ^^^ y ^^^ y = x := by rw [Nat.xor_assoc, Nat.xor_self, Nat.xor_zero]

/-- The numbers of a word, rising. -/
def bitsN (x : Nat) : List Nat := (List.range 64).filter (fun k => x.testBit k)
theorem bitsN_mem {x k : Nat} (h : x < 2 ^ 64) : k ∈ bitsN x ↔ x.testBit k = true := by
  unfold bitsN
  rw [List.mem_filter, List.mem_range]
  exact ⟨fun h => h.2, fun hb => ⟨bit_lt h hb, hb⟩⟩
theorem range_rising (n : Nat) : (List.range n).Pairwise (· < ·) := List.pairwise_lt_range
theorem bitsN_rising (x : Nat) : (bitsN x).Pairwise (· < ·) := (range_rising 64).filter _
theorem nat_told {l m : List Nat} (hl : l.Pairwise (· < ·)) (hm : m.Pairwise (· < ·)) (h : ∀ x, x ∈ l ↔ x ∈ m) : l = m := by
  induction l generalizing m with
  | nil => cases m with
    | nil => rfl
    | cons b m => exact absurd ((h b).2 (List.mem_cons_self ..)) (by simp)
  | cons a l ih => cases m with
    | nil => exact absurd ((h a).1 (List.mem_cons_self ..)) (by simp)
    | cons b m =>
      rw [List.pairwise_cons] at hl hm
      have hab : a = b := by
        rcases List.mem_cons.1 ((h a).1 (List.mem_cons_self ..)) with e | e
        · exact e
        · rcases List.mem_cons.1 ((h b).2 (List.mem_cons_self ..)) with e' | e'
          · exact e'.symm
          · have := hl.1 b e'; have := hm.1 a e; omega
      subst hab
      rw [ih hl.2 hm.2 (fun x => ?_)]
      have hx := h x
      simp only [List.mem_cons] at hx
      constructor
      · intro hm'
        rcases hx.1 (.inr hm') with e | e
        · subst e; have := hl.1 x hm'; omega
        · exact e
      · intro hm'
        rcases hx.2 (.inr hm') with e | e
        · subst e; have := hm.1 x hm'; omega
        · exact e
/-- A word without its least number. -/
theorem drop_low {x : Nat} (h0 : x ≠ 0) (h : x < 2 ^ 64) (k : Nat) : (x &&& (x - 1)).testBit k = (x.testBit k && decide (k ≠ low x)) := by
  obtain ⟨m, hm, hk⟩ := Lib.ctzFrom_spec 64 x (by omega) h
  have e : low x = Lib.ctzFrom 64 x := by unfold low Lib.ctz; rw [if_neg h0]
  rw [e]
  generalize Lib.ctzFrom 64 x = c at hm hk
  have hp : 0 < 2 ^ c := Nat.pow_pos (by decide)
  have e1 : x - 1 = 2 ^ c * (2 * m) + (2 ^ c - 1) := by rw [hm, Nat.mul_add, Nat.mul_one]; omega
  have e2 : x = 2 ^ c * (2 * m) + 2 ^ c := by rw [hm, Nat.mul_add, Nat.mul_one]
  rw [Nat.testBit_and, e1, Nat.testBit_two_pow_mul_add _ (by omega)]
  rcases Nat.lt_trichotomy k c with h4 | h4 | h4
  · have : x.testBit k = false := by
      rw [hm, Nat.mul_comm, Nat.testBit_mul_two_pow]
      have : ¬ c ≤ k := by omega
      simp [this]
    rw [this]; simp
  · subst h4
    simp
  · rw [if_neg (by omega), hm, Nat.mul_comm (2 ^ c), Nat.testBit_mul_two_pow]
    obtain ⟨j, rfl⟩ : ∃ j, k = c + (j + 1) := ⟨k - c - 1, by omega⟩
    have e3 : c + (j + 1) - c = j + 1 := by omega
    rw [e3, Nat.testBit_succ, Nat.testBit_succ]
    have d1 : (2 * m + 1) / 2 = m := by omega
    have d2 : 2 * m / 2 = m := by omega
    rw [d1, d2]
    simp
theorem and_pred_lt {x : Nat} (h : x < 2 ^ 64) : x &&& (x - 1) < 2 ^ 64 := Nat.lt_of_le_of_lt Nat.and_le_left h
theorem bitsN_low {x : Nat} (h0 : x ≠ 0) (h : x < 2 ^ 64) : bitsN x = low x :: bitsN (x &&& (x - 1)) := by
  obtain ⟨h1, h2, h3⟩ := low_bits h0 h
  refine nat_told (bitsN_rising x) (List.pairwise_cons.2 ⟨fun k hk => ?_, bitsN_rising _⟩) (fun k => ?_)
  · rw [bitsN_mem (and_pred_lt h), drop_low h0 h] at hk
    simp at hk
    rcases Nat.lt_trichotomy k (low x) with h4 | h4 | h4
    · rw [h3 k h4] at hk; simp at hk
    · exact absurd h4 hk.2
    · exact h4
  · rw [bitsN_mem h, List.mem_cons, bitsN_mem (and_pred_lt h), drop_low h0 h]
    by_cases e : k = low x
    · subst e; simp [h2]
    · simp [e]
theorem bitsN_zero : bitsN 0 = [] := by decide
theorem bitsN_nil {x : Nat} (h : x < 2 ^ 64) : bitsN x = [] ↔ x = 0 := by
  constructor
  · intro e
    rcases Nat.eq_zero_or_pos x with h0 | h0
    · exact h0
    · rw [bitsN_low (by omega) h] at e; cases e
  · rintro rfl; exact bitsN_zero

/-- Is a word a sum of some of these? -/
def InSpan : List Nat → Nat → Prop
  | [], x => x = 0
  | r :: rs, x => InSpan rs x ∨ InSpan rs (x ^^^ r)
theorem span_zero : ∀ rs, InSpan rs 0
  | [] => rfl
  | _ :: rs => .inl (span_zero rs)
theorem span_add : ∀ {rs : List Nat} {x y : Nat}, InSpan rs x → InSpan rs y → InSpan rs (x ^^^ y)
  | [], x, y, hx, hy => by simp only [InSpan] at *; subst hx; subst hy; rfl
  | r :: rs, x, y, hx, hy => by
    rcases hx with hx | hx <;> rcases hy with hy | hy
    · exact .inl (span_add hx hy)
    · exact .inr (by rw [Nat.xor_assoc]; exact span_add hx hy)
    · exact .inr (by have := span_add hx hy; rwa [Nat.xor_assoc, Nat.xor_comm r, ← Nat.xor_assoc] at this)
    · refine .inl ?_
      have := span_add hx hy
      rw [Nat.xor_assoc, ← Nat.xor_assoc r, Nat.xor_comm r, xor_xor] at this
      exact this
theorem span_mem : ∀ {rs : List Nat} {r : Nat}, r ∈ rs → InSpan rs r
  | a :: rs, r, h => by
    rcases List.mem_cons.1 h with rfl | h
    · exact .inr (by rw [Nat.xor_self]; exact span_zero rs)
    · exact .inl (span_mem h)
theorem span_into : ∀ {rs ss : List Nat}, (∀ r ∈ rs, InSpan ss r) → ∀ {x}, InSpan rs x → InSpan ss x
  | [], ss, _, x, hx => by simp only [InSpan] at hx; subst hx; exact span_zero ss
  | r :: rs, ss, h, x, hx => by
    have h' : ∀ r ∈ rs, InSpan ss r := fun r hr => h r (List.mem_cons_of_mem _ hr)
    rcases hx with hx | hx
    · exact span_into h' hx
    · have := span_add (span_into h' hx) (h r (List.mem_cons_self ..))
      rwa [xor_xor] at this
theorem span_same {rs ss : List Nat} (h1 : ∀ r ∈ rs, InSpan ss r) (h2 : ∀ r ∈ ss, InSpan rs r) (x : Nat) : InSpan rs x ↔ InSpan ss x := ⟨span_into h1, span_into h2⟩
theorem span_sub {rs ss : List Nat} (h : ∀ r ∈ rs, r ∈ ss) {x : Nat} (hx : InSpan rs x) : InSpan ss x := span_into (fun r hr => span_mem (h r hr)) hx
theorem span_lt {rs : List Nat} {n : Nat} (h : ∀ r ∈ rs, r < 2 ^ n) : ∀ {x}, InSpan rs x → x < 2 ^ n := by
  induction rs with
  | nil => intro x hx; simp only [InSpan] at hx; subst hx; exact Nat.pow_pos (by decide)
  | cons r rs ih =>
    intro x hx
    have h' : ∀ r ∈ rs, r < 2 ^ n := fun r hr => h r (List.mem_cons_of_mem _ hr)
    rcases hx with hx | hx
    · exact ih h' hx
    · have := xor_lt (ih h' hx) (h r (List.mem_cons_self ..))
      rwa [xor_xor] at this

/-- What a word's sum with another one of the same least number is. -/
theorem xor_low {x y : Nat} (hx : x < 2 ^ 64) (hy : y < 2 ^ 64) (h0 : x ≠ 0) (h0' : y ≠ 0) (e : low x = low y) : x ^^^ y = 0 ∨ low x < low (x ^^^ y) := by
  rcases Nat.eq_zero_or_pos (x ^^^ y) with h | h
  · exact .inl h
  · refine .inr ?_
    obtain ⟨-, h2, h3⟩ := low_bits h0 hx
    obtain ⟨-, h2', h3'⟩ := low_bits h0' hy
    obtain ⟨-, h5, -⟩ := low_bits (show x ^^^ y ≠ 0 by omega) (xor_lt hx hy)
    rw [Nat.testBit_xor] at h5
    rcases Nat.lt_trichotomy (low (x ^^^ y)) (low x) with h4 | h4 | h4
    · rw [h3 _ h4, h3' _ (by omega)] at h5; cases h5
    · rw [h4, h2, e, h2'] at h5; cases h5
    · exact h4

/-- The sorter's table: of each number the word that begins there. -/
abbrev Tb := Nat → Option Nat
structure TbOk (B : Tb) : Prop where
  is : ∀ k y, B k = some y → y < 2 ^ 64 ∧ y ≠ 0 ∧ low y = k
def redF (B : Tb) : Nat → Nat → Nat
  | 0, x => x
  | n + 1, x => if x = 0 then x else match B (low x) with
    | none => x
    | some y => redF B n (x ^^^ y)
def lftN (x : Nat) : Nat := 64 - low x
def redB (B : Tb) (x : Nat) : Nat := redF B (lftN x) x
theorem redF_more {B : Tb} (hB : TbOk B) : ∀ (n m x : Nat), x < 2 ^ 64 → lftN x ≤ n → lftN x ≤ m → redF B n x = redF B m x
  | n, m, x, hx, hn, hm => by
    rcases Nat.eq_zero_or_pos x with h0 | h0
    · subst h0; cases n <;> cases m <;> simp [redF]
    · have h1 := (low_bits (by omega) hx).1
      unfold lftN at hn hm
      obtain ⟨n, rfl⟩ : ∃ k, n = k + 1 := ⟨n - 1, by omega⟩
      obtain ⟨m, rfl⟩ : ∃ k, m = k + 1 := ⟨m - 1, by omega⟩
      simp only [redF]
      rw [if_neg (by omega), if_neg (by omega)]
      cases hb : B (low x) with
      | none => rfl
      | some y =>
        obtain ⟨h2, h3, h4⟩ := hB.is _ _ hb
        have hle : lftN (x ^^^ y) ≤ lftN x - 1 := by
          unfold lftN
          rcases xor_low hx h2 (by omega) h3 h4.symm with e | e
          · rw [e, low_zero]; omega
          · omega
        unfold lftN at hle
        exact redF_more hB n m _ (xor_lt hx h2) (by unfold lftN; omega) (by unfold lftN; omega)
theorem redB_step {B : Tb} (hB : TbOk B) {x y : Nat} (hx : x < 2 ^ 64) (h0 : x ≠ 0) (hb : B (low x) = some y) : redB B x = redB B (x ^^^ y) ∧ lftN (x ^^^ y) < lftN x := by
  obtain ⟨h2, h3, h4⟩ := hB.is _ _ hb
  have h1 := (low_bits h0 hx).1
  have hle : lftN (x ^^^ y) < lftN x := by
    unfold lftN
    rcases xor_low hx h2 h0 h3 h4.symm with e | e
    · rw [e, low_zero]; omega
    · omega
  refine ⟨?_, hle⟩
  unfold redB
  obtain ⟨n, hn⟩ : ∃ n, lftN x = n + 1 := ⟨lftN x - 1, by omega⟩
  rw [hn]
  simp only [redF]
  rw [if_neg h0, hb]
  exact redF_more hB n _ _ (xor_lt hx h2) (by omega) (Nat.le_refl _)
theorem redB_none {B : Tb} {x : Nat} (hx : x < 2 ^ 64) (h0 : x ≠ 0) (hb : B (low x) = none) : redB B x = x := by
  have h1 := (low_bits h0 hx).1
  unfold redB
  obtain ⟨n, hn⟩ : ∃ n, lftN x = n + 1 := ⟨lftN x - 1, by unfold lftN; omega⟩
  rw [hn]
  simp only [redF]
  rw [if_neg h0, hb]
theorem redB_zero (B : Tb) : redB B 0 = 0 := by
  unfold redB
  cases lftN 0 <;> simp [redF]
/-- What the sorter keeps behind a word. -/
def putB (B : Tb) (x : Nat) : Tb := if redB B x = 0 then B else fun k => if k = low (redB B x) then some (redB B x) else B k

def lst (B : Tb) : List Nat := (List.range 64).filterMap B
theorem lst_mem {B : Tb} (hB : TbOk B) (y : Nat) : y ∈ lst B ↔ ∃ k, B k = some y := by
  unfold lst
  rw [List.mem_filterMap]
  constructor
  · rintro ⟨k, -, e⟩; exact ⟨k, e⟩
  · rintro ⟨k, e⟩
    obtain ⟨h2, h3, h4⟩ := hB.is _ _ e
    exact ⟨k, List.mem_range.2 (by have := (low_bits h3 h2).1; omega), e⟩
/-- What redB leaves: it differs by a sum of what is kept, and begins where nothing kept begins. -/
theorem redB_spec {B : Tb} (hB : TbOk B) : ∀ (n x : Nat), lftN x ≤ n → x < 2 ^ 64 → redB B x < 2 ^ 64 ∧ InSpan (lst B) (x ^^^ redB B x) ∧ (redB B x ≠ 0 → B (low (redB B x)) = none)
  | n, x, hn, hx => by
    rcases Nat.eq_zero_or_pos x with h0 | h0
    · subst h0; rw [redB_zero]; exact ⟨by decide, span_zero _, fun h => absurd rfl h⟩
    · have h1 := (low_bits (by omega) hx).1
      cases hb : B (low x) with
      | none => rw [redB_none hx (by omega) hb, Nat.xor_self]; exact ⟨hx, span_zero _, fun _ => hb⟩
      | some y =>
        obtain ⟨e, hlt⟩ := redB_step hB hx (by omega) hb
        obtain ⟨n, rfl⟩ : ∃ k, n = k + 1 := ⟨n - 1, by unfold lftN at hn; omega⟩
        obtain ⟨h2, h3, h4⟩ := hB.is _ _ hb
        obtain ⟨a1, a2, a3⟩ := redB_spec hB n (x ^^^ y) (by omega) (xor_lt hx h2)
        rw [e]
        refine ⟨a1, ?_, a3⟩
        have := span_add a2 (span_mem ((lst_mem hB y).2 ⟨_, hb⟩))
        rwa [Nat.xor_assoc x, Nat.xor_comm y, ← Nat.xor_assoc x, xor_xor] at this
/-- A sum of what is kept begins where something kept begins. -/
theorem span_low {B : Tb} (hB : TbOk B) : ∀ (n k x : Nat), InSpan ((List.range' k n).filterMap B) x → x ≠ 0 → x < 2 ^ 64 ∧ k ≤ low x ∧ ∃ y, B (low x) = some y
  | 0, k, x, h, h0 => by simp [InSpan] at h; exact absurd h h0
  | n + 1, k, x, h, h0 => by
    rw [List.range'_succ, List.filterMap_cons] at h
    cases hb : B k with
    | none =>
      rw [hb] at h
      obtain ⟨a1, a2, a3⟩ := span_low hB n (k + 1) x h h0
      exact ⟨a1, by omega, a3⟩
    | some y =>
      rw [hb] at h
      obtain ⟨h2, h3, h4⟩ := hB.is _ _ hb
      rcases h with h | h
      · obtain ⟨a1, a2, a3⟩ := span_low hB n (k + 1) x h h0
        exact ⟨a1, by omega, a3⟩
      · rcases Nat.eq_zero_or_pos (x ^^^ y) with e | e
        · have := xor_zero_eq e
          subst this
          exact ⟨h2, by omega, x, by rw [h4]; exact hb⟩
        · obtain ⟨a1, a2, a3⟩ := span_low hB n (k + 1) _ h (by omega)
          obtain ⟨b1, b2, b3⟩ := low_bits (by omega) a1
          obtain ⟨c1, c2, c3⟩ := low_bits h3 h2
          have hx : x < 2 ^ 64 := by have := xor_lt a1 h2; rwa [xor_xor] at this
          have hk : low x = k := by
            refine low_is hx ?_ (fun j hj => ?_)
            · have : ((x ^^^ y) ^^^ y).testBit k = true := by rw [Nat.testBit_xor, b3 k (by omega), ← h4, c2]; rfl
              rwa [xor_xor] at this
            · have : ((x ^^^ y) ^^^ y).testBit j = false := by rw [Nat.testBit_xor, b3 j (by omega), c3 j (by omega)]; rfl
              rwa [xor_xor] at this
          exact ⟨hx, by omega, y, by rw [hk]; exact hb⟩
theorem redB_iff {B : Tb} (hB : TbOk B) {x : Nat} (hx : x < 2 ^ 64) : redB B x = 0 ↔ InSpan (lst B) x := by
  obtain ⟨a1, a2, a3⟩ := redB_spec hB _ x (Nat.le_refl _) hx
  constructor
  · intro e; rw [e, Nat.xor_zero] at a2; exact a2
  · intro h
    rcases Nat.eq_zero_or_pos (redB B x) with e | e
    · exact e
    · have h2 := span_add h a2
      rw [← Nat.xor_assoc, Nat.xor_self, Nat.zero_xor] at h2
      unfold lst at h2
      rw [List.range_eq_range'] at h2
      obtain ⟨-, -, y, hy⟩ := span_low hB 64 0 _ h2 (by omega)
      rw [a3 (by omega)] at hy; cases hy
theorem putB_ok {B : Tb} (hB : TbOk B) {x : Nat} (hx : x < 2 ^ 64) : TbOk (putB B x) := by
  obtain ⟨a1, a2, a3⟩ := redB_spec hB _ x (Nat.le_refl _) hx
  unfold putB
  split
  · exact hB
  · rename_i h
    refine ⟨fun k y e => ?_⟩
    split at e
    · cases e; rename_i h'; exact ⟨a1, h, h'.symm⟩
    · exact hB.is k y e
theorem putB_span {B : Tb} (hB : TbOk B) {x : Nat} (hx : x < 2 ^ 64) (z : Nat) : InSpan (lst (putB B x)) z ↔ InSpan (x :: lst B) z := by
  obtain ⟨a1, a2, a3⟩ := redB_spec hB _ x (Nat.le_refl _) hx
  have hok := putB_ok hB hx
  refine span_same (fun r hr => ?_) (fun r hr => ?_) z
  · obtain ⟨k, hk⟩ := (lst_mem hok r).1 hr
    unfold putB at hk
    split at hk
    · exact .inl (span_mem ((lst_mem hB r).2 ⟨k, hk⟩))
    · dsimp only at hk
      split at hk
      · cases hk
        refine .inr ?_
        rw [Nat.xor_comm]; exact a2
      · exact .inl (span_mem ((lst_mem hB r).2 ⟨k, hk⟩))
  · have hsub : ∀ y, InSpan (lst B) y → InSpan (lst (putB B x)) y := fun y hy => span_sub (fun r hr => by
      obtain ⟨k, hk⟩ := (lst_mem hB r).1 hr
      refine (lst_mem hok r).2 ⟨k, ?_⟩
      unfold putB
      split
      · exact hk
      · rename_i h
        dsimp only
        rw [if_neg (fun e => by rw [e, a3 h] at hk; cases hk)]
        exact hk) hy
    rcases List.mem_cons.1 hr with rfl | hr
    · by_cases h : redB B r = 0
      · rw [h, Nat.xor_zero] at a2; exact hsub _ a2
      · have h1 : InSpan (lst (putB B r)) (redB B r) := span_mem ((lst_mem hok _).2 ⟨low (redB B r), by unfold putB; rw [if_neg h]; simp⟩)
        have := span_add (hsub _ a2) h1
        rwa [xor_xor] at this
    · exact hsub _ (span_mem hr)
def emptyB : Tb := fun _ => none
theorem emptyB_ok : TbOk emptyB := ⟨fun k y h => by cases h⟩
theorem lst_empty : lst emptyB = [] := by decide
def fedB (rs : List Nat) : Tb := rs.foldl putB emptyB
theorem fedB_snoc (rs : List Nat) (x : Nat) : fedB (rs ++ [x]) = putB (fedB rs) x := by unfold fedB; rw [List.foldl_append]; rfl
theorem fed_all : ∀ (rs : List Nat) (B : Tb), TbOk B → (∀ r ∈ rs, r < 2 ^ 64) → TbOk (rs.foldl putB B) ∧ ∀ z, InSpan (lst (rs.foldl putB B)) z ↔ InSpan (rs ++ lst B) z
  | [], B, hB, _ => ⟨hB, fun z => Iff.rfl⟩
  | r :: rs, B, hB, h => by
    have hr := h r (List.mem_cons_self ..)
    obtain ⟨h1, h2⟩ := fed_all rs (putB B r) (putB_ok hB hr) (fun r hr => h r (List.mem_cons_of_mem _ hr))
    refine ⟨h1, fun z => ?_⟩
    rw [List.foldl_cons, h2 z]
    refine span_same (fun y hy => ?_) (fun y hy => ?_) z
    · rcases List.mem_append.1 hy with hy | hy
      · exact span_mem (by simp [hy])
      · exact span_into (fun y hy => by
          rcases List.mem_cons.1 hy with rfl | hy
          · exact span_mem (by simp)
          · exact span_mem (by simp [hy])) ((putB_span hB hr y).1 (span_mem hy))
    · rcases List.mem_cons.1 hy with rfl | hy
      · exact span_into (fun y hy => span_mem (by simp [hy])) ((putB_span hB hr y).2 (span_mem (by simp)))
      · rcases List.mem_append.1 hy with hy | hy
        · exact span_mem (by simp [hy])
        · exact span_into (fun y hy => span_mem (by simp [hy])) ((putB_span hB hr y).2 (span_mem (by simp [hy])))
theorem fedB_ok {rs : List Nat} (h : ∀ r ∈ rs, r < 2 ^ 64) : TbOk (fedB rs) := (fed_all rs emptyB emptyB_ok h).1
theorem fedB_iff {rs : List Nat} (h : ∀ r ∈ rs, r < 2 ^ 64) {x : Nat} (hx : x < 2 ^ 64) : redB (fedB rs) x = 0 ↔ InSpan rs x := by
  rw [redB_iff (fedB_ok h) hx]
  have := (fed_all rs emptyB emptyB_ok h).2 x
  rw [lst_empty, List.append_nil] at this
  exact this

/-- The other way: rows of which each has a first number that no other one has. -/
def restS (rows : List Nat) (f : Nat) : Nat := rows.foldl (fun f r => if f.testBit (low r) = true then f ^^^ r else f) f
def withS (rows : List Nat) (f : Nat) : List Nat :=
  if restS rows f = 0 then rows else rows.map (fun r => if r.testBit (low (restS rows f)) = true then r ^^^ restS rows f else r) ++ [restS rows f]
/-- Each has a first number that no other one has. -/
structure SpOk (rows : List Nat) : Prop where
  is : ∀ r ∈ rows, r < 2 ^ 64 ∧ r ≠ 0
  one : ∀ i j : Nat, ∀ r s, rows[i]? = some r → rows[j]? = some s → i ≠ j → s.testBit (low r) = false
theorem restS_spec : ∀ (rows : List Nat) (f : Nat), SpOk rows → f < 2 ^ 64 → restS rows f < 2 ^ 64 ∧ InSpan rows (f ^^^ restS rows f) ∧ (∀ r ∈ rows, (restS rows f).testBit (low r) = false) ∧ (∀ k, f.testBit k = false → (∀ r ∈ rows, r.testBit k = false) → (restS rows f).testBit k = false)
  | [], f, _, hf => ⟨hf, by simp [restS, InSpan], fun r hr => by (cases hr), fun k hk _ => hk⟩
  | r :: rows, f, h, hf => by
    have h' : SpOk rows := ⟨fun r hr => h.is r (List.mem_cons_of_mem _ hr), fun i j a b ha hb hne => h.one (i + 1) (j + 1) a b (by simpa using ha) (by simpa using hb) (by omega)⟩
    obtain ⟨hr1, hr2⟩ := h.is r (List.mem_cons_self ..)
    obtain ⟨l1, l2, l3⟩ := low_bits hr2 hr1
    have hoth : ∀ s ∈ rows, s.testBit (low r) = false := fun s hs => by
      obtain ⟨j, hj⟩ := List.mem_iff_getElem?.1 hs
      exact h.one 0 (j + 1) r s (by simp) (by simpa using hj) (by omega)
    have key : ∀ g, g < 2 ^ 64 → g.testBit (low r) = false → (g = f ∨ g = f ^^^ r) → restS rows g < 2 ^ 64 ∧ InSpan (r :: rows) (f ^^^ restS rows g) ∧ (∀ s ∈ r :: rows, (restS rows g).testBit (low s) = false) ∧ (∀ k, f.testBit k = false → (∀ s ∈ r :: rows, s.testBit k = false) → (restS rows g).testBit k = false) := fun g hg hgb hge => by
      obtain ⟨a1, a2, a3, a4⟩ := restS_spec rows g h' hg
      refine ⟨a1, ?_, fun s hs => ?_, fun k hk hs => ?_⟩
      · rcases hge with rfl | rfl
        · exact .inl a2
        · refine .inr ?_
          rw [Nat.xor_assoc, Nat.xor_comm _ r, ← Nat.xor_assoc]
          exact a2
      · rcases List.mem_cons.1 hs with rfl | hs
        · exact a4 _ hgb hoth
        · exact a3 s hs
      · refine a4 k ?_ (fun s hs' => hs s (List.mem_cons_of_mem _ hs'))
        rcases hge with rfl | rfl
        · exact hk
        · rw [Nat.testBit_xor, hk, hs r (List.mem_cons_self ..)]; rfl
    have e : restS (r :: rows) f = restS rows (if f.testBit (low r) = true then f ^^^ r else f) := rfl
    rw [e]
    split
    · rename_i hb
      exact key _ (xor_lt hf hr1) (by rw [Nat.testBit_xor, hb, l2]; rfl) (.inr rfl)
    · rename_i hb
      exact key _ hf (by simpa using hb) (.inl rfl)
/-- A sum of rows that has none of their first numbers is 0. -/
theorem span_first : ∀ (rows : List Nat) (x : Nat), SpOk rows → InSpan rows x → (∀ r ∈ rows, x.testBit (low r) = false) → x = 0
  | [], x, _, h, _ => h
  | r :: rows, x, hS, h, hx => by
    have h' : SpOk rows := ⟨fun r hr => hS.is r (List.mem_cons_of_mem _ hr), fun i j a b ha hb hne => hS.one (i + 1) (j + 1) a b (by simpa using ha) (by simpa using hb) (by omega)⟩
    have hoth : ∀ s ∈ rows, s.testBit (low r) = false := fun s hs => by
      obtain ⟨j, hj⟩ := List.mem_iff_getElem?.1 hs
      exact hS.one 0 (j + 1) r s (by simp) (by simpa using hj) (by omega)
    rcases h with h | h
    · exact span_first rows x h' h (fun s hs => hx s (List.mem_cons_of_mem _ hs))
    · exfalso
      obtain ⟨hr1, hr2⟩ := hS.is r (List.mem_cons_self ..)
      obtain ⟨l1, l2, l3⟩ := low_bits hr2 hr1
      have key : ∀ (ss : List Nat) (k y : Nat), (∀ s ∈ ss, s.testBit k = false) → InSpan ss y → y.testBit k = false := by
        intro ss
        induction ss with
        | nil => intro k y _ hy; simp only [InSpan] at hy; subst hy; simp
        | cons s ss ih =>
          intro k y hs hy
          have hs' : ∀ s ∈ ss, s.testBit k = false := fun s hm => hs s (List.mem_cons_of_mem _ hm)
          rcases hy with hy | hy
          · exact ih k y hs' hy
          · have := ih k _ hs' hy
            rwa [Nat.testBit_xor, hs s (List.mem_cons_self ..), Bool.xor_false] at this
      have := key rows (low r) _ hoth h
      rw [Nat.testBit_xor, hx r (List.mem_cons_self ..), l2] at this
      cases this
theorem restS_iff {rows : List Nat} (h : SpOk rows) {x : Nat} (hx : x < 2 ^ 64) : restS rows x = 0 ↔ InSpan rows x := by
  obtain ⟨a1, a2, a3, -⟩ := restS_spec rows x h hx
  constructor
  · intro e; rw [e, Nat.xor_zero] at a2; exact a2
  · intro hs
    have := span_add hs a2
    rw [← Nat.xor_assoc, Nat.xor_self, Nat.zero_xor] at this
    exact span_first rows _ h this a3
theorem withS_spec {rows : List Nat} (h : SpOk rows) {f : Nat} (hf : f < 2 ^ 64) : SpOk (withS rows f) ∧ ∀ z, InSpan (withS rows f) z ↔ InSpan (f :: rows) z := by
  obtain ⟨a1, a2, a3, -⟩ := restS_spec rows f h hf
  unfold withS
  split
  · rename_i e
    refine ⟨h, fun z => span_same (fun r hr => show InSpan (f :: rows) r from Or.inl (span_mem hr)) (fun r hr => ?_) z⟩
    rcases List.mem_cons.1 hr with rfl | hr
    · rw [e, Nat.xor_zero] at a2; exact a2
    · exact span_mem hr
  · rename_i e
    generalize restS rows f = g at a1 a2 a3 e
    obtain ⟨g1, g2, g3⟩ := low_bits e a1
    have hq : ∀ r ∈ rows, (if r.testBit (low g) = true then r ^^^ g else r) < 2 ^ 64 ∧ (if r.testBit (low g) = true then r ^^^ g else r) ≠ 0 ∧ low (if r.testBit (low g) = true then r ^^^ g else r) = low r ∧ (if r.testBit (low g) = true then r ^^^ g else r).testBit (low g) = false := fun r hr => by
      obtain ⟨r1, r2⟩ := h.is r hr
      obtain ⟨l1, l2, l3⟩ := low_bits r2 r1
      split
      · rename_i hb
        have hne : low r ≠ low g := fun e => by have := a3 r hr; rw [e, g2] at this; cases this
        have hlt : low r < low g := by
          rcases Nat.lt_or_ge (low r) (low g) with h1 | h1
          · exact h1
          · rw [l3 (low g) (by omega)] at hb; cases hb
        have hbit : (r ^^^ g).testBit (low r) = true := by rw [Nat.testBit_xor, l2, a3 r hr]; rfl
        exact ⟨xor_lt r1 a1, ne_zero_of_bit hbit, low_is (xor_lt r1 a1) hbit (fun j hj => by rw [Nat.testBit_xor, l3 j hj, g3 j (by omega)]; rfl), by rw [Nat.testBit_xor, hb, g2]; rfl⟩
      · rename_i hb
        exact ⟨r1, r2, rfl, by simpa using hb⟩
    refine ⟨⟨fun r hr => ?_, fun i j r s hi hj hne => ?_⟩, fun z => span_same (fun r hr => ?_) (fun r hr => ?_) z⟩
    · rcases List.mem_append.1 hr with hr | hr
      · obtain ⟨r0, h0, rfl⟩ := List.mem_map.1 hr
        exact ⟨(hq r0 h0).1, (hq r0 h0).2.1⟩
      · rw [List.mem_singleton] at hr; subst hr; exact ⟨a1, e⟩
    · have hget : ∀ (i : Nat) (r : Nat), (rows.map (fun r => if r.testBit (low g) = true then r ^^^ g else r) ++ [g])[i]? = some r → (∃ r0, rows[i]? = some r0 ∧ r = (if r0.testBit (low g) = true then r0 ^^^ g else r0)) ∨ (i = rows.length ∧ r = g) := fun i r hi => by
        rw [List.getElem?_append] at hi
        split at hi
        · rw [List.getElem?_map] at hi
          cases hr0 : rows[i]? with
          | none => rw [hr0] at hi; cases hi
          | some r0 => rw [hr0] at hi; simp at hi; exact .inl ⟨r0, rfl, hi.symm⟩
        · rename_i hlt
          rw [List.length_map] at hi hlt
          obtain ⟨h1, h2⟩ := List.getElem?_eq_some_iff.1 hi
          simp at h1
          refine .inr ⟨by omega, ?_⟩
          have : i - rows.length = 0 := by omega
          simp [this] at h2
          exact h2.symm
      rcases hget i r hi with ⟨r0, hr0, er⟩ | ⟨ei, er⟩ <;> rcases hget j s hj with ⟨s0, hs0, es⟩ | ⟨ej, es⟩
      · have m1 := List.mem_of_getElem? hr0
        have m2 := List.mem_of_getElem? hs0
        rw [er, (hq r0 m1).2.2.1, es]
        have hno := h.one i j r0 s0 hr0 hs0 hne
        split
        · rw [Nat.testBit_xor, hno, a3 r0 m1]; rfl
        · exact hno
      · have m1 := List.mem_of_getElem? hr0
        rw [er, (hq r0 m1).2.2.1, es]
        exact a3 r0 m1
      · have m2 := List.mem_of_getElem? hs0
        rw [er, es]
        exact (hq s0 m2).2.2.2
      · omega
    · have hg : InSpan (f :: rows) g := by
        refine .inr ?_
        rw [Nat.xor_comm]; exact a2
      rcases List.mem_append.1 hr with hr | hr
      · obtain ⟨r0, h0, rfl⟩ := List.mem_map.1 hr
        split
        · exact span_add (.inl (span_mem h0)) hg
        · exact .inl (span_mem h0)
      · rw [List.mem_singleton] at hr; subst hr; exact hg
    · have hg : InSpan (rows.map (fun r => if r.testBit (low g) = true then r ^^^ g else r) ++ [g]) g := span_mem (by simp)
      have hrow : ∀ r ∈ rows, InSpan (rows.map (fun r => if r.testBit (low g) = true then r ^^^ g else r) ++ [g]) r := fun r hr => by
        have h1 : InSpan (rows.map (fun r => if r.testBit (low g) = true then r ^^^ g else r) ++ [g]) (if r.testBit (low g) = true then r ^^^ g else r) := span_mem (List.mem_append_left _ (List.mem_map.2 ⟨r, hr, rfl⟩))
        split at h1
        · have := span_add h1 hg
          rwa [xor_xor] at this
        · exact h1
      rcases List.mem_cons.1 hr with rfl | hr
      · have := span_add (span_into hrow a2) hg
        rwa [xor_xor] at this
      · exact hrow r hr
def allS (rs : List Nat) : List Nat := rs.foldl withS []
theorem allS_snoc (rs : List Nat) (x : Nat) : allS (rs ++ [x]) = withS (allS rs) x := by unfold allS; rw [List.foldl_append]; rfl
theorem spOk_nil : SpOk [] := ⟨fun r hr => by (cases hr), fun i j r s hi => by simp at hi⟩
theorem all_span : ∀ (rs S : List Nat), SpOk S → (∀ r ∈ rs, r < 2 ^ 64) → SpOk (rs.foldl withS S) ∧ ∀ z, InSpan (rs.foldl withS S) z ↔ InSpan (rs ++ S) z
  | [], S, hS, _ => ⟨hS, fun z => Iff.rfl⟩
  | r :: rs, S, hS, h => by
    have hr := h r (List.mem_cons_self ..)
    obtain ⟨w1, w2⟩ := withS_spec hS hr
    obtain ⟨h1, h2⟩ := all_span rs (withS S r) w1 (fun r hr => h r (List.mem_cons_of_mem _ hr))
    refine ⟨h1, fun z => ?_⟩
    rw [List.foldl_cons, h2 z]
    refine span_same (fun y hy => ?_) (fun y hy => ?_) z
    · rcases List.mem_append.1 hy with hy | hy
      · exact span_mem (by simp [hy])
      · exact span_into (fun y hy => by
          rcases List.mem_cons.1 hy with rfl | hy
          · exact span_mem (by simp)
          · exact span_mem (by simp [hy])) ((w2 y).1 (span_mem hy))
    · rcases List.mem_cons.1 hy with rfl | hy
      · exact span_into (fun y hy => span_mem (by simp [hy])) ((w2 y).2 (span_mem (by simp)))
      · rcases List.mem_append.1 hy with hy | hy
        · exact span_mem (by simp [hy])
        · exact span_into (fun y hy => span_mem (by simp [hy])) ((w2 y).2 (span_mem (by simp [hy])))
theorem allS_ok {rs : List Nat} (h : ∀ r ∈ rs, r < 2 ^ 64) : SpOk (allS rs) := (all_span rs [] spOk_nil h).1
theorem allS_iff {rs : List Nat} (h : ∀ r ∈ rs, r < 2 ^ 64) {x : Nat} (hx : x < 2 ^ 64) : restS (allS rs) x = 0 ↔ InSpan rs x := by
  rw [restS_iff (allS_ok h) hx]
  have := (all_span rs [] spOk_nil h).2 x
  rwa [List.append_nil] at this
/-- Both ways are one. -/
theorem same_span {rs : List Nat} (h : ∀ r ∈ rs, r < 2 ^ 64) {x : Nat} (hx : x < 2 ^ 64) : redB (fedB rs) x = 0 ↔ restS (allS rs) x = 0 := by rw [fedB_iff h hx, allS_iff h hx]

end Go.Proofs.YtldknhganoiajaaGreatDoor
