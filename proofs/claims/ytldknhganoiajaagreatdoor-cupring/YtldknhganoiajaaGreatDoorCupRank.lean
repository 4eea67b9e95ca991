/- How many words of a list are new, one after another: it hangs on the spans alone; bases of cocycles and of classes, and the span of their products. -/
import Derived.Test.YtldknhganoiajaaGreatDoorCupLawMath
namespace Go.Proofs.YtldknhganoiajaaGreatDoor
open Go.RowKit Go.Sort

/-- One, if it is not 0. -/
def nw (x : Nat) : Nat := if x = 0 then 0 else 1
/-- How many rows a sorter keeps. -/
def rankB (B : Tb) : Nat := ((List.range 64).filter (fun k => (B k).isSome)).length
theorem filter_one {p q : Nat → Bool} {m : Nat} (hm : p m = false) (hq : ∀ k, q k = (p k || decide (k = m))) : ∀ n, ((List.range n).filter q).length = ((List.range n).filter p).length + (if m < n then 1 else 0)
  | 0 => by simp
  | n + 1 => by
    rw [List.range_succ, List.filter_append, List.filter_append, List.length_append, List.length_append, filter_one hm hq n]
    by_cases h : n = m
    · subst h
      have e1 : q n = true := by rw [hq]; simp
      simp [e1, hm]
    · have e1 : q n = p n := by rw [hq, decide_eq_false h, Bool.or_false]
      have e2 : (if m < n + 1 then 1 else 0) = (if m < n then 1 else 0) := by
        by_cases h1 : m < n
        · rw [if_pos h1, if_pos (by omega)]
        · rw [if_neg h1, if_neg (by omega)]
      rw [e2]
      cases hp : p n <;> simp [e1, hp]
      omega
theorem rankB_put {B : Tb} (hB : TbOk B) {x : Nat} (hx : x < 2 ^ 64) : rankB (putB B x) = rankB B + nw (redB B x) := by
  obtain ⟨a1, a2, a3⟩ := redB_spec hB _ x (Nat.le_refl _) hx
  unfold putB nw
  by_cases h : redB B x = 0
  · rw [if_pos h, if_pos h]; rfl
  · rw [if_neg h, if_neg h]
    have hl := (low_bits h a1).1
    unfold rankB
    rw [filter_one (p := fun k => (B k).isSome) (m := low (redB B x)) (by rw [a3 h]; rfl) (fun k => by
      by_cases e : k = low (redB B x)
      · simp [e]
      · simp [e]) 64, if_pos hl]
theorem rankB_empty : rankB emptyB = 0 := by decide
/-- The places where words of a span begin. -/
theorem some_iff {B : Tb} (hB : TbOk B) (k : Nat) : (B k).isSome = true ↔ ∃ x, InSpan (lst B) x ∧ x ≠ 0 ∧ low x = k := by
  constructor
  · intro h
    cases hb : B k with
    | none => rw [hb] at h; cases h
    | some y =>
      obtain ⟨h2, h3, h4⟩ := hB.is _ _ hb
      exact ⟨y, span_mem ((lst_mem hB y).2 ⟨k, hb⟩), h3, h4⟩
  · rintro ⟨x, hx, h0, rfl⟩
    unfold lst at hx
    rw [List.range_eq_range'] at hx
    obtain ⟨-, -, y, hy⟩ := span_low hB 64 0 x hx h0
    rw [hy]; rfl
theorem filter_le {p q : Nat → Bool} (h : ∀ k, p k = true → q k = true) : ∀ l : List Nat, (l.filter p).length ≤ (l.filter q).length
  | [] => Nat.le_refl _
  | a :: l => by
    have ih := filter_le h l
    by_cases hp : p a = true
    · rw [List.filter_cons_of_pos hp, List.filter_cons_of_pos (h a hp)]; simpa using ih
    · rw [List.filter_cons_of_neg hp]
      by_cases hq : q a = true
      · rw [List.filter_cons_of_pos hq, List.length_cons]; omega
      · rw [List.filter_cons_of_neg hq]; exact ih
theorem rank_le {B C : Tb} (hB : TbOk B) (hC : TbOk C) (h : ∀ z, InSpan (lst B) z → InSpan (lst C) z) : rankB B ≤ rankB C := by
  refine filter_le (fun k hk => ?_) _
  obtain ⟨x, h1, h2, h3⟩ := (some_iff hB k).1 hk
  exact (some_iff hC k).2 ⟨x, h _ h1, h2, h3⟩
theorem rank_eq {B C : Tb} (hB : TbOk B) (hC : TbOk C) (h : ∀ z, InSpan (lst B) z ↔ InSpan (lst C) z) : rankB B = rankB C :=
  Nat.le_antisymm (rank_le hB hC (fun z => (h z).1)) (rank_le hC hB (fun z => (h z).2))

/-- How many words of a list a sorter keeps, one after another. -/
def cntB : Tb → List Nat → Nat
  | _, [] => 0
  | B, x :: l => nw (redB B x) + cntB (putB B x) l
theorem cntB_rank : ∀ (l : List Nat) (B : Tb), TbOk B → (∀ x ∈ l, x < 2 ^ 64) → rankB B + cntB B l = rankB (l.foldl putB B)
  | [], B, _, _ => rfl
  | x :: l, B, hB, h => by
    have hx := h x (List.mem_cons_self ..)
    rw [List.foldl_cons, ← cntB_rank l (putB B x) (putB_ok hB hx) (fun y hy => h y (List.mem_cons_of_mem _ hy)), rankB_put hB hx]
    simp only [cntB]
    omega
theorem cntB_snoc : ∀ (l : List Nat) (B : Tb) (x : Nat), cntB B (l ++ [x]) = cntB B l + nw (redB (l.foldl putB B) x)
  | [], B, x => by simp [cntB]
  | a :: l, B, x => by
    rw [List.cons_append]
    simp only [cntB, List.foldl_cons]
    rw [cntB_snoc l (putB B a) x]
    omega
theorem cntB_append : ∀ (l m : List Nat) (B : Tb), cntB B (l ++ m) = cntB B l + cntB (l.foldl putB B) m
  | [], m, B => by simp [cntB]
  | a :: l, m, B => by
    rw [List.cons_append]
    simp only [cntB, List.foldl_cons]
    rw [cntB_append l m (putB B a)]
    omega
/-- What a sorter keeps, as the words themselves (not what is left of them). -/
def selB : Tb → List Nat → List Nat
  | _, [] => []
  | B, x :: l => bif redB B x == 0 then selB (putB B x) l else x :: selB (putB B x) l
theorem selB_snoc : ∀ (l : List Nat) (B : Tb) (x : Nat), selB B (l ++ [x]) = bif redB (l.foldl putB B) x == 0 then selB B l else selB B l ++ [x]
  | [], B, x => by simp [selB]
  | a :: l, B, x => by
    rw [List.cons_append]
    simp only [selB, List.foldl_cons]
    rw [selB_snoc l (putB B a) x]
    cases redB B a == 0 <;> cases redB (l.foldl putB (putB B a)) x == 0 <;> rfl
theorem selB_len : ∀ (l : List Nat) (B : Tb), (selB B l).length = cntB B l
  | [], _ => rfl
  | x :: l, B => by
    simp only [selB, cntB, nw]
    by_cases h0 : redB B x = 0
    · rw [if_pos h0, beq_iff_eq.2 h0, cond_true, selB_len l]; omega
    · rw [if_neg h0, beq_eq_false_iff_ne.2 h0, cond_false, List.length_cons, selB_len l]; omega
theorem selB_mem : ∀ (l : List Nat) (B : Tb), ∀ x ∈ selB B l, x ∈ l
  | [], _, x, h => by simp [selB] at h
  | a :: l, B, x, h => by
    simp only [selB] at h
    cases h0 : redB B a == 0 with
    | true => rw [h0, cond_true] at h; exact List.mem_cons_of_mem _ (selB_mem l _ x h)
    | false =>
      rw [h0, cond_false] at h
      rcases List.mem_cons.1 h with rfl | h
      · exact List.mem_cons_self ..
      · exact List.mem_cons_of_mem _ (selB_mem l _ x h)
/-- Span, one thing after another. -/
theorem span_ind {rs : List Nat} {P : Nat → Prop} (h0 : P 0) (h1 : ∀ r ∈ rs, P r) (h2 : ∀ x y, P x → P y → P (x ^^^ y)) : ∀ {x}, InSpan rs x → P x := by
  induction rs with
  | nil => intro x hx; simp only [InSpan] at hx; subst hx; exact h0
  | cons r rs ih =>
    intro x hx
    have h1' : ∀ r ∈ rs, P r := fun r hr => h1 r (List.mem_cons_of_mem _ hr)
    rcases hx with hx | hx
    · exact ih h1' hx
    · have := h2 _ _ (ih h1' hx) (h1 r (List.mem_cons_self ..))
      rwa [xor_xor] at this
/-- What is kept has the span of all. -/
theorem selB_span : ∀ (l : List Nat) (B : Tb), TbOk B → (∀ x ∈ l, x < 2 ^ 64) → ∀ z, InSpan (l ++ lst B) z ↔ InSpan (selB B l ++ lst B) z
  | [], B, _, _, z => Iff.rfl
  | x :: l, B, hB, h, z => by
    have hx := h x (List.mem_cons_self ..)
    have ih := selB_span l (putB B x) (putB_ok hB hx) (fun y hy => h y (List.mem_cons_of_mem _ hy))
    have hp := putB_span hB hx
    have e1 : ∀ m : List Nat, ∀ z, InSpan (m ++ lst (putB B x)) z ↔ InSpan (x :: (m ++ lst B)) z := fun m z => by
      refine span_same (fun r hr => ?_) (fun r hr => ?_) z
      · rcases List.mem_append.1 hr with hr | hr
        · exact span_mem (by simp [hr])
        · exact span_sub (fun q hq => by
            rcases List.mem_cons.1 hq with rfl | hq
            · simp
            · simp [hq]) ((hp r).1 (span_mem hr))
      · rcases List.mem_cons.1 hr with rfl | hr
        · exact span_sub (fun q hq => by simp [hq]) ((hp r).2 (span_mem (by simp)))
        · rcases List.mem_append.1 hr with hr | hr
          · exact span_mem (by simp [hr])
          · exact span_sub (fun q hq => by simp [hq]) ((hp r).2 (span_mem (by simp [hr])))
    have h3 : InSpan (x :: l ++ lst B) z ↔ InSpan (x :: (selB (putB B x) l ++ lst B)) z := by
      rw [List.cons_append, ← e1, ← e1, ih]
    rw [h3]
    simp only [selB]
    by_cases h0 : redB B x = 0
    · rw [beq_iff_eq.2 h0, cond_true]
      have hin := (redB_iff hB hx).1 h0
      refine span_same (fun r hr => ?_) (fun r hr => span_mem (by simp [List.mem_append.1 hr])) z
      rcases List.mem_cons.1 hr with rfl | hr
      · exact span_sub (fun q hq => by simp [hq]) hin
      · exact span_mem hr
    · rw [beq_eq_false_iff_ne.2 h0, cond_false, List.cons_append]
theorem fold_iff {rs l : List Nat} (hr : ∀ r ∈ rs, r < 2 ^ 64) (hl : ∀ r ∈ l, r < 2 ^ 64) (z : Nat) : InSpan (lst (l.foldl putB (fedB rs))) z ↔ InSpan (l ++ rs) z := by
  rw [(fed_all l (fedB rs) (fedB_ok hr) hl).2 z]
  have h0 : ∀ z, InSpan (lst (fedB rs)) z ↔ InSpan (rs ++ []) z := by
    have h0 := (fed_all rs emptyB emptyB_ok hr).2
    rw [lst_empty] at h0
    exact h0
  refine span_same (fun r h => ?_) (fun r h => ?_) z
  · rcases List.mem_append.1 h with h | h
    · exact span_mem (by simp [h])
    · exact span_sub (fun q hq => by simp at hq; simp [hq]) ((h0 r).1 (span_mem h))
  · rcases List.mem_append.1 h with h | h
    · exact span_mem (by simp [h])
    · exact span_sub (fun q hq => by simp [hq]) ((h0 r).2 (span_mem (by simp [h])))
/-- How many are new hangs on the spans alone. -/
theorem cntB_same {rs l l' : List Nat} (hr : ∀ r ∈ rs, r < 2 ^ 64) (hl : ∀ r ∈ l, r < 2 ^ 64) (hl' : ∀ r ∈ l', r < 2 ^ 64) (h : ∀ z, InSpan (l ++ rs) z ↔ InSpan (l' ++ rs) z) : cntB (fedB rs) l = cntB (fedB rs) l' := by
  have h1 := cntB_rank l (fedB rs) (fedB_ok hr) hl
  have h2 := cntB_rank l' (fedB rs) (fedB_ok hr) hl'
  have h3 : rankB (l.foldl putB (fedB rs)) = rankB (l'.foldl putB (fedB rs)) := rank_eq (fed_all l _ (fedB_ok hr) hl).1 (fed_all l' _ (fedB_ok hr) hl').1 (fun z => by rw [fold_iff hr hl, fold_iff hr hl', h])
  omega
theorem cntB_le {rs l l' : List Nat} (hr : ∀ r ∈ rs, r < 2 ^ 64) (hl : ∀ r ∈ l, r < 2 ^ 64) (hl' : ∀ r ∈ l', r < 2 ^ 64) (h : ∀ z, InSpan (l ++ rs) z → InSpan (l' ++ rs) z) : cntB (fedB rs) l ≤ cntB (fedB rs) l' := by
  have h1 := cntB_rank l (fedB rs) (fedB_ok hr) hl
  have h2 := cntB_rank l' (fedB rs) (fedB_ok hr) hl'
  have h3 : rankB (l.foldl putB (fedB rs)) ≤ rankB (l'.foldl putB (fedB rs)) := rank_le (fed_all l _ (fedB_ok hr) hl).1 (fed_all l' _ (fedB_ok hr) hl').1 (fun z hz => by rw [fold_iff hr hl']; rw [fold_iff hr hl] at hz; exact h z hz)
  omega
/-- The other way to count: by rows of which each has a first number of its own. -/
def cntS : List Nat → List Nat → Nat
  | _, [] => 0
  | S, x :: l => nw (restS S x) + cntS (withS S x) l
theorem cntS_snoc : ∀ (l S : List Nat) (x : Nat), cntS S (l ++ [x]) = cntS S l + nw (restS (l.foldl withS S) x)
  | [], S, x => by simp [cntS]
  | a :: l, S, x => by
    rw [List.cons_append]
    simp only [cntS, List.foldl_cons]
    rw [cntS_snoc l (withS S a) x]
    omega
def selS : List Nat → List Nat → List Nat
  | _, [] => []
  | S, x :: l => bif restS S x == 0 then selS (withS S x) l else x :: selS (withS S x) l
theorem selS_snoc : ∀ (l S : List Nat) (x : Nat), selS S (l ++ [x]) = bif restS (l.foldl withS S) x == 0 then selS S l else selS S l ++ [x]
  | [], S, x => by simp [selS]
  | a :: l, S, x => by
    rw [List.cons_append]
    simp only [selS, List.foldl_cons]
    rw [selS_snoc l (withS S a) x]
    cases restS S a == 0 <;> cases restS (l.foldl withS (withS S a)) x == 0 <;> rfl
/-- A sorter and a span that say 0 alike go on so. -/
def Alike (B : Tb) (S : List Nat) : Prop := TbOk B ∧ SpOk S ∧ ∀ z, InSpan (lst B) z ↔ InSpan S z
theorem Alike.zero {B : Tb} {S : List Nat} (h : Alike B S) {x : Nat} (hx : x < 2 ^ 64) : redB B x = 0 ↔ restS S x = 0 := by
  rw [redB_iff h.1 hx, restS_iff h.2.1 hx, h.2.2]
theorem Alike.put {B : Tb} {S : List Nat} (h : Alike B S) {x : Nat} (hx : x < 2 ^ 64) : Alike (putB B x) (withS S x) := by
  obtain ⟨h1, h2⟩ := withS_spec h.2.1 hx
  refine ⟨putB_ok h.1 hx, h1, fun z => ?_⟩
  rw [putB_span h.1 hx, h2]
  refine span_same (fun r hr => ?_) (fun r hr => ?_) z
  · rcases List.mem_cons.1 hr with rfl | hr
    · exact span_mem (by simp)
    · exact span_sub (fun q hq => by simp [hq]) ((h.2.2 r).1 (span_mem hr))
  · rcases List.mem_cons.1 hr with rfl | hr
    · exact span_mem (by simp)
    · exact span_sub (fun q hq => by simp [hq]) ((h.2.2 r).2 (span_mem hr))
theorem Alike.cnt : ∀ {l : List Nat} {B : Tb} {S : List Nat}, Alike B S → (∀ x ∈ l, x < 2 ^ 64) → cntB B l = cntS S l
  | [], _, _, _, _ => rfl
  | x :: l, B, S, h, hl => by
    have hx := hl x (List.mem_cons_self ..)
    simp only [cntB, cntS, nw]
    rw [Alike.cnt (h.put hx) (fun y hy => hl y (List.mem_cons_of_mem _ hy))]
    have := h.zero hx
    by_cases h0 : redB B x = 0
    · rw [if_pos h0, if_pos (this.1 h0)]
    · rw [if_neg h0, if_neg (fun e => h0 (this.2 e))]
theorem Alike.sel : ∀ {l : List Nat} {B : Tb} {S : List Nat}, Alike B S → (∀ x ∈ l, x < 2 ^ 64) → selB B l = selS S l
  | [], _, _, _, _ => rfl
  | x :: l, B, S, h, hl => by
    have hx := hl x (List.mem_cons_self ..)
    simp only [selB, selS]
    rw [Alike.sel (h.put hx) (fun y hy => hl y (List.mem_cons_of_mem _ hy))]
    have := h.zero hx
    by_cases h0 : redB B x = 0
    · rw [beq_iff_eq.2 h0, beq_iff_eq.2 (this.1 h0)]
    · rw [beq_eq_false_iff_ne.2 h0, beq_eq_false_iff_ne.2 (fun e => h0 (this.2 e))]
theorem alike_fed {rs : List Nat} (h : ∀ r ∈ rs, r < 2 ^ 64) : Alike (fedB rs) (allS rs) := by
  refine ⟨fedB_ok h, allS_ok h, fun z => ?_⟩
  have h0 := (fed_all rs emptyB emptyB_ok h).2 z
  have h1 := (all_span rs [] spOk_nil h).2 z
  rw [lst_empty, List.append_nil] at h0
  rw [List.append_nil] at h1
  show InSpan (lst (rs.foldl putB emptyB)) z ↔ InSpan (rs.foldl withS []) z
  rw [h0, h1]

end Go.Proofs.YtldknhganoiajaaGreatDoor
