/- How many tables of up to four rows a free group has. No Go here. Both ways to the subgroups tell the same tables in the same order, once a closed check has been made. No Go here. The closed check for up to three rows. No Go here. The closed check for four rows. No Go here. -/
import Derived.Test.YtmaopnbnbiediaaDoorGrpCount
import Derived.Test.YtmaopnbnbiediaaDoorGrpCount4
import Derived.Test.YtmaopnbnbiediaaDoorGrpCount5a
import Derived.Test.YtmaopnbnbiediaaDoorGrpCount5b
import Derived.Test.YtmaopnbnbiediaaDoorGrpSubOf
namespace Go.Proofs.YtmaopnbnbiediaaDoor
theorem count_3_5 : (subP 3 5).length = 3841 := by
  unfold subP
  rw [show 3 * (2 * 5) + 1 = 5 + 26 from rfl, cnt_front front_5, cnt_split 26 16, count_5a, cnt_split 26 16, count_5b, cnt_split 26 16, count_5c, count_5d]
end Go.Proofs.YtmaopnbnbiediaaDoor

namespace Go.Proofs.YtmaopnbnbiediaaDoor

/-- The number of a table: which order each letter is. -/
def codeX (N : Nat) (T : List (List Int)) : Nat → Nat
  | 0 => 0
  | x + 1 => codeX N T x + (ordersP N).idxOf ((List.range N).map fun i => tAt T i (2 * x)) * facN N ^ x
def sortedB : List (List (List Int)) → Bool
  | [] => true
  | x :: l => match l with
    | [] => true
    | y :: _ => aheadT x y && sortedB l
def maskL (N n : Nat) : List (List (List Int)) → Nat
  | [] => 0
  | T :: l => 2 ^ codeX N T n ||| maskL N n l
/-- What is checked of one number of rows and generators. -/
def checkB (N n W : Nat) (C : List (List (List Int))) : Bool :=
  sortedB C && (C.all fun T => Nat.blt (codeX N T n) W && (tabK N n (codeX N T n) == T) && stdB T) && ((List.range W).all fun k => (codeX N (tabK N n k) n == k) && (!stdB (tabK N n k) || (maskL N n C).testBit k))

theorem aheadT_trans {X Y Z : List (List Int)} (h1 : aheadT X Y = true) (h2 : aheadT Y Z = true) : aheadT X Z = true := ahead_trans _ _ _ h1 h2
abbrev StrictT (L : List (List (List Int))) : Prop := L.Pairwise fun X Y => aheadT X Y = true
theorem strict_of : ∀ {L : List (List (List Int))}, sortedB L = true → StrictT L
  | [], _ => List.Pairwise.nil
  | [x], _ => by simp [StrictT]
  | x :: y :: l, h => by
    unfold sortedB at h
    rw [Bool.and_eq_true] at h
    have ih := strict_of h.2
    refine List.Pairwise.cons (fun z hz => ?_) ih
    rcases List.mem_cons.1 hz with rfl | hz
    · exact h.1
    · exact aheadT_trans h.1 ((List.pairwise_cons.1 ih).1 z hz)
theorem mask_mem {N n k : Nat} : ∀ {L : List (List (List Int))}, (maskL N n L).testBit k = true → ∃ T ∈ L, codeX N T n = k
  | [], h => by simp [maskL] at h
  | T :: l, h => by
    rw [maskL, Nat.testBit_or, Nat.testBit_two_pow, Bool.or_eq_true] at h
    rcases h with h | h
    · exact ⟨T, by simp, of_decide_eq_true h⟩
    · obtain ⟨T', h1, h2⟩ := mask_mem h
      exact ⟨T', by simp [h1], h2⟩
theorem putT_nil (T : List (List Int)) : putT [] T = [T] := rfl
theorem putT_cons (x : List (List Int)) (xs : List (List (List Int))) (T : List (List Int)) : putT (x :: xs) T = if aheadT x T = true then x :: putT xs T else T :: x :: xs := by
  unfold putT
  cases e : aheadT x T with
  | true => simp [List.takeWhile, List.dropWhile, e]
  | false => simp [List.takeWhile, List.dropWhile, e]
theorem putT_iff {L : List (List (List Int))} {T X : List (List Int)} : X ∈ putT L T ↔ X ∈ L ∨ X = T := by
  induction L with
  | nil => simp [putT_nil]
  | cons x xs ih =>
    rw [putT_cons]
    split
    · rw [List.mem_cons, ih, List.mem_cons]
      constructor
      · rintro (h | h | h)
        · exact .inl (.inl h)
        · exact .inl (.inr h)
        · exact .inr h
      · rintro ((h | h) | h)
        · exact .inl h
        · exact .inr (.inl h)
        · exact .inr (.inr h)
    · rw [List.mem_cons]
      exact Or.comm
theorem putT_strict {T : List (List Int)} : ∀ {L : List (List (List Int))}, StrictT L → (∀ X ∈ L, X.flatten ≠ T.flatten) → StrictT (putT L T)
  | [], _, _ => by rw [putT_nil]; simp [StrictT]
  | x :: xs, h, hne => by
    obtain ⟨h1, h2⟩ := List.pairwise_cons.1 h
    rw [putT_cons]
    split
    · rename_i hx
      refine List.Pairwise.cons (fun y hy => ?_) (putT_strict h2 fun X hX => hne X (by simp [hX]))
      rcases putT_iff.1 hy with hy | rfl
      · exact h1 y hy
      · exact hx
    · rename_i hx
      have h3 : aheadT T x = true := by
        rcases ahead_total x.flatten T.flatten (hne x (by simp)) with h | h
        · exact absurd h hx
        · exact h
      refine List.Pairwise.cons (fun y hy => ?_) h
      rcases List.mem_cons.1 hy with rfl | hy
      · exact h3
      · exact aheadT_trans h3 (h1 y hy)
theorem putT_front {T : List (List Int)} {L : List (List (List Int))} (h : ∀ y ∈ L, ¬ aheadT y T = true) : putT L T = T :: L := by
  cases L with
  | nil => rfl
  | cons x xs => rw [putT_cons, if_neg (h x (by simp))]
theorem putT_filter {T : List (List Int)} {p : List (List Int) → Bool} (hT : p T = true) : ∀ {L : List (List (List Int))}, StrictT L → putT (L.filter p) T = (putT L T).filter p
  | [], _ => by rw [List.filter_nil, putT_nil]; simp [hT]
  | x :: xs, h => by
    obtain ⟨h1, h2⟩ := List.pairwise_cons.1 h
    have ih := putT_filter hT h2
    rw [putT_cons]
    split
    · rename_i hx
      cases e : p x with
      | true => rw [List.filter_cons_of_pos e, List.filter_cons_of_pos e, putT_cons, if_pos hx, ih]
      | false => rw [List.filter_cons_of_neg (by simp [e]), List.filter_cons_of_neg (by simp [e]), ih]
    · rename_i hx
      rw [List.filter_cons_of_pos hT]
      refine putT_front fun y hy => ?_
      rcases List.mem_cons.1 (List.mem_filter.1 hy).1 with rfl | hy
      · exact hx
      · exact fun e => hx (aheadT_trans (h1 y hy) e)
theorem flat_inj {n : Nat} : ∀ {X Y : List (List Int)}, Wide n X → Wide n Y → X.length = Y.length → X.flatten = Y.flatten → X = Y
  | [], [], _, _, _, _ => rfl
  | [], _ :: _, _, _, h, _ => by simp at h
  | _ :: _, [], _, _, h, _ => by simp at h
  | x :: xs, y :: ys, hX, hY, hl, h => by
    rw [List.flatten_cons, List.flatten_cons] at h
    obtain ⟨h1, h2⟩ := List.append_inj h (by rw [hX x (by simp), hY y (by simp)])
    rw [h1, flat_inj (fun r hr => hX r (by simp [hr])) (fun r hr => hY r (by simp [hr])) (by simpa using hl) h2]

section
variable {N n W : Nat}
theorem ref_math (h0 : 0 < N) (hN : N ≤ 4) (hc : ∀ k, k < W → codeX N (tabK N n k) n = k) : ∀ k, k ≤ W → StrictT (refP N n [] k) ∧ ∀ X, X ∈ refP N n [] k ↔ ∃ j, j < k ∧ stdB (tabK N n j) = true ∧ X = tabK N n j
  | 0, _ => ⟨List.Pairwise.nil, fun X => by simp [refP]⟩
  | k + 1, hk => by
    obtain ⟨h1, h2⟩ := ref_math h0 hN hc k (by omega)
    rw [refP]
    cases e : stdB (tabK N n k) with
    | false =>
      rw [Bool.false_and, if_neg (by simp)]
      refine ⟨h1, fun X => (h2 X).trans ⟨fun ⟨j, a, b, c⟩ => ⟨j, by omega, b, c⟩, fun ⟨j, a, b, c⟩ => ⟨j, ?_, b, c⟩⟩⟩
      by_cases hj : j = k
      · subst hj; rw [e] at b; cases b
      · omega
    | true =>
      rw [if_pos (show (true && keepsB [] (tabK N n k)) = true from rfl)]
      refine ⟨putT_strict h1 fun X hX hf => ?_, fun X => ?_⟩
      · obtain ⟨j, hj, _, rfl⟩ := (h2 X).1 hX
        have t1 := tabK_tame (n := n) (k := j) h0 hN
        have t2 := tabK_tame (n := n) (k := k) h0 hN
        have h3 := flat_inj t1.wide t2.wide (by rw [t1.len, t2.len]) hf
        have h4 := hc j (by omega)
        rw [h3, hc k (by omega)] at h4
        omega
      · rw [putT_iff, h2]
        constructor
        · rintro (⟨j, a, b, c⟩ | rfl)
          · exact ⟨j, by omega, b, c⟩
          · exact ⟨k, by omega, e, rfl⟩
        · rintro ⟨j, a, b, c⟩
          by_cases hj : j = k
          · subst hj; exact .inr c
          · exact .inl ⟨j, by omega, b, c⟩
theorem ref_filter (h0 : 0 < N) (hN : N ≤ 4) (hc : ∀ k, k < W → codeX N (tabK N n k) n = k) (rels : List (List Int)) : ∀ k, k ≤ W → refP N n rels k = (refP N n [] k).filter (keepsB rels)
  | 0, _ => rfl
  | k + 1, hk => by
    have ih := ref_filter h0 hN hc rels k (by omega)
    have hs := (ref_math h0 hN hc k (by omega)).1
    rw [refP, refP, ih]
    cases e : stdB (tabK N n k) with
    | false => rw [Bool.false_and, Bool.false_and, if_neg (by simp), if_neg (by simp)]
    | true =>
      rw [if_pos (show (true && keepsB [] (tabK N n k)) = true from rfl), Bool.true_and]
      cases e2 : keepsB rels (tabK N n k) with
      | true => rw [if_pos rfl]; exact putT_filter e2 hs
      | false =>
        rw [if_neg (by simp)]
        have key : ∀ L : List (List (List Int)), (putT L (tabK N n k)).filter (keepsB rels) = L.filter (keepsB rels) := fun L => by
          induction L with
          | nil => rw [putT_nil]; simp [e2]
          | cons x xs ihx =>
            rw [putT_cons]
            split
            · rw [List.filter_cons, List.filter_cons, ihx]
            · rw [List.filter_cons_of_neg (by simp [e2])]
        exact (key _).symm
theorem strict_nodup {L : List (List (List Int))} (h : StrictT L) : L.Nodup := h.imp fun {a b} hab e => by
  subst e
  have := ahead_irrefl a.flatten
  unfold aheadT at hab
  rw [this] at hab
  cases hab
/-- Both lists are the same where their members are. -/
theorem ref_same (h0 : 0 < N) (hN : N ≤ 4) (hc : ∀ k, k < W → codeX N (tabK N n k) n = k) (hC : StrictT (subP N n)) (hm : ∀ X, X ∈ subP N n ↔ ∃ j, j < W ∧ stdB (tabK N n j) = true ∧ X = tabK N n j) (rels : List (List Int)) : refP N n rels W = (subP N n).filter (keepsB rels) := by
  have hS := ref_math h0 hN hc W (Nat.le_refl _)
  rw [ref_filter h0 hN hc rels W (Nat.le_refl _)]
  congr 1
  have hp : (refP N n [] W).Perm (subP N n) := (List.perm_ext_iff_of_nodup (strict_nodup hS.1) (strict_nodup hC)).2 fun X => by rw [hS.2, hm]
  refine List.Perm.eq_of_pairwise (le := fun X Y => aheadT X Y = true) (fun a b _ _ h4 h5 => ?_) hS.1 hC hp
  have := ahead_asymm _ _ h4
  unfold aheadT at h5
  rw [this] at h5
  cases h5
/-- The check is enough. -/
theorem ref_all (h0 : 0 < N) (hN : N ≤ 4) (h : checkB N n W (subP N n) = true) (rels : List (List Int)) : refP N n rels W = (subP N n).filter (keepsB rels) := by
  unfold checkB at h
  rw [Bool.and_eq_true, Bool.and_eq_true, List.all_eq_true, List.all_eq_true] at h
  obtain ⟨⟨h1, h2⟩, h3⟩ := h
  have hc : ∀ k, k < W → codeX N (tabK N n k) n = k := fun k hk => by
    have := h3 k (List.mem_range.2 hk)
    rw [Bool.and_eq_true] at this
    exact eq_of_beq this.1
  refine ref_same h0 hN hc (strict_of h1) (fun X => ?_) rels
  constructor
  · intro hX
    have h5 := h2 X hX
    rw [Bool.and_eq_true, Bool.and_eq_true] at h5
    have h6 := eq_of_beq h5.1.2
    exact ⟨codeX N X n, (Nat.blt_eq ▸ h5.1.1), by rw [h6]; exact h5.2, h6.symm⟩
  · rintro ⟨j, hj, hs, rfl⟩
    have h4 := h3 j (List.mem_range.2 hj)
    rw [Bool.and_eq_true, hs, Bool.not_true, Bool.false_or] at h4
    obtain ⟨T, hT, hk⟩ := mask_mem h4.2
    have h5 := h2 T hT
    rw [Bool.and_eq_true, Bool.and_eq_true, hk] at h5
    rw [eq_of_beq h5.1.2]
    exact hT
end

end Go.Proofs.YtmaopnbnbiediaaDoor

namespace Go.Proofs.YtmaopnbnbiediaaDoor
set_option maxRecDepth 1000000 in
theorem check_1 : ∀ n, n < 6 → checkB 1 n 1 (subP 1 n) = true := by decide +kernel
set_option maxRecDepth 1000000 in
theorem check_2 : ∀ n, n < 6 → checkB 2 n (2 ^ n) (subP 2 n) = true := by decide +kernel
set_option maxRecDepth 1000000 in
theorem check_3 : ∀ n, n < 4 → checkB 3 n (6 ^ n) (subP 3 n) = true := by decide +kernel
end Go.Proofs.YtmaopnbnbiediaaDoor

namespace Go.Proofs.YtmaopnbnbiediaaDoor
set_option maxRecDepth 1000000 in
theorem check_4 : ∀ n, n < 3 → checkB 4 n (24 ^ n) (subP 4 n) = true := by decide +kernel
end Go.Proofs.YtmaopnbnbiediaaDoor
