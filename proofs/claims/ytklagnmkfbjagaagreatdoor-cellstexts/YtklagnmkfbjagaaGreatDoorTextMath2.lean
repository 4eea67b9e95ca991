/- Texts of complexes: what is told is read again as it was. -/
import Derived.Test.YtklagnmkfbjagaaGreatDoorTextMath
namespace Go.Proofs.YtklagnmkfbjagaaGreatDoor

/-- The digits of a number below a hundred. -/
def dec (v : Int) : List UInt8 := if v < 10 then [UInt8.ofNat (48 + v.toNat)] else [UInt8.ofNat (48 + v.toNat / 10), UInt8.ofNat (48 + v.toNat % 10)]
/-- Texts with one between. -/
def joinB (sep : List UInt8) : List (List UInt8) → List UInt8
  | [] => []
  | [x] => x
  | x :: y :: r => x ++ (sep ++ joinB sep (y :: r))
def textS (S : List Int) : List UInt8 := joinB [32] (S.map dec)
def textC (c : List (List Int)) : List UInt8 := joinB [59, 32] (c.map textS)

theorem digit_of {k : Nat} (h : k < 10) : isD (UInt8.ofNat (48 + k)) = true ∧ dv (UInt8.ofNat (48 + k)) = (k : Int) := by
  have e : (UInt8.ofNat (48 + k)).toNat = 48 + k := by rw [UInt8.toNat_ofNat']; omega
  refine ⟨isD_iff.2 (by omega), ?_⟩
  unfold dv
  rw [e]; omega
theorem dec_length (v : Int) : 0 < (dec v).length ∧ (dec v).length ≤ 2 := by
  unfold dec
  split <;> simp
theorem dec_head {v : Int} (h : 0 ≤ v ∧ v ≤ 99) : ∃ c t, dec v = c :: t ∧ isD c = true := by
  unfold dec
  split
  · exact ⟨_, _, rfl, (digit_of (by omega)).1⟩
  · exact ⟨_, _, rfl, (digit_of (by omega)).1⟩
theorem num_dec {v : Int} (h : 0 ≤ v ∧ v ≤ 99) {rest : List UInt8} (hr : ∀ c t, rest = c :: t → isD c = false) : num (dec v ++ rest) = (v, (dec v).length) := by
  unfold dec
  split
  · have hd := digit_of (k := v.toNat) (by omega)
    rw [List.singleton_append]
    simp only [num, hd.1, if_true]
    cases rest with
    | nil => simp only [hd.2, List.length_singleton, Prod.mk.injEq, and_true]; omega
    | cons c t =>
      simp only [hr c t rfl, Bool.false_eq_true, if_false, hd.2, List.length_singleton, Prod.mk.injEq, and_true]
      omega
  · have h1 := digit_of (k := v.toNat / 10) (by omega)
    have h2 := digit_of (k := v.toNat % 10) (by omega)
    simp only [List.cons_append, List.nil_append, num, h1.1, h2.1, if_true, h1.2, h2.2, List.length_cons, List.length_nil, Prod.mk.injEq, and_true]
    omega
theorem blanks_digit {c : UInt8} {t : List UInt8} (h : isD c = true) : blanks (c :: t) = 0 := by
  simp only [blanks, if_neg (isD_not h).1]
theorem drop_len {α : Type} (x y : List α) : (x ++ y).drop x.length = y := List.drop_left
theorem textS_cons (v w : Int) (r : List Int) : textS (v :: w :: r) = dec v ++ (32 :: textS (w :: r)) := rfl
theorem textS_one (v : Int) : textS [v] = dec v := rfl
theorem textS_head : ∀ (T : List Int), T ≠ [] → (∀ v ∈ T, 0 ≤ v ∧ v ≤ 99) → ∃ c t, textS T = c :: t ∧ isD c = true
  | [], h, _ => absurd rfl h
  | [v], _, h => dec_head (h v (by simp))
  | v :: w :: r, _, h => by
    obtain ⟨c, t, e, hc⟩ := dec_head (h v (by simp))
    exact ⟨c, t ++ (32 :: textS (w :: r)), by rw [textS_cons, e]; rfl, hc⟩

theorem textS_rset : ∀ (T : List Int), T ≠ [] → (∀ v ∈ T, 0 ≤ v ∧ v ≤ 99) → ∀ (N : Nat) (S : List Int) (rest : List UInt8), (textS T ++ rest).length < N → (∀ c t, rest = c :: t → c = 59) → rset N S (textS T ++ rest) = (S ++ T, (textS T).length)
  | [], h, _, _, _, _, _, _ => absurd rfl h
  | [v], _, h, 0, _, _, hN, _ => by omega
  | [v], _, h, N + 1, S, rest, hN, hr => by
    have hn := num_dec (h v (by simp)) (rest := rest) (fun c t e => by rw [hr c t e]; decide)
    have hl := (dec_length v).1
    have hb : blanks rest = 0 := by
      cases rest with
      | nil => rfl
      | cons c t => rw [hr c t rfl]; rfl
    simp only [rset]
    rw [textS_one, hn, drop_len, if_neg (by omega), if_pos hb]
  | v :: w :: r, _, h, 0, _, _, hN, _ => by omega
  | v :: w :: r, _, h, N + 1, S, rest, hN, hr => by
    have hn := num_dec (h v (by simp)) (rest := 32 :: textS (w :: r) ++ rest) (fun c t e => by rw [List.cons_append, List.cons.injEq] at e; rw [← e.1]; decide)
    have hl := (dec_length v).1
    obtain ⟨c, t, e, hc⟩ := textS_head (w :: r) (by simp) (fun x hx => h x (by simp [List.mem_cons.1 hx]))
    have hb : blanks (32 :: textS (w :: r) ++ rest) = 1 := by
      rw [e]
      simp only [List.cons_append, blanks, if_true, if_neg (isD_not hc).1]
    have hN' : (textS (w :: r) ++ rest).length < N := by
      rw [textS_cons] at hN
      simp only [List.length_append, List.length_cons] at hN ⊢
      omega
    have ih := textS_rset (w :: r) (by simp) (fun x hx => h x (by simp [List.mem_cons.1 hx])) N (S ++ [v]) rest hN' hr
    have hd : (dec v ++ (32 :: textS (w :: r) ++ rest)).drop ((dec v).length + 1) = textS (w :: r) ++ rest := by
      rw [← List.drop_drop, drop_len]; rfl
    simp only [rset]
    rw [textS_cons, List.append_assoc, hn, drop_len, if_neg (by omega), hb, if_neg (by omega), hd, ih]
    simp only [List.length_append, List.length_cons, List.append_assoc, List.singleton_append, Prod.mk.injEq, true_and]
    omega

theorem textC_cons (S T : List Int) (r : List (List Int)) : textC (S :: T :: r) = textS S ++ (59 :: 32 :: textC (T :: r)) := rfl
theorem textC_one (S : List Int) : textC [S] = textS S := rfl
/-- Sets as they are told. -/
def Plain (c : List (List Int)) : Prop := ∀ S ∈ c, S ≠ [] ∧ ∀ v ∈ S, 0 ≤ v ∧ v ≤ 99
theorem textC_head : ∀ (c : List (List Int)), c ≠ [] → Plain c → ∃ d t, textC c = d :: t ∧ isD d = true
  | [], h, _ => absurd rfl h
  | [S], _, h => textS_head S (h S (by simp)).1 (h S (by simp)).2
  | S :: T :: r, _, h => by
    obtain ⟨d, t, e, hd⟩ := textS_head S (h S (by simp)).1 (h S (by simp)).2
    exact ⟨d, t ++ (59 :: 32 :: textC (T :: r)), by rw [textC_cons, e]; rfl, hd⟩
theorem rd_text : ∀ (c : List (List Int)), c ≠ [] → Plain c → ∀ (N : Nat) (l : List (List Int)) (i : Nat) (bl : List UInt8), (bl = [] ∨ bl = [32]) → (bl ++ textC c).length < N → rd N l i (bl ++ textC c) = .sets (l ++ c)
  | [], h, _, _, _, _, _, _, _ => absurd rfl h
  | S :: c, _, h, 0, _, _, _, _, hN => by omega
  | S :: c, _, h, N + 1, l, i, bl, hbl, hN => by
    obtain ⟨d, t, e, hd⟩ := textC_head (S :: c) (by simp) h
    have hb : blanks (bl ++ textC (S :: c)) = bl.length := by
      rw [e]
      rcases hbl with rfl | rfl
      · exact blanks_digit hd
      · simp only [List.singleton_append, blanks, if_true, if_neg (isD_not hd).1, List.length_singleton]
    have hS := h S (by simp)
    simp only [rd]
    rw [hb, drop_len]
    cases c with
    | nil =>
      have hr := textS_rset S hS.1 hS.2 ((bl ++ textC [S]).length + 1) [] [] (by rw [textC_one]; simp only [List.append_nil, List.length_append]; omega) (fun c t e => by cases e)
      rw [List.append_nil] at hr
      rw [textC_one] at hr ⊢
      rw [hr, List.drop_length]
      simp only [List.nil_append, if_neg hS.1]
    | cons T r =>
      have hr := textS_rset S hS.1 hS.2 ((bl ++ textC (S :: T :: r)).length + 1) [] (59 :: 32 :: textC (T :: r)) (by rw [textC_cons]; simp only [List.length_append]; omega) (fun c t e => by rw [List.cons.injEq] at e; exact e.1.symm)
      rw [← textC_cons] at hr
      rw [hr]
      have hdr : (textC (S :: T :: r)).drop (textS S).length = 59 :: 32 :: textC (T :: r) := by rw [textC_cons, drop_len]
      rw [hdr]
      simp only [List.nil_append]
      rw [if_neg (by simp [hS.1])]
      have hN' : ([32] ++ textC (T :: r)).length < N := by
        rw [textC_cons] at hN
        have := List.length_pos_iff.2 (show textS S ≠ [] from by obtain ⟨d, t, e, _⟩ := textS_head S hS.1 hS.2; rw [e]; simp)
        simp only [List.length_append, List.length_cons, List.length_nil] at hN ⊢
        omega
      have ih := rd_text (T :: r) (by simp) (fun x hx => h x (by simp [List.mem_cons.1 hx])) N (l ++ [S]) (i + bl.length + (textS S).length + 1) [32] (.inr rfl) hN'
      rw [List.singleton_append] at ih
      rw [ih, List.append_assoc]; rfl
theorem textS_length : ∀ (T : List Int), (textS T).length ≤ 3 * T.length
  | [] => Nat.le_refl _
  | [v] => by rw [textS_one]; have := dec_length v; simp only [List.length_singleton]; omega
  | v :: w :: r => by
    have := textS_length (w :: r)
    have h2 := dec_length v
    rw [textS_cons]
    simp only [List.length_append, List.length_cons] at this ⊢
    omega
theorem textC_length {m : Nat} : ∀ (c : List (List Int)), (∀ S ∈ c, S.length ≤ m) → (textC c).length ≤ c.length * (3 * m + 2)
  | [], _ => Nat.zero_le _
  | [S], h => by
    have h1 := textS_length S
    have h2 := h S (by simp)
    rw [textC_one]; simp only [List.length_singleton]; omega
  | S :: T :: r, h => by
    have h1 := textS_length S
    have h2 := h S (by simp)
    have ih := textC_length (T :: r) (fun x hx => h x (by simp [List.mem_cons.1 hx]))
    rw [textC_cons]
    have e : (S :: T :: r).length * (3 * m + 2) = (T :: r).length * (3 * m + 2) + (3 * m + 2) := by rw [List.length_cons, Nat.succ_mul]
    simp only [List.length_append, List.length_cons] at ih e ⊢
    omega

end Go.Proofs.YtklagnmkfbjagaaGreatDoor
