/- Cocycles sorted out of deltas with the faces themselves behind them: both ways give cocycles whose sums are all cocycles. -/
import Derived.Test.YtldknhganoiajaaGreatDoorCupRank
namespace Go.Proofs.YtldknhganoiajaaGreatDoor
open Go.RowKit Go.Sort

/-- How many faces of one dimension more. -/
abbrev ovr (all : List (List Int)) (d : Nat) : Nat := (ofDim all ((d + 1 : Nat) : Int)).length
abbrev nD (all : List (List Int)) (d : Nat) : Nat := (ofDim all (d : Int)).length
theorem two_dims {l all : List (List Int)} (h60 : all.length ≤ 60) (_hg : Good l all) (d : Nat) : ovr all d + nD all d ≤ 60 := by
  have key : ∀ m : List (List Int), (ofDim m ((d + 1 : Nat) : Int)).length + (ofDim m (d : Int)).length ≤ m.length := fun m => by
    induction m with
    | nil => simp [ofDim]
    | cons x m ih =>
      unfold ofDim at ih ⊢
      rw [List.filter_cons, List.filter_cons, List.length_cons]
      split <;> split
      · rename_i h1 h2
        simp at h1 h2
        omega
      · rw [List.length_cons]; omega
      · rw [List.length_cons]; omega
      · omega
  have := key all
  unfold ovr nD
  omega
/-- A delta with its face behind. -/
def bothW (all : List (List Int)) (d i : Nat) : Nat := dM all d i ^^^ 2 ^ (ovr all d + i)
def phi (all : List (List Int)) (d x : Nat) : Nat := deltaW all d x ^^^ (x <<< ovr all d)
def boths (all : List (List Int)) (d : Nat) : List Nat := (List.range (nD all d)).map (bothW all d)
theorem delta_xor {l all : List (List Int)} (hg : Good l all) (h60 : all.length ≤ 60) {d x y : Nat} (hx : x < 2 ^ nD all d) (hy : y < 2 ^ nD all d) : deltaW all d (x ^^^ y) = deltaW all d x ^^^ deltaW all d y := by
  refine words_eq (deltaW_lt ..) (xor_lt (deltaW_lt ..) (deltaW_lt ..)) (fun k hk => ?_)
  rw [Nat.testBit_xor, delta_bit hg h60 (xor_lt hx hy) hk, delta_bit hg h60 hx hk, delta_bit hg h60 hy hk, ← dl_xor]
  refine dl_congr _ (fun j _ => ?_)
  unfold ch
  rw [Nat.testBit_xor]
theorem delta_zero (all : List (List Int)) (d : Nat) : deltaW all d 0 = 0 := by
  unfold deltaW
  rw [bitsN_zero]; rfl
theorem delta_two (all : List (List Int)) {d i : Nat} (hi : i < 64) : deltaW all d (2 ^ i) = dM all d i := by
  have h := one_face (all := all) (d := d) hi
  have e : maskN [(i : Int)] = 2 ^ i := by simp [maskN]
  rwa [e] at h
theorem shl_xor (x y n : Nat) : (x ^^^ y) <<< n = x <<< n ^^^ y <<< n := Nat.eq_of_testBit_eq (fun k => by
  rw [Nat.testBit_shiftLeft, Nat.testBit_xor, Nat.testBit_xor, Nat.testBit_shiftLeft, Nat.testBit_shiftLeft]
  cases decide (k ≥ n) <;> simp)
theorem shr_xor (x y n : Nat) : (x ^^^ y) >>> n = x >>> n ^^^ y >>> n := Nat.eq_of_testBit_eq (fun k => by
  rw [Nat.testBit_shiftRight, Nat.testBit_xor, Nat.testBit_xor, Nat.testBit_shiftRight, Nat.testBit_shiftRight])
theorem shl_shr (x n : Nat) : (x <<< n) >>> n = x := Nat.eq_of_testBit_eq (fun k => by
  rw [Nat.testBit_shiftRight, Nat.testBit_shiftLeft]
  have e1 : decide (n + k ≥ n) = true := decide_eq_true (by omega)
  have e2 : n + k - n = k := by omega
  rw [e1, e2, Bool.true_and])
theorem shl_lt {x n m : Nat} (h : x < 2 ^ n) : x <<< m < 2 ^ (m + n) := by
  refine Nat.lt_pow_two_of_testBit _ (fun k hk => ?_)
  rw [Nat.testBit_shiftLeft, Nat.testBit_lt_two_pow (Nat.lt_of_lt_of_le h (Nat.pow_le_pow_right (by decide) (by omega)))]
  simp
theorem phi_lt (all : List (List Int)) {d x : Nat} (hx : x < 2 ^ nD all d) : phi all d x < 2 ^ (ovr all d + nD all d) :=
  xor_lt (Nat.lt_of_lt_of_le (deltaW_lt all d x) (Nat.pow_le_pow_right (by decide) (Nat.le_add_right _ _))) (shl_lt hx)
theorem phi_two (all : List (List Int)) {d i : Nat} (hi : i < 64) : phi all d (2 ^ i) = bothW all d i := by
  unfold phi bothW
  rw [delta_two all hi, Nat.shiftLeft_eq, ← Nat.pow_add, Nat.add_comm i]
theorem phi_xor {l all : List (List Int)} (hg : Good l all) (h60 : all.length ≤ 60) {d x y : Nat} (hx : x < 2 ^ nD all d) (hy : y < 2 ^ nD all d) : phi all d (x ^^^ y) = phi all d x ^^^ phi all d y := by
  unfold phi
  rw [delta_xor hg h60 hx hy, shl_xor]
  refine Nat.eq_of_testBit_eq (fun k => ?_)
  simp only [Nat.testBit_xor]
  cases (deltaW all d x).testBit k <;> cases (deltaW all d y).testBit k <;> cases (x <<< ovr all d).testBit k <;> cases (y <<< ovr all d).testBit k <;> rfl
theorem phi_zero (all : List (List Int)) (d : Nat) : phi all d 0 = 0 := by
  unfold phi
  rw [delta_zero, Nat.zero_shiftLeft]; rfl
theorem phi_low (all : List (List Int)) {d x k : Nat} (hk : k < ovr all d) : (phi all d x).testBit k = (deltaW all d x).testBit k := by
  unfold phi
  rw [Nat.testBit_xor, Nat.testBit_shiftLeft, decide_eq_false (by omega)]
  simp
/-- Where nothing of the delta is left, what is behind is a cocycle. -/
theorem phi_none {all : List (List Int)} {d x : Nat} (h : ∀ k, k < ovr all d → (phi all d x).testBit k = false) : deltaW all d x = 0 ∧ phi all d x = x <<< ovr all d ∧ (phi all d x) >>> ovr all d = x := by
  have h0 : deltaW all d x = 0 := words_eq (deltaW_lt all d x) (Nat.pow_pos (by decide)) (fun k hk => by rw [← phi_low all hk, h k hk]; simp)
  have h1 : phi all d x = x <<< ovr all d := by unfold phi; rw [h0, Nat.zero_xor]
  exact ⟨h0, h1, by rw [h1, shl_shr]⟩
theorem in_boths {all : List (List Int)} {d i : Nat} (hi : i < nD all d) : bothW all d i ∈ boths all d := List.mem_map.2 ⟨i, List.mem_range.2 hi, rfl⟩
theorem both_lt {all : List (List Int)} {d i : Nat} (hi : i < nD all d) : bothW all d i < 2 ^ (ovr all d + nD all d) :=
  xor_lt (Nat.lt_of_lt_of_le (dM_lt all d i) (Nat.pow_le_pow_right (by decide) (Nat.le_add_right _ _))) (Nat.pow_lt_pow_right (by decide) (by omega))
theorem boths_lt {l all : List (List Int)} (hg : Good l all) (h60 : all.length ≤ 60) (d : Nat) : ∀ r ∈ boths all d, r < 2 ^ 64 := fun r hr => by
  obtain ⟨i, hi, rfl⟩ := List.mem_map.1 hr
  have := two_dims h60 hg d
  exact lt64 (both_lt (List.mem_range.1 hi)) (by omega)
/-- Sums of these are words with their deltas ahead. -/
theorem span_phi {l all : List (List Int)} (hg : Good l all) (h60 : all.length ≤ 60) {d z : Nat} (hz : InSpan (boths all d) z) : ∃ x, x < 2 ^ nD all d ∧ z = phi all d x := by
  refine span_ind (P := fun z => ∃ x, x < 2 ^ nD all d ∧ z = phi all d x) ⟨0, Nat.pow_pos (by decide), (phi_zero all d).symm⟩ (fun r hr => ?_) (fun x y hx hy => ?_) hz
  · obtain ⟨i, hi, rfl⟩ := List.mem_map.1 hr
    have hi := List.mem_range.1 hi
    have := two_dims h60 hg d
    exact ⟨2 ^ i, Nat.pow_lt_pow_right (by decide) hi, (phi_two all (by omega)).symm⟩
  · obtain ⟨a, ha, rfl⟩ := hx
    obtain ⟨b, hb, rfl⟩ := hy
    exact ⟨a ^^^ b, xor_lt ha hb, (phi_xor hg h60 ha hb).symm⟩
theorem fold_two {is : List Nat} {n : Nat} (h : ∀ i ∈ is, i < n) : ∀ x0, x0 < 2 ^ n → is.foldl (fun x i => x ^^^ 2 ^ i) x0 < 2 ^ n := by
  induction is with
  | nil => exact fun x0 h0 => h0
  | cons a is ih => exact fun x0 h0 => ih (fun i hi => h i (List.mem_cons_of_mem _ hi)) _ (xor_lt h0 (Nat.pow_lt_pow_right (by decide) (h a (List.mem_cons_self ..))))
theorem fold_bits {x n : Nat} (h : x < 2 ^ n) (hn : n ≤ 64) : (bitsN x).foldl (fun x i => x ^^^ 2 ^ i) 0 = x := by
  have e := mask_bitsI h hn
  unfold maskN bitsI natsI at e
  rw [List.foldl_map] at e
  simpa using e
theorem phi_span {l all : List (List Int)} (hg : Good l all) (h60 : all.length ≤ 60) {d x : Nat} (hx : x < 2 ^ nD all d) : InSpan (boths all d) (phi all d x) := by
  have hn := two_dims h60 hg d
  have key : ∀ (is : List Nat), (∀ i ∈ is, i < nD all d) → ∀ x0, x0 < 2 ^ nD all d → InSpan (boths all d) (phi all d x0) → InSpan (boths all d) (phi all d (is.foldl (fun x i => x ^^^ 2 ^ i) x0)) := fun is => by
    induction is with
    | nil => exact fun _ x0 _ h => h
    | cons a is ih =>
      intro hi x0 h0 h
      have ha := hi a (List.mem_cons_self ..)
      have h2 : (2 : Nat) ^ a < 2 ^ nD all d := Nat.pow_lt_pow_right (by decide) ha
      refine ih (fun i hi' => hi i (List.mem_cons_of_mem _ hi')) _ (xor_lt h0 h2) ?_
      rw [phi_xor hg h60 h0 h2, phi_two all (by omega)]
      exact span_add h (span_mem (in_boths ha))
  have := key (bitsN x) (fun i hi => by
    have hb := (bitsN_mem (lt64 hx (by omega))).1 hi
    rcases Nat.lt_or_ge i (nD all d) with h1 | h1
    · exact h1
    · rw [Nat.testBit_lt_two_pow (Nat.lt_of_lt_of_le hx (Nat.pow_le_pow_right (by decide) h1))] at hb; cases hb) 0 (Nat.pow_pos (by decide)) (by rw [phi_zero]; exact span_zero _)
  rwa [fold_bits hx (by omega)] at this

/-- Cocycles, whose sums are all cocycles. -/
structure CocSpec (all : List (List Int)) (d : Nat) (L : List Nat) : Prop where
  is : ∀ c ∈ L, c < 2 ^ nD all d ∧ deltaW all d c = 0
  all : ∀ x, x < 2 ^ nD all d → deltaW all d x = 0 → InSpan L x

/-- Of a sorted table: what has nothing below n is a sum of those rows that have nothing there. -/
theorem span_high {B : Tb} (hB : TbOk B) {n : Nat} : ∀ (m z : Nat), lftN z ≤ m → z < 2 ^ 64 → redB B z = 0 → (z ≠ 0 → n ≤ low z) → InSpan ((lst B).filter (fun y => decide (n ≤ low y))) z
  | m, z, hm, hz, h0, hn => by
    rcases Nat.eq_zero_or_pos z with e | e
    · subst e; exact span_zero _
    · have h1 := (low_bits (by omega) hz).1
      cases hb : B (low z) with
      | none => rw [redB_none hz (by omega) hb] at h0; omega
      | some y =>
        obtain ⟨e1, hlt⟩ := redB_step hB hz (by omega) hb
        obtain ⟨h2, h3, h4⟩ := hB.is _ _ hb
        obtain ⟨m, rfl⟩ : ∃ k, m = k + 1 := ⟨m - 1, by unfold lftN at hm; omega⟩
        have hne := hn (by omega)
        have ih := span_high hB (n := n) m (z ^^^ y) (by omega) (xor_lt hz h2) (by rw [← e1]; exact h0) (fun hq => by
          rcases xor_low hz h2 (by omega) h3 h4.symm with e2 | e2
          · exact absurd e2 hq
          · omega)
        have hy : InSpan ((lst B).filter (fun y => decide (n ≤ low y))) y := span_mem (List.mem_filter.2 ⟨(lst_mem hB y).2 ⟨_, hb⟩, decide_eq_true (by omega)⟩)
        have := span_add ih hy
        rwa [xor_xor] at this
/-- What the program keeps of the first k. -/
def cocP (all : List (List Int)) (d : Nat) : Nat → List Nat
  | 0 => []
  | k + 1 => bif decide (low (redB (fedB ((boths all d).take k)) (bothW all d k)) < ovr all d) then cocP all d k else cocP all d k ++ [(redB (fedB ((boths all d).take k)) (bothW all d k)) >>> ovr all d]
theorem boths_take {all : List (List Int)} {d k : Nat} (hk : k < nD all d) : (boths all d).take (k + 1) = (boths all d).take k ++ [bothW all d k] := by
  have hl : k < (boths all d).length := by simpa [boths] using hk
  rw [List.take_add_one, List.getElem?_eq_getElem hl]
  simp [boths]
theorem none_below {z n : Nat} (hz : z < 2 ^ 64) (h : z ≠ 0 → n ≤ low z) {k : Nat} (hk : k < n) : z.testBit k = false := by
  rcases Nat.eq_zero_or_pos z with e | e
  · subst e; simp
  · exact (low_bits (by omega) hz).2.2 k (by have := h (by omega); omega)
theorem left_phi {l all : List (List Int)} (hg : Good l all) (h60 : all.length ≤ 60) {d k : Nat} (hk : k < nD all d) : ∃ x, x < 2 ^ nD all d ∧ redB (fedB ((boths all d).take k)) (bothW all d k) = phi all d x := by
  have hb := boths_lt hg h60 d
  have hbk : ∀ r ∈ (boths all d).take k, r < 2 ^ 64 := fun r hr => hb r (List.mem_of_mem_take hr)
  have hx := hb _ (in_boths hk)
  obtain ⟨a1, a2, a3⟩ := redB_spec (fedB_ok hbk) _ (bothW all d k) (Nat.le_refl _) hx
  have h2 := (fed_all ((boths all d).take k) emptyB emptyB_ok hbk).2 (bothW all d k ^^^ redB (fedB ((boths all d).take k)) (bothW all d k))
  rw [lst_empty, List.append_nil] at h2
  have h3 : InSpan (boths all d) (bothW all d k ^^^ redB (fedB ((boths all d).take k)) (bothW all d k)) := span_sub (fun r hr => List.mem_of_mem_take hr) (h2.1 a2)
  have h4 := span_add h3 (span_mem (in_boths hk))
  rw [Nat.xor_comm (bothW all d k), xor_xor] at h4
  exact span_phi hg h60 h4
theorem cocP_is {l all : List (List Int)} (hg : Good l all) (h60 : all.length ≤ 60) {d : Nat} : ∀ k, k ≤ nD all d → ∀ c ∈ cocP all d k, c < 2 ^ nD all d ∧ deltaW all d c = 0
  | 0, _, c, hc => by simp [cocP] at hc
  | k + 1, hk, c, hc => by
    have ih := cocP_is hg h60 (d := d) k (by omega)
    simp only [cocP] at hc
    cases h : decide (low (redB (fedB ((boths all d).take k)) (bothW all d k)) < ovr all d) with
    | true => rw [h, cond_true] at hc; exact ih c hc
    | false =>
      rw [h, cond_false] at hc
      rcases List.mem_append.1 hc with hc | hc
      · exact ih c hc
      · rw [List.mem_singleton] at hc
        subst hc
        obtain ⟨x, hx, e⟩ := left_phi hg h60 (show k < nD all d by omega)
        have hn := two_dims h60 hg d
        have h64 : phi all d x < 2 ^ 64 := lt64 (phi_lt all hx) (by omega)
        rw [e] at h ⊢
        have hle := of_decide_eq_false h
        obtain ⟨p1, p2, p3⟩ := phi_none (all := all) (d := d) (x := x) (fun j hj => none_below h64 (fun _ => by omega) hj)
        rw [p3]
        exact ⟨hx, p1⟩
theorem cocP_keeps {l all : List (List Int)} (hg : Good l all) (h60 : all.length ≤ 60) {d : Nat} : ∀ k, k ≤ nD all d → ∀ j y, fedB ((boths all d).take k) j = some y → ovr all d ≤ j → y >>> ovr all d ∈ cocP all d k
  | 0, _, j, y, h, _ => by simp [fedB, emptyB] at h
  | k + 1, hk, j, y, h, hj => by
    have ih := cocP_keeps hg h60 (d := d) k (by omega) j y
    have hb := boths_lt hg h60 d
    have hbk : ∀ r ∈ (boths all d).take k, r < 2 ^ 64 := fun r hr => hb r (List.mem_of_mem_take hr)
    have hsub : ∀ c ∈ cocP all d k, c ∈ cocP all d (k + 1) := fun c hc => by
      simp only [cocP]
      cases decide (low (redB (fedB ((boths all d).take k)) (bothW all d k)) < ovr all d) with
      | true => exact hc
      | false => exact List.mem_append_left _ hc
    rw [boths_take (by omega), fedB_snoc] at h
    unfold putB at h
    split at h
    · exact hsub _ (ih h hj)
    · dsimp only at h
      split at h
      · rename_i hne hjl
        cases h
        simp only [cocP]
        have hle : decide (low (redB (fedB ((boths all d).take k)) (bothW all d k)) < ovr all d) = false := decide_eq_false (by omega)
        rw [hle, cond_false]
        simp
      · exact hsub _ (ih h hj)
theorem cocP_spec {l all : List (List Int)} (hg : Good l all) (h60 : all.length ≤ 60) (d : Nat) : CocSpec all d (cocP all d (nD all d)) where
  is := cocP_is hg h60 _ (Nat.le_refl _)
  all := fun x hx h0 => by
    have hb := boths_lt hg h60 d
    have hn := two_dims h60 hg d
    have hz := lt64 (phi_lt all hx) (show ovr all d + nD all d ≤ 64 by omega)
    have htk : (boths all d).take (nD all d) = boths all d := List.take_of_length_le (by simp [boths])
    have hk := cocP_keeps hg h60 (d := d) (nD all d) (Nat.le_refl _)
    rw [htk] at hk
    have hph : phi all d x = x <<< ovr all d := by unfold phi; rw [h0, Nat.zero_xor]
    have h1 := span_high (fedB_ok hb) (n := ovr all d) _ (phi all d x) (Nat.le_refl _) hz ((fedB_iff hb hz).2 (phi_span hg h60 hx)) (fun hne => by
      rcases Nat.lt_or_ge (low (phi all d x)) (ovr all d) with h2 | h2
      · have h3 := (low_bits hne hz).2.1
        rw [phi_low all h2, h0] at h3
        simp at h3
      · exact h2)
    have h2 := span_ind (P := fun z => InSpan (cocP all d (nD all d)) (z >>> ovr all d)) (by rw [Nat.zero_shiftRight]; exact span_zero _) (fun r hr => by
      obtain ⟨q1, q2⟩ := List.mem_filter.1 hr
      obtain ⟨j, hj⟩ := (lst_mem (fedB_ok hb) r).1 q1
      obtain ⟨-, -, e⟩ := (fedB_ok hb).is _ _ hj
      exact span_mem (hk j r hj (by have := of_decide_eq_true q2; omega))) (fun a b ha hb => by rw [shr_xor]; exact span_add ha hb) h1
    rwa [hph, shl_shr] at h2

/-- What the reference keeps. -/
def cocR (all : List (List Int)) (d : Nat) : List Nat := ((allS (boths all d)).filter (fun r => decide (ovr all d ≤ low r))).map (fun r => r >>> ovr all d)
theorem span_bit {rs : List Nat} {k : Nat} (h : ∀ r ∈ rs, r.testBit k = false) {z : Nat} (hz : InSpan rs z) : z.testBit k = false :=
  span_ind (P := fun z => z.testBit k = false) (by simp) h (fun x y hx hy => by rw [Nat.testBit_xor, hx, hy]; rfl) hz
/-- Of rows with first numbers of their own: what has nothing below n is a sum of those that have nothing there. -/
theorem rows_high {n : Nat} : ∀ (rows : List Nat) (z : Nat), SpOk rows → InSpan rows z → (∀ k, k < n → z.testBit k = false) → InSpan (rows.filter (fun r => decide (n ≤ low r))) z
  | [], z, _, h, _ => h
  | r :: rows, z, hok, h, h0 => by
    have hok' : SpOk rows := ⟨fun r hr => hok.is r (List.mem_cons_of_mem _ hr), fun i j a b ha hb hne => hok.one (i + 1) (j + 1) a b (by simpa using ha) (by simpa using hb) (by omega)⟩
    obtain ⟨hr1, hr2⟩ := hok.is r (List.mem_cons_self ..)
    have hoth : ∀ s ∈ rows, s.testBit (low r) = false := fun s hs => by
      obtain ⟨j, hj⟩ := List.mem_iff_getElem?.1 hs
      exact hok.one 0 (j + 1) r s (by simp) (by simpa using hj) (by omega)
    rcases h with h | h
    · have := rows_high rows z hok' h h0
      exact span_sub (fun q hq => by
        rw [List.mem_filter] at hq ⊢
        exact ⟨List.mem_cons_of_mem _ hq.1, hq.2⟩) this
    · have hb := span_bit hoth h
      obtain ⟨-, hl, hlo⟩ := low_bits hr2 hr1
      rw [Nat.testBit_xor, hl] at hb
      have hzl : z.testBit (low r) = true := by revert hb; cases z.testBit (low r) <;> simp
      have hge : n ≤ low r := by
        rcases Nat.lt_or_ge (low r) n with h1 | h1
        · rw [h0 _ h1] at hzl; cases hzl
        · exact h1
      have ih := rows_high rows (z ^^^ r) hok' h (fun k hk => by rw [Nat.testBit_xor, h0 k hk, hlo k (by omega)]; rfl)
      rw [List.filter_cons, if_pos (decide_eq_true hge)]
      exact .inr ih
theorem cocR_spec {l all : List (List Int)} (hg : Good l all) (h60 : all.length ≤ 60) (d : Nat) : CocSpec all d (cocR all d) where
  is := fun c hc => by
    have hb := boths_lt hg h60 d
    obtain ⟨r, hr, rfl⟩ := List.mem_map.1 hc
    obtain ⟨h1, h2⟩ := List.mem_filter.1 hr
    have h3 := (all_span (boths all d) [] spOk_nil hb).2 r
    rw [List.append_nil] at h3
    obtain ⟨x, hx, rfl⟩ := span_phi hg h60 (h3.1 (span_mem h1))
    obtain ⟨q1, q2⟩ := (allS_ok hb).is _ h1
    obtain ⟨p1, p2, p3⟩ := phi_none (all := all) (d := d) (x := x) (fun j hj => none_below q1 (fun _ => of_decide_eq_true h2) hj)
    rw [p3]
    exact ⟨hx, p1⟩
  all := fun x hx h0 => by
    have hb := boths_lt hg h60 d
    have hph : phi all d x = x <<< ovr all d := by unfold phi; rw [h0, Nat.zero_xor]
    have h3 := (all_span (boths all d) [] spOk_nil hb).2 (phi all d x)
    rw [List.append_nil] at h3
    have h1 := rows_high (n := ovr all d) (allS (boths all d)) (phi all d x) (allS_ok hb) (h3.2 (phi_span hg h60 hx)) (fun k hk => by rw [phi_low all hk, h0]; simp)
    have h2 := span_ind (P := fun z => InSpan (cocR all d) (z >>> ovr all d)) (by rw [Nat.zero_shiftRight]; exact span_zero _) (fun r hr => span_mem (List.mem_map.2 ⟨r, hr, rfl⟩)) (fun a b ha hb => by rw [shr_xor]; exact span_add ha hb) h1
    rwa [hph, shl_shr] at h2

/-- Classes: cocycles, whose sums with deltas are all cocycles. -/
structure ClsSpec (all : List (List Int)) (d : Nat) (L : List Nat) : Prop where
  is : ∀ c ∈ L, c < 2 ^ nD all d ∧ deltaW all d c = 0
  all : ∀ x, x < 2 ^ nD all d → deltaW all d x = 0 → InSpan (L ++ rowsD all d) x
theorem cnt60 {all : List (List Int)} (h60 : all.length ≤ 60) (d : Nat) : nD all d ≤ 60 := Nat.le_trans (ofDim_length _ _) h60
theorem lst_fed {rs : List Nat} (h : ∀ r ∈ rs, r < 2 ^ 64) (L : List Nat) (z : Nat) : InSpan (L ++ lst (fedB rs)) z ↔ InSpan (L ++ rs) z := by
  have h0 : ∀ z, InSpan (lst (fedB rs)) z ↔ InSpan (rs ++ []) z := by
    have h0 := (fed_all rs emptyB emptyB_ok h).2
    rw [lst_empty] at h0
    exact h0
  refine span_same (fun r hr => ?_) (fun r hr => ?_) z
  · rcases List.mem_append.1 hr with hr | hr
    · exact span_mem (by simp [hr])
    · exact span_sub (fun q hq => by simp at hq; simp [hq]) ((h0 r).1 (span_mem hr))
  · rcases List.mem_append.1 hr with hr | hr
    · exact span_mem (by simp [hr])
    · exact span_sub (fun q hq => by simp [hq]) ((h0 r).2 (span_mem (by simp [hr])))
theorem cls_spec {all : List (List Int)} (h60 : all.length ≤ 60) {d : Nat} {L : List Nat} (h : CocSpec all d L) : ClsSpec all d (selB (fedB (rowsD all d)) L) where
  is := fun c hc => h.is c (selB_mem _ _ c hc)
  all := fun x hx h0 => by
    have hr := rowsD_lt all d (show nD all d ≤ 64 by have := cnt60 h60 d; omega)
    have hL : ∀ x ∈ L, x < 2 ^ 64 := fun x hx => lt64 (h.is x hx).1 (by have := cnt60 h60 d; omega)
    have h1 := selB_span L (fedB (rowsD all d)) (fedB_ok hr) hL x
    rw [lst_fed hr, lst_fed hr] at h1
    exact h1.1 (span_sub (fun r hr => by simp [hr]) (h.all x hx h0))

/-- All products of two lists. -/
def prodL (all : List (List Int)) (i k : Nat) (A B : List Nat) : List Nat := A.flatMap (fun f => B.map (fun g => cupW all i k f g))
theorem prodL_mem {all : List (List Int)} {i k : Nat} {A B : List Nat} {x : Nat} : x ∈ prodL all i k A B ↔ ∃ f ∈ A, ∃ g ∈ B, x = cupW all i k f g := by
  unfold prodL
  rw [List.mem_flatMap]
  constructor
  · rintro ⟨f, hf, h⟩
    obtain ⟨g, hg, rfl⟩ := List.mem_map.1 h
    exact ⟨f, hf, g, hg, rfl⟩
  · rintro ⟨f, hf, g, hg, rfl⟩
    exact ⟨f, hf, List.mem_map.2 ⟨g, hg, rfl⟩⟩
theorem cup_xor_right {all : List (List Int)} (i k f g g' : Nat) : cupW all i k f (g ^^^ g') = cupW all i k f g ^^^ cupW all i k f g' := by
  refine words_eq (cupW_lt ..) (xor_lt (cupW_lt ..) (cupW_lt ..)) (fun x hx => ?_)
  rw [Nat.testBit_xor, cup_bit hx, cup_bit hx, cup_bit hx, ← cp_right]
  unfold cp ch
  rw [Nat.testBit_xor]
theorem row_is {all : List (List Int)} {l : List (List Int)} (h60 : all.length ≤ 60) {d r : Nat} (_hg : Good l all) (hr : r ∈ rowsD all d) : ∃ e y, d = e + 1 ∧ y < 2 ^ nD all e ∧ r = deltaW all e y := by
  cases d with
  | zero => simp [rowsD] at hr
  | succ e =>
    obtain ⟨i, hi, rfl⟩ := List.mem_map.1 hr
    have hi := List.mem_range.1 hi
    have := cnt60 h60 e
    exact ⟨e, 2 ^ i, rfl, Nat.pow_lt_pow_right (by decide) hi, (delta_two all (show i < 64 by unfold nD at this; omega)).symm⟩
/-- A product of cocycles is a sum of products of classes, and deltas. -/
theorem prod_in {l all : List (List Int)} (hg : Good l all) (h60 : all.length ≤ 60) {i k f g : Nat} {A B : List Nat} (hA : ClsSpec all i A) (hB : ClsSpec all k B) (hf : f < 2 ^ nD all i) (hg2 : g < 2 ^ nD all k) (h1 : deltaW all i f = 0) (h2 : deltaW all k g = 0) :
    InSpan (prodL all i k A B ++ rowsD all (i + k)) (cupW all i k f g) := by
  refine span_ind (P := fun z => InSpan (prodL all i k A B ++ rowsD all (i + k)) (cupW all i k z g)) ?_ (fun r hr => ?_) (fun x y hx hy => ?_) (hA.all f hf h1)
  · rw [cup_zero_left hg]; exact span_zero _
  · rcases List.mem_append.1 hr with hr | hr
    · obtain ⟨c1, c2⟩ := hA.is r hr
      refine span_ind (P := fun z => InSpan (prodL all i k A B ++ rowsD all (i + k)) (cupW all i k r z)) ?_ (fun q hq => ?_) (fun x y hx hy => ?_) (hB.all g hg2 h2)
      · rw [cup_zero_right hg]; exact span_zero _
      · rcases List.mem_append.1 hq with hq | hq
        · exact span_mem (List.mem_append_left _ (prodL_mem.2 ⟨r, hr, q, hq, rfl⟩))
        · obtain ⟨e, y, rfl, hy, rfl⟩ := row_is h60 hg hq
          have hl := leibniz_w hg h60 c1 hy
          rw [c2, cup_zero_left hg, Nat.zero_xor] at hl
          rw [← hl]
          exact span_sub (fun q hq => by simp; exact .inr hq) (delta_span h60 (cupW_lt ..))
      · rw [cup_xor_right]; exact span_add hx hy
    · obtain ⟨e, y, rfl, hy, rfl⟩ := row_is h60 hg hr
      have hl := leibniz_w hg h60 hy hg2
      rw [h2, cup_zero_right hg, Nat.xor_zero] at hl
      rw [← hl, show e + 1 + k = e + k + 1 by omega]
      exact span_sub (fun q hq => by simp; exact .inr hq) (delta_span h60 (cupW_lt ..))
  · rw [cup_xor_left]; exact span_add hx hy
theorem prodL_is {l all : List (List Int)} (hg : Good l all) (h60 : all.length ≤ 60) {i k : Nat} {A B : List Nat} (hA : ∀ c ∈ A, c < 2 ^ nD all i ∧ deltaW all i c = 0) (hB : ∀ c ∈ B, c < 2 ^ nD all k ∧ deltaW all k c = 0) : ∀ x ∈ prodL all i k A B, x < 2 ^ nD all (i + k) ∧ deltaW all (i + k) x = 0 := fun x hx => by
  obtain ⟨f, hf, g, hg', rfl⟩ := prodL_mem.1 hx
  exact ⟨cupW_lt .., cup_cocycle hg h60 (hA f hf).1 (hB g hg').1 (hA f hf).2 (hB g hg').2⟩
theorem ring_same {l all : List (List Int)} (hg : Good l all) (h60 : all.length ≤ 60) {i k : Nat} {A A' B B' : List Nat} (hA : ClsSpec all i A) (hA' : ClsSpec all i A') (hB : ClsSpec all k B) (hB' : ClsSpec all k B') :
    cntB (fedB (rowsD all (i + k))) (prodL all i k A B) = cntB (fedB (rowsD all (i + k))) (prodL all i k A' B') := by
  have h6 := cnt60 h60 (i + k)
  have hr := rowsD_lt all (i + k) (show nD all (i + k) ≤ 64 by omega)
  have key : ∀ {A A' B B' : List Nat}, ClsSpec all i A → ClsSpec all i A' → ClsSpec all k B → ClsSpec all k B' → ∀ r ∈ prodL all i k A B ++ rowsD all (i + k), InSpan (prodL all i k A' B' ++ rowsD all (i + k)) r := fun hA hA' hB hB' r hr => by
    rcases List.mem_append.1 hr with hr | hr
    · obtain ⟨f, hf, g, hg', rfl⟩ := prodL_mem.1 hr
      exact prod_in hg h60 hA' hB' (hA.is f hf).1 (hB.is g hg').1 (hA.is f hf).2 (hB.is g hg').2
    · exact span_mem (by simp [hr])
  refine cntB_same hr (fun x hx => lt64 (prodL_is hg h60 hA.is hB.is x hx).1 (by omega)) (fun x hx => lt64 (prodL_is hg h60 hA'.is hB'.is x hx).1 (by omega)) (span_same (key hA hA' hB hB') (key hA' hA hB' hB))
/-- There can be no more than there are classes. -/
theorem ring_le {l all : List (List Int)} (hg : Good l all) (h60 : all.length ≤ 60) {i k : Nat} {A B L : List Nat} (hA : ClsSpec all i A) (hB : ClsSpec all k B) (hL : CocSpec all (i + k) L) :
    cntB (fedB (rowsD all (i + k))) (prodL all i k A B) ≤ (selB (fedB (rowsD all (i + k))) L).length := by
  have h6 := cnt60 h60 (i + k)
  have hr := rowsD_lt all (i + k) (show nD all (i + k) ≤ 64 by omega)
  rw [selB_len]
  refine cntB_le hr (fun x hx => lt64 (prodL_is hg h60 hA.is hB.is x hx).1 (by omega)) (fun x hx => lt64 (hL.is x hx).1 (by omega)) (fun z hz => span_into (fun r hr => ?_) hz)
  rcases List.mem_append.1 hr with hr | hr
  · obtain ⟨q1, q2⟩ := prodL_is hg h60 hA.is hB.is r hr
    exact span_sub (fun q hq => by simp [hq]) (hL.all r q1 q2)
  · exact span_mem (by simp [hr])

end Go.Proofs.YtldknhganoiajaaGreatDoor
