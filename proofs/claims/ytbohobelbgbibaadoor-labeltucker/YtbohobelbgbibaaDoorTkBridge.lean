/- The program's list of sides with opposite labels is the reference's; there is one. No Go here. -/
import Derived.Test.YtbohobelbgbibaaDoorTkOppOf
import Derived.Test.YtbohobelbgbibaaDoorTkOpp
import Derived.Test.YtbohobelbgbibaaDoorTuckMath
namespace Go.Proofs.YtbohobelbgbibaaDoor

/-- The sides that a point has a part in, of those squares beside it. -/
def locS (n a : Nat) : List T2 := (cutAt n a ++ (cutAt n (a - 1) ++ cutAt n (a - sdN n))).flatMap sidesOf
def locB (n a : Nat) : Bool := [a + 1, a + sdN n - 1, a + sdN n, a + sdN n + 1].all fun b => !(decide (b < sdN n * sdN n) && (decide (a < b) && joinB n a b)) || (locS n a).elem ((a : Int), (b : Int))
def sideB (n : Nat) (x : T2) : Bool := decide (0 ≤ x.1) && (decide (0 ≤ x.2) && (decide (x.1.toNat < x.2.toNat) && (decide (x.2.toNat < sdN n * sdN n) && joinB n x.1.toNat x.2.toNat)))
theorem loc_closed : ∀ n, 1 ≤ n → n ≤ 6 → (List.range (sdN n * sdN n)).all (locB n) = true := fun n h1 h2 => by
  obtain rfl | rfl | rfl | rfl | rfl | rfl : n = 1 ∨ n = 2 ∨ n = 3 ∨ n = 4 ∨ n = 5 ∨ n = 6 := by omega
  all_goals decide +kernel
theorem side_closed : ∀ n, 1 ≤ n → n ≤ 6 → ((cutL n).flatMap sidesOf).all (sideB n) = true := fun n h1 h2 => by
  obtain rfl | rfl | rfl | rfl | rfl | rfl : n = 1 ∨ n = 2 ∨ n = 3 ∨ n = 4 ∨ n = 5 ∨ n = 6 := by omega
  all_goals decide +kernel
theorem sq_one {d : Int} (h : d * d ≤ 1) : -1 ≤ d ∧ d ≤ 1 := by
  have e : ((d.natAbs * d.natAbs : Nat) : Int) = d * d := by rw [Int.natCast_mul]; exact Int.natAbs_mul_self
  have h2 : d.natAbs < 2 := by
    refine Nat.lt_of_not_le fun h2 => ?_
    have := Nat.mul_le_mul h2 h2
    omega
  omega
theorem sq_nn (d : Int) : 0 ≤ d * d := by
  have e : ((d.natAbs * d.natAbs : Nat) : Int) = d * d := by rw [Int.natCast_mul]; exact Int.natAbs_mul_self
  omega
theorem sided_near {x y u v : Int} (h : sidedB x y u v = true) : (-1 ≤ u - x ∧ u - x ≤ 1) ∧ (-1 ≤ v - y ∧ v - y ≤ 1) := by
  unfold sidedB at h
  rw [Bool.or_eq_true, Bool.and_eq_true, Bool.and_eq_true, beq_iff_eq, beq_iff_eq, beq_iff_eq] at h
  have h1 := sq_nn (u - x)
  have h2 := sq_nn (v - y)
  rcases h with h | ⟨⟨h3, h4⟩, -⟩
  · exact ⟨sq_one (by omega), sq_one (by omega)⟩
  · exact ⟨sq_one (by omega), by omega, by omega⟩
theorem join_near {n a b : Nat} (hab : a < b) (h : joinB n a b = true) : b = a + 1 ∨ b = a + sdN n - 1 ∨ b = a + sdN n ∨ b = a + sdN n + 1 := by
  obtain ⟨⟨k1, k2⟩, k3, k4⟩ := sided_near (show sidedB _ _ _ _ = true from h)
  have e1 := Nat.div_add_mod a (sdN n)
  have e2 := Nat.div_add_mod b (sdN n)
  have hs : sdN n = 2 * n + 1 := rfl
  have m1 := Nat.mod_lt a (show sdN n > 0 by omega)
  have m2 := Nat.mod_lt b (show sdN n > 0 by omega)
  obtain ⟨am, ham⟩ : ∃ z, a % sdN n = z := ⟨_, rfl⟩
  obtain ⟨bm, hbm⟩ : ∃ z, b % sdN n = z := ⟨_, rfl⟩
  obtain ⟨ad, had⟩ : ∃ z, a / sdN n = z := ⟨_, rfl⟩
  obtain ⟨bd, hbd⟩ : ∃ z, b / sdN n = z := ⟨_, rfl⟩
  rw [ham] at k1 k2 e1 m1
  rw [hbm] at k1 k2 e2 m2
  rw [had] at k3 k4 e1
  rw [hbd] at k3 k4 e2
  obtain rfl | rfl | h5 : bd = ad ∨ bd = ad + 1 ∨ bd + 1 = ad := by omega
  · left; omega
  · rw [Nat.mul_succ] at e2
    omega
  · subst h5
    rw [Nat.mul_succ] at e1
    omega
theorem cut_sub {n p : Nat} (hp : p < sdN n * sdN n) {t : T3} (h : t ∈ cutAt n p) : t ∈ cutL n := by
  unfold cutL cutTo
  rw [List.mem_flatMap]
  exact ⟨p, List.mem_range.2 hp, h⟩
theorem loc_sub {n a : Nat} (ha : a < sdN n * sdN n) {x : T2} (h : x ∈ locS n a) : x ∈ (cutL n).flatMap sidesOf := by
  unfold locS at h
  rw [List.mem_flatMap] at h ⊢
  obtain ⟨t, h1, h2⟩ := h
  rw [List.mem_append, List.mem_append] at h1
  refine ⟨t, ?_, h2⟩
  rcases h1 with h1 | h1 | h1
  · exact cut_sub ha h1
  · exact cut_sub (by omega) h1
  · exact cut_sub (by omega) h1
theorem mem_sides {n : Nat} (h1 : 1 ≤ n) (h2 : n ≤ 6) (x : T2) : x ∈ (cutL n).flatMap sidesOf ↔ ∃ a b : Nat, x = ((a : Int), (b : Int)) ∧ a < b ∧ b < sdN n * sdN n ∧ joinB n a b = true := by
  constructor
  · intro h
    have := List.all_eq_true.1 (side_closed n h1 h2) x h
    unfold sideB at this
    simp only [Bool.and_eq_true, decide_eq_true_eq] at this
    obtain ⟨k1, k2, k3, k4, k5⟩ := this
    refine ⟨x.1.toNat, x.2.toNat, ?_, k3, k4, k5⟩
    rw [Int.toNat_of_nonneg k1, Int.toNat_of_nonneg k2]
  · rintro ⟨a, b, rfl, k1, k2, k3⟩
    have ha : a < sdN n * sdN n := by omega
    have := List.all_eq_true.1 (loc_closed n h1 h2) a (List.mem_range.2 ha)
    unfold locB at this
    have hb : b ∈ [a + 1, a + sdN n - 1, a + sdN n, a + sdN n + 1] := by
      have := join_near k1 k3
      simp only [List.mem_cons, List.not_mem_nil, or_false]
      exact this
    have := List.all_eq_true.1 this b hb
    rw [decide_eq_true k2, decide_eq_true k1, k3] at this
    exact loc_sub ha (List.elem_iff.1 (by simpa using this))
/-- Pairs in their order. -/
theorem lt2_trans {a b c : T2} (h1 : lt2 a b) (h2 : lt2 b c) : lt2 a c := by unfold lt2 at *; omega
theorem lt2_irr (a : T2) : ¬ lt2 a a := by unfold lt2; omega
theorem lt2_tot {a b : T2} (h : a ≠ b) (h2 : ¬ lt2 b a) : lt2 a b := by
  have h3 : ¬ (a.1 = b.1 ∧ a.2 = b.2) := fun e => h (Prod.ext e.1 e.2)
  unfold lt2 at *
  omega
theorem strict_ext : ∀ {l m : List T2}, l.Pairwise lt2 → m.Pairwise lt2 → (∀ x, x ∈ l ↔ x ∈ m) → l = m
  | [], [], _, _, _ => rfl
  | [], b :: m, _, _, h => absurd ((h b).2 (by simp)) (by simp)
  | a :: l, [], _, _, h => absurd ((h a).1 (by simp)) (by simp)
  | a :: l, b :: m, h1, h2, h => by
    rw [List.pairwise_cons] at h1 h2
    have e : a = b := by
      have ha := (h a).1 (by simp)
      have hb := (h b).2 (by simp)
      rw [List.mem_cons] at ha hb
      rcases ha with ha | ha
      · exact ha
      · rcases hb with hb | hb
        · exact hb.symm
        · exact absurd (lt2_trans (h1.1 b hb) (h2.1 a ha)) (lt2_irr a)
    subst e
    rw [strict_ext h1.2 h2.2 fun x => ?_]
    have hx := h x
    rw [List.mem_cons, List.mem_cons] at hx
    constructor
    · intro k
      rcases hx.1 (.inr k) with e | e
      · subst e; exact absurd (h1.1 _ k) (lt2_irr _)
      · exact e
    · intro k
      rcases hx.2 (.inr k) with e | e
      · subst e; exact absurd (h2.1 _ k) (lt2_irr _)
      · exact e
theorem ded_mem (F : Nat → T2) : ∀ m x, x ∈ dedTo F m ↔ ∃ j, j < m ∧ F j = x
  | 0, x => by simp [dedTo]
  | 1, x => by
    simp only [dedTo, List.mem_singleton]
    constructor
    · rintro rfl; exact ⟨0, by omega, rfl⟩
    · rintro ⟨j, hj, rfl⟩; rw [show j = 0 by omega]
  | k + 2, x => by
    have ih := ded_mem F (k + 1) x
    by_cases h : F (k + 1) = F k
    · rw [dedTo_same h, ih]
      constructor
      · rintro ⟨j, hj, e⟩; exact ⟨j, by omega, e⟩
      · rintro ⟨j, hj, e⟩
        rcases Nat.lt_or_ge j (k + 1) with g | g
        · exact ⟨j, g, e⟩
        · rw [show j = k + 1 by omega, h] at e
          exact ⟨k, by omega, e⟩
    · rw [dedTo_new h, List.mem_append, ih, List.mem_singleton]
      constructor
      · rintro (⟨j, hj, e⟩ | e)
        · exact ⟨j, by omega, e⟩
        · exact ⟨k + 1, by omega, e.symm⟩
      · rintro ⟨j, hj, e⟩
        rcases Nat.lt_or_ge j (k + 1) with g | g
        · exact .inl ⟨j, g, e⟩
        · rw [show j = k + 1 by omega] at e
          exact .inr e.symm
theorem ded_strict (F : Nat → T2) : ∀ m, (∀ i j, i < j → j < m → ¬ lt2 (F j) (F i)) → (dedTo F m).Pairwise lt2
  | 0, _ => by simp [dedTo]
  | 1, _ => by simp [dedTo]
  | k + 2, hm => by
    have ih := ded_strict F (k + 1) fun i j h1 h2 => hm i j h1 (by omega)
    by_cases h : F (k + 1) = F k
    · rw [dedTo_same h]; exact ih
    · rw [dedTo_new h, List.pairwise_append]
      refine ⟨ih, by simp, fun x hx y hy => ?_⟩
      rw [List.mem_singleton] at hy
      subst hy
      obtain ⟨j, hj, rfl⟩ := (ded_mem F (k + 1) x).1 hx
      have h1 : lt2 (F k) (F (k + 1)) := lt2_tot (fun e => h e.symm) (hm k (k + 1) (by omega) (by omega))
      rcases Nat.lt_or_ge j k with g | g
      · by_cases e : F j = F k
        · rw [e]; exact h1
        · exact lt2_trans (lt2_tot e (hm j k g (by omega))) h1
      · rw [show j = k by omega]; exact h1
theorem pairR_mem {n : Nat} {ls : List Int} {a m : Nat} {x : T2} : x ∈ pairR n ls a m ↔ ∃ b : Nat, x = ((a : Int), (b : Int)) ∧ a < b ∧ b < m ∧ joinB n a b = true ∧ labA ls a + labA ls b = 0 := by
  unfold pairR
  rw [List.mem_map]
  constructor
  · rintro ⟨b, h, rfl⟩
    rw [List.mem_filter, List.mem_range, Bool.and_eq_true, Bool.and_eq_true, decide_eq_true_eq, beq_iff_eq] at h
    exact ⟨b, rfl, h.2.1, h.1, h.2.2.1, h.2.2.2⟩
  · rintro ⟨b, rfl, h1, h2, h3, h4⟩
    refine ⟨b, ?_, rfl⟩
    rw [List.mem_filter, List.mem_range, Bool.and_eq_true, Bool.and_eq_true, decide_eq_true_eq, beq_iff_eq]
    exact ⟨h2, h1, h3, h4⟩
theorem pairsA_mem {n : Nat} {ls : List Int} {m : Nat} {x : T2} : x ∈ pairsA n ls m ↔ ∃ a b : Nat, x = ((a : Int), (b : Int)) ∧ a < m ∧ a < b ∧ b < ls.length ∧ joinB n a b = true ∧ labA ls a + labA ls b = 0 := by
  unfold pairsA
  rw [List.mem_flatMap]
  constructor
  · rintro ⟨a, h1, h2⟩
    obtain ⟨b, h3⟩ := pairR_mem.1 h2
    exact ⟨a, b, h3.1, List.mem_range.1 h1, h3.2⟩
  · rintro ⟨a, b, h1, h2, h3⟩
    exact ⟨a, List.mem_range.2 h2, pairR_mem.2 ⟨b, h1, h3⟩⟩
theorem pairR_strict (n : Nat) (ls : List Int) (a : Nat) : ∀ m, (pairR n ls a m).Pairwise lt2 := fun m => by
  unfold pairR
  rw [List.pairwise_map]
  refine List.Pairwise.filter _ ?_
  refine (List.pairwise_lt_range (n := m)).imp fun {b c} h => ?_
  unfold lt2
  right
  exact ⟨rfl, by show (b : Int) < (c : Int); omega⟩
theorem pairsA_strict (n : Nat) (ls : List Int) : ∀ m, (pairsA n ls m).Pairwise lt2
  | 0 => by simp [pairsA]
  | m + 1 => by
    rw [pairsA_more, List.pairwise_append]
    refine ⟨pairsA_strict n ls m, pairR_strict n ls m _, fun x hx y hy => ?_⟩
    obtain ⟨a, b, rfl, ha, -⟩ := pairsA_mem.1 hx
    obtain ⟨c, rfl, -⟩ := pairR_mem.1 hy
    left
    show (a : Int) < (m : Int)
    omega
theorem opp_mem {n : Nat} {ls : List Int} (h1 : 1 ≤ n) (h2 : n ≤ 6) (hlen : ls.length = sdN n * sdN n) (x : T2) : x ∈ oppL ls (cutL n) ↔ x ∈ pairsA n ls ls.length := by
  unfold oppL
  rw [List.mem_filter, mem_sides h1 h2, pairsA_mem]
  constructor
  · rintro ⟨⟨a, b, rfl, k1, k2, k3⟩, k4⟩
    unfold oppB at k4
    rw [beq_iff_eq] at k4
    refine ⟨a, b, rfl, by omega, k1, by omega, k3, ?_⟩
    have k5 : labA ls a = -labA ls b := k4
    omega
  · rintro ⟨a, b, rfl, k0, k1, k2, k3, k4⟩
    refine ⟨⟨a, b, rfl, k1, by omega, k3⟩, ?_⟩
    unfold oppB
    rw [beq_iff_eq]
    show labA ls a = -labA ls b
    omega
/-- The program's list is the reference's. -/
theorem ded_pairs {n : Nat} {ls : List Int} (h1 : 1 ≤ n) (h2 : n ≤ 6) (hlen : ls.length = sdN n * sdN n) {l' : List T2} (hp : List.Perm l' (oppL ls (cutL n))) (hs : l'.Pairwise (fun x y => ¬ lt2 y x)) : dedTo (fun j => l'[j]?.getD default) l'.length = pairsA n ls ls.length := by
  refine strict_ext (ded_strict _ _ fun i j hij hj => ?_) (pairsA_strict n ls _) fun x => ?_
  · have := (List.pairwise_iff_getElem.1 hs) i j (by omega) hj hij
    simp only [List.getElem?_eq_getElem hj, List.getElem?_eq_getElem (show i < l'.length by omega), Option.getD_some]
    exact this
  · rw [ded_mem, ← opp_mem h1 h2 hlen, ← hp.mem_iff, List.mem_iff_getElem]
    constructor
    · rintro ⟨j, hj, e⟩
      simp only [List.getElem?_eq_getElem hj, Option.getD_some] at e
      exact ⟨j, hj, e⟩
    · rintro ⟨j, hj, e⟩
      refine ⟨j, hj, ?_⟩
      simp only [List.getElem?_eq_getElem hj, Option.getD_some]
      exact e
def gridB (n p : Nat) : Bool := (decide (p % sdN n = 2 * n) || (locS n p).elem ((p : Int), ((p + 1 : Nat) : Int))) && ((decide (p / sdN n = 2 * n) || (locS n p).elem ((p : Int), ((p + sdN n : Nat) : Int))) && (decide (p % sdN n = 2 * n) || (decide (p / sdN n = 2 * n) || ((locS n p).elem ((p : Int), ((p + sdN n + 1 : Nat) : Int)) || (locS n p).elem (((p + 1 : Nat) : Int), ((p + sdN n : Nat) : Int))))))
theorem grid_closed : ∀ n, 1 ≤ n → n ≤ 6 → (List.range (sdN n * sdN n)).all (gridB n) = true := fun n h1 h2 => by
  obtain rfl | rfl | rfl | rfl | rfl | rfl : n = 1 ∨ n = 2 ∨ n = 3 ∨ n = 4 ∨ n = 5 ∨ n = 6 := by omega
  all_goals decide +kernel
/-- TUCKER: a side with opposite labels. -/
theorem opp_some {n : Nat} {ls : List Int} (h1 : 1 ≤ n) (h2 : n ≤ 6) (hlen : ls.length = sdN n * sdN n) (hf : ∀ p, p < ls.length → fitsP n ls p) : 0 < (oppL ls (cutL n)).length := by
  refine Nat.pos_of_ne_zero fun h0 => ?_
  have hnil := List.length_eq_zero_iff.1 h0
  have hno : ∀ p a b : Nat, p < sdN n * sdN n → ((a : Int), (b : Int)) ∈ locS n p → labA ls a + labA ls b ≠ 0 := fun p a b hp hab e => by
    have : ((a : Int), (b : Int)) ∈ oppL ls (cutL n) := by
      unfold oppL
      rw [List.mem_filter]
      refine ⟨loc_sub hp hab, ?_⟩
      unfold oppB
      rw [beq_iff_eq]
      show labA ls a = -labA ls b
      omega
    rw [hnil] at this
    cases this
  have hs : sdN n = 2 * n + 1 := rfl
  have hpos : ∀ x y, x ≤ 2 * n → y ≤ 2 * n → y * sdN n + x < sdN n * sdN n ∧ (y * sdN n + x) % sdN n = x ∧ (y * sdN n + x) / sdN n = y := fun x y hx hy => by
    have e1 : (y * sdN n + x) % sdN n = x := by rw [Nat.add_comm, Nat.add_mul_mod_self_right, Nat.mod_eq_of_lt (by omega)]
    have e2 : (y * sdN n + x) / sdN n = y := by rw [Nat.add_comm, Nat.add_mul_div_right _ _ (by omega), Nat.div_eq_of_lt (by omega), Nat.zero_add]
    have e3 := Nat.mul_le_mul_right (sdN n) (show y + 1 ≤ sdN n by omega)
    rw [Nat.succ_mul] at e3
    exact ⟨by omega, e1, e2⟩
  have hg : ∀ x y, x ≤ 2 * n → y ≤ 2 * n → gridB n (y * sdN n + x) = true := fun x y hx hy => List.all_eq_true.1 (grid_closed n h1 h2) _ (List.mem_range.2 (hpos x y hx hy).1)
  refine tucker_grid (m := 2 * n) (by omega) (fun x y => labA ls (y * sdN n + x)) (fun x y hx hy => (hf _ (by rw [hlen]; exact (hpos x y hx hy).1)).1) (fun x y hx hy hr => ?_) (fun x y hx hy => ?_) (fun x y hx hy => ?_) (fun x y hx hy => ?_)
  · obtain ⟨k1, k2, k3⟩ := hpos x y hx hy
    have h := (hf _ (by rw [hlen]; exact k1)).2 (by unfold rimB4; rw [k2, k3]; simp; omega)
    rw [← h]
    show labA ls ((2 * n - y) * sdN n + (2 * n - x)) = _
    congr 1
    rw [hlen, Nat.sub_mul]
    have e4 : sdN n * sdN n = 2 * n * sdN n + sdN n := by rw [hs, Nat.succ_mul]
    have e5 := Nat.mul_le_mul_right (sdN n) hy
    omega
  · obtain ⟨k1, k2, k3⟩ := hpos x y (by omega) hy
    have h := hg x y (by omega) hy
    unfold gridB at h
    rw [k2, k3, Bool.and_eq_true, Bool.and_eq_true, Bool.or_eq_true, decide_eq_true_eq] at h
    rcases h.1 with e | e
    · omega
    · exact hno _ _ _ k1 (List.elem_iff.1 e)
  · obtain ⟨k1, k2, k3⟩ := hpos x y hx (by omega)
    have h := hg x y hx (by omega)
    unfold gridB at h
    rw [k2, k3, Bool.and_eq_true, Bool.and_eq_true, Bool.or_eq_true (decide (y = 2 * n)), decide_eq_true_eq] at h
    rcases h.2.1 with e | e
    · omega
    · have := hno _ _ _ k1 (List.elem_iff.1 e)
      show labA ls (y * sdN n + x) + labA ls ((y + 1) * sdN n + x) ≠ 0
      rw [Nat.succ_mul, show y * sdN n + sdN n + x = y * sdN n + x + sdN n by omega]
      exact this
  · obtain ⟨k1, k2, k3⟩ := hpos x y (by omega) (by omega)
    have h := hg x y (by omega) (by omega)
    unfold gridB at h
    rw [k2, k3, decide_eq_false (show ¬ x = 2 * n by omega), decide_eq_false (show ¬ y = 2 * n by omega), Bool.and_eq_true, Bool.and_eq_true, Bool.false_or, Bool.false_or, Bool.false_or, Bool.false_or, Bool.or_eq_true] at h
    show labA ls (y * sdN n + x) + labA ls ((y + 1) * sdN n + (x + 1)) ≠ 0 ∨ labA ls (y * sdN n + (x + 1)) + labA ls ((y + 1) * sdN n + x) ≠ 0
    rw [Nat.succ_mul]
    rcases h.2.2 with e | e
    · left
      have := hno _ _ _ k1 (List.elem_iff.1 e)
      rw [show y * sdN n + sdN n + (x + 1) = y * sdN n + x + sdN n + 1 by omega]
      exact this
    · right
      have := hno _ _ _ k1 (List.elem_iff.1 e)
      rw [show y * sdN n + sdN n + x = y * sdN n + x + sdN n by omega, show y * sdN n + (x + 1) = y * sdN n + x + 1 by omega]
      exact this

end Go.Proofs.YtbohobelbgbibaaDoor
