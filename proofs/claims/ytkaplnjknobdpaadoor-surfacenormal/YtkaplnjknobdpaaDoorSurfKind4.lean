/- A normal form is the piece that it was made for: the numbers. No program is spoken of. -/
import Derived.Test.YtkaplnjknobdpaaDoorSurfKind3
namespace Go.Proofs.YtkaplnjknobdpaaDoor

theorem leastN_congr {c d : Nat → Nat} {m : Nat} (h : ∀ k, k < m → c k = d k) : leastN c m = leastN d m := by
  unfold leastN
  congr 1
  refine List.filter_congr fun k hk => ?_
  rw [h k (List.mem_range.1 hk)]
theorem least_low (G : Nat) : ∀ m, m ≤ G → leastN (fC G) m = if m = 0 then 0 else 1
  | 0, _ => rfl
  | m + 1, hm => by
    have ih := least_low G m (by omega)
    have hf : fC G m = 0 := fC_low (by omega)
    by_cases e : m = 0
    · rw [leastN_yes (by rw [hf, e]), ih, if_pos e, if_neg (by omega)]
    · rw [leastN_no (by rw [hf]; omega), ih, if_neg e, if_neg (by omega)]
theorem least_rims (G : Nat) : ∀ q, leastN (fC G) (G + 3 * q) = (if G + 3 * q = 0 then 0 else 1) + q
  | 0 => by rw [Nat.mul_zero, Nat.add_zero, least_low G G (Nat.le_refl _), Nat.add_zero]
  | q + 1 => by
    have ih := least_rims G q
    have e0 : leastN (fC G) (G + 3 * q + 1) = 1 + q := by
      by_cases e : G + 3 * q = 0
      · rw [leastN_yes (by rw [fC_start]; exact e.symm), ih, if_pos e]; omega
      · rw [leastN_no (by rw [fC_start]; omega), ih, if_neg e]
    have e1 : leastN (fC G) (G + 3 * q + 1 + 1) = 1 + q + 1 := by rw [leastN_yes (fC_one G q), e0]
    have e2 : leastN (fC G) (G + 3 * q + 2 + 1) = 1 + q + 1 := by rw [leastN_no (by rw [fC_two]; omega)]; exact e1
    rw [show G + 3 * (q + 1) = G + 3 * q + 2 + 1 by omega, e2, if_neg (by omega)]
    omega

section
variable {ws : List Int} {t : Bool} {g r G M : Nat}

theorem NormAt.least (h : NormAt ws t g r G M) : leastN (cornI ws) ws.length = 1 + r := by
  have hp := h.pos
  rw [leastN_congr (d := fC G) (fun k hk => h.corn hk), h.len, least_rims, if_neg (by rw [← h.len]; omega)]

theorem NormAt.rimOne (h : NormAt ws t g r G M) (q : Nat) : rimI ws (G + 3 * q + 1) = G + 3 * q + 1 := fC_back ((h.sameC.2 _).trans (fC_one G q)) ((cls_all _).le _)

theorem rimC_two {c : Nat → Nat} {x i j : Nat} (h : rowN ws x = [i, j]) : rimC c ws x = none := by unfold rimC; rw [h]
theorem NormAt.rimS (h : NormAt ws t g r G M) {q : Nat} (hq : q < r) : rimC (rimI ws) ws (M + 2 * q + 1) = Option.some (G + 3 * q + 1) := by
  unfold rimC
  rw [(h.pairE hq).2.2.2.2]
  dsimp only
  rw [(h.pairE hq).2.2.2.1, h.rimOne]

theorem newB_none {c : Nat → Nat} {x : Nat} (h : rimC c ws x = none) : newB c ws x = false := by unfold newB; rw [h]

theorem NormAt.rimCount (h : NormAt ws t g r G M) : ∀ q, q ≤ r → rimsN (rimI ws) ws (M + 2 * q) = q := by
  intro q
  induction q with
  | zero =>
    intro _
    have low : ∀ m, m ≤ M → rimsN (rimI ws) ws m = 0 := by
      intro m
      induction m with
      | zero => intro _; rfl
      | succ m ih =>
        intro hm
        rw [rimsN_no, ih (by omega)]
        rcases h.rows (x := m) (by omega) with ⟨_, _, _, q, hq, e, hr⟩ | ⟨_, _, _, q, hq, e, hr⟩ | ⟨_, _, _, hq, hr⟩ | ⟨q, hq, e, hr⟩ | ⟨q, hq, e, hr⟩
        · exact newB_none (rimC_two hr)
        · exact newB_none (rimC_two hr)
        · exact newB_none (rimC_two hr)
        · omega
        · omega
    exact low M (Nat.le_refl _)
  | succ q ih =>
    intro hq
    have h0 := ih (by omega)
    have e1 : rimsN (rimI ws) ws (M + 2 * q + 1) = q := by
      rw [rimsN_no, h0]
      rcases h.rows (x := M + 2 * q) (by omega) with ⟨_, _, _, q', hq', e, hr⟩ | ⟨_, _, _, q', hq', e, hr⟩ | ⟨_, _, _, hq', hr⟩ | ⟨q', hq', e, hr⟩ | ⟨q', hq', e, hr⟩
      · exact newB_none (rimC_two hr)
      · exact newB_none (rimC_two hr)
      · exact newB_none (rimC_two hr)
      · exact newB_none (rimC_two hr)
      · omega
    have e2 : newB (rimI ws) ws (M + 2 * q + 1) = true := by
      unfold newB
      rw [h.rimS (by omega)]
      dsimp only
      have : seenB (rimI ws) ws (M + 2 * q + 1) (G + 3 * q + 1) = false := by
        unfold seenB
        rw [List.any_eq_false]
        intro y hy he
        have hy := List.mem_range.1 hy
        have he := eq_of_beq he
        rcases h.rows (x := y) (by omega) with ⟨_, _, _, q', hq', e, hr⟩ | ⟨_, _, _, q', hq', e, hr⟩ | ⟨_, _, _, hq', hr⟩ | ⟨q', hq', e, hr⟩ | ⟨q', hq', e, hr⟩
        · rw [rimC_two hr] at he; cases he
        · rw [rimC_two hr] at he; cases he
        · rw [rimC_two hr] at he; cases he
        · rw [rimC_two hr] at he; cases he
        · rw [e, h.rimS hq'] at he
          have := Option.some.inj he
          omega
      rw [this]
      rfl
    rw [show M + 2 * (q + 1) = M + 2 * q + 1 + 1 by omega, rimsN_yes e2, e1]

theorem NormAt.turned (h : NormAt ws t g r G M) : turnI ws = t := by
  unfold turnI
  have hn := h.nlen
  cases ht : t with
  | true =>
    have hid : ∀ k, faceI ws k = k := fun k => joined_same (fun k => k) (fun p hp => by
      obtain ⟨x, hx, hp⟩ := List.mem_flatMap.1 hp
      have hx := List.mem_range.1 hx
      have hf : faceJ ws x = [(0, 0), (1, 1)] ∨ faceJ ws x = [] := by
        rcases h.rows (x := x) (by omega) with ⟨_, _, _, q', hq', e, hr⟩ | ⟨_, _, _, q', hq', e, hr⟩ | ⟨e, _⟩ | ⟨q', hq', e, hr⟩ | ⟨q', hq', e, hr⟩
        · rw [e]; exact .inl (h.pairA ht hq').2
        · rw [e]; exact .inl (h.pairB ht hq').2
        · rw [ht] at e; cases e
        · rw [e]; exact .inl (h.pairD hq').2
        · rw [e]; exact .inr (h.pairE hq').2.1
      rcases hf with e | e
      · rw [e] at hp
        rcases List.mem_cons.1 hp with rfl | hp
        · rfl
        · rcases List.mem_cons.1 hp with rfl | hp
          · rfl
          · cases hp
      · rw [e] at hp; cases hp) k
    rw [hid 0, hid 1]
    rfl
  | false =>
    have hg : 0 < g ∧ M = g := by rcases h.size with ⟨e, _⟩ | ⟨_, _, b, c⟩; rw [ht] at e; cases e; exact ⟨c, b⟩
    have a1 : faceI ws 0 = faceI ws 1 := joined (p := (0, 1)) (mem_upJ (x := 0) (by omega) (by rw [(h.pairC ht hg.1).2]; simp))
    rw [a1]
    exact decide_eq_false (fun hh => hh rfl)

theorem NormAt.kind (h : NormAt ws t g r G M) : turnI ws = t ∧ genusI t (eulI ws) (rimsI ws) = (g : Int) ∧ rimsI ws = (r : Int) := by
  have hr : rimsI ws = (r : Int) := by unfold rimsI; rw [h.nlen, h.rimCount r (Nat.le_refl _)]
  have he : eulI ws = 1 + ((1 + r : Nat) : Int) - ((M + 2 * r : Nat) : Int) := by unfold eulI; rw [h.least, h.nlen]
  refine ⟨h.turned, ?_, hr⟩
  rw [hr, he]
  unfold genusI
  rcases h.size with ⟨ht, hG, hM⟩ | ⟨ht, hG, hM, _⟩
  · rw [ht, if_pos rfl, hM]
    have e : (2 : Int) - (r : Int) - (1 + ((1 + r : Nat) : Int) - ((2 * g + 2 * r : Nat) : Int)) = 2 * (g : Int) := by omega
    rw [e]
    exact Int.mul_tdiv_cancel_left _ (by decide)
  · rw [ht, if_neg (by decide), hM]
    omega

end

/-- The sphere. -/
theorem sphere_ok : WordOk [1, -1] := by
  refine ⟨by decide, by decide, fun l hl => ?_, fun k => ?_⟩
  · rcases List.mem_cons.1 hl with rfl | hl
    · decide
    · rcases List.mem_cons.1 hl with rfl | hl
      · decide
      · cases hl
  · exact Nat.le_trans (List.length_filter_le _ _) (by decide)
set_option maxRecDepth 100000 in
theorem sphere_kind : turnI [1, -1] = true ∧ genusI true (eulI [1, -1]) (rimsI [1, -1]) = 0 ∧ rimsI [1, -1] = 0 := by
  refine ⟨by decide, by decide, by decide⟩

theorem norm_kind {t : Bool} {g r : Nat} (hs : ¬ ShapeBad t (g : Int) (r : Int)) (hf : fitsB t (g : Int) (r : Int) = true) : WordOk (normW t g r) ∧ turnI (normW t g r) = t ∧ genusI t (eulI (normW t g r)) (rimsI (normW t g r)) = (g : Int) ∧ rimsI (normW t g r) = (r : Int) := by
  by_cases hz : g = 0 ∧ r = 0
  · obtain ⟨rfl, rfl⟩ := hz
    have ht : t = true := by
      cases t with
      | true => rfl
      | false => exact absurd (.inr (.inr ⟨rfl, rfl⟩)) hs
    subst ht
    have e : normW true 0 0 = [1, -1] := rfl
    rw [e]
    exact ⟨sphere_ok, sphere_kind.1, sphere_kind.2.1, sphere_kind.2.2⟩
  · have h := norm_at hs hf hz
    exact ⟨h.ok, h.kind⟩

end Go.Proofs.YtkaplnjknobdpaaDoor
