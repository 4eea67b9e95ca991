/- A normal form is the piece that it was made for. No program is spoken of. -/
import Derived.Test.YtkaplnjknobdpaaDoorSurfKind2
namespace Go.Proofs.YtkaplnjknobdpaaDoor

/-- The least corner of each corner's class. -/
def fC (G k : Nat) : Nat := if k < G then 0 else if (k - G) % 3 = 0 then 0 else k - (k - G) % 3 + 1
theorem fC_zero (G : Nat) : fC G 0 = 0 := by unfold fC; split; rfl; split; rfl; omega
theorem fC_low {G k : Nat} (h : k < G) : fC G k = 0 := by unfold fC; rw [if_pos h]
theorem fC_start (G q : Nat) : fC G (G + 3 * q) = 0 := by unfold fC; rw [if_neg (by omega), if_pos (by omega)]
theorem fC_one (G q : Nat) : fC G (G + 3 * q + 1) = G + 3 * q + 1 := by unfold fC; rw [if_neg (by omega), if_neg (by omega)]; omega
theorem fC_two (G q : Nat) : fC G (G + 3 * q + 2) = G + 3 * q + 1 := by unfold fC; rw [if_neg (by omega), if_neg (by omega)]; omega
theorem fC_back {G q y : Nat} (h : fC G y = G + 3 * q + 1) (hy : y ≤ G + 3 * q + 1) : y = G + 3 * q + 1 := by
  unfold fC at h
  split at h
  · omega
  · split at h
    · omega
    · omega
theorem mod_cases {m n : Nat} (h : m ≤ n) (hn : 0 < n) : (m < n ∧ m % n = m) ∨ (m = n ∧ m % n = 0) := by
  rcases Nat.lt_or_ge m n with h1 | h1
  · exact .inl ⟨h1, Nat.mod_eq_of_lt h1⟩
  · obtain rfl : m = n := by omega
    exact .inr ⟨rfl, Nat.mod_self m⟩

section
variable {ws : List Int} {t : Bool} {g r G M : Nat}

theorem NormAt.rows (h : NormAt ws t g r G M) {x : Nat} (hx : x < M + 2 * r) :
    (t = true ∧ G = 4 * g ∧ M = 2 * g ∧ ∃ q, q < g ∧ x = 2 * q ∧ rowN ws x = [4 * q, 4 * q + 2]) ∨ (t = true ∧ G = 4 * g ∧ M = 2 * g ∧ ∃ q, q < g ∧ x = 2 * q + 1 ∧ rowN ws x = [4 * q + 1, 4 * q + 3]) ∨
    (t = false ∧ G = 2 * g ∧ M = g ∧ x < g ∧ rowN ws x = [2 * x, 2 * x + 1]) ∨ (∃ q, q < r ∧ x = M + 2 * q ∧ rowN ws x = [G + 3 * q, G + 3 * q + 2]) ∨ (∃ q, q < r ∧ x = M + 2 * q + 1 ∧ rowN ws x = [G + 3 * q + 1]) := by
  rw [h.row hx]
  by_cases hxM : x < M
  · rcases h.size with ⟨ht, hG, hM⟩ | ⟨ht, hG, hM, _⟩
    · have hs : x = 2 * (x / 2) ∨ x = 2 * (x / 2) + 1 := by omega
      rcases hs with e | e
      · exact .inl ⟨ht, hG, hM, x / 2, by omega, e, by rw [← h.turn1 ht (q := x / 2) (by omega), ← e]⟩
      · exact .inr (.inl ⟨ht, hG, hM, x / 2, by omega, e, by rw [← h.turn2 ht (q := x / 2) (by omega), show 2 * (x / 2) + 2 = x + 1 by omega]⟩)
    · exact .inr (.inr (.inl ⟨ht, hG, hM, by omega, h.plain1 ht (by omega)⟩))
  · have hs : x = M + 2 * ((x - M) / 2) ∨ x = M + 2 * ((x - M) / 2) + 1 := by omega
    rcases hs with e | e
    · exact .inr (.inr (.inr (.inl ⟨(x - M) / 2, by omega, e, by rw [← h.rim1 (q := (x - M) / 2) (by omega), show M + 1 + 2 * ((x - M) / 2) = x + 1 by omega]⟩)))
    · exact .inr (.inr (.inr (.inr ⟨(x - M) / 2, by omega, e, by rw [← h.rim2 (q := (x - M) / 2) (by omega), show M + 2 + 2 * ((x - M) / 2) = x + 1 by omega]⟩)))

theorem fr_pos {k : Nat} (h : 0 ≤ ltI ws k) : frI ws k = k ∧ toI ws k = (k + 1) % ws.length := by unfold frI toI; rw [if_neg (by omega), if_neg (by omega)]; exact ⟨rfl, rfl⟩
theorem fr_neg {k : Nat} (h : ltI ws k < 0) : frI ws k = (k + 1) % ws.length ∧ toI ws k = k := by unfold frI toI; rw [if_pos h, if_pos h]; exact ⟨rfl, rfl⟩
theorem mem_upJ {J : Nat → List (Nat × Nat)} {x m : Nat} (hx : x < m) {p : Nat × Nat} (hp : p ∈ J x) : p ∈ upJ J m := List.mem_flatMap.2 ⟨x, List.mem_range.2 hx, hp⟩

/-- What the corners' pairs are. -/
theorem NormAt.pairA (h : NormAt ws t g r G M) (ht : t = true) {q : Nat} (hq : q < g) : cornJ ws (2 * q) = [(4 * q, 4 * q + 3), (4 * q + 1, 4 * q + 2)] ∧ faceJ ws (2 * q) = [(0, 0), (1, 1)] := by
  have hG : G = 4 * g ∧ M = 2 * g := by rcases h.size with ⟨_, a, b⟩ | ⟨e, _⟩; exact ⟨a, b⟩; rw [ht] at e; cases e
  have hl := h.len
  have hv := h.turn ht q hq
  have hr : rowN ws (2 * q) = [4 * q, 4 * q + 2] := by rw [h.row (by omega), h.turn1 ht hq]
  have e1 := fr_pos (ws := ws) (k := 4 * q) (by omega)
  have e2 := fr_neg (ws := ws) (k := 4 * q + 2) (by omega)
  unfold cornJ faceJ
  rw [hr]
  dsimp only
  rw [e1.1, e1.2, e2.1, e2.2, Nat.mod_eq_of_lt (show 4 * q + 1 < ws.length by omega), Nat.mod_eq_of_lt (show 4 * q + 2 + 1 < ws.length by omega), if_neg (by omega), if_neg (by omega)]
  exact ⟨rfl, rfl⟩
theorem NormAt.pairB (h : NormAt ws t g r G M) (ht : t = true) {q : Nat} (hq : q < g) : cornJ ws (2 * q + 1) = [(4 * q + 1, (4 * q + 4) % ws.length), (4 * q + 2, 4 * q + 3)] ∧ faceJ ws (2 * q + 1) = [(0, 0), (1, 1)] := by
  have hG : G = 4 * g ∧ M = 2 * g := by rcases h.size with ⟨_, a, b⟩ | ⟨e, _⟩; exact ⟨a, b⟩; rw [ht] at e; cases e
  have hl := h.len
  have hv := h.turn ht q hq
  have hr : rowN ws (2 * q + 1) = [4 * q + 1, 4 * q + 3] := by rw [h.row (by omega), h.turn2 ht hq]
  have e1 := fr_pos (ws := ws) (k := 4 * q + 1) (by omega)
  have e2 := fr_neg (ws := ws) (k := 4 * q + 3) (by omega)
  unfold cornJ faceJ
  rw [hr]
  dsimp only
  rw [e1.1, e1.2, e2.1, e2.2, Nat.mod_eq_of_lt (show 4 * q + 1 + 1 < ws.length by omega), if_neg (by omega), if_neg (by omega)]
  exact ⟨rfl, rfl⟩
theorem NormAt.pairC (h : NormAt ws t g r G M) (ht : t = false) {q : Nat} (hq : q < g) : cornJ ws q = [(2 * q, 2 * q + 1), (2 * q + 1, (2 * q + 2) % ws.length)] ∧ faceJ ws q = [(0, 1), (1, 0)] := by
  have hG : G = 2 * g ∧ M = g := by rcases h.size with ⟨e, _⟩ | ⟨_, a, b, _⟩; rw [ht] at e; cases e; exact ⟨a, b⟩
  have hl := h.len
  have hv := h.plain ht q hq
  have hr : rowN ws q = [2 * q, 2 * q + 1] := by rw [h.row (by omega), h.plain1 ht hq]
  have e1 := fr_pos (ws := ws) (k := 2 * q) (by omega)
  have e2 := fr_pos (ws := ws) (k := 2 * q + 1) (by omega)
  unfold cornJ faceJ
  rw [hr]
  dsimp only
  rw [e1.1, e1.2, e2.1, e2.2, Nat.mod_eq_of_lt (show 2 * q + 1 < ws.length by omega), if_pos (by omega), if_pos (by omega)]
  exact ⟨rfl, rfl⟩
theorem NormAt.pairD (h : NormAt ws t g r G M) {q : Nat} (hq : q < r) : cornJ ws (M + 2 * q) = [(G + 3 * q, (G + 3 * q + 3) % ws.length), (G + 3 * q + 1, G + 3 * q + 2)] ∧ faceJ ws (M + 2 * q) = [(0, 0), (1, 1)] := by
  have hl := h.len
  have hv := h.rims q hq
  have hr : rowN ws (M + 2 * q) = [G + 3 * q, G + 3 * q + 2] := by rw [h.row (by omega), show M + 2 * q + 1 = M + 1 + 2 * q by omega, h.rim1 hq]
  have e1 := fr_pos (ws := ws) (k := G + 3 * q) (by omega)
  have e2 := fr_neg (ws := ws) (k := G + 3 * q + 2) (by omega)
  unfold cornJ faceJ
  rw [hr]
  dsimp only
  rw [e1.1, e1.2, e2.1, e2.2, Nat.mod_eq_of_lt (show G + 3 * q + 1 < ws.length by omega), if_neg (by omega), if_neg (by omega)]
  exact ⟨rfl, rfl⟩
theorem NormAt.pairE (h : NormAt ws t g r G M) {q : Nat} (hq : q < r) : cornJ ws (M + 2 * q + 1) = [] ∧ faceJ ws (M + 2 * q + 1) = [] ∧ rimJ ws (M + 2 * q + 1) = [(G + 3 * q + 1, G + 3 * q + 2)] ∧ frI ws (G + 3 * q + 1) = G + 3 * q + 1 ∧ rowN ws (M + 2 * q + 1) = [G + 3 * q + 1] := by
  have hl := h.len
  have hv := h.rims q hq
  have hr : rowN ws (M + 2 * q + 1) = [G + 3 * q + 1] := by rw [h.row (by omega), show M + 2 * q + 1 + 1 = M + 2 + 2 * q by omega, h.rim2 hq]
  have e1 := fr_pos (ws := ws) (k := G + 3 * q + 1) (by omega)
  refine ⟨?_, ?_, ?_, e1.1, hr⟩
  · unfold cornJ; rw [hr]
  · unfold faceJ; rw [hr]
  · unfold rimJ; rw [hr]
    dsimp only
    rw [e1.1, e1.2, Nat.mod_eq_of_lt (show G + 3 * q + 1 + 1 < ws.length by omega)]
theorem rim_corn {x i j : Nat} (h : rowN ws x = [i, j]) : rimJ ws x = cornJ ws x := by unfold rimJ cornJ; rw [h]

theorem NormAt.pos (h : NormAt ws t g r G M) : 0 < ws.length := h.ok.some

/-- Of each pair the least corner is one. -/
theorem NormAt.same (h : NormAt ws t g r G M) {x : Nat} (hx : x < M + 2 * r) : (∀ p ∈ cornJ ws x, fC G p.1 = fC G p.2) ∧ ∀ p ∈ rimJ ws x, fC G p.1 = fC G p.2 := by
  have hl := h.len
  have hp := h.pos
  have zero : ∀ m, m ≤ ws.length → (m < G ∨ ∃ q, m = G + 3 * q) → fC G (m % ws.length) = 0 := fun m hm hc => by
    rcases mod_cases hm hp with ⟨_, e⟩ | ⟨_, e⟩
    · rw [e]
      rcases hc with hc | ⟨q, rfl⟩
      · exact fC_low hc
      · exact fC_start G q
    · rw [e]; exact fC_zero G
  have key : ∀ p ∈ cornJ ws x, fC G p.1 = fC G p.2 := by
    rcases h.rows hx with ⟨ht, hG, hM, q, hq, e, hr⟩ | ⟨ht, hG, hM, q, hq, e, hr⟩ | ⟨ht, hG, hM, hq, hr⟩ | ⟨q, hq, e, hr⟩ | ⟨q, hq, e, hr⟩
    · rw [e, (h.pairA ht hq).1]
      intro p hp'
      rcases List.mem_cons.1 hp' with rfl | hp'
      · rw [fC_low (by omega), fC_low (by omega)]
      · rcases List.mem_cons.1 hp' with rfl | hp'
        · rw [fC_low (by omega), fC_low (by omega)]
        · cases hp'
    · rw [e, (h.pairB ht hq).1]
      intro p hp'
      rcases List.mem_cons.1 hp' with rfl | hp'
      · rw [fC_low (show 4 * q + 1 < G by omega)]
        exact (zero _ (by omega) (by rcases Nat.lt_or_ge (4 * q + 4) G with h1 | h1; exact .inl h1; exact .inr ⟨0, by omega⟩)).symm
      · rcases List.mem_cons.1 hp' with rfl | hp'
        · rw [fC_low (by omega), fC_low (by omega)]
        · cases hp'
    · rw [(h.pairC ht hq).1]
      intro p hp'
      rcases List.mem_cons.1 hp' with rfl | hp'
      · rw [fC_low (by omega), fC_low (by omega)]
      · rcases List.mem_cons.1 hp' with rfl | hp'
        · rw [fC_low (show 2 * x + 1 < G by omega)]
          exact (zero _ (by omega) (by rcases Nat.lt_or_ge (2 * x + 2) G with h1 | h1; exact .inl h1; exact .inr ⟨0, by omega⟩)).symm
        · cases hp'
    · rw [e, (h.pairD hq).1]
      intro p hp'
      rcases List.mem_cons.1 hp' with rfl | hp'
      · rw [fC_start]
        exact (zero _ (by omega) (.inr ⟨q + 1, by omega⟩)).symm
      · rcases List.mem_cons.1 hp' with rfl | hp'
        · rw [fC_one, fC_two]
        · cases hp'
    · rw [e, (h.pairE hq).1]
      intro p hp'
      cases hp'
  refine ⟨key, ?_⟩
  rcases h.rows hx with ⟨ht, hG, hM, q, hq, e, hr⟩ | ⟨ht, hG, hM, q, hq, e, hr⟩ | ⟨ht, hG, hM, hq, hr⟩ | ⟨q, hq, e, hr⟩ | ⟨q, hq, e, hr⟩
  · rw [rim_corn hr]; exact key
  · rw [rim_corn hr]; exact key
  · rw [rim_corn hr]; exact key
  · rw [rim_corn hr]; exact key
  · rw [e, (h.pairE hq).2.2.1]
    intro p hp'
    rcases List.mem_cons.1 hp' with rfl | hp'
    · rw [fC_one, fC_two]
    · cases hp'

theorem NormAt.sameC (h : NormAt ws t g r G M) : (∀ k, fC G (cornI ws k) = fC G k) ∧ ∀ k, fC G (rimI ws k) = fC G k := by
  have hn := h.nlen
  refine ⟨fun k => joined_same (fC G) (fun p hp => ?_) k, fun k => joined_same (fC G) (fun p hp => ?_) k⟩
  · obtain ⟨x, hx, hp⟩ := List.mem_flatMap.1 hp
    have hx := List.mem_range.1 hx
    exact (h.same (by omega)).1 p hp
  · obtain ⟨x, hx, hp⟩ := List.mem_flatMap.1 hp
    have hx := List.mem_range.1 hx
    exact (h.same (by omega)).2 p hp

theorem NormAt.joinedC (h : NormAt ws t g r G M) {x : Nat} (hx : x < M + 2 * r) {p : Nat × Nat} (hp : p ∈ cornJ ws x) : cornI ws p.1 = cornI ws p.2 := joined (mem_upJ (by rw [h.nlen]; exact hx) hp)

theorem corn_le (k : Nat) : cornI ws k ≤ k := (cls_all _).le k
theorem corn_zero : cornI ws 0 = 0 := by have := corn_le (ws := ws) 0; omega

/-- The first corners of the blocks are one with the first. -/
theorem NormAt.mainG (h : NormAt ws t g r G M) : (t = true → ∀ q, q ≤ g → cornI ws ((4 * q) % ws.length) = 0 ∧ (q < g → cornI ws (4 * q + 1) = 0 ∧ cornI ws (4 * q + 2) = 0 ∧ cornI ws (4 * q + 3) = 0)) ∧ (t = false → ∀ q, q ≤ g → cornI ws ((2 * q) % ws.length) = 0 ∧ (q < g → cornI ws (2 * q + 1) = 0)) := by
  have hl := h.len
  have hp := h.pos
  refine ⟨fun ht => ?_, fun ht => ?_⟩
  · have hG : G = 4 * g ∧ M = 2 * g := by rcases h.size with ⟨_, a, b⟩ | ⟨e, _⟩; exact ⟨a, b⟩; rw [ht] at e; cases e
    have step : ∀ q, q < g → cornI ws (4 * q) = 0 → cornI ws (4 * q + 1) = 0 ∧ cornI ws (4 * q + 2) = 0 ∧ cornI ws (4 * q + 3) = 0 ∧ cornI ws ((4 * q + 4) % ws.length) = 0 := fun q hq h0 => by
      have a1 := h.joinedC (x := 2 * q) (by omega) (p := (4 * q, 4 * q + 3)) (by rw [(h.pairA ht hq).1]; simp)
      have a2 := h.joinedC (x := 2 * q) (by omega) (p := (4 * q + 1, 4 * q + 2)) (by rw [(h.pairA ht hq).1]; simp)
      have b1 := h.joinedC (x := 2 * q + 1) (by omega) (p := (4 * q + 1, (4 * q + 4) % ws.length)) (by rw [(h.pairB ht hq).1]; simp)
      have b2 := h.joinedC (x := 2 * q + 1) (by omega) (p := (4 * q + 2, 4 * q + 3)) (by rw [(h.pairB ht hq).1]; simp)
      dsimp only at a1 a2 b1 b2
      omega
    have main : ∀ q, q ≤ g → cornI ws ((4 * q) % ws.length) = 0 := by
      intro q
      induction q with
      | zero => intro _; rw [Nat.mul_zero, Nat.zero_mod]; exact corn_zero
      | succ q ih =>
        intro hq
        have h0 := ih (by omega)
        rw [Nat.mod_eq_of_lt (by omega)] at h0
        exact (step q (by omega) h0).2.2.2
    intro q hq
    refine ⟨main q hq, fun hq' => ?_⟩
    have h0 := main q hq
    rw [Nat.mod_eq_of_lt (by omega)] at h0
    have := step q hq' h0
    exact ⟨this.1, this.2.1, this.2.2.1⟩
  · have hG : G = 2 * g ∧ M = g := by rcases h.size with ⟨e, _⟩ | ⟨_, a, b, _⟩; rw [ht] at e; cases e; exact ⟨a, b⟩
    have step : ∀ q, q < g → cornI ws (2 * q) = 0 → cornI ws (2 * q + 1) = 0 ∧ cornI ws ((2 * q + 2) % ws.length) = 0 := fun q hq h0 => by
      have a1 := h.joinedC (x := q) (by omega) (p := (2 * q, 2 * q + 1)) (by rw [(h.pairC ht hq).1]; simp)
      have a2 := h.joinedC (x := q) (by omega) (p := (2 * q + 1, (2 * q + 2) % ws.length)) (by rw [(h.pairC ht hq).1]; simp)
      dsimp only at a1 a2
      omega
    have main : ∀ q, q ≤ g → cornI ws ((2 * q) % ws.length) = 0 := by
      intro q
      induction q with
      | zero => intro _; rw [Nat.mul_zero, Nat.zero_mod]; exact corn_zero
      | succ q ih =>
        intro hq
        have h0 := ih (by omega)
        rw [Nat.mod_eq_of_lt (by omega)] at h0
        exact (step q (by omega) h0).2
    intro q hq
    refine ⟨main q hq, fun hq' => ?_⟩
    have h0 := main q hq
    rw [Nat.mod_eq_of_lt (by omega)] at h0
    exact (step q hq' h0).1

theorem NormAt.mainR (h : NormAt ws t g r G M) : ∀ q, q ≤ r → cornI ws ((G + 3 * q) % ws.length) = 0 := by
  have hl := h.len
  have hp := h.pos
  intro q
  induction q with
  | zero =>
    intro _
    rw [Nat.mul_zero, Nat.add_zero]
    rcases h.size with ⟨ht, hG, _⟩ | ⟨ht, hG, _, _⟩
    · rw [hG]; exact (h.mainG.1 ht g (Nat.le_refl _)).1
    · rw [hG]; exact (h.mainG.2 ht g (Nat.le_refl _)).1
  | succ q ih =>
    intro hq
    have h0 := ih (by omega)
    rw [Nat.mod_eq_of_lt (by omega)] at h0
    have a1 := h.joinedC (x := M + 2 * q) (by omega) (p := (G + 3 * q, (G + 3 * q + 3) % ws.length)) (by rw [(h.pairD (by omega)).1]; simp)
    dsimp only at a1
    rw [h0] at a1
    exact a1.symm

/-- So each corner's class is told. -/
theorem NormAt.corn (h : NormAt ws t g r G M) {k : Nat} (hk : k < ws.length) : cornI ws k = fC G k := by
  have hl := h.len
  by_cases hkG : k < G
  · rw [fC_low hkG]
    rcases h.size with ⟨ht, hG, _⟩ | ⟨ht, hG, _, _⟩
    · have hm := h.mainG.1 ht (k / 4) (by omega)
      have h0 := hm.1
      rw [Nat.mod_eq_of_lt (by omega)] at h0
      have h1 := hm.2 (by omega)
      have hs : k = 4 * (k / 4) ∨ k = 4 * (k / 4) + 1 ∨ k = 4 * (k / 4) + 2 ∨ k = 4 * (k / 4) + 3 := by omega
      rcases hs with e | e | e | e
      · rw [e]; exact h0
      · rw [e]; exact h1.1
      · rw [e]; exact h1.2.1
      · rw [e]; exact h1.2.2
    · have hm := h.mainG.2 ht (k / 2) (by omega)
      have h0 := hm.1
      rw [Nat.mod_eq_of_lt (by omega)] at h0
      have h1 := hm.2 (by omega)
      have hs : k = 2 * (k / 2) ∨ k = 2 * (k / 2) + 1 := by omega
      rcases hs with e | e
      · rw [e]; exact h0
      · rw [e]; exact h1
  · obtain ⟨q, hq⟩ : ∃ q, q = (k - G) / 3 := ⟨_, rfl⟩
    have one : cornI ws (G + 3 * q + 1) = G + 3 * q + 1 := fC_back ((h.sameC.1 _).trans (fC_one G q)) (corn_le _)
    have hs : k = G + 3 * q ∨ k = G + 3 * q + 1 ∨ k = G + 3 * q + 2 := by omega
    rcases hs with e | e | e
    · rw [e, fC_start]
      have := h.mainR q (by omega)
      rwa [Nat.mod_eq_of_lt (by omega)] at this
    · rw [e, fC_one, one]
    · have a1 := h.joinedC (x := M + 2 * q) (by omega) (p := (G + 3 * q + 1, G + 3 * q + 2)) (by rw [(h.pairD (by omega)).1]; simp)
      dsimp only at a1
      rw [e, fC_two, ← a1, one]

end

end Go.Proofs.YtkaplnjknobdpaaDoor
