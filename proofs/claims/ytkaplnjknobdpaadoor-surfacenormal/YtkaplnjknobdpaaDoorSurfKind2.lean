/- Where the names of a normal form stand. No program is spoken of. -/
import Derived.Test.YtkaplnjknobdpaaDoorSurfKind
namespace Go.Proofs.YtkaplnjknobdpaaDoor

section
variable {ws : List Int} {t : Bool} {g r G M : Nat}

/-- What each place holds. -/
theorem NormAt.each (h : NormAt ws t g r G M) {k : Nat} (hk : k < ws.length) :
    (t = true ∧ G = 4 * g ∧ M = 2 * g ∧ ∃ q, q < g ∧ ((k = 4 * q ∧ ltI ws k = 2 * (q : Int) + 1) ∨ (k = 4 * q + 1 ∧ ltI ws k = 2 * (q : Int) + 2) ∨ (k = 4 * q + 2 ∧ ltI ws k = -(2 * (q : Int) + 1)) ∨ (k = 4 * q + 3 ∧ ltI ws k = -(2 * (q : Int) + 2)))) ∨
    (t = false ∧ G = 2 * g ∧ M = g ∧ ∃ q, q < g ∧ (k = 2 * q ∨ k = 2 * q + 1) ∧ ltI ws k = (q : Int) + 1) ∨
    (∃ q, q < r ∧ ((k = G + 3 * q ∧ ltI ws k = (M : Int) + 1 + 2 * (q : Int)) ∨ (k = G + 3 * q + 1 ∧ ltI ws k = (M : Int) + 2 + 2 * (q : Int)) ∨ (k = G + 3 * q + 2 ∧ ltI ws k = -((M : Int) + 1 + 2 * (q : Int))))) := by
  rw [h.len] at hk
  by_cases hkG : k < G
  · rcases h.size with ⟨ht, hG, hM⟩ | ⟨ht, hG, hM, _⟩
    · refine .inl ⟨ht, hG, hM, k / 4, by omega, ?_⟩
      have hv := h.turn ht (k / 4) (by omega)
      have hs : k = 4 * (k / 4) ∨ k = 4 * (k / 4) + 1 ∨ k = 4 * (k / 4) + 2 ∨ k = 4 * (k / 4) + 3 := by omega
      rcases hs with e | e | e | e
      · exact .inl ⟨e, by rw [← hv.1, ← e]⟩
      · exact .inr (.inl ⟨e, by rw [← hv.2.1, ← e]⟩)
      · exact .inr (.inr (.inl ⟨e, by rw [← hv.2.2.1, ← e]⟩))
      · exact .inr (.inr (.inr ⟨e, by rw [← hv.2.2.2, ← e]⟩))
    · refine .inr (.inl ⟨ht, hG, hM, k / 2, by omega, by omega, ?_⟩)
      have hv := h.plain ht (k / 2) (by omega)
      have hs : k = 2 * (k / 2) ∨ k = 2 * (k / 2) + 1 := by omega
      rcases hs with e | e
      · rw [← hv.1, ← e]
      · rw [← hv.2, ← e]
  · refine .inr (.inr ⟨(k - G) / 3, by omega, ?_⟩)
    have hv := h.rims ((k - G) / 3) (by omega)
    have hs : k = G + 3 * ((k - G) / 3) ∨ k = G + 3 * ((k - G) / 3) + 1 ∨ k = G + 3 * ((k - G) / 3) + 2 := by omega
    rcases hs with e | e | e
    · exact .inl ⟨e, by rw [← hv.1, ← e]⟩
    · exact .inr (.inl ⟨e, by rw [← hv.2.1, ← e]⟩)
    · exact .inr (.inr ⟨e, by rw [← hv.2.2, ← e]⟩)

theorem NormAt.sizes (h : NormAt ws t g r G M) : (G = 4 * g ∧ M = 2 * g) ∨ (G = 2 * g ∧ M = g) := by
  rcases h.size with ⟨_, a, b⟩ | ⟨_, a, b, _⟩
  · exact .inl ⟨a, b⟩
  · exact .inr ⟨a, b⟩

theorem nm_of {x : Int} {m : Nat} (h : x.natAbs = m) : (x.natAbs == m) = true := by rw [h]; exact beq_self_eq_true m

theorem NormAt.turn1 (h : NormAt ws t g r G M) (ht : t = true) {q : Nat} (hq : q < g) : placesI ws ws.length (2 * q + 1) = [4 * q, 4 * q + 2] := by
  have hv := h.turn ht q hq
  have hs := h.size
  have hl := h.len
  have hG : G = 4 * g ∧ M = 2 * g := by rcases hs with ⟨_, a, b⟩ | ⟨e, _⟩; exact ⟨a, b⟩; rw [ht] at e; cases e
  refine filter_two (by omega) (by omega) (nm_of (by rw [hv.1]; omega)) (nm_of (by rw [hv.2.2.1]; omega)) fun k hk he => ?_
  have he := eq_of_beq he
  rcases h.each hk with ⟨_, _, _, q', hq', ⟨e, v⟩ | ⟨e, v⟩ | ⟨e, v⟩ | ⟨e, v⟩⟩ | ⟨e, _⟩ | ⟨q', hq', ⟨e, v⟩ | ⟨e, v⟩ | ⟨e, v⟩⟩
  · rw [v] at he; omega
  · rw [v] at he; omega
  · rw [v] at he; omega
  · rw [v] at he; omega
  · rw [ht] at e; cases e
  · rw [v] at he; omega
  · rw [v] at he; omega
  · rw [v] at he; omega
theorem NormAt.turn2 (h : NormAt ws t g r G M) (ht : t = true) {q : Nat} (hq : q < g) : placesI ws ws.length (2 * q + 2) = [4 * q + 1, 4 * q + 3] := by
  have hv := h.turn ht q hq
  have hs := h.size
  have hl := h.len
  have hG : G = 4 * g ∧ M = 2 * g := by rcases hs with ⟨_, a, b⟩ | ⟨e, _⟩; exact ⟨a, b⟩; rw [ht] at e; cases e
  refine filter_two (by omega) (by omega) (nm_of (by rw [hv.2.1]; omega)) (nm_of (by rw [hv.2.2.2]; omega)) fun k hk he => ?_
  have he := eq_of_beq he
  rcases h.each hk with ⟨_, _, _, q', hq', ⟨e, v⟩ | ⟨e, v⟩ | ⟨e, v⟩ | ⟨e, v⟩⟩ | ⟨e, _⟩ | ⟨q', hq', ⟨e, v⟩ | ⟨e, v⟩ | ⟨e, v⟩⟩
  · rw [v] at he; omega
  · rw [v] at he; omega
  · rw [v] at he; omega
  · rw [v] at he; omega
  · rw [ht] at e; cases e
  · rw [v] at he; omega
  · rw [v] at he; omega
  · rw [v] at he; omega
theorem NormAt.plain1 (h : NormAt ws t g r G M) (ht : t = false) {q : Nat} (hq : q < g) : placesI ws ws.length (q + 1) = [2 * q, 2 * q + 1] := by
  have hv := h.plain ht q hq
  have hs := h.size
  have hl := h.len
  have hG : G = 2 * g ∧ M = g := by rcases hs with ⟨e, _⟩ | ⟨_, a, b, _⟩; rw [ht] at e; cases e; exact ⟨a, b⟩
  refine filter_two (by omega) (by omega) (nm_of (by rw [hv.1]; omega)) (nm_of (by rw [hv.2]; omega)) fun k hk he => ?_
  have he := eq_of_beq he
  rcases h.each hk with ⟨e, _⟩ | ⟨_, _, _, q', hq', e, v⟩ | ⟨q', hq', ⟨e, v⟩ | ⟨e, v⟩ | ⟨e, v⟩⟩
  · rw [ht] at e; cases e
  · rw [v] at he; omega
  · rw [v] at he; omega
  · rw [v] at he; omega
  · rw [v] at he; omega
theorem NormAt.rim1 (h : NormAt ws t g r G M) {q : Nat} (hq : q < r) : placesI ws ws.length (M + 1 + 2 * q) = [G + 3 * q, G + 3 * q + 2] := by
  have hv := h.rims q hq
  have hs := h.sizes
  have hl := h.len
  refine filter_two (by omega) (by omega) (nm_of (by rw [hv.1]; omega)) (nm_of (by rw [hv.2.2]; omega)) fun k hk he => ?_
  have he := eq_of_beq he
  rcases h.each hk with ⟨_, hG, hM, q', hq', ⟨e, v⟩ | ⟨e, v⟩ | ⟨e, v⟩ | ⟨e, v⟩⟩ | ⟨_, hG, hM, q', hq', e, v⟩ | ⟨q', hq', ⟨e, v⟩ | ⟨e, v⟩ | ⟨e, v⟩⟩
  · rw [v] at he; omega
  · rw [v] at he; omega
  · rw [v] at he; omega
  · rw [v] at he; omega
  · rw [v] at he; omega
  · rw [v] at he; omega
  · rw [v] at he; omega
  · rw [v] at he; omega
theorem NormAt.rim2 (h : NormAt ws t g r G M) {q : Nat} (hq : q < r) : placesI ws ws.length (M + 2 + 2 * q) = [G + 3 * q + 1] := by
  have hv := h.rims q hq
  have hs := h.sizes
  have hl := h.len
  refine filter_one (by omega) (nm_of (by rw [hv.2.1]; omega)) fun k hk he => ?_
  have he := eq_of_beq he
  rcases h.each hk with ⟨_, hG, hM, q', hq', ⟨e, v⟩ | ⟨e, v⟩ | ⟨e, v⟩ | ⟨e, v⟩⟩ | ⟨_, hG, hM, q', hq', e, v⟩ | ⟨q', hq', ⟨e, v⟩ | ⟨e, v⟩ | ⟨e, v⟩⟩
  · rw [v] at he; omega
  · rw [v] at he; omega
  · rw [v] at he; omega
  · rw [v] at he; omega
  · rw [v] at he; omega
  · rw [v] at he; omega
  · rw [v] at he; omega
  · rw [v] at he; omega

/-- The names are 1 to M + 2 r; each stands once or twice. -/
theorem NormAt.count (h : NormAt ws t g r G M) (j : Nat) : ((placesI ws ws.length j).length ≠ 0 ↔ 1 ≤ j ∧ j ≤ M + 2 * r) ∧ (placesI ws ws.length j).length ≤ 2 := by
  by_cases hj : 1 ≤ j ∧ j ≤ M + 2 * r
  · have key : (placesI ws ws.length j).length = 2 ∨ (placesI ws ws.length j).length = 1 := by
      by_cases hjM : j ≤ M
      · rcases h.size with ⟨ht, hG, hM⟩ | ⟨ht, hG, hM, _⟩
        · have hs : j = 2 * ((j - 1) / 2) + 1 ∨ j = 2 * ((j - 1) / 2) + 2 := by omega
          rcases hs with e | e
          · rw [e, h.turn1 ht (q := (j - 1) / 2) (by omega)]; exact .inl rfl
          · rw [e, h.turn2 ht (q := (j - 1) / 2) (by omega)]; exact .inl rfl
        · rw [show j = (j - 1) + 1 by omega, h.plain1 ht (q := j - 1) (by omega)]; exact .inl rfl
      · have hs : j = M + 1 + 2 * ((j - M - 1) / 2) ∨ j = M + 2 + 2 * ((j - M - 1) / 2) := by omega
        rcases hs with e | e
        · rw [e, h.rim1 (q := (j - M - 1) / 2) (by omega)]; exact .inl rfl
        · rw [e, h.rim2 (q := (j - M - 1) / 2) (by omega)]; exact .inr rfl
    exact ⟨⟨fun _ => hj, fun _ => by omega⟩, by omega⟩
  · have key : placesI ws ws.length j = [] := by
      unfold placesI
      rw [List.filter_eq_nil_iff]
      intro k hk he
      have hk := List.mem_range.1 hk
      have he := eq_of_beq he
      have hs := h.sizes
      rcases h.each hk with ⟨_, hG, hM, q', hq', ⟨e, v⟩ | ⟨e, v⟩ | ⟨e, v⟩ | ⟨e, v⟩⟩ | ⟨_, hG, hM, q', hq', e, v⟩ | ⟨q', hq', ⟨e, v⟩ | ⟨e, v⟩ | ⟨e, v⟩⟩
      · rw [v] at he; omega
      · rw [v] at he; omega
      · rw [v] at he; omega
      · rw [v] at he; omega
      · rw [v] at he; omega
      · rw [v] at he; omega
      · rw [v] at he; omega
      · rw [v] at he; omega
    rw [key]
    exact ⟨⟨fun h0 => absurd rfl h0, fun h0 => absurd h0 hj⟩, by simp⟩

theorem NormAt.names (h : NormAt ws t g r G M) : namesI ws = (List.range (M + 2 * r)).map (· + 1) := by
  unfold namesI kpS
  exact filter_names h.few (fun j _ => by rw [decide_eq_true_iff]; exact (h.count j).1)
theorem NormAt.nlen (h : NormAt ws t g r G M) : (namesI ws).length = M + 2 * r := by rw [h.names]; simp
theorem NormAt.row (h : NormAt ws t g r G M) {x : Nat} (hx : x < M + 2 * r) : rowN ws x = placesI ws ws.length (x + 1) := by
  unfold rowN
  rw [h.names, List.getElem?_map, List.getElem?_range hx]
  rfl

theorem NormAt.ok (h : NormAt ws t g r G M) : WordOk ws := by
  have hs := h.size
  have hl := h.len
  have hfew := h.few
  have hsm := h.some
  have hg : t = false → 0 < g := fun e => by rcases hs with ⟨e', _⟩ | ⟨_, _, _, e'⟩; rw [e] at e'; cases e'; exact e'
  have hsz := h.sizes
  refine ⟨?_, by omega, fun l hl' => ?_, fun k => by rw [← places_times]; exact (h.count k).2⟩
  · omega
  · obtain ⟨k, hk, e⟩ := List.getElem_of_mem hl'
    have hlt : ltI ws k = l := by unfold ltI; rw [List.getElem?_eq_getElem hk, e]; rfl
    rcases h.each hk with ⟨_, hG, hM, q', hq', ⟨e, v⟩ | ⟨e, v⟩ | ⟨e, v⟩ | ⟨e, v⟩⟩ | ⟨_, hG, hM, q', hq', e, v⟩ | ⟨q', hq', ⟨e, v⟩ | ⟨e, v⟩ | ⟨e, v⟩⟩ <;> (rw [hlt] at v; omega)

end

end Go.Proofs.YtkaplnjknobdpaaDoor
