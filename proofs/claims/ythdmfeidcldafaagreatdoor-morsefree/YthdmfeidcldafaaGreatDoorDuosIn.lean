/- A slice of pairs of numbers that comes in. -/
import Derived.Test.YthdmfeidcldafaaGreatDoorLaid
import Derived.Test.YthdmfeidcldafaaGreatDoorErrorK
import Derived.OpenShut
namespace Go.Proofs.YthdmfeidcldafaaGreatDoor
open Go.ChangeShapes Go.WideShapes Go.RowKit Go.Deep

theorem len_two {α : Type} {l : List α} (h : l.length = 2) : ∃ x y, l = [x, y] := by
  cases l with
  | nil => cases h
  | cons x l =>
    cases l with
    | nil => cases h
    | cons y l =>
      cases l with
      | nil => exact ⟨x, y, rfl⟩
      | cons z l => simp at h

theorem Tryz.cellsOfDuo : Tryz.prog.cellsOf 52 = 2 := by kernel_rfl
theorem Tryz.underlyingDuo : Tryz.prog.underlying 52 = some (.array 2 3) := by kernel_rfl

set_option maxRecDepth 100000 in
/-- A slice of pairs that comes in reads as pairs. -/
theorem duos_of_trod {H : Type} {enc : TypeId × Value → H} {W : World} {base : Nat} {held : Bool} {fuel : Nat} {cs : List Value} {x : DataW H × List MemPlace}
    (h : DataW.trod enc Tryz.prog W base (fun _ => true) held fuel 23 cs = some x) : ∃ v l, cs = [v] ∧ DuoIn anyBlock W v l ∧ ∀ cap, v = .slice none 0 cap → cap = 0 := by
  rcases open_slice Tryz.underlying23 h with ⟨rfl, _⟩ | ⟨a, len, cap, m, n, D, Pl, rfl, hb, hl, hm, hmm, _, hx⟩
  · exact ⟨_, [], rfl, DuoIn.nil _ _, fun cap e => by cases e; rfl⟩
  · simp only [if_true] at hmm
    subst hmm
    have each : ∀ i, i < m → ∃ q : Duo, W.cell? (a.add (i * 2)) = some (.int .i64 q.1) ∧ W.cell? (a.add (i * 2 + 1)) = some (.int .i64 q.2) := by
      intro i hi
      obtain ⟨cs', h1, h2⟩ := hx i hi
      rw [Tryz.cellsOfDuo] at h1
      obtain ⟨_, hlen, hcell⟩ := World.cells?_some h1
      obtain ⟨xs, k, hk, hxy, _, hxl, hf⟩ := DataW.trod_array Tryz.underlyingDuo h2
      obtain ⟨y0, y1, rfl⟩ := len_two hxl
      obtain ⟨v0, v1, rfl⟩ := len_two hlen
      have g0 := hf 0 (by decide)
      have g1 := hf 1 (by decide)
      rw [Tryz.cellsOfInt] at g0 g1
      obtain ⟨n0, e0, _⟩ := DataW.trod_int Tryz.underlying3 g0
      obtain ⟨n1, e1, _⟩ := DataW.trod_int Tryz.underlying3 g1
      have c0 := hcell 0 (by omega)
      have c1 := hcell 1 (by omega)
      rw [add_add] at c0 c1
      simp at e0 e1
      subst e0 e1
      exact ⟨(n0, n1), by simpa using c0, by simpa using c1⟩
    obtain ⟨q, hq⟩ := choose_lt each
    refine ⟨_, (List.range len).map q, rfl, ⟨some a, m, by simp, fun h0 => ?_⟩, fun cap e => by cases e⟩
    simp at h0
    have hs := World.cell?_spot (hq 0 (by omega)).1
    obtain ⟨b, o, sp⟩ := a
    have hs' : sp = none := by simpa [Addr.add] using hs
    subst hs'
    have h0' := (hq 0 (by omega)).1
    rw [Addr.add_lit] at h0'
    refine ⟨b, o, rfl, trivial, cell_lt h0', fun k hk => ?_⟩
    simp at hk
    have e1 := (hq k (by omega)).1
    have e2 := (hq k (by omega)).2
    rw [Addr.add_lit] at e1 e2
    simp only [List.getElem_map, List.getElem_range]
    exact ⟨e1, e2⟩

end Go.Proofs.YthdmfeidcldafaaGreatDoor
