/- Plain facts on the four closed sets of the statements' circle: their faces, their facets. -/
import Derived.Test.YtklagnmkfbjagaaGreatDoorClosedDefs
import Derived.Test.YtklagnmkfbjagaaGreatDoorValid
namespace Go.Proofs.YtklagnmkfbjagaaGreatDoor
open Go.RowKit Go.Sort

/-- The four sets, and what they come to. -/
def cirL : List (List Int) := [[1, 0], [1, 2], [2, 0], [1]]
def cirT : List (List Int) := [[0, 1], [1, 2], [0, 2], [1]]
def cirA : List (List Int) := [[0], [0, 1], [0, 2], [1], [1, 2], [2]]
def cirF : List (List Int) := [[0, 1], [0, 2], [1, 2]]

theorem cir_ok : ∀ x ∈ cirL, SetOk x := by
  intro x hx
  unfold cirL at hx
  simp only [List.mem_cons, List.not_mem_nil, or_false] at hx
  rcases hx with rfl | rfl | rfl | rfl <;> (unfold SetOk; decide)
theorem cir_srt : cirL.map srt = cirT := by
  have h1 : srt [1, 0] = [0, 1] := (srt_told (by decide) (by decide) (fun v => by simp; omega)).symm
  have h2 : srt [1, 2] = [1, 2] := (srt_told (by decide) (by decide) (fun v => by simp)).symm
  have h3 : srt [2, 0] = [0, 2] := (srt_told (by decide) (by decide) (fun v => by simp; omega)).symm
  have h4 : srt [1] = [1] := (srt_told (by decide) (by decide) (fun v => by simp)).symm
  simp [cirL, cirT, h1, h2, h3, h4]
theorem cir_sub {x t : List Int} (ht : t ∈ cirT) (h : x.Sublist t) (hx : x ≠ []) : x ∈ cirA := by
  obtain ⟨b, hb, rfl⟩ := pick_all h
  unfold cirT at ht
  simp only [List.mem_cons, List.not_mem_nil, or_false] at ht
  rcases ht with rfl | rfl | rfl | rfl
  · have hb4 : b < 4 := hb
    rcases (show b = 0 ∨ b = 1 ∨ b = 2 ∨ b = 3 by omega) with rfl | rfl | rfl | rfl
    · exact absurd (by decide) hx
    · decide
    · decide
    · decide
  · have hb4 : b < 4 := hb
    rcases (show b = 0 ∨ b = 1 ∨ b = 2 ∨ b = 3 by omega) with rfl | rfl | rfl | rfl
    · exact absurd (by decide) hx
    · decide
    · decide
    · decide
  · have hb4 : b < 4 := hb
    rcases (show b = 0 ∨ b = 1 ∨ b = 2 ∨ b = 3 by omega) with rfl | rfl | rfl | rfl
    · exact absurd (by decide) hx
    · decide
    · decide
    · decide
  · have hb4 : b < 2 := hb
    rcases (show b = 0 ∨ b = 1 by omega) with rfl | rfl
    · exact absurd (by decide) hx
    · decide
theorem cir_all : IsAll cirT cirA where
  order := by decide
  mem := fun x => by
    constructor
    · intro hx
      unfold cirA at hx
      simp only [List.mem_cons, List.not_mem_nil, or_false] at hx
      rcases hx with rfl | rfl | rfl | rfl | rfl | rfl
      · exact ⟨by decide, [0, 1], by decide, by decide⟩
      · exact ⟨by decide, [0, 1], by decide, by decide⟩
      · exact ⟨by decide, [0, 2], by decide, by decide⟩
      · exact ⟨by decide, [0, 1], by decide, by decide⟩
      · exact ⟨by decide, [1, 2], by decide, by decide⟩
      · exact ⟨by decide, [1, 2], by decide, by decide⟩
    · rintro ⟨h, t, ht, hs⟩
      exact cir_sub ht hs h
theorem cir_facets : facetsI cirA = cirF := by decide
theorem cir_not_over : ¬ Over cirT := not_over cir_all (by decide) (by decide)
theorem cir_rising : ∀ t ∈ cirT, Rising t := by decide

/-- What the map tells of them. -/
theorem cir_told {ts ss : List (List UInt8)} (ht : ts.map ints = cirL.map srt) (hn : ss.Nodup) (hm : ∀ x, x ∈ ss ↔ FaceOf ts x ∧ ¬ InnerOf ts x) : (srtS ss).map ints = cirF := by
  rw [cir_srt] at ht
  have := facets_same (ts := ts) (ss := ss) (all := cirA) (fun t h => cir_rising _ (by rw [← ht]; exact List.mem_map.2 ⟨t, h, rfl⟩)) (by rw [ht]; exact cir_all) hn hm
  rw [cir_facets] at this
  exact this
theorem cir_few {ts : List (List UInt8)} (ht : ts.map ints = cirL.map srt) : ¬ Over ts := fun h => cir_not_over (by rw [← cir_srt, ← ht]; exact over_ints.2 h)

end Go.Proofs.YtklagnmkfbjagaaGreatDoor
