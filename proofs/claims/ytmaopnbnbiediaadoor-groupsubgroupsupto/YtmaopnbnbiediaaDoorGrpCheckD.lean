/- The closed check for three rows and four generators, its tables. No Go here. -/
import Derived.Test.YtmaopnbnbiediaaDoorGrpCheckC
namespace Go.Proofs.YtmaopnbnbiediaaDoor
set_option maxRecDepth 1000000 in
theorem sub34 : subP 3 4 = codes34.map (tabK 3 4) := by decide +kernel
set_option maxHeartbeats 2000000 in
theorem lists_34 (rels : List (List Int)) : refP 3 4 rels 1296 = (subP 3 4).filter (keepsB rels) := by
  have hc : ∀ k, k < 1296 → codeX 3 (tabK 3 4 k) 4 = k := fun k hk => by
    have h := all34 hk
    unfold okK at h
    rw [Bool.and_eq_true] at h
    exact Nat.eq_of_beq_eq_true h.1
  refine ref_same (by omega) (by omega) hc (by rw [sub34]; exact strict_of sorted34) (fun X => ?_) rels
  rw [sub34, List.mem_map]
  constructor
  · intro hX
    obtain ⟨k, hk⟩ := hX
    have h := List.all_eq_true.1 std34 k hk.1
    rw [Bool.and_eq_true] at h
    exact ⟨k, Nat.le_of_ble_eq_true h.1, h.2, hk.2.symm⟩
  · intro hX
    obtain ⟨j, hj⟩ := hX
    have h := all34 hj.1
    unfold okK at h
    rw [Bool.and_eq_true, hj.2.1, Bool.not_true, Bool.false_or, ← mask_codes] at h
    exact ⟨j, maskN_mem h.2, hj.2.2.symm⟩
end Go.Proofs.YtmaopnbnbiediaaDoor
