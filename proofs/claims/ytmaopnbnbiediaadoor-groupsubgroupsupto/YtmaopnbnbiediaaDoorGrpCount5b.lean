/- How many tables of three rows a free group of five generators has: the second half. No Go here. -/
import Derived.Test.YtmaopnbnbiediaaDoorGrpFront
namespace Go.Proofs.YtmaopnbnbiediaaDoor
set_option maxRecDepth 1000000 in
theorem count_5c : cntL 26 ((((front 3 5 5).drop 16).drop 16).take 16) = 1076 := by decide +kernel
set_option maxRecDepth 1000000 in
theorem count_5d : cntL 26 ((((front 3 5 5).drop 16).drop 16).drop 16) = 1008 := by decide +kernel
set_option maxRecDepth 1000000 in
theorem front_5 : ∀ e, e < 5 → ∀ s ∈ front 3 5 e, holeT 0 s.1 ≠ none := by decide +kernel
end Go.Proofs.YtmaopnbnbiediaaDoor
