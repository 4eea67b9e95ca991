/- How many tables of three rows a free group of five generators has: the first half. No Go here. -/
import Derived.Test.YtmaopnbnbiediaaDoorGrpFront
namespace Go.Proofs.YtmaopnbnbiediaaDoor
set_option maxRecDepth 1000000 in
theorem count_5a : cntL 26 ((front 3 5 5).take 16) = 761 := by decide +kernel
set_option maxRecDepth 1000000 in
theorem count_5b : cntL 26 (((front 3 5 5).drop 16).take 16) = 996 := by decide +kernel
end Go.Proofs.YtmaopnbnbiediaaDoor
