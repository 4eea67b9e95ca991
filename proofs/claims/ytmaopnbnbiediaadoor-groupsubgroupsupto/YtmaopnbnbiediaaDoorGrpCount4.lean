/- How many tables of four rows a free group of three generators has. No Go here. -/
import Derived.Test.YtmaopnbnbiediaaDoorGrpHole
namespace Go.Proofs.YtmaopnbnbiediaaDoor
set_option maxRecDepth 1000000 in
theorem count_4_3 : (subP 4 3).length = 2143 := by decide +kernel
end Go.Proofs.YtmaopnbnbiediaaDoor
