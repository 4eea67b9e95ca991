/- Small numbers are not wrapped. -/
import Derived.Test.YtkaplnjknobdpaaDoorBase
namespace Go.Proofs.YtkaplnjknobdpaaDoor
open Go.RowKit

theorem wrapI {x : Int} (h0 : -10000000 ≤ x) (h1 : x ≤ 10000000) : IntKind.i64.wrap x = x := by rw [IntKind.wrap_i64]; omega
theorem Hid.mk' {p : Prop} (h : p) : Hid p := h

end Go.Proofs.YtkaplnjknobdpaaDoor
