/- Small numbers are not wrapped. -/
import Derived.Test.YtddcdndckinglaaDoorBase
namespace Go.Proofs.YtddcdndckinglaaDoor
open Go.RowKit

theorem wrapI {x : Int} (h0 : -10000000 ≤ x) (h1 : x ≤ 10000000) : IntKind.i64.wrap x = x := by rw [IntKind.wrap_i64]; omega
theorem Hid.mk' {p : Prop} (h : p) : Hid p := h

end Go.Proofs.YtddcdndckinglaaDoor
