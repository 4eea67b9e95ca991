/- LabelSperner answers true of whatever number of parts and labels. -/
import Derived.Test.YtcciinaeplppiaaDoorLpLaw1
import Derived.Test.YtcciinaeplppiaaDoorLpLaw2
import Derived.Test.YtcciinaeplppiaaDoorLpLaw3
namespace Go.Proofs.YtcciinaeplppiaaDoor
open Go.RowKit Go.Sort

set_option maxRecDepth 100000 in
theorem sperner_long {ls : List Int} (n : Int) (vl : Value) (w : World) (hl : Ints w vl ls) (h9 : 200 < ls.length) :
    Calls Tryd.prog 3 #[.int .i64 n, vl] w fun e w' => e = .returned (.bool true) ∧ Below w.heap.size w w' := by
  have hco := corner_ w
  obtain ⟨al, cl, rfl, -, -⟩ := hl.open_
  obtain ⟨m, hm⟩ : ∃ m, ls.length = m := ⟨_, rfl⟩
  rw [hm] at h9 ⊢
  clear hl hm
  go_enter Tryd.func3, Tryd.ntmps3
  go_wp2_with (first
    | (go_at_call 6; refine hco.mono ?_; rintro e V1 ⟨rfl, hb⟩; have HB := Hid.mk' hb; clear hb hco)
    | fail)
  go_ret
  exact ⟨rfl, HB.out⟩

theorem sperner_law {a : Nat → Addr} {sx : Nat → ByteArray} {ls : List Int} (n : Int) (vl : Value) (w : World) (hE : Errs a sx w) (hl : Ints w vl ls) :
    Calls Tryd.prog 3 #[.int .i64 n, vl] w fun e w' => e = .returned (.bool true) ∧ Below w.heap.size w w' := by
  by_cases h9 : ls.length ≤ 200
  · by_cases hn : n < 1 ∨ 12 < n
    · exact sperner_badn n vl w hE hl h9 hn
    · obtain ⟨k, rfl⟩ : ∃ k : Nat, n = (k : Int) := ⟨n.toNat, by omega⟩
      by_cases hg : GoodLab (k : Int) ls
      · exact sperner_good k vl w hE hl h9 (by omega) (by omega) hg
      · exact sperner_bad k vl w hE hl h9 (by omega) (by omega) hg
  · exact sperner_long n vl w hl (by omega)

end Go.Proofs.YtcciinaeplppiaaDoor
