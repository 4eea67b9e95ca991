/- What picture answers: the same rows, in memory of its own. -/
import Derived.Test.YtjaoiaajplgboaaDoorCubeErr
import Derived.Test.YtjaoiaajplgboaaDoorAppendTypes
namespace Go.Proofs.YtjaoiaajplgboaaDoor
open Go.RowKit Go.Sort

set_option maxRecDepth 100000 in
theorem picture_ (vm : Value) (m : List (List UInt8)) (w : World) (hm : Strs w vm m) (hl : m.length ≤ 1000) :
    Calls Tryd.prog 9 #[vm] w fun e w' => ∃ v, e = .returned v ∧ StrsIn (fun b => w.heap.size ≤ b) w' v m ∧ Below w.heap.size w w' := by
  obtain ⟨i0, hi, hz0, hz1, hz2⟩ := info_parts Tryd.info9
  have HS := hm
  obtain ⟨a, ca, rfl, -, -⟩ := hm.open_
  have hown := World.ownsRow_nil w w.heap.size 9 1
  clear hm
  go_enter Tryd.func9, Tryd.ntmps9
  go_wp2_with (first
    | (at_builtin; refine wpList_append_slice2 rfl (.tmp 4) (.tmp 5) 30 22 9 Tryd.underlying22 rfl w.heap.size 9 i0 (.string ⟨#[]⟩) 16 Tryd.underlying30 hi hz0 hz1 hz2 rfl _ _ _ rfl hown _ (m.map encStr) rfl HS (fun c hc => by obtain ⟨y, _, rfl⟩ := List.mem_map.1 hc; rfl) (by simp; omega) (by unfold maxLen; simp; omega) (Nat.le_refl _) ?_; intro v4 w4 hown4 hg4 hl4)
    | go_in)
  go_ret
  exact ⟨_, rfl, slice_of_owns (by simpa using hown4) (fun b hb _ => hb), (Below.refl _ w).grown hg4 (Nat.le_refl _) (fun j hj => by cases hj)⟩

end Go.Proofs.YtjaoiaajplgboaaDoor
