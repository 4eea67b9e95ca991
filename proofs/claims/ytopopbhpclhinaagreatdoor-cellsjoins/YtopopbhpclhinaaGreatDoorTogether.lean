/- What the reference's Together answers. -/
import Derived.Test.YtopopbhpclhinaaGreatDoorPartsMath
import Derived.Test.YtopopbhpclhinaaGreatDoorCx
namespace Go.Proofs.YtopopbhpclhinaaGreatDoor
open Go.RowKit Go.Sort

set_option maxRecDepth 100000 in
theorem together_in (vf vg : Value) (f g : List Int) (w : World) (hf : Ints w vf f) (hg : Ints w vg g) (hfl : f.length ≤ 400) (hgl : g.length ≤ 400) :
    Calls Tryz.prog 31 #[vf, vg] w fun e w' => ∃ v out, e = .returned v ∧ IntsIn (fun b => w.heap.size ≤ b) w' v out ∧ Rising out ∧ (∀ x, x ∈ out ↔ x ∈ f ∨ x ∈ g) ∧ Below w.heap.size w w' := by
  obtain ⟨j0, hj0, hy0, hy1, hy2⟩ := info_parts Tryz.info3
  have HG : Hid (Ints w vg g) := hg
  obtain ⟨af, cf, rfl, -, -⟩ := hf.open_
  obtain ⟨ag, cg, rfl, -, -⟩ := hg.open_
  go_enter Tryz.func31, Tryz.ntmps31
  go_wp2_with (first
    | (at_builtin; refine wpList_append_slice rfl (.tmp 8) (.tmp 9) 39 rfl w.heap.size 3 j0 (.int .i64 0) 8 Tryz.underlying39 hj0 hy0 hy1 hy2 rfl _ _ _ rfl (World.ownsRow_nil _ _ _ _) _ (f.map (Value.int .i64)) rfl hf (ints_one f) (by simp; omega) (by unfold maxLen; simp; omega) (Nat.le_refl _) ?_; intro v1 w1 hown1 hg1 hl1; have hB1 : Below w.heap.size w w1 := (Below.refl _ w).grown hg1 (Nat.le_refl _) (fun j hj => by cases hj); have hbs := hB1.size; have hgi : Ints w1 (.slice ag g.length cg) g := HG.out.below hB1; rw [Nat.zero_add, List.nil_append] at hown1)
    | (at_builtin; refine wpList_append_slice rfl (.tmp 11) (.tmp 12) 39 rfl w.heap.size 3 j0 (.int .i64 0) 8 Tryz.underlying39 hj0 hy0 hy1 hy2 rfl _ _ _ rfl hown1 _ (g.map (Value.int .i64)) rfl hgi (ints_one g) (by simp; omega) (by unfold maxLen; simp; omega) hbs ?_; intro v2 w2 hown2 hg2 hl2)
    | fail)
  have hB2 : Below w.heap.size w w2 := hB1.grown hg2 hbs (fun j hj => (hown1.lt j hj).1)
  have hi2 : Ints w2 v2 (f ++ g) := by
    have := slice_of_owns (S := anyBlock) hown2 (fun _ _ _ => trivial)
    rw [← List.map_append] at this
    exact this
  have hso := sorted_ v2 (f ++ g) w2 hi2 (by simp; omega)
  obtain ⟨a2, c2, rfl, -, -⟩ := hi2.open_
  clear hown1 hown2 hg1 hl1 hg2 hl2 hi2 hgi hf hg
  go_wp2_with fail
  refine hso.mono ?_
  clear hso
  rintro e w3 ⟨v3, out, rfl, h1, h2, h3, -, h5⟩
  have HO : Hid (IntsIn (fun b => w.heap.size ≤ b) w3 v3 out ∧ Rising out ∧ ∀ x, x ∈ out ↔ x ∈ f ∨ x ∈ g) := ⟨SliceIn.mono h1 (fun b _ h => Nat.le_trans hB2.size h), h2, fun x => by rw [h3, List.mem_append]⟩
  clear h1 h2 h3
  go_wp2
  go_ret
  exact ⟨_, out, rfl, HO.out.1, HO.out.2.1, HO.out.2.2, hB2.trans (h5.mono hB2.size)⟩

theorem together_ (vf vg : Value) (f g : List Int) (w : World) (hf : Ints w vf f) (hg : Ints w vg g) (hfl : f.length ≤ 400) (hgl : g.length ≤ 400) :
    Calls Tryz.prog 31 #[vf, vg] w fun e w' => ∃ v out, e = .returned v ∧ Ints w' v out ∧ Rising out ∧ (∀ x, x ∈ out ↔ x ∈ f ∨ x ∈ g) ∧ Below w.heap.size w w' := by
  refine (together_in vf vg f g w hf hg hfl hgl).mono ?_
  rintro e w' ⟨v, out, h1, h2, h3⟩
  exact ⟨v, out, h1, h2.any, h3⟩

end Go.Proofs.YtopopbhpclhinaaGreatDoor
