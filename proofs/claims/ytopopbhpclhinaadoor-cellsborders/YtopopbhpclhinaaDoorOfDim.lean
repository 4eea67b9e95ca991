/- What ComplexError answers, with the error's value. What the reference's OfDim answers: the faces of a dimension. -/
import Derived.Test.YtopopbhpclhinaaDoorKind0
import Derived.Test.YtopopbhpclhinaaDoorFacetsOf
import Derived.Test.YtopopbhpclhinaaDoorSame
namespace Go.Proofs.YtopopbhpclhinaaDoor
open Go.RowKit Go.Sort Go.Maps Go.Deep

/-- What ComplexError answers, with the error's value. -/
theorem error_k2 (CL : ClosedHolds) (a : Nat → Addr) (vl : Value) (l : List (List Int)) (w : World) (hl : Rows w vl l) (hll : l.length ≤ 100000) (hle : ∀ x ∈ l, x.length ≤ 1000) :
    Calls Tryd.prog 8 #[vl] w fun e w' => Below w.heap.size w w' ∧ ∃ ve n all, Kind a l ve n all ∧ e = .returned (.int .i64 n) ∧ (((n == 0) = false ∧ 0 < n ∧ all = [] ∧ ∃ i : Nat, BadAt l i ∧ ve = .iface 176 (.pointer (some (a i))) ∧ n = (i : Int) + 1) ∨ (n = 0 ∧ Good l all)) := by
  refine (error_g CL vl l w hl hll hle).mono ?_
  rintro e w' ⟨hB, ⟨i, hb, rfl⟩ | ⟨all, g, rfl⟩⟩
  · exact ⟨hB, _, _, [], .inl ⟨i, hb, rfl, rfl, rfl⟩, rfl, .inl ⟨beq_false_of_ne (by omega), by omega, rfl, i, hb, rfl, rfl⟩⟩
  · exact ⟨hB, _, _, all, .inr ⟨g, rfl, rfl⟩, rfl, .inr ⟨rfl, g⟩⟩

end Go.Proofs.YtopopbhpclhinaaDoor

namespace Go.Proofs.YtopopbhpclhinaaDoor
open Go.RowKit Go.Sort

set_option maxRecDepth 100000 in
set_option maxHeartbeats 1000000 in
theorem of_dim (va : Value) (all : List (List Int)) (dim : Int) (w : World) (ha : Rows w va all) (hl : all.length ≤ 1000) (hx : ∀ x ∈ all, x.length ≤ 1000) :
    Calls Tryd.prog 18 #[va, .int .i64 dim] w fun e w' => ∃ v, e = .returned v ∧ Rows w' v (ofDim all dim) ∧ Below w.heap.size w w' := by
  obtain ⟨i0, hi, hz0, hz1, hz2⟩ := info_parts Tryd.info37
  obtain ⟨a, ca, rfl, -, hc⟩ := ha.open_
  have HX : Hid (∀ x ∈ all, x.length ≤ 1000) := hx
  clear hx ha
  go_enter Tryd.func18, Tryd.ntmps18
  go_wp2
  go_loopw [5, 6] (fun v p wr => ∃ (k : Nat) (us : List Value), k ≤ all.length ∧ p = .int .i64 k ∧ wr.ownsRow w.heap.size 37 1 v us.length us ∧ Heads w us (ofDim (all.take k) dim) ∧ Below w.heap.size w wr)
    (fun _ p _ => all.length - (intOf p).toNat)
  case atStart => exact ⟨0, [], by omega, rfl, World.ownsRow_nil _ _ _ _, ⟨by simp [ofDim], fun k u x h => by simp at h⟩, Below.refl _ _⟩
  case round =>
    obtain ⟨k, us, hk, rfl, hown, hh, hB⟩ := hrel
    have HH : Hid (Heads w us (ofDim (all.take k) dim)) := hh
    have hul : us.length ≤ 1000 := by have := hh.1; have := ofDim_length (all.take k) dim; simp at this; omega
    clear hh
    by_cases hlt : k < all.length
    · obtain ⟨b, o, rfl, -, hb, c⟩ := hc (by omega)
      obtain ⟨a1, p1, g1, i1⟩ := c k hlt
      have hlen : (all[k]?.getD []).length ≤ 1000 := HX.out _ (by rw [List.getElem?_eq_getElem hlt]; simp)
      obtain ⟨x, hxe⟩ : ∃ x, all[k]?.getD [] = x := ⟨_, rfl⟩
      rw [hxe] at g1 i1 hlen
      have g2 : wr.cell? ⟨b, o + k, none⟩ = some (.slice a1 x.length p1) := (hB.cell (p := ⟨b, o + k, none⟩) hb).trans g1
      have HI1 : Hid (Ints w (.slice a1 x.length p1) x) := i1
      have HF : Hid (ofDim (all.take (k + 1)) dim = ofDim (all.take k) dim ++ (if (x.length : Int) - 1 = dim then [x] else [])) := by
        show ofDim (all.take (k + 1)) dim = _
        rw [ofDim_succ hlt, hxe]
      have hbs := hB.size
      clear hxe i1 g1 hc c
      by_cases hd : (x.length : Int) - 1 = dim
      · have hdb : ((x.length : Int) - 1 == dim) = true := beq_iff_eq.2 hd
        have HD : Hid ((x.length : Int) - 1 = dim) := hd
        clear hd
        go_wp2_with (first
          | (at_builtin; refine wpList_append_slice rfl (.tmp 21) (.tmp 26) 22 rfl w.heap.size 37 i0 (.slice none 0 0) 24 Tryd.underlying22 hi hz0 hz1 hz2 rfl _ _ _ rfl (hown.alloc _) _ [.slice a1 x.length p1] rfl (slice_one _ _ _) (by simp [Value.oneCell']) (by simp; omega) (by unfold maxLen; simp; omega) (by simp; omega) ?_; intro v3 w4 hown3 hg3 hl3)
          | go_in)
        (try go_frame)
        go_roundw
        case rel => exact ⟨k + 1, us ++ [.slice a1 x.length p1], by omega, by go_num, by simpa using hown3, by rw [HF.out, if_pos HD.out]; exact HH.out.snoc HI1.out, (hB.alloc hbs _).grown hg3 (by simp; omega) (fun j hj => (hown.lt j hj).1)⟩
        case measure => simp [intOf]; omega
      · have hdb : ((x.length : Int) - 1 == dim) = false := beq_false_of_ne hd
        have HD : Hid (¬ (x.length : Int) - 1 = dim) := hd
        clear hd
        go_wp2
        go_roundw
        case rel => exact ⟨k + 1, us, by omega, by go_num, hown, by rw [HF.out, if_neg HD.out, List.append_nil]; exact HH.out, hB⟩
        case measure => simp [intOf]; omega
    · obtain rfl : k = all.length := by omega
      clear hc
      go_wp2
      go_ret
      have hh := HH.out
      rw [List.take_length] at hh
      exact ⟨_, rfl, hh.rows hB hown, hB⟩

end Go.Proofs.YtopopbhpclhinaaDoor
