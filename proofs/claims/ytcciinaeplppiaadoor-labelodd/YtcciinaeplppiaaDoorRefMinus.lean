/- What the reference's Minus answers. -/
import Derived.Test.YtcciinaeplppiaaDoorRefPart
import Derived.Maps.RangeWalk
namespace Go.Proofs.YtcciinaeplppiaaDoor
open Go.RowKit Go.Sort

def minusQ (x f : List Int) : List Int := x.filter (fun v => !f.contains v)
theorem minusQ_succ {x : List Int} {k : Nat} (hk : k < x.length) (f : List Int) : minusQ (x.take (k + 1)) f = minusQ (x.take k) f ++ (if f.contains (x[k]?.getD 0) = true then [] else [x[k]?.getD 0]) := by
  unfold minusQ
  rw [List.take_add_one, List.getElem?_eq_getElem hk, List.filter_append, Option.getD_some]
  congr 1
  cases h : f.contains x[k] with
  | false => rw [if_neg (by decide)]; simp only [Option.toList, List.filter_cons, h, Bool.not_false, if_true, List.filter_nil]
  | true => rw [if_pos rfl]; simp only [Option.toList, List.filter_cons, h, Bool.not_true, Bool.false_eq_true, if_false, List.filter_nil]
theorem minusQ_length (x f : List Int) : (minusQ x f).length ≤ x.length := List.length_filter_le _ _

set_option maxRecDepth 100000 in
set_option maxHeartbeats 1000000 in
theorem minusQ_ (vx vf : Value) (x f : List Int) (w : World) (hx : Ints w vx x) (hf : Ints w vf f) (hxl : x.length ≤ 400) (hfl : f.length ≤ 400) :
    Calls Tryd.prog 21 #[vx, vf] w fun e w' => ∃ v, e = .returned v ∧ IntsIn (fun b => w.heap.size ≤ b) w' v (minusQ x f) ∧ Below w.heap.size w w' := by
  obtain ⟨j0, hj0, hy0, hy1, hy2⟩ := info_parts Tryd.info3
  have HF : Hid (Ints w vf f) := hf
  obtain ⟨ax, cx, rfl, -, hcx⟩ := hx.open_
  obtain ⟨af, cf, rfl, -, -⟩ := hf.open_
  clear hx hf
  go_enter Tryd.func21, Tryd.ntmps21
  go_wp2
  go_loopw [5, 6] (fun v p W => ∃ k : Nat, k ≤ x.length ∧ p = .int .i64 k ∧ W.ownsRow w.heap.size 3 1 v (minusQ (x.take k) f).length ((minusQ (x.take k) f).map (Value.int .i64)) ∧ Below w.heap.size w W)
    (fun _ p _ => x.length - (intOf p).toNat)
  case atStart => exact ⟨0, by omega, rfl, by simp [minusQ]; exact World.ownsRow_nil _ _ _ _, Below.refl _ _⟩
  case round =>
    obtain ⟨k, hk, rfl, hown, hB⟩ := hrel
    have hml : (minusQ (x.take k) f).length ≤ 400 := by have := minusQ_length (x.take k) f; simp at this; omega
    obtain ⟨t, ht⟩ : ∃ t, minusQ (x.take k) f = t := ⟨_, rfl⟩
    rw [ht] at hown hml
    have HT : Hid (minusQ (x.take k) f = t) := ht
    have hbs := hB.size
    clear ht
    by_cases hlt : k < x.length
    · obtain ⟨b, o, rfl, -, hb, c⟩ := hcx (by omega)
      have g0 := (hB.cell (p := ⟨b, o + k, none⟩) hb).trans (c k hlt)
      have hst := minusQ_succ hlt f
      obtain ⟨y, hye⟩ : ∃ y, x[k]?.getD 0 = y := ⟨_, rfl⟩
      rw [hye] at g0 hst
      rw [HT.out] at hst
      have HST : Hid (minusQ (x.take (k + 1)) f = t ++ (if f.contains y = true then [] else [y])) := hst
      have hco := contains_ (.slice af f.length cf) f y wr (HF.out.below hB) (by omega)
      clear hye hst c hcx
      cases hq : f.contains y with
      | true =>
        rw [hq] at hco
        have HQ : Hid (f.contains y = true) := hq
        clear hq
        go_wp2_with fail
        refine hco.mono ?_
        clear hco
        rintro e w2 ⟨rfl, q, hw2⟩
        have hB2 : Below w.heap.size w w2 := by rw [hw2]; exact hB.trans ⟨rfl, rfl, rfl, Nat.le_refl _, fun _ _ => rfl⟩
        have ho2 : w2.ownsRow w.heap.size 3 1 u5 t.length (t.map (Value.int .i64)) := by rw [hw2]; exact hown
        clear hw2 hown
        go_wp2
        go_roundw
        case rel => exact ⟨k + 1, by omega, by go_num, by rw [HST.out, if_pos HQ.out, List.append_nil]; exact ho2, hB2⟩
        case measure => simp [intOf]; omega
      | false =>
        rw [hq] at hco
        have HQ : Hid (¬ f.contains y = true) := by
          show ¬ f.contains y = true
          rw [hq]; decide
        clear hq
        have g1 : ∀ q, (wr.drewN q).cell? ⟨b, o + k, none⟩ = some (.int .i64 y) := fun q => g0
        go_wp2_with fail
        refine hco.mono ?_
        clear hco
        rintro e w2 ⟨rfl, q, hw2⟩
        have hB2 : Below w.heap.size w w2 := by rw [hw2]; exact hB.trans ⟨rfl, rfl, rfl, Nat.le_refl _, fun _ _ => rfl⟩
        have ho2 : w2.ownsRow w.heap.size 3 1 u5 t.length (t.map (Value.int .i64)) := by rw [hw2]; exact hown
        have g2 : w2.cell? ⟨b, o + k, none⟩ = some (.int .i64 y) := by rw [hw2]; exact g1 q
        have hbs2 := hB2.size
        clear hw2 hown g1
        go_wp2_with (first
          | (at_builtin; refine wpList_append_slice rfl (.tmp 22) (.tmp 27) 22 rfl w.heap.size 3 j0 (.int .i64 0) 8 Tryd.underlying22 hj0 hy0 hy1 hy2 rfl _ _ _ rfl (ho2.alloc _) _ [.int .i64 y] rfl (slice_one _ _ _) (by simp [Value.oneCell']) (by simp; omega) (by unfold maxLen; simp; omega) (by simp; omega) ?_; intro v3 w4 hown3 hg3 hl3)
          | go_in)
        (try go_frame)
        go_roundw
        case rel => exact ⟨k + 1, by omega, by go_num, by rw [HST.out, if_neg HQ.out]; simpa using hown3, (hB2.alloc hbs2 _).grown hg3 (by simp; omega) (fun j hj => (ho2.lt j hj).1)⟩
        case measure => simp [intOf]; omega
    · obtain rfl : k = x.length := by omega
      have HTX : Hid (minusQ x f = t) := by
        have := HT.out
        rwa [List.take_length] at this
      have HI : Hid (IntsIn (fun b => w.heap.size ≤ b) wr u5 t) := slice_of_owns hown (fun b hb _ => hb)
      clear hcx hown
      go_wp2
      go_ret
      exact ⟨_, rfl, by rw [HTX.out]; exact HI.out, hB⟩

end Go.Proofs.YtcciinaeplppiaaDoor
