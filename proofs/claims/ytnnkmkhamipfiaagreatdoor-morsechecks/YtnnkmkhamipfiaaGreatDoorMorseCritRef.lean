/- What the reference's CriticalOf answers. -/
import Derived.Test.YtnnkmkhamipfiaaGreatDoorMorseCrit
namespace Go.Proofs.YtnnkmkhamipfiaaGreatDoor
open Go.RowKit Go.Sort

/-- Those in no pair, of those ahead of a number. -/
def noneTo (mt : Nat → Int) (k : Nat) : List Int := ((List.range k).filter fun f => decide (mt f < 0)).map fun (f : Nat) => (f : Int)
theorem noneTo_yes {mt : Nat → Int} {k : Nat} (h : mt k < 0) : noneTo mt (k + 1) = noneTo mt k ++ [(k : Int)] := by unfold noneTo; rw [List.range_succ, List.filter_append]; simp [h]
theorem noneTo_no {mt : Nat → Int} {k : Nat} (h : ¬ mt k < 0) : noneTo mt (k + 1) = noneTo mt k := by unfold noneTo; rw [List.range_succ, List.filter_append]; simp [h]
theorem noneTo_len (mt : Nat → Int) (k : Nat) : (noneTo mt k).length ≤ k := by
  unfold noneTo
  rw [List.length_map]
  refine Nat.le_trans (List.length_filter_le _ _) ?_
  rw [List.length_range]; exact Nat.le_refl _

set_option maxRecDepth 100000 in
set_option maxHeartbeats 2000000 in
theorem critical_of {S : Nat → Prop} {mt : Nat → Int} (n : Nat) (v : Value) (w : World) (h : IntsIn S w v ((List.range n).map mt)) (hn : n ≤ 1000) :
    Calls Tryz.prog 18 #[v] w fun e w' => ∃ u, e = .returned u ∧ w'.ownsRow w.heap.size 3 1 u (noneTo mt n).length ((noneTo mt n).map (Value.int .i64)) ∧ Below w.heap.size w w' := by
  obtain ⟨i0, hi0, hz0, hz1, hz2⟩ := info_parts Tryz.info3
  obtain ⟨a, c, rfl, -, hc⟩ := h.open_
  rw [List.length_map, List.length_range] at hc ⊢
  have HC := Hid.mk' hc
  clear h hc
  go_enter Tryz.func18, Tryz.ntmps18
  go_wp2_with fail
  go_loopw [3, 4] (fun v p W => ∃ k : Nat, k ≤ n ∧ p = .int .i64 k ∧ Hid (W.ownsRow w.heap.size 3 1 v (noneTo mt k).length ((noneTo mt k).map (Value.int .i64)) ∧ Below w.heap.size w W)) (fun _ p _ => n - (intOf p).toNat)
  case atStart => exact ⟨0, by omega, rfl, World.ownsRow_nil _ _ _ _, Below.refl _ _⟩
  case round =>
    obtain ⟨k, hk, rfl, HK⟩ := hrel
    obtain ⟨av, cv, rfl⟩ := own_slice HK.out.1
    by_cases hkn : k < n
    · obtain ⟨b, o, rfl, -, hbl, hcell⟩ := HC.out (by omega)
      have hk0 := (HK.out.2.cell (p := ⟨b, o + k, none⟩) hbl).trans (hcell k hkn)
      have hke : ((List.range n).map mt)[k]?.getD 0 = mt k := by rw [List.getElem?_map, List.getElem?_range hkn]; rfl
      rw [hke] at hk0
      obtain ⟨x, hx⟩ : ∃ x, mt k = x := ⟨_, rfl⟩
      rw [hx] at hk0
      have own := HK.out.1
      have hsz := HK.out.2.size
      have hcl : (noneTo mt k).length ≤ 1000 := by have := noneTo_len mt k; omega
      obtain ⟨cl, hcl2⟩ : ∃ cl, (noneTo mt k).length = cl := ⟨_, rfl⟩
      have HCL : Hid ((noneTo mt k).length = cl) := hcl2
      rw [hcl2] at own hcl ⊢
      have z0 : (0 : Int) ≤ (k : Int) := by omega
      have z1 : (k : Int) < (n : Int) := by omega
      clear hcell hke hcl2
      by_cases e : x < 0
      · have HY : Hid (noneTo mt (k + 1) = noneTo mt k ++ [(k : Int)]) := noneTo_yes (by rw [hx]; exact e)
        clear hx
        go_wp2_with (first
          | (at_builtin; refine wpList_append_slice rfl (.tmp 16) (.tmp 18) 29 rfl w.heap.size 3 i0 (.int .i64 0) 8 Tryz.underlying29 hi0 hz0 hz1 hz2 rfl _ _ _ rfl (own.alloc _) _ [.int .i64 (k : Int)] rfl (slice_one _ _ _) (by simp [Value.oneCell']) (by simp; omega) (by unfold maxLen; simp; omega) (by simp; omega) ?_; intro v4 w4 hown4 hg4 hl4)
          | fail)
        go_roundw
        case rel =>
          refine ⟨k + 1, by omega, by go_num, ?_, ?_⟩
          · rw [HY.out, List.map_append, List.length_append, HCL.out]; exact hown4
          · exact (HK.out.2.alloc (by omega) _).grown hg4 (by simp; omega) (fun b hb => (own.lt b hb).1)
        case measure => simp [intOf]; omega
      · have HNO : Hid (noneTo mt (k + 1) = noneTo mt k) := noneTo_no (by rw [hx]; exact e)
        clear hx
        go_wp2_with fail
        go_roundw
        case rel => exact ⟨k + 1, by omega, by go_num, by rw [HNO.out, HCL.out]; exact own, HK.out.2⟩
        case measure => simp [intOf]; omega
    · obtain rfl : k = n := by omega
      go_wp2_with fail
      go_ret
      exact ⟨_, rfl, HK.out.1, HK.out.2⟩

end Go.Proofs.YtnnkmkhamipfiaaGreatDoor
