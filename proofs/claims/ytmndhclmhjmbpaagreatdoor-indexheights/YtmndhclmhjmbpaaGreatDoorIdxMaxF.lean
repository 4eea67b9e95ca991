/- What numbered answers: each vertex' number, in an array. The highest vertex of a face: slices.MaxFunc by heights. -/
import Derived.Test.YtmndhclmhjmbpaaGreatDoorIdxThings
import Derived.Test.YtmndhclmhjmbpaaGreatDoorIdxMath
import Derived.Test.YtmndhclmhjmbpaaGreatDoorIdxSorted
namespace Go.Proofs.YtmndhclmhjmbpaaGreatDoor
open Go.RowKit Go.Sort

set_option maxRecDepth 100000 in
set_option maxHeartbeats 1000000 in
theorem numbered_arr (a0 a1 a2 a3 a4 a5 a6 ah : Option Addr) (n1 n2 n3 n4 n5 n6 c0 c1 c2 c3 c4 c5 c6 ch : Nat) (V h : List Int) (w : World)
    (hr : Rows w (.slice a0 V.length c0) (V.map fun v => [v])) (hh : Ints w (.slice ah h.length ch) h) (hV : V.Nodup) (hv : ∀ v ∈ V, 0 ≤ v ∧ v ≤ 99) (hl : h.length = V.length) (hV1 : V.length ≤ 100) :
    Calls Tryz.prog 56 #[.agg #[.slice a0 V.length c0, .slice a1 n1 c1, .slice a2 n2 c2, .slice a3 n3 c3, .slice a4 n4 c4, .slice a5 n5 c5, .slice a6 n6 c6], .slice ah h.length ch] w fun e w' =>
      e = .returned (.agg (numC fun k => hiF V h (k : Int)).toArray) ∧ Below w.heap.size w w' := by
  obtain ⟨hz, hsz⟩ := zero_of_info (P := Tryz.prog) (t := 81) (v := .agg (numC fun _ => 0).toArray) (n := 100) (by kernel_rfl)
  have hvs := fun W => verts_ a0 a1 a2 a3 a4 a5 a6 V.length n1 n2 n3 n4 n5 n6 c0 c1 c2 c3 c4 c5 c6 W
  have HB0 : Hid (Below w.heap.size w (((w.alloc (.cells #[.slice a0 V.length c0, .slice a1 n1 c1, .slice a2 n2 c2, .slice a3 n3 c3, .slice a4 n4 c4, .slice a5 n5 c5, .slice a6 n6 c6] 63)).alloc (.cells (numC fun _ => 0).toArray 81)).alloc (.cells (numC fun _ => 0).toArray 81))) := (((Below.refl _ w).alloc (Nat.le_refl _) _).alloc (by simp) _).alloc (by simp; omega) _
  have hn1 := numsAt_new (w.alloc (.cells #[.slice a0 V.length c0, .slice a1 n1 c1, .slice a2 n2 c2, .slice a3 n3 c3, .slice a4 n4 c4, .slice a5 n5 c5, .slice a6 n6 c6] 63)) (fun _ => 0) 81
  have hn2 := numsAt_new ((w.alloc (.cells #[.slice a0 V.length c0, .slice a1 n1 c1, .slice a2 n2 c2, .slice a3 n3 c3, .slice a4 n4 c4, .slice a5 n5 c5, .slice a6 n6 c6] 63)).alloc (.cells (numC fun _ => 0).toArray 81)) (fun _ => 0) 81
  go_enter Tryz.func56, Tryz.ntmps56
  go_wp2_with fail
  refine (hvs _).mono ?_
  clear hvs
  rintro e W1 ⟨rfl, hV1⟩
  have HB1 : Hid (Below w.heap.size w W1) := HB0.out.trans (hV1.mono HB0.out.size)
  have ht4 : NumsAt 81 (w.heap.size + 1) W1 fun _ => 0 := by have := (hn1.below ((Below.refl _ _).alloc (Nat.le_refl _) _)).below hV1; simpa using this
  have ht5 : NumsAt 81 (w.heap.size + 1 + 1) W1 fun _ => 0 := by have := hn2.below hV1; simpa using this
  have HT4 : Hid (NumsAt 81 (w.heap.size + 1) W1 fun _ => 0) := ht4
  have HT5 : Hid (NumsAt 81 (w.heap.size + 1 + 1) W1 fun _ => 0) := ht5
  clear ht4 ht5
  obtain ⟨ar, cr, e1, -, hc⟩ := hr.open_
  obtain ⟨rfl, -, rfl⟩ : a0 = ar ∧ V.length = (V.map fun v => [v]).length ∧ c0 = cr := by simpa using e1
  obtain ⟨ai, ci, e2, -, hci⟩ := hh.open_
  obtain ⟨rfl, rfl⟩ : ah = ai ∧ ch = ci := by simpa using e2
  clear e1 e2 hV1 hn1 hn2 hr hh
  go_wp2_with fail
  go_loopw [11] (fun p W => ∃ k : Nat, k ≤ V.length ∧ p = .int .i64 k ∧ NumsAt 81 (w.heap.size + 1) W (fun _ => 0) ∧ NumsAt 81 (w.heap.size + 1 + 1) W (fun i => hiF (V.take k) h (i : Int)) ∧ Below w.heap.size w W) (fun p _ => V.length - (intOf p).toNat)
  case atStart => exact ⟨0, by omega, rfl, HT4.out, by simpa [hiF_nil] using HT5.out, HB1.out⟩
  case round =>
    obtain ⟨k, hk, rfl, h4, h5, hB⟩ := hrel
    have H4 : Hid (NumsAt 81 (w.heap.size + 1) wr (fun _ => 0)) := h4
    have H5 : Hid (NumsAt 81 (w.heap.size + 1 + 1) wr (fun i => hiF (V.take k) h (i : Int))) := h5
    have HB : Hid (Below w.heap.size w wr) := hB
    clear h4 h5 hB
    by_cases hlt : k < V.length
    · obtain ⟨b, o, rfl, -, hb, c⟩ := hc (by rw [List.length_map]; omega)
      obtain ⟨a1, p1, g1, i1⟩ := c k (by rw [List.length_map]; omega)
      have hrow : (V.map fun v => [v])[k]?.getD [] = [V[k]] := by simp [hlt]
      rw [hrow] at g1 i1
      obtain ⟨m, hm⟩ : ∃ m : Nat, V[k] = (m : Int) := ⟨V[k].toNat, by have := (hv _ (List.getElem_mem hlt)).1; omega⟩
      have hm99 : m < 100 := by have := (hv _ (List.getElem_mem hlt)).2; omega
      have hst := hiF_step (h := h) hV hlt
      rw [List.getElem?_eq_getElem hlt, Option.getD_some, hm] at hst
      rw [hm] at i1
      obtain ⟨b2, o2, rfl, -, hb2, c2⟩ := hci (by omega)
      have g2 := (HB.out.cell (p := ⟨b2, o2 + k, none⟩) hb2).trans (c2 k (by omega))
      obtain ⟨x, hx⟩ : ∃ x, h[k]?.getD 0 = x := ⟨_, rfl⟩
      rw [hx] at g2 hst
      have HST : Hid (∀ i : Int, hiF (V.take (k + 1)) h i = if i = (m : Int) then x else hiF (V.take k) h i) := hst
      obtain ⟨a1', p1', e1, -, hx1⟩ := i1.open_
      obtain ⟨rfl, rfl⟩ : a1 = a1' ∧ p1 = p1' := by simpa using e1
      obtain ⟨b1, o1, rfl, -, hb1, hc1⟩ := hx1 (by simp)
      have g3 := (HB.out.cell (p := ⟨b1, o1 + 0, none⟩) hb1).trans (hc1 0 (by simp))
      have g4 := (HB.out.cell (p := ⟨b, o + k, none⟩) hb).trans g1
      simp only [List.length_cons, List.length_nil, Nat.zero_add, Nat.add_zero, List.getElem?_cons_zero, Option.getD_some] at g3 g4
      obtain ⟨f1, f2⟩ := H5.out.cell hm99
      have hlh : k < h.length := by omega
      clear hst hx hx1 hc1 i1 g1 c2 c hc hci e1 hrow hm
      go_wp2_with fail
      go_region
      go_wp2_with fail
      go_roundw
      case rel =>
        refine ⟨k + 1, by omega, by go_num, H4.out.keep (Below.heap_setCell _ _ _ _ (fun e => by simp at e)), ?_, (HB.out.setCell (by show w.heap.size ≤ w.heap.size + 1 + 1; omega) _).drew⟩
        have := H5.out.put m x
        have hf : (fun i : Nat => if i = m then x else hiF (V.take k) h (i : Int)) = fun i : Nat => hiF (V.take (k + 1)) h (i : Int) := funext fun i => by
          rw [HST.out]
          by_cases e : i = m
          · subst e; rw [if_pos rfl, if_pos rfl]
          · rw [if_neg e, if_neg (show ¬ (i : Int) = (m : Int) by omega)]
        rw [hf] at this
        exact this
      case measure => simp [intOf]; omega
    · obtain rfl : k = V.length := by omega
      have H6 : Hid (NumsAt 81 (w.heap.size + 1 + 1) wr (fun i => hiF V h (i : Int))) := by have := H5.out; rw [List.take_length] at this; exact this
      have hld := H6.out.loadAt (P := Tryz.prog) Tryz.underlying81 hsz
      have hsc := H4.out.storeCells (P := Tryz.prog) (fun i => hiF V h (i : Int))
      have HR : Hid (NumsAt 81 (w.heap.size + 1) (wr.setRow (w.heap.size + 1) (numC fun i => hiF V h (i : Int)).toArray) (fun i => hiF V h (i : Int))) := H4.out.setRow _
      clear hc hci H5
      go_wp2_with fail
      refine wp_load_at rfl rfl hld ?_
      go_wp2_with fail
      refine bodyPost_ret (v := .agg (numC fun i => hiF V h (i : Int)).toArray) ?_ rfl ⟨rfl, below_setRow HB.out (by omega)⟩
      have hl2 := HR.out.load (P := Tryz.prog) Tryz.underlying81 hsz
      simp [results, Tryz.f56, asAddr, hl2]

end Go.Proofs.YtmndhclmhjmbpaaGreatDoor

namespace Go.Proofs.YtmndhclmhjmbpaaGreatDoor
open Go.RowKit Go.Sort

set_option maxRecDepth 100000 in
theorem idx_less (t : TypeId) (g x y : Nat) (F : Nat → Int) (w : World) (hN : NumsAt t g w F) (hx : x < 100) (hy : y < 100) (hF : ∀ k, k < 100 → -2000000 ≤ F k ∧ F k ≤ 2000000) :
    Calls Tryz.prog 59 #[.int .i64 x, .int .i64 y, .pointer (some ⟨g, 0, none⟩)] w fun e w' => e = .returned (.int .i64 (F x - F y)) ∧ Below w.heap.size w w' := by
  have f1 := (hN.cell hx).1
  have f2 := (hN.cell hy).1
  have b1 := hF x hx
  have b2 := hF y hy
  obtain ⟨p, hp⟩ : ∃ p, F x = p := ⟨_, rfl⟩
  obtain ⟨q, hq⟩ : ∃ q, F y = q := ⟨_, rfl⟩
  rw [hp] at f1 b1
  rw [hq] at f2 b2
  rw [hp, hq]
  have hw : IntKind.i64.wrap (p - q) = p - q := wrapI (by omega) (by omega)
  clear hF hN hp hq
  go_enter Tryz.func59, Tryz.ntmps59
  go_wp2_with fail
  go_region
  go_wp2_with fail
  go_ret
  exact ⟨rfl, (Below.refl _ _).drew⟩

set_option maxRecDepth 100000 in
set_option maxHeartbeats 1000000 in
theorem max_func (t : TypeId) (g : Nat) (F : Nat → Int) (vf : Value) (f : List Int) (w : World) (hN : NumsAt t g w F) (hF : ∀ k, k < 100 → -2000000 ≤ F k ∧ F k ≤ 2000000) (hi : Ints w vf f) (hf : f ≠ []) (hl : f.length ≤ 1000) (hv : ∀ v ∈ f, 0 ≤ v ∧ v ≤ 99) :
    Calls Tryz.prog 58 #[vf, .func (.func 59) #[] #[.pointer (some ⟨g, 0, none⟩)]] w fun e w' => e = .returned (.int .i64 (topOf (fun v => F v.toNat) f)) ∧ Below w.heap.size w w' := by
  have hpos : 0 < f.length := List.length_pos_iff.2 hf
  obtain ⟨a, c, rfl, -, hc⟩ := hi.open_
  obtain ⟨b, o, rfl, -, hb, hc⟩ := hc hpos
  obtain ⟨ht, hht⟩ : ∃ ht : Int → Int, (fun v : Int => F v.toNat) = ht := ⟨_, rfl⟩
  rw [hht]
  have HHT : Hid (∀ k : Nat, ht (k : Int) = F k) := fun k => by rw [← hht]; simp
  have HL : Hid (∀ (W : World) (x y : Nat), Below w.heap.size w W → x < 100 → y < 100 → Calls Tryz.prog 59 #[.int .i64 x, .int .i64 y, .pointer (some ⟨g, 0, none⟩)] W fun e w' => e = .returned (.int .i64 (F x - F y)) ∧ Below W.heap.size W w') := fun W x y hB hx hy => idx_less t g x y F W (hN.below hB) hx hy hF
  have HV : Hid (∀ k, k < f.length → ∃ m : Nat, f[k]?.getD 0 = (m : Int) ∧ m < 100) := fun k hk => by
    have hm : f[k]?.getD 0 ∈ f := by rw [List.getElem?_eq_getElem hk]; simp
    have := hv _ hm
    exact ⟨(f[k]?.getD 0).toNat, by omega, by omega⟩
  have HT : Hid (∀ k, ∃ m : Nat, topTo ht f k = (m : Int) ∧ m < 100) := fun k => by
    have := hv _ (topTo_mem ht hf k)
    exact ⟨(topTo ht f k).toNat, by omega, by omega⟩
  have hn1 : ¬ ((f.length : Int) < 1) := by omega
  obtain ⟨m0, hm0, hm1⟩ := HV.out 0 hpos
  have g0 := hc 0 hpos
  rw [hm0, Nat.add_zero] at g0
  have HC : Hid (∀ k, k < f.length → w.cell? ⟨b, o + k, none⟩ = some (.int .i64 (f[k]?.getD 0))) := hc
  have hz : topTo ht f 0 = (m0 : Int) := by
    rw [topTo_zero, ← hm0]
    cases f <;> rfl
  have HZ : Hid (topTo ht f 0 = (m0 : Int)) := hz
  obtain ⟨T, hT⟩ : ∃ T, topOf ht f = T := ⟨_, rfl⟩
  rw [hT]
  have HTT : Hid (topOf ht f = T) := hT
  clear hz hm0 hi hN hF hht hv hc hT
  go_enter Tryz.func58, Tryz.ntmps58
  go_wp2_with fail
  go_loopw [5, 6] (fun q p W => ∃ k : Nat, k + 1 ≤ f.length ∧ p = .int .i64 ((k : Int) + 1) ∧ q = .int .i64 (topTo ht f k) ∧ Below w.heap.size w W) (fun _ p _ => f.length - (intOf p).toNat)
  case atStart => exact ⟨0, by omega, by simp, by rw [HZ.out], Below.refl _ _⟩
  case round =>
    obtain ⟨k, hk, rfl, rfl, hB⟩ := hrel
    obtain ⟨m, hm, hm9⟩ := HT.out k
    rw [hm]
    have HM : Hid (topTo ht f k = (m : Int)) := hm
    have HB : Hid (Below w.heap.size w wr) := hB
    clear hB hm
    by_cases hlt : k + 1 < f.length
    · obtain ⟨x, hx, hx9⟩ := HV.out (k + 1) hlt
      have g1 := (HB.out.cell (p := ⟨b, o + (k + 1), none⟩) hb).trans (HC.out (k + 1) hlt)
      rw [hx] at g1
      have hst := topTo_succ ht hlt
      rw [hx, HM.out, HHT.out, HHT.out] at hst
      have HST : Hid (topTo ht f (k + 1) = if F x - F m > 0 then (x : Int) else (m : Int)) := hst
      have hcl := HL.out wr x m HB.out hx9 hm9
      clear hst hx
      have hw : IntKind.i64.wrap ((k : Int) + 1 + 1) = (k : Int) + 1 + 1 := wrapI (by omega) (by omega)
      have hlt2 : (k : Int) + 1 < f.length := by omega
      obtain ⟨D, hD⟩ : ∃ D, F x - F m = D := ⟨_, rfl⟩
      rw [hD] at hcl
      by_cases hgt : F x - F m > 0
      · have HG : Hid (topTo ht f (k + 1) = (x : Int)) := by have := HST.out; rw [if_pos hgt] at this; exact this
        rw [hD] at hgt
        clear hD
        go_wp2_with fail
        refine hcl.mono ?_
        clear hcl
        rintro e V ⟨rfl, hV⟩
        have HB2 : Hid (Below w.heap.size w V) := HB.out.trans (hV.mono HB.out.size)
        have g2 := (hV.cell (p := ⟨b, o + (k + 1), none⟩) (Nat.lt_of_lt_of_le hb HB.out.size)).trans g1
        clear hV g1
        go_wp2_with fail
        go_roundw
        case rel => exact ⟨k + 1, by omega, by go_num, by rw [HG.out], HB2.out⟩
        case measure => simp [intOf]; omega
      · have HG : Hid (topTo ht f (k + 1) = (m : Int)) := by have := HST.out; rw [if_neg hgt] at this; exact this
        rw [hD] at hgt
        clear hD
        go_wp2_with fail
        refine hcl.mono ?_
        clear hcl
        rintro e V ⟨rfl, hV⟩
        have HB2 : Hid (Below w.heap.size w V) := HB.out.trans (hV.mono HB.out.size)
        have g2 := (hV.cell (p := ⟨b, o + (k + 1), none⟩) (Nat.lt_of_lt_of_le hb HB.out.size)).trans g1
        clear hV g1
        go_wp2_with fail
        go_roundw
        case rel => exact ⟨k + 1, by omega, by go_num, by rw [HG.out], HB2.out⟩
        case measure => simp [intOf]; omega
    · have hln : f.length = k + 1 := by omega
      have HLN : Hid (T = (m : Int)) := by rw [← HTT.out, ← topTo_all ht (k := k) (by omega)]; exact HM.out
      have hlt2 : ¬ ((k : Int) + 1 < f.length) := by omega
      clear hln
      go_wp2_with fail
      go_ret
      exact ⟨by have := HLN.out; subst this; rfl, HB.out⟩

end Go.Proofs.YtmndhclmhjmbpaaGreatDoor
