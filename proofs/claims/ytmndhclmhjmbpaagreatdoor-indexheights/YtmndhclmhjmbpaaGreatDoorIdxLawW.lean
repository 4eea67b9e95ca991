/- What reeb.Check answers of a complex and heights. The statement on indices, walked: where it says nothing, where something is wrong, and where all is well. -/
import Derived.Test.YtmndhclmhjmbpaaGreatDoorIdxNear
import Derived.Test.YtmndhclmhjmbpaaGreatDoorLists
import Derived.Test.YtmndhclmhjmbpaaGreatDoorPartsMath
import Derived.Test.YtmndhclmhjmbpaaGreatDoorIdxIndices
namespace Go.Proofs.YtmndhclmhjmbpaaGreatDoor
open Go.RowKit Go.Sort Go.Lib

def greatB (x : Int) : Bool := decide (x < -1048576) || decide (1048576 < x)
set_option maxRecDepth 100000 in
theorem too_great (x : Int) (w : World) : Calls Tryz.prog 81 #[.int .i64 x] w fun e w' => e = .returned (.bool (greatB x)) ∧ w' = w := by
  unfold greatB
  by_cases a : x < -1048576
  · rw [decide_eq_true a]
    go_enter Tryz.func81, Tryz.ntmps81
    go_wp2_with fail
    go_ret
    exact ⟨rfl, rfl⟩
  · rw [decide_eq_false a]
    by_cases b : 1048576 < x
    · rw [decide_eq_true b]
      go_enter Tryz.func81, Tryz.ntmps81
      go_wp2_with fail
      go_ret
      exact ⟨rfl, rfl⟩
    · rw [decide_eq_false b]
      go_enter Tryz.func81, Tryz.ntmps81
      go_wp2_with fail
      go_ret
      exact ⟨rfl, rfl⟩

/-- Is some height too great? -/
theorem any_great (a : Option Addr) (c : Nat) (h : List Int) (w : World) (hh : Ints w (.slice a h.length c) h) (hl : h.length ≤ 100000) :
    Calls Tryz.prog 80 #[.slice a h.length c, .func (.func 81) #[] #[]] w fun e w' => e = .returned (.bool (h.any greatB)) ∧ Below w.heap.size w w' := by
  obtain ⟨a1, c1, e1, -, hc⟩ := hh.open_
  obtain ⟨rfl, rfl⟩ : a = a1 ∧ c = c1 := by simpa using e1
  by_cases h0 : h = []
  · subst h0
    exact (Tryz.slices_ContainsFunc_empty (α := Int) a c (.func (.func 81) #[] #[]) w).mono fun e w' ⟨he, hw⟩ => ⟨he, by rw [hw]; exact Below.refl _ _⟩
  · obtain ⟨b, o, rfl, -, hb, hc⟩ := hc (List.length_pos_iff.2 h0)
    have eg : ∀ args w, (callFunc 81 args).run Tryz.prog w = .ok (.enter 81 args) w := enters_of Tryz.func81 (by kernel_rfl) rfl
    have := Tryz.slices_ContainsFunc (α := Int) (Value.int .i64) greatB 81 #[] eg b o h.length c h w (fun W x _ => (too_great x W).mono fun e w' ⟨he, hw⟩ => ⟨he, 0, by rw [hw]; rfl⟩) (Nat.le_refl _) (by omega) (fun j hj => by rw [hc j hj, getElem!_pos h j hj, List.getElem?_eq_getElem hj, Option.getD_some])
    refine this.mono fun e w' ⟨he, q, hw⟩ => ⟨by rw [he, List.take_length], by rw [hw]; exact ⟨rfl, rfl, rfl, Nat.le_refl _, fun _ _ => rfl⟩⟩

/-- What the heights of a complex' vertices must be. -/
def HOk (V h : List Int) : Prop := h.length = V.length ∧ (∀ x ∈ h, -1048576 ≤ x ∧ x ≤ 1048576) ∧ h.Nodup
theorem great_iff {h : List Int} : h.any greatB = false ↔ ∀ x ∈ h, -1048576 ≤ x ∧ x ≤ 1048576 := by
  rw [List.any_eq_false]
  unfold greatB
  constructor
  · intro hh x hx
    have := hh x hx
    simp only [Bool.or_eq_true, decide_eq_true_eq, not_or] at this
    omega
  · intro hh x hx
    have := hh x hx
    simp only [Bool.or_eq_true, decide_eq_true_eq, not_or]
    omega

theorem land_start (w : World) (v : Value) : ∃ w1, ((w.alloc (.cells #[v] 33)).alloc (.cells #[.slice none 0 0, .slice none 0 0, .slice none 0 0] 100)) = w1 ∧ Below w.heap.size w w1 ∧ w1.cell? ⟨w.heap.size, 0, none⟩ = some v ∧ VecAt 100 3 (w.heap.size + 1) w1 (fun _ => .slice none 0 0) := by
  obtain ⟨A, hA⟩ : ∃ A, w.alloc (.cells #[v] 33) = A := ⟨_, rfl⟩
  have hsA : A.heap.size = w.heap.size + 1 := by rw [← hA]; simp
  have hcA : A.cell? ⟨w.heap.size, 0, none⟩ = some v := by rw [← hA]; exact (box_new w v _).1
  have hBA : Below w.heap.size w A := by rw [← hA]; exact (Below.refl _ w).alloc (Nat.le_refl _) _
  rw [hA]
  have hAB : Below A.heap.size A (A.alloc (.cells #[.slice none 0 0, .slice none 0 0, .slice none 0 0] 100)) := (Below.refl _ A).alloc (Nat.le_refl _) _
  refine ⟨_, rfl, hBA.trans (hAB.mono (by omega)), (hAB.cell (p := ⟨w.heap.size, 0, none⟩) (by show w.heap.size < _; omega)).trans hcA, ?_⟩
  have h1 := (Go.MapKept.heap_alloc A (.cells #[.slice none 0 0, .slice none 0 0, .slice none 0 0] 100)).1
  rw [hsA] at h1
  exact h1
theorem land_load {b : Nat} {W : World} {g : Nat → Value} (h : VecAt 100 3 b W g) : (loadVar 100 ⟨b, 0, none⟩).run Tryz.prog W = .ok (.agg #[g 0, g 1, g 2]) W := by
  have := run_loadVar_mid (P := Tryz.prog) W b 0 100 [g 0, g 1, g 2] _ (fun j v hv => by
    rw [Nat.zero_add]
    rcases j with _ | _ | _ | j
    · cases hv; exact (h.cell (by omega)).1
    · cases hv; exact (h.cell (by omega)).1
    · cases hv; exact (h.cell (by omega)).1
    · simp at hv) Tryz.underlying100 rfl (by kernel_rfl)
  exact this
theorem land_put {b : Nat} {W : World} {g : Nat → Value} (h : VecAt 100 3 b W g) (x y z : Value) : ∃ W9, ((W.setCell ⟨b, 0, none⟩ x).setCell ⟨b, 1, none⟩ y).setCell ⟨b, 2, none⟩ z = W9 ∧ VecAt 100 3 b W9 (fun k => if k = 2 then z else if k = 1 then y else x) ∧ ∀ w : World, Below w.heap.size w W → w.heap.size ≤ b → Below w.heap.size w W9 := by
  refine ⟨_, rfl, (((h.put 0 x).put 1 y).put 2 z).conv fun k hk => ?_, fun w hB hb => ((hB.setCell hb _).setCell hb _).setCell hb _⟩
  rcases (show k = 0 ∨ k = 1 ∨ k = 2 by omega) with rfl | rfl | rfl <;> rfl

set_option maxRecDepth 100000 in
set_option maxHeartbeats 1000000 in
theorem open_bad {a : Nat → Addr} {s : Nat → ByteArray} (vl vh : Value) (l : List (List Int)) (i : Nat) (w : World) (hE : Errs a s w) (hl : Rows w vl l) (hll : l.length ≤ 100000) (hle : ∀ x ∈ l, x.length ≤ 1000) (hb : BadAt l i) :
    Calls Tryz.prog 54 #[.agg #[vl], vh] w fun e w' => (∃ a0 n0 c0 a1 n1 c1 a2 n2 c2, e = .returned (.tuple #[.agg #[.slice a0 n0 c0, .slice a1 n1 c1, .slice a2 n2 c2], .iface 233 (.pointer (some (a i)))])) ∧ Below w.heap.size w w' := by
  have hl0 := hl
  obtain ⟨al, cl, rfl, -, -⟩ := hl.open_
  have HF : Hid (∀ (W : World), Below w.heap.size w W → Calls Tryz.prog 55 #[.agg #[.slice al l.length cl], .int .i64 0] W fun e w' => e = .returned (.tuple #[.slice none 0 0, .iface 233 (.pointer (some (a i)))]) ∧ Below W.heap.size W w') := fun W hB =>
    (faces_call _ l 0 W (hE.below hB) (hl0.below hB) hll hle).mono fun e w' ⟨h1, h2⟩ => by
      rcases h2 with ⟨j, hb', he⟩ | ⟨all', v, hg', he, hr⟩
      · rw [bad_one hb hb']; exact ⟨he, h1⟩
      · exact (bad_good hb hg').elim
  obtain ⟨w1, hw1, hB1, hc1, hv1⟩ := land_start w (.slice al l.length cl)
  have HB1 : Hid (Below w.heap.size w w1) := hB1
  have HV1 : Hid (VecAt 100 3 (w.heap.size + 1) w1 (fun _ => .slice none 0 0)) := hv1
  clear hE hl hl0 hll hle hb hB1 hv1
  go_enter Tryz.func54, Tryz.ntmps54
  go_wp2_with fail
  refine (HF.out _ HB1.out).mono ?_
  rintro e V ⟨rfl, hV⟩
  have HV2 : Hid (VecAt 100 3 (w.heap.size + 1) V (fun _ => .slice none 0 0)) := HV1.out.below hV
  have HB2 : Hid (Below w.heap.size w V) := HB1.out.trans (hV.mono HB1.out.size)
  obtain ⟨e0, d0⟩ := HV2.out.cell (k := 0) (by omega)
  obtain ⟨e1, d1⟩ := HV2.out.cell (k := 1) (by omega)
  obtain ⟨e2, d2⟩ := HV2.out.cell (k := 2) (by omega)
  clear hV hc1 HB1 HV1 HF
  go_wp2_with fail
  obtain ⟨W9, hW9, hv9, hb9⟩ := land_put HV2.out (.slice none 0 0) (.slice none 0 0) (.slice none 0 0)
  rw [hW9]
  have hl2 := land_load hv9
  refine bodyPost_ret (v := .tuple #[.agg #[.slice none 0 0, .slice none 0 0, .slice none 0 0], .iface 233 (.pointer (some (a i)))]) ?_ rfl ⟨⟨_, _, _, _, _, _, _, _, _, rfl⟩, hb9 w HB2.out (by omega)⟩
  rw [results_cell_tmp rfl]
  simp [asAddr, Result.andThen, hl2]

end Go.Proofs.YtmndhclmhjmbpaaGreatDoor

namespace Go.Proofs.YtmndhclmhjmbpaaGreatDoor
open Go.RowKit Go.Sort Go.Lib

set_option maxRecDepth 100000 in
theorem ix_early (al ah : Option Addr) (n cl m ch : Nat) (w : World)
    (hwh : Calls Tryz.prog 5 #[] w fun e w' => e = .returned (.bool true) ∧ Below w.heap.size w w')
    (hli : ∀ V, Below w.heap.size w V → Calls Tryz.prog 6 #[.slice al n cl, .int .i64 80] V fun e w' => ∃ q : Bool, e = .returned (.bool q) ∧ (q = true → 200 < (m : Int)) ∧ Below V.heap.size V w') :
    Calls Tryz.prog 3 #[.slice al n cl, .slice ah m ch] w fun e w' => e = .returned (.bool true) ∧ Below w.heap.size w w' := by
  go_enter Tryz.func3, Tryz.ntmps3
  go_wp2_with fail
  refine hwh.mono ?_
  rintro e w1 ⟨rfl, hB1⟩
  have hl1 := hli w1 hB1
  have HB1 : Hid (Below w.heap.size w w1) := hB1
  clear hwh hli hB1
  go_wp2_with fail
  refine hl1.mono ?_
  clear hl1
  rintro e w2 ⟨q, rfl, hq, hB2⟩
  have HB2 : Hid (Below w.heap.size w w2) := HB1.out.trans (hB2.mono HB1.out.size)
  clear hB2 HB1
  cases q with
  | false =>
    clear hq
    go_wp2_with fail
    go_ret
    exact ⟨rfl, HB2.out⟩
  | true =>
    have hm := hq rfl
    clear hq
    go_wp2_with fail
    go_ret
    exact ⟨rfl, HB2.out⟩

set_option maxRecDepth 100000 in
set_option maxHeartbeats 4000000 in
theorem ix_bad {l : List (List Int)} {h : List Int} (al ah : Option Addr) (n cl m ch : Nat) (w : World) (hm : (m : Int) ≤ 200) {c : Int} (hc : 0 < c) {ve : Value}
    (hwh : Calls Tryz.prog 5 #[] w fun e w' => e = .returned (.bool true) ∧ Below w.heap.size w w')
    (hli : ∀ V, Below w.heap.size w V → Calls Tryz.prog 6 #[.slice al n cl, .int .i64 80] V fun e w' => (∃ q : Bool, e = .returned (.bool q)) ∧ Below V.heap.size V w')
    (hhi : ∀ V, Below w.heap.size w V → Calls Tryz.prog 7 #[.slice al n cl, .slice ah m ch] V fun e w' => (∃ u, e = .returned (.tuple #[.int .i64 c, u])) ∧ Below V.heap.size V w')
    (hcx : ∀ V, Below w.heap.size w V → Calls Tryz.prog 9 #[.slice al n cl] V fun e w' => (∃ v, e = .returned (.agg #[v]) ∧ Rows w' v l) ∧ Below V.heap.size V w')
    (hin : ∀ V, Below w.heap.size w V → Calls Tryz.prog 10 #[.slice ah m ch] V fun e w' => (∃ u, e = .returned u ∧ Ints w' u h) ∧ Below V.heap.size V w')
    (hix : ∀ V v u, Below w.heap.size w V → Rows V v l → Ints V u h → Calls Tryz.prog 8 #[.agg #[v], u] V fun e w' => e = .returned (.tuple #[.slice none 0 0, ve]) ∧ Below V.heap.size V w')
    (hco : ∀ V, Below w.heap.size w V → Calls Tryz.prog 11 #[ve, .int .i64 c] V fun e w' => e = .returned (.bool true) ∧ Below V.heap.size V w') :
    Calls Tryz.prog 3 #[.slice al n cl, .slice ah m ch] w fun e w' => e = .returned (.bool true) ∧ Below w.heap.size w w' := by
  go_enter Tryz.func3, Tryz.ntmps3
  go_wp2_with fail
  refine hwh.mono ?_
  rintro e w1 ⟨rfl, hB1⟩
  have hl1 := hli w1 hB1
  have HB1 : Hid (Below w.heap.size w w1) := hB1
  clear hwh hli hB1
  go_wp2_with fail
  refine hl1.mono ?_
  clear hl1
  rintro e w2 ⟨⟨q, rfl⟩, hB2⟩
  have HB2 : Hid (Below w.heap.size w w2) := HB1.out.trans (hB2.mono HB1.out.size)
  clear hB2 HB1
  cases q with
  | false =>
    go_wp2_with fail
    go_ret
    exact ⟨rfl, HB2.out⟩
  | true =>
    have hh := hhi w2 HB2.out
    clear hhi
    go_wp2_with fail
    refine hh.mono ?_
    clear hh
    rintro e w3 ⟨⟨u0, rfl⟩, hB3⟩
    have HC : Hid (Below w.heap.size w w3) := HB2.out.trans (hB3.mono HB2.out.size)
    have h1 := hcx w3 HC.out
    clear hB3 HB2 hcx
    go_wp2_with fail
    refine h1.mono ?_
    clear h1
    rintro e w4 ⟨⟨v, rfl, hr⟩, hV⟩
    have HC4 : Hid (Below w.heap.size w w4) := HC.out.trans (hV.mono HC.out.size)
    have HR : Hid (Rows w4 v l) := hr
    have h1 := hin w4 HC4.out
    clear hV hr hin HC
    go_wp2_with fail
    refine h1.mono ?_
    clear h1
    rintro e w5 ⟨⟨u, rfl, hu⟩, hV⟩
    have HC5 : Hid (Below w.heap.size w w5) := HC4.out.trans (hV.mono HC4.out.size)
    have h1 := hix w5 v u HC5.out (HR.out.below hV) hu
    clear hV hu hix HC4 HR
    go_wp2_with fail
    refine h1.mono ?_
    clear h1
    rintro e w6 ⟨rfl, hV⟩
    have HC6 : Hid (Below w.heap.size w w6) := HC5.out.trans (hV.mono HC5.out.size)
    have h1 := hco w6 HC6.out
    clear hV hco HC5
    go_wp2_with fail
    refine h1.mono ?_
    clear h1
    rintro e w7 ⟨rfl, hV⟩
    have HC7 : Hid (Below w.heap.size w w7) := HC6.out.trans (hV.mono HC6.out.size)
    clear hV HC6
    go_wp2_with fail
    go_ret
    exact ⟨rfl, HC7.out⟩

theorem sum_take (R : List Int) {k : Nat} (hk : k < R.length) : (R.take (k + 1)).sum = (R.take k).sum + R[k]?.getD 0 := by
  rw [List.take_add_one, List.getElem?_eq_getElem hk, Option.getD_some]
  simp only [Option.toList, List.sum_append, List.sum_cons, List.sum_nil, Int.add_zero]

set_option maxRecDepth 100000 in
set_option maxHeartbeats 4000000 in
theorem ix_good {l all : List (List Int)} {h R : List Int} (al ah : Option Addr) (n cl m ch : Nat) (w : World) (hm : (m : Int) ≤ 200)
    (hwh : Calls Tryz.prog 5 #[] w fun e w' => e = .returned (.bool true) ∧ Below w.heap.size w w')
    (hli : ∀ V, Below w.heap.size w V → Calls Tryz.prog 6 #[.slice al n cl, .int .i64 80] V fun e w' => (∃ q : Bool, e = .returned (.bool q)) ∧ Below V.heap.size V w')
    (hhi : ∀ V, Below w.heap.size w V → Calls Tryz.prog 7 #[.slice al n cl, .slice ah m ch] V fun e w' => (∃ u, e = .returned (.tuple #[.int .i64 0, u]) ∧ Rows w' u all) ∧ Below V.heap.size V w')
    (hcx : ∀ V, Below w.heap.size w V → Calls Tryz.prog 9 #[.slice al n cl] V fun e w' => (∃ v, e = .returned (.agg #[v]) ∧ Rows w' v l) ∧ Below V.heap.size V w')
    (hin : ∀ V, Below w.heap.size w V → Calls Tryz.prog 10 #[.slice ah m ch] V fun e w' => (∃ u, e = .returned u ∧ Ints w' u h) ∧ Below V.heap.size V w')
    (hix : ∀ V v u, Below w.heap.size w V → Rows V v l → Ints V u h → Calls Tryz.prog 8 #[.agg #[v], u] V fun e w' => (∃ x, e = .returned (.tuple #[x, .nilIface]) ∧ Ints w' x R) ∧ Below V.heap.size V w')
    (hio : ∀ V u, Below w.heap.size w V → Rows V u all → Calls Tryz.prog 13 #[u, .slice ah m ch] V fun e w' => (∃ x, e = .returned x ∧ Ints w' x R) ∧ Below V.heap.size V w')
    (hsi : ∀ V x y, Ints V x R → Ints V y R → Calls Tryz.prog 12 #[x, y] V fun e w' => e = .returned (.bool true) ∧ Below V.heap.size V w')
    (hRl : R.length ≤ 100) (hRs : ∀ k, -100000 ≤ (R.take k).sum ∧ (R.take k).sum ≤ 100000)
    (heu : ∀ V v, Below w.heap.size w V → Rows V v l → Calls Tryz.prog 14 #[.agg #[v]] V fun e w' => e = .returned (.tuple #[.int .i64 R.sum, .nilIface]) ∧ Below V.heap.size V w') :
    Calls Tryz.prog 3 #[.slice al n cl, .slice ah m ch] w fun e w' => e = .returned (.bool true) ∧ Below w.heap.size w w' := by
  have HRS := Hid.mk' hRs
  clear hRs
  go_enter Tryz.func3, Tryz.ntmps3
  go_wp2_with fail
  refine hwh.mono ?_
  rintro e w1 ⟨rfl, hB1⟩
  have hl1 := hli w1 hB1
  have HB1 : Hid (Below w.heap.size w w1) := hB1
  clear hwh hli hB1
  go_wp2_with fail
  refine hl1.mono ?_
  clear hl1
  rintro e w2 ⟨⟨q, rfl⟩, hB2⟩
  have HB2 : Hid (Below w.heap.size w w2) := HB1.out.trans (hB2.mono HB1.out.size)
  clear hB2 HB1
  cases q with
  | false =>
    go_wp2_with fail
    go_ret
    exact ⟨rfl, HB2.out⟩
  | true =>
    have hh := hhi w2 HB2.out
    clear hhi
    go_wp2_with fail
    refine hh.mono ?_
    clear hh
    rintro e w3 ⟨⟨u0, rfl, hu0⟩, hB3⟩
    have HC : Hid (Below w.heap.size w w3) := HB2.out.trans (hB3.mono HB2.out.size)
    have HU : Hid (Rows w3 u0 all) := hu0
    have h1 := hcx w3 HC.out
    have HCX := Hid.mk' hcx
    clear hB3 HB2 hcx hu0
    go_wp2_with fail
    refine h1.mono ?_
    clear h1
    rintro e w4 ⟨⟨v, rfl, hr⟩, hV⟩
    have HC4 : Hid (Below w.heap.size w w4) := HC.out.trans (hV.mono HC.out.size)
    have HR : Hid (Rows w4 v l) := hr
    have HU4 : Hid (Rows w4 u0 all) := HU.out.below hV
    have h1 := hin w4 HC4.out
    clear hV hr hin HC HU
    go_wp2_with fail
    refine h1.mono ?_
    clear h1
    rintro e w5 ⟨⟨u, rfl, hu⟩, hV⟩
    have HC5 : Hid (Below w.heap.size w w5) := HC4.out.trans (hV.mono HC4.out.size)
    have HU5 : Hid (Rows w5 u0 all) := HU4.out.below hV
    have h1 := hix w5 v u HC5.out (HR.out.below hV) hu
    clear hV hu hix HC4 HR HU4
    go_wp2_with fail
    refine h1.mono ?_
    clear h1
    rintro e w6 ⟨⟨x, rfl, hx⟩, hV⟩
    have HC6 : Hid (Below w.heap.size w w6) := HC5.out.trans (hV.mono HC5.out.size)
    have HX6 : Hid (Ints w6 x R) := hx
    have h1 := hio w6 u0 HC6.out (HU5.out.below hV)
    clear hV hio HC5 HU5 hx
    go_wp2_with fail
    refine h1.mono ?_
    clear h1
    rintro e w7 ⟨⟨y, rfl, hy⟩, hV⟩
    have HC7 : Hid (Below w.heap.size w w7) := HC6.out.trans (hV.mono HC6.out.size)
    have HX7 : Hid (Ints w7 x R) := HX6.out.below hV
    have h1 := hsi w7 x y HX7.out hy
    clear hV hsi HC6 HX6 hy
    go_wp2_with fail
    refine h1.mono ?_
    clear h1
    rintro e w8 ⟨rfl, hV⟩
    have HC8 : Hid (Below w.heap.size w w8) := HC7.out.trans (hV.mono HC7.out.size)
    have hx8 := HX7.out.below hV
    obtain ⟨ax, cx, rfl, -, hxc⟩ := hx8.open_
    obtain ⟨r, hrl⟩ : ∃ r, R.length = r := ⟨_, rfl⟩
    have HRL : Hid (R.length = r) := hrl
    rw [hrl] at hxc hRl ⊢
    have HXC := Hid.mk' hxc
    obtain ⟨s, hs⟩ : ∃ s, R.sum = s := ⟨_, rfl⟩
    have HSS : Hid (R.sum = s) := hs
    rw [hs] at heu
    have HEU := Hid.mk' heu
    clear hV HC7 HX7 hx8 hxc hrl hs heu
    go_wp2_with fail
    go_loopw [12, 13] (fun v p W => ∃ k : Nat, k ≤ r ∧ p = .int .i64 k ∧ v = .int .i64 ((R.take k).sum) ∧ Hid (Below w.heap.size w W) ∧ Hid (Below w8.heap.size w8 W)) (fun _ p _ => r - (intOf p).toNat)
    case atStart => exact ⟨0, by omega, rfl, by simp, HC8, Below.refl _ _⟩
    case round =>
      obtain ⟨k, hk, rfl, rfl, HC9, H89⟩ := hrel
      by_cases hlt : k < r
      · obtain ⟨b, o, rfl, -, hb, hcell⟩ := HXC.out (by omega)
        have g1 := (H89.out.cell (p := ⟨b, o + k, none⟩) hb).trans (hcell k hlt)
        have hst := sum_take R (k := k) (by rw [HRL.out]; exact hlt)
        have hb1 := HRS.out k
        have hb2 := HRS.out (k + 1)
        obtain ⟨y, hy⟩ : ∃ y, R[k]?.getD 0 = y := ⟨_, rfl⟩
        rw [hy] at g1 hst
        rw [hst] at hb2
        obtain ⟨z, hz⟩ : ∃ z, (R.take k).sum = z := ⟨_, rfl⟩
        rw [hz] at hst hb1 hb2 ⊢
        have HST := Hid.mk' hst
        have p1 := hb1.1
        have p2 := hb1.2
        have p3 := hb2.1
        have p4 := hb2.2
        clear hcell hst hy hz hb1 hb2
        go_wp2_with fail
        go_roundw
        case rel => exact ⟨k + 1, by omega, by go_num, by rw [HST.out], HC9, H89⟩
        case measure => simp [intOf]; omega
      · obtain rfl : k = r := by omega
        have hsm : (R.take k).sum = s := by rw [← HRL.out, List.take_length]; exact HSS.out
        rw [hsm]
        have h1 := HCX.out wr HC9.out
        clear hsm HCX
        go_wp2_with fail
        refine h1.mono ?_
        clear h1
        rintro e V1 ⟨⟨v2, rfl, hr2⟩, hV⟩
        have HD1 : Hid (Below w.heap.size w V1) := HC9.out.trans (hV.mono HC9.out.size)
        have h1 := HEU.out V1 v2 HD1.out hr2
        clear hV hr2 HEU
        go_wp2_with fail
        refine h1.mono ?_
        clear h1
        rintro e V2 ⟨rfl, hV⟩
        have HD2 : Hid (Below w.heap.size w V2) := HD1.out.trans (hV.mono HD1.out.size)
        clear hV HD1
        go_wp2_with fail
        go_ret
        exact ⟨rfl, HD2.out⟩

end Go.Proofs.YtmndhclmhjmbpaaGreatDoor
