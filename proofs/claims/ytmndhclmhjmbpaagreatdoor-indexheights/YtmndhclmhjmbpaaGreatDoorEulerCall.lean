/- Once around 0: what Winding answers of the way 1, i, -1, -i; so wheel is true. What sign answers. What Euler answers of a complex. -/
import Derived.Test.YtmndhclmhjmbpaaGreatDoorIdxLine
import Derived.Test.YtmndhclmhjmbpaaGreatDoorMath0
import Derived.Test.YtmndhclmhjmbpaaGreatDoorCode
import Derived.Test.YtmndhclmhjmbpaaGreatDoorMathV
import Derived.WalkKit
import Derived.Test.YtmndhclmhjmbpaaGreatDoorPartsMath
import Derived.Test.YtmndhclmhjmbpaaGreatDoorVector
namespace Go.Proofs.YtmndhclmhjmbpaaGreatDoor
open Go.RowKit

@[local go_sem] theorem store_complex (P : Program) (w : World) (a : Addr) (m : Mode) (k : FloatKind) (x y : Nat) : (store a (.complex k x y) m).run P w = stored P w a (.complex k x y) m := run_store P w a _ m rfl

theorem two_cells (w : World) (x y : Value) (t : TypeId) : (w.alloc (.cells #[x, y] t)).cell? ⟨w.heap.size, 0, none⟩ = some x ∧ (w.alloc (.cells #[x, y] t)).cell? ⟨w.heap.size, 1, none⟩ = some y := by
  constructor <;> simp
/-- The four points in a block. -/
def WayAt (b : Nat) (w : World) : Prop := ∀ k, k < 4 → w.cell? ⟨b, k, none⟩ = some (ptV k)
theorem WayAt.below {b : Nat} {w w' : World} (h : WayAt b w) (hB : Below w.heap.size w w') : WayAt b w' := fun k hk => (hB.cell (p := ⟨b, k, none⟩) (cell_lt (h k hk))).trans (h k hk)
theorem pt_small {k : Nat} (hk : k < 4) : SmallF (ptR k) ∧ SmallF (ptI k) := by
  rcases (show k = 0 ∨ k = 1 ∨ k = 2 ∨ k = 3 by omega) with rfl | rfl | rfl | rfl <;> exact ⟨by unfold SmallF; decide, by unfold SmallF; decide⟩

set_option maxRecDepth 100000 in
theorem is_whole (b : Nat) (w : World) (h : WayAt b w) :
    Calls Tryz.prog 51 #[.slice (some ⟨b, 0, none⟩) 4 4] w fun e w' => e = .returned (.bool true) ∧ w' = w := by
  go_enter Tryz.func51, Tryz.ntmps51
  go_wp2
  go_loopw [7] (fun p W => ∃ k : Nat, k ≤ 4 ∧ p = .int .i64 k ∧ W = w) (fun p _ => 4 - (intOf p).toNat)
  case atStart => exact ⟨0, by omega, rfl, rfl⟩
  case round =>
    obtain ⟨k, hk, rfl, rfl⟩ := hrel
    by_cases hlt : k < 4
    · have g1 := h k hlt
      have hx := whole_part _ (pt_small hlt).1 wr
      have hy := whole_part _ (pt_small hlt).2 wr
      simp only [ptV] at g1
      obtain ⟨x, hxe⟩ : ∃ x, ptR k = x := ⟨_, rfl⟩
      obtain ⟨y, hye⟩ : ∃ y, ptI k = y := ⟨_, rfl⟩
      rw [hxe, hye] at g1
      rw [hxe] at hx
      rw [hye] at hy
      clear hxe hye
      go_wp2_with fail
      refine hx.mono ?_
      rintro e V ⟨rfl, rfl⟩
      go_wp2_with fail
      refine hy.mono ?_
      rintro e V ⟨rfl, rfl⟩
      go_wp2_with fail
      go_roundw
      case rel => exact ⟨k + 1, by omega, by go_num, by first | trivial | rfl⟩
      case measure => simp [intOf]; omega
    · obtain rfl : k = 4 := by omega
      go_wp2
      go_ret
      exact ⟨rfl, rfl⟩

set_option maxRecDepth 100000 in
theorem winding_ (b : Nat) (w : World) (h : WayAt b w) :
    Calls Tryz.prog 25 #[.slice (some ⟨b, 0, none⟩) 4 4] w fun e w' => e = .returned (.tuple #[.int .i64 1, .nilIface]) ∧ Below w.heap.size w w' := by
  have hw := is_whole b w h
  go_enter Tryz.func25, Tryz.ntmps25
  go_wp2_with fail
  refine hw.mono ?_
  rintro e V ⟨rfl, rfl⟩
  clear hw
  go_wp2_with fail
  go_loopw [4, 23] (fun q p W => ∃ k : Nat, k ≤ 4 ∧ p = .int .i64 k ∧ q = .int .i64 (if k = 4 then 1 else 0) ∧ Below V.heap.size V W) (fun _ p _ => 4 - (intOf p).toNat)
  case atStart => exact ⟨0, by omega, rfl, rfl, Below.refl _ _⟩
  case round =>
    obtain ⟨k, hk, rfl, rfl, hB⟩ := hrel
    have HW := h.below hB
    have HB : Hid (Below V.heap.size V wr) := hB
    clear hB
    by_cases hlt : k < 4
    · have g1 := HW k hlt
      have g2 := HW (nextN k) (by unfold nextN; split <;> omega)
      have HZ : Hid (∀ W, Calls Tryz.prog 52 #[.agg #[ptV k, ptV (nextN k)]] W fun e w' => e = .returned (.bool false) ∧ Below W.heap.size W w') := has_zero_ k hlt
      have HC : Hid (∀ W, Calls Tryz.prog 53 #[.agg #[ptV k, ptV (nextN k)]] W fun e w' => e = .returned (.int .i64 (crossN k)) ∧ Below W.heap.size W w') := crossing_ k hlt
      have hl : Below wr.heap.size wr (wr.alloc (.cells #[ptV k, ptV (nextN k)] 92)) := (Below.refl _ wr).alloc (Nat.le_refl _) _
      have HL : Hid (Below V.heap.size V (wr.alloc (.cells #[ptV k, ptV (nextN k)] 92))) := HB.out.trans (hl.mono HB.out.size)
      have f0 := (two_cells wr (ptV k) (ptV (nextN k)) 92).1
      have f1 := (two_cells wr (ptV k) (ptV (nextN k)) 92).2
      clear hl HB HW h
      rcases (show k = 0 ∨ k = 1 ∨ k = 2 ∨ k = 3 by omega) with rfl | rfl | rfl | rfl
      all_goals
        simp only [nextN, ptV, ptR, ptI, crossN, Nat.zero_add, Nat.reduceAdd, Nat.reduceEqDiff, if_true, if_false, reduceCtorEq] at g1 g2 HZ HC HL f0 f1
        clear hk hlt
        go_wp2_with (first
          | (go_at_call 52; refine (HZ.out _).mono ?_; rintro e W ⟨rfl, hV⟩; have HL2 : Hid (Below V.heap.size V W) := HL.out.trans (hV.mono HL.out.size); have d0 := (hV.cell (p := ⟨wr.heap.size, 0, none⟩) (by simp)).trans f0; have d1 := (hV.cell (p := ⟨wr.heap.size, 1, none⟩) (by simp)).trans f1; clear hV f0 f1)
          | (go_at_call 53; refine (HC.out _).mono ?_; rintro e W2 ⟨rfl, hV⟩; have HL3 : Hid (Below V.heap.size V W2) := HL2.out.trans (hV.mono HL2.out.size); clear hV)
          | fail)
        go_roundw
        case rel => first | exact ⟨1, by omega, rfl, rfl, HL3.out⟩ | exact ⟨2, by omega, rfl, rfl, HL3.out⟩ | exact ⟨3, by omega, rfl, rfl, HL3.out⟩ | exact ⟨4, by omega, rfl, rfl, HL3.out⟩
        case measure => simp [intOf]
    · obtain rfl : k = 4 := by omega
      go_wp2
      go_ret2
      exact ⟨rfl, HB.out⟩

set_option maxRecDepth 100000 in
theorem wheel_ (w : World) :
    Calls Tryz.prog 5 #[] w fun e w' => e = .returned (.bool true) ∧ Below w.heap.size w w' := by
  have hway : WayAt w.heap.size (w.alloc (.cells #[.complex .f64 4607182418800017408 0, .complex .f64 0 4607182418800017408, .complex .f64 13830554455654793216 0, .complex .f64 0 13830554455654793216] 58)) := fun k hk => by
    rcases (show k = 0 ∨ k = 1 ∨ k = 2 ∨ k = 3 by omega) with rfl | rfl | rfl | rfl <;> simp [ptV, ptR, ptI]
  have hw := winding_ _ _ hway
  have HB : Hid (Below w.heap.size w (w.alloc (.cells #[.complex .f64 4607182418800017408 0, .complex .f64 0 4607182418800017408, .complex .f64 13830554455654793216 0, .complex .f64 0 13830554455654793216] 58))) := (Below.refl _ w).alloc (Nat.le_refl _) _
  clear hway
  go_enter Tryz.func5, Tryz.ntmps5
  go_wp2_with fail
  refine hw.mono ?_
  clear hw
  rintro e V ⟨rfl, hV⟩
  have HV : Hid (Below w.heap.size w V) := HB.out.trans (hV.mono HB.out.size)
  clear hV HB
  go_wp2_with fail
  go_ret
  exact ⟨rfl, HV.out⟩

end Go.Proofs.YtmndhclmhjmbpaaGreatDoor

namespace Go.Proofs.YtmndhclmhjmbpaaGreatDoor
open Go.RowKit

theorem sign_ (d : Nat) (w : World) (hd : d ≤ 1000) : Calls Tryz.prog 38 #[.int .i64 d] w fun e w' => e = .returned (.int .i64 (sg d)) ∧ w' = w := by
  have hs : sg d = 1 - 2 * ((d : Int) % 2) := by unfold sg; omega
  rw [hs]
  go_enter Tryz.func38, Tryz.ntmps38
  go_wp2
  go_ret
  exact ⟨by rfl, by rfl⟩

end Go.Proofs.YtmndhclmhjmbpaaGreatDoor

namespace Go.Proofs.YtmndhclmhjmbpaaGreatDoor
open Go.RowKit Go.Sort Go.Maps Go.Deep

/-- What Euler answers. -/
def EulerG (a : Nat → Addr) (l : List (List Int)) (w : World) (e : Ending) (w' : World) : Prop :=
  Below w.heap.size w w' ∧ ((∃ i, BadAt l i ∧ e = .returned (.tuple #[.int .i64 0, .iface 233 (.pointer (some (a i)))])) ∨
    ∃ all, Good l all ∧ e = .returned (.tuple #[.int .i64 (eulerOf all), .nilIface]))

theorem vec_entry {α : Type} (l : List (List α)) : ∀ x ∈ vecOf l, 0 ≤ x ∧ x ≤ l.length := fun x hx => by
  unfold vecOf at hx
  obtain ⟨d, _, rfl⟩ := List.mem_map.1 hx
  have := cnt_le l d
  omega

set_option maxRecDepth 100000 in
set_option maxHeartbeats 1000000 in
theorem euler_call {a : Nat → Addr} {s : Nat → ByteArray} (vl : Value) (l : List (List Int)) (w : World) (hE : Errs a s w) (hl : Rows w vl l) (hll : l.length ≤ 100000) (hle : ∀ x ∈ l, x.length ≤ 1000) :
    Calls Tryz.prog 14 #[.agg #[vl]] w fun e w' => EulerG a l w e w' := by
  obtain ⟨al, cl, rfl, -, -⟩ := hl.open_
  have hBa : Below w.heap.size w (w.alloc (.cells #[.slice al l.length cl] 33)) := (Below.refl _ w).alloc (Nat.le_refl _) _
  have hop := open_g _ l (w.alloc (.cells #[.slice al l.length cl] 33)) (hE.below hBa) (hl.below hBa) hll hle
  have hbc := (box_new w (.slice al l.length cl) 33).1
  clear hl
  go_enter Tryz.func14, Tryz.ntmps14
  go_wp2_with fail
  refine hop.mono ?_
  clear hop
  rintro e w2 ⟨hB2, ⟨i, hbad, rfl⟩ | ⟨all, b, F, G, hg, ht, rfl, hP, -⟩⟩
  · have HBD : Hid (BadAt l i) := hbad
    clear hbad
    go_wp2
    go_ret2
    exact ⟨below_out (below_after hB2 (Below.refl _ w2)), .inl ⟨i, HBD.out, rfl⟩⟩
  · have hve := vector_ b F G w2 hP (by have := ht.few; omega) ht.nodup (fun x hx => by have := ht.short x hx; omega) ht.some_
    have HG : Hid (Good l all ∧ Told F all) := ⟨hg, ht⟩
    have htop : topN F ≤ 7 := topN_upto ht.short
    have hfew := ht.few
    clear hg ht hP
    go_wp2_with fail
    refine hve.mono ?_
    clear hve
    rintro e w3 ⟨v3, rfl, h1, h4⟩
    obtain ⟨av, cv, rfl, -, hcv⟩ := h1.open_
    obtain ⟨V, hV⟩ : ∃ V, vecOf F = V := ⟨_, rfl⟩
    have hVl : V.length ≤ 7 := by rw [← hV, vecOf_length]; exact htop
    have HVE : Hid (∀ x ∈ V, 0 ≤ x ∧ x ≤ 600) := fun x hx => by rw [← hV] at hx; have := vec_entry F x hx; omega
    have HVA : Hid (altTo V V.length = eulerOf all) := by
      show altTo V V.length = eulerOf all
      rw [← hV]; exact HG.out.2.euler
    rw [hV] at hcv
    rw [hV]
    have HB3 : Hid (Below w.heap.size w w3) := below_out (below_after hB2 h4)
    clear h1 h4 htop hV
    go_wp2
    go_loopw [6, 20] (fun v p W => ∃ (k : Nat) (t : Int), k ≤ V.length ∧ p = .int .i64 k ∧ v = .int .i64 t ∧ t = altTo V k ∧ W = w3) (fun _ p _ => V.length - (intOf p).toNat)
    case atStart => exact ⟨0, 0, by omega, rfl, rfl, rfl, rfl⟩
    case round =>
      obtain ⟨k, t, hk, rfl, rfl, ht, rfl⟩ := hrel
      have hts : -4200 ≤ t ∧ t ≤ 4200 := by
        have := alt_small V 600 HVE.out k hk
        rw [← ht] at this
        have hk7 : k * 600 ≤ 4200 := by omega
        omega
      obtain ⟨ht1, ht2⟩ := hts
      have HTK : Hid (t = altTo V k) := ht
      clear ht
      by_cases hlt : k < V.length
      · obtain ⟨b2, o2, rfl, -, -, c⟩ := hcv (by omega)
        have g := c k hlt
        have hxb := HVE.out (V[k]?.getD 0) (by rw [List.getElem?_eq_getElem hlt]; simp)
        obtain ⟨x, hxe⟩ : ∃ x, V[k]?.getD 0 = x := ⟨_, rfl⟩
        rw [hxe] at g hxb
        obtain ⟨hx0, hx1⟩ := hxb
        have HS : Hid (altTo V (k + 1) = t + sg k * x) := by
          show altTo V k + sg k * (V[k]?.getD 0) = t + sg k * x
          rw [hxe, HTK.out]
        have hsg := sign_ k wr (by omega)
        have hs : sg k = 1 ∨ sg k = -1 := by unfold sg; omega
        obtain ⟨z, hz⟩ : ∃ z, sg k = z := ⟨_, rfl⟩
        rw [hz] at hsg hs
        have HZ : Hid (sg k = z) := hz
        clear c hcv hxe hz
        rcases hs with rfl | rfl
        · go_wp2_with (go_at_call 38; refine hsg.mono ?_; rintro e w5 ⟨rfl, rfl⟩)
          go_roundw
          case rel => exact ⟨k + 1, t + x, by omega, by go_num, by go_num, by rw [HS.out, HZ.out]; omega, (by first | trivial | rfl)⟩
          case measure => simp [intOf]; omega
        · go_wp2_with (go_at_call 38; refine hsg.mono ?_; rintro e w5 ⟨rfl, rfl⟩)
          go_roundw
          case rel => exact ⟨k + 1, t + -1 * x, by omega, by go_num, by go_num, by rw [HS.out, HZ.out], (by first | trivial | rfl)⟩
          case measure => simp [intOf]; omega
      · obtain rfl : k = V.length := by omega
        clear hcv
        go_wp2
        go_ret2
        have e := HTK.out.trans HVA.out
        exact ⟨HB3.out, .inr ⟨all, HG.out.1, by rw [← e]; rfl⟩⟩

end Go.Proofs.YtmndhclmhjmbpaaGreatDoor
