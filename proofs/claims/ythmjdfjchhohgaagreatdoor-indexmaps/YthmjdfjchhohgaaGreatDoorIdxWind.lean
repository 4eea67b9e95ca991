/- What the law file's ints answers. math.Abs, math.Trunc and isWholePart at 0, 1 and -1. The way once around 0: its four points, what turn, hasZero and crossing answer of its lines. What hasZero and crossing answer of the lines of the way once around 0; whether its parts are whole. Once around 0: what Winding answers of the way 1, i, -1, -i; so wheel is true. -/
import Derived.Test.YthmjdfjchhohgaaGreatDoorIdxRowBox
import Derived.Test.YthmjdfjchhohgaaGreatDoorIdxHas
import Derived.Test.YthmjdfjchhohgaaGreatDoorBase
import Derived.Laws.Externs
import Derived.WalkLawsBesides
import Derived.Laws.ComplexArith
import Derived.Test.YthmjdfjchhohgaaGreatDoorMath0
namespace Go.Proofs.YthmjdfjchhohgaaGreatDoor
open Go.RowKit Go.Sort

set_option maxRecDepth 100000 in
theorem ints5_ (vh : Value) (h : List Int) (w : World) (hh : Ints w vh h) (hl : h.length ≤ 1000) :
    Calls Tryz.prog 10 #[vh] w fun e w' => (∃ v, e = .returned v ∧ Ints w' v h) ∧ Below w.heap.size w w' := by
  obtain ⟨i0, hi0, hz0, hz1, hz2⟩ := info_parts Tryz.info3
  have hh0 := hh
  obtain ⟨ah, ch, rfl, -, -⟩ := hh.open_
  have hs : SliceIn anyBlock w (.slice ah h.length ch) (h.map (Value.int .i64)) := hh0
  have hone : ∀ c ∈ h.map (Value.int .i64), c.oneCell' = true := fun c hc => by
    obtain ⟨x, _, rfl⟩ := List.mem_map.1 hc
    rfl
  have own0 : w.ownsRow w.heap.size 3 1 (.slice none 0 0) 0 [] := World.ownsRow_nil _ _ _ _
  have hml : (h.map (Value.int .i64)).length ≤ 1000 := by rw [List.length_map]; exact hl
  obtain ⟨n, hn⟩ : ∃ n, h.length = n := ⟨_, rfl⟩
  obtain ⟨ns, hns⟩ : ∃ ns, h.map (Value.int .i64) = ns := ⟨_, rfl⟩
  have HNS : Hid (h.map (Value.int .i64) = ns ∧ ns.length = n) := ⟨hns, by rw [← hns, List.length_map, hn]⟩
  rw [hn, hns] at hs
  rw [hns] at hone hml
  rw [hn]
  clear hh hh0 hn hns hl
  go_enter Tryz.func10, Tryz.ntmps10
  go_wp2_with (first
    | (at_builtin; refine wpList_append_slice rfl (.tmp 4) (.tmp 5) 23 rfl _ 3 i0 (.int .i64 0) 8 Tryz.underlying23 hi0 hz0 hz1 hz2 rfl _ _ _ rfl own0 _ ns rfl hs hone (by simp; omega) (by unfold maxLen; simp; omega) (Nat.le_refl _) ?_; intro v4 w4 hown4 hg4 hl4)
    | fail)
  go_ret
  refine ⟨⟨v4, rfl, ?_⟩, (Below.refl _ w).grown hg4 (Nat.le_refl _) (fun b hb => (own0.lt b hb).1)⟩
  have h3 := slice_of_owns (S := anyBlock) hown4 (fun _ _ _ => trivial)
  rw [List.nil_append, ← HNS.out.1] at h3
  exact h3


end Go.Proofs.YthmjdfjchhohgaaGreatDoor

namespace Go.Proofs.YthmjdfjchhohgaaGreatDoor
open Go.RowKit

/-- 0, 1 or -1, in a float's bits. -/
def SmallF (x : Nat) : Prop := x = 0 ∨ x = 4607182418800017408 ∨ x = 13830554455654793216
def absF (x : Nat) : Nat := if x = 13830554455654793216 then 4607182418800017408 else x

set_option maxRecDepth 100000 in
theorem abs_ (x : Nat) (hx : SmallF x) (w : World) :
    Calls Tryz.prog 105 #[.float .f64 x] w fun e w' => e = .returned (.float .f64 (absF x)) ∧ w' = w := by
  have h1 := @run_callFunc_extern Tryz.prog 122 _ Extern.MathFloatBits.float64bits Tryz.func122 (by kernel_rfl) (by kernel_rfl) (by kernel_rfl) (by kernel_rfl)
  have h2 := @run_callFunc_extern Tryz.prog 121 _ Extern.MathFloatBits.float64frombits Tryz.func121 (by kernel_rfl) (by kernel_rfl) (by kernel_rfl) (by kernel_rfl)
  have g1 : ∀ (y : Nat) (W : World), (Extern.MathFloatBits.float64bits #[.float .f64 y]).run Tryz.prog W = .ok (.int .u64 (y : Int)) W := fun _ _ => rfl
  have g2 : ∀ (y : Int) (W : World), (Extern.MathFloatBits.float64frombits #[.int .u64 y]).run Tryz.prog W = .ok (.float .f64 y.toNat) W := fun _ _ => rfl
  have b0 : bits .andNot .u64 (0 : Int) (9223372036854775808 : Int) = 0 := by decide +kernel
  have b1 : bits .andNot .u64 (4607182418800017408 : Int) (9223372036854775808 : Int) = 4607182418800017408 := by decide +kernel
  have b2 : bits .andNot .u64 (13830554455654793216 : Int) (9223372036854775808 : Int) = 4607182418800017408 := by decide +kernel
  rcases hx with rfl | rfl | rfl
  all_goals
    go_enter Tryz.func105, Tryz.ntmps105
    go_wp2
    go_ret
    exact ⟨rfl, rfl⟩

set_option maxRecDepth 100000 in
theorem trunc_ (x : Nat) (hx : SmallF x) (w : World) :
    Calls Tryz.prog 106 #[.float .f64 x] w fun e w' => e = .returned (.float .f64 x) ∧ w' = w := by
  have h1 := @run_callFunc_extern Tryz.prog 123 _ (Extern.MathFloor.toIntegral "math.archTrunc" .zero) Tryz.func123 (by kernel_rfl) (by kernel_rfl) (by kernel_rfl) (by kernel_rfl)
  have g1 : ∀ (W : World), (Extern.MathFloor.toIntegral "math.archTrunc" .zero #[.float .f64 x]).run Tryz.prog W = .ok (.float .f64 x) W := by
    rcases hx with rfl | rfl | rfl <;> intro W <;> rfl
  go_enter Tryz.func106, Tryz.ntmps106
  go_wp2
  go_ret
  exact ⟨rfl, rfl⟩

set_option maxRecDepth 100000 in
theorem whole_part (x : Nat) (hx : SmallF x) (w : World) :
    Calls Tryz.prog 78 #[.float .f64 x] w fun e w' => e = .returned (.bool true) ∧ w' = w := by
  have h1 := abs_ x hx w
  have h2 := trunc_ x hx w
  have k1 : FloatKind.f64.format.order (absF x) 4697254411347427328 = some .lt := by rcases hx with rfl | rfl | rfl <;> decide +kernel
  have k2 : FloatKind.f64.format.order x x = some .eq := by rcases hx with rfl | rfl | rfl <;> decide +kernel
  clear hx
  go_enter Tryz.func78, Tryz.ntmps78
  go_wp2_with fail
  refine h1.mono ?_
  rintro e V ⟨rfl, rfl⟩
  go_wp2_with fail
  refine h2.mono ?_
  rintro e V ⟨rfl, rfl⟩
  go_wp2_with fail
  go_ret
  exact ⟨rfl, rfl⟩

end Go.Proofs.YthmjdfjchhohgaaGreatDoor

namespace Go.Proofs.YthmjdfjchhohgaaGreatDoor
open Go.RowKit

/-- The points 1, i, -1, -i. -/
def ptR (k : Nat) : Nat := if k = 0 then 4607182418800017408 else if k = 2 then 13830554455654793216 else 0
def ptI (k : Nat) : Nat := if k = 1 then 4607182418800017408 else if k = 3 then 13830554455654793216 else 0
def ptV (k : Nat) : Value := .complex .f64 (ptR k) (ptI k)
def nextN (k : Nat) : Nat := if k = 3 then 0 else k + 1
/-- What a line's turn is: its real part is a 0. -/
def turnR (k : Nat) : Nat := if k = 2 then 9223372036854775808 else 0

set_option maxRecDepth 100000 in
theorem turn_ (k : Nat) (hk : k < 4) (w : World) :
    Calls Tryz.prog 79 #[.agg #[ptV k, ptV (nextN k)]] w fun e w' => e = .returned (.complex .f64 (turnR k) 4607182418800017408) ∧ Below w.heap.size w w' := by
  have hB : ∀ x y : Value, Below w.heap.size w (w.alloc (.cells #[x, y] 92)) := fun x y => (Below.refl _ w).alloc (Nat.le_refl _) _
  have hneg : Op.negFloat .f64 (ptI k) = (if k = 1 then 13830554455654793216 else if k = 3 then 4607182418800017408 else 9223372036854775808) := by
    rcases (show k = 0 ∨ k = 1 ∨ k = 2 ∨ k = 3 by omega) with rfl | rfl | rfl | rfl <;> decide +kernel
  obtain ⟨m, hm⟩ : ∃ m, (if k = 1 then 13830554455654793216 else if k = 3 then 4607182418800017408 else 9223372036854775808 : Nat) = m := ⟨_, rfl⟩
  rw [hm] at hneg
  have hmul : cMulBits (ptR k) m (ptR (nextN k)) (ptI (nextN k)) = some (turnR k, 4607182418800017408) := by
    rw [← hm]
    rcases (show k = 0 ∨ k = 1 ∨ k = 2 ∨ k = 3 by omega) with rfl | rfl | rfl | rfl <;> decide +kernel
  have hop := fun t w => run_complex_mul (P := Tryz.prog) w t _ _ _ _ _ _ hmul
  have hu : ∀ (W : World), (Op.unary .neg (.float .f64 (ptI k))).run Tryz.prog W = .ok (.float .f64 m) W := fun W => by rw [← hneg]; rfl
  simp only [ptV]
  obtain ⟨r, hr⟩ : ∃ r, ptR k = r := ⟨_, rfl⟩
  obtain ⟨i, hi⟩ : ∃ i, ptI k = i := ⟨_, rfl⟩
  obtain ⟨r', hr'⟩ : ∃ r, ptR (nextN k) = r := ⟨_, rfl⟩
  obtain ⟨i', hi'⟩ : ∃ i, ptI (nextN k) = i := ⟨_, rfl⟩
  obtain ⟨q, hq⟩ : ∃ q, turnR k = q := ⟨_, rfl⟩
  rw [hr, hi, hr', hi', hq]
  rw [hr, hr', hi', hq] at hop
  rw [hi] at hu
  have HB : Hid (Below w.heap.size w (w.alloc (.cells #[.complex .f64 r i, .complex .f64 r' i'] 92))) := hB _ _
  clear hneg hm hmul hr hi hr' hi' hq hB
  go_enter Tryz.func79, Tryz.ntmps79
  go_wp2
  go_ret
  exact ⟨rfl, HB.out⟩

end Go.Proofs.YthmjdfjchhohgaaGreatDoor

namespace Go.Proofs.YthmjdfjchhohgaaGreatDoor
open Go.RowKit

/-- How the last line crosses. -/
def crossN (k : Nat) : Int := if k = 3 then 1 else 0

set_option maxRecDepth 100000 in
theorem has_zero_ (k : Nat) (hk : k < 4) (w : World) :
    Calls Tryz.prog 52 #[.agg #[ptV k, ptV (nextN k)]] w fun e w' => e = .returned (.bool false) ∧ Below w.heap.size w w' := by
  have hB : Below w.heap.size w (w.alloc (.cells #[ptV k, ptV (nextN k)] 92)) := (Below.refl _ w).alloc (Nat.le_refl _) _
  have ht := turn_ k hk (w.alloc (.cells #[ptV k, ptV (nextN k)] 92))
  have k1 : FloatKind.f64.format.order 4607182418800017408 0 = some .gt := by decide +kernel
  obtain ⟨p, hp⟩ : ∃ p, ptV k = p := ⟨_, rfl⟩
  obtain ⟨p', hp'⟩ : ∃ p, ptV (nextN k) = p := ⟨_, rfl⟩
  obtain ⟨x, y, rfl⟩ : ∃ x y, p = .complex .f64 x y := ⟨_, _, hp.symm⟩
  obtain ⟨x', y', rfl⟩ : ∃ x y, p' = .complex .f64 x y := ⟨_, _, hp'.symm⟩
  rw [hp, hp'] at ht hB
  rw [hp, hp']
  have HB : Hid (Below w.heap.size w (w.alloc (.cells #[.complex .f64 x y, .complex .f64 x' y'] 92))) := hB
  obtain ⟨q, hq⟩ : ∃ q, turnR k = q := ⟨_, rfl⟩
  rw [hq] at ht
  clear hp hp' hq hB
  go_enter Tryz.func52, Tryz.ntmps52
  go_wp2_with fail
  refine ht.mono ?_
  clear ht
  rintro e V ⟨rfl, hV⟩
  have HV : Hid (Below w.heap.size w V) := HB.out.trans (hV.mono HB.out.size)
  clear hV HB
  go_wp2
  go_ret
  exact ⟨rfl, HV.out⟩

set_option maxRecDepth 100000 in
theorem cross_core (x y x' y' q : Nat) (bA bB : Bool) (w : World) (hA : (FloatKind.f64.format.order y 0 == some .lt) = bA) (hC : (FloatKind.f64.format.order y' 0 == some .lt) = bB)
    (ht : ∀ V, Calls Tryz.prog 79 #[.agg #[.complex .f64 x y, .complex .f64 x' y']] V fun e w' => e = .returned (.complex .f64 q 4607182418800017408) ∧ Below V.heap.size V w') :
    Calls Tryz.prog 53 #[.agg #[.complex .f64 x y, .complex .f64 x' y']] w fun e w' => e = .returned (.int .i64 (if (bA && !bB) = true then 1 else 0)) ∧ Below w.heap.size w w' := by
  have HB : Hid (Below w.heap.size w (w.alloc (.cells #[.complex .f64 x y, .complex .f64 x' y'] 92))) := (Below.refl _ w).alloc (Nat.le_refl _) _
  have k1 : FloatKind.f64.format.order 4607182418800017408 0 = some .gt := by decide +kernel
  cases bA <;> cases bB
  all_goals
    go_enter Tryz.func53, Tryz.ntmps53
    go_wp2_with fail
    go_region
    have HD := HB.out.drew
    go_wp2_with (go_at_call 79; refine (ht _).mono ?_; clear ht; rintro e V ⟨rfl, hV⟩; have HV : Hid (Below w.heap.size w V) := HD.trans (hV.mono HD.size); clear hV)
    go_ret
    exact ⟨rfl, HV.out⟩

theorem crossing_ (k : Nat) (hk : k < 4) (w : World) :
    Calls Tryz.prog 53 #[.agg #[ptV k, ptV (nextN k)]] w fun e w' => e = .returned (.int .i64 (crossN k)) ∧ Below w.heap.size w w' := by
  have h := cross_core _ _ _ _ _ (decide (k = 3)) (decide (k = 2)) w (by rcases (show k = 0 ∨ k = 1 ∨ k = 2 ∨ k = 3 by omega) with rfl | rfl | rfl | rfl <;> decide +kernel) (by rcases (show k = 0 ∨ k = 1 ∨ k = 2 ∨ k = 3 by omega) with rfl | rfl | rfl | rfl <;> decide +kernel) (turn_ k hk)
  rcases (show k = 0 ∨ k = 1 ∨ k = 2 ∨ k = 3 by omega) with rfl | rfl | rfl | rfl <;> exact h

end Go.Proofs.YthmjdfjchhohgaaGreatDoor

namespace Go.Proofs.YthmjdfjchhohgaaGreatDoor
open Go.RowKit

@[local go_sem] theorem store_complex (P : Program) (w : World) (a : Addr) (m : Mode) (k : FloatKind) (x y : Nat) : (store a (.complex k x y) m).run P w = stored P w a (.complex k x y) m := run_store P w a _ m rfl

theorem two_cells (w : World) (x y : Value) (t : TypeId) : (w.alloc (.cells #[x, y] t)).cell? ⟨w.heap.size, 0, none⟩ = some x ∧ (w.alloc (.cells #[x, y] t)).cell? ⟨w.heap.size, 1, none⟩ = some y := by
  constructor <;> simp
/-- The four points in a block. -/
def WayAt (b : Nat) (w : World) : Prop := ∀ k, k < 4 → w.cell? ⟨b, k, none⟩ = some (ptV k)
theorem WayAt.below {b : Nat} {w w' : World} (h : WayAt b w) (hB : Below w.heap.size w w') : WayAt b w' := fun k hk => (hB.cell (p := ⟨b, k, none⟩) (cell_lt (h k hk))).trans (h k hk)
theorem pt_small {k : Nat} (hk : k < 4) : SmallF (ptR k) ∧ SmallF (ptI k) := by
  rcases (show k = 0 ∨ k = 1 ∨ k = 2 ∨ k = 3 by omega) with rfl | rfl | rfl | rfl <;> exact ⟨by unfold SmallF; decide, by unfold SmallF; decide⟩

set_option maxRecDepth 100000 in
theorem is_whole (b : Nat) (w : World) (h : WayAt b w) :
    Calls Tryz.prog 51 #[.slice (some ⟨b, 0, none⟩) 4 4] w fun e w' => e = .returned (.bool true) ∧ w' = w := by
  go_enter Tryz.func51, Tryz.ntmps51
  go_wp2
  go_loopw [7] (fun p W => ∃ k : Nat, k ≤ 4 ∧ p = .int .i64 k ∧ W = w) (fun p _ => 4 - (intOf p).toNat)
  case atStart => exact ⟨0, by omega, rfl, rfl⟩
  case round =>
    obtain ⟨k, hk, rfl, rfl⟩ := hrel
    by_cases hlt : k < 4
    · have g1 := h k hlt
      have hx := whole_part _ (pt_small hlt).1 wr
      have hy := whole_part _ (pt_small hlt).2 wr
      simp only [ptV] at g1
      obtain ⟨x, hxe⟩ : ∃ x, ptR k = x := ⟨_, rfl⟩
      obtain ⟨y, hye⟩ : ∃ y, ptI k = y := ⟨_, rfl⟩
      rw [hxe, hye] at g1
      rw [hxe] at hx
      rw [hye] at hy
      clear hxe hye
      go_wp2_with fail
      refine hx.mono ?_
      rintro e V ⟨rfl, rfl⟩
      go_wp2_with fail
      refine hy.mono ?_
      rintro e V ⟨rfl, rfl⟩
      go_wp2_with fail
      go_roundw
      case rel => exact ⟨k + 1, by omega, by go_num, by first | trivial | rfl⟩
      case measure => simp [intOf]; omega
    · obtain rfl : k = 4 := by omega
      go_wp2
      go_ret
      exact ⟨rfl, rfl⟩

set_option maxRecDepth 100000 in
theorem winding_ (b : Nat) (w : World) (h : WayAt b w) :
    Calls Tryz.prog 25 #[.slice (some ⟨b, 0, none⟩) 4 4] w fun e w' => e = .returned (.tuple #[.int .i64 1, .nilIface]) ∧ Below w.heap.size w w' := by
  have hw := is_whole b w h
  go_enter Tryz.func25, Tryz.ntmps25
  go_wp2_with fail
  refine hw.mono ?_
  rintro e V ⟨rfl, rfl⟩
  clear hw
  go_wp2_with fail
  go_loopw [4, 23] (fun q p W => ∃ k : Nat, k ≤ 4 ∧ p = .int .i64 k ∧ q = .int .i64 (if k = 4 then 1 else 0) ∧ Below V.heap.size V W) (fun _ p _ => 4 - (intOf p).toNat)
  case atStart => exact ⟨0, by omega, rfl, rfl, Below.refl _ _⟩
  case round =>
    obtain ⟨k, hk, rfl, rfl, hB⟩ := hrel
    have HW := h.below hB
    have HB : Hid (Below V.heap.size V wr) := hB
    clear hB
    by_cases hlt : k < 4
    · have g1 := HW k hlt
      have g2 := HW (nextN k) (by unfold nextN; split <;> omega)
      have HZ : Hid (∀ W, Calls Tryz.prog 52 #[.agg #[ptV k, ptV (nextN k)]] W fun e w' => e = .returned (.bool false) ∧ Below W.heap.size W w') := has_zero_ k hlt
      have HC : Hid (∀ W, Calls Tryz.prog 53 #[.agg #[ptV k, ptV (nextN k)]] W fun e w' => e = .returned (.int .i64 (crossN k)) ∧ Below W.heap.size W w') := crossing_ k hlt
      have hl : Below wr.heap.size wr (wr.alloc (.cells #[ptV k, ptV (nextN k)] 92)) := (Below.refl _ wr).alloc (Nat.le_refl _) _
      have HL : Hid (Below V.heap.size V (wr.alloc (.cells #[ptV k, ptV (nextN k)] 92))) := HB.out.trans (hl.mono HB.out.size)
      have f0 := (two_cells wr (ptV k) (ptV (nextN k)) 92).1
      have f1 := (two_cells wr (ptV k) (ptV (nextN k)) 92).2
      clear hl HB HW h
      rcases (show k = 0 ∨ k = 1 ∨ k = 2 ∨ k = 3 by omega) with rfl | rfl | rfl | rfl
      all_goals
        simp only [nextN, ptV, ptR, ptI, crossN, Nat.zero_add, Nat.reduceAdd, Nat.reduceEqDiff, if_true, if_false, reduceCtorEq] at g1 g2 HZ HC HL f0 f1
        clear hk hlt
        go_wp2_with (first
          | (go_at_call 52; refine (HZ.out _).mono ?_; rintro e W ⟨rfl, hV⟩; have HL2 : Hid (Below V.heap.size V W) := HL.out.trans (hV.mono HL.out.size); have d0 := (hV.cell (p := ⟨wr.heap.size, 0, none⟩) (by simp)).trans f0; have d1 := (hV.cell (p := ⟨wr.heap.size, 1, none⟩) (by simp)).trans f1; clear hV f0 f1)
          | (go_at_call 53; refine (HC.out _).mono ?_; rintro e W2 ⟨rfl, hV⟩; have HL3 : Hid (Below V.heap.size V W2) := HL2.out.trans (hV.mono HL2.out.size); clear hV)
          | fail)
        go_roundw
        case rel => first | exact ⟨1, by omega, rfl, rfl, HL3.out⟩ | exact ⟨2, by omega, rfl, rfl, HL3.out⟩ | exact ⟨3, by omega, rfl, rfl, HL3.out⟩ | exact ⟨4, by omega, rfl, rfl, HL3.out⟩
        case measure => simp [intOf]
    · obtain rfl : k = 4 := by omega
      go_wp2
      go_ret2
      exact ⟨rfl, HB.out⟩

set_option maxRecDepth 100000 in
theorem wheel_ (w : World) :
    Calls Tryz.prog 5 #[] w fun e w' => e = .returned (.bool true) ∧ Below w.heap.size w w' := by
  have hway : WayAt w.heap.size (w.alloc (.cells #[.complex .f64 4607182418800017408 0, .complex .f64 0 4607182418800017408, .complex .f64 13830554455654793216 0, .complex .f64 0 13830554455654793216] 58)) := fun k hk => by
    rcases (show k = 0 ∨ k = 1 ∨ k = 2 ∨ k = 3 by omega) with rfl | rfl | rfl | rfl <;> simp [ptV, ptR, ptI]
  have hw := winding_ _ _ hway
  have HB : Hid (Below w.heap.size w (w.alloc (.cells #[.complex .f64 4607182418800017408 0, .complex .f64 0 4607182418800017408, .complex .f64 13830554455654793216 0, .complex .f64 0 13830554455654793216] 58))) := (Below.refl _ w).alloc (Nat.le_refl _) _
  clear hway
  go_enter Tryz.func5, Tryz.ntmps5
  go_wp2_with fail
  refine hw.mono ?_
  clear hw
  rintro e V ⟨rfl, hV⟩
  have HV : Hid (Below w.heap.size w V) := HB.out.trans (hV.mono HB.out.size)
  clear hV HB
  go_wp2_with fail
  go_ret
  exact ⟨rfl, HV.out⟩

end Go.Proofs.YthmjdfjchhohgaaGreatDoor
