/- What reeb.Check and index.Indices answer. math.Abs, math.Trunc and isWholePart at 0, 1 and -1. The way once around 0: its four points, what turn, hasZero and crossing answer of its lines. What hasZero and crossing answer of the lines of the way once around 0; whether its parts are whole. -/
import Derived.Test.YtmndhclmhjmbpaaGreatDoorIdxOpen2
import Derived.Test.YtmndhclmhjmbpaaGreatDoorIdxShape
import Derived.Test.YtmndhclmhjmbpaaGreatDoorBase
import Derived.Laws.Externs
import Derived.WalkLawsBesides
import Derived.Laws.ComplexArith
namespace Go.Proofs.YtmndhclmhjmbpaaGreatDoor
open Go.RowKit Go.Sort Go.Lib

set_option maxRecDepth 100000 in
set_option maxHeartbeats 1000000 in
theorem check_any (al : Option Addr) (nl cl : Nat) (vh ev : Value) (w : World)
    (HO : ∀ W, Below w.heap.size w W → Calls Tryz.prog 54 #[.agg #[.slice al nl cl], vh] W fun e w' => (∃ a0 n0 c0 a1 n1 c1 a2 n2 c2, e = .returned (.tuple #[.agg #[.slice a0 n0 c0, .slice a1 n1 c1, .slice a2 n2 c2], ev])) ∧ Below W.heap.size W w') :
    Calls Tryz.prog 28 #[.agg #[.slice al nl cl], vh] w fun e w' => e = .returned ev ∧ Below w.heap.size w w' := by
  have hB0 : Below w.heap.size w (w.alloc (.cells #[.slice al nl cl] 33)) := (Below.refl _ w).alloc (Nat.le_refl _) _
  have hO := HO _ hB0
  have hbc := (box_new w (.slice al nl cl) 33).1
  have HB0 : Hid (Below w.heap.size w (w.alloc (.cells #[.slice al nl cl] 33))) := hB0
  clear HO hB0
  go_enter Tryz.func28, Tryz.ntmps28
  go_wp2_with fail
  refine hO.mono ?_
  clear hO
  rintro e V1 ⟨⟨a0, n0, c0, a1, n1, c1, a2, n2, c2, rfl⟩, hB⟩
  have HB : Hid (Below w.heap.size w V1) := HB0.out.trans (hB.mono HB0.out.size)
  clear hB HB0 hbc
  go_wp2_with fail
  go_ret
  exact ⟨rfl, HB.out.alloc HB.out.size _⟩

set_option maxRecDepth 100000 in
set_option maxHeartbeats 1000000 in
theorem indices_err (al : Option Addr) (nl cl : Nat) (vh : Value) (t : TypeId) (p : Value) (w : World)
    (HO : ∀ W, Below w.heap.size w W → Calls Tryz.prog 28 #[.agg #[.slice al nl cl], vh] W fun e w' => e = .returned (.iface t p) ∧ Below W.heap.size W w') :
    Calls Tryz.prog 8 #[.agg #[.slice al nl cl], vh] w fun e w' => e = .returned (.tuple #[.slice none 0 0, .iface t p]) ∧ Below w.heap.size w w' := by
  have hB0 : Below w.heap.size w (w.alloc (.cells #[.slice al nl cl] 33)) := (Below.refl _ w).alloc (Nat.le_refl _) _
  have hO := HO _ hB0
  have hbc := (box_new w (.slice al nl cl) 33).1
  have HB0 : Hid (Below w.heap.size w (w.alloc (.cells #[.slice al nl cl] 33))) := hB0
  clear HO hB0
  go_enter Tryz.func8, Tryz.ntmps8
  go_wp2_with fail
  refine hO.mono ?_
  clear hO
  rintro e V1 ⟨rfl, hB⟩
  have HB : Hid (Below w.heap.size w V1) := HB0.out.trans (hB.mono HB0.out.size)
  clear hB HB0 hbc
  go_wp2_with fail
  go_ret2
  exact ⟨rfl, HB.out⟩

set_option maxRecDepth 100000 in
set_option maxHeartbeats 1000000 in
theorem indices_good {all : List (List Int)} (al : Option Addr) (nl cl : Nat) (vh : Value) (R : List Int) (w : World)
    (HO : ∀ W, Below w.heap.size w W → Calls Tryz.prog 28 #[.agg #[.slice al nl cl], vh] W fun e w' => e = .returned .nilIface ∧ Below W.heap.size W w')
    (HS : ∀ W, Below w.heap.size w W → Calls Tryz.prog 29 #[.agg #[.slice al nl cl]] W fun e w' => ∃ v, e = .returned (.tuple #[v, .nilIface]) ∧ ShpIn anyBlock w' v all ∧ Below W.heap.size W w')
    (HI : ∀ W vs, Below w.heap.size w W → ShpIn anyBlock W vs all → Calls Tryz.prog 30 #[vs, vh] W fun e w' => ∃ v, e = .returned v ∧ Ints w' v R ∧ Below W.heap.size W w') :
    Calls Tryz.prog 8 #[.agg #[.slice al nl cl], vh] w fun e w' => ∃ v, e = .returned (.tuple #[v, .nilIface]) ∧ Ints w' v R ∧ Below w.heap.size w w' := by
  have hB0 : Below w.heap.size w (w.alloc (.cells #[.slice al nl cl] 33)) := (Below.refl _ w).alloc (Nat.le_refl _) _
  have hO := HO _ hB0
  have hbc := (box_new w (.slice al nl cl) 33).1
  have HB0 : Hid (Below w.heap.size w (w.alloc (.cells #[.slice al nl cl] 33))) := hB0
  have HSS := Hid.mk' HS
  have HII := Hid.mk' HI
  clear HO hB0 HS HI
  go_enter Tryz.func8, Tryz.ntmps8
  go_wp2_with fail
  refine hO.mono ?_
  clear hO
  rintro e V1 ⟨rfl, hB⟩
  have HB : Hid (Below w.heap.size w V1) := HB0.out.trans (hB.mono HB0.out.size)
  have hbc1 := (hB.cell (p := ⟨w.heap.size, 0, none⟩) (cell_lt hbc)).trans hbc
  have hS := HSS.out V1 HB.out
  clear hB HB0 hbc HSS
  go_wp2_with fail
  refine hS.mono ?_
  clear hS
  rintro e V2 ⟨v, rfl, hs, hB⟩
  have HB2 : Hid (Below w.heap.size w V2) := HB.out.trans (hB.mono HB.out.size)
  obtain ⟨sa, sc, rfl, hr⟩ := hs
  have hBa : Below V2.heap.size V2 (V2.alloc (.cells #[.slice (sa 0) (ofDim all 0).length (sc 0), .slice (sa 1) (ofDim all 1).length (sc 1), .slice (sa 2) (ofDim all 2).length (sc 2), .slice (sa 3) (ofDim all 3).length (sc 3), .slice (sa 4) (ofDim all 4).length (sc 4), .slice (sa 5) (ofDim all 5).length (sc 5), .slice (sa 6) (ofDim all 6).length (sc 6)] 63)) := (Below.refl _ V2).alloc (Nat.le_refl _) _
  have hI := HII.out _ (.agg #[.slice (sa 0) (ofDim all 0).length (sc 0), .slice (sa 1) (ofDim all 1).length (sc 1), .slice (sa 2) (ofDim all 2).length (sc 2), .slice (sa 3) (ofDim all 3).length (sc 3), .slice (sa 4) (ofDim all 4).length (sc 4), .slice (sa 5) (ofDim all 5).length (sc 5), .slice (sa 6) (ofDim all 6).length (sc 6)]) (HB2.out.trans (hBa.mono HB2.out.size)) ((ShpIn.below (S := anyBlock) ⟨sa, sc, rfl, hr⟩ hBa))
  have HB3 : Hid (Below w.heap.size w (V2.alloc (.cells #[.slice (sa 0) (ofDim all 0).length (sc 0), .slice (sa 1) (ofDim all 1).length (sc 1), .slice (sa 2) (ofDim all 2).length (sc 2), .slice (sa 3) (ofDim all 3).length (sc 3), .slice (sa 4) (ofDim all 4).length (sc 4), .slice (sa 5) (ofDim all 5).length (sc 5), .slice (sa 6) (ofDim all 6).length (sc 6)] 63))) := HB2.out.trans (hBa.mono HB2.out.size)
  clear hB hr hBa HB HII hbc1
  generalize (ofDim all 0).length = n0 at hI HB3 ⊢
  generalize (ofDim all 1).length = n1 at hI HB3 ⊢
  generalize (ofDim all 2).length = n2 at hI HB3 ⊢
  generalize (ofDim all 3).length = n3 at hI HB3 ⊢
  generalize (ofDim all 4).length = n4 at hI HB3 ⊢
  generalize (ofDim all 5).length = n5 at hI HB3 ⊢
  generalize (ofDim all 6).length = n6 at hI HB3 ⊢
  go_wp2_with fail
  refine hI.mono ?_
  clear hI
  rintro e V3 ⟨u, rfl, hu, hB⟩
  have HE : Hid (Ints V3 u R ∧ Below w.heap.size w V3) := ⟨hu, HB3.out.trans (hB.mono HB3.out.size)⟩
  clear hu hB HB3
  go_wp2_with fail
  go_ret2
  exact ⟨u, rfl, HE.out.1, HE.out.2⟩

end Go.Proofs.YtmndhclmhjmbpaaGreatDoor

namespace Go.Proofs.YtmndhclmhjmbpaaGreatDoor
open Go.RowKit

/-- 0, 1 or -1, in a float's bits. -/
def SmallF (x : Nat) : Prop := x = 0 ∨ x = 4607182418800017408 ∨ x = 13830554455654793216
def absF (x : Nat) : Nat := if x = 13830554455654793216 then 4607182418800017408 else x

set_option maxRecDepth 100000 in
theorem abs_ (x : Nat) (hx : SmallF x) (w : World) :
    Calls Tryz.prog 105 #[.float .f64 x] w fun e w' => e = .returned (.float .f64 (absF x)) ∧ w' = w := by
  have h1 := @run_callFunc_extern Tryz.prog 122 _ Extern.MathFloatBits.float64bits Tryz.func122 (by kernel_rfl) (by kernel_rfl) (by kernel_rfl) (by kernel_rfl)
  have h2 := @run_callFunc_extern Tryz.prog 121 _ Extern.MathFloatBits.float64frombits Tryz.func121 (by kernel_rfl) (by kernel_rfl) (by kernel_rfl) (by kernel_rfl)
  have g1 : ∀ (y : Nat) (W : World), (Extern.MathFloatBits.float64bits #[.float .f64 y]).run Tryz.prog W = .ok (.int .u64 (y : Int)) W := fun _ _ => rfl
  have g2 : ∀ (y : Int) (W : World), (Extern.MathFloatBits.float64frombits #[.int .u64 y]).run Tryz.prog W = .ok (.float .f64 y.toNat) W := fun _ _ => rfl
  have b0 : bits .andNot .u64 (0 : Int) (9223372036854775808 : Int) = 0 := by decide +kernel
  have b1 : bits .andNot .u64 (4607182418800017408 : Int) (9223372036854775808 : Int) = 4607182418800017408 := by decide +kernel
  have b2 : bits .andNot .u64 (13830554455654793216 : Int) (9223372036854775808 : Int) = 4607182418800017408 := by decide +kernel
  rcases hx with rfl | rfl | rfl
  all_goals
    go_enter Tryz.func105, Tryz.ntmps105
    go_wp2
    go_ret
    exact ⟨rfl, rfl⟩

set_option maxRecDepth 100000 in
theorem trunc_ (x : Nat) (hx : SmallF x) (w : World) :
    Calls Tryz.prog 106 #[.float .f64 x] w fun e w' => e = .returned (.float .f64 x) ∧ w' = w := by
  have h1 := @run_callFunc_extern Tryz.prog 123 _ (Extern.MathFloor.toIntegral "math.archTrunc" .zero) Tryz.func123 (by kernel_rfl) (by kernel_rfl) (by kernel_rfl) (by kernel_rfl)
  have g1 : ∀ (W : World), (Extern.MathFloor.toIntegral "math.archTrunc" .zero #[.float .f64 x]).run Tryz.prog W = .ok (.float .f64 x) W := by
    rcases hx with rfl | rfl | rfl <;> intro W <;> rfl
  go_enter Tryz.func106, Tryz.ntmps106
  go_wp2
  go_ret
  exact ⟨rfl, rfl⟩

set_option maxRecDepth 100000 in
theorem whole_part (x : Nat) (hx : SmallF x) (w : World) :
    Calls Tryz.prog 78 #[.float .f64 x] w fun e w' => e = .returned (.bool true) ∧ w' = w := by
  have h1 := abs_ x hx w
  have h2 := trunc_ x hx w
  have k1 : FloatKind.f64.format.order (absF x) 4697254411347427328 = some .lt := by rcases hx with rfl | rfl | rfl <;> decide +kernel
  have k2 : FloatKind.f64.format.order x x = some .eq := by rcases hx with rfl | rfl | rfl <;> decide +kernel
  clear hx
  go_enter Tryz.func78, Tryz.ntmps78
  go_wp2_with fail
  refine h1.mono ?_
  rintro e V ⟨rfl, rfl⟩
  go_wp2_with fail
  refine h2.mono ?_
  rintro e V ⟨rfl, rfl⟩
  go_wp2_with fail
  go_ret
  exact ⟨rfl, rfl⟩

end Go.Proofs.YtmndhclmhjmbpaaGreatDoor

namespace Go.Proofs.YtmndhclmhjmbpaaGreatDoor
open Go.RowKit

/-- The points 1, i, -1, -i. -/
def ptR (k : Nat) : Nat := if k = 0 then 4607182418800017408 else if k = 2 then 13830554455654793216 else 0
def ptI (k : Nat) : Nat := if k = 1 then 4607182418800017408 else if k = 3 then 13830554455654793216 else 0
def ptV (k : Nat) : Value := .complex .f64 (ptR k) (ptI k)
def nextN (k : Nat) : Nat := if k = 3 then 0 else k + 1
/-- What a line's turn is: its real part is a 0. -/
def turnR (k : Nat) : Nat := if k = 2 then 9223372036854775808 else 0

set_option maxRecDepth 100000 in
theorem turn_ (k : Nat) (hk : k < 4) (w : World) :
    Calls Tryz.prog 79 #[.agg #[ptV k, ptV (nextN k)]] w fun e w' => e = .returned (.complex .f64 (turnR k) 4607182418800017408) ∧ Below w.heap.size w w' := by
  have hB : ∀ x y : Value, Below w.heap.size w (w.alloc (.cells #[x, y] 92)) := fun x y => (Below.refl _ w).alloc (Nat.le_refl _) _
  have hneg : Op.negFloat .f64 (ptI k) = (if k = 1 then 13830554455654793216 else if k = 3 then 4607182418800017408 else 9223372036854775808) := by
    rcases (show k = 0 ∨ k = 1 ∨ k = 2 ∨ k = 3 by omega) with rfl | rfl | rfl | rfl <;> decide +kernel
  obtain ⟨m, hm⟩ : ∃ m, (if k = 1 then 13830554455654793216 else if k = 3 then 4607182418800017408 else 9223372036854775808 : Nat) = m := ⟨_, rfl⟩
  rw [hm] at hneg
  have hmul : cMulBits (ptR k) m (ptR (nextN k)) (ptI (nextN k)) = some (turnR k, 4607182418800017408) := by
    rw [← hm]
    rcases (show k = 0 ∨ k = 1 ∨ k = 2 ∨ k = 3 by omega) with rfl | rfl | rfl | rfl <;> decide +kernel
  have hop := fun t w => run_complex_mul (P := Tryz.prog) w t _ _ _ _ _ _ hmul
  have hu : ∀ (W : World), (Op.unary .neg (.float .f64 (ptI k))).run Tryz.prog W = .ok (.float .f64 m) W := fun W => by rw [← hneg]; rfl
  simp only [ptV]
  obtain ⟨r, hr⟩ : ∃ r, ptR k = r := ⟨_, rfl⟩
  obtain ⟨i, hi⟩ : ∃ i, ptI k = i := ⟨_, rfl⟩
  obtain ⟨r', hr'⟩ : ∃ r, ptR (nextN k) = r := ⟨_, rfl⟩
  obtain ⟨i', hi'⟩ : ∃ i, ptI (nextN k) = i := ⟨_, rfl⟩
  obtain ⟨q, hq⟩ : ∃ q, turnR k = q := ⟨_, rfl⟩
  rw [hr, hi, hr', hi', hq]
  rw [hr, hr', hi', hq] at hop
  rw [hi] at hu
  have HB : Hid (Below w.heap.size w (w.alloc (.cells #[.complex .f64 r i, .complex .f64 r' i'] 92))) := hB _ _
  clear hneg hm hmul hr hi hr' hi' hq hB
  go_enter Tryz.func79, Tryz.ntmps79
  go_wp2
  go_ret
  exact ⟨rfl, HB.out⟩

end Go.Proofs.YtmndhclmhjmbpaaGreatDoor

namespace Go.Proofs.YtmndhclmhjmbpaaGreatDoor
open Go.RowKit

/-- How the last line crosses. -/
def crossN (k : Nat) : Int := if k = 3 then 1 else 0

set_option maxRecDepth 100000 in
theorem has_zero_ (k : Nat) (hk : k < 4) (w : World) :
    Calls Tryz.prog 52 #[.agg #[ptV k, ptV (nextN k)]] w fun e w' => e = .returned (.bool false) ∧ Below w.heap.size w w' := by
  have hB : Below w.heap.size w (w.alloc (.cells #[ptV k, ptV (nextN k)] 92)) := (Below.refl _ w).alloc (Nat.le_refl _) _
  have ht := turn_ k hk (w.alloc (.cells #[ptV k, ptV (nextN k)] 92))
  have k1 : FloatKind.f64.format.order 4607182418800017408 0 = some .gt := by decide +kernel
  obtain ⟨p, hp⟩ : ∃ p, ptV k = p := ⟨_, rfl⟩
  obtain ⟨p', hp'⟩ : ∃ p, ptV (nextN k) = p := ⟨_, rfl⟩
  obtain ⟨x, y, rfl⟩ : ∃ x y, p = .complex .f64 x y := ⟨_, _, hp.symm⟩
  obtain ⟨x', y', rfl⟩ : ∃ x y, p' = .complex .f64 x y := ⟨_, _, hp'.symm⟩
  rw [hp, hp'] at ht hB
  rw [hp, hp']
  have HB : Hid (Below w.heap.size w (w.alloc (.cells #[.complex .f64 x y, .complex .f64 x' y'] 92))) := hB
  obtain ⟨q, hq⟩ : ∃ q, turnR k = q := ⟨_, rfl⟩
  rw [hq] at ht
  clear hp hp' hq hB
  go_enter Tryz.func52, Tryz.ntmps52
  go_wp2_with fail
  refine ht.mono ?_
  clear ht
  rintro e V ⟨rfl, hV⟩
  have HV : Hid (Below w.heap.size w V) := HB.out.trans (hV.mono HB.out.size)
  clear hV HB
  go_wp2
  go_ret
  exact ⟨rfl, HV.out⟩

set_option maxRecDepth 100000 in
theorem cross_core (x y x' y' q : Nat) (bA bB : Bool) (w : World) (hA : (FloatKind.f64.format.order y 0 == some .lt) = bA) (hC : (FloatKind.f64.format.order y' 0 == some .lt) = bB)
    (ht : ∀ V, Calls Tryz.prog 79 #[.agg #[.complex .f64 x y, .complex .f64 x' y']] V fun e w' => e = .returned (.complex .f64 q 4607182418800017408) ∧ Below V.heap.size V w') :
    Calls Tryz.prog 53 #[.agg #[.complex .f64 x y, .complex .f64 x' y']] w fun e w' => e = .returned (.int .i64 (if (bA && !bB) = true then 1 else 0)) ∧ Below w.heap.size w w' := by
  have HB : Hid (Below w.heap.size w (w.alloc (.cells #[.complex .f64 x y, .complex .f64 x' y'] 92))) := (Below.refl _ w).alloc (Nat.le_refl _) _
  have k1 : FloatKind.f64.format.order 4607182418800017408 0 = some .gt := by decide +kernel
  cases bA <;> cases bB
  all_goals
    go_enter Tryz.func53, Tryz.ntmps53
    go_wp2_with fail
    go_region
    have HD := HB.out.drew
    go_wp2_with (go_at_call 79; refine (ht _).mono ?_; clear ht; rintro e V ⟨rfl, hV⟩; have HV : Hid (Below w.heap.size w V) := HD.trans (hV.mono HD.size); clear hV)
    go_ret
    exact ⟨rfl, HV.out⟩

theorem crossing_ (k : Nat) (hk : k < 4) (w : World) :
    Calls Tryz.prog 53 #[.agg #[ptV k, ptV (nextN k)]] w fun e w' => e = .returned (.int .i64 (crossN k)) ∧ Below w.heap.size w w' := by
  have h := cross_core _ _ _ _ _ (decide (k = 3)) (decide (k = 2)) w (by rcases (show k = 0 ∨ k = 1 ∨ k = 2 ∨ k = 3 by omega) with rfl | rfl | rfl | rfl <;> decide +kernel) (by rcases (show k = 0 ∨ k = 1 ∨ k = 2 ∨ k = 3 by omega) with rfl | rfl | rfl | rfl <;> decide +kernel) (turn_ k hk)
  rcases (show k = 0 ∨ k = 1 ∨ k = 2 ∨ k = 3 by omega) with rfl | rfl | rfl | rfl <;> exact h

end Go.Proofs.YtmndhclmhjmbpaaGreatDoor
