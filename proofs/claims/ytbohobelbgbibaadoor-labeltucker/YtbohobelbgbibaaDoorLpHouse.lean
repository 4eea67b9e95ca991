/- Doors and sides, by the program. -/
import Derived.Test.YtbohobelbgbibaaDoorLpTri
import Derived.Test.YtbohobelbgbibaaDoorLabFull
import Derived.ChangeKeysEq
import Derived.BigQuiet
namespace Go.Proofs.YtbohobelbgbibaaDoor
open Go.RowKit Go.Sort

abbrev T2 := Int × Int
/-- A triple, a side, as values. -/
def aggT (t : T3) : Value := .agg #[.int .i64 t.1, .int .i64 t.2.1, .int .i64 t.2.2]
def aggS (s : T2) : Value := .agg #[.int .i64 s.1, .int .i64 s.2]
theorem drewN_below (w : World) (q : Nat) : Below w.heap.size w (w.drewN q) := ⟨rfl, rfl, rfl, Nat.le_refl _, fun _ _ => rfl⟩
theorem Tryd.cellsInt1 : Tryd.prog.cellsOf 3 = 1 := by kernel_rfl
theorem side_equal (w : World) (a b c d : Int) : (Op.equalIn 10000 55 (.agg #[.int .i64 a, .int .i64 b]) (.agg #[.int .i64 c, .int .i64 d])).run Tryd.prog w = .ok ((a == c) && (b == d)) w := by
  obtain ⟨i0, hi0, -, -, -⟩ := info_parts Tryd.info3
  rw [run_equalIn_array w 9999 _ _ Tryd.underlying55 hi0, Tryd.cellsInt1]
  have h1 : ∀ (w : World) (x y : Int), (Op.equalIn 9999 3 (.int .i64 x) (.int .i64 y)).run Tryd.prog w = .ok (x == y) w := fun w x y => run_equalIn_int w 9998 3 .i64 .i64 x y Tryd.underlying3
  have hp : ∀ (w : World) (x y : Int), ((part 3 #[.int .i64 x, .int .i64 y] 0).run Tryd.prog w = .ok (.int .i64 x) w) ∧ ((part 3 #[.int .i64 x, .int .i64 y] 1).run Tryd.prog w = .ok (.int .i64 y) w) := fun w x y => by
    constructor <;> simp [part, go_sem]
  show (Op.eqItems 9999 3 1 _ _ [0, 1]).run _ w = _
  simp only [Op.eqItems, Sem.run_bind, Nat.zero_mul, Nat.one_mul, (hp _ _ _).1, Result.andThen_ok, h1]
  cases h : (a == c) <;> cases h' : (b == d) <;> simp [h1, h', (hp _ _ _).2]
theorem tri_equal (w : World) (a b c d e f : Int) : (Op.equalIn 10000 36 (.agg #[.int .i64 a, .int .i64 b, .int .i64 c]) (.agg #[.int .i64 d, .int .i64 e, .int .i64 f])).run Tryd.prog w = .ok ((a == d) && ((b == e) && (c == f))) w := by
  obtain ⟨i0, hi0, -, -, -⟩ := info_parts Tryd.info3
  rw [run_equalIn_array w 9999 _ _ Tryd.underlying36 hi0, Tryd.cellsInt1]
  have h1 : ∀ (w : World) (x y : Int), (Op.equalIn 9999 3 (.int .i64 x) (.int .i64 y)).run Tryd.prog w = .ok (x == y) w := fun w x y => run_equalIn_int w 9998 3 .i64 .i64 x y Tryd.underlying3
  have hp : ∀ (w : World) (x y z : Int), ((part 3 #[.int .i64 x, .int .i64 y, .int .i64 z] 0).run Tryd.prog w = .ok (.int .i64 x) w) ∧ ((part 3 #[.int .i64 x, .int .i64 y, .int .i64 z] 1).run Tryd.prog w = .ok (.int .i64 y) w) ∧ ((part 3 #[.int .i64 x, .int .i64 y, .int .i64 z] 2).run Tryd.prog w = .ok (.int .i64 z) w) := fun w x y z => by
    refine ⟨?_, ?_, ?_⟩ <;> simp [part, go_sem]
  show (Op.eqItems 9999 3 1 _ _ [0, 1, 2]).run _ w = _
  simp only [Op.eqItems, Sem.run_bind, Nat.zero_mul, Nat.one_mul, (hp _ _ _ _).1, Result.andThen_ok, h1]
  cases h : (a == d)
  · simp
  · cases h' : (b == e) <;> cases h'' : (c == f) <;> simp [h1, h', h'', (hp _ _ _ _).2]

/-- The sides of a triple, as the program has them. -/
def sidesV (t : T3) : Value := .agg #[.int .i64 t.1, .int .i64 t.2.1, .int .i64 t.1, .int .i64 t.2.2, .int .i64 t.2.1, .int .i64 t.2.2]

set_option maxRecDepth 100000 in
set_option maxHeartbeats 1000000 in
theorem sides_ (t : T3) (w : World) :
    Calls Tryd.prog 40 #[aggT t] w fun e w' => e = .returned (sidesV t) ∧ Below w.heap.size w w' := by
  obtain ⟨x, y, z⟩ := t
  unfold aggT sidesV
  dsimp only
  have HB : Hid (Below w.heap.size w ((w.alloc (.cells #[.int .i64 x, .int .i64 y, .int .i64 z] 36)).alloc (.cells #[.int .i64 x, .int .i64 y, .int .i64 x, .int .i64 z, .int .i64 y, .int .i64 z] 75))) := ((Below.refl _ w).alloc (Nat.le_refl _) _).alloc (by simp) _
  have hn := cells_new (w.alloc (.cells #[.int .i64 x, .int .i64 y, .int .i64 z] 36)) [.int .i64 x, .int .i64 y, .int .i64 x, .int .i64 z, .int .i64 y, .int .i64 z] 75
  have r0 := hn 0 _ rfl
  have r1 := hn 1 _ rfl
  have r2 := hn 2 _ rfl
  have r3 := hn 3 _ rfl
  have r4 := hn 4 _ rfl
  have r5 := hn 5 _ rfl
  rw [Addr.add_lit, Nat.zero_add, World.size_alloc] at r0 r1 r2 r3 r4 r5
  clear hn
  go_enter Tryd.func40, Tryd.ntmps40
  go_wp2_with fail
  refine bodyPost_ret (v := .agg #[.int .i64 x, .int .i64 y, .int .i64 x, .int .i64 z, .int .i64 y, .int .i64 z]) ?_ rfl ⟨rfl, HB.out⟩
  simp [results, Tryd.f40, go_sem, r0, r1, r2, r3, r4, r5]

/-- Two numbers that were just boxed behind two other values. -/
theorem box22 (w : World) (x y p q : Value) (t u : TypeId) : ((w.alloc (.cells #[x, y] t)).alloc (.cells #[p, q] u)).cell? ⟨w.heap.size, 0, none⟩ = some x ∧ ((w.alloc (.cells #[x, y] t)).alloc (.cells #[p, q] u)).cell? ⟨w.heap.size, 1, none⟩ = some y ∧ ((w.alloc (.cells #[x, y] t)).alloc (.cells #[p, q] u)).cell? ⟨w.heap.size + 1, 0, none⟩ = some p ∧ ((w.alloc (.cells #[x, y] t)).alloc (.cells #[p, q] u)).cell? ⟨w.heap.size + 1, 1, none⟩ = some q ∧ Below w.heap.size w ((w.alloc (.cells #[x, y] t)).alloc (.cells #[p, q] u)) := by
  have h1 := cells_new w [x, y] t
  have h2 := cells_new (w.alloc (.cells #[x, y] t)) [p, q] u
  have a0 := h1 0 _ rfl
  have a1 := h1 1 _ rfl
  have b0 := h2 0 _ rfl
  have b1 := h2 1 _ rfl
  rw [Addr.add_lit, Nat.zero_add] at a0 a1 b0 b1
  rw [World.size_alloc] at b0 b1
  exact ⟨(World.cell?_alloc_lt _ _ ⟨w.heap.size, 0, none⟩ (by simp)).trans a0, (World.cell?_alloc_lt _ _ ⟨w.heap.size, 1, none⟩ (by simp)).trans a1, b0, b1, ((Below.refl _ w).alloc (Nat.le_refl _) _).alloc (by simp) _⟩

set_option maxRecDepth 100000 in
set_option maxHeartbeats 1000000 in
theorem door_ {ls : List Int} (x y : Nat) (vl vr : Value) (w : World) (hl : Ints w vl ls) (hx : x < ls.length) (hy : y < ls.length) (h1 : 0 ≤ labA ls x ∧ labA ls x ≤ 2) (h2 : 0 ≤ labA ls y ∧ labA ls y ≤ 2) (ar : Option Addr) (nr cr : Nat) (hvr : vr = .slice ar nr cr) :
    Calls Tryd.prog 33 #[.agg #[vl, vr], aggS ((x : Int), (y : Int))] w fun e w' => e = .returned (.bool (labA ls x + labA ls y == 1)) ∧ Below w.heap.size w w' := by
  unfold aggS
  dsimp only
  subst hvr
  obtain ⟨al, cl, rfl, -, hx1⟩ := hl.open_
  obtain ⟨bl, ol, rfl, -, -, hcl⟩ := hx1 (by omega)
  have l0 := hcl x hx
  have l1 := hcl y hy
  obtain ⟨p, hp⟩ : ∃ p, labA ls x = p := ⟨_, rfl⟩
  obtain ⟨q, hq⟩ : ∃ q, labA ls y = q := ⟨_, rfl⟩
  rw [show ls[x]?.getD 0 = p from hp] at l0
  rw [show ls[y]?.getD 0 = q from hq] at l1
  rw [hp] at h1 ⊢
  rw [hq] at h2 ⊢
  obtain ⟨m, hm⟩ : ∃ m, ls.length = m := ⟨_, rfl⟩
  rw [hm] at hx hy ⊢
  obtain ⟨b0, b1, b2, b3, hB⟩ := box22 w (.slice (some ⟨bl, ol, none⟩) m cl) (.slice ar nr cr) (.int .i64 (x : Int)) (.int .i64 (y : Int)) 67 55
  have HW : ∃ W2, (w.alloc (.cells #[.slice (some ⟨bl, ol, none⟩) m cl, .slice ar nr cr] 67)).alloc (.cells #[.int .i64 (x : Int), .int .i64 (y : Int)] 55) = W2 := ⟨_, rfl⟩
  obtain ⟨W2, hW2⟩ := HW
  rw [hW2] at b0 b1 b2 b3 hB
  have l0' := (hB.cell (p := ⟨bl, ol + x, none⟩) (cell_lt l0)).trans l0
  have l1' := (hB.cell (p := ⟨bl, ol + y, none⟩) (cell_lt l1)).trans l1
  have HG : Hid ((w.alloc (.cells #[.slice (some ⟨bl, ol, none⟩) m cl, .slice ar nr cr] 67)).alloc (.cells #[.int .i64 (x : Int), .int .i64 (y : Int)] 55) = W2 ∧ ∀ q, Below w.heap.size w (W2.drewN q)) := ⟨hW2, fun q => hB.trans ((drewN_below W2 q).mono hB.size)⟩
  have z0 : (0 : Int) ≤ (x : Int) := by omega
  have z1 : (x : Int) < (m : Int) := by omega
  have z2 : (0 : Int) ≤ (y : Int) := by omega
  have z3 : (y : Int) < (m : Int) := by omega
  clear hl hx1 hcl hp hq hm hB hW2 l0 l1
  go_enter Tryd.func33, Tryd.ntmps33
  go_upto_region 1 with fail
  rw [HG.out.1]
  go_quiet (fail)
  go_wp2_with fail
  go_ret
  exact ⟨rfl, HG.out.2 _⟩

end Go.Proofs.YtbohobelbgbibaaDoor
