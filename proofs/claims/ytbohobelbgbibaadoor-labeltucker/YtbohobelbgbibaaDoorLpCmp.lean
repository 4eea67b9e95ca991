/- Two triples are compared: cmp.Compare, slices.Compare, the closure that small hands to the sort. -/
import Derived.Test.YtbohobelbgbibaaDoorLpTri
import Derived.Sort.Grow
import Derived.BigQuiet
namespace Go.Proofs.YtbohobelbgbibaaDoor
open Go.RowKit Go.Sort

def cmpI (x y : Int) : Int := if x < y then -1 else if y < x then 1 else 0
def cmpL : List Int → List Int → Int
  | x :: xs, y :: ys => if cmpI x y = 0 then cmpL xs ys else cmpI x y
  | _, _ => 0
def t3L (a : T3) : List Int := [a.1, a.2.1, a.2.2]
/-- The order of triples. -/
def cmpT (a b : T3) : Int := cmpL (t3L a) (t3L b)

set_option maxRecDepth 100000 in
theorem isNaN_ (x : Int) (w : World) : Calls Tryd.prog 77 #[.int .i64 x] w fun e w' => e = .returned (.bool false) ∧ w' = w := by
  go_enter Tryd.func77, Tryd.ntmps77
  go_wp2_with fail
  go_ret
  exact ⟨rfl, rfl⟩

set_option maxRecDepth 100000 in
theorem compareI_ (x y : Int) (w : World) : Calls Tryd.prog 58 #[.int .i64 x, .int .i64 y] w fun e w' => e = .returned (.int .i64 (cmpI x y)) ∧ w' = w := by
  have h1 := isNaN_ x w
  have h2 := isNaN_ y w
  unfold cmpI
  by_cases a : x < y
  · rw [if_pos a]
    go_enter Tryd.func58, Tryd.ntmps58
    go_wp2_with (first
      | (go_at_call 77; first | (refine h1.mono ?_; rintro e V ⟨rfl, rfl⟩; clear h1) | (refine h2.mono ?_; rintro e V ⟨rfl, rfl⟩; clear h2))
      | fail)
    go_ret
    exact ⟨rfl, rfl⟩
  · rw [if_neg a]
    by_cases b : y < x
    · rw [if_pos b]
      go_enter Tryd.func58, Tryd.ntmps58
      go_wp2_with (first
        | (go_at_call 77; first | (refine h1.mono ?_; rintro e V ⟨rfl, rfl⟩; clear h1) | (refine h2.mono ?_; rintro e V ⟨rfl, rfl⟩; clear h2))
        | fail)
      go_ret
      exact ⟨rfl, rfl⟩
    · rw [if_neg b]
      obtain rfl : x = y := by omega
      go_enter Tryd.func58, Tryd.ntmps58
      go_wp2_with (first
        | (go_at_call 77; first | (refine h1.mono ?_; rintro e V ⟨rfl, rfl⟩) | (refine h2.mono ?_; rintro e V ⟨rfl, rfl⟩))
        | fail)
      go_ret
      exact ⟨rfl, rfl⟩

theorem cmpL_at {xs ys : List Int} {k : Nat} (h1 : k < xs.length) (h2 : k < ys.length) : cmpL (xs.drop k) (ys.drop k) = if cmpI (xs[k]?.getD 0) (ys[k]?.getD 0) = 0 then cmpL (xs.drop (k + 1)) (ys.drop (k + 1)) else cmpI (xs[k]?.getD 0) (ys[k]?.getD 0) := by
  rw [List.drop_eq_getElem_cons h1, List.drop_eq_getElem_cons h2, List.getElem?_eq_getElem h1, List.getElem?_eq_getElem h2]
  rfl

set_option maxRecDepth 100000 in
set_option maxHeartbeats 1000000 in
theorem compare_ {xs ys : List Int} (vx vy : Value) (w : World) (hx : Ints w vx xs) (hy : Ints w vy ys) (he : ys.length = xs.length) (h0 : 0 < xs.length) (h9 : xs.length ≤ 1000) :
    Calls Tryd.prog 43 #[vx, vy] w fun e w' => e = .returned (.int .i64 (cmpL xs ys)) ∧ w' = w := by
  obtain ⟨ax, cx, rfl, -, hx1⟩ := hx.open_
  obtain ⟨ay, cy, rfl, -, hy1⟩ := hy.open_
  obtain ⟨bx, ox, rfl, -, -, hcx⟩ := hx1 h0
  obtain ⟨bY, oy, rfl, -, -, hcy⟩ := hy1 (by omega)
  have HA : Hid (∀ k, k < xs.length → cmpL (xs.drop k) (ys.drop k) = if cmpI (xs[k]?.getD 0) (ys[k]?.getD 0) = 0 then cmpL (xs.drop (k + 1)) (ys.drop (k + 1)) else cmpI (xs[k]?.getD 0) (ys[k]?.getD 0)) := fun k hk => cmpL_at hk (by omega)
  have HZ : Hid (cmpL (xs.drop xs.length) (ys.drop xs.length) = 0) := by show _ = _; rw [List.drop_eq_nil_of_le (Nat.le_refl _)]; rfl
  have HC : Hid (∀ k, k < xs.length → w.cell? ⟨bx, ox + k, none⟩ = some (.int .i64 (xs[k]?.getD 0)) ∧ w.cell? ⟨bY, oy + k, none⟩ = some (.int .i64 (ys[k]?.getD 0))) := fun k hk => ⟨hcx k hk, hcy k (by omega)⟩
  rw [he]
  obtain ⟨m, hm⟩ : ∃ m, xs.length = m := ⟨_, rfl⟩
  rw [hm] at h0 h9 HA HZ HC ⊢
  obtain ⟨R, hR⟩ : ∃ R, cmpL xs ys = R := ⟨_, rfl⟩
  have HR : Hid (cmpL (xs.drop 0) (ys.drop 0) = R) := hR
  rw [hR]
  clear hx hy hx1 hy1 hcx hcy he hm hR
  go_enter Tryd.func43, Tryd.ntmps43
  go_wp2_with fail
  go_loopw [11] (fun p W => ∃ k : Nat, k ≤ m ∧ p = .int .i64 (k : Int) ∧ W = w ∧ Hid (cmpL (xs.drop k) (ys.drop k) = R)) (fun p _ => m - (intOf p).toNat)
  case atStart => exact ⟨0, by omega, rfl, rfl, HR.out⟩
  case round =>
    obtain ⟨k, hk, rfl, rfl, HK⟩ := hrel
    by_cases hkm : k < m
    · obtain ⟨c1, c2⟩ := HC.out k hkm
      have H2 := Hid.mk' ((HA.out k hkm).symm.trans HK.out)
      obtain ⟨x, ex⟩ : ∃ x, xs[k]?.getD 0 = x := ⟨_, rfl⟩
      obtain ⟨y, ey⟩ : ∃ y, ys[k]?.getD 0 = y := ⟨_, rfl⟩
      rw [ex, ey] at H2
      rw [ex] at c1
      rw [ey] at c2
      have hci := compareI_ x y wr
      obtain ⟨c, hc⟩ : ∃ c, cmpI x y = c := ⟨_, rfl⟩
      rw [hc] at hci H2
      have y0 : (0 : Int) ≤ (k : Int) := by omega
      have y1 : (k : Int) < (m : Int) := by omega
      clear hc ex ey
      by_cases hc0 : c = 0
      · subst hc0
        have H3 : Hid (cmpL (xs.drop (k + 1)) (ys.drop (k + 1)) = R) := by
          have := H2.out
          rw [if_pos rfl] at this
          exact this
        go_wp2_with (first
          | (go_at_call 58; refine hci.mono ?_; rintro e V ⟨rfl, rfl⟩; clear hci)
          | fail)
        go_roundw
        case rel => exact ⟨k + 1, by omega, by go_num, trivial, H3.out⟩
        case measure => simp [intOf]; omega
      · have H3 : Hid (c = R) := by
          have := H2.out
          rw [if_neg hc0] at this
          exact this
        go_wp2_with (first
          | (go_at_call 58; refine hci.mono ?_; rintro e V ⟨rfl, rfl⟩; clear hci)
          | fail)
        go_ret
        exact ⟨by have := H3.out; subst this; rfl, rfl⟩
    · obtain rfl : k = m := by omega
      have H3 : Hid (0 = R) := HZ.out.symm.trans HK.out
      go_wp2_with fail
      go_ret
      exact ⟨by have := H3.out; subst this; rfl, rfl⟩

set_option maxRecDepth 100000 in
set_option maxHeartbeats 1000000 in
theorem closure_ (x y : T3) (w : World) : Calls Tryd.prog 47 #[.agg #[.int .i64 x.1, .int .i64 x.2.1, .int .i64 x.2.2], .agg #[.int .i64 y.1, .int .i64 y.2.1, .int .i64 y.2.2]] w fun e w' => e = .returned (.int .i64 (cmpT x y)) ∧ ∃ q os', w' = grow (w.drewN q) os' := by
  have HG : Hid (∀ q, ∃ os', ((w.alloc (.cells #[.int .i64 x.1, .int .i64 x.2.1, .int .i64 x.2.2] 36)).alloc (.cells #[.int .i64 y.1, .int .i64 y.2.1, .int .i64 y.2.2] 36)).drewN q = grow (w.drewN q) os') := fun q => ⟨_, by rw [alloc_eq_grow, alloc_eq_grow, grow_grow]; rfl⟩
  have hcall : ∀ q, Calls Tryd.prog 43 #[.slice (some ⟨w.heap.size, 0, none⟩) 3 3, .slice (some ⟨w.heap.size + 1, 0, none⟩) 3 3] (((w.alloc (.cells #[.int .i64 x.1, .int .i64 x.2.1, .int .i64 x.2.2] 36)).alloc (.cells #[.int .i64 y.1, .int .i64 y.2.1, .int .i64 y.2.2] 36)).drewN q) fun e w' => e = .returned (.int .i64 (cmpT x y)) ∧ ∃ n, w' = ((w.alloc (.cells #[.int .i64 x.1, .int .i64 x.2.1, .int .i64 x.2.2] 36)).alloc (.cells #[.int .i64 y.1, .int .i64 y.2.1, .int .i64 y.2.2] 36)).drewN n := fun q => by
    have h1 : Ints (((w.alloc (.cells #[.int .i64 x.1, .int .i64 x.2.1, .int .i64 x.2.2] 36)).alloc (.cells #[.int .i64 y.1, .int .i64 y.2.1, .int .i64 y.2.2] 36)).drewN q) (.slice (some ⟨w.heap.size, 0, none⟩) 3 3) (t3L x) := by
      refine ⟨_, 3, rfl, ⟨Nat.le_refl _, fun h => by cases h⟩, fun _ => ⟨_, 0, rfl, trivial, fun k u hu => ?_⟩⟩
      have h := cells_new w [.int .i64 x.1, .int .i64 x.2.1, .int .i64 x.2.2] 36 k u hu
      rw [Addr.add_lit] at h
      exact (World.cell?_alloc_lt _ _ ⟨w.heap.size, 0 + k, none⟩ (by simp)).trans h
    have h2 : Ints (((w.alloc (.cells #[.int .i64 x.1, .int .i64 x.2.1, .int .i64 x.2.2] 36)).alloc (.cells #[.int .i64 y.1, .int .i64 y.2.1, .int .i64 y.2.2] 36)).drewN q) (.slice (some ⟨w.heap.size + 1, 0, none⟩) 3 3) (t3L y) := by
      refine ⟨_, 3, rfl, ⟨Nat.le_refl _, fun h => by cases h⟩, fun _ => ⟨_, 0, rfl, trivial, fun k u hu => ?_⟩⟩
      have h := cells_new (w.alloc (.cells #[.int .i64 x.1, .int .i64 x.2.1, .int .i64 x.2.2] 36)) [.int .i64 y.1, .int .i64 y.2.1, .int .i64 y.2.2] 36 k u hu
      rw [Addr.add_lit, World.size_alloc] at h
      exact h
    exact (compare_ _ _ _ h1 h2 rfl (by simp [t3L]) (by simp [t3L])).mono fun e w' h => ⟨h.1, q, h.2⟩
  go_enter Tryd.func47, Tryd.ntmps47
  go_wp2_with fail
  go_quiet (exact hcall _)
  go_wp2_with fail
  go_ret
  exact ⟨rfl, _, HG.out _⟩

theorem cmpI_refl (x : Int) : cmpI x x = 0 := by unfold cmpI; rw [if_neg (by omega), if_neg (by omega)]
/-- The strict order of triples. -/
def ltT (a b : T3) : Prop := a.1 < b.1 ∨ (a.1 = b.1 ∧ (a.2.1 < b.2.1 ∨ (a.2.1 = b.2.1 ∧ a.2.2 < b.2.2)))
instance (a b : T3) : Decidable (ltT a b) := by unfold ltT; exact inferInstance
theorem cmpT_lt (a b : T3) : cmpT a b < 0 ↔ ltT a b := by
  obtain ⟨a1, a2, a3⟩ := a
  obtain ⟨b1, b2, b3⟩ := b
  simp only [cmpT, t3L, cmpL, cmpI, ltT]
  repeat' split
  all_goals first | omega | (rename_i h; exact absurd h (by omega))

end Go.Proofs.YtbohobelbgbibaaDoor
