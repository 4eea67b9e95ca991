/- Where a letter leads is written, and back. -/
import Derived.Test.YthcgabghkbgccaaDoorGrpTake
namespace Go.Proofs.YthcgabghkbgccaaDoor
open Go.RowKit Go.Sort

theorem xor_one : ∀ x : Nat, x < 24 → bits BinOp.xor IntKind.i64 (x : Int) 1 = (backN x : Int) := by decide

theorem back_ (x : Nat) (hx : x < 24) (w : World) : Calls Tryd.prog 50 #[.int .i64 (x : Int)] w fun e w' => e = .returned (.int .i64 (backN x : Int)) ∧ w' = w := by
  have h := xor_one x hx
  go_enter Tryd.func50, Tryd.ntmps50
  go_wp2_with fail
  go_ret
  exact ⟨rfl, rfl⟩

theorem column_ (l : Int) (h0 : l ≠ 0) (h1 : -12 ≤ l) (h2 : l ≤ 12) (w : World) : Calls Tryd.prog 39 #[.int .i64 l] w fun e w' => e = .returned (.int .i64 (colN l : Int)) ∧ w' = w := by
  by_cases hl : 0 < l
  · have e1 : (2 : Int) * (l - 1) = (colN l : Int) := by unfold colN; rw [if_pos hl]; omega
    go_enter Tryd.func39, Tryd.ntmps39
    go_wp2_with fail
    go_ret
    exact ⟨rfl, rfl⟩
  · have e1 : (2 : Int) * (-l - 1) + 1 = (colN l : Int) := by unfold colN; rw [if_neg hl]; omega
    go_enter Tryd.func39, Tryd.ntmps39
    go_wp2_with fail
    go_ret
    exact ⟨rfl, rfl⟩

set_option maxRecDepth 100000 in
set_option maxHeartbeats 2000000 in
theorem set_ {B : Nat} {X : Nat → Prop} {P n : Nat} {s : Cos} {G cG H cH : Nat} {rb c : Nat → Nat} (a x t : Nat) (w : World) (h : OpIn B X P n w s G cG H cH rb c) (ha : a < s.R.length) (ht : t < s.R.length) (hx : x < 2 * n) (hn : n ≤ 12) :
    Calls Tryd.prog 41 #[.agg #[.slice (some ⟨G, 0, none⟩) s.R.length cG], .int .i64 (a : Int), .int .i64 (x : Int), .int .i64 (t : Int)] w fun e w' => e = .returned (.tuple #[]) ∧ OpIn B X P n w' ⟨putE (putE s.R a x (t : Int)) t (backN x) (a : Int), s.cls⟩ G cG H cH rb c ∧ Kp B X w w' := by
  have hbx := back_lt hx
  have hBa : Below w.heap.size w (w.alloc (.cells #[.slice (some ⟨G, 0, none⟩) s.R.length cG] 64)) := (Below.refl _ w).alloc (Nat.le_refl _) _
  have q0 := cells_new w [.slice (some ⟨G, 0, none⟩) s.R.length cG] 64 0 _ rfl
  rw [Addr.add_lit, Nat.zero_add] at q0
  have h1 := h.below hBa
  have h2 := h1.set_ent ha hx (t : Int)
  have h3 := h2.1.set_ent (i := t) (x := backN x) (by rw [show Cos.R ⟨putE s.R a x (t : Int), s.cls⟩ = putE s.R a x (t : Int) from rfl, putE_len]; exact ht) hbx (a : Int)
  have HE := Hid.mk' (And.intro h3.1 ((Kp.of_below hBa).trans (h2.2.trans h3.2)))
  have ra := h1.row_at ha
  have ea := h1.ent_at ha hx
  have fa := (h1.inner a ha).frozen x
  have rt := h2.1.row_at (i := t) (by rw [show Cos.R ⟨putE s.R a x (t : Int), s.cls⟩ = putE s.R a x (t : Int) from rfl, putE_len]; exact ht)
  have et := h2.1.ent_at (i := t) (x := backN x) (by rw [show Cos.R ⟨putE s.R a x (t : Int), s.cls⟩ = putE s.R a x (t : Int) from rfl, putE_len]; exact ht) hbx
  have ft := (h2.1.inner t (by rw [show Cos.R ⟨putE s.R a x (t : Int), s.cls⟩ = putE s.R a x (t : Int) from rfl, putE_len]; exact ht)).frozen (backN x)
  have hbox : w.heap.size ≠ rb a := fun e => by
    have := (h.inner a ha).lt
    omega
  have hbk : ∀ V, Calls Tryd.prog 50 #[.int .i64 (x : Int)] V fun e w' => e = .returned (.int .i64 (backN x : Int)) ∧ w' = V := fun V => back_ x (by omega) V
  have h5 := h.few
  obtain ⟨N, hN⟩ : ∃ N, s.R.length = N := ⟨_, rfl⟩
  obtain ⟨m2, hm2⟩ : ∃ m2, 2 * n = m2 := ⟨_, rfl⟩
  obtain ⟨y, hy⟩ : ∃ y, backN x = y := ⟨_, rfl⟩
  rw [hm2] at ra rt hx hbx
  rw [hy] at et ft hbk hbx HE
  rw [hN] at q0 ha ht h5 ra ea fa rt et ft HE ⊢
  have z0 : (0 : Int) ≤ (a : Int) := by omega
  have z1 : (a : Int) < (N : Int) := by omega
  have z2 : (0 : Int) ≤ (t : Int) := by omega
  have z3 : (t : Int) < (N : Int) := by omega
  have z4 : (0 : Int) ≤ (x : Int) := by omega
  have z5 : (x : Int) < (m2 : Int) := by omega
  have z6 : (0 : Int) ≤ (y : Int) := by omega
  have z7 : (y : Int) < (m2 : Int) := by omega
  obtain ⟨W1, hW1⟩ : ∃ W1, w.alloc (.cells #[.slice (some ⟨G, 0, none⟩) N cG] 64) = W1 := ⟨_, rfl⟩
  have q1 : (W1.setCell ⟨rb a, x, none⟩ (.int .i64 (t : Int))).cell? ⟨w.heap.size, 0, none⟩ = some (.slice (some ⟨G, 0, none⟩) N cG) := by
    have h9 : (W1.setCell ⟨rb a, x, none⟩ (.int .i64 (t : Int))).cell? ⟨w.heap.size, 0, none⟩ = W1.cell? ⟨w.heap.size, 0, none⟩ := by
      apply World.cell?_setCell_other
      intro e
      exact hbox (Addr.mk.inj e).1.symm
    rw [h9, ← hW1]
    exact q0
  rw [hW1] at ra ea fa rt et ft HE
  rw [show (List.toArray [Value.slice (some ⟨G, 0, none⟩) N cG]) = #[.slice (some ⟨G, 0, none⟩) N cG] from rfl, hW1] at q0
  obtain ⟨W2, hW2⟩ : ∃ W2, W1.setCell ⟨rb a, x, none⟩ (.int .i64 (t : Int)) = W2 := ⟨_, rfl⟩
  rw [hW2] at rt et ft HE q1
  obtain ⟨p, hp⟩ : ∃ p, w.heap.size = p := ⟨_, rfl⟩
  rw [hp] at q0 q1
  obtain ⟨s2, hs2⟩ : ∃ s2 : Cos, (⟨putE (putE s.R a x (t : Int)) t y (a : Int), s.cls⟩ : Cos) = s2 := ⟨_, rfl⟩
  rw [show backN x = y from hy, hs2]
  rw [hs2] at HE
  obtain ⟨et', het⟩ : ∃ q, ent (putE s.R a x (t : Int)) t y = q := ⟨_, rfl⟩
  obtain ⟨ea', hea⟩ : ∃ q, ent s.R a x = q := ⟨_, rfl⟩
  rw [show ent (Cos.R ⟨putE s.R a x (t : Int), s.cls⟩) t y = et' from het] at et
  rw [hea] at ea
  have HW : Hid (w.alloc (.cells #[.slice (some ⟨G, 0, none⟩) N cG] 64) = W1 ∧ W1.setCell ⟨rb a, x, none⟩ (.int .i64 (t : Int)) = W2 ∧ w.heap.size = p) := ⟨hW1, hW2, hp⟩
  clear h h1 h2 h3 hBa hN hm2 hy hW1 hW2 hp hs2 het hea hbox
  go_enter Tryd.func41, Tryd.ntmps41
  go_upto_region 1 with fail
  rw [HW.out.1, HW.out.2.2]
  go_upto_region 2 with fail
  rw [HW.out.2.1]
  go_wp2_with fail
  go_region_with (go_at_call 50; refine (hbk _).mono ?_; rintro e V ⟨rfl, rfl⟩)
  all_goals go_wp2_with fail
  all_goals (refine bodyPost_end (v := .tuple #[]) ?_ rfl ⟨rfl, ?_, ?_⟩)
  all_goals first
    | (simp [results, Tryd.f41, go_sem]; done)
    | exact HE.out.1.below (Below.refl _ _).drew
    | exact HE.out.2.drew

end Go.Proofs.YthcgabghkbgccaaDoor
