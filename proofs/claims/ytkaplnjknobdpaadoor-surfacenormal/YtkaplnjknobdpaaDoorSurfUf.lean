/- What the classes of the program's surfaces do: of, join, newClasses. -/
import Derived.Test.YtkaplnjknobdpaaDoorSurfMath
import Derived.Test.YtkaplnjknobdpaaDoorKeepBut
import Derived.Test.YtkaplnjknobdpaaDoorWrapI
import Derived.Deep.OwnRows
namespace Go.Proofs.YtkaplnjknobdpaaDoor
open Go.RowKit Go.Sort

theorem grown_at (W : World) (p : Addr) (v : Value) : W.grownBy (W.setCell p v) (some p.block) := ⟨rfl, rfl, rfl, by simp, fun k _ hk => Below.heap_setCell W p v k (fun e => hk (by rw [e]))⟩

/-- A row of numbers in the block g that tells classes. -/
def ClsAt (W : World) (g n : Nat) (cls : Nat → Nat) : Prop := ∃ c : Nat → Nat, W.rowIs g 3 n (fun i => .int .i64 (c i : Int)) ∧ Leads n c cls
theorem ClsAt.of_block {W W' : World} {g n : Nat} {cls : Nat → Nat} (h : ClsAt W g n cls) (e : W'.heap[g]? = W.heap[g]?) : ClsAt W' g n cls := by
  obtain ⟨c, h1, h2⟩ := h
  exact ⟨c, h1.of_block e, h2⟩
theorem ClsAt.lt {W : World} {g n : Nat} {cls : Nat → Nat} (h : ClsAt W g n cls) : g < W.heap.size := by
  obtain ⟨c, h1, h2⟩ := h
  exact h1.lt

set_option maxRecDepth 100000 in
set_option maxHeartbeats 1000000 in
theorem of_ {cls : Nat → Nat} (g n cap i : Nat) (w : World) (h : ClsAt w g n cls) (hi : i < n) (_hn : n ≤ 1000) :
    Calls Tryd.prog 24 #[.slice (some ⟨g, 0, none⟩) n cap, .int .i64 (i : Int)] w fun e w' => e = .returned (.int .i64 (cls i : Int)) ∧ w' = w := by
  obtain ⟨c, hr, hL⟩ := h
  have HR : Hid (w.rowIs g 3 n (fun i => .int .i64 (c i : Int)) ∧ Leads n c cls) := ⟨hr, hL⟩
  clear hr hL
  go_enter Tryd.func24, Tryd.ntmps24
  go_wp2_with fail
  go_loopw [1] (fun p W => ∃ j : Nat, j < n ∧ p = .int .i64 j ∧ Hid (cls j = cls i) ∧ W = w) (fun p _ => (intOf p).toNat)
  case atStart => exact ⟨i, hi, rfl, rfl, rfl⟩
  case round =>
    obtain ⟨j, hj, rfl, HC, rfl⟩ := hrel
    have z0 : (0 : Int) ≤ (j : Int) := by omega
    have z1 : (j : Int) < (n : Int) := by omega
    have cj := HR.out.1.cell hj
    by_cases e : c j = j
    · have HE : Hid (cls j = j) := HR.out.2.top j hj e
      rw [e] at cj
      go_wp2_with fail
      go_ret
      exact ⟨by rw [← HC.out, HE.out]; rfl, rfl⟩
    · have hb : ((c j : Int) == (j : Int)) = false := beq_false_of_ne (by omega)
      have hle := HR.out.2.le j hj
      have HO : Hid (cls (c j) = cls j) := HR.out.2.one j hj
      obtain ⟨k, hk⟩ : ∃ k, c j = k := ⟨_, rfl⟩
      rw [hk] at cj hb hle HO e
      clear hk
      go_wp2_with fail
      go_roundw
      case rel => exact ⟨k, by omega, rfl, HO.out.trans HC.out, trivial⟩
      case measure => simp [intOf]; omega

set_option maxRecDepth 100000 in
set_option maxHeartbeats 1000000 in
theorem join_ {cls : Nat → Nat} (g n cap a b : Nat) (w : World) (h : ClsAt w g n cls) (ha : a < n) (hb : b < n) (hn : n ≤ 1000) :
    Calls Tryd.prog 37 #[.slice (some ⟨g, 0, none⟩) n cap, .int .i64 (a : Int), .int .i64 (b : Int)] w fun e w' => e = .returned (.tuple #[]) ∧ ClsAt w' g n (joinC cls (a, b)) ∧ KeepBut w w' g g := by
  have h1 := of_ g n cap a w h ha hn
  have h2 := of_ g n cap b w h hb hn
  obtain ⟨c, hr, hL⟩ := h
  have HL : Hid (Leads n c cls) := hL
  have HR : Hid (w.rowIs g 3 n (fun i => .int .i64 (c i : Int))) := hr
  have hA : cls a ≤ a := hL.is.le a
  have hB : cls b ≤ b := hL.is.le b
  obtain ⟨x, hx⟩ : ∃ x, cls a = x := ⟨_, rfl⟩
  obtain ⟨y, hy⟩ : ∃ y, cls b = y := ⟨_, rfl⟩
  have HX : Hid (cls a = x ∧ cls b = y) := ⟨hx, hy⟩
  rw [hx] at h1 hA
  rw [hy] at h2 hB
  have key : ∀ M m : Nat, M = max x y → m = min x y → ClsAt (w.setCell ⟨g, M, none⟩ (.int .i64 (m : Int))) g n (joinC cls (a, b)) ∧ KeepBut w (w.setCell ⟨g, M, none⟩ (.int .i64 (m : Int))) g g := fun M m hM hm => by
    refine ⟨⟨_, (HR.out.set M (.int .i64 (m : Int))).congr (fun i hi => ?_), HL.out.join (p := (a, b)) ha hb⟩, (KeepBut.refl w g g).on (grown_at w _ _) (fun b hb => by cases hb; exact .inl rfl)⟩
    dsimp only
    rw [HX.out.1, HX.out.2, ← hM, ← hm]
    by_cases e : i = M
    · rw [if_pos e, if_pos e]
    · rw [if_neg e, if_neg e]
  have HK := Hid.mk' key
  clear hr hL hx hy key
  by_cases hl : x < y
  · have hf := HR.out.frozen y
    have cy := HR.out.cell (i := y) (by omega)
    have hg : ¬ y < x := by omega
    have z0 : (0 : Int) ≤ (y : Int) := by omega
    have z1 : (y : Int) < (n : Int) := by omega
    go_enter Tryd.func37, Tryd.ntmps37
    go_wp2_with (first
      | (refine h1.mono ?_; rintro e V ⟨rfl, rfl⟩; clear h1)
      | (refine h2.mono ?_; rintro e V ⟨rfl, rfl⟩; clear h2)
      | fail)
    refine bodyPost_end (v := .tuple #[]) ?_ rfl ⟨rfl, HK.out y x (by omega) (by omega)⟩
    simp [results, Tryd.f37, go_sem]
  · have hf := HR.out.frozen x
    have cx := HR.out.cell (i := x) (by omega)
    have z0 : (0 : Int) ≤ (x : Int) := by omega
    have z1 : (x : Int) < (n : Int) := by omega
    by_cases hg : y < x
    · go_enter Tryd.func37, Tryd.ntmps37
      go_wp2_with (first
        | (refine h1.mono ?_; rintro e V ⟨rfl, rfl⟩; clear h1)
        | (refine h2.mono ?_; rintro e V ⟨rfl, rfl⟩; clear h2)
        | fail)
      refine bodyPost_end (v := .tuple #[]) ?_ rfl ⟨rfl, HK.out x y (by omega) (by omega)⟩
      simp [results, Tryd.f37, go_sem]
    · obtain rfl : x = y := by omega
      go_enter Tryd.func37, Tryd.ntmps37
      go_wp2_with (first
        | (refine h1.mono ?_; rintro e V ⟨rfl, rfl⟩; clear h1)
        | (refine h2.mono ?_; rintro e V ⟨rfl, rfl⟩; clear h2)
        | fail)
      refine bodyPost_end (v := .tuple #[]) ?_ rfl ⟨rfl, HK.out x x (by omega) (by omega)⟩
      simp [results, Tryd.f37, go_sem]

theorem Tryd.infoi : (Tryd.prog.info? 3).map (fun i => (i.zero, i.size, i.bytes)) = some (some (.int .i64 0), 1, 8) := by kernel_rfl

set_option maxRecDepth 100000 in
set_option maxHeartbeats 1000000 in
theorem new_classes (n : Nat) (hn : n ≤ 1000) (w : World) :
    Calls Tryd.prog 35 #[.int .i64 (n : Int)] w fun e w' => ∃ g, e = .returned (.slice (some ⟨g, 0, none⟩) n n) ∧ ClsAt w' g n (joinAll []) ∧ w.heap.size ≤ g ∧ Below w.heap.size w w' := by
  have hmk := run_make_row' (P := Tryd.prog) 63 3 (.int .i64 0) 8 Tryd.underlying63 Tryd.infoi rfl .i64 .i64 n (by omega) (by omega)
  go_enter Tryd.func35, Tryd.ntmps35
  go_wp2_with fail
  have hB : Below w.heap.size w (w.alloc (.cells (madeCells #[.int .i64 0] n) 3)) := (Below.refl _ w).alloc (Nat.le_refl _) _
  have hR := World.rowIs_made w (.int .i64 0) n 3
  obtain ⟨X, hX⟩ : ∃ X, w.alloc (.cells (madeCells #[.int .i64 0] n) 3) = X := ⟨_, rfl⟩
  obtain ⟨g, hg⟩ : ∃ g, w.heap.size = g := ⟨_, rfl⟩
  rw [hX, hg] at hR
  rw [hX] at hB
  rw [hX, hg]
  have HB : Hid (Below w.heap.size w X ∧ w.heap.size = g) := ⟨hB, hg⟩
  have HR : Hid (X.rowIs g 3 n (fun _ => .int .i64 0)) := hR
  clear hX hg hB hR hmk
  go_loopw [9] (fun p W => ∃ k : Nat, k ≤ n ∧ p = .int .i64 k ∧ Hid (W.rowIs g 3 n (fun i => .int .i64 (if i < k then (i : Int) else 0)) ∧ KeepBut X W g g)) (fun p _ => n - (intOf p).toNat)
  case atStart => exact ⟨0, by omega, rfl, HR.out.congr (fun i _ => by simp), KeepBut.refl _ _ _⟩
  case round =>
    obtain ⟨k, hk, rfl, HK⟩ := hrel
    by_cases hkn : k < n
    · have z0 : (0 : Int) ≤ (k : Int) := by omega
      have z1 : (k : Int) < (n : Int) := by omega
      have ck := HK.out.1.cell hkn
      have fk := HK.out.1.frozen k
      go_wp2_with fail
      go_roundw
      case rel =>
        refine ⟨k + 1, by omega, by go_num, (HK.out.1.set k (.int .i64 (k : Int))).congr (fun i _ => ?_), HK.out.2.on (grown_at _ _ _) (fun b e => by cases e; exact .inl rfl)⟩
        by_cases e : i = k
        · rw [if_pos e, if_pos (by omega), e]
        · rw [if_neg e]
          by_cases e2 : i < k
          · rw [if_pos e2, if_pos (by omega)]
          · rw [if_neg e2, if_neg (by omega)]
      case measure => simp [intOf]; omega
    · obtain rfl : k = n := by omega
      go_wp2_with fail
      go_ret
      refine ⟨g, rfl, ⟨fun i => i, HK.out.1.congr (fun i hi => by rw [if_pos hi]), Leads.new _⟩, by rw [HB.out.2]; exact Nat.le_refl _, ?_⟩
      refine ⟨HK.out.2.os.trans HB.out.1.os, HK.out.2.tape.trans HB.out.1.tape, HK.out.2.output.trans HB.out.1.output, Nat.le_trans HB.out.1.size HK.out.2.size, fun b hb => ?_⟩
      have hs := HB.out.1.size
      have := HB.out.2
      exact (HK.out.2.block b (by omega) (by omega) (by omega)).trans (HB.out.1.block b hb)

end Go.Proofs.YtkaplnjknobdpaaDoor
