/- What slices.Grow of no slice and slices.Concat of two slices of texts answer. -/
import Derived.Test.YtopopbhpclhinaaGreatDoorPartsBase
import Derived.Lib.AppendZerosOnto
import Derived.Lib.SliceRun
namespace Go.Proofs.YtopopbhpclhinaaGreatDoor
open Go.RowKit Go.Sort

theorem zeros_size (n : Nat) : (Builtin.zeroCells #[Value.string ⟨#[]⟩] n).size = n := by
  simp [Builtin.zeroCells]

set_option maxRecDepth 100000 in
set_option maxHeartbeats 1000000 in
theorem grow_nil (n : Nat) (w : World) (hn : n ≤ 100000) :
    Calls Tryz.prog 48 #[.slice none 0 0, .int .i64 n] w fun e w' => ∃ v, e = .returned v ∧ w'.ownsRow w.heap.size 9 1 v 0 [] ∧ Below w.heap.size w w' := by
  obtain ⟨i0, hi, hz0, hz1, hz2⟩ := info_parts Tryz.info9
  by_cases h0 : n = 0
  · subst h0
    go_enter Tryz.func48, Tryz.ntmps48
    go_wp2
    go_ret
    exact ⟨_, rfl, World.ownsRow_nil _ _ _ _, Below.refl _ _⟩
  · have hold : (Builtin.firstCells i0.size 0 (.slice none 0 0)).run Tryz.prog w.drew = .ok ([] : List Value).toArray w.drew := run_firstCells_none w.drew i0.size 0 0 0
    have hrz := fun ty => Lib.run_append_grow_zeros w 56 3 ty 9 i0 (.string ⟨#[]⟩) .i64 .i64 Tryz.underlying56 Tryz.underlying3 hi hz0 none 0 0 [] hold n (by omega) (by omega) (by omega) (by omega) (by rw [hz2]; omega) (by rw [hz2]; exact growslice_fits (by omega) (by omega))
    simp only [Nat.zero_add] at hrz
    have hGn : n ≤ grownCap w n 0 9 := grownCap_ge w _ _ _
    have hGm : grownCap w n 0 9 ≤ maxLen := grownCap_le_maxLen w n 0 9 (by unfold maxLen; omega)
    obtain ⟨G, hG⟩ : ∃ G, grownCap w n 0 9 = G := ⟨_, rfl⟩
    rw [hG] at hrz hGn hGm
    have hG63 : G ≤ 9223372036854775807 := by unfold maxLen at hGm; exact hGm
    have hn0 : 0 < (n : Int) := by omega
    clear hG hold
    go_enter Tryz.func48, Tryz.ntmps48
    go_wp2_with (at_builtin; refine Lib.wpList_append_run _ rfl _ _ _ _ rfl _ _ rfl rfl _ _ (hrz _) ?_)
    go_ret
    refine ⟨_, rfl, ⟨rfl, .inr ⟨w.heap.size, G, _, rfl, Nat.le_refl _, World.alloc_heap_new w.drew _, Nat.zero_le _, hGm, ?_, by simp⟩⟩, ((Below.refl _ w).drew).alloc (Nat.le_refl _) _⟩
    rw [Array.size_append, zeros_size, zeros_size]
    omega

set_option maxRecDepth 100000 in
set_option maxHeartbeats 2000000 in
theorem concat_two (b o cap : Nat) (ax ay : Option Addr) (px py : Nat) (xs ys : List (List UInt8)) (w : World) (hx : Strs w (.slice ax xs.length px) xs) (hy : Strs w (.slice ay ys.length py) ys) (hxl : xs.length ≤ 1000) (hyl : ys.length ≤ 1000)
    (h0 : w.cell? ⟨b, o, none⟩ = some (.slice ax xs.length px)) (h1 : w.cell? ⟨b, o + 1, none⟩ = some (.slice ay ys.length py)) :
    Calls Tryz.prog 34 #[.slice (some ⟨b, o, none⟩) 2 cap] w fun e w' => ∃ v, e = .returned v ∧ StrsIn (fun b => w.heap.size ≤ b) w' v (xs ++ ys) ∧ Below w.heap.size w w' := by
  obtain ⟨i0, hi, hz0, hz1, hz2⟩ := info_parts Tryz.info9
  have HX : Hid (Strs w (.slice ax xs.length px) xs) := hx
  have HY : Hid (Strs w (.slice ay ys.length py) ys) := hy
  have hlt := cell_lt h0
  clear hx hy
  go_enter Tryz.func34, Tryz.ntmps34
  go_wp2
  go_loopw [3, 11] (fun v p W => ∃ k n : Nat, p = .int .i64 k ∧ v = .int .i64 n ∧ W = w ∧ ((k = 0 ∧ n = 0) ∨ (k = 1 ∧ n = xs.length) ∨ (k = 2 ∧ n = xs.length + ys.length))) (fun _ p _ => 2 - (intOf p).toNat)
  case atStart => exact ⟨0, 0, rfl, rfl, rfl, .inl ⟨rfl, rfl⟩⟩
  case round =>
    obtain ⟨k, n, rfl, rfl, rfl, ⟨rfl, rfl⟩ | ⟨rfl, rfl⟩ | ⟨rfl, rfl⟩⟩ := hrel
    · go_wp2
      go_roundw
      case rel => exact ⟨1, xs.length, by go_num, by go_num, (by first | trivial | rfl), .inr (.inl ⟨rfl, rfl⟩)⟩
      case measure => simp [intOf]
    · go_wp2
      go_roundw
      case rel => exact ⟨2, xs.length + ys.length, by go_num, by go_num, (by first | trivial | rfl), .inr (.inr ⟨rfl, rfl⟩)⟩
      case measure => simp [intOf]
    · have hgr := grow_nil (xs.length + ys.length) wr (by omega)
      rw [Int.natCast_add] at hgr
      go_wp2_with fail
      refine hgr.mono ?_
      clear hgr
      rintro e w2 ⟨v2, rfl, hown2, hB2⟩
      go_wp2
      go_loopw [6, 27] (fun v p W => ∃ (k : Nat) (zs : List (List UInt8)), p = .int .i64 k ∧ W.ownsRow wr.heap.size 9 1 v zs.length (zs.map encStr) ∧ Below wr.heap.size wr W ∧ ((k = 0 ∧ zs = []) ∨ (k = 1 ∧ zs = xs) ∨ (k = 2 ∧ zs = xs ++ ys))) (fun _ p _ => 2 - (intOf p).toNat)
      case atStart => exact ⟨0, [], rfl, hown2, hB2, .inl ⟨rfl, rfl⟩⟩
      case round =>
        obtain ⟨k, zs, rfl, hown, hB, ⟨rfl, rfl⟩ | ⟨rfl, rfl⟩ | ⟨rfl, rfl⟩⟩ := hrel
        · have g0 := (hB.cell (p := ⟨b, o, none⟩) hlt).trans h0
          have hs := HX.out.below hB
          have hbs := hB.size
          clear hown2 hB2
          go_wp2_with (first
            | (at_builtin; refine wpList_append_slice rfl (.tmp 31) (.tmp 32) 56 rfl _ 9 i0 (.string ⟨#[]⟩) 16 Tryz.underlying56 hi hz0 hz1 hz2 rfl _ _ _ rfl hown _ (xs.map encStr) rfl hs (fun c hc => by obtain ⟨y, _, rfl⟩ := List.mem_map.1 hc; rfl) (by simp; omega) (by unfold maxLen; simp; omega) hbs ?_; intro v4 w4 hown4 hg4 hl4)
            | go_in)
          (try go_frame)
          go_roundw
          case rel => exact ⟨1, xs, by go_num, by simpa using hown4, hB.grown hg4 hbs (fun j hj => (hown.lt j hj).1), .inr (.inl ⟨rfl, rfl⟩)⟩
          case measure => simp [intOf]
        · have g0 := (hB.cell (p := ⟨b, o + 1, none⟩) hlt).trans h1
          have hs := HY.out.below hB
          have hbs := hB.size
          clear hown2 hB2
          go_wp2_with (first
            | (at_builtin; refine wpList_append_slice rfl (.tmp 31) (.tmp 32) 56 rfl _ 9 i0 (.string ⟨#[]⟩) 16 Tryz.underlying56 hi hz0 hz1 hz2 rfl _ _ _ rfl hown _ (ys.map encStr) rfl hs (fun c hc => by obtain ⟨y, _, rfl⟩ := List.mem_map.1 hc; rfl) (by simp; omega) (by unfold maxLen; simp; omega) hbs ?_; intro v4 w4 hown4 hg4 hl4)
            | go_in)
          (try go_frame)
          go_roundw
          case rel => exact ⟨2, _, by go_num, by rw [List.map_append, List.length_append]; simpa using hown4, hB.grown hg4 hbs (fun j hj => (hown.lt j hj).1), .inr (.inr ⟨rfl, rfl⟩)⟩
          case measure => simp [intOf]
        · clear hown2 hB2
          go_wp2
          go_ret
          exact ⟨_, rfl, slice_of_owns hown (fun b hb _ => hb), hB⟩

end Go.Proofs.YtopopbhpclhinaaGreatDoor
