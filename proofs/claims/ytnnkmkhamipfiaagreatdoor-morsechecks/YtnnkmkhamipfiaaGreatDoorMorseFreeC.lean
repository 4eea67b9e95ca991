/- What uncut answers: nothing is cut away yet. What Free answers. -/
import Derived.Test.YtnnkmkhamipfiaaGreatDoorMorseSums
import Derived.Deep.OwnRows
import Derived.Test.YtnnkmkhamipfiaaGreatDoorMorseSeq
import Derived.Test.YtnnkmkhamipfiaaGreatDoorMorseNumber2
import Derived.Test.YtnnkmkhamipfiaaGreatDoorRegionGrow
import Derived.Maps.OwnIn
namespace Go.Proofs.YtnnkmkhamipfiaaGreatDoor
open Go.RowKit Go.Sort

theorem Tryz.info4 : (Tryz.prog.info? 4).map (fun i => (i.zero, i.size, i.bytes)) = some (some (.bool false), 1, 1) := by kernel_rfl

theorem ov_all (L : List (List Int)) (i : Nat) : (overI L i).length = (ovL L allL i).length := by unfold overI; rw [List.length_map, ovD_all]

theorem frozen_fresh (W : World) (A : Array Value) (t : TypeId) (k : Nat) : (W.alloc (.cells A t)).frozen? ⟨W.heap.size, k, none⟩ = false := by
  have hg : (W.alloc (.cells A t)).heap[W.heap.size]? = some (.cells A t) := (Go.MapKept.heap_alloc W _).1
  simp only [World.frozen?, hg]
  simp

/-- Five cells that are stored. -/
theorem five_put {W : World} {B : Nat} (v0 v1 v2 v3 v4 : Value) (h : ∀ j, j < 5 → (W.cell? ⟨B, j, none⟩).isSome = true) :
    ∀ j u, [v0, v1, v2, v3, v4][j]? = some u → (((((W.setCell ⟨B, 0, none⟩ v0).setCell ⟨B, 1, none⟩ v1).setCell ⟨B, 2, none⟩ v2).setCell ⟨B, 3, none⟩ v3).setCell ⟨B, 4, none⟩ v4).cell? ⟨B, j, none⟩ = some u := by
  have ne : ∀ {i j : Nat}, i ≠ j → (⟨B, i, none⟩ : Addr) ≠ ⟨B, j, none⟩ := fun h => addr_ne (.inr h)
  intro j u hu
  have hj : j < 5 := by simpa using (List.getElem?_eq_some_iff.1 hu).1
  have hc : j = 0 ∨ j = 1 ∨ j = 2 ∨ j = 3 ∨ j = 4 := by omega
  rcases hc with rfl | rfl | rfl | rfl | rfl <;> cases hu
  · rw [World.cell?_setCell_other _ _ _ _ (ne (by decide)), World.cell?_setCell_other _ _ _ _ (ne (by decide)), World.cell?_setCell_other _ _ _ _ (ne (by decide)), World.cell?_setCell_other _ _ _ _ (ne (by decide))]
    exact World.cell?_setCell_same' _ _ _ (h 0 (by omega))
  · rw [World.cell?_setCell_other _ _ _ _ (ne (by decide)), World.cell?_setCell_other _ _ _ _ (ne (by decide)), World.cell?_setCell_other _ _ _ _ (ne (by decide))]
    exact World.cell?_setCell_same' _ _ _ (by rw [World.cell?_setCell_other _ _ _ _ (ne (by decide))]; exact h 1 (by omega))
  · rw [World.cell?_setCell_other _ _ _ _ (ne (by decide)), World.cell?_setCell_other _ _ _ _ (ne (by decide))]
    exact World.cell?_setCell_same' _ _ _ (by rw [World.cell?_setCell_other _ _ _ _ (ne (by decide)), World.cell?_setCell_other _ _ _ _ (ne (by decide))]; exact h 2 (by omega))
  · rw [World.cell?_setCell_other _ _ _ _ (ne (by decide))]
    exact World.cell?_setCell_same' _ _ _ (by rw [World.cell?_setCell_other _ _ _ _ (ne (by decide)), World.cell?_setCell_other _ _ _ _ (ne (by decide)), World.cell?_setCell_other _ _ _ _ (ne (by decide))]; exact h 3 (by omega))
  · exact World.cell?_setCell_same' _ _ _ (by rw [World.cell?_setCell_other _ _ _ _ (ne (by decide)), World.cell?_setCell_other _ _ _ _ (ne (by decide)), World.cell?_setCell_other _ _ _ _ (ne (by decide)), World.cell?_setCell_other _ _ _ _ (ne (by decide))]; exact h 4 (by omega))

section
variable (X : World) (z : Value) (n : Nat) (t : TypeId) (o0 o1 o2 : Obj) (a b c d e : Value)
theorem made3_0 : ((((X.alloc (.cells (madeCells #[z] n) t)).alloc o1).alloc o2).drew).rowIs X.heap.size t n (fun _ => z) := (((World.rowIs_made X z n t).alloc o1).alloc o2).drew
theorem made3_1 : ((((X.alloc o0).alloc (.cells (madeCells #[z] n) t)).alloc o2).drew).rowIs (X.heap.size + 1) t n (fun _ => z) := by
  have := ((World.rowIs_made (X.alloc o0) z n t).alloc o2).drew
  rwa [World.size_alloc] at this
theorem made3_2 : ((((X.alloc o0).alloc o1).alloc (.cells (madeCells #[z] n) t)).drew).rowIs (X.heap.size + 1 + 1) t n (fun _ => z) := by
  have := (World.rowIs_made ((X.alloc o0).alloc o1) z n t).drew
  rwa [World.size_alloc, World.size_alloc] at this
theorem box3_0 : ∀ j u, [a, b, c, d, e][j]? = some u → ((((X.alloc (.cells #[a, b, c, d, e] t)).alloc o1).alloc o2).drew).cell? ⟨X.heap.size, j, none⟩ = some u := fun j u hu => ((World.cell?_alloc_lt _ o2 ⟨X.heap.size, j, none⟩ (by simp; omega)).trans (World.cell?_alloc_lt _ o1 ⟨X.heap.size, j, none⟩ (by simp))).trans (rest_cells X a b c d e t j u hu)
theorem box3_1 : ∀ j u, [a, b, c, d, e][j]? = some u → ((((X.alloc o0).alloc (.cells #[a, b, c, d, e] t)).alloc o2).drew).cell? ⟨X.heap.size + 1, j, none⟩ = some u := fun j u hu => by
  have := rest_cells (X.alloc o0) a b c d e t j u hu
  rw [World.size_alloc] at this
  exact (World.cell?_alloc_lt _ o2 ⟨X.heap.size + 1, j, none⟩ (by simp)).trans this
theorem box3_2 : ∀ j u, [a, b, c, d, e][j]? = some u → ((((X.alloc o0).alloc o1).alloc (.cells #[a, b, c, d, e] t)).drew).cell? ⟨X.heap.size + 1 + 1, j, none⟩ = some u := fun j u hu => by
  have := rest_cells ((X.alloc o0).alloc o1) a b c d e t j u hu
  rw [World.size_alloc, World.size_alloc] at this
  exact this
theorem below3 : Below X.heap.size X (((X.alloc o0).alloc o1).alloc o2).drew := ((((Below.refl _ X).alloc (Nat.le_refl _) _).alloc (by simp) _).alloc (by simp; omega) _).drew
end

set_option maxRecDepth 100000 in
set_option maxHeartbeats 4000000 in
theorem uncut_ {L : List (List Int)} {ad aS ao : Option Addr} {cd cs co : Nat} (w : World) (h : ShapeIn (fun b => b < w.heap.size) w L ad aS ao cd cs co) (hL6 : L.length ≤ 600) :
    Calls Tryz.prog 46 #[shapeV L.length ad aS ao cd cs co] w fun e w' => ∃ gl gc, e = .returned (restV L.length ad aS ao cd cs co gl gc) ∧ RestAt w.heap.size w' L ad aS ao cd cs co gl gc allL ∧ Below w.heap.size w w' := by
  obtain ⟨n, hn⟩ : ∃ n, L.length = n := ⟨_, rfl⟩
  have HNN : Hid (L.length = n) := hn
  have HSH : Hid (ShapeIn (fun b => b < w.heap.size) w L ad aS ao cd cs co) := h
  have hmkb := run_make_row' (P := Tryz.prog) 76 4 (.bool false) 1 Tryz.underlying76 Tryz.info4 rfl .i64 .i64 n (by omega) (by omega)
  have hmki := run_make_row' (P := Tryz.prog) 29 3 (.int .i64 0) 8 Tryz.underlying29 Tryz.info3 rfl .i64 .i64 n (by omega) (by omega)
  have hsc : ∀ j u, [Value.slice ad n cd, .slice aS n cs, .slice ao n co][j]? = some u → (w.alloc (.cells #[.slice ad n cd, .slice aS n cs, .slice ao n co] 79)).cell? ⟨w.heap.size, j, none⟩ = some u := fun j u hu => by
    have := cells_new w [.slice ad n cd, .slice aS n cs, .slice ao n co] 79 j u hu
    rwa [Addr.add_lit, Nat.zero_add] at this
  unfold shapeV restV
  rw [hn] at hL6 ⊢
  clear h hn
  go_enter Tryz.func46, Tryz.ntmps46
  go_upto_region 1 with fail
  have hBa : Below w.heap.size w ((w.alloc (.cells #[.slice ad n cd, .slice aS n cs, .slice ao n co] 79)).alloc (.cells #[.slice none 0 0, .slice none 0 0, .slice none 0 0, .slice none 0 0, .slice none 0 0] 101)) := ((Below.refl _ w).alloc (Nat.le_refl _) _).alloc (by simp) _
  have hs2 : ∀ j u, [Value.slice ad n cd, .slice aS n cs, .slice ao n co][j]? = some u → ((w.alloc (.cells #[.slice ad n cd, .slice aS n cs, .slice ao n co] 79)).alloc (.cells #[.slice none 0 0, .slice none 0 0, .slice none 0 0, .slice none 0 0, .slice none 0 0] 101)).cell? ⟨w.heap.size, j, none⟩ = some u := fun j u hu => (World.cell?_alloc_lt _ _ ⟨w.heap.size, j, none⟩ (by simp)).trans (hsc j u hu)
  have hr2 := rest_cells (w.alloc (.cells #[.slice ad n cd, .slice aS n cs, .slice ao n co] 79)) (.slice none 0 0) (.slice none 0 0) (.slice none 0 0) (.slice none 0 0) (.slice none 0 0) 101
  have hf2 := frozen_fresh (w.alloc (.cells #[.slice ad n cd, .slice aS n cs, .slice ao n co] 79)) #[.slice none 0 0, .slice none 0 0, .slice none 0 0, .slice none 0 0, .slice none 0 0] 101
  rw [World.size_alloc] at hr2 hf2
  obtain ⟨X, hX⟩ : ∃ X, (w.alloc (.cells #[.slice ad n cd, .slice aS n cs, .slice ao n co] 79)).alloc (.cells #[.slice none 0 0, .slice none 0 0, .slice none 0 0, .slice none 0 0, .slice none 0 0] 101) = X := ⟨_, rfl⟩
  obtain ⟨xb, hxb⟩ : ∃ xb, w.heap.size = xb := ⟨_, rfl⟩
  have hxl : xb + 1 < X.heap.size := by rw [← hX, ← hxb]; simp
  rw [hX, hxb] at hs2 hr2 hBa hf2
  try rw [hX]
  try rw [hxb]
  have HXB : Hid (w.heap.size = xb) := hxb
  have c0 := hs2 0 _ rfl
  have c1 := hs2 1 _ rfl
  have c2 := hs2 2 _ rfl
  have r : ∀ j, j < 5 → X.cell? ⟨xb + 1, j, none⟩ = some (.slice none 0 0) := fun j hj => hr2 j _ (by
    have : j = 0 ∨ j = 1 ∨ j = 2 ∨ j = 3 ∨ j = 4 := by omega
    rcases this with rfl | rfl | rfl | rfl | rfl <;> rfl)
  have HRR : Hid (∀ j, j < 5 → X.cell? ⟨xb + 1, j, none⟩ = some (.slice none 0 0)) := r
  have HRF : Hid (∀ j, X.frozen? ⟨xb + 1, j, none⟩ = false) := hf2
  clear hX hxb hs2 hr2 hsc r hf2
  go_cut [3] from 6 to 15 (fun s wx => ∃ p gl gc, s = .pointer (some ⟨p, 0, none⟩) ∧ Hid ((X.heap.size ≤ p ∧ X.heap.size ≤ gl ∧ X.heap.size ≤ gc) ∧ (p ≠ gl ∧ p ≠ gc ∧ gl ≠ gc) ∧ (wx.rowIs gl 4 n (fun _ => .bool false) ∧ wx.rowIs gc 3 n (fun _ => .int .i64 0)) ∧ (∀ j u, [Value.slice ad n cd, .slice aS n cs, .slice ao n co, .slice (some ⟨gl, 0, none⟩) n n, .slice (some ⟨gc, 0, none⟩) n n][j]? = some u → wx.cell? ⟨p, j, none⟩ = some u) ∧ Below X.heap.size X wx))
  case first =>
    have ca0 : ∀ o, (X.alloc o).cell? ⟨xb, 0, none⟩ = some (.slice ad n cd) := fun o => (World.cell?_alloc_lt X o ⟨xb, 0, none⟩ (by simp only; omega)).trans c0
    have cb0 : ∀ o o', ((X.alloc o).alloc o').cell? ⟨xb, 0, none⟩ = some (.slice ad n cd) := fun o o' => (World.cell?_alloc_lt _ o' ⟨xb, 0, none⟩ (by simp; omega)).trans (ca0 o)
    have cc0 : ∀ o o' o'', (((X.alloc o).alloc o').alloc o'').cell? ⟨xb, 0, none⟩ = some (.slice ad n cd) := fun o o' o'' => (World.cell?_alloc_lt _ o'' ⟨xb, 0, none⟩ (by simp; omega)).trans (cb0 o o')
    have ca1 : ∀ o, (X.alloc o).cell? ⟨xb, 1, none⟩ = some (.slice aS n cs) := fun o => (World.cell?_alloc_lt X o ⟨xb, 1, none⟩ (by simp only; omega)).trans c1
    have cb1 : ∀ o o', ((X.alloc o).alloc o').cell? ⟨xb, 1, none⟩ = some (.slice aS n cs) := fun o o' => (World.cell?_alloc_lt _ o' ⟨xb, 1, none⟩ (by simp; omega)).trans (ca1 o)
    have cc1 : ∀ o o' o'', (((X.alloc o).alloc o').alloc o'').cell? ⟨xb, 1, none⟩ = some (.slice aS n cs) := fun o o' o'' => (World.cell?_alloc_lt _ o'' ⟨xb, 1, none⟩ (by simp; omega)).trans (cb1 o o')
    have ca2 : ∀ o, (X.alloc o).cell? ⟨xb, 2, none⟩ = some (.slice ao n co) := fun o => (World.cell?_alloc_lt X o ⟨xb, 2, none⟩ (by simp only; omega)).trans c2
    have cb2 : ∀ o o', ((X.alloc o).alloc o').cell? ⟨xb, 2, none⟩ = some (.slice ao n co) := fun o o' => (World.cell?_alloc_lt _ o' ⟨xb, 2, none⟩ (by simp; omega)).trans (ca2 o)
    have cc2 : ∀ o o' o'', (((X.alloc o).alloc o').alloc o'').cell? ⟨xb, 2, none⟩ = some (.slice ao n co) := fun o o' o'' => (World.cell?_alloc_lt _ o'' ⟨xb, 2, none⟩ (by simp; omega)).trans (cb2 o o')
    go_wp2_with fail
    go_big_region
    all_goals go_wp2_with fail
    all_goals go_meet
    · exact ⟨_, X.heap.size, X.heap.size + 1, rfl, ⟨by omega, by omega, by omega⟩, ⟨by omega, by omega, by omega⟩, ⟨made3_0 X (.bool false) n 4 _ _, made3_1 X (.int .i64 0) n 3 _ _⟩, box3_2 X 101 _ _ _ _ _ _ _, below3 X _ _ _⟩
    · exact ⟨_, X.heap.size, X.heap.size + 1 + 1, rfl, ⟨by omega, by omega, by omega⟩, ⟨by omega, by omega, by omega⟩, ⟨made3_0 X (.bool false) n 4 _ _, made3_2 X (.int .i64 0) n 3 _ _⟩, box3_1 X 101 _ _ _ _ _ _ _, below3 X _ _ _⟩
    · exact ⟨_, X.heap.size + 1, X.heap.size, rfl, ⟨by omega, by omega, by omega⟩, ⟨by omega, by omega, by omega⟩, ⟨made3_1 X (.bool false) n 4 _ _, made3_0 X (.int .i64 0) n 3 _ _⟩, box3_2 X 101 _ _ _ _ _ _ _, below3 X _ _ _⟩
    · exact ⟨_, X.heap.size + 1 + 1, X.heap.size, rfl, ⟨by omega, by omega, by omega⟩, ⟨by omega, by omega, by omega⟩, ⟨made3_2 X (.bool false) n 4 _ _, made3_0 X (.int .i64 0) n 3 _ _⟩, box3_1 X 101 _ _ _ _ _ _ _, below3 X _ _ _⟩
    · exact ⟨_, X.heap.size + 1, X.heap.size + 1 + 1, rfl, ⟨by omega, by omega, by omega⟩, ⟨by omega, by omega, by omega⟩, ⟨made3_1 X (.bool false) n 4 _ _, made3_2 X (.int .i64 0) n 3 _ _⟩, box3_0 X 101 _ _ _ _ _ _ _, below3 X _ _ _⟩
    · exact ⟨_, X.heap.size + 1 + 1, X.heap.size + 1, rfl, ⟨by omega, by omega, by omega⟩, ⟨by omega, by omega, by omega⟩, ⟨made3_2 X (.bool false) n 4 _ _, made3_1 X (.int .i64 0) n 3 _ _⟩, box3_0 X 101 _ _ _ _ _ _ _, below3 X _ _ _⟩
  obtain ⟨p, gl, gc, rfl, HP⟩ := hcut
  obtain ⟨W1, hW1⟩ : ∃ W, W = wc := ⟨_, rfl⟩
  subst hW1
  have hX1 := HP.out.2.2.2.2.size
  have hgp : X.heap.size ≤ p ∧ X.heap.size ≤ gl ∧ X.heap.size ≤ gc := HP.out.1
  have hgn : p ≠ gl ∧ p ≠ gc ∧ gl ≠ gc := HP.out.2.1
  have hpl : p < W1.heap.size := cell_lt (HP.out.2.2.2.1 0 _ rfl)
  have d2 := (HP.out.2.2.2.2.cell (p := ⟨xb, 2, none⟩) (by simp only; omega)).trans c2
  have HSX : Hid (ShapeIn (fun b => b < xb) W1 L ad aS ao cd cs co) := by
    have h1 := HSH.out.below (by rw [HXB.out]; exact hBa.trans (HP.out.2.2.2.2.mono (by omega)))
    rw [HXB.out] at h1; exact h1
  have HR0 : Hid (W1.rowIs gl 4 n (fun i => .bool (decide (i < 0))) ∧ W1.rowIs gc 3 n (fun i => .int .i64 (if i < 0 then ((ovL L allL i).length : Int) else 0)) ∧ KeepBut W1 W1 gl gc) :=
    ⟨HP.out.2.2.1.1.congr (fun i _ => by simp), HP.out.2.2.1.2.congr (fun i _ => by simp), KeepBut.refl _ _ _⟩
  obtain ⟨ao', co', eo, -, hov⟩ := HSX.out.over.open_
  rw [oversI_len, HNN.out] at eo hov
  cases eo
  clear hmkb hmki HSH c0 c1
  go_wp2_with fail
  go_loopw [19] (fun q W => ∃ j : Nat, j ≤ n ∧ q = .int .i64 j ∧ Hid (W.rowIs gl 4 n (fun i => .bool (decide (i < j))) ∧ W.rowIs gc 3 n (fun i => .int .i64 (if i < j then ((ovL L allL i).length : Int) else 0)) ∧ KeepBut W1 W gl gc)) (fun q _ => n - (intOf q).toNat)
  case atStart => exact ⟨0, by omega, rfl, HR0.out⟩
  case round =>
    obtain ⟨j, hj, rfl, HJ⟩ := hrel
    by_cases hjn : j < n
    · obtain ⟨bo, oo, rfl, hbB, hbl, hrows⟩ := hov (by omega)
      obtain ⟨a1, p1, g1, -⟩ := hrows j hjn
      rw [oversI_at (by rw [HNN.out]; exact hjn)] at g1
      obtain ⟨m, hm⟩ : ∃ m, (overI L j).length = m := ⟨_, rfl⟩
      rw [hm] at g1
      have HMM : Hid ((ovL L allL j).length = m) := by show (ovL L allL j).length = m; rw [← ov_all]; exact hm
      have hbB' : bo < xb := hbB
      have e1 := (HJ.out.2.2.cell (p := ⟨bo, oo + j, none⟩) hbl (by simp only; omega) (by simp only; omega)).trans g1
      have k3 := (HJ.out.2.2.cell (p := ⟨p, 3, none⟩) hpl hgn.1 hgn.2.1).trans (HP.out.2.2.2.1 3 _ rfl)
      have k4 := (HJ.out.2.2.cell (p := ⟨p, 4, none⟩) hpl hgn.1 hgn.2.1).trans (HP.out.2.2.2.1 4 _ rfl)
      have l0 := HJ.out.1.cell (i := j) hjn
      have l1 := HJ.out.1.frozen j
      have q0 := HJ.out.2.1.cell (i := j) hjn
      have q1 := HJ.out.2.1.frozen j
      have k4' : (wr.setCell ⟨gl, j, none⟩ (.bool true)).cell? ⟨p, 4, none⟩ = some (.slice (some ⟨gc, 0, none⟩) n n) := (World.cell?_setCell_other wr _ _ _ (addr_ne (.inl (by omega)))).trans k4
      have q0' : (wr.setCell ⟨gl, j, none⟩ (.bool true)).cell? ⟨gc, j, none⟩ = some (.int .i64 (if j < j then ((ovL L allL j).length : Int) else 0)) := (World.cell?_setCell_other wr _ _ _ (addr_ne (.inl (by omega)))).trans q0
      have q1' : (wr.setCell ⟨gl, j, none⟩ (.bool true)).frozen? ⟨gc, j, none⟩ = false := by rw [World.frozen?_setCell]; exact q1
      rw [if_neg (Nat.lt_irrefl j)] at q0'
      have z2 : (j : Int) < (n : Int) := by omega
      clear hrows g1 hm hbB
      go_wp2_with fail
      go_roundw
      case rel =>
        refine ⟨j + 1, by omega, by go_num, ?_, ?_, ?_⟩
        · refine ((HJ.out.1.set j (.bool true)).setOther (a := ⟨gc, j, none⟩) hgn.2.2 _).congr (fun a _ => ?_)
          by_cases e : a = j
          · rw [if_pos e, decide_eq_true (by omega)]
          · rw [if_neg e]
            congr 1
            rw [Bool.eq_iff_iff]; simp only [decide_eq_true_eq]; omega
        · refine ((HJ.out.2.1.setOther (a := ⟨gl, j, none⟩) (Ne.symm hgn.2.2) _).set j (.int .i64 (m : Int))).congr (fun a _ => ?_)
          by_cases e : a = j
          · subst e
            rw [if_pos rfl, if_pos (by omega), HMM.out]
          · rw [if_neg e]
            by_cases e2 : a < j
            · rw [if_pos e2, if_pos (by omega)]
            · rw [if_neg e2, if_neg (by omega)]
        · exact (HJ.out.2.2.on (grown_one wr ⟨gl, j, none⟩ _) (fun b e => by cases e; exact .inl rfl)).on (grown_one _ ⟨gc, j, none⟩ _) (fun b e => by cases e; exact .inr (.inl rfl))
      case measure => simp [intOf]; omega
    · obtain rfl : j = n := by omega
      have kp : ∀ j u, _ → wr.cell? ⟨p, j, none⟩ = some u := fun j u hu => (HJ.out.2.2.cell (p := ⟨p, j, none⟩) hpl hgn.1 hgn.2.1).trans (HP.out.2.2.2.1 j u hu)
      have k0 := kp 0 _ rfl
      have k1 := kp 1 _ rfl
      have k2 := kp 2 _ rfl
      have k3 := kp 3 _ rfl
      have k4 := kp 4 _ rfl
      have rr : ∀ j, j < 5 → wr.cell? ⟨xb + 1, j, none⟩ = some (.slice none 0 0) := fun j hj => (HJ.out.2.2.cell (p := ⟨xb + 1, j, none⟩) (by simp only; omega) (by simp only; omega) (by simp only; omega)).trans ((HP.out.2.2.2.2.cell (p := ⟨xb + 1, j, none⟩) hxl).trans (HRR.out j hj))
      have r0 := rr 0 (by omega)
      have r1 := rr 1 (by omega)
      have r2 := rr 2 (by omega)
      have r3 := rr 3 (by omega)
      have r4 := rr 4 (by omega)
      have ff : ∀ j, wr.frozen? ⟨xb + 1, j, none⟩ = false := fun j => (HJ.out.2.2.frozen (p := ⟨xb + 1, j, none⟩) (by simp only; omega) (by simp only; omega) (by simp only; omega)).trans ((HP.out.2.2.2.2.frozen (p := ⟨xb + 1, j, none⟩) hxl).trans (HRF.out j))
      have f0 := ff 0
      have f1 := ff 1
      have f2 := ff 2
      have f3 := ff 3
      have f4 := ff 4
      have hput := five_put (.slice ad j cd) (.slice aS j cs) (.slice ao j co) (.slice (some ⟨gl, 0, none⟩) j j) (.slice (some ⟨gc, 0, none⟩) j j) (fun k hk => by rw [rr k hk]; rfl)
      have t0 := hput 0 _ rfl
      have t1 := hput 1 _ rfl
      have t2 := hput 2 _ rfl
      have t3 := hput 3 _ rfl
      have t4 := hput 4 _ rfl
      clear kp rr ff hput
      go_wp2_with fail
      refine bodyPost_ret (v := .agg #[.slice ad j cd, .slice aS j cs, .slice ao j co, .slice (some ⟨gl, 0, none⟩) j j, .slice (some ⟨gc, 0, none⟩) j j]) ?_ rfl ⟨gl, gc, rfl, ?_, ?_⟩
      · simp [results, Tryz.f46, go_sem, t0, t1, t2, t3, t4]
      · have hso : ∀ (b : Nat), b ≠ xb + 1 → ∀ k v, ∀ (Y : World) (t : TypeId) (n : Nat) (f : Nat → Value), Y.rowIs b t n f → (Y.setCell ⟨xb + 1, k, none⟩ v).rowIs b t n f := fun b hb k v Y t n f h => h.setOther (a := ⟨xb + 1, k, none⟩) hb v
        refine ⟨?_, ?_, ?_, by rw [HXB.out]; omega, by rw [HXB.out]; omega, hgn.2.2⟩
        · rw [HXB.out]
          refine (HSX.out.kept (by omega) (by omega) HJ.out.2.2).keep (by simp) (fun b _ hb => ?_)
          have hb' : b < xb := hb
          rw [Below.heap_setCell _ _ _ _ (by simp only; omega), Below.heap_setCell _ _ _ _ (by simp only; omega), Below.heap_setCell _ _ _ _ (by simp only; omega), Below.heap_setCell _ _ _ _ (by simp only; omega), Below.heap_setCell _ _ _ _ (by simp only; omega)]
        · rw [HNN.out]
          exact hso gl (by omega) _ _ _ _ _ _ (hso gl (by omega) _ _ _ _ _ _ (hso gl (by omega) _ _ _ _ _ _ (hso gl (by omega) _ _ _ _ _ _ (hso gl (by omega) _ _ _ _ _ _ (HJ.out.1.congr (fun i hi => by rw [decide_eq_true hi]; rfl))))))
        · rw [HNN.out]
          exact hso gc (by omega) _ _ _ _ _ _ (hso gc (by omega) _ _ _ _ _ _ (hso gc (by omega) _ _ _ _ _ _ (hso gc (by omega) _ _ _ _ _ _ (hso gc (by omega) _ _ _ _ _ _ (HJ.out.2.1.congr (fun i hi => by rw [if_pos hi]))))))
      · rw [HXB.out]
        have hb0 : Below xb w wr := by
          have h1 : Below xb w W1 := hBa.trans (HP.out.2.2.2.2.mono (by omega))
          exact ⟨HJ.out.2.2.os.trans h1.os, HJ.out.2.2.tape.trans h1.tape, HJ.out.2.2.output.trans h1.output, Nat.le_trans h1.size HJ.out.2.2.size, fun b hb => (HJ.out.2.2.block b (by omega) (by omega) (by omega)).trans (h1.block b hb)⟩
        exact ((((hb0.setCell (p := ⟨xb + 1, 0, none⟩) (by simp) _).setCell (p := ⟨xb + 1, 1, none⟩) (by simp) _).setCell (p := ⟨xb + 1, 2, none⟩) (by simp) _).setCell (p := ⟨xb + 1, 3, none⟩) (by simp) _).setCell (p := ⟨xb + 1, 4, none⟩) (by simp) _

end Go.Proofs.YtnnkmkhamipfiaaGreatDoor

namespace Go.Proofs.YtnnkmkhamipfiaaGreatDoor
open Go.RowKit Go.Shelf Go.Sort Go.Maps

attribute [local go_sem] Oper.semAt_some

/-- What Free answers. -/
def FreeSays (a : Nat → Addr) (l : List (List Int)) (w : World) (e : Ending) (w' : World) : Prop :=
  Below w.heap.size w w' ∧ ((∃ i, BadAt l i ∧ e = .returned (.tuple #[.slice none 0 0, .iface 250 (.pointer (some (a i)))])) ∨
    ∃ all v, Good l all ∧ e = .returned (.tuple #[v, .nilIface]) ∧ DuoRow w.heap.size 69 w' v (freeTo (numL all) allL (numL all).length))

theorem below_put1 {B r : Nat} {W : World} {o o' : Obj} (h : W.heap[r]? = some o) (hr : B ≤ r) : Below B W (W.putObj r o') :=
  (Below.refl B W).grown (grownBy_putObj' W r o') (by have := (Array.getElem?_eq_some_iff.1 h).1; omega) (fun k e => by cases e; exact hr)
theorem owns_down {w : World} {base base' n sz : Nat} {e : TypeId} {v : Value} {xs : List Value} (h : w.ownsRow base e sz v n xs) (hb : base' ≤ base) : w.ownsRow base' e sz v n xs :=
  ⟨h.1, h.2.imp id (fun ⟨g, cap, cur, h1, h2, h3⟩ => ⟨g, cap, cur, h1, Nat.le_trans hb h2, h3⟩)⟩

/-- The variable out, and the row that it holds. -/
def OutI (w : World) (xb ob base : Nat) (pre : List Duo) (W : World) : Prop := ∃ v, (W.cell? ⟨ob, 0, none⟩ = some v ∧ W.frozen? ⟨ob, 0, none⟩ = false) ∧ DuoRow base 69 W v pre ∧ Below xb w W
def OutM (ob : Nat) (_pre : List Duo) (W : World) (b : Nat) : Prop := b = ob ∨ ∃ v, W.cell? ⟨ob, 0, none⟩ = some v ∧ v.ownBlock = some b

theorem outI_keep {w : World} {xb ob D : Nat} (h1 : xb ≤ ob) (h2 : ob < D) : ∀ s A C, OutI w xb ob (D + 2) s A → KeepBut A C D (D + 1) → OutI w xb ob (D + 2) s C ∧ ∀ b, OutM ob s C b → OutM ob s A b := fun s A C h hk => by
  obtain ⟨v, ⟨c, f⟩, hd, hB⟩ := h
  have hob : ob < A.heap.size := cell_lt c
  have eb := hk.block ob hob (by omega) (by omega)
  have ec : C.cell? ⟨ob, 0, none⟩ = A.cell? ⟨ob, 0, none⟩ := World.cell?_of_block eb
  refine ⟨⟨v, ⟨ec.trans c, (World.frozen?_of_block eb).trans f⟩, ownsRow_of_block hd (fun b hb => ?_), ?_⟩, fun b hb => ?_⟩
  · have := hd.lt b hb
    exact hk.block b this.2 (by omega) (by omega)
  · exact ⟨hk.os.trans hB.os, hk.tape.trans hB.tape, hk.output.trans hB.output, Nat.le_trans hB.size hk.size, fun b hb => (hk.block b (by omega) (by omega) (by omega)).trans (hB.block b hb)⟩
  · rcases hb with hb | ⟨u, hu, hb⟩
    · exact .inl hb
    · exact .inr ⟨u, by rw [← ec]; exact hu, hb⟩
theorem outM_lt {w : World} {xb ob D : Nat} {S : Nat → Prop} (h2 : ob < D) (hS : ¬ S ob) (hS2 : ∀ b, S b → b < D) : ∀ s A b, OutI w xb ob (D + 2) s A → OutM ob s A b → (¬ S b ∧ b < A.heap.size) ∧ b ≠ D ∧ b ≠ D + 1 := fun s A b h hb => by
  obtain ⟨v, ⟨c, f⟩, hd, hB⟩ := h
  rcases hb with rfl | ⟨u, hu, hb⟩
  · exact ⟨⟨hS, cell_lt c⟩, by omega, by omega⟩
  · rw [c] at hu
    cases hu
    have := hd.lt b hb
    exact ⟨⟨fun h => by have := hS2 b h; omega, this.2⟩, by omega, by omega⟩

set_option maxRecDepth 100000 in
set_option maxHeartbeats 8000000 in
theorem free_ {a : Nat → Addr} {s : Nat → ByteArray} (vl : Value) (l : List (List Int)) (w : World) (hE : Errs a s w) (hl : Rows w vl l) (hll : l.length ≤ 100000) (hle : ∀ x ∈ l, x.length ≤ 1000) :
    Calls Tryz.prog 27 #[.agg #[vl]] w fun e w' => FreeSays a l w e w' := by
  obtain ⟨i0, hi0, hz0, hz1, hz2⟩ := info_parts Tryz.infop
  obtain ⟨al, cl, rfl, -, -⟩ := hl.open_
  have hBa : Below w.heap.size w (w.alloc (.cells #[.slice al l.length cl] 39)) := (Below.refl _ w).alloc (Nat.le_refl _) _
  have hnu := number_ (.slice al l.length cl) l _ (hE.below hBa) (hl.below hBa) hll hle
  have hcb := (box_new w (.slice al l.length cl) 39).1
  unfold NumSays noShape shapeV at hnu
  clear hE hl hll hle
  refine (callsIn_wide (n := 10)).1 ?_
  refine callsIn_of_wp_marks Tryz.func27 rfl trivial ?_ rfl
  simp only [Tryz.ntmps27, List.size_toArray, List.length_cons, List.length_nil, Nat.reduceAdd, Nat.reduceSub, Array.replicate_succ, Array.replicate_zero, List.push_toArray, List.append_toArray, List.nil_append, List.cons_append]
  gi_wp2
  refine ⟨trivial, ?_⟩
  refine (callsIn_wide.2 hnu).mono ?_
  clear hnu
  rintro e w2 ⟨hB2, ⟨i, hbad, rfl⟩ | ⟨all, ad, aS, ao, cd, cs, co, hg, rfl, hsh⟩⟩
  · have hs3 := three_at w2 (.slice none 0 0) (.slice none 0 0) (.slice none 0 0) 79
    have s0 := hs3 0 _ rfl
    have s1 := hs3 1 _ rfl
    have s2 := hs3 2 _ rfl
    have HBD : Hid (BadAt l i ∧ Below w.heap.size w w2) := ⟨hbad, hBa.trans (hB2.mono (by simp))⟩
    clear hbad hB2 hs3
    gi_wp2
    refine ⟨.tuple #[.slice none 0 0, .iface 250 (.pointer (some (a i)))], ?_, HBD.out.2.alloc HBD.out.2.size _, .inl ⟨i, HBD.out.1, rfl⟩⟩
    simp [results, Tryz.f27, go_sem]
  · obtain ⟨L, hL⟩ : ∃ L, numL all = L := ⟨_, rfl⟩
    obtain ⟨n, hn⟩ : ∃ n, L.length = n := ⟨_, rfl⟩
    have HG : Hid (Good l all ∧ numL all = L ∧ L.length = n) := ⟨hg, hL, hn⟩
    have hL6 : n ≤ 600 := by rw [← hn, ← hL]; exact Nat.le_trans (num_len (order_nodup hg.isAll.order) _) hg.length
    have HFL : Hid (FaceList L) := by rw [← hL]; exact good_faces hg
    rw [hL] at hsh ⊢
    rw [hn]
    have HBW : Hid (Below w.heap.size w w2) := hBa.trans (hB2.mono (by simp))
    have HSH : Hid (ShapeIn (fun b => b < w2.heap.size) w2 L ad aS ao cd cs co) := hsh.mono (fun b hb _ => hb)
    have hs3 := three_at w2 (.slice none 0 0) (.slice none 0 0) (.slice none 0 0) 79
    have s0 := hs3 0 _ rfl
    have s1 := hs3 1 _ rfl
    have s2 := hs3 2 _ rfl
    have hs4 := three_at w2 (.slice ad n cd) (.slice aS n cs) (.slice ao n co) 79
    have t0 := (World.cell?_alloc_lt _ (.cells #[.slice none 0 0] 23) ⟨w2.heap.size, 0, none⟩ (by simp)).trans (hs4 0 _ rfl).1
    have t1 := (World.cell?_alloc_lt _ (.cells #[.slice none 0 0] 23) ⟨w2.heap.size, 1, none⟩ (by simp)).trans (hs4 1 _ rfl).1
    have t2 := (World.cell?_alloc_lt _ (.cells #[.slice none 0 0] 23) ⟨w2.heap.size, 2, none⟩ (by simp)).trans (hs4 2 _ rfl).1
    have hob := box_new (w2.alloc (.cells #[.slice ad n cd, .slice aS n cs, .slice ao n co] 79)) (.slice none 0 0) 23
    rw [World.size_alloc] at hob
    have hBV : Below w2.heap.size w2 ((w2.alloc (.cells #[.slice ad n cd, .slice aS n cs, .slice ao n co] 79)).alloc (.cells #[.slice none 0 0] 23)) := ((Below.refl _ w2).alloc (Nat.le_refl _) _).alloc (by simp) _
    have hun := uncut_ _ ((HSH.out.below hBV).mono (fun b hb _ => hb)) (by rw [hn]; exact hL6)
    rw [hn] at hun
    unfold shapeV restV at hun
    clear hg hsh hL hn hB2 hs3 hs4 hBa
    gi_wp2
    refine ⟨trivial, ?_⟩
    refine (callsIn_wide.2 hun).mono ?_
    clear hun
    rintro e w4 ⟨gl, gc, rfl, hra, hB4⟩
    gi_wp2
    obtain ⟨V, hV⟩ : ∃ V, (w2.alloc (.cells #[.slice ad n cd, .slice aS n cs, .slice ao n co] 79)).alloc (.cells #[.slice none 0 0] 23) = V := ⟨_, rfl⟩
    rw [hV] at hra hB4 hBV hob
    obtain ⟨sb, hsb⟩ : ∃ sb, w2.heap.size = sb := ⟨_, rfl⟩
    have hVs : V.heap.size = sb + 1 + 1 := by rw [← hV, ← hsb]; simp
    rw [hsb] at hob hBV HSH
    try rw [hsb]
    obtain ⟨xb, hxb⟩ : ∃ xb, w.heap.size = xb := ⟨_, rfl⟩
    rw [hxb] at HBW
    try rw [hxb]
    obtain ⟨D, hD⟩ : ∃ D, w4.heap.size = D := ⟨_, rfl⟩
    have hs4 := hB4.size
    have hx2 : xb ≤ sb := by have := HBW.out.size; omega
    have HRE : Hid (RestAt sb w4 L ad aS ao cd cs co gl gc allL) := ⟨by
      have h1 := HSH.out.below (by rw [hsb]; exact hBV)
      exact h1.below hB4, hra.lefts, hra.counts, by have := hra.bl; omega, by have := hra.bc; omega, hra.ne⟩
    have HB4w : Hid (Below xb w w4) := HBW.out.trans ((hBV.mono (by omega)).trans (hB4.mono (by omega)))
    have hseq := free_seq w4 HRE.out (by rw [HG.out.2.2]; exact hL6) HFL.out (cplx_all L)
    rw [HG.out.2.2] at hseq
    unfold restV at hseq
    have hXS : (freeTo L allL n).length ≤ 600 := Nat.le_trans (freeTo_len _ _ _) hL6
    obtain ⟨XS, hXe⟩ : ∃ XS, freeTo L allL n = XS := ⟨_, rfl⟩
    have HXE : Hid (freeTo L allL n = XS) := hXe
    rw [hXe] at hXS hseq
    have HI0 : Hid (OutI w xb (sb + 1) (D + 2) [] w4) := ⟨.slice none 0 0, ⟨(hB4.cell (p := ⟨sb + 1, 0, none⟩) (by simp only; omega)).trans hob.1, (hB4.frozen (p := ⟨sb + 1, 0, none⟩) (by simp only; omega)).trans hob.2⟩, World.ownsRow_nil _ _ _ _, HB4w.out⟩
    have hgg := hra.bl
    have hgh := hra.bc
    have hSlt := HRE.out.lt
    have hkI := outI_keep (w := w) (xb := xb) (ob := sb + 1) (D := D) (by omega) (by omega)
    have hkM := outM_lt (w := w) (xb := xb) (ob := sb + 1) (D := D) (S := restS sb gl gc) (by omega) (fun h => by rcases h with h | h | h <;> omega) (fun b hb => by have := hSlt b hb; omega)
    have HXB : Hid (w.heap.size = xb ∧ w4.heap.size = D) := ⟨hxb, hD⟩
    have hDs : sb + 1 < D := by omega
    clear hV hsb hob hBV hra hB4 s0 s1 s2 t0 t1 t2 hXe hgg hgh
    refine range_a (w0 := w4) (xs := XS) (enc := duoV) rfl (enters_of Tryz.func57 (by kernel_rfl) rfl) hseq hSlt (Below.refl _ _) rfl
      (OutI w xb (sb + 1) (D + 2)) (OutM (sb + 1)) (by rw [hD]; exact hkI) (by rw [hD]; exact hkM) HI0.out
      (fun x W => { tmps := #[.agg #[.slice al l.length cl], .pointer (some ⟨xb, 0, none⟩), .slice none 0 0, .nilIface, .pointer (some ⟨sb, 0, none⟩), .nilIface, .pointer (some ⟨sb + 1, 0, none⟩), .pointer (some ⟨W.heap.size, 0, none⟩), .tuple #[.agg #[.slice ad n cd, .slice aS n cs, .slice ao n co], .nilIface], .agg #[.slice al l.length cl], .tuple #[.agg #[.slice ad n cd, .slice aS n cs, .slice ao n co], .nilIface], .agg #[.slice ad n cd, .slice aS n cs, .slice ao n co], .nilIface, .nilIface, .bool false, undef, .agg #[.slice ad n cd, .slice aS n cs, .slice ao n co], .agg #[.slice ad n cd, .slice aS n cs, .slice ao n co, .slice (some ⟨gl, 0, none⟩) n n, .slice (some ⟨gc, 0, none⟩) n n], .func (.func 57) #[.agg #[.slice ad n cd, .slice aS n cs, .slice ao n co, .slice (some ⟨gl, 0, none⟩) n n, .slice (some ⟨gc, 0, none⟩) n n]] #[], duoV x, undef, undef, undef, undef, undef], defers := [] })
      (fun x W => W.alloc (.cells #[.int .i64 x.1, .int .i64 x.2] 69)) (fun x W => (Below.refl _ W).alloc (Nat.le_refl _) _) ?assign ?body ?done
    case assign =>
      intro lp x W K hK
      have hp2 := two_box W (.int .i64 0) (.int .i64 0) 69
      unfold duoV at hK ⊢
      gi_wp2
      exact hK
    case body =>
      rintro lp pre x W Wb hIb hKb hWs hpl
      obtain ⟨v, hc, hd, hB⟩ := hIb
      obtain ⟨av, cv, rfl⟩ := own_slice hd
      have hpx := two_box W (.int .i64 x.1) (.int .i64 x.2) 69
      rw [hD] at hWs hKb
      have eb := hKb.block W.heap.size (by simp) (by omega) (by omega)
      have p0 := (World.cell?_of_block (a := ⟨W.heap.size, 0, none⟩) eb).trans hpx.1
      have p1 := (World.cell?_of_block (a := ⟨W.heap.size, 1, none⟩) eb).trans hpx.2
      have hWb := hKb.size
      rw [World.size_alloc] at hWb
      have hdd : Wb.ownsRow (D + 2) 69 2 (.slice av pre.length cv) pre.length (duoCells pre) := hd
      obtain ⟨pl, hple⟩ : ∃ pl, pre.length = pl := ⟨_, rfl⟩
      rw [hple] at hdd hc hpl
      have hplb : pl ≤ 600 := by omega
      have HPL : Hid (pre.length = pl) := hple
      have hne : some (sb + 1) ≠ (Value.slice av pl cv).ownBlock := fun e => by have := (hdd.lt (sb + 1) e.symm).1; omega
      have HC := Hid.mk' hc
      obtain ⟨c0, f0⟩ := hc
      have HBW2 : Hid (Below xb w Wb) := hB
      have hob : sb + 1 < Wb.heap.size := cell_lt c0
      clear hd hB hple hpx eb hKb HI0 HRE hkI hkM hseq
      gi_wp2_with (first
        | (gi_at_builtin; refine wpListIn_append_own_at _ rfl (.tmp 20) (.tmp 22) 23 rfl (D + 2) 69 i0 (.agg #[.int .i64 0, .int .i64 0]) 2 16 Tryz.underlying23 hi0 hz0 hz1 hz2 rfl (by decide) _ pl _ rfl (hdd.alloc _) ⟨_, 0, none⟩ 1 1 [.int .i64 x.1, .int .i64 x.2] rfl rfl (cells_new _ _ _) (by simp [Value.oneCell']) (by unfold maxLen; omega) (by omega) (by simp; omega) ?_; intro v5 w5 hown5 hg5 hn5 hl5; have hf := far_kept hg5 (p := ⟨sb + 1, 0, none⟩) HC.out hne; obtain ⟨a5, c5, rfl⟩ := own_slice hown5; have f1 := hf.1; have f2 := hf.2)
        | fail)
      show OutI w xb (sb + 1) (D + 2) (pre ++ [x]) _ ∧ RoundKept (OutM (sb + 1)) pre x Wb _
      have hg6 : (Wb.alloc (.cells #[.int .i64 x.1, .int .i64 x.2] 69)).grownBy w5 (Value.slice av pl cv).ownBlock := hg5
      have hl6 : (Value.slice a5 (pl + 1) c5).ownBlock = (Value.slice av pl cv).ownBlock ∨ (Value.slice a5 (pl + 1) c5).ownBlock = some (Wb.alloc (.cells #[.int .i64 x.1, .int .i64 x.2] 69)).heap.size := hl5
      have hs5 := hg6.size
      rw [World.size_alloc] at hs5 hl6
      have hB5 := (((HBW2.out.alloc (by omega) (.cells #[.int .i64 x.1, .int .i64 x.2] 69)).grown hg6 (by simp; omega) (fun b hb => by have := (hdd.lt b hb).1; omega)).setCell (p := ⟨sb + 1, 0, none⟩) (by simp only; omega) (.slice a5 (pl + 1) c5))
      have hc5 := World.cell?_setCell_same' w5 ⟨sb + 1, 0, none⟩ (.slice a5 (pl + 1) c5) (by rw [f1]; rfl)
      refine ⟨⟨_, ⟨hc5, by rw [World.frozen?_setCell]; exact f2⟩, ?_, hB5⟩, ?_, fun b hb hnm => ?_, ?_⟩
      · unfold DuoRow
        rw [duoCells_snoc, List.length_append, HPL.out]
        exact ownsRow_of_block hown5 (fun b hb => Below.heap_setCell w5 _ _ b (fun e => by have := (hown5.lt b hb).1; simp only at e; omega))
      · simp; omega
      · have h1 : b ≠ sb + 1 := fun e => hnm (.inl e)
        have h2 : some b ≠ (Value.slice av pl cv).ownBlock := fun e => hnm (.inr ⟨_, c0, e.symm⟩)
        exact (Below.heap_setCell w5 _ _ b (fun e => by simp only at e; omega)).trans ((hg6.block b (by simp; omega) h2).trans (Below.heap_alloc Wb _ b hb))
      · rintro b (rfl | ⟨u, hu, hb⟩)
        · exact .inl (.inl rfl)
        · rw [hc5] at hu
          cases hu
          rcases hl6 with e | e
          · exact .inl (.inr ⟨_, c0, e.symm.trans hb⟩)
          · rw [e] at hb
            cases hb
            exact .inr (by omega)
    case done =>
      rintro W hIx hK
      obtain ⟨v, ⟨c0, f0⟩, hd, hB⟩ := hIx
      obtain ⟨av, cv, rfl⟩ := own_slice hd
      have HD1 : Hid (DuoRow (D + 2) 69 W (.slice av XS.length cv) XS ∧ Below xb w W) := ⟨hd, hB⟩
      have hW : D < W.heap.size := by have := (Array.getElem?_eq_some_iff.1 hK).1; omega
      clear hd hB hkI hkM hseq
      gi_wp2
      refine ⟨by simp, .inl ⟨_, _, rfl, run_takeDeferred hK, ?_⟩⟩
      refine ⟨.tuple #[.slice av XS.length cv, .nilIface], ?_, ?_⟩
      · simp [results, Tryz.f27, go_sem]
      · unfold FreeSays
        rw [HXB.out.1]
        refine ⟨HD1.out.2.trans (below_put1 hK (by omega)), .inr ⟨all, _, HG.out.1, rfl, ?_⟩⟩
        rw [HG.out.2.1, HG.out.2.2, HXE.out]
        have h1 : DuoRow (D + 2) 69 (W.putObj w4.heap.size (.deferred none)) (.slice av XS.length cv) XS := ownsRow_of_block HD1.out.1 (fun b hb => World.putObj_heap_other (by have := (HD1.out.1.lt b hb).1; omega))
        exact owns_down h1 (by omega)

end Go.Proofs.YtnnkmkhamipfiaaGreatDoor
