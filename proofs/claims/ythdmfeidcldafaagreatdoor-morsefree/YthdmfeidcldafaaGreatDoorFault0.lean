/- What uncut answers: nothing is cut away yet. An error of *api.Fault in memory. -/
import Derived.Test.YthdmfeidcldafaaGreatDoorMorseRest
import Derived.Deep.OwnRows
import Derived.Test.YthdmfeidcldafaaGreatDoorBase
namespace Go.Proofs.YthdmfeidcldafaaGreatDoor
open Go.RowKit Go.Sort

theorem Tryz.info4 : (Tryz.prog.info? 4).map (fun i => (i.zero, i.size, i.bytes)) = some (some (.bool false), 1, 1) := by kernel_rfl

theorem ov_all (L : List (List Int)) (i : Nat) : (overI L i).length = (ovL L allL i).length := by unfold overI; rw [List.length_map, ovD_all]

theorem frozen_fresh (W : World) (A : Array Value) (t : TypeId) (k : Nat) : (W.alloc (.cells A t)).frozen? ⟨W.heap.size, k, none⟩ = false := by
  have hg : (W.alloc (.cells A t)).heap[W.heap.size]? = some (.cells A t) := (Go.MapKept.heap_alloc W _).1
  simp only [World.frozen?, hg]
  simp

/-- Five cells that are stored. -/
theorem five_put {W : World} {B : Nat} (v0 v1 v2 v3 v4 : Value) (h : ∀ j, j < 5 → (W.cell? ⟨B, j, none⟩).isSome = true) :
    ∀ j u, [v0, v1, v2, v3, v4][j]? = some u → (((((W.setCell ⟨B, 0, none⟩ v0).setCell ⟨B, 1, none⟩ v1).setCell ⟨B, 2, none⟩ v2).setCell ⟨B, 3, none⟩ v3).setCell ⟨B, 4, none⟩ v4).cell? ⟨B, j, none⟩ = some u := by
  have ne : ∀ {i j : Nat}, i ≠ j → (⟨B, i, none⟩ : Addr) ≠ ⟨B, j, none⟩ := fun h => addr_ne (.inr h)
  intro j u hu
  have hj : j < 5 := by simpa using (List.getElem?_eq_some_iff.1 hu).1
  have hc : j = 0 ∨ j = 1 ∨ j = 2 ∨ j = 3 ∨ j = 4 := by omega
  rcases hc with rfl | rfl | rfl | rfl | rfl <;> cases hu
  · rw [World.cell?_setCell_other _ _ _ _ (ne (by decide)), World.cell?_setCell_other _ _ _ _ (ne (by decide)), World.cell?_setCell_other _ _ _ _ (ne (by decide)), World.cell?_setCell_other _ _ _ _ (ne (by decide))]
    exact World.cell?_setCell_same' _ _ _ (h 0 (by omega))
  · rw [World.cell?_setCell_other _ _ _ _ (ne (by decide)), World.cell?_setCell_other _ _ _ _ (ne (by decide)), World.cell?_setCell_other _ _ _ _ (ne (by decide))]
    exact World.cell?_setCell_same' _ _ _ (by rw [World.cell?_setCell_other _ _ _ _ (ne (by decide))]; exact h 1 (by omega))
  · rw [World.cell?_setCell_other _ _ _ _ (ne (by decide)), World.cell?_setCell_other _ _ _ _ (ne (by decide))]
    exact World.cell?_setCell_same' _ _ _ (by rw [World.cell?_setCell_other _ _ _ _ (ne (by decide)), World.cell?_setCell_other _ _ _ _ (ne (by decide))]; exact h 2 (by omega))
  · rw [World.cell?_setCell_other _ _ _ _ (ne (by decide))]
    exact World.cell?_setCell_same' _ _ _ (by rw [World.cell?_setCell_other _ _ _ _ (ne (by decide)), World.cell?_setCell_other _ _ _ _ (ne (by decide)), World.cell?_setCell_other _ _ _ _ (ne (by decide))]; exact h 3 (by omega))
  · exact World.cell?_setCell_same' _ _ _ (by rw [World.cell?_setCell_other _ _ _ _ (ne (by decide)), World.cell?_setCell_other _ _ _ _ (ne (by decide)), World.cell?_setCell_other _ _ _ _ (ne (by decide)), World.cell?_setCell_other _ _ _ _ (ne (by decide))]; exact h 4 (by omega))

section
variable (X : World) (z : Value) (n : Nat) (t : TypeId) (o0 o1 o2 : Obj) (a b c d e : Value)
theorem made3_0 : ((((X.alloc (.cells (madeCells #[z] n) t)).alloc o1).alloc o2).drew).rowIs X.heap.size t n (fun _ => z) := (((World.rowIs_made X z n t).alloc o1).alloc o2).drew
theorem made3_1 : ((((X.alloc o0).alloc (.cells (madeCells #[z] n) t)).alloc o2).drew).rowIs (X.heap.size + 1) t n (fun _ => z) := by
  have := ((World.rowIs_made (X.alloc o0) z n t).alloc o2).drew
  rwa [World.size_alloc] at this
theorem made3_2 : ((((X.alloc o0).alloc o1).alloc (.cells (madeCells #[z] n) t)).drew).rowIs (X.heap.size + 1 + 1) t n (fun _ => z) := by
  have := (World.rowIs_made ((X.alloc o0).alloc o1) z n t).drew
  rwa [World.size_alloc, World.size_alloc] at this
theorem box3_0 : ∀ j u, [a, b, c, d, e][j]? = some u → ((((X.alloc (.cells #[a, b, c, d, e] t)).alloc o1).alloc o2).drew).cell? ⟨X.heap.size, j, none⟩ = some u := fun j u hu => ((World.cell?_alloc_lt _ o2 ⟨X.heap.size, j, none⟩ (by simp; omega)).trans (World.cell?_alloc_lt _ o1 ⟨X.heap.size, j, none⟩ (by simp))).trans (rest_cells X a b c d e t j u hu)
theorem box3_1 : ∀ j u, [a, b, c, d, e][j]? = some u → ((((X.alloc o0).alloc (.cells #[a, b, c, d, e] t)).alloc o2).drew).cell? ⟨X.heap.size + 1, j, none⟩ = some u := fun j u hu => by
  have := rest_cells (X.alloc o0) a b c d e t j u hu
  rw [World.size_alloc] at this
  exact (World.cell?_alloc_lt _ o2 ⟨X.heap.size + 1, j, none⟩ (by simp)).trans this
theorem box3_2 : ∀ j u, [a, b, c, d, e][j]? = some u → ((((X.alloc o0).alloc o1).alloc (.cells #[a, b, c, d, e] t)).drew).cell? ⟨X.heap.size + 1 + 1, j, none⟩ = some u := fun j u hu => by
  have := rest_cells ((X.alloc o0).alloc o1) a b c d e t j u hu
  rw [World.size_alloc, World.size_alloc] at this
  exact this
theorem below3 : Below X.heap.size X (((X.alloc o0).alloc o1).alloc o2).drew := ((((Below.refl _ X).alloc (Nat.le_refl _) _).alloc (by simp) _).alloc (by simp; omega) _).drew
end

set_option maxRecDepth 100000 in
set_option maxHeartbeats 4000000 in
theorem uncut_ {L : List (List Int)} {ad aS ao : Option Addr} {cd cs co : Nat} (w : World) (h : ShapeIn (fun b => b < w.heap.size) w L ad aS ao cd cs co) (hL6 : L.length ≤ 600) :
    Calls Tryz.prog 23 #[shapeV L.length ad aS ao cd cs co] w fun e w' => ∃ gl gc, e = .returned (restV L.length ad aS ao cd cs co gl gc) ∧ RestAt w.heap.size w' L ad aS ao cd cs co gl gc allL ∧ Below w.heap.size w w' := by
  obtain ⟨n, hn⟩ : ∃ n, L.length = n := ⟨_, rfl⟩
  have HNN : Hid (L.length = n) := hn
  have HSH : Hid (ShapeIn (fun b => b < w.heap.size) w L ad aS ao cd cs co) := h
  have hmkb := run_make_row' (P := Tryz.prog) 43 4 (.bool false) 1 Tryz.underlying43 Tryz.info4 rfl .i64 .i64 n (by omega) (by omega)
  have hmki := run_make_row' (P := Tryz.prog) 51 3 (.int .i64 0) 8 Tryz.underlying51 Tryz.info3 rfl .i64 .i64 n (by omega) (by omega)
  have hsc : ∀ j u, [Value.slice ad n cd, .slice aS n cs, .slice ao n co][j]? = some u → (w.alloc (.cells #[.slice ad n cd, .slice aS n cs, .slice ao n co] 56)).cell? ⟨w.heap.size, j, none⟩ = some u := fun j u hu => by
    have := cells_new w [.slice ad n cd, .slice aS n cs, .slice ao n co] 56 j u hu
    rwa [Addr.add_lit, Nat.zero_add] at this
  unfold shapeV restV
  rw [hn] at hL6 ⊢
  clear h hn
  go_enter Tryz.func23, Tryz.ntmps23
  go_upto_region 1 with fail
  have hBa : Below w.heap.size w ((w.alloc (.cells #[.slice ad n cd, .slice aS n cs, .slice ao n co] 56)).alloc (.cells #[.slice none 0 0, .slice none 0 0, .slice none 0 0, .slice none 0 0, .slice none 0 0] 61)) := ((Below.refl _ w).alloc (Nat.le_refl _) _).alloc (by simp) _
  have hs2 : ∀ j u, [Value.slice ad n cd, .slice aS n cs, .slice ao n co][j]? = some u → ((w.alloc (.cells #[.slice ad n cd, .slice aS n cs, .slice ao n co] 56)).alloc (.cells #[.slice none 0 0, .slice none 0 0, .slice none 0 0, .slice none 0 0, .slice none 0 0] 61)).cell? ⟨w.heap.size, j, none⟩ = some u := fun j u hu => (World.cell?_alloc_lt _ _ ⟨w.heap.size, j, none⟩ (by simp)).trans (hsc j u hu)
  have hr2 := rest_cells (w.alloc (.cells #[.slice ad n cd, .slice aS n cs, .slice ao n co] 56)) (.slice none 0 0) (.slice none 0 0) (.slice none 0 0) (.slice none 0 0) (.slice none 0 0) 61
  have hf2 := frozen_fresh (w.alloc (.cells #[.slice ad n cd, .slice aS n cs, .slice ao n co] 56)) #[.slice none 0 0, .slice none 0 0, .slice none 0 0, .slice none 0 0, .slice none 0 0] 61
  rw [World.size_alloc] at hr2 hf2
  obtain ⟨X, hX⟩ : ∃ X, (w.alloc (.cells #[.slice ad n cd, .slice aS n cs, .slice ao n co] 56)).alloc (.cells #[.slice none 0 0, .slice none 0 0, .slice none 0 0, .slice none 0 0, .slice none 0 0] 61) = X := ⟨_, rfl⟩
  obtain ⟨xb, hxb⟩ : ∃ xb, w.heap.size = xb := ⟨_, rfl⟩
  have hxl : xb + 1 < X.heap.size := by rw [← hX, ← hxb]; simp
  rw [hX, hxb] at hs2 hr2 hBa hf2
  try rw [hX]
  try rw [hxb]
  have HXB : Hid (w.heap.size = xb) := hxb
  have c0 := hs2 0 _ rfl
  have c1 := hs2 1 _ rfl
  have c2 := hs2 2 _ rfl
  have r : ∀ j, j < 5 → X.cell? ⟨xb + 1, j, none⟩ = some (.slice none 0 0) := fun j hj => hr2 j _ (by
    have : j = 0 ∨ j = 1 ∨ j = 2 ∨ j = 3 ∨ j = 4 := by omega
    rcases this with rfl | rfl | rfl | rfl | rfl <;> rfl)
  have HRR : Hid (∀ j, j < 5 → X.cell? ⟨xb + 1, j, none⟩ = some (.slice none 0 0)) := r
  have HRF : Hid (∀ j, X.frozen? ⟨xb + 1, j, none⟩ = false) := hf2
  clear hX hxb hs2 hr2 hsc r hf2
  go_cut [3] from 6 to 15 (fun s wx => ∃ p gl gc, s = .pointer (some ⟨p, 0, none⟩) ∧ Hid ((X.heap.size ≤ p ∧ X.heap.size ≤ gl ∧ X.heap.size ≤ gc) ∧ (p ≠ gl ∧ p ≠ gc ∧ gl ≠ gc) ∧ (wx.rowIs gl 4 n (fun _ => .bool false) ∧ wx.rowIs gc 3 n (fun _ => .int .i64 0)) ∧ (∀ j u, [Value.slice ad n cd, .slice aS n cs, .slice ao n co, .slice (some ⟨gl, 0, none⟩) n n, .slice (some ⟨gc, 0, none⟩) n n][j]? = some u → wx.cell? ⟨p, j, none⟩ = some u) ∧ Below X.heap.size X wx))
  case first =>
    have ca0 : ∀ o, (X.alloc o).cell? ⟨xb, 0, none⟩ = some (.slice ad n cd) := fun o => (World.cell?_alloc_lt X o ⟨xb, 0, none⟩ (by simp only; omega)).trans c0
    have cb0 : ∀ o o', ((X.alloc o).alloc o').cell? ⟨xb, 0, none⟩ = some (.slice ad n cd) := fun o o' => (World.cell?_alloc_lt _ o' ⟨xb, 0, none⟩ (by simp; omega)).trans (ca0 o)
    have cc0 : ∀ o o' o'', (((X.alloc o).alloc o').alloc o'').cell? ⟨xb, 0, none⟩ = some (.slice ad n cd) := fun o o' o'' => (World.cell?_alloc_lt _ o'' ⟨xb, 0, none⟩ (by simp; omega)).trans (cb0 o o')
    have ca1 : ∀ o, (X.alloc o).cell? ⟨xb, 1, none⟩ = some (.slice aS n cs) := fun o => (World.cell?_alloc_lt X o ⟨xb, 1, none⟩ (by simp only; omega)).trans c1
    have cb1 : ∀ o o', ((X.alloc o).alloc o').cell? ⟨xb, 1, none⟩ = some (.slice aS n cs) := fun o o' => (World.cell?_alloc_lt _ o' ⟨xb, 1, none⟩ (by simp; omega)).trans (ca1 o)
    have cc1 : ∀ o o' o'', (((X.alloc o).alloc o').alloc o'').cell? ⟨xb, 1, none⟩ = some (.slice aS n cs) := fun o o' o'' => (World.cell?_alloc_lt _ o'' ⟨xb, 1, none⟩ (by simp; omega)).trans (cb1 o o')
    have ca2 : ∀ o, (X.alloc o).cell? ⟨xb, 2, none⟩ = some (.slice ao n co) := fun o => (World.cell?_alloc_lt X o ⟨xb, 2, none⟩ (by simp only; omega)).trans c2
    have cb2 : ∀ o o', ((X.alloc o).alloc o').cell? ⟨xb, 2, none⟩ = some (.slice ao n co) := fun o o' => (World.cell?_alloc_lt _ o' ⟨xb, 2, none⟩ (by simp; omega)).trans (ca2 o)
    have cc2 : ∀ o o' o'', (((X.alloc o).alloc o').alloc o'').cell? ⟨xb, 2, none⟩ = some (.slice ao n co) := fun o o' o'' => (World.cell?_alloc_lt _ o'' ⟨xb, 2, none⟩ (by simp; omega)).trans (cb2 o o')
    go_wp2_with fail
    go_big_region
    all_goals go_wp2_with fail
    all_goals go_meet
    · exact ⟨_, X.heap.size, X.heap.size + 1, rfl, ⟨by omega, by omega, by omega⟩, ⟨by omega, by omega, by omega⟩, ⟨made3_0 X (.bool false) n 4 _ _, made3_1 X (.int .i64 0) n 3 _ _⟩, box3_2 X 61 _ _ _ _ _ _ _, below3 X _ _ _⟩
    · exact ⟨_, X.heap.size, X.heap.size + 1 + 1, rfl, ⟨by omega, by omega, by omega⟩, ⟨by omega, by omega, by omega⟩, ⟨made3_0 X (.bool false) n 4 _ _, made3_2 X (.int .i64 0) n 3 _ _⟩, box3_1 X 61 _ _ _ _ _ _ _, below3 X _ _ _⟩
    · exact ⟨_, X.heap.size + 1, X.heap.size, rfl, ⟨by omega, by omega, by omega⟩, ⟨by omega, by omega, by omega⟩, ⟨made3_1 X (.bool false) n 4 _ _, made3_0 X (.int .i64 0) n 3 _ _⟩, box3_2 X 61 _ _ _ _ _ _ _, below3 X _ _ _⟩
    · exact ⟨_, X.heap.size + 1 + 1, X.heap.size, rfl, ⟨by omega, by omega, by omega⟩, ⟨by omega, by omega, by omega⟩, ⟨made3_2 X (.bool false) n 4 _ _, made3_0 X (.int .i64 0) n 3 _ _⟩, box3_1 X 61 _ _ _ _ _ _ _, below3 X _ _ _⟩
    · exact ⟨_, X.heap.size + 1, X.heap.size + 1 + 1, rfl, ⟨by omega, by omega, by omega⟩, ⟨by omega, by omega, by omega⟩, ⟨made3_1 X (.bool false) n 4 _ _, made3_2 X (.int .i64 0) n 3 _ _⟩, box3_0 X 61 _ _ _ _ _ _ _, below3 X _ _ _⟩
    · exact ⟨_, X.heap.size + 1 + 1, X.heap.size + 1, rfl, ⟨by omega, by omega, by omega⟩, ⟨by omega, by omega, by omega⟩, ⟨made3_2 X (.bool false) n 4 _ _, made3_1 X (.int .i64 0) n 3 _ _⟩, box3_0 X 61 _ _ _ _ _ _ _, below3 X _ _ _⟩
  obtain ⟨p, gl, gc, rfl, HP⟩ := hcut
  obtain ⟨W1, hW1⟩ : ∃ W, W = wc := ⟨_, rfl⟩
  subst hW1
  have hX1 := HP.out.2.2.2.2.size
  have hgp : X.heap.size ≤ p ∧ X.heap.size ≤ gl ∧ X.heap.size ≤ gc := HP.out.1
  have hgn : p ≠ gl ∧ p ≠ gc ∧ gl ≠ gc := HP.out.2.1
  have hpl : p < W1.heap.size := cell_lt (HP.out.2.2.2.1 0 _ rfl)
  have d2 := (HP.out.2.2.2.2.cell (p := ⟨xb, 2, none⟩) (by simp only; omega)).trans c2
  have HSX : Hid (ShapeIn (fun b => b < xb) W1 L ad aS ao cd cs co) := by
    have h1 := HSH.out.below (by rw [HXB.out]; exact hBa.trans (HP.out.2.2.2.2.mono (by omega)))
    rw [HXB.out] at h1; exact h1
  have HR0 : Hid (W1.rowIs gl 4 n (fun i => .bool (decide (i < 0))) ∧ W1.rowIs gc 3 n (fun i => .int .i64 (if i < 0 then ((ovL L allL i).length : Int) else 0)) ∧ KeepBut W1 W1 gl gc) :=
    ⟨HP.out.2.2.1.1.congr (fun i _ => by simp), HP.out.2.2.1.2.congr (fun i _ => by simp), KeepBut.refl _ _ _⟩
  obtain ⟨ao', co', eo, -, hov⟩ := HSX.out.over.open_
  rw [oversI_len, HNN.out] at eo hov
  cases eo
  clear hmkb hmki HSH c0 c1
  go_wp2_with fail
  go_loopw [19] (fun q W => ∃ j : Nat, j ≤ n ∧ q = .int .i64 j ∧ Hid (W.rowIs gl 4 n (fun i => .bool (decide (i < j))) ∧ W.rowIs gc 3 n (fun i => .int .i64 (if i < j then ((ovL L allL i).length : Int) else 0)) ∧ KeepBut W1 W gl gc)) (fun q _ => n - (intOf q).toNat)
  case atStart => exact ⟨0, by omega, rfl, HR0.out⟩
  case round =>
    obtain ⟨j, hj, rfl, HJ⟩ := hrel
    by_cases hjn : j < n
    · obtain ⟨bo, oo, rfl, hbB, hbl, hrows⟩ := hov (by omega)
      obtain ⟨a1, p1, g1, -⟩ := hrows j hjn
      rw [oversI_at (by rw [HNN.out]; exact hjn)] at g1
      obtain ⟨m, hm⟩ : ∃ m, (overI L j).length = m := ⟨_, rfl⟩
      rw [hm] at g1
      have HMM : Hid ((ovL L allL j).length = m) := by show (ovL L allL j).length = m; rw [← ov_all]; exact hm
      have hbB' : bo < xb := hbB
      have e1 := (HJ.out.2.2.cell (p := ⟨bo, oo + j, none⟩) hbl (by simp only; omega) (by simp only; omega)).trans g1
      have k3 := (HJ.out.2.2.cell (p := ⟨p, 3, none⟩) hpl hgn.1 hgn.2.1).trans (HP.out.2.2.2.1 3 _ rfl)
      have k4 := (HJ.out.2.2.cell (p := ⟨p, 4, none⟩) hpl hgn.1 hgn.2.1).trans (HP.out.2.2.2.1 4 _ rfl)
      have l0 := HJ.out.1.cell (i := j) hjn
      have l1 := HJ.out.1.frozen j
      have q0 := HJ.out.2.1.cell (i := j) hjn
      have q1 := HJ.out.2.1.frozen j
      have k4' : (wr.setCell ⟨gl, j, none⟩ (.bool true)).cell? ⟨p, 4, none⟩ = some (.slice (some ⟨gc, 0, none⟩) n n) := (World.cell?_setCell_other wr _ _ _ (addr_ne (.inl (by omega)))).trans k4
      have q0' : (wr.setCell ⟨gl, j, none⟩ (.bool true)).cell? ⟨gc, j, none⟩ = some (.int .i64 (if j < j then ((ovL L allL j).length : Int) else 0)) := (World.cell?_setCell_other wr _ _ _ (addr_ne (.inl (by omega)))).trans q0
      have q1' : (wr.setCell ⟨gl, j, none⟩ (.bool true)).frozen? ⟨gc, j, none⟩ = false := by rw [World.frozen?_setCell]; exact q1
      rw [if_neg (Nat.lt_irrefl j)] at q0'
      have z2 : (j : Int) < (n : Int) := by omega
      clear hrows g1 hm hbB
      go_wp2_with fail
      go_roundw
      case rel =>
        refine ⟨j + 1, by omega, by go_num, ?_, ?_, ?_⟩
        · refine ((HJ.out.1.set j (.bool true)).setOther (a := ⟨gc, j, none⟩) hgn.2.2 _).congr (fun a _ => ?_)
          by_cases e : a = j
          · rw [if_pos e, decide_eq_true (by omega)]
          · rw [if_neg e]
            congr 1
            rw [Bool.eq_iff_iff]; simp only [decide_eq_true_eq]; omega
        · refine ((HJ.out.2.1.setOther (a := ⟨gl, j, none⟩) (Ne.symm hgn.2.2) _).set j (.int .i64 (m : Int))).congr (fun a _ => ?_)
          by_cases e : a = j
          · subst e
            rw [if_pos rfl, if_pos (by omega), HMM.out]
          · rw [if_neg e]
            by_cases e2 : a < j
            · rw [if_pos e2, if_pos (by omega)]
            · rw [if_neg e2, if_neg (by omega)]
        · exact (HJ.out.2.2.on (grown_one wr ⟨gl, j, none⟩ _) (fun b e => by cases e; exact .inl rfl)).on (grown_one _ ⟨gc, j, none⟩ _) (fun b e => by cases e; exact .inr (.inl rfl))
      case measure => simp [intOf]; omega
    · obtain rfl : j = n := by omega
      have kp : ∀ j u, _ → wr.cell? ⟨p, j, none⟩ = some u := fun j u hu => (HJ.out.2.2.cell (p := ⟨p, j, none⟩) hpl hgn.1 hgn.2.1).trans (HP.out.2.2.2.1 j u hu)
      have k0 := kp 0 _ rfl
      have k1 := kp 1 _ rfl
      have k2 := kp 2 _ rfl
      have k3 := kp 3 _ rfl
      have k4 := kp 4 _ rfl
      have rr : ∀ j, j < 5 → wr.cell? ⟨xb + 1, j, none⟩ = some (.slice none 0 0) := fun j hj => (HJ.out.2.2.cell (p := ⟨xb + 1, j, none⟩) (by simp only; omega) (by simp only; omega) (by simp only; omega)).trans ((HP.out.2.2.2.2.cell (p := ⟨xb + 1, j, none⟩) hxl).trans (HRR.out j hj))
      have r0 := rr 0 (by omega)
      have r1 := rr 1 (by omega)
      have r2 := rr 2 (by omega)
      have r3 := rr 3 (by omega)
      have r4 := rr 4 (by omega)
      have ff : ∀ j, wr.frozen? ⟨xb + 1, j, none⟩ = false := fun j => (HJ.out.2.2.frozen (p := ⟨xb + 1, j, none⟩) (by simp only; omega) (by simp only; omega) (by simp only; omega)).trans ((HP.out.2.2.2.2.frozen (p := ⟨xb + 1, j, none⟩) hxl).trans (HRF.out j))
      have f0 := ff 0
      have f1 := ff 1
      have f2 := ff 2
      have f3 := ff 3
      have f4 := ff 4
      have hput := five_put (.slice ad j cd) (.slice aS j cs) (.slice ao j co) (.slice (some ⟨gl, 0, none⟩) j j) (.slice (some ⟨gc, 0, none⟩) j j) (fun k hk => by rw [rr k hk]; rfl)
      have t0 := hput 0 _ rfl
      have t1 := hput 1 _ rfl
      have t2 := hput 2 _ rfl
      have t3 := hput 3 _ rfl
      have t4 := hput 4 _ rfl
      clear kp rr ff hput
      go_wp2_with fail
      refine bodyPost_ret (v := .agg #[.slice ad j cd, .slice aS j cs, .slice ao j co, .slice (some ⟨gl, 0, none⟩) j j, .slice (some ⟨gc, 0, none⟩) j j]) ?_ rfl ⟨gl, gc, rfl, ?_, ?_⟩
      · simp [results, Tryz.f23, go_sem, t0, t1, t2, t3, t4]
      · have hso : ∀ (b : Nat), b ≠ xb + 1 → ∀ k v, ∀ (Y : World) (t : TypeId) (n : Nat) (f : Nat → Value), Y.rowIs b t n f → (Y.setCell ⟨xb + 1, k, none⟩ v).rowIs b t n f := fun b hb k v Y t n f h => h.setOther (a := ⟨xb + 1, k, none⟩) hb v
        refine ⟨?_, ?_, ?_, by rw [HXB.out]; omega, by rw [HXB.out]; omega, hgn.2.2⟩
        · rw [HXB.out]
          refine (HSX.out.kept (by omega) (by omega) HJ.out.2.2).keep (by simp) (fun b _ hb => ?_)
          have hb' : b < xb := hb
          rw [Below.heap_setCell _ _ _ _ (by simp only; omega), Below.heap_setCell _ _ _ _ (by simp only; omega), Below.heap_setCell _ _ _ _ (by simp only; omega), Below.heap_setCell _ _ _ _ (by simp only; omega), Below.heap_setCell _ _ _ _ (by simp only; omega)]
        · rw [HNN.out]
          exact hso gl (by omega) _ _ _ _ _ _ (hso gl (by omega) _ _ _ _ _ _ (hso gl (by omega) _ _ _ _ _ _ (hso gl (by omega) _ _ _ _ _ _ (hso gl (by omega) _ _ _ _ _ _ (HJ.out.1.congr (fun i hi => by rw [decide_eq_true hi]; rfl))))))
        · rw [HNN.out]
          exact hso gc (by omega) _ _ _ _ _ _ (hso gc (by omega) _ _ _ _ _ _ (hso gc (by omega) _ _ _ _ _ _ (hso gc (by omega) _ _ _ _ _ _ (hso gc (by omega) _ _ _ _ _ _ (HJ.out.2.1.congr (fun i hi => by rw [if_pos hi]))))))
      · rw [HXB.out]
        have hb0 : Below xb w wr := by
          have h1 : Below xb w W1 := hBa.trans (HP.out.2.2.2.2.mono (by omega))
          exact ⟨HJ.out.2.2.os.trans h1.os, HJ.out.2.2.tape.trans h1.tape, HJ.out.2.2.output.trans h1.output, Nat.le_trans h1.size HJ.out.2.2.size, fun b hb => (HJ.out.2.2.block b (by omega) (by omega) (by omega)).trans (h1.block b hb)⟩
        exact ((((hb0.setCell (p := ⟨xb + 1, 0, none⟩) (by simp) _).setCell (p := ⟨xb + 1, 1, none⟩) (by simp) _).setCell (p := ⟨xb + 1, 2, none⟩) (by simp) _).setCell (p := ⟨xb + 1, 3, none⟩) (by simp) _).setCell (p := ⟨xb + 1, 4, none⟩) (by simp) _

end Go.Proofs.YthdmfeidcldafaaGreatDoor

namespace Go.Proofs.YthdmfeidcldafaaGreatDoor
open Go.RowKit Go.Sort

theorem fault_cells (W : World) (x y : Value) (t : TypeId) : (W.alloc (.cells #[x, y] t)).cell? ⟨W.heap.size, 0, none⟩ = some x ∧ (W.alloc (.cells #[x, y] t)).cell? ⟨W.heap.size, 0 + 1, none⟩ = some y := by
  constructor <;> simp
/-- An error of *api.Fault: its place and the error that it holds. -/
def FaultAt (a : Nat → Addr) (w : World) (ve : Value) (i : Nat) (p : Int) : Prop :=
  ∃ q, ve = .iface 65 (.pointer (some ⟨q, 0, none⟩)) ∧ w.cell? ⟨q, 0, none⟩ = some (.int .i64 p) ∧ w.cell? ⟨q, 0 + 1, none⟩ = some (.iface 176 (.pointer (some (a i))))
theorem FaultAt.below {a : Nat → Addr} {w w' : World} {ve : Value} {i : Nat} {p : Int} (h : FaultAt a w ve i p) (hB : Below w.heap.size w w') : FaultAt a w' ve i p := by
  obtain ⟨q, h1, h2, h3⟩ := h
  exact ⟨q, h1, (hB.cell (p := ⟨q, 0, none⟩) (cell_lt h2)).trans h2, (hB.cell (p := ⟨q, 0 + 1, none⟩) (cell_lt h3)).trans h3⟩

end Go.Proofs.YthdmfeidcldafaaGreatDoor
