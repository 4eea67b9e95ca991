/- hasCircle: whether there is a circle. slices.Index and slices.Contains of numbers. join: two faces become a pair. -/
import Derived.Test.YtnnkmkhamipfiaaGreatDoorMorseCloses
import Derived.Test.YtnnkmkhamipfiaaGreatDoorHeap
import Derived.Test.YtnnkmkhamipfiaaGreatDoorRefPart
namespace Go.Proofs.YtnnkmkhamipfiaaGreatDoor
open Go.RowKit Go.Sort

@[local go_sem] theorem store_closure (P : Program) (w : World) (a : Addr) (m : Mode) (fn : Fn) (first captured : Array Value) : (store a (.func fn first captured) m).run P w = stored P w a (.func fn first captured) m := run_store P w a _ m rfl

set_option maxRecDepth 100000 in
set_option maxHeartbeats 8000000 in
theorem has_circle {L : List (List Int)} {mt : Nat → Int} {ad aS ao : Option Addr} {cd cs co gm : Nat} (w : World) (hs : SidesIn (fun b => b < w.heap.size) w (.slice aS L.length cs) L) (hm : w.rowIs gm 3 L.length (fun i => .int .i64 (mt i))) (hL6 : L.length ≤ 600) (hmt : ∀ f : Nat, (f : Int) < mt f → f < L.length ∧ mt f < (L.length : Int)) :
    Calls Tryz.prog 63 #[fieldV L.length ad aS ao cd cs co gm] w fun e w' => Below w.heap.size w w' ∧ ((e = .returned (.bool true) ∧ ∃ c, Relation.TransGen (leadL L mt) c c) ∨ (e = .returned (.bool false) ∧ ∃ N, RankedN (leadL L mt) N)) := by
  have HH : Hid (SidesIn (fun b => b < w.heap.size) w (.slice aS L.length cs) L ∧ w.rowIs gm 3 L.length (fun i => .int .i64 (mt i)) ∧ (∀ f : Nat, (f : Int) < mt f → f < L.length ∧ mt f < (L.length : Int))) := ⟨hs, hm, hmt⟩
  obtain ⟨n, hn⟩ : ∃ n, L.length = n := ⟨_, rfl⟩
  have HNN : Hid (L.length = n) := hn
  have hmki := run_make_row' (P := Tryz.prog) 29 3 (.int .i64 0) 8 Tryz.underlying29 Tryz.info3 rfl .i64 .i64 n (by omega) (by omega)
  have hce := field_cells w (.slice ad n cd) (.slice aS n cs) (.slice ao n co) (.slice (some ⟨gm, 0, none⟩) n n) 81
  have c3 := hce 3 _ rfl
  unfold fieldV
  rw [hn] at hL6 ⊢
  clear hs hm hmt hn
  go_enter Tryz.func63, Tryz.ntmps63
  go_wp2_with fail
  have hB4 := (((((Below.refl _ w).alloc (Nat.le_refl _) (.cells #[.slice ad n cd, .slice aS n cs, .slice ao n co, .slice (some ⟨gm, 0, none⟩) n n] 81)).alloc (by simp) (.cells (madeCells #[.int .i64 0] n) 3)).alloc (by simp <;> omega) (.cells #[.slice (some ⟨w.heap.size + 1, 0, none⟩) n n] 29)).alloc (by simp <;> omega) (.cells #[(.func (.func 97) #[] #[.pointer (some ⟨w.heap.size, 0, none⟩), .pointer (some ⟨w.heap.size + 1 + 1, 0, none⟩), .pointer (some ⟨w.heap.size + 1 + 1 + 1, 0, none⟩)])] 84))
  have hrow := ((World.rowIs_made (w.alloc (.cells #[.slice ad n cd, .slice aS n cs, .slice ao n co, .slice (some ⟨gm, 0, none⟩) n n] 81)) (.int .i64 0) n 3).alloc (.cells #[.slice (some ⟨w.heap.size + 1, 0, none⟩) n n] 29)).alloc (.cells #[(.func (.func 97) #[] #[.pointer (some ⟨w.heap.size, 0, none⟩), .pointer (some ⟨w.heap.size + 1 + 1, 0, none⟩), .pointer (some ⟨w.heap.size + 1 + 1 + 1, 0, none⟩)])] 84)
  rw [World.size_alloc] at hrow
  have hk0 := box_new (((w.alloc (.cells #[.slice ad n cd, .slice aS n cs, .slice ao n co, .slice (some ⟨gm, 0, none⟩) n n] 81)).alloc (.cells (madeCells #[.int .i64 0] n) 3)).alloc (.cells #[.slice (some ⟨w.heap.size + 1, 0, none⟩) n n] 29)) (.func (.func 97) #[] #[.pointer (some ⟨w.heap.size, 0, none⟩), .pointer (some ⟨w.heap.size + 1 + 1, 0, none⟩), .pointer (some ⟨w.heap.size + 1 + 1 + 1, 0, none⟩)]) 84
  have hq1 := (box_new ((w.alloc (.cells #[.slice ad n cd, .slice aS n cs, .slice ao n co, .slice (some ⟨gm, 0, none⟩) n n] 81)).alloc (.cells (madeCells #[.int .i64 0] n) 3)) (.slice (some ⟨w.heap.size + 1, 0, none⟩) n n) 29).1
  rw [World.size_alloc, World.size_alloc] at hq1
  have hq0 := (World.cell?_alloc_lt ((((w.alloc (.cells #[.slice ad n cd, .slice aS n cs, .slice ao n co, .slice (some ⟨gm, 0, none⟩) n n] 81)).alloc (.cells (madeCells #[.int .i64 0] n) 3)).alloc (.cells #[.slice (some ⟨w.heap.size + 1, 0, none⟩) n n] 29))) (.cells #[(.func (.func 97) #[] #[.pointer (some ⟨w.heap.size, 0, none⟩), .pointer (some ⟨w.heap.size + 1 + 1, 0, none⟩), .pointer (some ⟨w.heap.size + 1 + 1 + 1, 0, none⟩)])] 84) ⟨w.heap.size + 1 + 1, 0, none⟩ (by simp)).trans hq1
  have hfc := fun j u hu => (((World.cell?_alloc_lt _ (.cells #[(.func (.func 97) #[] #[.pointer (some ⟨w.heap.size, 0, none⟩), .pointer (some ⟨w.heap.size + 1 + 1, 0, none⟩), .pointer (some ⟨w.heap.size + 1 + 1 + 1, 0, none⟩)])] 84) ⟨w.heap.size, j, none⟩ (by simp <;> omega)).trans (World.cell?_alloc_lt _ (.cells #[.slice (some ⟨w.heap.size + 1, 0, none⟩) n n] 29) ⟨w.heap.size, j, none⟩ (by simp <;> omega))).trans (World.cell?_alloc_lt _ (.cells (madeCells #[.int .i64 0] n) 3) ⟨w.heap.size, j, none⟩ (by simp))).trans (hce j u hu)
  rw [World.size_alloc, World.size_alloc, World.size_alloc] at hk0
  obtain ⟨X, hX⟩ : ∃ X, (((w.alloc (.cells #[.slice ad n cd, .slice aS n cs, .slice ao n co, .slice (some ⟨gm, 0, none⟩) n n] 81)).alloc (.cells (madeCells #[.int .i64 0] n) 3)).alloc (.cells #[.slice (some ⟨w.heap.size + 1, 0, none⟩) n n] 29)).alloc (.cells #[(.func (.func 97) #[] #[.pointer (some ⟨w.heap.size, 0, none⟩), .pointer (some ⟨w.heap.size + 1 + 1, 0, none⟩), .pointer (some ⟨w.heap.size + 1 + 1 + 1, 0, none⟩)])] 84) = X := ⟨_, rfl⟩
  obtain ⟨fb, hfb⟩ : ∃ fb, w.heap.size = fb := ⟨_, rfl⟩
  rw [hX] at hrow hk0 hq0 hfc hB4 ⊢
  rw [hfb] at hrow hk0 hq0 hfc hB4 ⊢
  have HFB : Hid (w.heap.size = fb) := hfb
  have hgm : gm < fb := by rw [← hfb]; exact HH.out.2.1.lt
  have hXs : fb + 1 + 1 + 1 < X.heap.size := cell_lt hk0.1
  obtain ⟨hk0, hkf⟩ := hk0
  have HC : Hid (CirIn fb L mt ad aS ao cd cs co gm (fb + 1) fb (fb + 1 + 1) (fb + 1 + 1 + 1) (fun _ => 0) X ∧ Below fb w X) := by
    refine ⟨⟨fun j u hu => ?_, ?_, hk0, ?_, ?_, ?_, by omega, by omega, by omega, by omega, by omega⟩, hB4⟩
    · rw [HNN.out] at hu
      exact hfc j u hu
    · rw [HNN.out]
      exact hq0
    · have h1 := HH.out.1
      rw [hfb] at h1
      exact h1.keep (by first | exact hB4.size | (rw [hfb]; exact hB4.size)) (fun b hb _ => hB4.block b (by rw [hfb] at hb; exact hb))
    · exact HH.out.2.1.of_block (hB4.block gm hgm)
    · rw [HNN.out]
      exact hrow
  clear hX hfb c3 hce hmki hB4 hrow hq1 hgm hfc hq0 hk0 hkf hXs
  go_loopw [13] (fun p W => ∃ j : Nat, j ≤ n ∧ p = .int .i64 j ∧ ∃ st' N', Hid (CirIn fb L mt ad aS ao cd cs co gm (fb + 1) fb (fb + 1 + 1) (fb + 1 + 1 + 1) st' W ∧ Below fb w W ∧ (∀ g, st' g ≠ 1) ∧ DoneDown (leadL L mt) (actL mt) st' N' ∧ (∀ g, st' g ≤ 2) ∧ ∀ x, x < j → actL mt x → st' x = 2)) (fun p _ => n - (intOf p).toNat)
  case atStart => exact ⟨0, by omega, rfl, fun _ => 0, 0, HC.out.1, HC.out.2, fun g e => (by cases e), ⟨fun _ => 0, fun f e => (by cases e)⟩, fun g => Nat.zero_le _, fun x hx => by omega⟩
  case round =>
    obtain ⟨j, hj, rfl, st', N', HJ⟩ := hrel
    by_cases hjn : j < n
    · have hcall := closes_ (B := fb) (L := L) (mt := mt) (ad := ad) (aS := aS) (ao := ao) (cd := cd) (cs := cs) (co := co) (gm := gm) (gs := fb + 1) (fb := fb) (sb := fb + 1 + 1) (cb := fb + 1 + 1 + 1) (by rw [HNN.out]; exact hL6) (fun f _ h => (HH.out.2.2 f h).2) _ st' N' j wr HJ.out.1 (by rw [HNN.out]; exact hjn) (Nat.le_refl _) HJ.out.2.2.2.1 HJ.out.2.2.2.2.1 (fun g hg => absurd hg (HJ.out.2.2.1 g))
      have k0 := HJ.out.1.c0
      have z2 : (j : Int) < (n : Int) := by omega
      have keyB : ∀ W2, KeepBut wr W2 (fb + 1) (fb + 1) → Below fb w W2 := fun W2 hK => ⟨hK.os.trans HJ.out.2.1.os, hK.tape.trans HJ.out.2.1.tape, hK.output.trans HJ.out.2.1.output, Nat.le_trans HJ.out.2.1.size hK.size, fun b hb => (hK.block b (by have := HJ.out.2.1.size; have := HFB.out; omega) (by omega) (by omega)).trans (HJ.out.2.1.block b hb)⟩
      have HKB : Hid (∀ W2, KeepBut wr W2 (fb + 1) (fb + 1) → Below fb w W2) := keyB
      clear keyB
      go_wp2_with (go_at_call 97; refine hcall.mono ?_; clear hcall; rintro e W2 ⟨hK2, ⟨rfl, hcyc⟩ | ⟨rfl, st2, N2, hC2, hL2, hD2, hb2, ha2⟩⟩)
      · go_ret
        exact ⟨by rw [HFB.out]; exact HKB.out W2 hK2, .inl ⟨rfl, hcyc⟩⟩
      · refine ⟨⟨j + 1, by omega, by go_num, st2, N2, hC2, HKB.out W2 hK2, fun g hg => HJ.out.2.2.1 g ((hL2.way g).1 hg), hD2, hb2, fun y hy ha => ?_⟩, by simp [intOf]; omega⟩
        rcases Nat.lt_or_ge y j with h | h
        · exact hL2.done y (HJ.out.2.2.2.2.2 y h ha)
        · obtain rfl : y = j := by omega
          exact ha2 ha
    · obtain rfl : j = n := by omega
      go_wp2_with fail
      go_ret
      refine ⟨by rw [HFB.out]; exact HJ.out.2.1, .inr ⟨rfl, N' + 1, done_all HJ.out.2.2.2.1 (fun f x hx => ?_) (fun f ha => HJ.out.2.2.2.2.2 f (by rw [← HNN.out]; exact (HH.out.2.2 f ha).1) ha)⟩⟩
      obtain ⟨b, hb, _⟩ := hx
      unfold upW at hb
      by_cases hlt : (f : Int) < mt f
      · exact hlt
      · rw [if_neg hlt] at hb; cases hb

end Go.Proofs.YtnnkmkhamipfiaaGreatDoor

namespace Go.Proofs.YtnnkmkhamipfiaaGreatDoor
open Go.RowKit Go.Sort

set_option maxRecDepth 100000 in
set_option maxHeartbeats 1000000 in
theorem index_int {S : Nat → Prop} {w : World} {v : Value} {xs : List Int} (h : IntsIn S w v xs) (y : Int) (hl : xs.length ≤ 100000) :
    Calls Tryz.prog 122 #[v, .int .i64 y] w fun e w' => w' = w ∧ ∃ i : Int, e = .returned (.int .i64 i) ∧ (0 ≤ i ↔ y ∈ xs) := by
  obtain ⟨a, c, rfl, -, hc⟩ := h.open_
  obtain ⟨m, hm⟩ : ∃ m, xs.length = m := ⟨_, rfl⟩
  have HC := Hid.mk' hc
  have HM := Hid.mk' hm
  rw [hm] at hl ⊢
  clear h hc hm
  go_enter Tryz.func122, Tryz.ntmps122
  go_wp2_with fail
  go_loopw [8] (fun p W => ∃ k : Nat, k ≤ m ∧ p = .int .i64 (k : Int) ∧ W = w ∧ Hid (∀ j x, j < k → xs[j]? = some x → x ≠ y)) (fun p _ => m - (intOf p).toNat)
  case atStart => exact ⟨0, by omega, rfl, rfl, fun j x hj => by omega⟩
  case round =>
    obtain ⟨k, hk, rfl, rfl, HK⟩ := hrel
    by_cases hkm : k < m
    · obtain ⟨b, off, rfl, -, -, hcell⟩ := HC.out (by rw [HM.out]; omega)
      have hkl : k < xs.length := by rw [HM.out]; exact hkm
      obtain ⟨x, hx⟩ : ∃ x, xs[k] = x := ⟨_, rfl⟩
      have hxk : xs[k]? = some x := by rw [List.getElem?_eq_getElem hkl, hx]
      have hc := hcell k hkl
      rw [hxk, Option.getD_some] at hc
      have HX := Hid.mk' hxk
      have z0 : (0 : Int) ≤ (k : Int) := by omega
      have z1 : (k : Int) < (m : Int) := by omega
      clear hcell hx hxk
      by_cases e : x = y
      · subst e
        go_wp2_with fail
        go_ret
        exact ⟨rfl, (k : Int), rfl, ⟨fun _ => List.mem_iff_getElem?.2 ⟨k, HX.out⟩, fun _ => z0⟩⟩
      · have hb : (y == x) = false := beq_false_of_ne (fun h => e h.symm)
        have HK2 : Hid (∀ j x, j < k + 1 → xs[j]? = some x → x ≠ y) := fun j z hj hz => by
          rcases Nat.lt_or_ge j k with h | h
          · exact HK.out j z h hz
          · obtain rfl : j = k := by omega
            rw [HX.out] at hz
            obtain rfl : x = z := Option.some.inj hz
            exact e
        go_wp2_with fail
        go_roundw
        case rel => exact ⟨k + 1, by omega, by go_num, by first | rfl | trivial, HK2.out⟩
        case measure => simp [intOf]; omega
    · obtain rfl : k = m := by omega
      go_wp2_with fail
      go_ret
      refine ⟨rfl, -1, rfl, ⟨fun h => absurd h (by decide), fun h => ?_⟩⟩
      obtain ⟨j, hj⟩ := List.mem_iff_getElem?.1 h
      exact absurd rfl (HK.out j y (by rw [← HM.out]; exact (List.getElem?_eq_some_iff.1 hj).1) hj)

set_option maxRecDepth 100000 in
theorem contains_int {S : Nat → Prop} {w : World} {v : Value} {xs : List Int} (h : IntsIn S w v xs) (y : Int) (hl : xs.length ≤ 100000) :
    Calls Tryz.prog 96 #[v, .int .i64 y] w fun e w' => e = .returned (.bool (decide (y ∈ xs))) ∧ w' = w := by
  have hix := index_int h y hl
  clear h hl
  by_cases hy : y ∈ xs
  · rw [decide_eq_true hy]
    go_enter Tryz.func96, Tryz.ntmps96
    go_wp2_with fail
    refine hix.mono ?_
    clear hix
    rintro e w' ⟨rfl, i, rfl, hi⟩
    have h0 : 0 ≤ i := hi.2 hy
    clear hi hy
    go_wp2_with fail
    go_ret
    exact ⟨rfl, rfl⟩
  · rw [decide_eq_false hy]
    go_enter Tryz.func96, Tryz.ntmps96
    go_wp2_with fail
    refine hix.mono ?_
    clear hix
    rintro e w' ⟨rfl, i, rfl, hi⟩
    have h0 : i < 0 := Int.not_le.1 fun h => hy (hi.1 h)
    clear hi hy
    go_wp2_with fail
    go_ret
    exact ⟨by simp; omega, rfl⟩

end Go.Proofs.YtnnkmkhamipfiaaGreatDoor

namespace Go.Proofs.YtnnkmkhamipfiaaGreatDoor
open Go.RowKit Go.Sort

set_option maxRecDepth 100000 in
theorem critical_ (f n : Nat) (mt : Nat → Int) (gm : Nat) (ad aS ao : Option Addr) (cd cs co : Nat) (w : World) (hr : w.rowIs gm 3 n (fun i => .int .i64 (mt i))) (hf : f < n) (_hn : n ≤ 600) :
    Calls Tryz.prog 38 #[fieldV n ad aS ao cd cs co gm, .int .i64 (f : Int)] w fun e w' => e = .returned (.bool (decide (mt f = -1))) ∧ Below w.heap.size w w' := by
  have hBa : Below w.heap.size w (w.alloc (.cells #[.slice ad n cd, .slice aS n cs, .slice ao n co, .slice (some ⟨gm, 0, none⟩) n n] 81)) := (Below.refl _ w).alloc (Nat.le_refl _) _
  have hce := field_cells w (.slice ad n cd) (.slice aS n cs) (.slice ao n co) (.slice (some ⟨gm, 0, none⟩) n n) 81
  have c3 := hce 3 _ rfl
  have hm := (World.cell?_alloc_lt w (.cells #[.slice ad n cd, .slice aS n cs, .slice ao n co, .slice (some ⟨gm, 0, none⟩) n n] 81) ⟨gm, f, none⟩ hr.lt).trans (hr.cell (i := f) hf)
  obtain ⟨x, hx⟩ : ∃ x : Int, mt f = x := ⟨_, rfl⟩
  rw [hx] at hm ⊢
  unfold fieldV
  clear hr hce hx
  by_cases e : x = -1
  · subst e
    go_enter Tryz.func38, Tryz.ntmps38
    go_wp2_with fail
    go_ret
    exact ⟨rfl, hBa⟩
  · have hb : (x == (-1 : Int)) = false := beq_false_of_ne e
    rw [decide_eq_false e]
    go_enter Tryz.func38, Tryz.ntmps38
    go_wp2_with fail
    go_ret
    exact ⟨rfl, hBa⟩

/-- Two faces can be one pair. -/
def canJ (L : List (List Int)) (mt : Nat → Int) (p q : Int) : Prop := GoodJ L.length (undL L) mt (p, q)

set_option maxRecDepth 100000 in
set_option maxHeartbeats 4000000 in
theorem join_ {B : Nat} {L : List (List Int)} {mt : Nat → Int} {ad aS ao : Option Addr} {cd cs co gm : Nat} (p q : Int) (w : World) (ho : RowsIn (fun b => b < B) w (.slice ao L.length co) (oversI L)) (hr : w.rowIs gm 3 L.length (fun i => .int .i64 (mt i))) (_hB : B ≤ gm) (hL6 : L.length ≤ 600) (hlt : ∀ a b, undL L a b = true → a < b) :
    Calls Tryz.prog 62 #[fieldV L.length ad aS ao cd cs co gm, .agg #[.int .i64 p, .int .i64 q]] w fun e w' => KeepBut w w' gm gm ∧
      ((canJ L mt p q ∧ e = .returned (.bool true) ∧ w'.rowIs gm 3 L.length (fun i => .int .i64 (joinP mt (p, q) i))) ∨ (¬ canJ L mt p q ∧ e = .returned (.bool false))) := by
  have HH : Hid (RowsIn (fun b => b < B) w (.slice ao L.length co) (oversI L) ∧ w.rowIs gm 3 L.length (fun i => .int .i64 (mt i)) ∧ (∀ a b, undL L a b = true → a < b)) := ⟨ho, hr, hlt⟩
  obtain ⟨n, hn⟩ : ∃ n, L.length = n := ⟨_, rfl⟩
  have HNN : Hid (L.length = n) := hn
  have HCR : Hid (∀ (f : Nat) (W : World), W.rowIs gm 3 L.length (fun i => .int .i64 (mt i)) → f < L.length → Calls Tryz.prog 38 #[fieldV L.length ad aS ao cd cs co gm, .int .i64 (f : Int)] W fun e w' => e = .returned (.bool (decide (mt f = -1))) ∧ Below W.heap.size W w') := fun f W h1 h2 => critical_ f L.length mt gm ad aS ao cd cs co W h1 h2 hL6
  unfold fieldV at HCR ⊢
  rw [hn] at HCR hL6 ⊢
  have hce := field_cells w (.slice ad n cd) (.slice aS n cs) (.slice ao n co) (.slice (some ⟨gm, 0, none⟩) n n) 81
  have hpc := two_box (w.alloc (.cells #[.slice ad n cd, .slice aS n cs, .slice ao n co, .slice (some ⟨gm, 0, none⟩) n n] 81)) (.int .i64 p) (.int .i64 q) 69
  rw [World.size_alloc] at hpc
  have hBa : Below w.heap.size w ((w.alloc (.cells #[.slice ad n cd, .slice aS n cs, .slice ao n co, .slice (some ⟨gm, 0, none⟩) n n] 81)).alloc (.cells #[.int .i64 p, .int .i64 q] 69)).drew := (((Below.refl _ w).alloc (Nat.le_refl _) _).alloc (by simp) _).drew
  have hrc : ∀ j u, [Value.slice ad n cd, .slice aS n cs, .slice ao n co, .slice (some ⟨gm, 0, none⟩) n n][j]? = some u → ((w.alloc (.cells #[.slice ad n cd, .slice aS n cs, .slice ao n co, .slice (some ⟨gm, 0, none⟩) n n] 81)).alloc (.cells #[.int .i64 p, .int .i64 q] 69)).cell? ⟨w.heap.size, j, none⟩ = some u := fun j u hu => (World.cell?_alloc_lt _ _ ⟨w.heap.size, j, none⟩ (by simp)).trans (hce j u hu)
  clear ho hr hlt hn hce
  go_enter Tryz.func62, Tryz.ntmps62
  go_wp2_with fail
  obtain ⟨X, hX⟩ : ∃ X, (w.alloc (.cells #[.slice ad n cd, .slice aS n cs, .slice ao n co, .slice (some ⟨gm, 0, none⟩) n n] 81)).alloc (.cells #[.int .i64 p, .int .i64 q] 69) = X := ⟨_, rfl⟩
  obtain ⟨xb, hxb⟩ : ∃ xb, w.heap.size = xb := ⟨_, rfl⟩
  have hxl : xb < X.heap.size := by rw [← hX, ← hxb]; simp <;> omega
  rw [hX, hxb] at hrc hpc hBa
  try rw [hX]
  try rw [hxb]
  have HXB : Hid (w.heap.size = xb) := hxb
  obtain ⟨p0, p1⟩ := hpc
  have c0 := hrc 0 _ rfl
  have c1 := hrc 1 _ rfl
  have c2 := hrc 2 _ rfl
  have c3 := hrc 3 _ rfl
  clear hX hxb hrc
  go_region
  go_wp2_with fail
  have c0' : X.drew.cell? ⟨xb, 0, none⟩ = some (.slice ad n cd) := c0
  have c1' : X.drew.cell? ⟨xb, 1, none⟩ = some (.slice aS n cs) := c1
  have c2' : X.drew.cell? ⟨xb, 2, none⟩ = some (.slice ao n co) := c2
  have c3' : X.drew.cell? ⟨xb, 3, none⟩ = some (.slice (some ⟨gm, 0, none⟩) n n) := c3
  obtain ⟨Y, hY⟩ : ∃ Y, X.drew = Y := ⟨_, rfl⟩
  have hyl : xb < Y.heap.size := by rw [← hY]; exact hxl
  rw [hY] at c0' c1' c2' c3' hBa
  try rw [hY]
  have HYB : Hid (Below xb w Y) := hBa
  clear hY c0 c1 c2 c3 p0 p1 hxl hBa
  have hha := has_ p n hL6 ad aS ao cd cs co Y
  unfold shapeV at hha
  refine hha.mono ?_
  clear hha
  rintro e V ⟨rfl, hV⟩
  have HV : Hid (Below xb w V ∧ xb < V.heap.size) := ⟨HYB.out.trans (hV.mono (by omega)), Nat.lt_of_lt_of_le hyl hV.size⟩
  have d0 := (hV.cell (p := ⟨xb, 0, none⟩) hyl).trans c0'
  have d1 := (hV.cell (p := ⟨xb, 1, none⟩) hyl).trans c1'
  have d2 := (hV.cell (p := ⟨xb, 2, none⟩) hyl).trans c2'
  have d3 := (hV.cell (p := ⟨xb, 3, none⟩) hyl).trans c3'
  have HRV : Hid (RowsIn (fun b => b < B) V (.slice ao L.length co) (oversI L) ∧ V.rowIs gm 3 L.length (fun i => .int .i64 (mt i))) :=
    ⟨HH.out.1.below (by rw [HXB.out]; exact HV.out.1), HH.out.2.1.of_block (HV.out.1.block gm (by rw [← HXB.out]; exact HH.out.2.1.lt))⟩
  have keyK : ∀ W, Below V.heap.size V W → KeepBut w W gm gm := fun W h => ((KeepBut.refl w gm gm).below (by rw [HXB.out]; exact HV.out.1)).below h
  have HK := Hid.mk' keyK
  clear hV c0' c1' c2' c3' keyK
  by_cases hin : 0 ≤ p ∧ p < (n : Int)
  · rw [decide_eq_true hin]
    obtain ⟨x, rfl⟩ : ∃ x : Nat, p = (x : Int) := ⟨p.toNat, by omega⟩
    have hxn : x < n := by omega
    obtain ⟨ao', co', eo, -, hov⟩ := HRV.out.1.open_
    rw [oversI_len, HNN.out] at eo hov
    cases eo
    obtain ⟨bo, oo, rfl, hbB, hbl, hrows⟩ := hov (by omega)
    obtain ⟨a1, p1, g1, i1⟩ := hrows x hxn
    rw [oversI_at (by rw [HNN.out]; exact hxn)] at g1 i1
    have hlen : (overI L x).length ≤ 600 := by
      unfold overI
      rw [List.length_map]
      refine Nat.le_trans (List.length_filter_le _ _) ?_
      rw [List.length_range, HNN.out]; exact hL6
    have hco := contains_int i1 q (by omega)
    have hmq : q ∈ overI L x ↔ ∃ k : Nat, q = (k : Int) ∧ k < n ∧ undL L x k = true := by
      unfold overI ovD
      rw [List.mem_map]
      constructor
      · rintro ⟨k, hk, rfl⟩
        obtain ⟨h1, h2⟩ := List.mem_filter.1 hk
        rw [List.mem_range, HNN.out] at h1
        exact ⟨k, rfl, h1, by simpa [allD, HNN.out, hxn] using h2⟩
      · rintro ⟨k, rfl, h1, h2⟩
        exact ⟨k, List.mem_filter.2 ⟨by rw [List.mem_range, HNN.out]; exact h1, by simpa [allD, HNN.out, hxn] using h2⟩, rfl⟩
    have HMQ := Hid.mk' hmq
    have z0 : (0 : Int) ≤ (x : Int) := by omega
    have z1 : (x : Int) < (n : Int) := by omega
    clear hov hrows i1 hlen hmq hin
    go_wp2_with fail
    refine hco.mono ?_
    clear hco
    rintro e V1 ⟨rfl, rfl⟩
    by_cases hmem : q ∈ overI L x
    · rw [decide_eq_true hmem]
      obtain ⟨k, rfl, hkn, hxk⟩ := HMQ.out.1 hmem
      have HXK : Hid (undL L x k = true ∧ x < k) := ⟨hxk, HH.out.2.2 x k hxk⟩
      have hc1 := HCR.out x V1 (by rw [← HNN.out]; exact HRV.out.2) hxn
      clear hmem hxk
      go_wp2_with fail
      refine hc1.mono ?_
      clear hc1
      rintro e V2 ⟨rfl, hV2⟩
      have f0 := (hV2.cell (p := ⟨xb, 0, none⟩) HV.out.2).trans d0
      have f1 := (hV2.cell (p := ⟨xb, 1, none⟩) HV.out.2).trans d1
      have f2 := (hV2.cell (p := ⟨xb, 2, none⟩) HV.out.2).trans d2
      have f3 := (hV2.cell (p := ⟨xb, 3, none⟩) HV.out.2).trans d3
      have HV2 : Hid (Below V1.heap.size V1 V2) := hV2
      have hrow2 := HRV.out.2.of_block (hV2.block gm HRV.out.2.lt)
      have hc2 := HCR.out k V2 (by rw [← HNN.out]; exact hrow2) hkn
      clear hV2 d0 d1 d2 d3
      by_cases ha : mt x = -1
      · rw [decide_eq_true ha]
        have HA := Hid.mk' ha
        clear ha hrow2
        go_wp2_with fail
        refine hc2.mono ?_
        clear hc2
        rintro e V3 ⟨rfl, hV3⟩
        have hfl : xb < V2.heap.size := Nat.lt_of_lt_of_le HV.out.2 HV2.out.size
        have k3 := (hV3.cell (p := ⟨xb, 3, none⟩) hfl).trans f3
        have HV3 : Hid (Below V1.heap.size V1 V3) := HV2.out.trans (hV3.mono HV2.out.size)
        have hrow3 := HRV.out.2.of_block (HV3.out.block gm HRV.out.2.lt)
        have hrc := hrow3.cell (i := x) (by rw [HNN.out]; exact hxn)
        have hrd := hrow3.cell (i := k) (by rw [HNN.out]; exact hkn)
        have hrf := hrow3.frozen x
        have hrg := hrow3.frozen k
        have hgx : gm ≠ xb := by have := HH.out.2.1.lt; have := HXB.out; omega
        have HR3 := Hid.mk' hrow3
        clear hV3 f0 f1 f2 f3 hrow3
        by_cases hb : mt k = -1
        · rw [decide_eq_true hb]
          have HJ : Hid (canJ L mt (x : Int) (k : Int)) := ⟨x, k, rfl, by rw [HNN.out]; exact hxn, by rw [HNN.out]; exact hkn, HXK.out.1, HA.out, hb⟩
          rw [hb] at hrd
          rw [HA.out] at hrc
          have y0 : (0 : Int) ≤ (k : Int) := by omega
          have y1 : (k : Int) < (n : Int) := by omega
          have hxk : x ≠ k := by have := HXK.out.2; omega
          have e1 : ∀ v, (V3.setCell ⟨gm, x, none⟩ v).cell? ⟨xb, 3, none⟩ = some (.slice (some ⟨gm, 0, none⟩) n n) := fun v => (World.cell?_setCell_other V3 _ _ _ (addr_ne (.inl (by omega)))).trans k3
          have e2 : ∀ v, (V3.setCell ⟨gm, k, none⟩ v).cell? ⟨xb, 3, none⟩ = some (.slice (some ⟨gm, 0, none⟩) n n) := fun v => (World.cell?_setCell_other V3 _ _ _ (addr_ne (.inl (by omega)))).trans k3
          have e3 : ∀ v, (V3.setCell ⟨gm, x, none⟩ v).cell? ⟨gm, k, none⟩ = some (.int .i64 (-1)) := fun v => (World.cell?_setCell_other V3 _ _ _ (addr_ne (.inr (by omega)))).trans hrd
          have e4 : ∀ v, (V3.setCell ⟨gm, k, none⟩ v).cell? ⟨gm, x, none⟩ = some (.int .i64 (-1)) := fun v => (World.cell?_setCell_other V3 _ _ _ (addr_ne (.inr (by omega)))).trans hrc
          clear hb hxk
          go_wp2_with fail
          go_region
          go_wp2_with fail
          go_ret
          have k1 := (HK.out V3 HV3.out).on (grown_one V3 ⟨gm, x, none⟩ (.int .i64 (k : Int))) (fun b e => by cases e; exact .inl rfl)
          have k2 := k1.on (grown_one _ ⟨gm, k, none⟩ (.int .i64 (x : Int))) (fun b e => by cases e; exact .inl rfl)
          have r1 := ((HR3.out.set x (.int .i64 (k : Int))).set k (.int .i64 (x : Int))).drew
          rw [HNN.out] at r1
          refine ⟨k2.below (Below.refl _ _).drew, .inl ⟨HJ.out, rfl, r1.congr fun j _ => ?_⟩⟩
          unfold joinP
          simp only [Int.toNat_natCast]
          by_cases h1 : j = k
          · subst h1; simp
          · by_cases h2 : j = x
            · subst h2; simp [h1]
            · simp [h1, h2]
        · rw [decide_eq_false hb]
          have HNJ : Hid (¬ canJ L mt (x : Int) (k : Int)) := by
            rintro ⟨a, b, e, h1, h2, h3, h4, h5⟩
            have e2 := congrArg Prod.snd e
            simp only at e2
            obtain rfl : k = b := by omega
            exact hb h5
          clear hb
          go_wp2_with fail
          go_ret
          exact ⟨HK.out _ HV3.out, .inr ⟨HNJ.out, rfl⟩⟩
      · rw [decide_eq_false ha]
        have HNJ : Hid (¬ canJ L mt (x : Int) (k : Int)) := by
          rintro ⟨a, b, e, h1, h2, h3, h4, h5⟩
          have e1 := congrArg Prod.fst e
          simp only at e1
          obtain rfl : x = a := by omega
          exact ha h4
        clear ha hrow2 hc2
        go_wp2_with fail
        go_ret
        exact ⟨HK.out _ HV2.out, .inr ⟨HNJ.out, rfl⟩⟩
    · rw [decide_eq_false hmem]
      have HNJ : Hid (¬ canJ L mt (x : Int) q) := by
        rintro ⟨a, b, e, h1, h2, h3, -, -⟩
        have e1 := congrArg Prod.fst e
        have e2 := congrArg Prod.snd e
        simp only at e1 e2
        have : x = a := by omega
        subst this
        exact hmem (HMQ.out.2 ⟨b, e2, by rw [← HNN.out]; exact h2, h3⟩)
      clear hmem
      go_wp2_with fail
      go_ret
      exact ⟨HK.out _ (Below.refl _ _), .inr ⟨HNJ.out, rfl⟩⟩
  · rw [decide_eq_false hin]
    have HNJ : Hid (¬ canJ L mt p q) := by
      rintro ⟨a, b, e, h1, -⟩
      have e1 := congrArg Prod.fst e
      simp only at e1
      rw [HNN.out] at h1
      exact hin (by omega)
    clear hin
    go_wp2_with fail
    go_ret
    exact ⟨HK.out _ (Below.refl _ _), .inr ⟨HNJ.out, rfl⟩⟩

end Go.Proofs.YtnnkmkhamipfiaaGreatDoor
