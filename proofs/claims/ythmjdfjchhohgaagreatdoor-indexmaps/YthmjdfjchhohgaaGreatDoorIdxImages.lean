/- What the reference's Turns answers: the sign of an order. What mapping.images answers. -/
import Derived.Test.YthmjdfjchhohgaaGreatDoorIdxInv
import Derived.Test.YthmjdfjchhohgaaGreatDoorIdxHas
import Derived.Laws.OwnMore
import Derived.Test.YthmjdfjchhohgaaGreatDoorIdxRowBox
namespace Go.Proofs.YthmjdfjchhohgaaGreatDoor
open Go.RowKit Go.Sort Go.Lib

/-- A row of numbers of one's own. -/
def RowL (base g n cap : Nat) (W : World) (A : List Int) : Prop := W.ownsRow base 3 1 (.slice (some ⟨g, 0, none⟩) n cap) n (A.map (Value.int .i64))
theorem RowL.len {base g n cap : Nat} {W : World} {A : List Int} (h : RowL base g n cap W A) : A.length = n := by
  have h1 : (A.map (Value.int .i64)).length = n * 1 := h.1
  simpa using h1
theorem RowL.cell {base g n cap : Nat} {W : World} {A : List Int} (h : RowL base g n cap W A) {j : Nat} (hj : j < n) : W.cell? ⟨g, j, none⟩ = some (.int .i64 (A[j]?.getD 0)) ∧ W.frozen? ⟨g, j, none⟩ = false := by
  refine ⟨?_, World.ownsRow.frozenAt h j⟩
  rw [World.ownsRow.cellAt h j (by omega), List.getElem?_map, List.getElem?_eq_getElem (by rw [h.len]; exact hj)]
  rfl
theorem RowL.block {base g n cap : Nat} {W : World} {A : List Int} (h : RowL base g n cap W A) : base ≤ g := (World.ownsRow.lt h g rfl).1
theorem RowL.set {base g n cap : Nat} {W : World} {A : List Int} (h : RowL base g n cap W A) (j : Nat) (x : Int) : RowL base g n cap (W.setCell ⟨g, j, none⟩ (.int .i64 x)) (A.set j x) := by
  have := (World.ownsRow.stored h j (.int .i64 x)).1
  unfold RowL
  rw [List.map_set]
  exact this
theorem RowL.drew {base g n cap : Nat} {W : World} {A : List Int} (h : RowL base g n cap W A) : RowL base g n cap W.drew A := World.ownsRow.kept h (Below.grownBy ((Below.refl _ W).drew)) (by cases (Value.slice (some ⟨g, 0, none⟩) n cap).ownBlock <;> simp)
theorem RowL.swap {base g n cap : Nat} {W : World} {A : List Int} (h : RowL base g n cap W A) (i : Nat) {x y : Int} (hx : A[i]?.getD 0 = x) (hy : A[i + 1]?.getD 0 = y) :
    RowL base g n cap ((W.setCell ⟨g, i, none⟩ (.int .i64 y)).setCell ⟨g, i + 1, none⟩ (.int .i64 x)) (swapAt A i) := by
  have := (h.set i y).set (i + 1) x
  unfold swapAt
  rw [hx, hy]
  exact this

/-- What stands in a row. -/
def readN (W : World) (g n : Nat) : List Int := (List.range n).map fun j => intOf ((W.cell? ⟨g, j, none⟩).getD (.int .i64 0))
theorem RowL.read {base g n cap : Nat} {W : World} {A : List Int} (h : RowL base g n cap W A) : readN W g n = A := by
  unfold readN
  refine List.ext_getElem (by rw [List.length_map, List.length_range, h.len]) fun j h1 h2 => ?_
  have hj : j < n := by rw [← h.len]; exact h2
  rw [List.getElem_map, List.getElem_range, (h.cell hj).1, List.getElem?_eq_getElem h2]
  rfl
def againN (again : Value) (W : World) (g n : Nat) : Nat := match again with | .bool true => invN (readN W g n) + 1 | _ => 0

/-- What is kept while neighbours change places. -/
def TurnsAt (base g n cap : Nat) (w : World) (t : Int) (W : World) (A : List Int) (s : Int) : Prop := RowL base g n cap W A ∧ s * signN (invN A) = t ∧ (s = 1 ∨ s = -1) ∧ Below w.heap.size w W

theorem TurnsAt.drew {base g n cap : Nat} {w : World} {t : Int} {W : World} {A : List Int} {s : Int} (h : TurnsAt base g n cap w t W A s) : TurnsAt base g n cap w t W.drew A s := ⟨h.1.drew, h.2.1, h.2.2.1, h.2.2.2.drew⟩

set_option maxRecDepth 100000 in
set_option maxHeartbeats 2000000 in
theorem turns_ (v : Value) (l : List Int) (w : World) (h : Ints w v l) (hl : l.length ≤ 7) (h1 : l ≠ []) :
    Calls Tryz.prog 50 #[v] w fun e w' => e = .returned (.int .i64 (signN (invN l))) ∧ Below w.heap.size w w' := by
  obtain ⟨i0, hi0, hz0, hz1, hz2⟩ := info_parts Tryz.info3
  have hh0 := h
  obtain ⟨ah, ch, rfl, -, -⟩ := h.open_
  have hs : SliceIn anyBlock w (.slice ah l.length ch) (l.map (Value.int .i64)) := hh0
  have hone : ∀ c ∈ l.map (Value.int .i64), c.oneCell' = true := fun c hc => by
    obtain ⟨x, _, rfl⟩ := List.mem_map.1 hc
    rfl
  have own0 : w.ownsRow w.heap.size 3 1 (.slice none 0 0) 0 [] := World.ownsRow_nil _ _ _ _
  have hml : (l.map (Value.int .i64)).length ≤ 7 := by rw [List.length_map]; exact hl
  have hpos : 0 < l.length := List.length_pos_iff.2 h1
  obtain ⟨n, hn⟩ : ∃ n, l.length = n := ⟨_, rfl⟩
  obtain ⟨ns, hns⟩ : ∃ ns, l.map (Value.int .i64) = ns := ⟨_, rfl⟩
  have HNS : Hid (l.map (Value.int .i64) = ns ∧ ns.length = n) := ⟨hns, by rw [← hns, List.length_map, hn]⟩
  obtain ⟨t, ht⟩ : ∃ t, signN (invN l) = t := ⟨_, rfl⟩
  have HT := Hid.mk' ht
  rw [hn, hns] at hs
  rw [hns] at hone hml
  rw [hn] at hpos hl
  rw [hn, ht]
  clear h hh0 hn hns ht h1
  go_enter Tryz.func50, Tryz.ntmps50
  go_wp2_with (first
    | (at_builtin; refine wpList_append_slice rfl (.tmp 7) (.tmp 8) 23 rfl _ 3 i0 (.int .i64 0) 8 Tryz.underlying23 hi0 hz0 hz1 hz2 rfl _ _ _ rfl own0 _ ns rfl hs hone (by simp; omega) (by unfold maxLen; simp; omega) (Nat.le_refl _) ?_; intro v4 w4 hown4 hg4 hl4)
    | fail)
  have hB4 : Below w.heap.size w w4 := (Below.refl _ w).grown hg4 (Nat.le_refl _) (fun b hb => (own0.lt b hb).1)
  have hrow : w4.ownsRow w.heap.size 3 1 v4 n ns := by
    have := hown4
    rw [Nat.zero_add, HNS.out.2, List.nil_append] at this
    exact this
  obtain ⟨g, cap, rfl, -, -⟩ := World.ownsRow.form hrow hpos
  have HR : Hid (TurnsAt w.heap.size g n cap w t w4 l 1) := ⟨by have := hrow; rw [← HNS.out.1] at this; exact this, by rw [Int.one_mul]; exact HT.out, .inl rfl, hB4⟩
  have hcap : n ≤ cap := by
    rcases hrow.2 with ⟨h', _⟩ | ⟨g', cap', cur, h', _, _, hnc, _⟩
    · simp at h'
    · simp only [Value.slice.injEq] at h'
      rw [h'.2.2]; exact hnc
  clear hown4 hg4 hl4 hB4 hrow
  go_loopw [4, 5] (fun vs va W => ∃ (A : List Int) (s : Int) (q : Bool), vs = .int .i64 s ∧ va = .bool q ∧ Hid (TurnsAt w.heap.size g n cap w t W A s ∧ (q = false → invN A = 0))) (fun _ va W => againN va W g n)
  case atStart => exact ⟨l, 1, true, rfl, rfl, HR.out, fun h => by cases h⟩
  case round =>
    obtain ⟨A, s, q, rfl, rfl, HA⟩ := hrel
    cases q with
    | false =>
      have hz := HA.out.2 rfl
      have hst := HA.out.1.2.1
      rw [hz] at hst
      have HS : Hid (s = t) := by
        show s = t
        rw [← hst]
        unfold signN
        simp
      clear hz hst
      go_wp2_with fail
      go_ret
      exact ⟨by rw [HS.out]; rfl, HA.out.1.2.2.2⟩
    | true =>
      generalize wr = Wm at *
      go_wp2_with fail
      go_loopw [4, 5, 6] (fun vs va p W => ∃ (B : List Int) (s2 : Int) (q : Bool) (i : Nat), vs = .int .i64 s2 ∧ va = .bool q ∧ p = .int .i64 i ∧ i < n ∧ Hid (TurnsAt w.heap.size g n cap w t W B s2 ∧ (q = false → B = A ∧ ∀ j, j < i → B[j]?.getD 0 ≤ B[j + 1]?.getD 0) ∧ (q = true → invN B < invN A) ∧ invN B ≤ invN A)) (fun _ _ p _ => n - (intOf p).toNat)
      case atStart => exact ⟨A, s, false, 0, rfl, rfl, rfl, hpos, HA.out.1, fun _ => ⟨rfl, fun j hj => by omega⟩, (fun h => by cases h), Nat.le_refl _⟩
      case round =>
        obtain ⟨B, s2, q, i, rfl, rfl, rfl, hi, HBB⟩ := hrel
        by_cases hlt : i + 1 < n
        · obtain ⟨g1, f1⟩ := HBB.out.1.1.cell (j := i) hi
          obtain ⟨g2, f2⟩ := HBB.out.1.1.cell (j := i + 1) hlt
          obtain ⟨x, hx⟩ : ∃ x, B[i]?.getD 0 = x := ⟨_, rfl⟩
          obtain ⟨y, hy⟩ : ∃ y, B[i + 1]?.getD 0 = y := ⟨_, rfl⟩
          rw [hx] at g1
          rw [hy] at g2
          have HXY : Hid (B[i]?.getD 0 = x ∧ B[i + 1]?.getD 0 = y) := ⟨hx, hy⟩
          clear hx hy
          by_cases hc : y < x
          · have hd : decide (y < x) = true := decide_eq_true hc
            have hsw : invN (swapAt B i) + 1 = invN B := inv_swap B i (by rw [HBB.out.1.1.len]; exact hlt) (by rw [HXY.out.1, HXY.out.2]; exact hc)
            have HN2 : Hid (TurnsAt w.heap.size g n cap w t ((wr.setCell ⟨g, i, none⟩ (.int .i64 y)).setCell ⟨g, i + 1, none⟩ (.int .i64 x)) (swapAt B i) (-s2) ∧ invN (swapAt B i) + 1 = invN B ∧ invN B ≤ invN A) := by
              refine ⟨⟨HBB.out.1.1.swap i HXY.out.1 HXY.out.2, ?_, ?_, ?_⟩, hsw, HBB.out.2.2.2⟩
              · have h3 := HBB.out.1.2.1
                rw [← hsw, signN_succ] at h3
                rw [← h3, Int.neg_mul, Int.mul_neg]
              · rcases HBB.out.1.2.2.1 with h | h <;> rw [h] <;> simp
              · exact (HBB.out.1.2.2.2.setCell HBB.out.1.1.block _).setCell HBB.out.1.1.block _
            have hs2 := HBB.out.1.2.2.1
            have hs3 : -1 ≤ s2 := by omega
            have hs4 : s2 ≤ 1 := by omega
            clear hsw hs2
            go_wp2_with fail
            go_region
            go_wp2_with fail
            go_region
            go_wp2_with fail
            go_roundw
            case rel => exact ⟨swapAt B i, -s2, true, i + 1, rfl, rfl, by go_num, hlt, HN2.out.1.drew.drew, (fun h => by cases h), (fun _ => by have := HN2.out.2; omega), by have := HN2.out.2; omega⟩
            case measure => simp [intOf]; omega
          · have hd : decide (y < x) = false := decide_eq_false hc
            have HNX : Hid (q = false → B = A ∧ ∀ j, j < i + 1 → B[j]?.getD 0 ≤ B[j + 1]?.getD 0) := fun hq => ⟨(HBB.out.2.1 hq).1, fun j hj => by
              rcases Nat.lt_or_ge j i with h | h
              · exact (HBB.out.2.1 hq).2 j h
              · obtain rfl : j = i := by omega
                rw [HXY.out.1, HXY.out.2]; omega⟩
            go_wp2_with fail
            go_region
            go_wp2_with fail
            go_roundw
            case rel => exact ⟨B, s2, q, i + 1, rfl, rfl, by go_num, hlt, HBB.out.1.drew, HNX.out, HBB.out.2.2⟩
            case measure => simp [intOf]; omega
        · obtain rfl : n = i + 1 := by omega
          have HM : Hid (againN (.bool q) wr g (i + 1) < againN (.bool true) Wm g (i + 1)) := by
            show againN (.bool q) wr g (i + 1) < invN (readN Wm g (i + 1)) + 1
            rw [HA.out.1.1.read]
            cases q with
            | false => exact Nat.succ_pos _
            | true =>
              show invN (readN wr g (i + 1)) + 1 < _
              rw [HBB.out.1.1.read]
              have := HBB.out.2.2.1 rfl
              omega
          have HZ : Hid (q = false → invN B = 0) := fun hq => (inv_sorted B fun j hj => (HBB.out.2.1 hq).2 j (by rw [HBB.out.1.1.len] at hj; omega)).1
          go_wp2_with fail
          go_roundw
          case rel => exact ⟨B, s2, q, rfl, rfl, HBB.out.1, HZ.out⟩
          case measure => exact HM.out

end Go.Proofs.YthmjdfjchhohgaaGreatDoor

namespace Go.Proofs.YthmjdfjchhohgaaGreatDoor
open Go.RowKit Go.Sort Go.Lib

theorem rowL_made {base : Nat} (W : World) (n : Nat) (hn : n ≤ 1000) (hb : base ≤ W.heap.size) : RowL base W.heap.size n n (W.alloc (.cells (madeCells #[.int .i64 0] n) 3)) (List.replicate n 0) := by
  have h := World.ownsRow_lit (base := base) (e := 3) (size := 1) W (madeCells #[.int .i64 0] n) n hb (by unfold maxLen; omega) (by simp [madeCells])
  unfold RowL
  rw [List.map_replicate]
  have e : (madeCells #[.int .i64 0] n).toList = List.replicate n (Value.int .i64 0) := by
    apply List.ext_getElem
    · simp [madeCells]
    · intro i h1 h2
      simp [madeCells, Nat.mod_one]
  rw [← e]
  exact h

set_option maxRecDepth 100000 in
set_option maxHeartbeats 1000000 in
theorem images_ (vF : Value) (F : Nat → Int) (vx : Value) (x : List Int) (w : World) (hx : Ints w vx x) (hxl : x.length ≤ 7) (hv : ∀ v ∈ x, 0 ≤ v ∧ v ≤ 99) :
    Calls Tryz.prog 76 #[.agg (mapC vF F).toArray, vx] w fun e w' => ∃ g, e = .returned (.slice (some ⟨g, 0, none⟩) x.length x.length) ∧ RowL w.heap.size g x.length x.length w' (x.map fun v => F v.toNat) ∧ Below w.heap.size w w' := by
  have hx0 := hx
  obtain ⟨ax, cx, rfl, -, -⟩ := hx.open_
  have HX := Hid.mk' (ints_cells hx0)
  obtain ⟨m, hm⟩ : ∃ m, x.length = m := ⟨_, rfl⟩
  have HM := Hid.mk' hm
  have hmk : ∀ V : World, (Instr.makeSlice 23 (.int .i64 (m : Int)) (.int .i64 (m : Int))).run Tryz.prog V = .ok (.slice (some ⟨V.heap.size, 0, none⟩) m m) (V.alloc (.cells (madeCells #[.int .i64 0] m) 3)) := fun V => run_make_row' (P := Tryz.prog) 23 3 (.int .i64 0) 8 Tryz.underlying23 Tryz.info3 rfl .i64 .i64 m (by omega) (by omega) V
  have HV := Hid.mk' hv
  rw [hm] at HX hxl ⊢
  have hmg : MapgAt w.heap.size (w.alloc (.cells (mapC vF F).toArray 83)) vF F := (Go.MapKept.heap_alloc w _).1
  obtain ⟨P, hP⟩ : ∃ P, (mapC vF F).toArray = P := ⟨_, rfl⟩
  rw [hP] at hmg ⊢
  have hB0 : Below w.heap.size w (w.alloc (.cells P 83)) := (Below.refl _ w).alloc (Nat.le_refl _) _
  obtain ⟨W0, hW0⟩ : ∃ W0, w.alloc (.cells P 83) = W0 := ⟨_, rfl⟩
  rw [hW0] at hmg hB0
  have HMG := Hid.mk' hmg
  have HB0 := Hid.mk' hB0
  clear hx hx0 hm hv hP hmg hB0
  have HROW := Hid.mk' (rowL_made (base := w.heap.size) W0 m (by omega) HB0.out.size)
  have hB1 : Below W0.heap.size W0 (W0.alloc (.cells (madeCells #[.int .i64 0] m) 3)) := (Below.refl _ W0).alloc (Nat.le_refl _) _
  obtain ⟨W1, hW1⟩ : ∃ W1, W0.alloc (.cells (madeCells #[.int .i64 0] m) 3) = W1 := ⟨_, rfl⟩
  obtain ⟨g, hg⟩ : ∃ g, W0.heap.size = g := ⟨_, rfl⟩
  rw [hW1] at HROW hB1
  have HB1 : Hid (Below w.heap.size w W1) := HB0.out.trans (hB1.mono HB0.out.size)
  have HMG1 := Hid.mk' (HMG.out.below hB1)
  have hg0 := HB0.out.size
  have hg1 : w.heap.size < g := by rw [← hg]; exact HMG.out.lt
  rw [hg] at HROW
  have HG1 := Hid.mk' hg1
  clear hB1 hg0 hg1 HB0 HMG
  go_enter Tryz.func76, Tryz.ntmps76
  go_wp2_with fail
  go_loopw [13] (fun p W => ∃ (k : Nat) (A : List Int), k ≤ m ∧ p = .int .i64 k ∧ Hid (RowL w.heap.size g m m W A ∧ MapgAt w.heap.size W vF F ∧ (∀ j, j < k → A[j]?.getD 0 = F (x[j]?.getD 0).toNat) ∧ Below w.heap.size w W)) (fun p _ => m - (intOf p).toNat)
  case atStart => exact ⟨0, _, by omega, rfl, HROW.out, HMG1.out, fun j hj => by omega, HB1.out⟩
  case round =>
    obtain ⟨k, A, hk, rfl, HA⟩ := hrel
    by_cases hlt : k < m
    · obtain ⟨b, o, rfl, hb, g0⟩ := HX.out k hlt
      have g1 := (HA.out.2.2.2.cell (p := ⟨b, o + k, none⟩) hb).trans g0
      have hxm : x[k]?.getD 0 ∈ x := by rw [List.getElem?_eq_getElem (by rw [HM.out]; exact hlt)]; exact List.getElem_mem _
      have hy := HV.out _ hxm
      obtain ⟨y, hye⟩ : ∃ y, x[k]?.getD 0 = y := ⟨_, rfl⟩
      have HY := Hid.mk' hye
      rw [hye] at g1 hy
      obtain ⟨v, rfl⟩ : ∃ v : Nat, y = (v : Int) := ⟨y.toNat, by omega⟩
      have hv : v < 100 := by omega
      have g2 := HA.out.2.1.image hv
      obtain ⟨g3, f3⟩ := HA.out.1.cell hlt
      obtain ⟨z, hz⟩ : ∃ z, F v = z := ⟨_, rfl⟩
      rw [hz] at g2
      have HZ : Hid (F (x[k]?.getD 0).toNat = z) := by
        show _ = _
        rw [HY.out, ← hz]; rfl
      have HL := Hid.mk' HA.out.1.len
      clear g0 hxm hy hye hz
      go_wp2_with fail
      go_roundw
      case rel =>
        refine ⟨k + 1, A.set k z, by omega, by go_num, HA.out.1.set k z, ?_, fun j hj => ?_, HA.out.2.2.2.setCell (by have := HG1.out; show w.heap.size ≤ g; omega) _⟩
        · exact (heap_setCell_other wr ⟨g, k, none⟩ w.heap.size _ (by have := HG1.out; show w.heap.size ≠ g; omega)).trans HA.out.2.1
        · rw [List.getElem?_set]
          by_cases e : k = j
          · subst e
            rw [if_pos rfl, if_pos (by rw [HL.out]; exact hlt), HZ.out]; rfl
          · rw [if_neg e]
            exact HA.out.2.2.1 j (by omega)
      case measure => simp [intOf]; omega
    · obtain rfl : k = m := by omega
      have HE : Hid (A = x.map fun v => F v.toNat) := by
        show _ = _
        have hl := HA.out.1.len
        refine List.ext_getElem (by rw [List.length_map, HM.out, hl]) fun j h1 h2 => ?_
        have h3 := HA.out.2.2.1 j (by omega)
        rw [List.getElem?_eq_getElem h1, List.getElem?_eq_getElem (by rw [HM.out]; omega)] at h3
        rw [List.getElem_map]
        exact h3
      go_wp2_with fail
      go_ret
      refine ⟨g, rfl, ?_, HA.out.2.2.2⟩
      rw [← HE.out]
      exact HA.out.1

end Go.Proofs.YthmjdfjchhohgaaGreatDoor
