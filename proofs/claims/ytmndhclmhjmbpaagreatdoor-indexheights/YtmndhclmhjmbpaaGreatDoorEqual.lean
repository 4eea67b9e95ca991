/- What told answers: the complex of the facets that a map of faces tells. A world behind two calls, and behind a box. What slices.Equal and slices.EqualFunc answer: whether two lists are the same; nothing is written. -/
import Derived.Test.YtmndhclmhjmbpaaGreatDoorLists
namespace Go.Proofs.YtmndhclmhjmbpaaGreatDoor
open Go.RowKit Go.Sort Go.Maps Go.Deep

/-- What told answers. -/
def ToldSays (F : List (List UInt8)) (G : List UInt8 → Prop) (w : World) (e : Ending) (w' : World) : Prop :=
  ∃ v ss, e = .returned (.agg #[v]) ∧ OwnRows w.heap.size w' v ((srtS ss).map ints) ∧ ss.Nodup ∧ (∀ x, x ∈ ss ↔ x ∈ F ∧ ¬ G x) ∧ Below w.heap.size w w'

theorem OwnRows.lower {base base' : Nat} {w : World} {v : Value} {xss : List (List Int)} (h : OwnRows base w v xss) (hb : base' ≤ base) : OwnRows base' w v xss := by
  obtain ⟨vs, ⟨h1, h2⟩, h3⟩ := h
  refine ⟨vs, ⟨h1, ?_⟩, fun k u x hu hx => SliceIn.mono (h3 k u x hu hx) (fun b _ h => ⟨Nat.le_trans hb h.1, h.2⟩)⟩
  rcases h2 with h2 | ⟨g, cap, cur, e1, e2, e3⟩
  · exact .inl h2
  · exact .inr ⟨g, cap, cur, e1, Nat.le_trans hb e2, e3⟩

theorem OwnRows.setCell {base : Nat} {w : World} {v : Value} {xss : List (List Int)} (h : OwnRows base w v xss) {p : Addr} (hp : p.block < base) (u : Value) : OwnRows base (w.setCell p u) v xss := by
  obtain ⟨vs, h1, h3⟩ := h
  refine ⟨vs, ownsRow_setCell_below h1 hp u, fun k u' x hu hx => SliceIn.keep (h3 k u' x hu hx) (fun b _ h => ?_)⟩
  exact blk_setCell_other w p u b (fun e => by omega)

set_option maxRecDepth 100000 in
theorem told_ (b : Nat) (F : List (List UInt8)) (G : List UInt8 → Prop) (w : World) (hP : PileAt w b F G) (hF : F.length ≤ 100000) (hx : ∀ x ∈ F, x.length ≤ 1000) :
    Calls Tryz.prog 67 #[.map (some b)] w fun e w' => ToldSays F G w e w' := by
  have hP1 := hP.below ((Below.refl _ w).alloc (Nat.le_refl _) (.cells #[.slice none 0 0] 33))
  have hfac := facets_ b F G (w.alloc (.cells #[.slice none 0 0] 33)) hP1 hF hx
  clear hP1
  have hbox := box_new w (.slice none 0 0) 33
  go_enter Tryz.func67, Tryz.ntmps67
  go_wp2_with fail
  refine hfac.mono ?_
  rintro e w2 ⟨v, ss, rfl, h1, h2, h3, h4⟩
  have hmm : ∀ t ∈ srtS ss, t ∈ F := fun t ht => ((h3 t).1 ((List.mergeSort_perm ss _).mem_iff.1 ht)).1
  have hlen : (srtS ss).length ≤ 100000 := by
    have e1 : (srtS ss).length = ss.length := (List.mergeSort_perm ss _).length_eq
    have := nodup_le h2 (fun x hx => ((h3 x).1 hx).1)
    omega
  have hlis := lists_ v (srtS ss) w2 (SliceIn.mono h1 (fun _ _ _ => trivial)) hlen (fun t ht => hx t (hmm t ht))
  go_wp2_with fail
  refine hlis.mono ?_
  rintro e w3 ⟨v3, rfl, h5, h6⟩
  have hB3 : Below (w.heap.size + 1) (w.alloc (.cells #[.slice none 0 0] 33)) w3 := by
    have h4' := h4
    rw [World.size_alloc] at h4'
    exact h4'.trans (h6.mono (by have := h4.size; simp at this; omega))
  have c1 : w3.cell? ⟨w.heap.size, 0, none⟩ = some (.slice none 0 0) := (hB3.cell (p := ⟨w.heap.size, 0, none⟩) (by simp)).trans hbox.1
  have z1 : w3.frozen? ⟨w.heap.size, 0, none⟩ = false := (hB3.frozen (p := ⟨w.heap.size, 0, none⟩) (by simp)).trans hbox.2
  have H5 : Hid (OwnRows w2.heap.size w3 v3 ((srtS ss).map ints)) := h5
  obtain ⟨a3, c3, rfl, -, -⟩ := h5.rows.open_
  clear h5 hfac hlis hlen hmm h1
  go_wp2
  have c2 := World.cell?_setCell_same' w3 ⟨w.heap.size, 0, none⟩ (.slice a3 ((srtS ss).map ints).length c3) (by rw [c1]; rfl)
  rw [List.length_map] at c2
  refine bodyPost_ret (v := .agg #[.slice a3 (srtS ss).length c3]) ?_ rfl ?_
  · simp [results, Tryz.f67, go_sem, c2]
  · have h5 := H5.out
    rw [List.length_map] at h5
    refine ⟨_, ss, rfl, ?_, h2, h3, ?_⟩
    · exact (h5.setCell (p := ⟨w.heap.size, 0, none⟩) (by have := h4.size; simp at this; show w.heap.size < w2.heap.size; omega) _).lower (by have := h4.size; simp at this; omega)
    · exact (((Below.refl _ w).alloc (Nat.le_refl _) _).trans (hB3.mono (by omega))).setCell (p := ⟨w.heap.size, 0, none⟩) (Nat.le_refl _) _

end Go.Proofs.YtmndhclmhjmbpaaGreatDoor

namespace Go.Proofs.YtmndhclmhjmbpaaGreatDoor
open Go.RowKit Go.Sort Go.Maps Go.Deep

theorem below_after {w w1 w2 : World} {o : Obj} (h1 : Below (w.alloc o).heap.size (w.alloc o) w1) (h2 : Below w1.heap.size w1 w2) : Below (w.heap.size + 1) (w.alloc o) w2 := by
  rw [World.size_alloc] at h1
  exact h1.trans (h2.mono (by have := h1.size; simp at this; omega))
theorem below_out {w w1 : World} {o : Obj} (h1 : Below (w.heap.size + 1) (w.alloc o) w1) : Below w.heap.size w w1 :=
  ((Below.refl _ w).alloc (Nat.le_refl _) o).trans (h1.mono (by omega))

end Go.Proofs.YtmndhclmhjmbpaaGreatDoor

namespace Go.Proofs.YtmndhclmhjmbpaaGreatDoor
open Go.RowKit Go.Sort

set_option maxRecDepth 100000 in
theorem equal_ints (va vb : Value) (xs ys : List Int) (w : World) (ha : Ints w va xs) (hb : Ints w vb ys) (hx : xs.length ≤ 1000000) :
    Calls Tryz.prog 68 #[va, vb] w fun e w' => e = .returned (.bool (decide (xs = ys))) ∧ ∃ q, w' = w.drewN q := by
  obtain ⟨a, ca, rfl, -, ha⟩ := ha.open_
  obtain ⟨b, cb, rfl, -, hb⟩ := hb.open_
  by_cases hl : xs.length = ys.length
  · rw [← hl]
    have HL : Hid (xs.length = ys.length) := hl
    clear hl
    go_enter Tryz.func68, Tryz.ntmps68
    go_wp2
    go_loopw [13] (fun v W => ∃ k q : Nat, k ≤ xs.length ∧ v = .int .i64 k ∧ W = w.drewN q ∧ xs.take k = ys.take k) (fun v _ => xs.length - (intOf v).toNat)
    case atStart => exact ⟨0, 0, by omega, rfl, rfl, by simp⟩
    case round =>
      obtain ⟨k, q, hk, rfl, rfl, ht⟩ := hrel
      have HT : Hid (xs.take k = ys.take k) := ht
      have hy' : k < xs.length → k < ys.length := by have := HL.out; omega
      clear ht
      by_cases hlt : k < xs.length
      · obtain ⟨b1, o1, rfl, -, -, c1⟩ := ha (by omega)
        obtain ⟨b2, o2, rfl, -, -, c2⟩ := hb (by have := hy' hlt; omega)
        have g1 := c1 k hlt
        have g2 := c2 k (hy' hlt)
        clear c1 c2 ha hb
        obtain ⟨x, hxe⟩ : ∃ x, xs[k]?.getD 0 = x := ⟨_, rfl⟩
        obtain ⟨y, hye⟩ : ∃ y, ys[k]?.getD 0 = y := ⟨_, rfl⟩
        rw [hxe] at g1
        rw [hye] at g2
        have HX : Hid (xs[k]?.getD 0 = x) := hxe
        have HY : Hid (ys[k]?.getD 0 = y) := hye
        clear hxe hye
        by_cases heq : x = y
        · subst heq
          go_wp2_with fail
          go_quiet (fail)
          go_wp2
          go_roundw
          case rel => exact ⟨k + 1, _, by omega, by go_num, rfl, take_snoc HT.out hlt (hy' hlt) (HX.out.trans HY.out.symm)⟩
          case measure => simp [intOf]; omega
        · have hne : (x != y) = true := by simpa using heq
          have HE : Hid (¬ x = y) := heq
          clear heq
          go_wp2_with fail
          go_quiet (fail)
          go_wp2
          go_ret
          exact ⟨by rw [decide_eq_false (ne_at (fun h => HE.out (by rw [← HX.out, ← HY.out, h])))]; rfl, q + nq, by rw [World.drewN_drewN]⟩
      · clear ha hb
        go_wp2
        go_ret
        refine ⟨?_, q, rfl⟩
        have h1 := HT.out
        have h2 := HL.out
        rw [List.take_of_length_le (by omega), List.take_of_length_le (by omega)] at h1
        rw [decide_eq_true h1]; rfl
  · have hne : xs ≠ ys := fun h => hl (by rw [h])
    go_enter Tryz.func68, Tryz.ntmps68
    clear ha hb
    go_wp2
    go_ret
    exact ⟨by rw [decide_eq_false hne]; rfl, 0, rfl⟩


set_option maxRecDepth 100000 in
theorem equal_lists (va vb : Value) (xs ys : List (List Int)) (w : World) (ha : Rows w va xs) (hb : Rows w vb ys) (hx : xs.length ≤ 1000000) (hm : ∀ x ∈ xs, x.length ≤ 1000000) :
    Calls Tryz.prog 66 #[va, vb, .func (.func 68) #[] #[]] w fun e w' => e = .returned (.bool (decide (xs = ys))) ∧ ∃ q, w' = w.drewN q := by
  obtain ⟨a, ca, rfl, -, ha⟩ := ha.open_
  obtain ⟨b, cb, rfl, -, hb⟩ := hb.open_
  by_cases hl : xs.length = ys.length
  · rw [← hl]
    have HL : Hid (xs.length = ys.length) := hl
    clear hl
    go_enter Tryz.func66, Tryz.ntmps66
    go_wp2
    go_loopw [17] (fun v W => ∃ k q : Nat, k ≤ xs.length ∧ v = .int .i64 k ∧ W = w.drewN q ∧ xs.take k = ys.take k) (fun v _ => xs.length - (intOf v).toNat)
    case atStart => exact ⟨0, 0, by omega, rfl, rfl, by simp⟩
    case round =>
      obtain ⟨k, q, hk, rfl, hw, ht⟩ := hrel
      have HW : Hid (wr = w.drewN q) := hw
      have HT : Hid (xs.take k = ys.take k) := ht
      have HM : Hid (∀ x ∈ xs, x.length ≤ 1000000) := hm
      have hy' : k < xs.length → k < ys.length := by have := HL.out; omega
      clear ht hm
      by_cases hlt : k < xs.length
      · obtain ⟨b1, o1, rfl, -, -, c1⟩ := ha (by omega)
        obtain ⟨b2, o2, rfl, -, -, c2⟩ := hb (by have := hy' hlt; omega)
        obtain ⟨a1, p1, g1, i1⟩ := c1 k hlt
        obtain ⟨a2, p2, g2, i2⟩ := c2 k (hy' hlt)
        clear c1 c2 ha hb
        have hlen : (xs[k]?.getD []).length ≤ 1000000 := HM.out _ (by simp [hlt])
        obtain ⟨x, hxe⟩ : ∃ x, xs[k]?.getD [] = x := ⟨_, rfl⟩
        obtain ⟨y, hye⟩ : ∃ y, ys[k]?.getD [] = y := ⟨_, rfl⟩
        rw [hxe] at g1 i1 hlen
        rw [hye] at g2 i2
        have g1 : wr.cell? ⟨b1, o1 + k, none⟩ = some (.slice a1 x.length p1) := by rw [hw]; exact g1
        have g2 : wr.cell? ⟨b2, o2 + k, none⟩ = some (.slice a2 y.length p2) := by rw [hw]; exact g2
        have i1 : Ints wr (.slice a1 x.length p1) x := by rw [hw]; exact i1
        have i2 : Ints wr (.slice a2 y.length p2) y := by rw [hw]; exact i2
        clear hw
        have HX : Hid (xs[k]?.getD [] = x) := hxe
        have HY : Hid (ys[k]?.getD [] = y) := hye
        clear hxe hye
        have hc := equal_ints _ _ x y wr i1 i2 hlen
        obtain ⟨c, hce⟩ : ∃ c, decide (x = y) = c := ⟨_, rfl⟩
        rw [hce] at hc
        have HC : Hid (decide (x = y) = c) := hce
        clear hce i1 i2
        cases c with
        | true =>
          go_wp2_with (go_at_call 68; refine hc.mono ?_; rintro e w' ⟨rfl, nq, rfl⟩)
          go_roundw
          case rel => exact ⟨k + 1, q + nq, by omega, by go_num, by rw [HW.out, World.drewN_drewN], takes_snoc HT.out hlt (hy' hlt) (by rw [HX.out, HY.out]; exact of_decide_eq_true HC.out)⟩
          case measure => simp [intOf]; omega
        | false =>
          go_wp2_with (go_at_call 68; refine hc.mono ?_; rintro e w' ⟨rfl, nq, rfl⟩)
          go_ret
          refine ⟨?_, q + nq, by rw [HW.out, World.drewN_drewN]⟩
          have : xs ≠ ys := fun h => (of_decide_eq_false HC.out) (by rw [← HX.out, ← HY.out, h])
          rw [decide_eq_false this]; rfl
      · clear ha hb hw
        go_wp2
        go_ret
        refine ⟨?_, q, HW.out⟩
        have h1 := HT.out
        have h2 := HL.out
        rw [List.take_of_length_le (by omega), List.take_of_length_le (by omega)] at h1
        rw [decide_eq_true h1]; rfl
  · have hne : xs ≠ ys := fun h => hl (by rw [h])
    go_enter Tryz.func66, Tryz.ntmps66
    clear ha hb
    go_wp2
    go_ret
    exact ⟨by rw [decide_eq_false hne]; rfl, 0, rfl⟩


end Go.Proofs.YtmndhclmhjmbpaaGreatDoor
