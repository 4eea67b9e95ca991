/- What ComplexError answers, with the error's value. What Little tells of sets of which something is said. What the reference's TopOf answers. What the statements' Cx answers: the same sets, in memory of its own. -/
import Derived.Test.YtiblgnkjjbbmaaaDoorCupRow
import Derived.Test.YtiblgnkjjbbmaaaDoorMade
import Derived.Test.YtiblgnkjjbbmaaaDoorMathV
import Derived.Test.YtiblgnkjjbbmaaaDoorRefC
import Derived.Test.YtiblgnkjjbbmaaaDoorOpen
import Derived.Test.YtiblgnkjjbbmaaaDoorCupCochains0
import Derived.Deep.RegionLaw
import Derived.Deep.RegionHeld3
import Derived.Deep.AppendLies
import Derived.Deep.Light
namespace Go.Proofs.YtiblgnkjjbbmaaaDoor
open Go.RowKit Go.Sort Go.Maps Go.Deep

/-- What ComplexError answers, with the error's value. -/
theorem error_k2 (CL : ClosedHolds) (a : Nat → Addr) (vl : Value) (l : List (List Int)) (w : World) (hl : Rows w vl l) (hll : l.length ≤ 100000) (hle : ∀ x ∈ l, x.length ≤ 1000) :
    Calls Tryd.prog 6 #[vl] w fun e w' => Below w.heap.size w w' ∧ ∃ ve n all, Kind a l ve n all ∧ e = .returned (.int .i64 n) ∧ (((n == 0) = false ∧ 0 < n ∧ all = [] ∧ ∃ i : Nat, BadAt l i ∧ ve = .iface 133 (.pointer (some (a i))) ∧ n = (i : Int) + 1) ∨ (n = 0 ∧ Good l all)) := by
  refine (error_g CL vl l w hl hll hle).mono ?_
  rintro e w' ⟨hB, ⟨i, hb, rfl⟩ | ⟨all, g, rfl⟩⟩
  · exact ⟨hB, _, _, [], .inl ⟨i, hb, rfl, rfl, rfl⟩, rfl, .inl ⟨beq_false_of_ne (by omega), by omega, rfl, i, hb, rfl, rfl⟩⟩
  · exact ⟨hB, _, _, all, .inr ⟨g, rfl, rfl⟩, rfl, .inr ⟨rfl, g⟩⟩

end Go.Proofs.YtiblgnkjjbbmaaaDoor

namespace Go.Proofs.YtiblgnkjjbbmaaaDoor
open Go.RowKit Go.Sort Go.Maps Go.Deep

set_option maxRecDepth 100000 in
theorem little_few (CL : ClosedHolds) (vl : Value) (l : List (List Int)) (m : Nat) (w : World) (hl : Rows w vl l) :
    Calls Tryd.prog 5 #[vl, .int .i64 m] w fun e w' => ∃ q : Bool, e = .returned (.bool q) ∧ Below w.heap.size w w' ∧ (q = true → l.length ≤ 40 ∧ (∀ x ∈ l, x.length ≤ 12) ∧ ∀ all, Good l all → all.length ≤ m) := by
  have hfw := few_ vl l w hl
  have HR : Hid (Rows w vl l) := hl
  have HC : Hid ClosedHolds := CL
  clear CL hl
  go_enter Tryd.func5, Tryd.ntmps5
  go_wp2_with fail
  refine hfw.mono ?_
  rintro e w2 ⟨q, rfl, rfl, hq⟩
  cases q with
  | false =>
    clear hfw hq
    go_wp2
    go_ret
    exact ⟨false, rfl, Below.refl _ _, fun h => by cases h⟩
  | true =>
    have hb := hq rfl
    have hcl := HC.out vl l w2 HR.out (by omega) (fun x hx => by have := hb.2 x hx; omega)
    have HB : Hid (l.length ≤ 40 ∧ ∀ x ∈ l, x.length ≤ 12) := hb
    clear hfw hq hb
    go_wp2_with fail
    refine hcl.mono ?_
    rintro e w3 ⟨hB, ⟨hno, rfl⟩ | ⟨hok, hov, rfl⟩ | ⟨hok, hov, v, all, rfl, hr0, hal, h6⟩⟩
    · have HN : Hid (¬ ∀ x ∈ l, SetOk x) := hno
      clear hcl hno
      go_wp2
      go_ret
      exact ⟨_, rfl, hB, fun _ => ⟨HB.out.1, HB.out.2, fun all g => absurd g.ok HN.out⟩⟩
    · have HN : Hid (Over (l.map srt)) := hov
      clear hcl hok hov
      go_wp2
      go_ret
      exact ⟨_, rfl, hB, fun _ => ⟨HB.out.1, HB.out.2, fun all g => absurd HN.out g.few⟩⟩
    · have hr := hr0.any
      obtain ⟨ar, cr, rfl, -, -⟩ := hr.open_
      have HN : Hid (IsAll (l.map srt) all) := hal
      clear hcl hr hal hok hov
      by_cases hm : all.length ≤ m
      · go_wp2
        go_ret
        exact ⟨_, rfl, hB, fun _ => ⟨HB.out.1, HB.out.2, fun all' g => by rw [all_one g.isAll HN.out]; exact hm⟩⟩
      · have hmb : decide ((all.length : Int) ≤ (m : Int)) = false := decide_eq_false (by omega)
        go_wp2
        go_ret
        exact ⟨false, by simp, hB, fun h => by cases h⟩

end Go.Proofs.YtiblgnkjjbbmaaaDoor

namespace Go.Proofs.YtiblgnkjjbbmaaaDoor
open Go.RowKit Go.Sort

theorem top_take {all : List (List Int)} {k : Nat} (hk : k < all.length) : topN (all.take (k + 1)) = max (topN (all.take k)) (all[k]?.getD []).length := by
  rw [List.take_add_one, List.getElem?_eq_getElem hk, Option.getD_some]
  exact topN_snoc _ _
set_option maxRecDepth 100000 in
theorem top_of (va : Value) (all : List (List Int)) (w : World) (ha : Rows w va all) (hl : all.length ≤ 1000) (hx : ∀ x ∈ all, x.length ≤ 1000) :
    Calls Tryd.prog 11 #[va] w fun e w' => e = .returned (.int .i64 ((topN all : Int) - 1)) ∧ w' = w := by
  obtain ⟨a, ca, rfl, -, hc⟩ := ha.open_
  have HX : Hid (∀ x ∈ all, x.length ≤ 1000) := hx
  have HT : Hid (∀ k, topN (all.take k) ≤ 1000) := fun k => topN_upto (fun x h => hx x (List.mem_of_mem_take h))
  clear hx ha
  go_enter Tryd.func11, Tryd.ntmps11
  go_wp2
  go_loopw [3, 4] (fun v p wr => ∃ k t : Nat, k ≤ all.length ∧ p = .int .i64 k ∧ v = .int .i64 ((t : Int) - 1) ∧ t = topN (all.take k) ∧ wr = w)
    (fun _ p _ => all.length - (intOf p).toNat)
  case atStart => exact ⟨0, 0, by omega, rfl, rfl, rfl, rfl⟩
  case round =>
    obtain ⟨k, t, hk, rfl, rfl, ht, rfl⟩ := hrel
    have ht1 : t ≤ 1000 := by rw [ht]; exact HT.out k
    have HTK : Hid (t = topN (all.take k)) := ht
    clear ht
    by_cases hlt : k < all.length
    · obtain ⟨b, o, rfl, -, hb, c⟩ := hc (by omega)
      obtain ⟨a1, p1, g1, i1⟩ := c k hlt
      have hlen : (all[k]?.getD []).length ≤ 1000 := HX.out _ (by rw [List.getElem?_eq_getElem hlt]; simp)
      obtain ⟨x, hxe⟩ : ∃ x, all[k]?.getD [] = x := ⟨_, rfl⟩
      rw [hxe] at g1 i1 hlen
      have HS : Hid (topN (all.take (k + 1)) = max t x.length) := by
        show topN (all.take (k + 1)) = max t x.length
        rw [top_take hlt, hxe, HTK.out]
      clear hxe i1 hc c
      by_cases hd : t < x.length
      · have hdb : decide ((t : Int) - 1 < (x.length : Int) - 1) = true := decide_eq_true (by omega)
        go_wp2
        go_roundw
        case rel => exact ⟨k + 1, x.length, by omega, by go_num, rfl, by rw [HS.out]; omega, (by first | trivial | rfl)⟩
        case measure => simp [intOf]; omega
      · have hdb : decide ((t : Int) - 1 < (x.length : Int) - 1) = false := decide_eq_false (by omega)
        go_wp2
        go_roundw
        case rel => exact ⟨k + 1, t, by omega, by go_num, rfl, by rw [HS.out]; omega, (by first | trivial | rfl)⟩
        case measure => simp [intOf]; omega
    · obtain rfl : k = all.length := by omega
      clear hc
      go_wp2
      go_ret
      have e := HTK.out
      rw [List.take_length] at e
      exact ⟨by rw [← e]; rfl, rfl⟩

end Go.Proofs.YtiblgnkjjbbmaaaDoor

namespace Go.Proofs.YtiblgnkjjbbmaaaDoor
open Go.RowKit Go.Sort

/-- Where Cx stands: its two variables, and the first k rows. -/
structure CxAt (l : List (List Int)) (w : World) (k : Nat) (vo : Value) (wr : World) : Prop where
  two : wr.cell? ⟨w.heap.size, 0, none⟩ = some (.slice none 0 0) ∧ wr.frozen? ⟨w.heap.size, 0, none⟩ = false
  out : wr.cell? ⟨w.heap.size + 1, 0, none⟩ = some vo ∧ wr.frozen? ⟨w.heap.size + 1, 0, none⟩ = false
  own : OwnRows (w.heap.size + 2) wr vo (l.take k)
  size : w.heap.size + 2 ≤ wr.heap.size
  below : Below w.heap.size w wr

theorem cx_start (l : List (List Int)) (w : World) : CxAt l w 0 (.slice none 0 0) ((w.alloc (.cells #[.slice none 0 0] 30)).alloc (.cells #[.slice none 0 0] 30)) where
  two := box_alloc _ (box_new w _ _)
  out := by
    have := box_new (w.alloc (.cells #[.slice none 0 0] 30)) (.slice none 0 0) 30
    rwa [World.size_alloc] at this
  own := OwnRows.nil _ _
  size := by simp
  below := ((Below.refl _ w).alloc (Nat.le_refl _) _).alloc (by simp) _

theorem cx_step {l : List (List Int)} {w wr w1 w2 : World} {k : Nat} {vo v2 : Value} {x : List Int} {vs : List Value} {u : Value} {o : Obj} (hlt : k < l.length) (hx : l[k]?.getD [] = x) (h : CxAt l w k vo wr) (hB1 : Below wr.heap.size wr w1)
    (ho1 : w1.ownsRow (w.heap.size + 2) 23 1 vo (l.take k).length vs) (ho2 : ∀ (k' : Nat) (u : Value) (x : List Int), vs[k']? = some u → (l.take k)[k']? = some x → IntsIn (fun b => w.heap.size + 2 ≤ b ∧ some b ≠ vo.ownBlock) w1 u x)
    (hf : IntsIn (fun b => wr.heap.size ≤ b) w1 u x) (hown : w2.ownsRow (w.heap.size + 2) 23 1 v2 (k + 1) (vs ++ [u])) (hg : (w1.alloc o).grownBy w2 vo.ownBlock) (hl : v2.ownBlock = vo.ownBlock ∨ v2.ownBlock = some (w1.alloc o).heap.size)
    (d0 : w2.cell? ⟨w.heap.size, 0, none⟩ = some (.slice none 0 0) ∧ w2.frozen? ⟨w.heap.size, 0, none⟩ = false) (d1 : w2.cell? ⟨w.heap.size + 1, 0, none⟩ = some vo ∧ w2.frozen? ⟨w.heap.size + 1, 0, none⟩ = false) :
    CxAt l w (k + 1) v2 (w2.setCell ⟨w.heap.size + 1, 0, none⟩ v2) := by
  have htk : (l.take k).length = k := by simp; omega
  have hu : IntsIn (fun b => w.heap.size + 2 ≤ b ∧ some b ≠ vo.ownBlock) w1 u x := SliceIn.mono hf (fun b _ hge => ⟨Nat.le_trans h.size hge, fun e => by
    have := (h.own.block e.symm).2
    omega⟩)
  have hpush := OwnRows.push ho1 ho2 hu (by rw [htk]; exact hown) hg hl
  have hsz0 := h.size
  have hsz1 := hB1.size
  have hsz2 := hg.size
  rw [World.size_alloc] at hsz2
  have hBw1 : Below w.heap.size w w1 := h.below.trans (hB1.mono h.below.size)
  have hBw2 : Below w.heap.size w w2 := (hBw1.alloc (by omega) o).grown hg (by simp; omega) (fun j hj => by have := (h.own.block hj).1; omega)
  refine ⟨⟨?_, ?_⟩, ⟨?_, ?_⟩, ?_, ?_, hBw2.setCell (p := ⟨w.heap.size + 1, 0, none⟩) (by show w.heap.size ≤ w.heap.size + 1; omega) _⟩
  · rw [World.cell?_setCell_other _ _ _ _ (fun e => by have := congrArg Addr.block e; simp at this)]; exact d0.1
  · rw [World.frozen?_setCell]; exact d0.2
  · exact World.cell?_setCell_same' _ _ _ (by rw [d1.1]; rfl)
  · rw [World.frozen?_setCell]; exact d1.2
  · have e : l.take (k + 1) = l.take k ++ [x] := by
      rw [List.take_add_one, List.getElem?_eq_getElem hlt]
      rw [List.getElem?_eq_getElem hlt, Option.getD_some] at hx
      rw [hx]; rfl
    rw [e]
    exact hpush.setCell (p := ⟨w.heap.size + 1, 0, none⟩) (by show w.heap.size + 1 < w.heap.size + 2; omega) _
  · rw [World.size_setCell]; omega

set_option maxRecDepth 100000 in
set_option maxHeartbeats 2000000 in
theorem cx_ (vl : Value) (l : List (List Int)) (w : World) (hl : Rows w vl l) (hll : l.length ≤ 100000) (hle : ∀ x ∈ l, x.length ≤ 1000) :
    Calls Tryd.prog 8 #[vl] w fun e w' => ∃ v, e = .returned (.agg #[v]) ∧ Rows w' v l ∧ Below w.heap.size w w' := by
  obtain ⟨i0, hi, hz0, hz1, hz2⟩ := info_parts Tryd.info23
  obtain ⟨j0, hj0, hy0, hy1, hy2⟩ := info_parts Tryd.info3
  have HE : Hid (∀ x ∈ l, x.length ≤ 1000) := hle
  obtain ⟨a, ca, rfl, -, ha⟩ := hl.open_
  clear hle
  go_enter Tryd.func8, Tryd.ntmps8
  go_wp2
  go_loopw [4] (fun i wr => ∃ (k : Nat) (vo : Value), k ≤ l.length ∧ i = .int .i64 k ∧ CxAt l w k vo wr)
    (fun i _ => l.length - (intOf i).toNat)
  case atStart => exact ⟨0, _, by omega, rfl, cx_start l w⟩
  case round =>
    obtain ⟨k, vo, hk, rfl, hat⟩ := hrel
    have HAT : Hid (CxAt l w k vo wr) := hat
    obtain ⟨⟨hc0, hf0⟩, ⟨hc1, hf1⟩, -, hbk, hB⟩ := hat
    by_cases hlt : k < l.length
    · obtain ⟨b, o, rfl, -, hb, c⟩ := ha (by omega)
      obtain ⟨a1, p1, g1, i1⟩ := c k hlt
      have hlen : (l[k]?.getD []).length ≤ 1000 := HE.out _ (by rw [List.getElem?_eq_getElem hlt]; simp)
      obtain ⟨x, hxe⟩ : ∃ x, l[k]?.getD [] = x := ⟨_, rfl⟩
      rw [hxe] at g1 i1 hlen
      have HX : Hid (l[k]?.getD [] = x) := hxe
      have HTK : Hid ((l.take k).length = k) := by show (l.take k).length = k; simp; omega
      have g2 : wr.cell? ⟨b, o + k, none⟩ = some (.slice a1 x.length p1) := (hB.cell (p := ⟨b, o + k, none⟩) hb).trans g1
      have i2 : Ints wr.drew (.slice a1 x.length p1) x := (i1.below hB).below ⟨rfl, rfl, rfl, Nat.le_refl _, fun _ _ => rfl⟩
      have hn0 : (0 : Int) ≤ (k : Int) := by omega
      have hn1 : (k : Int) < (l.length : Int) := by omega
      clear c ha hl g1 i1 hxe
      have hne : ∀ g, vo.ownBlock = some g → w.heap.size + 2 ≤ g := fun g hg => (HAT.out.own.block hg).1
      have q1 : some (w.heap.size + 1) ≠ vo.ownBlock := fun e => by have := hne _ e.symm; omega
      have q0 : some w.heap.size ≠ vo.ownBlock := fun e => by have := hne _ e.symm; omega
      have hl0 := cell_lt hc0
      have hl1 := cell_lt hc1
      clear hne
      go_wp2_with fail
      go_region_law (first
        | (refine step_append_slice (by rfl) (.tmp 15) (.tmp 19) 23 (by rfl) wr.heap.size 3 j0 (.int .i64 0) 8 Tryd.underlying23 hj0 hy0 hy1 hy2 (by rfl) (.slice none 0 0) 0 [] (by simp [Act.eval]) (World.ownsRow_nil _ _ _ _) (.slice a1 x.length p1) (x.map (Value.int .i64)) (by simp [Act.eval]) i2 (ints_one x) (by simp; omega) (by unfold maxLen; simp; omega) (Nat.le_refl _) ?_; intro v1 w1 hown1 hg1 hl1'; have hB1 : Below wr.heap.size wr w1 := below_nil hg1; have c1 : w1.cell? ⟨w.heap.size + 1, 0, none⟩ = some vo := (hB1.cell (p := ⟨w.heap.size + 1, 0, none⟩) hl1).trans hc1; have hfm := ints_made hown1; have HFM : Hid (IntsIn (fun b => wr.heap.size ≤ b) w1 v1 x) := hfm; obtain ⟨a2, p2, rfl, -, -⟩ := hfm.open_; have c1a : ∀ o, (w1.alloc o).cell? ⟨w.heap.size + 1, 0, none⟩ = some vo := fun o => cell_kept c1 (World.grownBy_alloc w1 o none) (fun r e => by cases e); obtain ⟨vs, ho1, ho2⟩ := HAT.out.own.below hB1; have HO1 : Hid (w1.ownsRow (w.heap.size + 2) 23 1 vo (l.take k).length vs) := ho1; have HO2 : Hid (∀ (k' : Nat) (u : Value) (x : List Int), vs[k']? = some u → (l.take k)[k']? = some x → IntsIn (fun b => w.heap.size + 2 ≤ b ∧ some b ≠ vo.ownBlock) w1 u x) := ho2; rw [HTK.out] at ho1; have hbs1 := hB1.size; have z1 : w1.frozen? ⟨w.heap.size + 1, 0, none⟩ = false := (hB1.frozen (p := ⟨w.heap.size + 1, 0, none⟩) hl1).trans hf1; have c0 : w1.cell? ⟨w.heap.size, 0, none⟩ = some (.slice none 0 0) ∧ w1.frozen? ⟨w.heap.size, 0, none⟩ = false := ⟨(hB1.cell (p := ⟨w.heap.size, 0, none⟩) hl0).trans hc0, (hB1.frozen (p := ⟨w.heap.size, 0, none⟩) hl0).trans hf0⟩; clear hown1 hg1 hl1' hfm ho2)
        | (refine step_append_slice (by rfl) (.tmp 14) (.tmp 21) 22 (by rfl) (w.heap.size + 2) 23 i0 (.slice none 0 0) 24 Tryd.underlying22 hi hz0 hz1 hz2 (by rfl) vo k vs (by simp [Act.eval]) (ho1.alloc _) (.slice (some ⟨w1.heap.size, 0, none⟩) 1 1) [.slice a2 x.length p2] (by simp [Act.eval]) (slice_one _ _ _) (by simp [Value.oneCell']) (by simp; omega) (by unfold maxLen; simp; omega) (by simp; omega) ?_; intro v2 w2 hown2 hg2 hl2'; have d1 := far_kept hg2 (p := ⟨w.heap.size + 1, 0, none⟩) ⟨c1, z1⟩ q1; have d0 := far_kept hg2 (p := ⟨w.heap.size, 0, none⟩) c0 q0; have e1 := d1.1; have f1 := d1.2; obtain ⟨g3, p3, rfl, -, -⟩ := hown2.form (by simp); have HC : Hid (CxAt l w (k + 1) (.slice (some ⟨g3, 0, none⟩) (k + 1) p3) (w2.setCell ⟨w.heap.size + 1, 0, none⟩ (.slice (some ⟨g3, 0, none⟩) (k + 1) p3))) := cx_step hlt HX.out HAT.out hB1 HO1.out HO2.out HFM.out hown2 hg2 hl2' d0 d1; clear hown2 hg2 hl2'))
      all_goals go_wp2
      all_goals go_roundw
      all_goals first
        | (go_light; exact ⟨k + 1, _, hlt, by go_num, HC.out⟩)
        | (go_light; simp [intOf]; omega)
    · obtain rfl : k = l.length := by omega
      have hrow := HAT.out.own.rows
      rw [List.take_length] at hrow
      have HRW : Hid (Rows wr vo l) := hrow
      obtain ⟨a4, p4, rfl, -, -⟩ := hrow.open_
      clear hrow ha hl
      have c2 := World.cell?_setCell_same' wr ⟨w.heap.size, 0, none⟩ (.slice a4 l.length p4) (by rw [hc0]; rfl)
      go_wp2
      refine bodyPost_ret (v := .agg #[.slice a4 l.length p4]) ?_ rfl ?_
      · simp [results, Tryd.f8, go_sem, c2]
      · have hB1 := HAT.out.below.setCell (p := ⟨w.heap.size, 0, none⟩) (Nat.le_refl _) (.slice a4 l.length p4)
        refine ⟨_, rfl, ?_, hB1⟩
        have hown := HAT.out.own.setCell (p := ⟨w.heap.size, 0, none⟩) (by show w.heap.size < w.heap.size + 2; omega) (.slice a4 l.length p4)
        rw [List.take_length] at hown
        exact hown.rows

end Go.Proofs.YtiblgnkjjbbmaaaDoor
