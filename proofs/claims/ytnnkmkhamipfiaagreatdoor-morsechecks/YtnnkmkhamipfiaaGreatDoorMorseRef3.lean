/- What the statements' Cx answers: the same sets, in memory of its own. What the reference's OfDim answers: the faces of a dimension. What the reference's TopOf answers. The faces of a dimension, by slices that lie where all the faces do. What the reference's Numbered and CollapsePairs answer. -/
import Derived.Test.YtnnkmkhamipfiaaGreatDoorPut
import Derived.Test.YtnnkmkhamipfiaaGreatDoorMorseUnder
import Derived.Deep.RegionLaw
import Derived.Deep.RegionHeld3
import Derived.Deep.AppendLies
import Derived.Deep.Light
import Derived.Test.YtnnkmkhamipfiaaGreatDoorFacetsOf
import Derived.Test.YtnnkmkhamipfiaaGreatDoorMorseMath
import Derived.Test.YtnnkmkhamipfiaaGreatDoorParts
import Derived.Test.YtnnkmkhamipfiaaGreatDoorMorseCrit
import Derived.BigQuiet
import Derived.Deep.QuietTactic
namespace Go.Proofs.YtnnkmkhamipfiaaGreatDoor
open Go.RowKit Go.Sort

/-- Where Cx stands: its two variables, and the first k rows. -/
structure CxAt (l : List (List Int)) (w : World) (k : Nat) (vo : Value) (wr : World) : Prop where
  two : wr.cell? ⟨w.heap.size, 0, none⟩ = some (.slice none 0 0) ∧ wr.frozen? ⟨w.heap.size, 0, none⟩ = false
  out : wr.cell? ⟨w.heap.size + 1, 0, none⟩ = some vo ∧ wr.frozen? ⟨w.heap.size + 1, 0, none⟩ = false
  own : OwnRows (w.heap.size + 2) wr vo (l.take k)
  size : w.heap.size + 2 ≤ wr.heap.size
  below : Below w.heap.size w wr

theorem cx_start (l : List (List Int)) (w : World) : CxAt l w 0 (.slice none 0 0) ((w.alloc (.cells #[.slice none 0 0] 39)).alloc (.cells #[.slice none 0 0] 39)) where
  two := box_alloc _ (box_new w _ _)
  out := by
    have := box_new (w.alloc (.cells #[.slice none 0 0] 39)) (.slice none 0 0) 39
    rwa [World.size_alloc] at this
  own := OwnRows.nil _ _
  size := by simp
  below := ((Below.refl _ w).alloc (Nat.le_refl _) _).alloc (by simp) _

theorem cx_step {l : List (List Int)} {w wr w1 w2 : World} {k : Nat} {vo v2 : Value} {x : List Int} {vs : List Value} {u : Value} {o : Obj} (hlt : k < l.length) (hx : l[k]?.getD [] = x) (h : CxAt l w k vo wr) (hB1 : Below wr.heap.size wr w1)
    (ho1 : w1.ownsRow (w.heap.size + 2) 29 1 vo (l.take k).length vs) (ho2 : ∀ (k' : Nat) (u : Value) (x : List Int), vs[k']? = some u → (l.take k)[k']? = some x → IntsIn (fun b => w.heap.size + 2 ≤ b ∧ some b ≠ vo.ownBlock) w1 u x)
    (hf : IntsIn (fun b => wr.heap.size ≤ b) w1 u x) (hown : w2.ownsRow (w.heap.size + 2) 29 1 v2 (k + 1) (vs ++ [u])) (hg : (w1.alloc o).grownBy w2 vo.ownBlock) (hl : v2.ownBlock = vo.ownBlock ∨ v2.ownBlock = some (w1.alloc o).heap.size)
    (d0 : w2.cell? ⟨w.heap.size, 0, none⟩ = some (.slice none 0 0) ∧ w2.frozen? ⟨w.heap.size, 0, none⟩ = false) (d1 : w2.cell? ⟨w.heap.size + 1, 0, none⟩ = some vo ∧ w2.frozen? ⟨w.heap.size + 1, 0, none⟩ = false) :
    CxAt l w (k + 1) v2 (w2.setCell ⟨w.heap.size + 1, 0, none⟩ v2) := by
  have htk : (l.take k).length = k := by simp; omega
  have hu : IntsIn (fun b => w.heap.size + 2 ≤ b ∧ some b ≠ vo.ownBlock) w1 u x := SliceIn.mono hf (fun b _ hge => ⟨Nat.le_trans h.size hge, fun e => by
    have := (h.own.block e.symm).2
    omega⟩)
  have hpush := OwnRows.push ho1 ho2 hu (by rw [htk]; exact hown) hg hl
  have hsz0 := h.size
  have hsz1 := hB1.size
  have hsz2 := hg.size
  rw [World.size_alloc] at hsz2
  have hBw1 : Below w.heap.size w w1 := h.below.trans (hB1.mono h.below.size)
  have hBw2 : Below w.heap.size w w2 := (hBw1.alloc (by omega) o).grown hg (by simp; omega) (fun j hj => by have := (h.own.block hj).1; omega)
  refine ⟨⟨?_, ?_⟩, ⟨?_, ?_⟩, ?_, ?_, hBw2.setCell (p := ⟨w.heap.size + 1, 0, none⟩) (by show w.heap.size ≤ w.heap.size + 1; omega) _⟩
  · rw [World.cell?_setCell_other _ _ _ _ (fun e => by have := congrArg Addr.block e; simp at this)]; exact d0.1
  · rw [World.frozen?_setCell]; exact d0.2
  · exact World.cell?_setCell_same' _ _ _ (by rw [d1.1]; rfl)
  · rw [World.frozen?_setCell]; exact d1.2
  · have e : l.take (k + 1) = l.take k ++ [x] := by
      rw [List.take_add_one, List.getElem?_eq_getElem hlt]
      rw [List.getElem?_eq_getElem hlt, Option.getD_some] at hx
      rw [hx]; rfl
    rw [e]
    exact hpush.setCell (p := ⟨w.heap.size + 1, 0, none⟩) (by show w.heap.size + 1 < w.heap.size + 2; omega) _
  · rw [World.size_setCell]; omega

set_option maxRecDepth 100000 in
set_option maxHeartbeats 2000000 in
theorem cx_ (vl : Value) (l : List (List Int)) (w : World) (hl : Rows w vl l) (hll : l.length ≤ 100000) (hle : ∀ x ∈ l, x.length ≤ 1000) :
    Calls Tryz.prog 12 #[vl] w fun e w' => ∃ v, e = .returned (.agg #[v]) ∧ Rows w' v l ∧ Below w.heap.size w w' := by
  obtain ⟨i0, hi, hz0, hz1, hz2⟩ := info_parts Tryz.info29
  obtain ⟨j0, hj0, hy0, hy1, hy2⟩ := info_parts Tryz.info3
  have HE : Hid (∀ x ∈ l, x.length ≤ 1000) := hle
  obtain ⟨a, ca, rfl, -, ha⟩ := hl.open_
  clear hle
  go_enter Tryz.func12, Tryz.ntmps12
  go_wp2
  go_loopw [4] (fun i wr => ∃ (k : Nat) (vo : Value), k ≤ l.length ∧ i = .int .i64 k ∧ CxAt l w k vo wr)
    (fun i _ => l.length - (intOf i).toNat)
  case atStart => exact ⟨0, _, by omega, rfl, cx_start l w⟩
  case round =>
    obtain ⟨k, vo, hk, rfl, hat⟩ := hrel
    have HAT : Hid (CxAt l w k vo wr) := hat
    obtain ⟨⟨hc0, hf0⟩, ⟨hc1, hf1⟩, -, hbk, hB⟩ := hat
    by_cases hlt : k < l.length
    · obtain ⟨b, o, rfl, -, hb, c⟩ := ha (by omega)
      obtain ⟨a1, p1, g1, i1⟩ := c k hlt
      have hlen : (l[k]?.getD []).length ≤ 1000 := HE.out _ (by rw [List.getElem?_eq_getElem hlt]; simp)
      obtain ⟨x, hxe⟩ : ∃ x, l[k]?.getD [] = x := ⟨_, rfl⟩
      rw [hxe] at g1 i1 hlen
      have HX : Hid (l[k]?.getD [] = x) := hxe
      have HTK : Hid ((l.take k).length = k) := by show (l.take k).length = k; simp; omega
      have g2 : wr.cell? ⟨b, o + k, none⟩ = some (.slice a1 x.length p1) := (hB.cell (p := ⟨b, o + k, none⟩) hb).trans g1
      have i2 : Ints wr.drew (.slice a1 x.length p1) x := (i1.below hB).below ⟨rfl, rfl, rfl, Nat.le_refl _, fun _ _ => rfl⟩
      have hn0 : (0 : Int) ≤ (k : Int) := by omega
      have hn1 : (k : Int) < (l.length : Int) := by omega
      clear c ha hl g1 i1 hxe
      have hne : ∀ g, vo.ownBlock = some g → w.heap.size + 2 ≤ g := fun g hg => (HAT.out.own.block hg).1
      have q1 : some (w.heap.size + 1) ≠ vo.ownBlock := fun e => by have := hne _ e.symm; omega
      have q0 : some w.heap.size ≠ vo.ownBlock := fun e => by have := hne _ e.symm; omega
      have hl0 := cell_lt hc0
      have hl1 := cell_lt hc1
      clear hne
      go_wp2_with fail
      go_region_law (first
        | (refine step_append_slice (by rfl) (.tmp 15) (.tmp 19) 29 (by rfl) wr.heap.size 3 j0 (.int .i64 0) 8 Tryz.underlying29 hj0 hy0 hy1 hy2 (by rfl) (.slice none 0 0) 0 [] (by simp [Act.eval]) (World.ownsRow_nil _ _ _ _) (.slice a1 x.length p1) (x.map (Value.int .i64)) (by simp [Act.eval]) i2 (ints_one x) (by simp; omega) (by unfold maxLen; simp; omega) (Nat.le_refl _) ?_; intro v1 w1 hown1 hg1 hl1'; have hB1 : Below wr.heap.size wr w1 := below_nil hg1; have c1 : w1.cell? ⟨w.heap.size + 1, 0, none⟩ = some vo := (hB1.cell (p := ⟨w.heap.size + 1, 0, none⟩) hl1).trans hc1; have hfm := ints_made hown1; have HFM : Hid (IntsIn (fun b => wr.heap.size ≤ b) w1 v1 x) := hfm; obtain ⟨a2, p2, rfl, -, -⟩ := hfm.open_; have c1a : ∀ o, (w1.alloc o).cell? ⟨w.heap.size + 1, 0, none⟩ = some vo := fun o => cell_kept c1 (World.grownBy_alloc w1 o none) (fun r e => by cases e); obtain ⟨vs, ho1, ho2⟩ := HAT.out.own.below hB1; have HO1 : Hid (w1.ownsRow (w.heap.size + 2) 29 1 vo (l.take k).length vs) := ho1; have HO2 : Hid (∀ (k' : Nat) (u : Value) (x : List Int), vs[k']? = some u → (l.take k)[k']? = some x → IntsIn (fun b => w.heap.size + 2 ≤ b ∧ some b ≠ vo.ownBlock) w1 u x) := ho2; rw [HTK.out] at ho1; have hbs1 := hB1.size; have z1 : w1.frozen? ⟨w.heap.size + 1, 0, none⟩ = false := (hB1.frozen (p := ⟨w.heap.size + 1, 0, none⟩) hl1).trans hf1; have c0 : w1.cell? ⟨w.heap.size, 0, none⟩ = some (.slice none 0 0) ∧ w1.frozen? ⟨w.heap.size, 0, none⟩ = false := ⟨(hB1.cell (p := ⟨w.heap.size, 0, none⟩) hl0).trans hc0, (hB1.frozen (p := ⟨w.heap.size, 0, none⟩) hl0).trans hf0⟩; clear hown1 hg1 hl1' hfm ho2)
        | (refine step_append_slice (by rfl) (.tmp 14) (.tmp 21) 22 (by rfl) (w.heap.size + 2) 29 i0 (.slice none 0 0) 24 Tryz.underlying22 hi hz0 hz1 hz2 (by rfl) vo k vs (by simp [Act.eval]) (ho1.alloc _) (.slice (some ⟨w1.heap.size, 0, none⟩) 1 1) [.slice a2 x.length p2] (by simp [Act.eval]) (slice_one _ _ _) (by simp [Value.oneCell']) (by simp; omega) (by unfold maxLen; simp; omega) (by simp; omega) ?_; intro v2 w2 hown2 hg2 hl2'; have d1 := far_kept hg2 (p := ⟨w.heap.size + 1, 0, none⟩) ⟨c1, z1⟩ q1; have d0 := far_kept hg2 (p := ⟨w.heap.size, 0, none⟩) c0 q0; have e1 := d1.1; have f1 := d1.2; obtain ⟨g3, p3, rfl, -, -⟩ := hown2.form (by simp); have HC : Hid (CxAt l w (k + 1) (.slice (some ⟨g3, 0, none⟩) (k + 1) p3) (w2.setCell ⟨w.heap.size + 1, 0, none⟩ (.slice (some ⟨g3, 0, none⟩) (k + 1) p3))) := cx_step hlt HX.out HAT.out hB1 HO1.out HO2.out HFM.out hown2 hg2 hl2' d0 d1; clear hown2 hg2 hl2'))
      all_goals go_wp2
      all_goals go_roundw
      all_goals first
        | (go_light; exact ⟨k + 1, _, hlt, by go_num, HC.out⟩)
        | (go_light; simp [intOf]; omega)
    · obtain rfl : k = l.length := by omega
      have hrow := HAT.out.own.rows
      rw [List.take_length] at hrow
      have HRW : Hid (Rows wr vo l) := hrow
      obtain ⟨a4, p4, rfl, -, -⟩ := hrow.open_
      clear hrow ha hl
      have c2 := World.cell?_setCell_same' wr ⟨w.heap.size, 0, none⟩ (.slice a4 l.length p4) (by rw [hc0]; rfl)
      go_wp2
      refine bodyPost_ret (v := .agg #[.slice a4 l.length p4]) ?_ rfl ?_
      · simp [results, Tryz.f12, go_sem, c2]
      · have hB1 := HAT.out.below.setCell (p := ⟨w.heap.size, 0, none⟩) (Nat.le_refl _) (.slice a4 l.length p4)
        refine ⟨_, rfl, ?_, hB1⟩
        have hown := HAT.out.own.setCell (p := ⟨w.heap.size, 0, none⟩) (by show w.heap.size < w.heap.size + 2; omega) (.slice a4 l.length p4)
        rw [List.take_length] at hown
        exact hown.rows

end Go.Proofs.YtnnkmkhamipfiaaGreatDoor

namespace Go.Proofs.YtnnkmkhamipfiaaGreatDoor
open Go.RowKit Go.Sort

set_option maxRecDepth 100000 in
set_option maxHeartbeats 1000000 in
theorem of_dim (va : Value) (all : List (List Int)) (dim : Int) (w : World) (ha : Rows w va all) (hl : all.length ≤ 1000) (hx : ∀ x ∈ all, x.length ≤ 1000) :
    Calls Tryz.prog 35 #[va, .int .i64 dim] w fun e w' => ∃ v, e = .returned v ∧ Rows w' v (ofDim all dim) ∧ Below w.heap.size w w' := by
  obtain ⟨i0, hi, hz0, hz1, hz2⟩ := info_parts Tryz.info29
  obtain ⟨a, ca, rfl, -, hc⟩ := ha.open_
  have HX : Hid (∀ x ∈ all, x.length ≤ 1000) := hx
  clear hx ha
  go_enter Tryz.func35, Tryz.ntmps35
  go_wp2
  go_loopw [5, 6] (fun v p wr => ∃ (k : Nat) (us : List Value), k ≤ all.length ∧ p = .int .i64 k ∧ wr.ownsRow w.heap.size 29 1 v us.length us ∧ Heads w us (ofDim (all.take k) dim) ∧ Below w.heap.size w wr)
    (fun _ p _ => all.length - (intOf p).toNat)
  case atStart => exact ⟨0, [], by omega, rfl, World.ownsRow_nil _ _ _ _, ⟨by simp [ofDim], fun k u x h => by simp at h⟩, Below.refl _ _⟩
  case round =>
    obtain ⟨k, us, hk, rfl, hown, hh, hB⟩ := hrel
    have HH : Hid (Heads w us (ofDim (all.take k) dim)) := hh
    have hul : us.length ≤ 1000 := by have := hh.1; have := ofDim_length (all.take k) dim; simp at this; omega
    clear hh
    by_cases hlt : k < all.length
    · obtain ⟨b, o, rfl, -, hb, c⟩ := hc (by omega)
      obtain ⟨a1, p1, g1, i1⟩ := c k hlt
      have hlen : (all[k]?.getD []).length ≤ 1000 := HX.out _ (by rw [List.getElem?_eq_getElem hlt]; simp)
      obtain ⟨x, hxe⟩ : ∃ x, all[k]?.getD [] = x := ⟨_, rfl⟩
      rw [hxe] at g1 i1 hlen
      have g2 : wr.cell? ⟨b, o + k, none⟩ = some (.slice a1 x.length p1) := (hB.cell (p := ⟨b, o + k, none⟩) hb).trans g1
      have HI1 : Hid (Ints w (.slice a1 x.length p1) x) := i1
      have HF : Hid (ofDim (all.take (k + 1)) dim = ofDim (all.take k) dim ++ (if (x.length : Int) - 1 = dim then [x] else [])) := by
        show ofDim (all.take (k + 1)) dim = _
        rw [ofDim_succ hlt, hxe]
      have hbs := hB.size
      clear hxe i1 g1 hc c
      by_cases hd : (x.length : Int) - 1 = dim
      · have hdb : ((x.length : Int) - 1 == dim) = true := beq_iff_eq.2 hd
        have HD : Hid ((x.length : Int) - 1 = dim) := hd
        clear hd
        go_wp2_with (first
          | (at_builtin; refine wpList_append_slice rfl (.tmp 21) (.tmp 26) 22 rfl w.heap.size 29 i0 (.slice none 0 0) 24 Tryz.underlying22 hi hz0 hz1 hz2 rfl _ _ _ rfl (hown.alloc _) _ [.slice a1 x.length p1] rfl (slice_one _ _ _) (by simp [Value.oneCell']) (by simp; omega) (by unfold maxLen; simp; omega) (by simp; omega) ?_; intro v3 w4 hown3 hg3 hl3)
          | go_in)
        (try go_frame)
        go_roundw
        case rel => exact ⟨k + 1, us ++ [.slice a1 x.length p1], by omega, by go_num, by simpa using hown3, by rw [HF.out, if_pos HD.out]; exact HH.out.snoc HI1.out, (hB.alloc hbs _).grown hg3 (by simp; omega) (fun j hj => (hown.lt j hj).1)⟩
        case measure => simp [intOf]; omega
      · have hdb : ((x.length : Int) - 1 == dim) = false := beq_false_of_ne hd
        have HD : Hid (¬ (x.length : Int) - 1 = dim) := hd
        clear hd
        go_wp2
        go_roundw
        case rel => exact ⟨k + 1, us, by omega, by go_num, hown, by rw [HF.out, if_neg HD.out, List.append_nil]; exact HH.out, hB⟩
        case measure => simp [intOf]; omega
    · obtain rfl : k = all.length := by omega
      clear hc
      go_wp2
      go_ret
      have hh := HH.out
      rw [List.take_length] at hh
      exact ⟨_, rfl, hh.rows hB hown, hB⟩

end Go.Proofs.YtnnkmkhamipfiaaGreatDoor

namespace Go.Proofs.YtnnkmkhamipfiaaGreatDoor
open Go.RowKit Go.Sort

theorem top_take {all : List (List Int)} {k : Nat} (hk : k < all.length) : topN (all.take (k + 1)) = max (topN (all.take k)) (all[k]?.getD []).length := by
  rw [List.take_add_one, List.getElem?_eq_getElem hk, Option.getD_some]
  exact topN_snoc _ _
set_option maxRecDepth 100000 in
theorem top_of (va : Value) (all : List (List Int)) (w : World) (ha : Rows w va all) (hl : all.length ≤ 1000) (hx : ∀ x ∈ all, x.length ≤ 1000) :
    Calls Tryz.prog 34 #[va] w fun e w' => e = .returned (.int .i64 ((topN all : Int) - 1)) ∧ w' = w := by
  obtain ⟨a, ca, rfl, -, hc⟩ := ha.open_
  have HX : Hid (∀ x ∈ all, x.length ≤ 1000) := hx
  have HT : Hid (∀ k, topN (all.take k) ≤ 1000) := fun k => topN_upto (fun x h => hx x (List.mem_of_mem_take h))
  clear hx ha
  go_enter Tryz.func34, Tryz.ntmps34
  go_wp2
  go_loopw [3, 4] (fun v p wr => ∃ k t : Nat, k ≤ all.length ∧ p = .int .i64 k ∧ v = .int .i64 ((t : Int) - 1) ∧ t = topN (all.take k) ∧ wr = w)
    (fun _ p _ => all.length - (intOf p).toNat)
  case atStart => exact ⟨0, 0, by omega, rfl, rfl, rfl, rfl⟩
  case round =>
    obtain ⟨k, t, hk, rfl, rfl, ht, rfl⟩ := hrel
    have ht1 : t ≤ 1000 := by rw [ht]; exact HT.out k
    have HTK : Hid (t = topN (all.take k)) := ht
    clear ht
    by_cases hlt : k < all.length
    · obtain ⟨b, o, rfl, -, hb, c⟩ := hc (by omega)
      obtain ⟨a1, p1, g1, i1⟩ := c k hlt
      have hlen : (all[k]?.getD []).length ≤ 1000 := HX.out _ (by rw [List.getElem?_eq_getElem hlt]; simp)
      obtain ⟨x, hxe⟩ : ∃ x, all[k]?.getD [] = x := ⟨_, rfl⟩
      rw [hxe] at g1 i1 hlen
      have HS : Hid (topN (all.take (k + 1)) = max t x.length) := by
        show topN (all.take (k + 1)) = max t x.length
        rw [top_take hlt, hxe, HTK.out]
      clear hxe i1 hc c
      by_cases hd : t < x.length
      · have hdb : decide ((t : Int) - 1 < (x.length : Int) - 1) = true := decide_eq_true (by omega)
        go_wp2
        go_roundw
        case rel => exact ⟨k + 1, x.length, by omega, by go_num, rfl, by rw [HS.out]; omega, (by first | trivial | rfl)⟩
        case measure => simp [intOf]; omega
      · have hdb : decide ((t : Int) - 1 < (x.length : Int) - 1) = false := decide_eq_false (by omega)
        go_wp2
        go_roundw
        case rel => exact ⟨k + 1, t, by omega, by go_num, rfl, by rw [HS.out]; omega, (by first | trivial | rfl)⟩
        case measure => simp [intOf]; omega
    · obtain rfl : k = all.length := by omega
      clear hc
      go_wp2
      go_ret
      have e := HTK.out
      rw [List.take_length] at e
      exact ⟨by rw [← e]; rfl, rfl⟩

end Go.Proofs.YtnnkmkhamipfiaaGreatDoor

namespace Go.Proofs.YtnnkmkhamipfiaaGreatDoor
open Go.RowKit Go.Sort

/-- Slices that read as these rows, in blocks of S. -/
def HeadsS (S : Nat → Prop) (w : World) (us : List Value) (xss : List (List Int)) : Prop := us.length = xss.length ∧ ∀ (k : Nat) (u : Value) (x : List Int), us[k]? = some u → xss[k]? = some x → IntsIn S w u x
theorem HeadsS.snoc {S : Nat → Prop} {w : World} {us : List Value} {xss : List (List Int)} {u : Value} {x : List Int} (h : HeadsS S w us xss) (hu : IntsIn S w u x) : HeadsS S w (us ++ [u]) (xss ++ [x]) := by
  refine ⟨by simp [h.1], fun k u' x' h1 h2 => ?_⟩
  rw [List.getElem?_append] at h1 h2
  rw [h.1] at h1
  split at h1
  · rename_i hk
    rw [if_pos hk] at h2
    exact h.2 k u' x' h1 h2
  · rename_i hk
    rw [if_neg hk] at h2
    obtain ⟨j, hj⟩ : ∃ j, k - xss.length = j := ⟨_, rfl⟩
    rw [hj] at h1 h2
    match j with
    | 0 => simp at h1 h2; subst h1; subst h2; exact hu
    | j + 1 => simp at h1
theorem HeadsS.append {S : Nat → Prop} {w : World} {us vs : List Value} {xss yss : List (List Int)} (h : HeadsS S w us xss) (h' : HeadsS S w vs yss) : HeadsS S w (us ++ vs) (xss ++ yss) := by
  refine ⟨by simp [h.1, h'.1], fun k u' x' h1 h2 => ?_⟩
  rw [List.getElem?_append] at h1 h2
  rw [h.1] at h1
  split at h1
  · rename_i hk
    rw [if_pos hk] at h2
    exact h.2 k u' x' h1 h2
  · rename_i hk
    rw [if_neg hk] at h2
    exact h'.2 _ u' x' h1 h2
theorem HeadsS.keep {S : Nat → Prop} {w w' : World} {us : List Value} {xss : List (List Int)} (h : HeadsS S w us xss) (hk : ∀ b, b < w.heap.size → S b → w'.heap[b]? = w.heap[b]?) : HeadsS S w' us xss := ⟨h.1, fun k u x h1 h2 => SliceIn.keep (h.2 k u x h1 h2) hk⟩
theorem HeadsS.below {S : Nat → Prop} {w w' : World} {us : List Value} {xss : List (List Int)} (h : HeadsS S w us xss) (hB : Below w.heap.size w w') : HeadsS S w' us xss := h.keep (fun b hb _ => hB.block b hb)
theorem HeadsS.rows {S : Nat → Prop} {w : World} {v : Value} {us : List Value} {xss : List (List Int)} {base : Nat} (h : HeadsS S w us xss) (ho : w.ownsRow base 29 1 v us.length us) : Rows w v xss :=
  ⟨us, slice_of_owns ho (fun _ _ _ => trivial), h.1, fun k u x h1 h2 => (h.2 k u x h1 h2).any⟩
theorem rowsIn_of {w : World} {v : Value} {xss : List (List Int)} (h : Rows w v xss) : RowsIn (fun b => b < w.heap.size) w v xss := RowsIn.mono h (fun _ hb _ => hb)

set_option maxRecDepth 100000 in
set_option maxHeartbeats 1000000 in
theorem of_dim_in (S : Nat → Prop) (va : Value) (all : List (List Int)) (dim : Int) (w : World) (ha : RowsIn S w va all) (hl : all.length ≤ 1000) (hx : ∀ x ∈ all, x.length ≤ 1000) :
    Calls Tryz.prog 35 #[va, .int .i64 dim] w fun e w' => ∃ v us, e = .returned v ∧ w'.ownsRow w.heap.size 29 1 v us.length us ∧ HeadsS S w us (ofDim all dim) ∧ Below w.heap.size w w' := by
  obtain ⟨i0, hi, hz0, hz1, hz2⟩ := info_parts Tryz.info29
  obtain ⟨a, ca, rfl, -, hc⟩ := ha.open_
  have HX : Hid (∀ x ∈ all, x.length ≤ 1000) := hx
  clear hx ha
  go_enter Tryz.func35, Tryz.ntmps35
  go_wp2
  go_loopw [5, 6] (fun v p wr => ∃ (k : Nat) (us : List Value), k ≤ all.length ∧ p = .int .i64 k ∧ wr.ownsRow w.heap.size 29 1 v us.length us ∧ HeadsS S w us (ofDim (all.take k) dim) ∧ Below w.heap.size w wr)
    (fun _ p _ => all.length - (intOf p).toNat)
  case atStart => exact ⟨0, [], by omega, rfl, World.ownsRow_nil _ _ _ _, ⟨by simp [ofDim], fun k u x h => by simp at h⟩, Below.refl _ _⟩
  case round =>
    obtain ⟨k, us, hk, rfl, hown, hh, hB⟩ := hrel
    have HH : Hid (HeadsS S w us (ofDim (all.take k) dim)) := hh
    have hul : us.length ≤ 1000 := by have := hh.1; have := ofDim_length (all.take k) dim; simp at this; omega
    clear hh
    by_cases hlt : k < all.length
    · obtain ⟨b, o, rfl, -, hb, c⟩ := hc (by omega)
      obtain ⟨a1, p1, g1, i1⟩ := c k hlt
      have hlen : (all[k]?.getD []).length ≤ 1000 := HX.out _ (by rw [List.getElem?_eq_getElem hlt]; simp)
      obtain ⟨x, hxe⟩ : ∃ x, all[k]?.getD [] = x := ⟨_, rfl⟩
      rw [hxe] at g1 i1 hlen
      have g2 : wr.cell? ⟨b, o + k, none⟩ = some (.slice a1 x.length p1) := (hB.cell (p := ⟨b, o + k, none⟩) hb).trans g1
      have HI1 : Hid (IntsIn S w (.slice a1 x.length p1) x) := i1
      have HF : Hid (ofDim (all.take (k + 1)) dim = ofDim (all.take k) dim ++ (if (x.length : Int) - 1 = dim then [x] else [])) := by
        show ofDim (all.take (k + 1)) dim = _
        rw [ofDim_succ hlt, hxe]
      have hbs := hB.size
      clear hxe i1 g1 hc c
      by_cases hd : (x.length : Int) - 1 = dim
      · have hdb : ((x.length : Int) - 1 == dim) = true := beq_iff_eq.2 hd
        have HD : Hid ((x.length : Int) - 1 = dim) := hd
        clear hd
        go_wp2_with (first
          | (at_builtin; refine wpList_append_slice rfl (.tmp 21) (.tmp 26) 22 rfl w.heap.size 29 i0 (.slice none 0 0) 24 Tryz.underlying22 hi hz0 hz1 hz2 rfl _ _ _ rfl (hown.alloc _) _ [.slice a1 x.length p1] rfl (slice_one _ _ _) (by simp [Value.oneCell']) (by simp; omega) (by unfold maxLen; simp; omega) (by simp; omega) ?_; intro v3 w4 hown3 hg3 hl3)
          | go_in)
        (try go_frame)
        go_roundw
        case rel => exact ⟨k + 1, us ++ [.slice a1 x.length p1], by omega, by go_num, by simpa using hown3, by rw [HF.out, if_pos HD.out]; exact HH.out.snoc HI1.out, (hB.alloc hbs _).grown hg3 (by simp; omega) (fun j hj => (hown.lt j hj).1)⟩
        case measure => simp [intOf]; omega
      · have hdb : ((x.length : Int) - 1 == dim) = false := beq_false_of_ne hd
        have HD : Hid (¬ (x.length : Int) - 1 = dim) := hd
        clear hd
        go_wp2
        go_roundw
        case rel => exact ⟨k + 1, us, by omega, by go_num, hown, by rw [HF.out, if_neg HD.out, List.append_nil]; exact HH.out, hB⟩
        case measure => simp [intOf]; omega
    · obtain rfl : k = all.length := by omega
      clear hc
      go_wp2
      go_ret
      have hh := HH.out
      rw [List.take_length] at hh
      exact ⟨_, us, rfl, hown, hh, hB⟩

end Go.Proofs.YtnnkmkhamipfiaaGreatDoor

namespace Go.Proofs.YtnnkmkhamipfiaaGreatDoor
open Go.RowKit Go.Sort

theorem RowsIn.keep'' {S : Nat → Prop} {W W' : World} {v : Value} {xss : List (List Int)} (h : RowsIn S W v xss) (hk : ∀ b, b < W.heap.size → S b → W'.heap[b]? = W.heap[b]?) : RowsIn S W' v xss := h.keep' hk
theorem heads_one {S : Nat → Prop} {w : World} {us : List Value} {xss : List (List Int)} (h : HeadsS S w us xss) : ∀ c ∈ us, c.oneCell' = true := fun c hc => by
  obtain ⟨k, hk⟩ := List.mem_iff_getElem?.1 hc
  have hl : k < xss.length := by rw [← h.1]; exact (List.getElem?_eq_some_iff.1 hk).1
  obtain ⟨a, cap, e, _⟩ := h.2 k c _ hk (List.getElem?_eq_getElem hl)
  rw [e]; rfl

set_option maxRecDepth 100000 in
set_option maxHeartbeats 2000000 in
theorem numbered_ (va : Value) (all : List (List Int)) (w : World) (ha : Rows w va all) (hl : all.length ≤ 600) (hx : ∀ x ∈ all, x.length ≤ 7) (hnd : all.Nodup) :
    Calls Tryz.prog 9 #[va] w fun e w' => ∃ v, e = .returned v ∧ Rows w' v (numL all) ∧ Below w.heap.size w w' := by
  obtain ⟨i0, hi0, hz0, hz1, hz2⟩ := info_parts Tryz.info29
  have htop := fun W (hW : Below w.heap.size w W) => top_of va all W (ha.below hW) (by omega) (fun x h => by have := hx x h; omega)
  have hof : ∀ W (dim : Int), Below w.heap.size w W → Calls Tryz.prog 35 #[va, .int .i64 dim] W fun e w' => ∃ v us, e = .returned v ∧ w'.ownsRow W.heap.size 29 1 v us.length us ∧ HeadsS (fun b => b < w.heap.size) w us (ofDim all dim) ∧ Below W.heap.size W w' := fun W dim hW => (of_dim_in (fun b => b < w.heap.size) va all dim W ((rowsIn_of ha).keep'' (fun b hb hS => hW.block b hb)) (by omega) (fun x h => by have := hx x h; omega)).mono fun e w' h => by
    obtain ⟨v, us, h1, h2, h3, h4⟩ := h
    exact ⟨v, us, h1, h2, h3.keep (fun b _ hS => (hW.block b hS).symm), h4⟩
  have htl : topN all ≤ 7 := topN_upto hx
  have HNL : Hid (∀ d, (numTo all d).length ≤ 600) := fun d => by
    have h : (numTo all d).Perm (all.filter fun x => decide (1 ≤ x.length ∧ x.length ≤ d)) := (List.perm_ext_iff_of_nodup (numTo_nodup hnd d) (hnd.filter _)).2 fun x => by
      rw [numTo_mem, List.mem_filter, decide_eq_true_eq]
    rw [h.length_eq]
    exact Nat.le_trans (List.length_filter_le _ _) hl
  have HOL : Hid (∀ d : Int, (ofDim all d).length ≤ 600) := fun d => Nat.le_trans (ofDim_length all d) hl
  obtain ⟨aa, ca, rfl, -, -⟩ := ha.open_
  obtain ⟨top, htp⟩ : ∃ top, topN all = top := ⟨_, rfl⟩
  have HTP : Hid (topN all = top) := htp
  rw [htp] at htop htl
  clear ha hx hl hnd htp
  go_enter Tryz.func9, Tryz.ntmps9
  go_wp2_with fail
  go_loopw [3, 4] (fun v p W => ∃ (d : Nat) (us : List Value), d ≤ top ∧ p = .int .i64 d ∧ Hid (W.ownsRow w.heap.size 29 1 v us.length us ∧ HeadsS (fun b => b < w.heap.size) w us (numTo all d) ∧ Below w.heap.size w W)) (fun _ p _ => top - (intOf p).toNat)
  case atStart => exact ⟨0, [], by omega, rfl, World.ownsRow_nil _ _ _ _, ⟨rfl, fun k u x hu => by simp at hu⟩, Below.refl _ _⟩
  case round =>
    obtain ⟨d, us, hd, rfl, HD⟩ := hrel
    have ht := htop wr HD.out.2.2
    have hsz := HD.out.2.2.size
    by_cases hdt : d < top
    · have ho := hof wr (d : Int) HD.out.2.2
      obtain ⟨q, hq⟩ : ∃ q, us.length = q := ⟨_, rfl⟩
      have own := HD.out.1
      rw [hq] at own
      have hqb : q ≤ 600 := by rw [← hq, HD.out.2.1.1]; exact HNL.out d
      have HQ : Hid (us.length = q) := hq
      clear hq
      go_wp2_with (first
        | (go_at_call 34; refine ht.mono ?_; rintro e V ⟨rfl, rfl⟩)
        | (go_at_call 35; refine ho.mono ?_; rintro e V2 ⟨v2, us2, rfl, hown2, hh2, hB2⟩; have HH2 : Hid (HeadsS (fun b => b < w.heap.size) w us2 (ofDim all (d : Int))) := hh2; have HB2 : Hid (Below V.heap.size V V2) := hB2; have own2 := own.kept (Below.grownBy hB2) (by cases u3.ownBlock <;> simp); have hsl := slice_of_owns (S := anyBlock) hown2 (fun _ _ _ => trivial); have hq2 : us2.length ≤ 600 := (by rw [hh2.1]; exact HOL.out _); have hone : ∀ c ∈ us2, c.oneCell' = true := (fun c hc => heads_one hh2 c hc); have hsz2 := hB2.size; clear hh2 hB2 hown2)
        | (at_builtin; refine wpList_append_slice rfl (.tmp 11) (.tmp 14) 22 rfl w.heap.size 29 i0 (.slice none 0 0) 24 Tryz.underlying22 hi0 hz0 hz1 hz2 rfl _ _ _ rfl own2 _ us2 rfl hsl hone (by omega) (by unfold maxLen; omega) (by omega) ?_; intro v4 w4 hown4 hg4 hl4)
        | fail)
      go_roundw
      case rel =>
        refine ⟨d + 1, us ++ us2, by omega, by go_num, ?_, ?_, ?_⟩
        · rw [List.length_append, HQ.out]; exact hown4
        · rw [numTo_succ]; exact HD.out.2.1.append HH2.out
        · exact (HD.out.2.2.trans (HB2.out.mono hsz)).grown hg4 (by omega) (fun b hb => (own.lt b hb).1)
      case measure => simp [intOf]; omega
    · obtain rfl : d = top := by omega
      go_wp2_with (first
        | (go_at_call 34; refine ht.mono ?_; rintro e V ⟨rfl, rfl⟩)
        | fail)
      go_ret
      refine ⟨_, rfl, ?_, HD.out.2.2⟩
      have h1 := (HD.out.2.1.below HD.out.2.2).rows HD.out.1
      unfold numL
      rw [HTP.out]
      exact h1

end Go.Proofs.YtnnkmkhamipfiaaGreatDoor
