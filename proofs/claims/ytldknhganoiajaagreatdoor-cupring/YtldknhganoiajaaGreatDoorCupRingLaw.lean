/- What the statements' Cx answers: the same sets, in memory of its own. The statement on how many dimensions products are, of whatever sets. -/
import Derived.Test.YtldknhganoiajaaGreatDoorOpen
import Derived.Test.YtldknhganoiajaaGreatDoorCupCocOf
import Derived.Deep.RegionLaw
import Derived.Deep.RegionHeld3
import Derived.Deep.AppendLies
import Derived.Deep.Light
import Derived.Test.YtldknhganoiajaaGreatDoorCupRingP
import Derived.Test.YtldknhganoiajaaGreatDoorCircle
import Derived.Test.YtldknhganoiajaaGreatDoorLittleFew
import Derived.Test.YtldknhganoiajaaGreatDoorClosed
namespace Go.Proofs.YtldknhganoiajaaGreatDoor
open Go.RowKit Go.Sort

/-- Where Cx stands: its two variables, and the first k rows. -/
structure CxAt (l : List (List Int)) (w : World) (k : Nat) (vo : Value) (wr : World) : Prop where
  two : wr.cell? ⟨w.heap.size, 0, none⟩ = some (.slice none 0 0) ∧ wr.frozen? ⟨w.heap.size, 0, none⟩ = false
  out : wr.cell? ⟨w.heap.size + 1, 0, none⟩ = some vo ∧ wr.frozen? ⟨w.heap.size + 1, 0, none⟩ = false
  own : OwnRows (w.heap.size + 2) wr vo (l.take k)
  size : w.heap.size + 2 ≤ wr.heap.size
  below : Below w.heap.size w wr

theorem cx_start (l : List (List Int)) (w : World) : CxAt l w 0 (.slice none 0 0) ((w.alloc (.cells #[.slice none 0 0] 31)).alloc (.cells #[.slice none 0 0] 31)) where
  two := box_alloc _ (box_new w _ _)
  out := by
    have := box_new (w.alloc (.cells #[.slice none 0 0] 31)) (.slice none 0 0) 31
    rwa [World.size_alloc] at this
  own := OwnRows.nil _ _
  size := by simp
  below := ((Below.refl _ w).alloc (Nat.le_refl _) _).alloc (by simp) _

theorem cx_step {l : List (List Int)} {w wr w1 w2 : World} {k : Nat} {vo v2 : Value} {x : List Int} {vs : List Value} {u : Value} {o : Obj} (hlt : k < l.length) (hx : l[k]?.getD [] = x) (h : CxAt l w k vo wr) (hB1 : Below wr.heap.size wr w1)
    (ho1 : w1.ownsRow (w.heap.size + 2) 39 1 vo (l.take k).length vs) (ho2 : ∀ (k' : Nat) (u : Value) (x : List Int), vs[k']? = some u → (l.take k)[k']? = some x → IntsIn (fun b => w.heap.size + 2 ≤ b ∧ some b ≠ vo.ownBlock) w1 u x)
    (hf : IntsIn (fun b => wr.heap.size ≤ b) w1 u x) (hown : w2.ownsRow (w.heap.size + 2) 39 1 v2 (k + 1) (vs ++ [u])) (hg : (w1.alloc o).grownBy w2 vo.ownBlock) (hl : v2.ownBlock = vo.ownBlock ∨ v2.ownBlock = some (w1.alloc o).heap.size)
    (d0 : w2.cell? ⟨w.heap.size, 0, none⟩ = some (.slice none 0 0) ∧ w2.frozen? ⟨w.heap.size, 0, none⟩ = false) (d1 : w2.cell? ⟨w.heap.size + 1, 0, none⟩ = some vo ∧ w2.frozen? ⟨w.heap.size + 1, 0, none⟩ = false) :
    CxAt l w (k + 1) v2 (w2.setCell ⟨w.heap.size + 1, 0, none⟩ v2) := by
  have htk : (l.take k).length = k := by simp; omega
  have hu : IntsIn (fun b => w.heap.size + 2 ≤ b ∧ some b ≠ vo.ownBlock) w1 u x := SliceIn.mono hf (fun b _ hge => ⟨Nat.le_trans h.size hge, fun e => by
    have := (h.own.block e.symm).2
    omega⟩)
  have hpush := OwnRows.push ho1 ho2 hu (by rw [htk]; exact hown) hg hl
  have hsz0 := h.size
  have hsz1 := hB1.size
  have hsz2 := hg.size
  rw [World.size_alloc] at hsz2
  have hBw1 : Below w.heap.size w w1 := h.below.trans (hB1.mono h.below.size)
  have hBw2 : Below w.heap.size w w2 := (hBw1.alloc (by omega) o).grown hg (by simp; omega) (fun j hj => by have := (h.own.block hj).1; omega)
  refine ⟨⟨?_, ?_⟩, ⟨?_, ?_⟩, ?_, ?_, hBw2.setCell (p := ⟨w.heap.size + 1, 0, none⟩) (by show w.heap.size ≤ w.heap.size + 1; omega) _⟩
  · rw [World.cell?_setCell_other _ _ _ _ (fun e => by have := congrArg Addr.block e; simp at this)]; exact d0.1
  · rw [World.frozen?_setCell]; exact d0.2
  · exact World.cell?_setCell_same' _ _ _ (by rw [d1.1]; rfl)
  · rw [World.frozen?_setCell]; exact d1.2
  · have e : l.take (k + 1) = l.take k ++ [x] := by
      rw [List.take_add_one, List.getElem?_eq_getElem hlt]
      rw [List.getElem?_eq_getElem hlt, Option.getD_some] at hx
      rw [hx]; rfl
    rw [e]
    exact hpush.setCell (p := ⟨w.heap.size + 1, 0, none⟩) (by show w.heap.size + 1 < w.heap.size + 2; omega) _
  · rw [World.size_setCell]; omega

set_option maxRecDepth 100000 in
set_option maxHeartbeats 2000000 in
theorem cx_ (vl : Value) (l : List (List Int)) (w : World) (hl : Rows w vl l) (hll : l.length ≤ 100000) (hle : ∀ x ∈ l, x.length ≤ 1000) :
    Calls Tryz.prog 8 #[vl] w fun e w' => ∃ v, e = .returned (.agg #[v]) ∧ Rows w' v l ∧ Below w.heap.size w w' := by
  obtain ⟨i0, hi, hz0, hz1, hz2⟩ := info_parts Tryz.info39
  obtain ⟨j0, hj0, hy0, hy1, hy2⟩ := info_parts Tryz.info3
  have HE : Hid (∀ x ∈ l, x.length ≤ 1000) := hle
  obtain ⟨a, ca, rfl, -, ha⟩ := hl.open_
  clear hle
  go_enter Tryz.func8, Tryz.ntmps8
  go_wp2
  go_loopw [4] (fun i wr => ∃ (k : Nat) (vo : Value), k ≤ l.length ∧ i = .int .i64 k ∧ CxAt l w k vo wr)
    (fun i _ => l.length - (intOf i).toNat)
  case atStart => exact ⟨0, _, by omega, rfl, cx_start l w⟩
  case round =>
    obtain ⟨k, vo, hk, rfl, hat⟩ := hrel
    have HAT : Hid (CxAt l w k vo wr) := hat
    obtain ⟨⟨hc0, hf0⟩, ⟨hc1, hf1⟩, -, hbk, hB⟩ := hat
    by_cases hlt : k < l.length
    · obtain ⟨b, o, rfl, -, hb, c⟩ := ha (by omega)
      obtain ⟨a1, p1, g1, i1⟩ := c k hlt
      have hlen : (l[k]?.getD []).length ≤ 1000 := HE.out _ (by rw [List.getElem?_eq_getElem hlt]; simp)
      obtain ⟨x, hxe⟩ : ∃ x, l[k]?.getD [] = x := ⟨_, rfl⟩
      rw [hxe] at g1 i1 hlen
      have HX : Hid (l[k]?.getD [] = x) := hxe
      have HTK : Hid ((l.take k).length = k) := by show (l.take k).length = k; simp; omega
      have g2 : wr.cell? ⟨b, o + k, none⟩ = some (.slice a1 x.length p1) := (hB.cell (p := ⟨b, o + k, none⟩) hb).trans g1
      have i2 : Ints wr.drew (.slice a1 x.length p1) x := (i1.below hB).below ⟨rfl, rfl, rfl, Nat.le_refl _, fun _ _ => rfl⟩
      have hn0 : (0 : Int) ≤ (k : Int) := by omega
      have hn1 : (k : Int) < (l.length : Int) := by omega
      clear c ha hl g1 i1 hxe
      have hne : ∀ g, vo.ownBlock = some g → w.heap.size + 2 ≤ g := fun g hg => (HAT.out.own.block hg).1
      have q1 : some (w.heap.size + 1) ≠ vo.ownBlock := fun e => by have := hne _ e.symm; omega
      have q0 : some w.heap.size ≠ vo.ownBlock := fun e => by have := hne _ e.symm; omega
      have hl0 := cell_lt hc0
      have hl1 := cell_lt hc1
      clear hne
      go_wp2_with fail
      go_region_law (first
        | (refine step_append_slice (by rfl) (.tmp 15) (.tmp 19) 39 (by rfl) wr.heap.size 3 j0 (.int .i64 0) 8 Tryz.underlying39 hj0 hy0 hy1 hy2 (by rfl) (.slice none 0 0) 0 [] (by simp [Act.eval]) (World.ownsRow_nil _ _ _ _) (.slice a1 x.length p1) (x.map (Value.int .i64)) (by simp [Act.eval]) i2 (ints_one x) (by simp; omega) (by unfold maxLen; simp; omega) (Nat.le_refl _) ?_; intro v1 w1 hown1 hg1 hl1'; have hB1 : Below wr.heap.size wr w1 := below_nil hg1; have c1 : w1.cell? ⟨w.heap.size + 1, 0, none⟩ = some vo := (hB1.cell (p := ⟨w.heap.size + 1, 0, none⟩) hl1).trans hc1; have hfm := ints_made hown1; have HFM : Hid (IntsIn (fun b => wr.heap.size ≤ b) w1 v1 x) := hfm; obtain ⟨a2, p2, rfl, -, -⟩ := hfm.open_; have c1a : ∀ o, (w1.alloc o).cell? ⟨w.heap.size + 1, 0, none⟩ = some vo := fun o => cell_kept c1 (World.grownBy_alloc w1 o none) (fun r e => by cases e); obtain ⟨vs, ho1, ho2⟩ := HAT.out.own.below hB1; have HO1 : Hid (w1.ownsRow (w.heap.size + 2) 39 1 vo (l.take k).length vs) := ho1; have HO2 : Hid (∀ (k' : Nat) (u : Value) (x : List Int), vs[k']? = some u → (l.take k)[k']? = some x → IntsIn (fun b => w.heap.size + 2 ≤ b ∧ some b ≠ vo.ownBlock) w1 u x) := ho2; rw [HTK.out] at ho1; have hbs1 := hB1.size; have z1 : w1.frozen? ⟨w.heap.size + 1, 0, none⟩ = false := (hB1.frozen (p := ⟨w.heap.size + 1, 0, none⟩) hl1).trans hf1; have c0 : w1.cell? ⟨w.heap.size, 0, none⟩ = some (.slice none 0 0) ∧ w1.frozen? ⟨w.heap.size, 0, none⟩ = false := ⟨(hB1.cell (p := ⟨w.heap.size, 0, none⟩) hl0).trans hc0, (hB1.frozen (p := ⟨w.heap.size, 0, none⟩) hl0).trans hf0⟩; clear hown1 hg1 hl1' hfm ho2)
        | (refine step_append_slice (by rfl) (.tmp 14) (.tmp 21) 22 (by rfl) (w.heap.size + 2) 39 i0 (.slice none 0 0) 24 Tryz.underlying22 hi hz0 hz1 hz2 (by rfl) vo k vs (by simp [Act.eval]) (ho1.alloc _) (.slice (some ⟨w1.heap.size, 0, none⟩) 1 1) [.slice a2 x.length p2] (by simp [Act.eval]) (slice_one _ _ _) (by simp [Value.oneCell']) (by simp; omega) (by unfold maxLen; simp; omega) (by simp; omega) ?_; intro v2 w2 hown2 hg2 hl2'; have d1 := far_kept hg2 (p := ⟨w.heap.size + 1, 0, none⟩) ⟨c1, z1⟩ q1; have d0 := far_kept hg2 (p := ⟨w.heap.size, 0, none⟩) c0 q0; have e1 := d1.1; have f1 := d1.2; obtain ⟨g3, p3, rfl, -, -⟩ := hown2.form (by simp); have HC : Hid (CxAt l w (k + 1) (.slice (some ⟨g3, 0, none⟩) (k + 1) p3) (w2.setCell ⟨w.heap.size + 1, 0, none⟩ (.slice (some ⟨g3, 0, none⟩) (k + 1) p3))) := cx_step hlt HX.out HAT.out hB1 HO1.out HO2.out HFM.out hown2 hg2 hl2' d0 d1; clear hown2 hg2 hl2'))
      all_goals go_wp2
      all_goals go_roundw
      all_goals first
        | (go_light; exact ⟨k + 1, _, hlt, by go_num, HC.out⟩)
        | (go_light; simp [intOf]; omega)
    · obtain rfl : k = l.length := by omega
      have hrow := HAT.out.own.rows
      rw [List.take_length] at hrow
      have HRW : Hid (Rows wr vo l) := hrow
      obtain ⟨a4, p4, rfl, -, -⟩ := hrow.open_
      clear hrow ha hl
      have c2 := World.cell?_setCell_same' wr ⟨w.heap.size, 0, none⟩ (.slice a4 l.length p4) (by rw [hc0]; rfl)
      go_wp2
      refine bodyPost_ret (v := .agg #[.slice a4 l.length p4]) ?_ rfl ?_
      · simp [results, Tryz.f8, go_sem, c2]
      · have hB1 := HAT.out.below.setCell (p := ⟨w.heap.size, 0, none⟩) (Nat.le_refl _) (.slice a4 l.length p4)
        refine ⟨_, rfl, ?_, hB1⟩
        have hown := HAT.out.own.setCell (p := ⟨w.heap.size, 0, none⟩) (by show w.heap.size < w.heap.size + 2; omega) (.slice a4 l.length p4)
        rw [List.take_length] at hown
        exact hown.rows

end Go.Proofs.YtldknhganoiajaaGreatDoor

namespace Go.Proofs.YtldknhganoiajaaGreatDoor
open Go.RowKit Go.Sort

theorem ring_bad_or_good (l : List (List Int)) : (∃ j, BadAt l j) ∨ ∃ all, Good l all := by
  by_cases h1 : ∀ x ∈ l, SetOk x
  · by_cases h2 : Over (l.map srt)
    · exact .inl ⟨1, .inr (.inl ⟨rfl, h1, h2⟩)⟩
    · by_cases h3 : ∃ all, Good l all
      · exact .inr h3
      · exact .inl ⟨2, .inr (.inr ⟨rfl, h1, h2, fun all ha hf => h3 ⟨all, h1, h2, ha, hf⟩⟩)⟩
  · exact .inl ⟨3, .inl ⟨rfl, h1⟩⟩

set_option maxRecDepth 100000 in
set_option maxHeartbeats 8000000 in
theorem ring_bad {a : Nat → Addr} {s : Nat → ByteArray} (vl : Value) (l : List (List Int)) {j : Nat} (hb : BadAt l j) (w : World) (hE : Errs a s w) (hT : TabOk w) (hl : Rows w vl l) :
    Calls Tryz.prog 3 #[vl] w fun e w' => e = .returned (.bool true) ∧ Below w.heap.size w w' := by
  have hct := cut_ w hE hT
  have HH : Hid (Errs a s w ∧ TabOk w ∧ Rows w vl l) := ⟨hE, hT, hl⟩
  have hli : ∀ V, Below w.heap.size w V → Calls Tryz.prog 5 #[vl, .int .i64 50] V fun e w' => ∃ q : Bool, e = .returned (.bool q) ∧ Below V.heap.size V w' ∧ (q = true → l.length ≤ 40 ∧ (∀ x ∈ l, x.length ≤ 12) ∧ ∀ all, Good l all → all.length ≤ 50) := fun V hV => little_few closed_ vl l 50 V (hl.below hV)
  obtain ⟨al, cl, rfl, -, -⟩ := hl.open_
  clear hE hT hl
  go_enter Tryz.func3, Tryz.ntmps3
  go_wp2_with fail
  refine hct.mono ?_
  rintro e w1 ⟨rfl, hB1⟩
  have hl1 := hli w1 hB1
  have HB1 := Hid.mk' hB1
  clear hct hli hB1
  go_wp2_with fail
  refine hl1.mono ?_
  clear hl1
  rintro e w2 ⟨q, rfl, hB2, hq⟩
  have HB2 : Hid (Below w.heap.size w w2) := HB1.out.trans (hB2.mono HB1.out.size)
  clear hB2 HB1
  cases q with
  | false =>
    clear hq
    go_wp2_with fail
    go_ret
    exact ⟨rfl, HB2.out⟩
  | true =>
    have hs := hq rfl
    clear hq
    have HS : Hid (l.length ≤ 100000 ∧ ∀ x ∈ l, x.length ≤ 1000) := ⟨by have := hs.1; omega, fun x hx => by have := hs.2.1 x hx; omega⟩
    have her := error_g closed_ (.slice al l.length cl) l w2 (HH.out.2.2.below HB2.out) HS.out.1 HS.out.2
    replace her : Calls Tryz.prog 6 #[.slice al l.length cl] w2 fun e w' => e = .returned (.int .i64 ((j : Int) + 1)) ∧ Below w2.heap.size w2 w' := her.mono fun e w' h => by
      rcases h with ⟨h1, ⟨j', hj, h2⟩ | ⟨all', hg', -⟩⟩
      · rw [bad_one hb hj]; exact ⟨h2, h1⟩
      · exact (bad_good hb hg').elim
    have HCX : Hid (∀ V, Below w.heap.size w V → Calls Tryz.prog 8 #[.slice al l.length cl] V fun e w' => ∃ v, e = .returned (.agg #[v]) ∧ Rows w' v l ∧ Below V.heap.size V w') := fun V hV => cx_ (.slice al l.length cl) l V (HH.out.2.2.below hV) HS.out.1 HS.out.2
    have HRI : Hid (∀ V v, Below w.heap.size w V → Rows V v l → Calls Tryz.prog 7 #[.agg #[v]] V fun e w' => e = .returned (.tuple #[.slice none 0 0, .iface 179 (.pointer (some (a j)))]) ∧ Below V.heap.size V w') := fun V v hV hR => cupRing_err hb v V (HH.out.1.below hV) hR HS.out.1 HS.out.2
    have HCD : Hid (∀ V, Below w.heap.size w V → Calls Tryz.prog 9 #[.iface 179 (.pointer (some (a j))), .int .i64 ((j : Int) + 1)] V fun e w' => e = .returned (.bool true) ∧ Below V.heap.size V w') := fun V hV => (coded_es V (HH.out.1.below hV) j hb.lt ((j : Int) + 1)).mono fun e w' h => ⟨by rw [h.1, decide_eq_true rfl], h.2⟩
    obtain ⟨n, hn⟩ : ∃ n : Int, (j : Int) + 1 = n := ⟨_, rfl⟩
    have hn0 : (0 : Int) < n := by omega
    obtain ⟨ev, hev⟩ : ∃ ev : Addr, a j = ev := ⟨_, rfl⟩
    rw [hn] at her HCD
    rw [hev] at HRI HCD
    clear hs hb hn hev
    go_wp2_with fail
    refine her.mono ?_
    clear her
    rintro e w3 ⟨rfl, hB3⟩
    have HB3 : Hid (Below w.heap.size w w3) := HB2.out.trans (hB3.mono HB2.out.size)
    clear hB3 HB2
    go_upto_region 7 with (first
      | (go_at_call 8; refine (HCX.out _ HB3.out).mono ?_; rintro e w4 ⟨v, rfl, hv, hB4⟩; have HB4 : Hid (Below w.heap.size w w4 ∧ Rows w4 v l) := ⟨HB3.out.trans (hB4.mono HB3.out.size), hv⟩; obtain ⟨av, cv, rfl, -, -⟩ := hv.open_; clear hv hB4)
      | (go_at_call 7; refine (HRI.out _ _ HB4.out.1 HB4.out.2).mono ?_; rintro e w5 ⟨rfl, hB5⟩; have HB5 : Hid (Below w.heap.size w w5) := HB4.out.1.trans (hB5.mono HB4.out.1.size); clear hB5)
      | fail)
    go_wp2_with (first
      | (go_at_call 9; refine (HCD.out _ HB5.out).mono ?_; rintro e w6 ⟨rfl, hB6⟩; have HB6 : Hid (Below w.heap.size w w6) := HB5.out.trans (hB6.mono HB5.out.size); clear hB6)
      | fail)
    go_ret
    exact ⟨rfl, HB6.out⟩

set_option maxRecDepth 100000 in
set_option maxHeartbeats 8000000 in
theorem ring_good {a : Nat → Addr} {s : Nat → ByteArray} (vl : Value) (l all : List (List Int)) (hg : Good l all) (w : World) (hE : Errs a s w) (hT : TabOk w) (hl : Rows w vl l) :
    Calls Tryz.prog 3 #[vl] w fun e w' => e = .returned (.bool true) ∧ Below w.heap.size w w' := by
  have hct := cut_ w hE hT
  have HH : Hid (Errs a s w ∧ TabOk w ∧ Rows w vl l) := ⟨hE, hT, hl⟩
  have hli : ∀ V, Below w.heap.size w V → Calls Tryz.prog 5 #[vl, .int .i64 50] V fun e w' => ∃ q : Bool, e = .returned (.bool q) ∧ Below V.heap.size V w' ∧ (q = true → l.length ≤ 40 ∧ (∀ x ∈ l, x.length ≤ 12) ∧ ∀ all, Good l all → all.length ≤ 50) := fun V hV => little_few closed_ vl l 50 V (hl.below hV)
  obtain ⟨al, cl, rfl, -, -⟩ := hl.open_
  clear hE hT hl
  go_enter Tryz.func3, Tryz.ntmps3
  go_wp2_with fail
  refine hct.mono ?_
  rintro e w1 ⟨rfl, hB1⟩
  have hl1 := hli w1 hB1
  have HB1 := Hid.mk' hB1
  clear hct hli hB1
  go_wp2_with fail
  refine hl1.mono ?_
  clear hl1
  rintro e w2 ⟨q, rfl, hB2, hq⟩
  have HB2 : Hid (Below w.heap.size w w2) := HB1.out.trans (hB2.mono HB1.out.size)
  clear hB2 HB1
  cases q with
  | false =>
    clear hq
    go_wp2_with fail
    go_ret
    exact ⟨rfl, HB2.out⟩
  | true =>
    have hs := hq rfl
    clear hq
    have HS : Hid (l.length ≤ 100000 ∧ ∀ x ∈ l, x.length ≤ 1000) := ⟨by have := hs.1; omega, fun x hx => by have := hs.2.1 x hx; omega⟩
    have h60 : all.length ≤ 60 := by have := hs.2.2 all hg; omega
    have her := error_g closed_ (.slice al l.length cl) l w2 (HH.out.2.2.below HB2.out) HS.out.1 HS.out.2
    replace her : Calls Tryz.prog 6 #[.slice al l.length cl] w2 fun e w' => e = .returned (.int .i64 0) ∧ Below w2.heap.size w2 w' := her.mono fun e w' h => by
      rcases h with ⟨h1, ⟨j, hj, -⟩ | ⟨all', -, h2⟩⟩
      · exact (bad_good hj hg).elim
      · exact ⟨h2, h1⟩
    have h7 : topN all ≤ 7 := topN_upto hg.short
    have HCX : Hid (∀ V, Below w.heap.size w V → Calls Tryz.prog 8 #[.slice al l.length cl] V fun e w' => ∃ v, e = .returned (.agg #[v]) ∧ Rows w' v l ∧ Below V.heap.size V w') := fun V hV => cx_ (.slice al l.length cl) l V (HH.out.2.2.below hV) HS.out.1 HS.out.2
    have HRI : Hid (∀ V v, Below w.heap.size w V → Rows V v l → Calls Tryz.prog 7 #[.agg #[v]] V fun e w' => ∃ b c, e = .returned (.tuple #[.slice b (topN all) c, .nilIface]) ∧ Rows w' (.slice b (topN all) c) (ringP all (topN all) (topN all)) ∧ Below V.heap.size V w') := fun V v hV hR => cupRing_ok hg h60 v V (HH.out.1.below hV) (HH.out.2.1.below hV) hR HS.out.1 HS.out.2
    have HCL : Hid (∀ V, Below w.heap.size w V → Calls Tryz.prog 10 #[.slice al l.length cl] V fun e w' => ∃ v, e = .returned (.tuple #[v, .int .i64 0]) ∧ Rows w' v all ∧ Below V.heap.size V w') := fun V hV => closed_g closed_ (.slice al l.length cl) l all V (HH.out.2.2.below hV) HS.out.1 HS.out.2 hg
    have HRR : Hid (∀ V v, Rows V v all → Calls Tryz.prog 12 #[v] V fun e w' => ∃ b c, e = .returned (.slice b (topN all) c) ∧ Rows w' (.slice b (topN all) c) (ringP all (topN all) (topN all)) ∧ Below V.heap.size V w') := fun V v hR => ringOf_ hg v V hR h60 (fun x hx => by have := hg.short x hx; omega)
    obtain ⟨R, hR⟩ : ∃ R, ringP all (topN all) (topN all) = R := ⟨_, rfl⟩
    have HSL : Hid (∀ V u v, Rows V u R → Rows V v R → Calls Tryz.prog 11 #[u, v] V fun e w' => e = .returned (.bool true) ∧ Below V.heap.size V w') := fun V u v h1 h2 => by
      have hl1 : R.length ≤ 1000000 := by rw [← hR, ringP_len]; omega
      have hl2 : ∀ x ∈ R, x.length ≤ 1000000 := fun x hx => by
        rw [← hR] at hx
        unfold ringP at hx
        obtain ⟨i, -, rfl⟩ := List.mem_map.1 hx
        rw [ringRow_len]; omega
      exact (same_lists _ _ R R V h1 h2 hl1 hl2).mono fun e w' h => by
        obtain ⟨h1, q, h2⟩ := h
        exact ⟨by rw [h1, decide_eq_true rfl], by rw [h2]; exact drew_below _ _⟩
    obtain ⟨T, hTT⟩ : ∃ T, topN all = T := ⟨_, rfl⟩
    rw [hR, hTT] at HRI HRR
    clear hs hg h60 hR hTT
    go_wp2_with fail
    refine her.mono ?_
    clear her
    rintro e w3 ⟨rfl, hB3⟩
    have HB3 : Hid (Below w.heap.size w w3) := HB2.out.trans (hB3.mono HB2.out.size)
    clear hB3 HB2
    go_upto_region 7 with (first
      | (go_at_call 8; refine (HCX.out _ HB3.out).mono ?_; rintro e w4 ⟨v, rfl, hv, hB4⟩; have HB4 : Hid (Below w.heap.size w w4 ∧ Rows w4 v l) := ⟨HB3.out.trans (hB4.mono HB3.out.size), hv⟩; obtain ⟨av, cv, rfl, -, -⟩ := hv.open_; clear hv hB4)
      | (go_at_call 7; refine (HRI.out _ _ HB4.out.1 HB4.out.2).mono ?_; rintro e w5 ⟨b5, c5, rfl, hR5, hB5⟩; have HB5 : Hid (Below w.heap.size w w5 ∧ Rows w5 (.slice b5 T c5) R) := ⟨HB4.out.1.trans (hB5.mono HB4.out.1.size), hR5⟩; clear hR5 hB5)
      | fail)
    go_upto_region 10 with (first
      | (go_at_call 10; refine (HCL.out _ HB5.out.1).mono ?_; rintro e w6 ⟨vA, rfl, hvA, hB6⟩; have HB6 : Hid (Below w.heap.size w w6 ∧ Rows w6 (.slice b5 T c5) R ∧ Rows w6 vA all) := ⟨HB5.out.1.trans (hB6.mono HB5.out.1.size), HB5.out.2.below hB6, hvA⟩; obtain ⟨aA, cA, hA, -, -⟩ := hvA.open_; subst hA; clear hvA hB6)
      | fail)
    go_wp2_with (first
      | (go_at_call 12; refine (HRR.out _ _ HB6.out.2.2).mono ?_; rintro e w7 ⟨b7, c7, rfl, hR7, hB7⟩; have HB7 : Hid (Below w.heap.size w w7 ∧ Rows w7 (.slice b5 T c5) R ∧ Rows w7 (.slice b7 T c7) R) := ⟨HB6.out.1.trans (hB7.mono HB6.out.1.size), HB6.out.2.1.below hB7, hR7⟩; clear hR7 hB7)
      | (go_at_call 11; refine (HSL.out _ _ _ HB7.out.2.1 HB7.out.2.2).mono ?_; rintro e w8 ⟨rfl, hB8⟩; have HB8 : Hid (Below w.heap.size w w8) := HB7.out.1.trans (hB8.mono HB7.out.1.size); clear hB8)
      | fail)
    go_ret
    exact ⟨rfl, HB8.out⟩

theorem ring_law {a : Nat → Addr} {s : Nat → ByteArray} (vl : Value) (l : List (List Int)) (w : World) (hE : Errs a s w) (hT : TabOk w) (hl : Rows w vl l) :
    Calls Tryz.prog 3 #[vl] w fun e w' => e = .returned (.bool true) ∧ Below w.heap.size w w' := by
  rcases ring_bad_or_good l with ⟨j, hb⟩ | ⟨all, hg⟩
  · exact ring_bad vl l hb w hE hT hl
  · exact ring_good vl l all hg w hE hT hl

end Go.Proofs.YtldknhganoiajaaGreatDoor
