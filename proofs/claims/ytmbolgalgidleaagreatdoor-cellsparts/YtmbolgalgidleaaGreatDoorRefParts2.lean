/- What the reference's Together, Minus, StarOf and LinkOf answer. What the reference's StarOf and LinkOf and the statements' made answer. -/
import Derived.Test.YtmbolgalgidleaaGreatDoorPartsMath
import Derived.Test.YtmbolgalgidleaaGreatDoorCx
namespace Go.Proofs.YtmbolgalgidleaaGreatDoor
open Go.RowKit Go.Sort

set_option maxRecDepth 100000 in
theorem together_ (vf vg : Value) (f g : List Int) (w : World) (hf : Ints w vf f) (hg : Ints w vg g) (hfl : f.length ≤ 400) (hgl : g.length ≤ 400) :
    Calls Tryz.prog 51 #[vf, vg] w fun e w' => ∃ v out, e = .returned v ∧ Ints w' v out ∧ Rising out ∧ (∀ x, x ∈ out ↔ x ∈ f ∨ x ∈ g) ∧ Below w.heap.size w w' := by
  obtain ⟨j0, hj0, hy0, hy1, hy2⟩ := info_parts Tryz.info3
  have HG : Hid (Ints w vg g) := hg
  obtain ⟨af, cf, rfl, -, -⟩ := hf.open_
  obtain ⟨ag, cg, rfl, -, -⟩ := hg.open_
  go_enter Tryz.func51, Tryz.ntmps51
  go_wp2_with (first
    | (at_builtin; refine wpList_append_slice rfl (.tmp 8) (.tmp 9) 23 rfl w.heap.size 3 j0 (.int .i64 0) 8 Tryz.underlying23 hj0 hy0 hy1 hy2 rfl _ _ _ rfl (World.ownsRow_nil _ _ _ _) _ (f.map (Value.int .i64)) rfl hf (ints_one f) (by simp; omega) (by unfold maxLen; simp; omega) (Nat.le_refl _) ?_; intro v1 w1 hown1 hg1 hl1; have hB1 : Below w.heap.size w w1 := (Below.refl _ w).grown hg1 (Nat.le_refl _) (fun j hj => by cases hj); have hbs := hB1.size; have hgi : Ints w1 (.slice ag g.length cg) g := HG.out.below hB1; rw [Nat.zero_add, List.nil_append] at hown1)
    | (at_builtin; refine wpList_append_slice rfl (.tmp 11) (.tmp 12) 23 rfl w.heap.size 3 j0 (.int .i64 0) 8 Tryz.underlying23 hj0 hy0 hy1 hy2 rfl _ _ _ rfl hown1 _ (g.map (Value.int .i64)) rfl hgi (ints_one g) (by simp; omega) (by unfold maxLen; simp; omega) hbs ?_; intro v2 w2 hown2 hg2 hl2)
    | fail)
  have hB2 : Below w.heap.size w w2 := hB1.grown hg2 hbs (fun j hj => (hown1.lt j hj).1)
  have hi2 : Ints w2 v2 (f ++ g) := by
    have := slice_of_owns (S := anyBlock) hown2 (fun _ _ _ => trivial)
    rw [← List.map_append] at this
    exact this
  have hso := sorted_ v2 (f ++ g) w2 hi2 (by simp; omega)
  obtain ⟨a2, c2, rfl, -, -⟩ := hi2.open_
  clear hown1 hown2 hg1 hl1 hg2 hl2 hi2 hgi hf hg
  go_wp2_with fail
  refine hso.mono ?_
  clear hso
  rintro e w3 ⟨v3, out, rfl, h1, h2, h3, -, h5⟩
  have HO : Hid (Ints w3 v3 out ∧ Rising out ∧ ∀ x, x ∈ out ↔ x ∈ f ∨ x ∈ g) := ⟨h1.any, h2, fun x => by rw [h3, List.mem_append]⟩
  clear h1 h2 h3
  go_wp2
  go_ret
  exact ⟨_, out, rfl, HO.out.1, HO.out.2.1, HO.out.2.2, hB2.trans (h5.mono hB2.size)⟩

theorem minusI_succ {x : List Int} {k : Nat} (hk : k < x.length) (f : List Int) : minusI (x.take (k + 1)) f = minusI (x.take k) f ++ (if f.contains (x[k]?.getD 0) = true then [] else [x[k]?.getD 0]) := by
  unfold minusI
  rw [List.take_add_one, List.getElem?_eq_getElem hk, List.filter_append, Option.getD_some]
  congr 1
  cases h : f.contains x[k] with
  | false => rw [if_neg (by decide)]; simp only [Option.toList, List.filter_cons, h, Bool.not_false, if_true, List.filter_nil]
  | true => rw [if_pos rfl]; simp only [Option.toList, List.filter_cons, h, Bool.not_true, Bool.false_eq_true, if_false, List.filter_nil]
theorem minusI_length (x f : List Int) : (minusI x f).length ≤ x.length := List.length_filter_le _ _

set_option maxRecDepth 100000 in
set_option maxHeartbeats 1000000 in
theorem minus_ (vx vf : Value) (x f : List Int) (w : World) (hx : Ints w vx x) (hf : Ints w vf f) (hxl : x.length ≤ 400) (hfl : f.length ≤ 400) :
    Calls Tryz.prog 53 #[vx, vf] w fun e w' => ∃ v, e = .returned v ∧ IntsIn (fun b => w.heap.size ≤ b) w' v (minusI x f) ∧ Below w.heap.size w w' := by
  obtain ⟨j0, hj0, hy0, hy1, hy2⟩ := info_parts Tryz.info3
  have HF : Hid (Ints w vf f) := hf
  obtain ⟨ax, cx, rfl, -, hcx⟩ := hx.open_
  obtain ⟨af, cf, rfl, -, -⟩ := hf.open_
  clear hx hf
  go_enter Tryz.func53, Tryz.ntmps53
  go_wp2
  go_loopw [5, 6] (fun v p W => ∃ k : Nat, k ≤ x.length ∧ p = .int .i64 k ∧ W.ownsRow w.heap.size 3 1 v (minusI (x.take k) f).length ((minusI (x.take k) f).map (Value.int .i64)) ∧ Below w.heap.size w W)
    (fun _ p _ => x.length - (intOf p).toNat)
  case atStart => exact ⟨0, by omega, rfl, by simp [minusI]; exact World.ownsRow_nil _ _ _ _, Below.refl _ _⟩
  case round =>
    obtain ⟨k, hk, rfl, hown, hB⟩ := hrel
    have hml : (minusI (x.take k) f).length ≤ 400 := by have := minusI_length (x.take k) f; simp at this; omega
    obtain ⟨t, ht⟩ : ∃ t, minusI (x.take k) f = t := ⟨_, rfl⟩
    rw [ht] at hown hml
    have HT : Hid (minusI (x.take k) f = t) := ht
    have hbs := hB.size
    clear ht
    by_cases hlt : k < x.length
    · obtain ⟨b, o, rfl, -, hb, c⟩ := hcx (by omega)
      have g0 := (hB.cell (p := ⟨b, o + k, none⟩) hb).trans (c k hlt)
      have hst := minusI_succ hlt f
      obtain ⟨y, hye⟩ : ∃ y, x[k]?.getD 0 = y := ⟨_, rfl⟩
      rw [hye] at g0 hst
      rw [HT.out] at hst
      have HST : Hid (minusI (x.take (k + 1)) f = t ++ (if f.contains y = true then [] else [y])) := hst
      have hco := contains_ (.slice af f.length cf) f y wr (HF.out.below hB) (by omega)
      clear hye hst c hcx
      cases hq : f.contains y with
      | true =>
        rw [hq] at hco
        have HQ : Hid (f.contains y = true) := hq
        clear hq
        go_wp2_with fail
        refine hco.mono ?_
        clear hco
        rintro e w2 ⟨rfl, q, hw2⟩
        have hB2 : Below w.heap.size w w2 := by rw [hw2]; exact hB.trans ⟨rfl, rfl, rfl, Nat.le_refl _, fun _ _ => rfl⟩
        have ho2 : w2.ownsRow w.heap.size 3 1 u5 t.length (t.map (Value.int .i64)) := by rw [hw2]; exact hown
        clear hw2 hown
        go_wp2
        go_roundw
        case rel => exact ⟨k + 1, by omega, by go_num, by rw [HST.out, if_pos HQ.out, List.append_nil]; exact ho2, hB2⟩
        case measure => simp [intOf]; omega
      | false =>
        rw [hq] at hco
        have HQ : Hid (¬ f.contains y = true) := by
          show ¬ f.contains y = true
          rw [hq]; decide
        clear hq
        have g1 : ∀ q, (wr.drewN q).cell? ⟨b, o + k, none⟩ = some (.int .i64 y) := fun q => g0
        go_wp2_with fail
        refine hco.mono ?_
        clear hco
        rintro e w2 ⟨rfl, q, hw2⟩
        have hB2 : Below w.heap.size w w2 := by rw [hw2]; exact hB.trans ⟨rfl, rfl, rfl, Nat.le_refl _, fun _ _ => rfl⟩
        have ho2 : w2.ownsRow w.heap.size 3 1 u5 t.length (t.map (Value.int .i64)) := by rw [hw2]; exact hown
        have g2 : w2.cell? ⟨b, o + k, none⟩ = some (.int .i64 y) := by rw [hw2]; exact g1 q
        have hbs2 := hB2.size
        clear hw2 hown g1
        go_wp2_with (first
          | (at_builtin; refine wpList_append_slice rfl (.tmp 22) (.tmp 27) 23 rfl w.heap.size 3 j0 (.int .i64 0) 8 Tryz.underlying23 hj0 hy0 hy1 hy2 rfl _ _ _ rfl (ho2.alloc _) _ [.int .i64 y] rfl (slice_one _ _ _) (by simp [Value.oneCell']) (by simp; omega) (by unfold maxLen; simp; omega) (by simp; omega) ?_; intro v3 w4 hown3 hg3 hl3)
          | go_in)
        (try go_frame)
        go_roundw
        case rel => exact ⟨k + 1, by omega, by go_num, by rw [HST.out, if_neg HQ.out]; simpa using hown3, (hB2.alloc hbs2 _).grown hg3 (by simp; omega) (fun j hj => (ho2.lt j hj).1)⟩
        case measure => simp [intOf]; omega
    · obtain rfl : k = x.length := by omega
      have HTX : Hid (minusI x f = t) := by
        have := HT.out
        rwa [List.take_length] at this
      have HI : Hid (IntsIn (fun b => w.heap.size ≤ b) wr u5 t) := slice_of_owns hown (fun b hb _ => hb)
      clear hcx hown
      go_wp2
      go_ret
      exact ⟨_, rfl, by rw [HTX.out]; exact HI.out, hB⟩

end Go.Proofs.YtmbolgalgidleaaGreatDoor

namespace Go.Proofs.YtmbolgalgidleaaGreatDoor
open Go.RowKit Go.Sort

theorem fil_succ {p : List Int → Bool} {l : List (List Int)} {k : Nat} (hk : k < l.length) : (l.take (k + 1)).filter p = (l.take k).filter p ++ (if p (l[k]?.getD []) = true then [l[k]?.getD []] else []) := by
  rw [List.take_add_one, List.getElem?_eq_getElem hk, List.filter_append, Option.getD_some]
  congr 1
  by_cases h : p l[k] = true <;> simp [h]
theorem fil_length {p : List Int → Bool} {l : List (List Int)} {k : Nat} (hk : k ≤ l.length) : ((l.take k).filter p).length ≤ l.length := by
  have := List.length_filter_le p (l.take k)
  simp at this
  omega

set_option maxRecDepth 100000 in
set_option maxHeartbeats 1000000 in
theorem star_of (va vf : Value) (all : List (List Int)) (f : List Int) (w : World) (ha : Rows w va all) (hf : Ints w vf f) (hl : all.length ≤ 1000) (hx : ∀ x ∈ all, x.length ≤ 7) (hr : ∀ x ∈ all, Rising x) (hfl : f.length ≤ 400) :
    Calls Tryz.prog 23 #[va, vf] w fun e w' => ∃ v, e = .returned v ∧ Rows w' v (starI all f) ∧ Below w.heap.size w w' := by
  obtain ⟨i0, hi, hz0, hz1, hz2⟩ := info_parts Tryz.info23
  have HA : Hid (Rows w va all) := ha
  have HF : Hid (Ints w vf f) := hf
  have HX : Hid (∀ x ∈ all, x.length ≤ 7) := hx
  have HRI : Hid (∀ x ∈ all, Rising x) := hr
  obtain ⟨a, ca, rfl, -, hc⟩ := ha.open_
  obtain ⟨af, cf, rfl, -, -⟩ := hf.open_
  clear hx ha hf hr
  go_enter Tryz.func23, Tryz.ntmps23
  go_wp2
  go_loopw [5, 6] (fun v p wr => ∃ (k : Nat) (us : List Value), k ≤ all.length ∧ p = .int .i64 k ∧ wr.ownsRow w.heap.size 23 1 v us.length us ∧ Heads w us ((all.take k).filter (fun x => uniB all x f)) ∧ Below w.heap.size w wr)
    (fun _ p _ => all.length - (intOf p).toNat)
  case atStart => exact ⟨0, [], by omega, rfl, World.ownsRow_nil _ _ _ _, ⟨by simp, fun k u x h => by simp at h⟩, Below.refl _ _⟩
  case round =>
    obtain ⟨k, us, hk, rfl, hown, hh, hB⟩ := hrel
    have HH : Hid (Heads w us ((all.take k).filter (fun x => uniB all x f))) := hh
    have hul : us.length ≤ 1000 := by have := hh.1; have := fil_length (p := fun x => uniB all x f) hk; omega
    clear hh
    by_cases hlt : k < all.length
    · obtain ⟨b, o, rfl, -, hb, c⟩ := hc (by omega)
      obtain ⟨a1, p1, g1, i1⟩ := c k hlt
      have hlen : (all[k]?.getD []).length ≤ 7 := HX.out _ (by rw [List.getElem?_eq_getElem hlt]; simp)
      have hst := fil_succ (p := fun x => uniB all x f) hlt
      obtain ⟨x, hxe⟩ : ∃ x, all[k]?.getD [] = x := ⟨_, rfl⟩
      rw [hxe] at g1 i1 hlen hst
      have g2 : wr.cell? ⟨b, o + k, none⟩ = some (.slice a1 x.length p1) := (hB.cell (p := ⟨b, o + k, none⟩) hb).trans g1
      have HI1 : Hid (Ints w (.slice a1 x.length p1) x) := i1
      have HST : Hid ((all.take (k + 1)).filter (fun x => uniB all x f) = (all.take k).filter (fun x => uniB all x f) ++ (if uniB all x f = true then [x] else [])) := hst
      have hto := together_ (.slice a1 x.length p1) (.slice af f.length cf) x f wr (i1.below hB) (HF.out.below hB) (by omega) hfl
      clear hxe i1 hst hc c
      go_wp2_with fail
      refine hto.mono ?_
      clear hto
      rintro e w2 ⟨v2, out, rfl, hi2, hr2, hm2, hB2⟩
      have HB2 : Hid (Below w.heap.size w w2) := hB.trans (hB2.mono hB.size)
      have hio := index_of _ v2 all out w2 (HA.out.below HB2.out) hi2 hl (fun x hx => by have := HX.out x hx; omega)
      have HU : Hid (uniB all x f = true ↔ out ∈ all) := uniB_told HRI.out hr2 hm2
      have hown2 := hown.kept (Below.grownBy hB2) (by cases Value.ownBlock _ <;> simp)
      clear hi2 hr2 hm2 hown
      go_wp2_with fail
      refine hio.mono ?_
      clear hio
      rintro e w3 ⟨i, rfl, hii, -, q, hw3⟩
      have hB3 : Below w.heap.size w w3 := by rw [hw3]; exact HB2.out.trans ⟨rfl, rfl, rfl, Nat.le_refl _, fun _ _ => rfl⟩
      have hown3 : w3.ownsRow w.heap.size 23 1 u5 us.length us := by rw [hw3]; exact hown2
      have g3 : w3.cell? ⟨b, o + k, none⟩ = some (.slice a1 x.length p1) := (hB3.cell (p := ⟨b, o + k, none⟩) hb).trans g1
      have hbs := hB3.size
      clear hw3 hown2 hB2 g2 g1
      by_cases hq : 0 ≤ i
      · have HQ : Hid (uniB all x f = true) := HU.out.2 (hii.1 hq)
        clear hii
        go_wp2_with (first
          | (at_builtin; refine wpList_append_slice rfl (.tmp 22) (.tmp 27) 22 rfl w.heap.size 23 i0 (.slice none 0 0) 24 Tryz.underlying22 hi hz0 hz1 hz2 rfl _ _ _ rfl (hown3.alloc _) _ [.slice a1 x.length p1] rfl (slice_one _ _ _) (by simp [Value.oneCell']) (by simp; omega) (by unfold maxLen; simp; omega) (by simp; omega) ?_; intro v4 w4 hown4 hg4 hl4)
          | go_in)
        (try go_frame)
        go_roundw
        case rel => exact ⟨k + 1, us ++ [.slice a1 x.length p1], by omega, by go_num, by simpa using hown4, by rw [HST.out, if_pos HQ.out]; exact HH.out.snoc HI1.out, (hB3.alloc hbs _).grown hg4 (by simp; omega) (fun j hj => (hown3.lt j hj).1)⟩
        case measure => simp [intOf]; omega
      · have HQ : Hid (¬ uniB all x f = true) := fun h => hq (hii.2 (HU.out.1 h))
        clear hii
        go_wp2
        go_roundw
        case rel => exact ⟨k + 1, us, by omega, by go_num, hown3, by rw [HST.out, if_neg HQ.out, List.append_nil]; exact HH.out, hB3⟩
        case measure => simp [intOf]; omega
    · obtain rfl : k = all.length := by omega
      clear hc
      go_wp2
      go_ret
      have hh := HH.out
      rw [List.take_length] at hh
      exact ⟨_, rfl, hh.rows hB hown, hB⟩

theorem link_no0 {all : List (List Int)} {f x : List Int} (h : minusI x f = []) : linkB all f x = false := by
  unfold linkB
  by_cases e : x = []
  · subst e; simp
  · rw [decide_eq_false (p := minusI x f = x) (fun h' => e (by rw [← h', h]))]; simp
theorem link_no1 {all : List (List Int)} {f x : List Int} (h : (minusI x f).length < x.length) : linkB all f x = false := by
  unfold linkB
  rw [decide_eq_false (p := minusI x f = x) (fun h' => by rw [h'] at h; omega)]; simp
theorem link_yes {all : List (List Int)} {f x : List Int} (h0 : minusI x f ≠ []) (h : ¬ (minusI x f).length < x.length) : minusI x f = x ∧ linkB all f x = uniB all x f := by
  have h1 : minusI x f = x := List.Sublist.eq_of_length List.filter_sublist (by have := minusI_length x f; omega)
  refine ⟨h1, ?_⟩
  unfold linkB
  rw [decide_eq_true h1, decide_eq_true (show x ≠ [] by rw [← h1]; exact h0)]; simp

set_option maxRecDepth 100000 in
set_option maxHeartbeats 2000000 in
theorem link_of (va vf : Value) (all : List (List Int)) (f : List Int) (w : World) (ha : Rows w va all) (hf : Ints w vf f) (hl : all.length ≤ 1000) (hx : ∀ x ∈ all, x.length ≤ 7) (hr : ∀ x ∈ all, Rising x) (hfl : f.length ≤ 400) :
    Calls Tryz.prog 26 #[va, vf] w fun e w' => ∃ v, e = .returned v ∧ Rows w' v (linkI all f) ∧ Below w.heap.size w w' := by
  obtain ⟨i0, hi, hz0, hz1, hz2⟩ := info_parts Tryz.info23
  have HA : Hid (Rows w va all) := ha
  have HF : Hid (Ints w vf f) := hf
  have HX : Hid (∀ x ∈ all, x.length ≤ 7) := hx
  have HRI : Hid (∀ x ∈ all, Rising x) := hr
  obtain ⟨a, ca, rfl, -, hc⟩ := ha.open_
  obtain ⟨af, cf, rfl, -, -⟩ := hf.open_
  clear hx ha hf hr
  go_enter Tryz.func26, Tryz.ntmps26
  go_wp2
  go_loopw [5, 6] (fun v p wr => ∃ k : Nat, k ≤ all.length ∧ p = .int .i64 k ∧ OwnRows w.heap.size wr v ((all.take k).filter (linkB all f)) ∧ Below w.heap.size w wr)
    (fun _ p _ => all.length - (intOf p).toNat)
  case atStart => exact ⟨0, by omega, rfl, by simp; exact OwnRows.nil _ _, Below.refl _ _⟩
  case round =>
    obtain ⟨k, hk, rfl, hown, hB⟩ := hrel
    have hfl6 : ((all.take k).filter (linkB all f)).length ≤ 1000 := by have := fil_length (p := linkB all f) hk; omega
    obtain ⟨rs, hrs⟩ : ∃ rs, (all.take k).filter (linkB all f) = rs := ⟨_, rfl⟩
    rw [hrs] at hown hfl6
    have HRS : Hid ((all.take k).filter (linkB all f) = rs) := hrs
    have HOW : Hid (OwnRows w.heap.size wr u5 rs) := hown
    clear hrs hown
    by_cases hlt : k < all.length
    · obtain ⟨b, o, rfl, -, hb, c⟩ := hc (by omega)
      obtain ⟨a1, p1, g1, i1⟩ := c k hlt
      have hlen : (all[k]?.getD []).length ≤ 7 := HX.out _ (by rw [List.getElem?_eq_getElem hlt]; simp)
      have hst := fil_succ (p := linkB all f) hlt
      obtain ⟨x, hxe⟩ : ∃ x, all[k]?.getD [] = x := ⟨_, rfl⟩
      rw [hxe] at g1 i1 hlen hst
      rw [HRS.out] at hst
      have g2 : wr.cell? ⟨b, o + k, none⟩ = some (.slice a1 x.length p1) := (hB.cell (p := ⟨b, o + k, none⟩) hb).trans g1
      have HST : Hid ((all.take (k + 1)).filter (linkB all f) = rs ++ (if linkB all f x = true then [x] else [])) := hst
      have hmi := minus_ (.slice a1 x.length p1) (.slice af f.length cf) x f wr (i1.below hB) (HF.out.below hB) (by omega) hfl
      clear hxe i1 hst hc c
      go_wp2_with fail
      refine hmi.mono ?_
      clear hmi
      rintro e w2 ⟨v2, rfl, hi2, hB2⟩
      have HB2 : Hid (Below w.heap.size w w2) := hB.trans (hB2.mono hB.size)
      have HI2 : Hid (IntsIn (fun b => wr.heap.size ≤ b) w2 v2 (minusI x f)) := hi2
      have HO2 : Hid (OwnRows w.heap.size w2 u5 rs) := HOW.out.below hB2
      have g3 : w2.cell? ⟨b, o + k, none⟩ = some (.slice a1 x.length p1) := (HB2.out.cell (p := ⟨b, o + k, none⟩) hb).trans g1
      obtain ⟨a2, p2, rfl, -, -⟩ := hi2.open_
      obtain ⟨M, hM⟩ : ∃ M, (minusI x f).length = M := ⟨_, rfl⟩
      have hMl : M ≤ 7 := by rw [← hM]; have := minusI_length x f; omega
      rw [hM]
      have HMM : Hid ((minusI x f).length = M) := hM
      clear hi2 hM
      by_cases h0 : M = 0
      · have HQ : Hid (¬ linkB all f x = true) := by
          have e0 : minusI x f = [] := List.length_eq_zero_iff.1 (by rw [HMM.out]; exact h0)
          show ¬ linkB all f x = true
          rw [link_no0 e0]; decide
        subst h0
        go_wp2
        go_roundw
        case rel => exact ⟨k + 1, by omega, by go_num, by rw [HST.out, if_neg HQ.out, List.append_nil]; exact HO2.out, HB2.out⟩
        case measure => simp [intOf]; omega
      · have h0b : ((M : Int) == 0) = false := beq_false_of_ne (by omega)
        by_cases h1 : M < x.length
        · have HQ : Hid (¬ linkB all f x = true) := by
            show ¬ linkB all f x = true
            rw [link_no1 (by rw [HMM.out]; exact h1)]; decide
          have h1b : decide ((M : Int) < (x.length : Int)) = true := decide_eq_true (by omega)
          go_wp2
          go_roundw
          case rel => exact ⟨k + 1, by omega, by go_num, by rw [HST.out, if_neg HQ.out, List.append_nil]; exact HO2.out, HB2.out⟩
          case measure => simp [intOf]; omega
        · have h1b : decide ((M : Int) < (x.length : Int)) = false := decide_eq_false (by omega)
          have hy := link_yes (all := all) (f := f) (x := x) (fun e => h0 (by rw [← HMM.out, e]; rfl)) (by rw [HMM.out]; exact h1)
          have hIx := HI2.out
          have hxM : x.length = M := by rw [← HMM.out, hy.1]
          rw [hy.1, hxM] at hIx
          have HLB : Hid (linkB all f x = uniB all x f) := hy.2
          have HIX : Hid (IntsIn (fun b => wr.heap.size ≤ b) w2 (.slice a2 M p2) x) := hIx
          have hto := together_ (.slice a2 M p2) (.slice af f.length cf) x f w2 hIx.any (HF.out.below HB2.out) (by omega) hfl
          clear hy hIx hxM
          go_wp2_with fail
          refine hto.mono ?_
          clear hto
          rintro e w3 ⟨v3, out, rfl, hi3, hr3, hm3, hB3⟩
          have HB3 : Hid (Below w.heap.size w w3) := HB2.out.trans (hB3.mono HB2.out.size)
          have hio := index_of _ v3 all out w3 (HA.out.below HB3.out) hi3 hl (fun x hx => by have := HX.out x hx; omega)
          have HU : Hid (uniB all x f = true ↔ out ∈ all) := uniB_told HRI.out hr3 hm3
          have HIX3 : Hid (IntsIn (fun b => wr.heap.size ≤ b) w3 (.slice a2 M p2) x) := HIX.out.below hB3
          have HO3 : Hid (OwnRows w.heap.size w3 u5 rs) := HO2.out.below hB3
          clear hi3 hr3 hm3 hB3
          go_wp2_with fail
          refine hio.mono ?_
          clear hio
          rintro e w4 ⟨i, rfl, hii, -, q, hw4⟩
          have hd : Below w3.heap.size w3 w4 := by rw [hw4]; exact ⟨rfl, rfl, rfl, Nat.le_refl _, fun _ _ => rfl⟩
          have hB4 : Below w.heap.size w w4 := HB3.out.trans (hd.mono HB3.out.size)
          have HIX4 : Hid (IntsIn (fun b => wr.heap.size ≤ b) w4 (.slice a2 M p2) x) := HIX3.out.below hd
          have HO4 : Hid (OwnRows w.heap.size w4 u5 rs) := HO3.out.below hd
          have hbs := hB4.size
          clear hw4 hd
          by_cases hq : 0 ≤ i
          · have HQ : Hid (linkB all f x = true) := by
              show linkB all f x = true
              rw [HLB.out]; exact HU.out.2 (hii.1 hq)
            obtain ⟨vs, ho1, ho2⟩ := HO4.out
            have HP2 : Hid (∀ (k' : Nat) (u : Value) (x : List Int), vs[k']? = some u → rs[k']? = some x → IntsIn (fun b => w.heap.size ≤ b ∧ some b ≠ Value.ownBlock u5) w4 u x) := ho2
            have hu : IntsIn (fun b => w.heap.size ≤ b ∧ some b ≠ Value.ownBlock u5) w4 (.slice a2 M p2) x := SliceIn.mono HIX4.out (fun b _ hge => ⟨Nat.le_trans hB.size hge, fun e => by
              have := (HOW.out.block e.symm).2
              omega⟩)
            have HUU : Hid (IntsIn (fun b => w.heap.size ≤ b ∧ some b ≠ Value.ownBlock u5) w4 (.slice a2 M p2) x) := hu
            clear hii ho2 hu
            go_wp2_with (first
              | (at_builtin; refine wpList_append_slice rfl (.tmp 39) (.tmp 41) 22 rfl w.heap.size 23 i0 (.slice none 0 0) 24 Tryz.underlying22 hi hz0 hz1 hz2 rfl _ _ _ rfl (ho1.alloc _) _ [.slice a2 M p2] rfl (slice_one _ _ _) (by simp [Value.oneCell']) (by simp; omega) (by unfold maxLen; simp; omega) (by simp; omega) ?_; intro v5 w5 hown5 hg5 hl5)
              | go_in)
            (try go_frame)
            go_roundw
            case rel => exact ⟨k + 1, by omega, by go_num, by rw [HST.out, if_pos HQ.out]; exact OwnRows.push ho1 HP2.out HUU.out hown5 hg5 hl5, (hB4.alloc hbs _).grown hg5 (by simp; omega) (fun j hj => (ho1.lt j hj).1)⟩
            case measure => simp [intOf]; omega
          · have HQ : Hid (¬ linkB all f x = true) := by
              show ¬ linkB all f x = true
              rw [HLB.out]; exact fun h => hq (hii.2 (HU.out.1 h))
            clear hii
            go_wp2
            go_roundw
            case rel => exact ⟨k + 1, by omega, by go_num, by rw [HST.out, if_neg HQ.out, List.append_nil]; exact HO4.out, hB4⟩
            case measure => simp [intOf]; omega
    · obtain rfl : k = all.length := by omega
      have HL : Hid (linkI all f = rs) := by
        have := HRS.out
        rwa [List.take_length] at this
      clear hc
      go_wp2
      go_ret
      exact ⟨_, rfl, by rw [HL.out]; exact HOW.out.rows, hB⟩

/-- An error's number is handed on. -/
theorem made_err (vl : Value) (n : Int) (w : World) (hn : 0 < n) : Calls Tryz.prog 22 #[vl, .int .i64 n] w fun e w' => e = .returned (.tuple #[.slice none 0 0, .int .i64 n]) ∧ w' = w := by
  go_enter Tryz.func22, Tryz.ntmps22
  go_wp2
  go_ret2
  exact ⟨rfl, rfl⟩

set_option maxRecDepth 100000 in
theorem made_sub (CL : ClosedHolds) {c all : List (List Int)} (g : Good c all) (vl : Value) (l : List (List Int)) (w : World) (hl : Rows w vl l) (hs : ∀ x ∈ l, x ∈ all) (hll : l.length ≤ 100000) :
    Calls Tryz.prog 22 #[vl, .int .i64 0] w fun e w' => ∃ v L, e = .returned (.tuple #[v, .int .i64 0]) ∧ Rows w' v L ∧ IsFacets l L ∧ (L.length ≤ 1000000 ∧ ∀ x ∈ L, x.length ≤ 1000000) ∧ Below w.heap.size w w' := by
  have hma := made_ CL vl l w hl hll (fun x hx => by have := g.short x (hs x hx); omega)
  have HG : Hid (Good c all ∧ ∀ x ∈ l, x ∈ all) := ⟨g, hs⟩
  clear g hs hl CL
  go_enter Tryz.func22, Tryz.ntmps22
  go_wp2_with fail
  refine hma.mono ?_
  clear hma
  have hrl : ∀ x ∈ l, Rising x := fun x hx => HG.out.1.rising x (HG.out.2 x hx)
  rintro e w2 ⟨hB, ⟨hno, rfl⟩ | ⟨hok, hov, rfl⟩ | ⟨hok, hov, v, all', rfl, hr, hal, h6⟩⟩
  · exact absurd (fun x hx => (face_ok_of HG.out.1 (HG.out.2 x hx)).1) hno
  · rw [map_srt hrl] at hov
    exact absurd hov (HG.out.1.notOver HG.out.2)
  · have HR : Hid (Rows w2 v (facetsI all')) := hr
    have HAL : Hid (IsAll (l.map srt) all') := hal
    have HSH : Hid (∀ x ∈ all', x.length ≤ 7) := all_short hal hov
    clear hok hov hr hal
    go_wp2
    go_ret2
    refine ⟨_, _, rfl, HR.out, ?_, ⟨?_, fun x hx => ?_⟩, hB⟩
    · have hal := HAL.out
      rw [map_srt hrl] at hal
      exact facets_made hrl hal
    · have : (facetsI all').length ≤ all'.length := List.length_filter_le _ _
      omega
    · have := HSH.out x (List.mem_filter.1 hx).1
      omega

end Go.Proofs.YtmbolgalgidleaaGreatDoor
