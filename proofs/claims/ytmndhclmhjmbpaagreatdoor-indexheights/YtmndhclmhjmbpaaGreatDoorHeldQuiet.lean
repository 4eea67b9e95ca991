/- What the reference's LinkOf answers. What the reference's TopOf answers. What the reference's EulerOf answers. A region that draws its order, whose operations read and whose callees lay memory of their own: walked once, in the order of the text, in the class of the worlds that keep what was there. -/
import Derived.Test.YtmndhclmhjmbpaaGreatDoorIndexOf
import Derived.Test.YtmndhclmhjmbpaaGreatDoorMathV
import Derived.Test.YtmndhclmhjmbpaaGreatDoorRefC
import Derived.Test.YtmndhclmhjmbpaaGreatDoorBase
import Derived.BigQuiet
import Derived.Deep.QuietTactic
namespace Go.Proofs.YtmndhclmhjmbpaaGreatDoor
open Go.RowKit Go.Sort

theorem fil_succ {p : List Int → Bool} {l : List (List Int)} {k : Nat} (hk : k < l.length) : (l.take (k + 1)).filter p = (l.take k).filter p ++ (if p (l[k]?.getD []) = true then [l[k]?.getD []] else []) := by
  rw [List.take_add_one, List.getElem?_eq_getElem hk, List.filter_append, Option.getD_some]
  congr 1
  by_cases h : p l[k] = true <;> simp [h]
theorem fil_length {p : List Int → Bool} {l : List (List Int)} {k : Nat} (hk : k ≤ l.length) : ((l.take k).filter p).length ≤ l.length := by
  have := List.length_filter_le p (l.take k)
  simp at this
  omega

theorem link_no0 {all : List (List Int)} {f x : List Int} (h : minusI x f = []) : linkB all f x = false := by
  unfold linkB
  by_cases e : x = []
  · subst e; simp
  · rw [decide_eq_false (p := minusI x f = x) (fun h' => e (by rw [← h', h]))]; simp
theorem link_no1 {all : List (List Int)} {f x : List Int} (h : (minusI x f).length < x.length) : linkB all f x = false := by
  unfold linkB
  rw [decide_eq_false (p := minusI x f = x) (fun h' => by rw [h'] at h; omega)]; simp
theorem link_yes {all : List (List Int)} {f x : List Int} (h0 : minusI x f ≠ []) (h : ¬ (minusI x f).length < x.length) : minusI x f = x ∧ linkB all f x = uniB all x f := by
  have h1 : minusI x f = x := List.Sublist.eq_of_length List.filter_sublist (by have := minusI_length x f; omega)
  refine ⟨h1, ?_⟩
  unfold linkB
  rw [decide_eq_true h1, decide_eq_true (show x ≠ [] by rw [← h1]; exact h0)]; simp

set_option maxRecDepth 100000 in
set_option maxHeartbeats 2000000 in
theorem link_of (va vf : Value) (all : List (List Int)) (f : List Int) (w : World) (ha : Rows w va all) (hf : Ints w vf f) (hl : all.length ≤ 1000) (hx : ∀ x ∈ all, x.length ≤ 7) (hr : ∀ x ∈ all, Rising x) (hfl : f.length ≤ 400) :
    Calls Tryz.prog 33 #[va, vf] w fun e w' => ∃ v, e = .returned v ∧ Rows w' v (linkI all f) ∧ Below w.heap.size w w' := by
  obtain ⟨i0, hi, hz0, hz1, hz2⟩ := info_parts Tryz.info23
  have HA : Hid (Rows w va all) := ha
  have HF : Hid (Ints w vf f) := hf
  have HX : Hid (∀ x ∈ all, x.length ≤ 7) := hx
  have HRI : Hid (∀ x ∈ all, Rising x) := hr
  obtain ⟨a, ca, rfl, -, hc⟩ := ha.open_
  obtain ⟨af, cf, rfl, -, -⟩ := hf.open_
  clear hx ha hf hr
  go_enter Tryz.func33, Tryz.ntmps33
  go_wp2
  go_loopw [5, 6] (fun v p wr => ∃ k : Nat, k ≤ all.length ∧ p = .int .i64 k ∧ OwnRows w.heap.size wr v ((all.take k).filter (linkB all f)) ∧ Below w.heap.size w wr)
    (fun _ p _ => all.length - (intOf p).toNat)
  case atStart => exact ⟨0, by omega, rfl, by simp; exact OwnRows.nil _ _, Below.refl _ _⟩
  case round =>
    obtain ⟨k, hk, rfl, hown, hB⟩ := hrel
    have hfl6 : ((all.take k).filter (linkB all f)).length ≤ 1000 := by have := fil_length (p := linkB all f) hk; omega
    obtain ⟨rs, hrs⟩ : ∃ rs, (all.take k).filter (linkB all f) = rs := ⟨_, rfl⟩
    rw [hrs] at hown hfl6
    have HRS : Hid ((all.take k).filter (linkB all f) = rs) := hrs
    have HOW : Hid (OwnRows w.heap.size wr u5 rs) := hown
    clear hrs hown
    by_cases hlt : k < all.length
    · obtain ⟨b, o, rfl, -, hb, c⟩ := hc (by omega)
      obtain ⟨a1, p1, g1, i1⟩ := c k hlt
      have hlen : (all[k]?.getD []).length ≤ 7 := HX.out _ (by rw [List.getElem?_eq_getElem hlt]; simp)
      have hst := fil_succ (p := linkB all f) hlt
      obtain ⟨x, hxe⟩ : ∃ x, all[k]?.getD [] = x := ⟨_, rfl⟩
      rw [hxe] at g1 i1 hlen hst
      rw [HRS.out] at hst
      have g2 : wr.cell? ⟨b, o + k, none⟩ = some (.slice a1 x.length p1) := (hB.cell (p := ⟨b, o + k, none⟩) hb).trans g1
      have HST : Hid ((all.take (k + 1)).filter (linkB all f) = rs ++ (if linkB all f x = true then [x] else [])) := hst
      have hmi := minus_ (.slice a1 x.length p1) (.slice af f.length cf) x f wr (i1.below hB) (HF.out.below hB) (by omega) hfl
      clear hxe i1 hst hc c
      go_wp2_with fail
      refine hmi.mono ?_
      clear hmi
      rintro e w2 ⟨v2, rfl, hi2, hB2⟩
      have HB2 : Hid (Below w.heap.size w w2) := hB.trans (hB2.mono hB.size)
      have HI2 : Hid (IntsIn (fun b => wr.heap.size ≤ b) w2 v2 (minusI x f)) := hi2
      have HO2 : Hid (OwnRows w.heap.size w2 u5 rs) := HOW.out.below hB2
      have g3 : w2.cell? ⟨b, o + k, none⟩ = some (.slice a1 x.length p1) := (HB2.out.cell (p := ⟨b, o + k, none⟩) hb).trans g1
      obtain ⟨a2, p2, rfl, -, -⟩ := hi2.open_
      obtain ⟨M, hM⟩ : ∃ M, (minusI x f).length = M := ⟨_, rfl⟩
      have hMl : M ≤ 7 := by rw [← hM]; have := minusI_length x f; omega
      rw [hM]
      have HMM : Hid ((minusI x f).length = M) := hM
      clear hi2 hM
      by_cases h0 : M = 0
      · have HQ : Hid (¬ linkB all f x = true) := by
          have e0 : minusI x f = [] := List.length_eq_zero_iff.1 (by rw [HMM.out]; exact h0)
          show ¬ linkB all f x = true
          rw [link_no0 e0]; decide
        subst h0
        go_wp2
        go_roundw
        case rel => exact ⟨k + 1, by omega, by go_num, by rw [HST.out, if_neg HQ.out, List.append_nil]; exact HO2.out, HB2.out⟩
        case measure => simp [intOf]; omega
      · have h0b : ((M : Int) == 0) = false := beq_false_of_ne (by omega)
        by_cases h1 : M < x.length
        · have HQ : Hid (¬ linkB all f x = true) := by
            show ¬ linkB all f x = true
            rw [link_no1 (by rw [HMM.out]; exact h1)]; decide
          have h1b : decide ((M : Int) < (x.length : Int)) = true := decide_eq_true (by omega)
          go_wp2
          go_roundw
          case rel => exact ⟨k + 1, by omega, by go_num, by rw [HST.out, if_neg HQ.out, List.append_nil]; exact HO2.out, HB2.out⟩
          case measure => simp [intOf]; omega
        · have h1b : decide ((M : Int) < (x.length : Int)) = false := decide_eq_false (by omega)
          have hy := link_yes (all := all) (f := f) (x := x) (fun e => h0 (by rw [← HMM.out, e]; rfl)) (by rw [HMM.out]; exact h1)
          have hIx := HI2.out
          have hxM : x.length = M := by rw [← HMM.out, hy.1]
          rw [hy.1, hxM] at hIx
          have HLB : Hid (linkB all f x = uniB all x f) := hy.2
          have HIX : Hid (IntsIn (fun b => wr.heap.size ≤ b) w2 (.slice a2 M p2) x) := hIx
          have hto := together_ (.slice a2 M p2) (.slice af f.length cf) x f w2 hIx.any (HF.out.below HB2.out) (by omega) hfl
          clear hy hIx hxM
          go_wp2_with fail
          refine hto.mono ?_
          clear hto
          rintro e w3 ⟨v3, out, rfl, hi3, hr3, hm3, hB3⟩
          have HB3 : Hid (Below w.heap.size w w3) := HB2.out.trans (hB3.mono HB2.out.size)
          have hio := index_of _ v3 all out w3 (HA.out.below HB3.out) hi3 hl (fun x hx => by have := HX.out x hx; omega)
          have HU : Hid (uniB all x f = true ↔ out ∈ all) := uniB_told HRI.out hr3 hm3
          have HIX3 : Hid (IntsIn (fun b => wr.heap.size ≤ b) w3 (.slice a2 M p2) x) := HIX.out.below hB3
          have HO3 : Hid (OwnRows w.heap.size w3 u5 rs) := HO2.out.below hB3
          clear hi3 hr3 hm3 hB3
          go_wp2_with fail
          refine hio.mono ?_
          clear hio
          rintro e w4 ⟨i, rfl, hii, -, q, hw4⟩
          have hd : Below w3.heap.size w3 w4 := by rw [hw4]; exact ⟨rfl, rfl, rfl, Nat.le_refl _, fun _ _ => rfl⟩
          have hB4 : Below w.heap.size w w4 := HB3.out.trans (hd.mono HB3.out.size)
          have HIX4 : Hid (IntsIn (fun b => wr.heap.size ≤ b) w4 (.slice a2 M p2) x) := HIX3.out.below hd
          have HO4 : Hid (OwnRows w.heap.size w4 u5 rs) := HO3.out.below hd
          have hbs := hB4.size
          clear hw4 hd
          by_cases hq : 0 ≤ i
          · have HQ : Hid (linkB all f x = true) := by
              show linkB all f x = true
              rw [HLB.out]; exact HU.out.2 (hii.1 hq)
            obtain ⟨vs, ho1, ho2⟩ := HO4.out
            have HP2 : Hid (∀ (k' : Nat) (u : Value) (x : List Int), vs[k']? = some u → rs[k']? = some x → IntsIn (fun b => w.heap.size ≤ b ∧ some b ≠ Value.ownBlock u5) w4 u x) := ho2
            have hu : IntsIn (fun b => w.heap.size ≤ b ∧ some b ≠ Value.ownBlock u5) w4 (.slice a2 M p2) x := SliceIn.mono HIX4.out (fun b _ hge => ⟨Nat.le_trans hB.size hge, fun e => by
              have := (HOW.out.block e.symm).2
              omega⟩)
            have HUU : Hid (IntsIn (fun b => w.heap.size ≤ b ∧ some b ≠ Value.ownBlock u5) w4 (.slice a2 M p2) x) := hu
            clear hii ho2 hu
            go_wp2_with (first
              | (at_builtin; refine wpList_append_slice rfl (.tmp 39) (.tmp 41) 22 rfl w.heap.size 23 i0 (.slice none 0 0) 24 Tryz.underlying22 hi hz0 hz1 hz2 rfl _ _ _ rfl (ho1.alloc _) _ [.slice a2 M p2] rfl (slice_one _ _ _) (by simp [Value.oneCell']) (by simp; omega) (by unfold maxLen; simp; omega) (by simp; omega) ?_; intro v5 w5 hown5 hg5 hl5)
              | go_in)
            (try go_frame)
            go_roundw
            case rel => exact ⟨k + 1, by omega, by go_num, by rw [HST.out, if_pos HQ.out]; exact OwnRows.push ho1 HP2.out HUU.out hown5 hg5 hl5, (hB4.alloc hbs _).grown hg5 (by simp; omega) (fun j hj => (ho1.lt j hj).1)⟩
            case measure => simp [intOf]; omega
          · have HQ : Hid (¬ linkB all f x = true) := by
              show ¬ linkB all f x = true
              rw [HLB.out]; exact fun h => hq (hii.2 (HU.out.1 h))
            clear hii
            go_wp2
            go_roundw
            case rel => exact ⟨k + 1, by omega, by go_num, by rw [HST.out, if_neg HQ.out, List.append_nil]; exact HO4.out, hB4⟩
            case measure => simp [intOf]; omega
    · obtain rfl : k = all.length := by omega
      have HL : Hid (linkI all f = rs) := by
        have := HRS.out
        rwa [List.take_length] at this
      clear hc
      go_wp2
      go_ret
      exact ⟨_, rfl, by rw [HL.out]; exact HOW.out.rows, hB⟩

end Go.Proofs.YtmndhclmhjmbpaaGreatDoor

namespace Go.Proofs.YtmndhclmhjmbpaaGreatDoor
open Go.RowKit Go.Sort

theorem top_take {all : List (List Int)} {k : Nat} (hk : k < all.length) : topN (all.take (k + 1)) = max (topN (all.take k)) (all[k]?.getD []).length := by
  rw [List.take_add_one, List.getElem?_eq_getElem hk, Option.getD_some]
  exact topN_snoc _ _
set_option maxRecDepth 100000 in
theorem top_of (va : Value) (all : List (List Int)) (w : World) (ha : Rows w va all) (hl : all.length ≤ 1000) (hx : ∀ x ∈ all, x.length ≤ 1000) :
    Calls Tryz.prog 71 #[va] w fun e w' => e = .returned (.int .i64 ((topN all : Int) - 1)) ∧ w' = w := by
  obtain ⟨a, ca, rfl, -, hc⟩ := ha.open_
  have HX : Hid (∀ x ∈ all, x.length ≤ 1000) := hx
  have HT : Hid (∀ k, topN (all.take k) ≤ 1000) := fun k => topN_upto (fun x h => hx x (List.mem_of_mem_take h))
  clear hx ha
  go_enter Tryz.func71, Tryz.ntmps71
  go_wp2
  go_loopw [3, 4] (fun v p wr => ∃ k t : Nat, k ≤ all.length ∧ p = .int .i64 k ∧ v = .int .i64 ((t : Int) - 1) ∧ t = topN (all.take k) ∧ wr = w)
    (fun _ p _ => all.length - (intOf p).toNat)
  case atStart => exact ⟨0, 0, by omega, rfl, rfl, rfl, rfl⟩
  case round =>
    obtain ⟨k, t, hk, rfl, rfl, ht, rfl⟩ := hrel
    have ht1 : t ≤ 1000 := by rw [ht]; exact HT.out k
    have HTK : Hid (t = topN (all.take k)) := ht
    clear ht
    by_cases hlt : k < all.length
    · obtain ⟨b, o, rfl, -, hb, c⟩ := hc (by omega)
      obtain ⟨a1, p1, g1, i1⟩ := c k hlt
      have hlen : (all[k]?.getD []).length ≤ 1000 := HX.out _ (by rw [List.getElem?_eq_getElem hlt]; simp)
      obtain ⟨x, hxe⟩ : ∃ x, all[k]?.getD [] = x := ⟨_, rfl⟩
      rw [hxe] at g1 i1 hlen
      have HS : Hid (topN (all.take (k + 1)) = max t x.length) := by
        show topN (all.take (k + 1)) = max t x.length
        rw [top_take hlt, hxe, HTK.out]
      clear hxe i1 hc c
      by_cases hd : t < x.length
      · have hdb : decide ((t : Int) - 1 < (x.length : Int) - 1) = true := decide_eq_true (by omega)
        go_wp2
        go_roundw
        case rel => exact ⟨k + 1, x.length, by omega, by go_num, rfl, by rw [HS.out]; omega, (by first | trivial | rfl)⟩
        case measure => simp [intOf]; omega
      · have hdb : decide ((t : Int) - 1 < (x.length : Int) - 1) = false := decide_eq_false (by omega)
        go_wp2
        go_roundw
        case rel => exact ⟨k + 1, t, by omega, by go_num, rfl, by rw [HS.out]; omega, (by first | trivial | rfl)⟩
        case measure => simp [intOf]; omega
    · obtain rfl : k = all.length := by omega
      clear hc
      go_wp2
      go_ret
      have e := HTK.out
      rw [List.take_length] at e
      exact ⟨by rw [← e]; rfl, rfl⟩

end Go.Proofs.YtmndhclmhjmbpaaGreatDoor

namespace Go.Proofs.YtmndhclmhjmbpaaGreatDoor
open Go.RowKit Go.Sort

theorem euler_take {all : List (List Int)} {k : Nat} (hk : k < all.length) : eulerOf (all.take (k + 1)) = eulerOf (all.take k) + (if (all[k]?.getD []).length % 2 = 1 then 1 else -1) := by
  rw [List.take_add_one, List.getElem?_eq_getElem hk, Option.getD_some]
  exact eulerOf_snoc _ _

set_option maxRecDepth 100000 in
theorem euler_of (va : Value) (all : List (List Int)) (w : World) (ha : Rows w va all) (hl : all.length ≤ 1000) (hx : ∀ x ∈ all, x.length ≤ 1000) :
    Calls Tryz.prog 35 #[va] w fun e w' => e = .returned (.int .i64 (eulerOf all)) ∧ w' = w := by
  obtain ⟨a, ca, rfl, -, hc⟩ := ha.open_
  have HX : Hid (∀ x ∈ all, x.length ≤ 1000) := hx
  clear hx ha
  go_enter Tryz.func35, Tryz.ntmps35
  go_wp2
  go_loopw [3, 4] (fun v p wr => ∃ (k : Nat) (t : Int), k ≤ all.length ∧ p = .int .i64 k ∧ v = .int .i64 t ∧ t = eulerOf (all.take k) ∧ wr = w)
    (fun _ p _ => all.length - (intOf p).toNat)
  case atStart => exact ⟨0, 0, by omega, rfl, rfl, rfl, rfl⟩
  case round =>
    obtain ⟨k, t, hk, rfl, rfl, ht, rfl⟩ := hrel
    have ht1 : -1000 ≤ t ∧ t ≤ 1000 := by rw [ht]; have := eulerOf_small (all.take k); simp at this; omega
    obtain ⟨ht1, ht2⟩ := ht1
    have HTK : Hid (t = eulerOf (all.take k)) := ht
    clear ht
    by_cases hlt : k < all.length
    · obtain ⟨b, o, rfl, -, hb, c⟩ := hc (by omega)
      obtain ⟨a1, p1, g1, i1⟩ := c k hlt
      have hlen : (all[k]?.getD []).length ≤ 1000 := HX.out _ (by rw [List.getElem?_eq_getElem hlt]; simp)
      obtain ⟨x, hxe⟩ : ∃ x, all[k]?.getD [] = x := ⟨_, rfl⟩
      rw [hxe] at g1 i1 hlen
      have HS : Hid (eulerOf (all.take (k + 1)) = t + (if x.length % 2 = 1 then 1 else -1)) := by
        show eulerOf (all.take (k + 1)) = t + _
        rw [euler_take hlt, hxe, HTK.out]
      clear hxe i1 hc c
      by_cases hd : x.length % 2 = 1
      · have hdb : ((x.length : Int) % 2 == 1) = true := beq_iff_eq.2 (by omega)
        have HD : Hid (x.length % 2 = 1) := hd
        clear hd
        go_wp2
        go_roundw
        case rel => exact ⟨k + 1, t + 1, by omega, by go_num, rfl, by rw [HS.out, if_pos HD.out], (by first | trivial | rfl)⟩
        case measure => simp [intOf]; omega
      · have hdb : ((x.length : Int) % 2 == 1) = false := beq_false_of_ne (by omega)
        have HD : Hid (¬ x.length % 2 = 1) := hd
        clear hd
        go_wp2
        go_roundw
        case rel => exact ⟨k + 1, t - 1, by omega, by go_num, rfl, by rw [HS.out, if_neg HD.out]; rfl, (by first | trivial | rfl)⟩
        case measure => simp [intOf]; omega
    · obtain rfl : k = all.length := by omega
      clear hc
      go_wp2
      go_ret
      have e := HTK.out
      rw [List.take_length] at e
      exact ⟨by rw [← e]; rfl, rfl⟩

end Go.Proofs.YtmndhclmhjmbpaaGreatDoor

namespace Go.Proofs.YtmndhclmhjmbpaaGreatDoor
open Go.RowKit

/-- A world that keeps what was there. -/
structure WIn (W : World) where
  w : World
  ok : Below W.heap.size W w

instance (W : World) : Nonempty (WIn W) := ⟨⟨W, Below.refl _ W⟩⟩

theorem region_in {P : Program} {id : Nat} {Q : Exit → Act → World → Prop} {a : Act} {w : World} {l : List Oper} (hm : P.follows .mixedOrders = true) (hB : Region.lexB .any l.toArray = true)
    (h : wpQuiet P l.toArray (fun w' => ∃ n : WIn w, w' = n.w) (fun a' => ∀ w', (∃ n : WIn w, w' = n.w) → Q .normal a' w') l a) : (Code.region id l.toArray true).wp P Q a w :=
  wp_region_quiet (C := fun w' => ∃ n : WIn w, w' = n.w) hm hB ⟨⟨w.drew, (Below.refl _ w).drew⟩, rfl⟩ (by simpa using h)

/-- A callee's contract as such a region asks for it. -/
theorem call_in {P : Program} {f : FuncId} {args : Array Value} {W : World} {v : Value} (n : WIn W) (h : Calls P f args n.w fun e w' => e = .returned v ∧ Below n.w.heap.size n.w w') : Calls P f args n.w fun e w'' => e = .returned v ∧ ∃ k : WIn W, w'' = k.w :=
  h.mono fun _ V k => ⟨k.1, ⟨V, n.ok.trans (k.2.mono n.ok.size)⟩, rfl⟩

end Go.Proofs.YtmndhclmhjmbpaaGreatDoor
