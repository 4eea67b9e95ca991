/- What sign answers. What Euler answers of a complex. What slices.IsSorted answers of numbers: whether they rise; nothing is written. What faceText answers: a face as it is told, or none. -/
import Derived.Test.YtkmecdgnoemimaaDoorCode
import Derived.Test.YtkmecdgnoemimaaDoorMathV
import Derived.WalkKit
import Derived.Test.YtkmecdgnoemimaaDoorKind0
import Derived.Test.YtkmecdgnoemimaaDoorVector
import Derived.Test.YtkmecdgnoemimaaDoorRefC
import Derived.Test.YtkmecdgnoemimaaDoorShelf
namespace Go.Proofs.YtkmecdgnoemimaaDoor
open Go.RowKit

theorem sign_ (d : Nat) (w : World) (hd : d ≤ 1000) : Calls Tryd.prog 37 #[.int .i64 d] w fun e w' => e = .returned (.int .i64 (sg d)) ∧ w' = w := by
  have hs : sg d = 1 - 2 * ((d : Int) % 2) := by unfold sg; omega
  rw [hs]
  go_enter Tryd.func37, Tryd.ntmps37
  go_wp2
  go_ret
  exact ⟨by rfl, by rfl⟩

end Go.Proofs.YtkmecdgnoemimaaDoor

namespace Go.Proofs.YtkmecdgnoemimaaDoor
open Go.RowKit Go.Sort Go.Maps Go.Deep

/-- What Euler answers. -/
def EulerG (a : Nat → Addr) (l : List (List Int)) (w : World) (e : Ending) (w' : World) : Prop :=
  Below w.heap.size w w' ∧ ((∃ i, BadAt l i ∧ e = .returned (.tuple #[.int .i64 0, .iface 165 (.pointer (some (a i)))])) ∨
    ∃ all, Good l all ∧ e = .returned (.tuple #[.int .i64 (eulerOf all), .nilIface]))

theorem vec_entry {α : Type} (l : List (List α)) : ∀ x ∈ vecOf l, 0 ≤ x ∧ x ≤ l.length := fun x hx => by
  unfold vecOf at hx
  obtain ⟨d, _, rfl⟩ := List.mem_map.1 hx
  have := cnt_le l d
  omega

set_option maxRecDepth 100000 in
set_option maxHeartbeats 1000000 in
theorem euler_call {a : Nat → Addr} {s : Nat → ByteArray} (vl : Value) (l : List (List Int)) (w : World) (hE : Errs a s w) (hl : Rows w vl l) (hll : l.length ≤ 100000) (hle : ∀ x ∈ l, x.length ≤ 1000) :
    Calls Tryd.prog 15 #[.agg #[vl]] w fun e w' => EulerG a l w e w' := by
  obtain ⟨al, cl, rfl, -, -⟩ := hl.open_
  have hBa : Below w.heap.size w (w.alloc (.cells #[.slice al l.length cl] 27)) := (Below.refl _ w).alloc (Nat.le_refl _) _
  have hop := open_g _ l (w.alloc (.cells #[.slice al l.length cl] 27)) (hE.below hBa) (hl.below hBa) hll hle
  have hbc := (box_new w (.slice al l.length cl) 27).1
  clear hl
  go_enter Tryd.func15, Tryd.ntmps15
  go_wp2_with fail
  refine hop.mono ?_
  clear hop
  rintro e w2 ⟨hB2, ⟨i, hbad, rfl⟩ | ⟨all, b, F, G, hg, ht, rfl, hP, -⟩⟩
  · have HBD : Hid (BadAt l i) := hbad
    clear hbad
    go_wp2
    go_ret2
    exact ⟨below_out (below_after hB2 (Below.refl _ w2)), .inl ⟨i, HBD.out, rfl⟩⟩
  · have hve := vector_ b F G w2 hP (by have := ht.few; omega) ht.nodup (fun x hx => by have := ht.short x hx; omega) ht.some_
    have HG : Hid (Good l all ∧ Told F all) := ⟨hg, ht⟩
    have htop : topN F ≤ 7 := topN_upto ht.short
    have hfew := ht.few
    clear hg ht hP
    go_wp2_with fail
    refine hve.mono ?_
    clear hve
    rintro e w3 ⟨v3, rfl, h1, h4⟩
    obtain ⟨av, cv, rfl, -, hcv⟩ := h1.open_
    obtain ⟨V, hV⟩ : ∃ V, vecOf F = V := ⟨_, rfl⟩
    have hVl : V.length ≤ 7 := by rw [← hV, vecOf_length]; exact htop
    have HVE : Hid (∀ x ∈ V, 0 ≤ x ∧ x ≤ 600) := fun x hx => by rw [← hV] at hx; have := vec_entry F x hx; omega
    have HVA : Hid (altTo V V.length = eulerOf all) := by
      show altTo V V.length = eulerOf all
      rw [← hV]; exact HG.out.2.euler
    rw [hV] at hcv
    rw [hV]
    have HB3 : Hid (Below w.heap.size w w3) := below_out (below_after hB2 h4)
    clear h1 h4 htop hV
    go_wp2
    go_loopw [6, 20] (fun v p W => ∃ (k : Nat) (t : Int), k ≤ V.length ∧ p = .int .i64 k ∧ v = .int .i64 t ∧ t = altTo V k ∧ W = w3) (fun _ p _ => V.length - (intOf p).toNat)
    case atStart => exact ⟨0, 0, by omega, rfl, rfl, rfl, rfl⟩
    case round =>
      obtain ⟨k, t, hk, rfl, rfl, ht, rfl⟩ := hrel
      have hts : -4200 ≤ t ∧ t ≤ 4200 := by
        have := alt_small V 600 HVE.out k hk
        rw [← ht] at this
        have hk7 : k * 600 ≤ 4200 := by omega
        omega
      obtain ⟨ht1, ht2⟩ := hts
      have HTK : Hid (t = altTo V k) := ht
      clear ht
      by_cases hlt : k < V.length
      · obtain ⟨b2, o2, rfl, -, -, c⟩ := hcv (by omega)
        have g := c k hlt
        have hxb := HVE.out (V[k]?.getD 0) (by rw [List.getElem?_eq_getElem hlt]; simp)
        obtain ⟨x, hxe⟩ : ∃ x, V[k]?.getD 0 = x := ⟨_, rfl⟩
        rw [hxe] at g hxb
        obtain ⟨hx0, hx1⟩ := hxb
        have HS : Hid (altTo V (k + 1) = t + sg k * x) := by
          show altTo V k + sg k * (V[k]?.getD 0) = t + sg k * x
          rw [hxe, HTK.out]
        have hsg := sign_ k wr (by omega)
        have hs : sg k = 1 ∨ sg k = -1 := by unfold sg; omega
        obtain ⟨z, hz⟩ : ∃ z, sg k = z := ⟨_, rfl⟩
        rw [hz] at hsg hs
        have HZ : Hid (sg k = z) := hz
        clear c hcv hxe hz
        rcases hs with rfl | rfl
        · go_wp2_with (go_at_call 37; refine hsg.mono ?_; rintro e w5 ⟨rfl, rfl⟩)
          go_roundw
          case rel => exact ⟨k + 1, t + x, by omega, by go_num, by go_num, by rw [HS.out, HZ.out]; omega, (by first | trivial | rfl)⟩
          case measure => simp [intOf]; omega
        · go_wp2_with (go_at_call 37; refine hsg.mono ?_; rintro e w5 ⟨rfl, rfl⟩)
          go_roundw
          case rel => exact ⟨k + 1, t + -1 * x, by omega, by go_num, by go_num, by rw [HS.out, HZ.out], (by first | trivial | rfl)⟩
          case measure => simp [intOf]; omega
      · obtain rfl : k = V.length := by omega
        clear hcv
        go_wp2
        go_ret2
        have e := HTK.out.trans HVA.out
        exact ⟨HB3.out, .inr ⟨all, HG.out.1, by rw [← e]; rfl⟩⟩

end Go.Proofs.YtkmecdgnoemimaaDoor

namespace Go.Proofs.YtkmecdgnoemimaaDoor
open Go.RowKit Go.Sort

/-- Each number is no less than the one ahead of it. -/
def Steady (f : List Int) : Prop := ∀ j, j + 1 < f.length → f[j]?.getD 0 ≤ f[j + 1]?.getD 0

theorem steady_rising {f : List Int} (h : Steady f) (hn : f.Nodup) : Rising f := by
  have key : ∀ (f : List Int), Steady f → f.Pairwise (· ≤ ·) := by
    intro f
    induction f with
    | nil => intro _; exact List.Pairwise.nil
    | cons a f ih =>
      intro h
      have hf : Steady f := fun j hj => by
        have := h (j + 1) (by simp; omega)
        simpa using this
      have hp := ih hf
      refine List.pairwise_cons.2 ⟨fun b hb => ?_, hp⟩
      cases f with
      | nil => cases hb
      | cons c f =>
        have h0 := h 0 (by simp)
        simp at h0
        rcases List.mem_cons.1 hb with rfl | hb
        · exact h0
        · have := (List.pairwise_cons.1 hp).1 b hb
          omega
  exact ((key f h).and hn).imp (fun ⟨h1, h2⟩ => by omega)
theorem rising_steady {f : List Int} (h : Rising f) : Steady f := fun j hj => by
  have := List.pairwise_iff_getElem.1 h j (j + 1) (by omega) hj (by omega)
  rw [List.getElem?_eq_getElem (show j < f.length by omega), List.getElem?_eq_getElem hj, Option.getD_some, Option.getD_some]
  omega

set_option maxRecDepth 100000 in
theorem is_sorted (vf : Value) (f : List Int) (w : World) (hf : Ints w vf f) (hl : f.length ≤ 1000000) :
    Calls Tryd.prog 76 #[vf] w fun e w' => ∃ q : Bool, e = .returned (.bool q) ∧ (q = true ↔ Steady f) ∧ ∃ n, w' = w.drewN n := by
  obtain ⟨a, ca, rfl, -, hc⟩ := hf.open_
  clear hf
  by_cases h0 : f.length = 0
  · have HS : Hid (Steady f) := fun j hj => by omega
    rw [h0]
    clear hc h0
    go_enter Tryd.func76, Tryd.ntmps76
    go_wp2
    go_loopw [3] (fun v W => v = .int .i64 (-1) ∧ W = w) (fun _ _ => 0)
    case atStart => exact ⟨rfl, rfl⟩
    case round =>
      obtain ⟨rfl, rfl⟩ := hrel
      go_wp2
      go_ret
      exact ⟨true, rfl, ⟨fun _ => HS.out, fun _ => rfl⟩, 0, rfl⟩
  · obtain ⟨b, o, rfl, -, -, c⟩ := hc (by omega)
    obtain ⟨m, hm⟩ : ∃ m, f.length = m + 1 := ⟨f.length - 1, by omega⟩
    have HM : Hid (f.length = m + 1) := hm
    have hmi : ((f.length : Int) - 1) = (m : Int) := by omega
    have HC : Hid (∀ k, k < f.length → w.cell? ⟨b, o + k, none⟩ = some (.int .i64 (f[k]?.getD 0))) := c
    clear hc h0 c hm
    go_enter Tryd.func76, Tryd.ntmps76
    go_wp2
    go_loopw [3] (fun v W => ∃ i n : Nat, i ≤ m ∧ v = .int .i64 i ∧ W = w.drewN n ∧ ∀ j, i ≤ j → j + 1 < f.length → f[j]?.getD 0 ≤ f[j + 1]?.getD 0) (fun v _ => (intOf v).toNat)
    case atStart => exact ⟨m, 0, Nat.le_refl _, by go_num, rfl, fun j h1 h2 => by have := HM.out; omega⟩
    case round =>
      obtain ⟨i, n, him, rfl, hw, hst⟩ := hrel
      have HST : Hid (∀ j, i ≤ j → j + 1 < f.length → f[j]?.getD 0 ≤ f[j + 1]?.getD 0) := hst
      have HW : Hid (wr = w.drewN n) := hw
      by_cases hi : 0 < i
      · obtain ⟨k, rfl⟩ : ∃ k, i = k + 1 := ⟨i - 1, by omega⟩
        have hk1 : k + 1 < f.length := by have := HM.out; omega
        have hk0 : k < f.length := by omega
        have g1 : wr.cell? ⟨b, o + (k + 1), none⟩ = some (.int .i64 (f[k + 1]?.getD 0)) := by rw [hw]; exact HC.out (k + 1) hk1
        have g0 : wr.cell? ⟨b, o + k, none⟩ = some (.int .i64 (f[k]?.getD 0)) := by rw [hw]; exact HC.out k hk0
        obtain ⟨x, hxe⟩ : ∃ x, f[k + 1]?.getD 0 = x := ⟨_, rfl⟩
        obtain ⟨y, hye⟩ : ∃ y, f[k]?.getD 0 = y := ⟨_, rfl⟩
        rw [hxe] at g1
        rw [hye] at g0
        have HX : Hid (f[k + 1]?.getD 0 = x) := hxe
        have HY : Hid (f[k]?.getD 0 = y) := hye
        have hls : ∀ m, Calls Tryd.prog 96 #[.int .i64 x, .int .i64 y] (wr.drewN m) (fun e w' => e = .returned (.bool (decide (x < y))) ∧ ∃ q, w' = (wr.drewN m).drewN q) := fun m => (Tryd.cmp_Less_int2 x y (wr.drewN m)).mono (fun e w' ⟨h1, h2⟩ => ⟨h1, 0, by rw [h2]; rfl⟩)
        have hnum : (((k + 1 : Nat) : Int) - 1) = (k : Int) := by omega
        clear hxe hye hw hst
        by_cases hxy : x < y
        · rw [decide_eq_true hxy] at hls
          have HN : Hid (¬ Steady f) := fun h => by
            have := h k hk1
            rw [HX.out, HY.out] at this
            omega
          clear hxy
          go_wp2_with fail
          go_quiet ((go_at_call 96; exact Calls.quiet_of (hls _)))
          go_wp2
          go_ret
          exact ⟨false, rfl, ⟨fun h => (by cases h), fun h => absurd h HN.out⟩, n + nq, by rw [HW.out, World.drewN_drewN]⟩
        · rw [decide_eq_false hxy] at hls
          have HLE : Hid (y ≤ x) := Int.not_lt.1 hxy
          clear hxy
          go_wp2_with fail
          go_quiet ((go_at_call 96; exact Calls.quiet_of (hls _)))
          go_wp2
          go_roundw
          case rel =>
            refine ⟨k, n + nq, by omega, by go_num, by rw [HW.out, World.drewN_drewN], fun j h1 h2 => ?_⟩
            by_cases e : j = k
            · subst e; rw [HX.out, HY.out]; exact HLE.out
            · exact HST.out j (by omega) h2
          case measure => simp [intOf]
      · obtain rfl : i = 0 := by omega
        have HS : Hid (Steady f) := fun j hj => HST.out j (Nat.zero_le _) hj
        clear hst
        go_wp2
        go_ret
        exact ⟨true, rfl, ⟨fun _ => HS.out, fun _ => rfl⟩, n, rfl⟩

end Go.Proofs.YtkmecdgnoemimaaDoor

namespace Go.Proofs.YtkmecdgnoemimaaDoor
open Go.RowKit Go.Sort Go.Maps Go.Deep

set_option maxRecDepth 100000 in
theorem face_text (vf : Value) (f : List Int) (w : World) (hf : Ints w vf f) (hl : f.length ≤ 1000) :
    Calls Tryd.prog 66 #[vf] w fun e w' => Below w.heap.size w w' ∧ ((FaceOk f ∧ ∃ t, ints t = f ∧ e = .returned (.tuple #[encStr t, .bool true])) ∨ (¬ FaceOk f ∧ e = .returned (.tuple #[encStr [], .bool false]))) := by
  have hst := set_text vf f w hf hl
  have HF : Hid (Ints w vf f) := hf
  clear hf
  go_enter Tryd.func66, Tryd.ntmps66
  go_wp2_with fail
  refine hst.mono ?_
  rintro e w2 ⟨hB, ⟨hok, t, ht, rfl⟩ | ⟨hno, rfl⟩⟩
  · have his := is_sorted vf f w2 (HF.out.below hB) (by omega)
    have HT : Hid (SetOk f ∧ TextOf f t) := ⟨hok, ht⟩
    clear hst hok ht
    go_wp2_with fail
    refine his.mono ?_
    rintro e w3 ⟨q, rfl, hq, n, rfl⟩
    have HB3 : Hid (Below w.heap.size w (w2.drewN n)) := hB.trans ⟨rfl, rfl, rfl, Nat.le_refl _, fun _ _ => rfl⟩
    cases q with
    | true =>
      have hr := steady_rising (hq.1 rfl) HT.out.1.2.1
      have HI : Hid (FaceOk f ∧ ints t = f) := ⟨⟨HT.out.1, hr⟩, text_sorted HT.out.2 hr (fun _ => Iff.rfl)⟩
      clear his hq hr
      go_wp2
      go_ret2
      exact ⟨HB3.out, .inl ⟨HI.out.1, t, HI.out.2, rfl⟩⟩
    | false =>
      have HN : Hid (¬ FaceOk f) := fun h => by have := hq.2 (rising_steady h.2); cases this
      clear his hq
      go_wp2
      go_ret2
      exact ⟨HB3.out, .inr ⟨HN.out, rfl⟩⟩
  · have HN : Hid (¬ FaceOk f) := fun h => hno h.1
    clear hst hno
    go_wp2
    go_ret2
    exact ⟨hB, .inr ⟨HN.out, rfl⟩⟩

end Go.Proofs.YtkmecdgnoemimaaDoor
