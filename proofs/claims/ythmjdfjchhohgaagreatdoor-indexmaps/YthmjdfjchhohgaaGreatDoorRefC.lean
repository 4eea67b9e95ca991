/- What the reference's SameInts answers. What the reference's small readers answer: SameInts, Contains, Ahead, PartOf, SameLists; nothing is written. The reference's PartOf. What the reference's Ahead answers; nothing is written. What the reference's readers of faces answer: Ahead, PartOf, SameLists; nothing is written. What the reference's SameLists answers; nothing is written. -/
import Derived.Test.YthmjdfjchhohgaaGreatDoorBase
import Derived.BigQuiet
import Derived.Deep.QuietTactic
namespace Go.Proofs.YthmjdfjchhohgaaGreatDoor
open Go.RowKit Go.Sort

theorem take_snoc {xs ys : List Int} {k : Nat} (h : xs.take k = ys.take k) (hx : k < xs.length) (hy : k < ys.length) (e : xs[k]?.getD 0 = ys[k]?.getD 0) : xs.take (k + 1) = ys.take (k + 1) := by
  rw [List.take_add_one, List.take_add_one, h]
  simp [hx, hy] at e
  simp [hx, hy, e]

theorem ne_at {xs ys : List Int} {k : Nat} (e : ¬ xs[k]?.getD 0 = ys[k]?.getD 0) : xs ≠ ys := fun h => e (by rw [h])

theorem same_ints (va vb : Value) (xs ys : List Int) (w : World) (ha : Ints w va xs) (hb : Ints w vb ys) (hx : xs.length ≤ 1000000) :
    Calls Tryz.prog 12 #[va, vb] w fun e w' => e = .returned (.bool (decide (xs = ys))) ∧ ∃ q, w' = w.drewN q := by
  obtain ⟨a, ca, rfl, -, ha⟩ := ha.open_
  obtain ⟨b, cb, rfl, -, hb⟩ := hb.open_
  by_cases hl : xs.length = ys.length
  · rw [← hl]
    go_enter Tryz.func12, Tryz.ntmps12
    go_wp2
    go_loopw [5] (fun v W => ∃ k q : Nat, k ≤ xs.length ∧ v = .int .i64 k ∧ W = w.drewN q ∧ xs.take k = ys.take k) (fun v _ => xs.length - (intOf v).toNat)
    case atStart => exact ⟨0, 0, by omega, rfl, rfl, by simp⟩
    case round =>
      obtain ⟨k, q, hk, rfl, rfl, ht⟩ := hrel
      have HT : Hid (xs.take k = ys.take k) := ht
      have HL : Hid (xs.length = ys.length) := hl
      have hy' : k < xs.length → k < ys.length := by omega
      clear ht hl
      by_cases hlt : k < xs.length
      · obtain ⟨b1, o1, rfl, -, -, c1⟩ := ha (by omega)
        obtain ⟨b2, o2, rfl, -, -, c2⟩ := hb (by have := hy' hlt; omega)
        have g1 := c1 k hlt
        have g2 := c2 k (hy' hlt)
        clear c1 c2 ha hb
        obtain ⟨x, hxe⟩ : ∃ x, xs[k]?.getD 0 = x := ⟨_, rfl⟩
        obtain ⟨y, hye⟩ : ∃ y, ys[k]?.getD 0 = y := ⟨_, rfl⟩
        rw [hxe] at g1
        rw [hye] at g2
        have HX : Hid (xs[k]?.getD 0 = x) := hxe
        have HY : Hid (ys[k]?.getD 0 = y) := hye
        clear hxe hye
        by_cases heq : x = y
        · subst heq
          go_wp2_with fail
          go_quiet (fail)
          go_wp2
          go_roundw
          case rel => exact ⟨k + 1, _, by omega, by go_num, rfl, take_snoc HT.out hlt (hy' hlt) (HX.out.trans HY.out.symm)⟩
          case measure => simp [intOf]; omega
        · have hne : (x != y) = true := by simpa using heq
          have HE : Hid (¬ x = y) := heq
          clear heq
          go_wp2_with fail
          go_quiet (fail)
          go_wp2
          go_ret
          exact ⟨by rw [decide_eq_false (ne_at (fun h => HE.out (by rw [← HX.out, ← HY.out, h])))]; rfl, q + nq, by rw [World.drewN_drewN]⟩
      · clear ha hb
        go_wp2
        go_ret
        refine ⟨?_, q, rfl⟩
        have h1 := HT.out
        have h2 := HL.out
        rw [List.take_of_length_le (by omega), List.take_of_length_le (by omega)] at h1
        rw [decide_eq_true h1]; rfl
  · have hne : xs ≠ ys := fun h => hl (by rw [h])
    go_enter Tryz.func12, Tryz.ntmps12
    clear ha hb
    go_wp2
    go_ret
    exact ⟨by rw [decide_eq_false hne]; rfl, 0, rfl⟩

end Go.Proofs.YthmjdfjchhohgaaGreatDoor

namespace Go.Proofs.YthmjdfjchhohgaaGreatDoor
open Go.RowKit Go.Sort

theorem contains_upto {xs : List Int} {k : Nat} {n : Int} (h : ∀ j, j < k → ¬ xs[j]?.getD 0 = n) (hk : k = xs.length) : xs.contains n = false := by
  rw [← Bool.not_eq_true, List.contains_iff_mem]
  intro hm
  obtain ⟨j, hj, e⟩ := List.getElem_of_mem hm
  exact h j (by omega) (by simp [hj, e])
theorem contains_at {xs : List Int} {k : Nat} {n : Int} (hk : k < xs.length) (h : xs[k]?.getD 0 = n) : xs.contains n = true := by
  rw [List.contains_iff_mem]
  simp [hk] at h
  exact List.mem_of_getElem h

theorem contains_ (va : Value) (xs : List Int) (n : Int) (w : World) (ha : Ints w va xs) (hx : xs.length ≤ 1000000) :
    Calls Tryz.prog 95 #[va, .int .i64 n] w fun e w' => e = .returned (.bool (xs.contains n)) ∧ ∃ q, w' = w.drewN q := by
  obtain ⟨a, ca, rfl, -, ha⟩ := ha.open_
  go_enter Tryz.func95, Tryz.ntmps95
  go_wp2
  go_loopw [5] (fun v W => ∃ k q : Nat, k ≤ xs.length ∧ v = .int .i64 k ∧ W = w.drewN q ∧ ∀ j, j < k → ¬ xs[j]?.getD 0 = n) (fun v _ => xs.length - (intOf v).toNat)
  case atStart => exact ⟨0, 0, by omega, rfl, rfl, fun j hj => by omega⟩
  case round =>
    obtain ⟨k, q, hk, rfl, rfl, ht⟩ := hrel
    have HT : Hid (∀ j, j < k → ¬ xs[j]?.getD 0 = n) := ht
    clear ht
    by_cases hlt : k < xs.length
    · obtain ⟨b1, o1, rfl, -, -, c1⟩ := ha (by omega)
      have g1 := c1 k hlt
      clear c1 ha
      obtain ⟨x, hxe⟩ : ∃ x, xs[k]?.getD 0 = x := ⟨_, rfl⟩
      rw [hxe] at g1
      have HX : Hid (xs[k]?.getD 0 = x) := hxe
      clear hxe
      by_cases heq : x = n
      · subst heq
        go_wp2
        go_ret
        exact ⟨by rw [contains_at hlt HX.out]; rfl, _, rfl⟩
      · have hne : (x == n) = false := by simpa using heq
        have HE : Hid (¬ x = n) := heq
        clear heq
        go_wp2
        go_roundw
        case rel => exact ⟨k + 1, _, by omega, by go_num, rfl, fun j hj => by
          by_cases e : j = k
          · subst e; rw [HX.out]; exact HE.out
          · exact HT.out j (by omega)⟩
        case measure => simp [intOf]; omega
    · clear ha
      go_wp2
      go_ret
      exact ⟨by rw [contains_upto HT.out (by omega)]; rfl, q, rfl⟩

end Go.Proofs.YthmjdfjchhohgaaGreatDoor

namespace Go.Proofs.YthmjdfjchhohgaaGreatDoor
open Go.RowKit Go.Sort

theorem part_of (vf vg : Value) (f g : List Int) (w : World) (hf : Ints w vf f) (hg : Ints w vg g) (hx : f.length ≤ 1000000) (hy : g.length ≤ 1000000) :
    Calls Tryz.prog 100 #[vf, vg] w fun e w' => e = .returned (.bool (f.all (fun v => g.contains v))) ∧ ∃ q, w' = w.drewN q := by
  have HG : Hid (Ints w vg g) := hg
  clear hg
  obtain ⟨a, ca, rfl, -, ha⟩ := hf.open_
  go_enter Tryz.func100, Tryz.ntmps100
  go_wp2
  go_loopw [5] (fun v W => ∃ k q : Nat, k ≤ f.length ∧ v = .int .i64 k ∧ W = w.drewN q ∧ ∀ j, j < k → g.contains (f[j]?.getD 0) = true) (fun v _ => f.length - (intOf v).toNat)
  case atStart => exact ⟨0, 0, by omega, rfl, rfl, fun j hj => by omega⟩
  case round =>
    obtain ⟨k, q, hk, rfl, rfl, ht⟩ := hrel
    have HT : Hid (∀ j, j < k → g.contains (f[j]?.getD 0) = true) := ht
    clear ht
    by_cases hlt : k < f.length
    · obtain ⟨b1, o1, rfl, -, -, c1⟩ := ha (by omega)
      have g1 := c1 k hlt
      clear c1 ha hf
      obtain ⟨x, hxe⟩ : ∃ x, f[k]?.getD 0 = x := ⟨_, rfl⟩
      rw [hxe] at g1
      have HX : Hid (f[k]?.getD 0 = x) := hxe
      clear hxe
      have hc := contains_ vg g x (w.drewN q) HG.out hy
      obtain ⟨c, hce⟩ : ∃ c, g.contains x = c := ⟨_, rfl⟩
      rw [hce] at hc
      have HC : Hid (g.contains x = c) := hce
      clear hce
      cases c with
      | true =>
        go_wp2_with (go_at_call 95; refine hc.mono ?_; rintro e w' ⟨rfl, q2, rfl⟩)
        go_roundw
        case rel => exact ⟨k + 1, q + q2, by omega, by go_num, rfl, fun j hj => by
          by_cases e : j = k
          · subst e; rw [HX.out]; exact HC.out
          · exact HT.out j (by omega)⟩
        case measure => simp [intOf]; omega
      | false =>
        go_wp2_with (go_at_call 95; refine hc.mono ?_; rintro e w' ⟨rfl, q2, rfl⟩)
        go_ret
        refine ⟨?_, q + q2, rfl⟩
        have : f.all (fun v => g.contains v) = false := by
          rw [List.all_eq_false]
          refine ⟨x, ?_, by rw [HC.out]; simp⟩
          have := HX.out
          simp [hlt] at this
          exact List.mem_of_getElem this
        rw [this]; rfl
    · clear ha hf
      go_wp2
      go_ret
      refine ⟨?_, q, rfl⟩
      have : f.all (fun v => g.contains v) = true := by
        rw [List.all_eq_true]
        intro v hv
        obtain ⟨j, hj, e⟩ := List.getElem_of_mem hv
        have := HT.out j (by omega)
        simpa [hj, e] using this
      rw [this]; rfl

end Go.Proofs.YthmjdfjchhohgaaGreatDoor

namespace Go.Proofs.YthmjdfjchhohgaaGreatDoor
open Go.RowKit Go.Sort

theorem ahead_at : ∀ (k : Nat) (xs ys : List Int), xs.take k = ys.take k → ∀ (hx : k < xs.length) (hy : k < ys.length), xs[k] ≠ ys[k] → ahead xs ys = decide (xs[k] < ys[k])
  | _, [], _, _, hx, _, _ => absurd hx (by simp)
  | _, _ :: _, [], _, _, hy, _ => absurd hy (by simp)
  | 0, x :: xs, y :: ys, _, _, _, h => by
    simp at h
    simp [ahead, h]
  | k + 1, x :: xs, y :: ys, ht, hx, hy, h => by
    simp at ht h
    obtain ⟨rfl, ht⟩ := ht
    simp only [ahead, if_pos, List.getElem_cons_succ]
    exact ahead_at k xs ys ht (by simpa using hx) (by simpa using hy) h

theorem ahead_end : ∀ (k : Nat) (xs ys : List Int), xs.take k = ys.take k → (xs.length ≤ k ∨ ys.length ≤ k) → ahead xs ys = decide (xs.length < ys.length)
  | _, [], [], _, _ => by simp [ahead]
  | _, [], _ :: _, _, _ => by simp [ahead]
  | _, _ :: _, [], _, _ => by simp [ahead]
  | 0, _ :: _, _ :: _, _, h => by simp at h
  | k + 1, x :: xs, y :: ys, ht, h => by
    simp at ht h
    obtain ⟨rfl, ht⟩ := ht
    simp only [ahead, if_pos, List.length_cons, Nat.add_lt_add_iff_right]
    exact ahead_end k xs ys ht h

theorem ahead_ (va vb : Value) (xs ys : List Int) (w : World) (ha : Ints w va xs) (hb : Ints w vb ys) (hx : xs.length ≤ 1000000) :
    Calls Tryz.prog 70 #[va, vb] w fun e w' => e = .returned (.bool (ahead xs ys)) ∧ ∃ q, w' = w.drewN q := by
  obtain ⟨a, ca, rfl, -, ha⟩ := ha.open_
  obtain ⟨b, cb, rfl, -, hb⟩ := hb.open_
  go_enter Tryz.func70, Tryz.ntmps70
  go_wp2
  go_loopw [5] (fun v W => ∃ k q : Nat, k ≤ xs.length ∧ v = .int .i64 k ∧ W = w.drewN q ∧ xs.take k = ys.take k) (fun v _ => xs.length - (intOf v).toNat)
  case atStart => exact ⟨0, 0, by omega, rfl, rfl, by simp⟩
  case round =>
    obtain ⟨k, q, hk, rfl, rfl, ht⟩ := hrel
    have HT : Hid (xs.take k = ys.take k) := ht
    clear ht
    by_cases hlt : k < xs.length
    · by_cases hlu : k < ys.length
      · obtain ⟨b1, o1, rfl, -, -, c1⟩ := ha (by omega)
        obtain ⟨b2, o2, rfl, -, -, c2⟩ := hb (by omega)
        have g1 := c1 k hlt
        have g2 := c2 k hlu
        clear c1 c2 ha hb
        obtain ⟨x, hxe⟩ : ∃ x, xs[k]?.getD 0 = x := ⟨_, rfl⟩
        obtain ⟨y, hye⟩ : ∃ y, ys[k]?.getD 0 = y := ⟨_, rfl⟩
        rw [hxe] at g1
        rw [hye] at g2
        have HX : Hid (xs[k]?.getD 0 = x) := hxe
        have HY : Hid (ys[k]?.getD 0 = y) := hye
        clear hxe hye
        by_cases heq : x = y
        · subst heq
          go_wp2_with fail
          go_quiet (fail)
          go_wp2
          go_roundw
          case rel => exact ⟨k + 1, _, by omega, by go_num, rfl, take_snoc HT.out hlt hlu (HX.out.trans HY.out.symm)⟩
          case measure => simp [intOf]; omega
        · have hne : (x != y) = true := by simpa using heq
          have HE : Hid (¬ x = y) := heq
          clear heq
          go_wp2_with fail
          go_quiet (fail)
          go_wp2_with fail
          go_quiet (fail)
          go_wp2
          go_ret
          refine ⟨?_, by simp only [World.drewN_drewN]; exact ⟨_, rfl⟩⟩
          have h1 : xs[k] = x := by have := HX.out; simpa [hlt] using this
          have h2 : ys[k] = y := by have := HY.out; simpa [hlu] using this
          rw [ahead_at k xs ys HT.out hlt hlu (by rw [h1, h2]; exact HE.out), h1, h2]; rfl
      · clear ha hb
        go_wp2
        go_ret
        refine ⟨?_, q, rfl⟩
        rw [ahead_end k xs ys HT.out (by omega)]
        simp
    · clear ha hb
      go_wp2
      go_ret
      refine ⟨?_, q, rfl⟩
      rw [ahead_end k xs ys HT.out (by omega)]
      simp

end Go.Proofs.YthmjdfjchhohgaaGreatDoor

namespace Go.Proofs.YthmjdfjchhohgaaGreatDoor
end Go.Proofs.YthmjdfjchhohgaaGreatDoor

namespace Go.Proofs.YthmjdfjchhohgaaGreatDoor
open Go.RowKit Go.Sort

theorem takes_snoc {xs ys : List (List Int)} {k : Nat} (h : xs.take k = ys.take k) (hx : k < xs.length) (hy : k < ys.length) (e : xs[k]?.getD [] = ys[k]?.getD []) : xs.take (k + 1) = ys.take (k + 1) := by
  rw [List.take_add_one, List.take_add_one, h]
  simp [hx, hy] at e
  simp [hx, hy, e]

theorem same_lists (va vb : Value) (xs ys : List (List Int)) (w : World) (ha : Rows w va xs) (hb : Rows w vb ys) (hx : xs.length ≤ 1000000) (hm : ∀ x ∈ xs, x.length ≤ 1000000) :
    Calls Tryz.prog 22 #[va, vb] w fun e w' => e = .returned (.bool (decide (xs = ys))) ∧ ∃ q, w' = w.drewN q := by
  obtain ⟨a, ca, rfl, -, ha⟩ := ha.open_
  obtain ⟨b, cb, rfl, -, hb⟩ := hb.open_
  by_cases hl : xs.length = ys.length
  · rw [← hl]
    go_enter Tryz.func22, Tryz.ntmps22
    go_wp2
    go_loopw [5] (fun v W => ∃ k q : Nat, k ≤ xs.length ∧ v = .int .i64 k ∧ W = w.drewN q ∧ xs.take k = ys.take k) (fun v _ => xs.length - (intOf v).toNat)
    case atStart => exact ⟨0, 0, by omega, rfl, rfl, by simp⟩
    case round =>
      obtain ⟨k, q, hk, rfl, hw, ht⟩ := hrel
      have HW : Hid (wr = w.drewN q) := hw
      have HT : Hid (xs.take k = ys.take k) := ht
      have HL : Hid (xs.length = ys.length) := hl
      have HM : Hid (∀ x ∈ xs, x.length ≤ 1000000) := hm
      have hy' : k < xs.length → k < ys.length := by omega
      clear ht hl hm
      by_cases hlt : k < xs.length
      · obtain ⟨b1, o1, rfl, -, -, c1⟩ := ha (by omega)
        obtain ⟨b2, o2, rfl, -, -, c2⟩ := hb (by have := hy' hlt; omega)
        obtain ⟨a1, p1, g1, i1⟩ := c1 k hlt
        obtain ⟨a2, p2, g2, i2⟩ := c2 k (hy' hlt)
        clear c1 c2 ha hb
        have hlen : (xs[k]?.getD []).length ≤ 1000000 := HM.out _ (by simp [hlt])
        obtain ⟨x, hxe⟩ : ∃ x, xs[k]?.getD [] = x := ⟨_, rfl⟩
        obtain ⟨y, hye⟩ : ∃ y, ys[k]?.getD [] = y := ⟨_, rfl⟩
        rw [hxe] at g1 i1 hlen
        rw [hye] at g2 i2
        have g1 : wr.cell? ⟨b1, o1 + k, none⟩ = some (.slice a1 x.length p1) := by rw [hw]; exact g1
        have g2 : wr.cell? ⟨b2, o2 + k, none⟩ = some (.slice a2 y.length p2) := by rw [hw]; exact g2
        have i1 : Ints wr (.slice a1 x.length p1) x := by rw [hw]; exact i1
        have i2 : Ints wr (.slice a2 y.length p2) y := by rw [hw]; exact i2
        clear hw
        have HX : Hid (xs[k]?.getD [] = x) := hxe
        have HY : Hid (ys[k]?.getD [] = y) := hye
        clear hxe hye
        have hc : ∀ n, Calls Tryz.prog 12 #[.slice a1 x.length p1, .slice a2 y.length p2] (wr.drewN n) _ := fun n => same_ints _ _ x y (wr.drewN n) i1 i2 hlen
        obtain ⟨c, hce⟩ : ∃ c, decide (x = y) = c := ⟨_, rfl⟩
        simp only [hce] at hc
        have HC : Hid (decide (x = y) = c) := hce
        clear hce i1 i2
        cases c with
        | true =>
          go_wp2_with fail
          go_quiet ((go_at_call 12; exact Calls.quiet_of (hc _)))
          go_wp2
          go_roundw
          case rel => exact ⟨k + 1, q + nq, by omega, by go_num, by rw [HW.out, World.drewN_drewN], takes_snoc HT.out hlt (hy' hlt) (by rw [HX.out, HY.out]; exact of_decide_eq_true HC.out)⟩
          case measure => simp [intOf]; omega
        | false =>
          go_wp2_with fail
          go_quiet ((go_at_call 12; exact Calls.quiet_of (hc _)))
          go_wp2
          go_ret
          refine ⟨?_, q + nq, by rw [HW.out, World.drewN_drewN]⟩
          have : xs ≠ ys := fun h => (of_decide_eq_false HC.out) (by rw [← HX.out, ← HY.out, h])
          rw [decide_eq_false this]; rfl
      · clear ha hb hw
        go_wp2
        go_ret
        refine ⟨?_, q, HW.out⟩
        have h1 := HT.out
        have h2 := HL.out
        rw [List.take_of_length_le (by omega), List.take_of_length_le (by omega)] at h1
        rw [decide_eq_true h1]; rfl
  · have hne : xs ≠ ys := fun h => hl (by rw [h])
    go_enter Tryz.func22, Tryz.ntmps22
    clear ha hb
    go_wp2
    go_ret
    exact ⟨by rw [decide_eq_false hne]; rfl, 0, rfl⟩

end Go.Proofs.YthmjdfjchhohgaaGreatDoor
