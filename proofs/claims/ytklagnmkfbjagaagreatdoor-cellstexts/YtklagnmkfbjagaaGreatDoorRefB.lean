/- What the reference's readers of faces answer: Ahead, PartOf, SameLists; nothing is written. -/
import Derived.Test.YtklagnmkfbjagaaGreatDoorRefA
namespace Go.Proofs.YtklagnmkfbjagaaGreatDoor
open Go.RowKit Go.Sort

theorem ahead_at : ∀ (k : Nat) (xs ys : List Int), xs.take k = ys.take k → ∀ (hx : k < xs.length) (hy : k < ys.length), xs[k] ≠ ys[k] → ahead xs ys = decide (xs[k] < ys[k])
  | _, [], _, _, hx, _, _ => absurd hx (by simp)
  | _, _ :: _, [], _, _, hy, _ => absurd hy (by simp)
  | 0, x :: xs, y :: ys, _, _, _, h => by
    simp at h
    simp [ahead, h]
  | k + 1, x :: xs, y :: ys, ht, hx, hy, h => by
    simp at ht h
    obtain ⟨rfl, ht⟩ := ht
    simp only [ahead, if_pos, List.getElem_cons_succ]
    exact ahead_at k xs ys ht (by simpa using hx) (by simpa using hy) h

theorem ahead_end : ∀ (k : Nat) (xs ys : List Int), xs.take k = ys.take k → (xs.length ≤ k ∨ ys.length ≤ k) → ahead xs ys = decide (xs.length < ys.length)
  | _, [], [], _, _ => by simp [ahead]
  | _, [], _ :: _, _, _ => by simp [ahead]
  | _, _ :: _, [], _, _ => by simp [ahead]
  | 0, _ :: _, _ :: _, _, h => by simp at h
  | k + 1, x :: xs, y :: ys, ht, h => by
    simp at ht h
    obtain ⟨rfl, ht⟩ := ht
    simp only [ahead, if_pos, List.length_cons, Nat.add_lt_add_iff_right]
    exact ahead_end k xs ys ht h

theorem ahead_ (va vb : Value) (xs ys : List Int) (w : World) (ha : Ints w va xs) (hb : Ints w vb ys) (hx : xs.length ≤ 1000000) :
    Calls Tryz.prog 45 #[va, vb] w fun e w' => e = .returned (.bool (ahead xs ys)) ∧ ∃ q, w' = w.drewN q := by
  obtain ⟨a, ca, rfl, -, ha⟩ := ha.open_
  obtain ⟨b, cb, rfl, -, hb⟩ := hb.open_
  go_enter Tryz.func45, Tryz.ntmps45
  go_wp2
  go_loopw [5] (fun v W => ∃ k q : Nat, k ≤ xs.length ∧ v = .int .i64 k ∧ W = w.drewN q ∧ xs.take k = ys.take k) (fun v _ => xs.length - (intOf v).toNat)
  case atStart => exact ⟨0, 0, by omega, rfl, rfl, by simp⟩
  case round =>
    obtain ⟨k, q, hk, rfl, rfl, ht⟩ := hrel
    have HT : Hid (xs.take k = ys.take k) := ht
    clear ht
    by_cases hlt : k < xs.length
    · by_cases hlu : k < ys.length
      · obtain ⟨b1, o1, rfl, -, -, c1⟩ := ha (by omega)
        obtain ⟨b2, o2, rfl, -, -, c2⟩ := hb (by omega)
        have g1 := c1 k hlt
        have g2 := c2 k hlu
        clear c1 c2 ha hb
        obtain ⟨x, hxe⟩ : ∃ x, xs[k]?.getD 0 = x := ⟨_, rfl⟩
        obtain ⟨y, hye⟩ : ∃ y, ys[k]?.getD 0 = y := ⟨_, rfl⟩
        rw [hxe] at g1
        rw [hye] at g2
        have HX : Hid (xs[k]?.getD 0 = x) := hxe
        have HY : Hid (ys[k]?.getD 0 = y) := hye
        clear hxe hye
        by_cases heq : x = y
        · subst heq
          go_wp2_with fail
          go_quiet (fail)
          go_wp2
          go_roundw
          case rel => exact ⟨k + 1, _, by omega, by go_num, rfl, take_snoc HT.out hlt hlu (HX.out.trans HY.out.symm)⟩
          case measure => simp [intOf]; omega
        · have hne : (x != y) = true := by simpa using heq
          have HE : Hid (¬ x = y) := heq
          clear heq
          go_wp2_with fail
          go_quiet (fail)
          go_wp2_with fail
          go_quiet (fail)
          go_wp2
          go_ret
          refine ⟨?_, by simp only [World.drewN_drewN]; exact ⟨_, rfl⟩⟩
          have h1 : xs[k] = x := by have := HX.out; simpa [hlt] using this
          have h2 : ys[k] = y := by have := HY.out; simpa [hlu] using this
          rw [ahead_at k xs ys HT.out hlt hlu (by rw [h1, h2]; exact HE.out), h1, h2]; rfl
      · clear ha hb
        go_wp2
        go_ret
        refine ⟨?_, q, rfl⟩
        rw [ahead_end k xs ys HT.out (by omega)]
        simp
    · clear ha hb
      go_wp2
      go_ret
      refine ⟨?_, q, rfl⟩
      rw [ahead_end k xs ys HT.out (by omega)]
      simp

theorem part_of (vf vg : Value) (f g : List Int) (w : World) (hf : Ints w vf f) (hg : Ints w vg g) (hx : f.length ≤ 1000000) (hy : g.length ≤ 1000000) :
    Calls Tryz.prog 46 #[vf, vg] w fun e w' => e = .returned (.bool (f.all (fun v => g.contains v))) ∧ ∃ q, w' = w.drewN q := by
  have HG : Hid (Ints w vg g) := hg
  clear hg
  obtain ⟨a, ca, rfl, -, ha⟩ := hf.open_
  go_enter Tryz.func46, Tryz.ntmps46
  go_wp2
  go_loopw [5] (fun v W => ∃ k q : Nat, k ≤ f.length ∧ v = .int .i64 k ∧ W = w.drewN q ∧ ∀ j, j < k → g.contains (f[j]?.getD 0) = true) (fun v _ => f.length - (intOf v).toNat)
  case atStart => exact ⟨0, 0, by omega, rfl, rfl, fun j hj => by omega⟩
  case round =>
    obtain ⟨k, q, hk, rfl, rfl, ht⟩ := hrel
    have HT : Hid (∀ j, j < k → g.contains (f[j]?.getD 0) = true) := ht
    clear ht
    by_cases hlt : k < f.length
    · obtain ⟨b1, o1, rfl, -, -, c1⟩ := ha (by omega)
      have g1 := c1 k hlt
      clear c1 ha hf
      obtain ⟨x, hxe⟩ : ∃ x, f[k]?.getD 0 = x := ⟨_, rfl⟩
      rw [hxe] at g1
      have HX : Hid (f[k]?.getD 0 = x) := hxe
      clear hxe
      have hc := contains_ vg g x (w.drewN q) HG.out hy
      obtain ⟨c, hce⟩ : ∃ c, g.contains x = c := ⟨_, rfl⟩
      rw [hce] at hc
      have HC : Hid (g.contains x = c) := hce
      clear hce
      cases c with
      | true =>
        go_wp2_with (go_at_call 62; refine hc.mono ?_; rintro e w' ⟨rfl, q2, rfl⟩)
        go_roundw
        case rel => exact ⟨k + 1, q + q2, by omega, by go_num, rfl, fun j hj => by
          by_cases e : j = k
          · subst e; rw [HX.out]; exact HC.out
          · exact HT.out j (by omega)⟩
        case measure => simp [intOf]; omega
      | false =>
        go_wp2_with (go_at_call 62; refine hc.mono ?_; rintro e w' ⟨rfl, q2, rfl⟩)
        go_ret
        refine ⟨?_, q + q2, rfl⟩
        have : f.all (fun v => g.contains v) = false := by
          rw [List.all_eq_false]
          refine ⟨x, ?_, by rw [HC.out]; simp⟩
          have := HX.out
          simp [hlt] at this
          exact List.mem_of_getElem this
        rw [this]; rfl
    · clear ha hf
      go_wp2
      go_ret
      refine ⟨?_, q, rfl⟩
      have : f.all (fun v => g.contains v) = true := by
        rw [List.all_eq_true]
        intro v hv
        obtain ⟨j, hj, e⟩ := List.getElem_of_mem hv
        have := HT.out j (by omega)
        simpa [hj, e] using this
      rw [this]; rfl

end Go.Proofs.YtklagnmkfbjagaaGreatDoor
