/- What Subgroups answers of a group or an index that it does not take. What the reference's SameInts answers. What the reference's small readers answer: SameInts, Contains, Ahead, PartOf, SameLists; nothing is written. -/
import Derived.Test.YtmaopnbnbiediaaDoorGrpSubs
import Derived.Test.YtmaopnbnbiediaaDoorBase
import Derived.BigQuiet
import Derived.Deep.QuietTactic
namespace Go.Proofs.YtmaopnbnbiediaaDoor
open Go.RowKit Go.Sort

set_option maxRecDepth 100000 in
set_option maxHeartbeats 2000000 in
theorem subgroups_bad {a : Nat → Addr} {sx : Nat → ByteArray} {i : Nat} (n idx : Int) (vr : Value) (rels : List (List Int)) (w : World) (hE : Errs a sx w) (hr : ThouAt w vr rels) (hg : geP n rels = (i : Int) + 1) :
    Calls Tryd.prog 9 #[.agg #[.int .i64 n, vr], .int .i64 idx] w fun e w' => e = .returned (.tuple #[.slice none 0 0, esV (a i)]) ∧ Below w.heap.size w w' := by
  obtain ⟨ar, cr, rfl, -, -⟩ := hr.rows.open_
  have hBa : Below w.heap.size w (w.alloc (.cells #[.int .i64 n, .slice ar rels.length cr] 33)) := (Below.refl _ w).alloc (Nat.le_refl _) _
  have hnew := cells_new w [.int .i64 n, .slice ar rels.length cr] 33
  have q0 := hnew 0 _ rfl
  have q1 := hnew 1 _ rfl
  rw [Addr.add_lit, Nat.zero_add] at q0 q1
  have hva := valid_bad n (.slice ar rels.length cr) rels _ (hE.below hBa) (hr.below hBa) hg
  unfold esV at hva ⊢
  have HB := Hid.mk' hBa
  clear hr hE hBa hnew hg
  go_enter Tryd.func9, Tryd.ntmps9
  go_wp2_with (first
    | (go_at_call 18; refine hva.mono ?_; rintro e V ⟨rfl, hV⟩; have HV := Hid.mk' hV; clear hva hV)
    | fail)
  go_ret2
  exact ⟨rfl, HB.out.trans (HV.out.mono HB.out.size)⟩

/-- An index that is not taken. -/
def FarIx (n : Nat) (idx : Int) : Prop := idx < 1 ∨ 4 < idx ∨ (∃ N : Nat, idx = (N : Int) ∧ 1 ≤ N ∧ N ≤ 4 ∧ 20000 < facN N ^ n)

set_option maxRecDepth 100000 in
set_option maxHeartbeats 4000000 in
theorem subgroups_far {a : Nat → Addr} {sx : Nat → ByteArray} (n : Nat) (idx : Int) (vr : Value) (rels : List (List Int)) (w : World) (hE : Errs a sx w) (hr : FewAt w vr rels) (hl : ∀ ws ∈ rels, LettersIn n ws) (hn : n ≤ 5) (hf : FarIx n idx) :
    Calls Tryd.prog 9 #[.agg #[.int .i64 (n : Int), vr], .int .i64 idx] w fun e w' => e = .returned (.tuple #[.slice none 0 0, esV (a 1)]) ∧ Below w.heap.size w w' := by
  obtain ⟨ar, cr, rfl, -, -⟩ := hr.rows.open_
  have hBa : Below w.heap.size w (w.alloc (.cells #[.int .i64 (n : Int), .slice ar rels.length cr] 33)) := (Below.refl _ w).alloc (Nat.le_refl _) _
  have hnew := cells_new w [.int .i64 (n : Int), .slice ar rels.length cr] 33
  have q0 := hnew 0 _ rfl
  have q1 := hnew 1 _ rfl
  rw [Addr.add_lit, Nat.zero_add] at q0 q1
  have hva := valid_ok n (.slice ar rels.length cr) rels _ (hE.below hBa) (hr.rows.below hBa) hr.few hr.short hl (by omega)
  have HE := Hid.mk' (hE.below hBa)
  unfold esV
  have HB := Hid.mk' hBa
  clear hr hE hBa hnew hl
  by_cases h1 : idx < 1
  · clear hf
    go_enter Tryd.func9, Tryd.ntmps9
    go_wp2_with (first
      | (go_at_call 18; refine hva.mono ?_; rintro e V ⟨rfl, hV⟩; have HV := Hid.mk' hV; have g1 := (HE.out.below hV).glob 1 (by simp); rw [show gl 1 = 0 from rfl] at g1; clear hva hV)
      | fail)
    go_quiet (fail)
    go_wp2
    go_ret2
    exact ⟨rfl, (HB.out.trans (HV.out.mono HB.out.size)).trans ((below_drewN _ _).mono (HB.out.trans (HV.out.mono HB.out.size)).size)⟩
  · by_cases h2 : 4 < idx
    · clear hf
      go_enter Tryd.func9, Tryd.ntmps9
      go_wp2_with (first
        | (go_at_call 18; refine hva.mono ?_; rintro e V ⟨rfl, hV⟩; have HV := Hid.mk' hV; have g1 := (HE.out.below hV).glob 1 (by simp); rw [show gl 1 = 0 from rfl] at g1; clear hva hV)
        | fail)
      go_quiet (fail)
      go_wp2
      go_ret2
      exact ⟨rfl, (HB.out.trans (HV.out.mono HB.out.size)).trans ((below_drewN _ _).mono (HB.out.trans (HV.out.mono HB.out.size)).size)⟩
    · obtain ⟨N, rfl, h3, h4, h5⟩ := (hf.resolve_left h1).resolve_left h2
      have hwy := fun V => ways_ N n V h4 hn
      obtain ⟨F, hF⟩ : ∃ F, facN N ^ n = F := ⟨_, rfl⟩
      rw [hF] at hwy h5
      have y2 : (20000 : Int) < (F : Int) := by omega
      clear hf hF
      go_enter Tryd.func9, Tryd.ntmps9
      go_wp2_with (first
        | (go_at_call 18; refine hva.mono ?_; rintro e V ⟨rfl, hV⟩; have HV := Hid.mk' hV; have g1 := (HE.out.below hV).glob 1 (by simp); rw [show gl 1 = 0 from rfl] at g1; have x0 := (hV.cell (p := ⟨w.heap.size, 0, none⟩) (cell_lt q0)).trans q0; have hwy2 := hwy V; clear hva hV)
        | (go_at_call 19; refine hwy2.mono ?_; rintro e V1 ⟨rfl, hV1⟩; subst hV1; clear hwy2)
        | fail)
      go_quiet (fail)
      go_wp2
      go_ret2
      exact ⟨rfl, (HB.out.trans (HV.out.mono HB.out.size)).trans ((below_drewN _ _).mono (HB.out.trans (HV.out.mono HB.out.size)).size)⟩

end Go.Proofs.YtmaopnbnbiediaaDoor

namespace Go.Proofs.YtmaopnbnbiediaaDoor
open Go.RowKit Go.Sort

theorem take_snoc {xs ys : List Int} {k : Nat} (h : xs.take k = ys.take k) (hx : k < xs.length) (hy : k < ys.length) (e : xs[k]?.getD 0 = ys[k]?.getD 0) : xs.take (k + 1) = ys.take (k + 1) := by
  rw [List.take_add_one, List.take_add_one, h]
  simp [hx, hy] at e
  simp [hx, hy, e]

theorem ne_at {xs ys : List Int} {k : Nat} (e : ¬ xs[k]?.getD 0 = ys[k]?.getD 0) : xs ≠ ys := fun h => e (by rw [h])

theorem same_ints (va vb : Value) (xs ys : List Int) (w : World) (ha : Ints w va xs) (hb : Ints w vb ys) (hx : xs.length ≤ 1000000) :
    Calls Tryd.prog 31 #[va, vb] w fun e w' => e = .returned (.bool (decide (xs = ys))) ∧ ∃ q, w' = w.drewN q := by
  obtain ⟨a, ca, rfl, -, ha⟩ := ha.open_
  obtain ⟨b, cb, rfl, -, hb⟩ := hb.open_
  by_cases hl : xs.length = ys.length
  · rw [← hl]
    go_enter Tryd.func31, Tryd.ntmps31
    go_wp2
    go_loopw [5] (fun v W => ∃ k q : Nat, k ≤ xs.length ∧ v = .int .i64 k ∧ W = w.drewN q ∧ xs.take k = ys.take k) (fun v _ => xs.length - (intOf v).toNat)
    case atStart => exact ⟨0, 0, by omega, rfl, rfl, by simp⟩
    case round =>
      obtain ⟨k, q, hk, rfl, rfl, ht⟩ := hrel
      have HT : Hid (xs.take k = ys.take k) := ht
      have HL : Hid (xs.length = ys.length) := hl
      have hy' : k < xs.length → k < ys.length := by omega
      clear ht hl
      by_cases hlt : k < xs.length
      · obtain ⟨b1, o1, rfl, -, -, c1⟩ := ha (by omega)
        obtain ⟨b2, o2, rfl, -, -, c2⟩ := hb (by have := hy' hlt; omega)
        have g1 := c1 k hlt
        have g2 := c2 k (hy' hlt)
        clear c1 c2 ha hb
        obtain ⟨x, hxe⟩ : ∃ x, xs[k]?.getD 0 = x := ⟨_, rfl⟩
        obtain ⟨y, hye⟩ : ∃ y, ys[k]?.getD 0 = y := ⟨_, rfl⟩
        rw [hxe] at g1
        rw [hye] at g2
        have HX : Hid (xs[k]?.getD 0 = x) := hxe
        have HY : Hid (ys[k]?.getD 0 = y) := hye
        clear hxe hye
        by_cases heq : x = y
        · subst heq
          go_wp2_with fail
          go_quiet (fail)
          go_wp2
          go_roundw
          case rel => exact ⟨k + 1, _, by omega, by go_num, rfl, take_snoc HT.out hlt (hy' hlt) (HX.out.trans HY.out.symm)⟩
          case measure => simp [intOf]; omega
        · have hne : (x != y) = true := by simpa using heq
          have HE : Hid (¬ x = y) := heq
          clear heq
          go_wp2_with fail
          go_quiet (fail)
          go_wp2
          go_ret
          exact ⟨by rw [decide_eq_false (ne_at (fun h => HE.out (by rw [← HX.out, ← HY.out, h])))]; rfl, q + nq, by rw [World.drewN_drewN]⟩
      · clear ha hb
        go_wp2
        go_ret
        refine ⟨?_, q, rfl⟩
        have h1 := HT.out
        have h2 := HL.out
        rw [List.take_of_length_le (by omega), List.take_of_length_le (by omega)] at h1
        rw [decide_eq_true h1]; rfl
  · have hne : xs ≠ ys := fun h => hl (by rw [h])
    go_enter Tryd.func31, Tryd.ntmps31
    clear ha hb
    go_wp2
    go_ret
    exact ⟨by rw [decide_eq_false hne]; rfl, 0, rfl⟩

end Go.Proofs.YtmaopnbnbiediaaDoor

namespace Go.Proofs.YtmaopnbnbiediaaDoor
open Go.RowKit Go.Sort

theorem contains_upto {xs : List Int} {k : Nat} {n : Int} (h : ∀ j, j < k → ¬ xs[j]?.getD 0 = n) (hk : k = xs.length) : xs.contains n = false := by
  rw [← Bool.not_eq_true, List.contains_iff_mem]
  intro hm
  obtain ⟨j, hj, e⟩ := List.getElem_of_mem hm
  exact h j (by omega) (by simp [hj, e])
theorem contains_at {xs : List Int} {k : Nat} {n : Int} (hk : k < xs.length) (h : xs[k]?.getD 0 = n) : xs.contains n = true := by
  rw [List.contains_iff_mem]
  simp [hk] at h
  exact List.mem_of_getElem h

theorem contains_ (va : Value) (xs : List Int) (n : Int) (w : World) (ha : Ints w va xs) (hx : xs.length ≤ 1000000) :
    Calls Tryd.prog 54 #[va, .int .i64 n] w fun e w' => e = .returned (.bool (xs.contains n)) ∧ ∃ q, w' = w.drewN q := by
  obtain ⟨a, ca, rfl, -, ha⟩ := ha.open_
  go_enter Tryd.func54, Tryd.ntmps54
  go_wp2
  go_loopw [5] (fun v W => ∃ k q : Nat, k ≤ xs.length ∧ v = .int .i64 k ∧ W = w.drewN q ∧ ∀ j, j < k → ¬ xs[j]?.getD 0 = n) (fun v _ => xs.length - (intOf v).toNat)
  case atStart => exact ⟨0, 0, by omega, rfl, rfl, fun j hj => by omega⟩
  case round =>
    obtain ⟨k, q, hk, rfl, rfl, ht⟩ := hrel
    have HT : Hid (∀ j, j < k → ¬ xs[j]?.getD 0 = n) := ht
    clear ht
    by_cases hlt : k < xs.length
    · obtain ⟨b1, o1, rfl, -, -, c1⟩ := ha (by omega)
      have g1 := c1 k hlt
      clear c1 ha
      obtain ⟨x, hxe⟩ : ∃ x, xs[k]?.getD 0 = x := ⟨_, rfl⟩
      rw [hxe] at g1
      have HX : Hid (xs[k]?.getD 0 = x) := hxe
      clear hxe
      by_cases heq : x = n
      · subst heq
        go_wp2
        go_ret
        exact ⟨by rw [contains_at hlt HX.out]; rfl, _, rfl⟩
      · have hne : (x == n) = false := by simpa using heq
        have HE : Hid (¬ x = n) := heq
        clear heq
        go_wp2
        go_roundw
        case rel => exact ⟨k + 1, _, by omega, by go_num, rfl, fun j hj => by
          by_cases e : j = k
          · subst e; rw [HX.out]; exact HE.out
          · exact HT.out j (by omega)⟩
        case measure => simp [intOf]; omega
    · clear ha
      go_wp2
      go_ret
      exact ⟨by rw [contains_upto HT.out (by omega)]; rfl, q, rfl⟩

end Go.Proofs.YtmaopnbnbiediaaDoor
