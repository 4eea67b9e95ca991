/- The reference's answer of words that are too many, or none of the group's. What the reference's SameInts answers. -/
import Derived.Test.YthcgabghkbgccaaDoorGrpCosR
import Derived.Test.YthcgabghkbgccaaDoorGrpBad
import Derived.Test.YthcgabghkbgccaaDoorBase
import Derived.BigQuiet
import Derived.Deep.QuietTactic
namespace Go.Proofs.YthcgabghkbgccaaDoor
open Go.RowKit Go.Sort

set_option maxRecDepth 100000 in
set_option maxHeartbeats 4000000 in
theorem cosetsR_bad {n i : Nat} (vr vw : Value) (rels words : List (List Int)) (w : World) (hr : FewAt w vr rels) (hw : ThouAt w vw words) (hn : n ≤ 12) (hb : BadW n words i) :
    Calls Tryd.prog 8 #[.agg #[.int .i64 (n : Int), vr], vw, .int .i64 120] w fun e w' => e = .returned (.tuple #[.slice none 0 0, .int .i64 ((i : Int) + 1), .bool true]) ∧ Below w.heap.size w w' := by
  obtain ⟨ar, cr, rfl, -, -⟩ := hr.rows.open_
  obtain ⟨aw, cw, rfl, -, -⟩ := hw.rows.open_
  have hBa : Below w.heap.size w (w.alloc (.cells #[.int .i64 (n : Int), .slice ar rels.length cr] 24)) := (Below.refl _ w).alloc (Nat.le_refl _) _
  have hnew := cells_new w [.int .i64 (n : Int), .slice ar rels.length cr] 24
  have q0 := hnew 0 _ rfl
  have q1 := hnew 1 _ rfl
  rw [Addr.add_lit, Nat.zero_add] at q0 q1
  obtain ⟨W0, hW0⟩ : ∃ W0, w.alloc (.cells #[.int .i64 (n : Int), .slice ar rels.length cr] 24) = W0 := ⟨_, rfl⟩
  obtain ⟨gb, hgb⟩ : ∃ gb, w.heap.size = gb := ⟨_, rfl⟩
  rw [show (List.toArray [Value.int .i64 (n : Int), .slice ar rels.length cr]) = #[.int .i64 (n : Int), .slice ar rels.length cr] from rfl, hW0, hgb] at q0 q1
  have HB0 : Hid (Below w.heap.size w W0) := by rw [← hW0]; exact hBa
  have HG : Hid (w.alloc (.cells #[.int .i64 (n : Int), .slice ar rels.length cr] 24) = W0 ∧ w.heap.size = gb) := ⟨hW0, hgb⟩
  have HQ : Hid (∀ V, Below W0.heap.size W0 V → V.cell? ⟨gb, 0, none⟩ = some (.int .i64 (n : Int)) ∧ V.cell? ⟨gb, 1, none⟩ = some (.slice ar rels.length cr)) := fun V hV => ⟨(hV.cell (p := ⟨gb, 0, none⟩) (cell_lt q0)).trans q0, (hV.cell (p := ⟨gb, 1, none⟩) (cell_lt q1)).trans q1⟩
  have hle : Calls Tryd.prog 6 #[.slice aw words.length cw] W0 fun e w' => ∃ au cu, e = .returned (.slice au words.flatten.length cu) ∧ Ints w' (.slice au words.flatten.length cu) words.flatten ∧ Below W0.heap.size W0 w' := (letters_ _ words W0 (hw.rows.below HB0.out) (by have := hw.few; omega) (by have := hw.short; omega)).mono fun e w' hh => by
    obtain ⟨u, rfl, hi, hb⟩ := hh
    obtain ⟨au, cu, rfl, -, -⟩ := hi.open_
    exact ⟨au, cu, rfl, hi, hb⟩
  have HLO : Hid (∀ (V : World) (au : Option Addr) (cu : Nat), Ints V (.slice au words.flatten.length cu) words.flatten → Calls Tryd.prog 14 #[.agg #[.int .i64 (n : Int), .slice ar rels.length cr], .slice au words.flatten.length cu] V fun e w' => e = .returned (.bool (decide (LettersIn n words.flatten))) ∧ Below V.heap.size V w') := fun V au cu hV => lettersOfRef_ n _ _ words.flatten V hV (by have := hw.short; omega) hn
  have hf2 := hw.few
  have hf3 := hw.short
  unfold BadW at hb
  obtain ⟨lr, hlr⟩ : ∃ lr, rels.length = lr := ⟨_, rfl⟩
  obtain ⟨lw, hlw2⟩ : ∃ lw, words.length = lw := ⟨_, rfl⟩
  obtain ⟨tot, htt⟩ : ∃ tot, words.flatten.length = tot := ⟨_, rfl⟩
  have hf1 := hr.few
  rw [hlr] at HQ HG q1 hf1 HLO ⊢
  rw [hlw2] at hf2 hle hb ⊢
  rw [htt] at hf3 hle HLO hb
  rcases hb with ⟨rfl, hb⟩ | ⟨rfl, hb, hl⟩
  · clear hr hw hBa hnew hW0 hgb hlr hlw2 htt HLO
    by_cases h4 : 400 < lw
    · go_enter Tryd.func8, Tryd.ntmps8
      go_upto_region 1 with fail
      rw [HG.out.1, HG.out.2]
      go_wp2_with (first
        | (go_at_call 6; refine hle.mono ?_; rintro e V1 ⟨au, cu, rfl, hi1, hb1⟩; have H1 := Hid.mk' hb1; clear hi1 hb1 hle)
        | fail)
      refine bodyPost_ret (v := .tuple #[.slice none 0 0, .int .i64 2, .bool true]) ?_ rfl ⟨rfl, HB0.out.trans (H1.out.mono HB0.out.size)⟩
      simp [results, Tryd.f8, go_sem]
    · have h5 : 400 < tot := by omega
      go_enter Tryd.func8, Tryd.ntmps8
      go_upto_region 1 with fail
      rw [HG.out.1, HG.out.2]
      go_wp2_with (first
        | (go_at_call 6; refine hle.mono ?_; rintro e V1 ⟨au, cu, rfl, hi1, hb1⟩; have H1 := Hid.mk' hb1; clear hi1 hb1 hle)
        | fail)
      refine bodyPost_ret (v := .tuple #[.slice none 0 0, .int .i64 2, .bool true]) ?_ rfl ⟨rfl, HB0.out.trans (H1.out.mono HB0.out.size)⟩
      simp [results, Tryd.f8, go_sem]
  · have h4 : ¬ 400 < lw := by omega
    have h5 : ¬ 400 < tot := by omega
    have HF : Hid (decide (LettersIn n words.flatten) = false) := decide_eq_false hl
    rw [HF.out] at HLO
    clear hr hw hBa hnew hW0 hgb hlr hlw2 htt hl hb
    go_enter Tryd.func8, Tryd.ntmps8
    go_upto_region 1 with fail
    rw [HG.out.1, HG.out.2]
    go_upto_region 4 with (go_at_call 6; refine hle.mono ?_; rintro e V1 ⟨au, cu, rfl, hi1, hb1⟩; have H1 := Hid.mk' (And.intro hi1 hb1); clear hi1 hb1 hle)
    have hlo := HLO.out V1 au cu H1.out.1
    have r0 := (HQ.out V1 H1.out.2).1
    have r1 := (HQ.out V1 H1.out.2).2
    go_wp2_with (first
      | (go_at_call 14; refine hlo.mono ?_; rintro e V2 ⟨rfl, hb2⟩; have H2 : Hid (Below W0.heap.size W0 V2) := H1.out.2.trans (hb2.mono H1.out.2.size); clear hb2 hlo)
      | fail)
    refine bodyPost_ret (v := .tuple #[.slice none 0 0, .int .i64 3, .bool true]) ?_ rfl ⟨rfl, HB0.out.trans (H2.out.mono HB0.out.size)⟩
    simp [results, Tryd.f8, go_sem]

end Go.Proofs.YthcgabghkbgccaaDoor

namespace Go.Proofs.YthcgabghkbgccaaDoor
open Go.RowKit Go.Sort

theorem take_snoc {xs ys : List Int} {k : Nat} (h : xs.take k = ys.take k) (hx : k < xs.length) (hy : k < ys.length) (e : xs[k]?.getD 0 = ys[k]?.getD 0) : xs.take (k + 1) = ys.take (k + 1) := by
  rw [List.take_add_one, List.take_add_one, h]
  simp [hx, hy] at e
  simp [hx, hy, e]

theorem ne_at {xs ys : List Int} {k : Nat} (e : ¬ xs[k]?.getD 0 = ys[k]?.getD 0) : xs ≠ ys := fun h => e (by rw [h])

theorem same_ints (va vb : Value) (xs ys : List Int) (w : World) (ha : Ints w va xs) (hb : Ints w vb ys) (hx : xs.length ≤ 1000000) :
    Calls Tryd.prog 27 #[va, vb] w fun e w' => e = .returned (.bool (decide (xs = ys))) ∧ ∃ q, w' = w.drewN q := by
  obtain ⟨a, ca, rfl, -, ha⟩ := ha.open_
  obtain ⟨b, cb, rfl, -, hb⟩ := hb.open_
  by_cases hl : xs.length = ys.length
  · rw [← hl]
    go_enter Tryd.func27, Tryd.ntmps27
    go_wp2
    go_loopw [5] (fun v W => ∃ k q : Nat, k ≤ xs.length ∧ v = .int .i64 k ∧ W = w.drewN q ∧ xs.take k = ys.take k) (fun v _ => xs.length - (intOf v).toNat)
    case atStart => exact ⟨0, 0, by omega, rfl, rfl, by simp⟩
    case round =>
      obtain ⟨k, q, hk, rfl, rfl, ht⟩ := hrel
      have HT : Hid (xs.take k = ys.take k) := ht
      have HL : Hid (xs.length = ys.length) := hl
      have hy' : k < xs.length → k < ys.length := by omega
      clear ht hl
      by_cases hlt : k < xs.length
      · obtain ⟨b1, o1, rfl, -, -, c1⟩ := ha (by omega)
        obtain ⟨b2, o2, rfl, -, -, c2⟩ := hb (by have := hy' hlt; omega)
        have g1 := c1 k hlt
        have g2 := c2 k (hy' hlt)
        clear c1 c2 ha hb
        obtain ⟨x, hxe⟩ : ∃ x, xs[k]?.getD 0 = x := ⟨_, rfl⟩
        obtain ⟨y, hye⟩ : ∃ y, ys[k]?.getD 0 = y := ⟨_, rfl⟩
        rw [hxe] at g1
        rw [hye] at g2
        have HX : Hid (xs[k]?.getD 0 = x) := hxe
        have HY : Hid (ys[k]?.getD 0 = y) := hye
        clear hxe hye
        by_cases heq : x = y
        · subst heq
          go_wp2_with fail
          go_quiet (fail)
          go_wp2
          go_roundw
          case rel => exact ⟨k + 1, _, by omega, by go_num, rfl, take_snoc HT.out hlt (hy' hlt) (HX.out.trans HY.out.symm)⟩
          case measure => simp [intOf]; omega
        · have hne : (x != y) = true := by simpa using heq
          have HE : Hid (¬ x = y) := heq
          clear heq
          go_wp2_with fail
          go_quiet (fail)
          go_wp2
          go_ret
          exact ⟨by rw [decide_eq_false (ne_at (fun h => HE.out (by rw [← HX.out, ← HY.out, h])))]; rfl, q + nq, by rw [World.drewN_drewN]⟩
      · clear ha hb
        go_wp2
        go_ret
        refine ⟨?_, q, rfl⟩
        have h1 := HT.out
        have h2 := HL.out
        rw [List.take_of_length_le (by omega), List.take_of_length_le (by omega)] at h1
        rw [decide_eq_true h1]; rfl
  · have hne : xs ≠ ys := fun h => hl (by rw [h])
    go_enter Tryd.func27, Tryd.ntmps27
    clear ha hb
    go_wp2
    go_ret
    exact ⟨by rw [decide_eq_false hne]; rfl, 0, rfl⟩

end Go.Proofs.YthcgabghkbgccaaDoor
