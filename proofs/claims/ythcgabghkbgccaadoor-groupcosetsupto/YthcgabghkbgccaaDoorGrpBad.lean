/- What Valid and Cosets answer of groups and words that are none. -/
import Derived.Test.YthcgabghkbgccaaDoorGrpThou
import Derived.Test.YthcgabghkbgccaaDoorGrpRef2
namespace Go.Proofs.YthcgabghkbgccaaDoor
open Go.RowKit Go.Sort

/-- An error's value. -/
def esV (p : Addr) : Value := .iface 123 (.pointer (some p))

set_option maxRecDepth 100000 in
set_option maxHeartbeats 2000000 in
theorem checkB_ {a : Nat → Addr} {sx : Nat → ByteArray} (n : Int) (v : Value) (wss : List (List Int)) (w : World) (hE : Errs a sx w) (h : ThouAt w v wss) (hb : 400 < wss.length ∨ 400 < wss.flatten.length) :
    Calls Tryd.prog 19 #[v, .int .i64 n] w fun e w' => e = .returned (esV (a 1)) ∧ w' = w := by
  have hlo := lettersOf_ v wss w h.rows (by have := h.few; omega) (by have := h.short; omega)
  have g1 := hE.glob 1 (by simp)
  rw [show gl 1 = 0 from rfl] at g1
  have h1 := h.few
  have h2 := h.short
  obtain ⟨av, cv, rfl, hcv, -⟩ := h.rows.open_
  obtain ⟨m, hm⟩ : ∃ m, wss.length = m := ⟨_, rfl⟩
  obtain ⟨tot, ht⟩ : ∃ tot, wss.flatten.length = tot := ⟨_, rfl⟩
  rw [hm] at hlo hb h1 ⊢
  rw [ht] at hlo hb h2
  unfold esV
  clear h hm ht hE hcv
  by_cases h4 : 400 < m
  · go_enter Tryd.func19, Tryd.ntmps19
    go_wp2_with fail
    go_ret
    exact ⟨rfl, rfl⟩
  · have h5 : 400 < tot := by omega
    go_enter Tryd.func19, Tryd.ntmps19
    go_wp2_with (first
      | (go_at_call 30; refine hlo.mono ?_; rintro e V ⟨rfl, rfl⟩; clear hlo)
      | fail)
    go_ret
    exact ⟨rfl, rfl⟩

/-- Which error words have: the bound, or their letters. -/
def BadW (n : Nat) (wss : List (List Int)) (i : Nat) : Prop := (i = 1 ∧ (400 < wss.length ∨ 400 < wss.flatten.length)) ∨ (i = 2 ∧ ¬ (400 < wss.length ∨ 400 < wss.flatten.length) ∧ ¬ LettersIn n wss.flatten)
theorem check_bad {a : Nat → Addr} {sx : Nat → ByteArray} {n i : Nat} (v : Value) (wss : List (List Int)) (w : World) (hE : Errs a sx w) (h : ThouAt w v wss) (hn : n ≤ 12) (hb : BadW n wss i) :
    Calls Tryd.prog 19 #[v, .int .i64 (n : Int)] w fun e w' => e = .returned (esV (a i)) ∧ w' = w := by
  rcases hb with ⟨rfl, hb⟩ | ⟨rfl, hb, hl⟩
  · exact checkB_ n v wss w hE h hb
  · refine (check_ n v wss w hE h.rows (by omega) (by omega) hn).mono fun e w' h1 => ⟨?_, h1.2⟩
    rw [h1.1]
    unfold chkV
    rw [if_neg (fun k => hl ((flat_in n wss).2 k))]
    rfl

set_option maxRecDepth 100000 in
set_option maxHeartbeats 2000000 in
theorem valid_bad {a : Nat → Addr} {sx : Nat → ByteArray} {i : Nat} (n : Int) (v : Value) (rels : List (List Int)) (w : World) (hE : Errs a sx w) (h : ThouAt w v rels) (hg : geP n rels = (i : Int) + 1) :
    Calls Tryd.prog 18 #[.agg #[.int .i64 n, v]] w fun e w' => e = .returned (esV (a i)) ∧ Below w.heap.size w w' := by
  have HV := Hid.mk' h
  obtain ⟨av, cv, rfl, hcv, -⟩ := h.rows.open_
  have hBa : Below w.heap.size w (w.alloc (.cells #[.int .i64 n, .slice av rels.length cv] 35)) := (Below.refl _ w).alloc (Nat.le_refl _) _
  have hnew := cells_new w [.int .i64 n, .slice av rels.length cv] 35
  have q0 := hnew 0 _ rfl
  have q1 := hnew 1 _ rfl
  rw [Addr.add_lit, Nat.zero_add] at q0 q1
  have HB := Hid.mk' hBa
  by_cases hr : n < 0 ∨ 12 < n
  · have hi : i = 1 := by
      unfold geP at hg
      rw [if_pos (by unfold geBound; omega)] at hg
      omega
    subst hi
    have g1 := (hE.below hBa).glob 1 (by simp)
    rw [show gl 1 = 0 from rfl] at g1
    unfold esV
    clear h hE hBa hnew hcv hg
    by_cases h0 : n < 0
    · go_enter Tryd.func18, Tryd.ntmps18
      go_wp2_with fail
      go_ret
      exact ⟨rfl, HB.out⟩
    · have h12 : 12 < n := by omega
      go_enter Tryd.func18, Tryd.ntmps18
      go_wp2_with fail
      go_ret
      exact ⟨rfl, HB.out⟩
  · obtain ⟨k, rfl⟩ : ∃ k : Nat, n = (k : Int) := ⟨n.toNat, by omega⟩
    have hk : k ≤ 12 := by omega
    have hbad : BadW k rels i := by
      unfold geP at hg
      by_cases hb : geBound (k : Int) rels
      · rw [if_pos hb] at hg
        unfold geBound at hb
        exact .inl ⟨by omega, by omega⟩
      · rw [if_neg hb] at hg
        by_cases hl : LettersIn k rels.flatten
        · rw [Int.toNat_natCast, if_pos hl] at hg; omega
        · rw [Int.toNat_natCast, if_neg hl] at hg
          unfold geBound at hb
          exact .inr ⟨by omega, by omega, hl⟩
    have hck := check_bad (.slice av rels.length cv) rels _ (hE.below hBa) (h.below hBa) hk hbad
    clear h hE hBa hnew hcv hg hbad
    go_enter Tryd.func18, Tryd.ntmps18
    go_wp2_with (first
      | (go_at_call 19; refine hck.mono ?_; rintro e V ⟨rfl, rfl⟩; clear hck)
      | fail)
    go_ret
    exact ⟨rfl, HB.out⟩

set_option maxRecDepth 100000 in
set_option maxHeartbeats 2000000 in
theorem cosets_bad {a : Nat → Addr} {sx : Nat → ByteArray} {i : Nat} (n : Int) (vr vw : Value) (rels words : List (List Int)) (w : World) (hE : Errs a sx w) (hr : ThouAt w vr rels) (hw : ThouAt w vw words) (hg : geP n rels = (i : Int) + 1 ∨ (∃ k : Nat, n = (k : Int) ∧ k ≤ 12 ∧ geP n rels = 0 ∧ BadW k words i)) :
    Calls Tryd.prog 10 #[.agg #[.int .i64 n, vr], vw] w fun e w' => e = .returned (.tuple #[.slice none 0 0, esV (a i)]) ∧ Below w.heap.size w w' := by
  have HE := Hid.mk' hE
  have HW := Hid.mk' hw
  obtain ⟨ar, cr, rfl, -, -⟩ := hr.rows.open_
  obtain ⟨aw, cw, rfl, -, -⟩ := hw.rows.open_
  have hBa : Below w.heap.size w (w.alloc (.cells #[.int .i64 n, .slice ar rels.length cr] 35)) := (Below.refl _ w).alloc (Nat.le_refl _) _
  have hnew := cells_new w [.int .i64 n, .slice ar rels.length cr] 35
  have q0 := hnew 0 _ rfl
  have q1 := hnew 1 _ rfl
  rw [Addr.add_lit, Nat.zero_add] at q0 q1
  obtain ⟨W0, hW0⟩ : ∃ W0, w.alloc (.cells #[.int .i64 n, .slice ar rels.length cr] 35) = W0 := ⟨_, rfl⟩
  obtain ⟨gb, hgb⟩ : ∃ gb, w.heap.size = gb := ⟨_, rfl⟩
  rw [show (List.toArray [Value.int .i64 n, .slice ar rels.length cr]) = #[.int .i64 n, .slice ar rels.length cr] from rfl, hW0, hgb] at q0 q1
  have HB0 : Hid (Below w.heap.size w W0) := by rw [← hW0]; exact hBa
  have HG : Hid (w.alloc (.cells #[.int .i64 n, .slice ar rels.length cr] 35) = W0 ∧ w.heap.size = gb) := ⟨hW0, hgb⟩
  have hr4 := hr.few
  have hw4 := hw.few
  obtain ⟨E, hEE⟩ : ∃ E, esV (a i) = E := ⟨_, rfl⟩
  have HEE : Hid (∃ p, E = .iface 123 p) := ⟨_, by rw [← hEE]; rfl⟩
  rcases hg with hg | ⟨k, rfl, hk, hg, hbw⟩
  · have hva := valid_bad n (.slice ar rels.length cr) rels W0 (hE.below HB0.out) (hr.below HB0.out) hg
    obtain ⟨lr, hlr⟩ : ∃ lr, rels.length = lr := ⟨_, rfl⟩
    obtain ⟨lw, hlw⟩ : ∃ lw, words.length = lw := ⟨_, rfl⟩
    rw [hlr] at q1 hva HG hr4 ⊢
    rw [hlw] at hw4 ⊢
    rw [hEE] at hva ⊢
    obtain ⟨pe, rfl⟩ := HEE.out
    clear hE hr hw hBa hnew hW0 hgb hlr hlw hg HW hEE
    go_enter Tryd.func10, Tryd.ntmps10
    go_upto_region 1 with fail
    rw [HG.out.1, HG.out.2]
    go_wp2_with (first
      | (go_at_call 18; refine hva.mono ?_; rintro e V1 ⟨rfl, hb⟩; have H1 := Hid.mk' hb; clear hb hva)
      | fail)
    go_ret2
    exact ⟨rfl, HB0.out.trans (H1.out.mono HB0.out.size)⟩
  · have hgood : ¬ geBound (k : Int) rels ∧ LettersIn k rels.flatten := by
      unfold geP at hg
      by_cases hb : geBound (k : Int) rels
      · rw [if_pos hb] at hg; omega
      · rw [if_neg hb] at hg
        by_cases hl : LettersIn k rels.flatten
        · exact ⟨hb, hl⟩
        · rw [Int.toNat_natCast, if_neg hl] at hg; omega
    have hgb2 := hgood.1
    unfold geBound at hgb2
    have hva := valid_ok k (.slice ar rels.length cr) rels W0 (hE.below HB0.out) (hr.rows.below HB0.out) (by omega) (by omega) ((flat_in k rels).1 hgood.2) hk
    have HCK : Hid (∀ V, Below w.heap.size w V → Calls Tryd.prog 19 #[.slice aw words.length cw, .int .i64 (k : Int)] V fun e w' => e = .returned (esV (a i)) ∧ w' = V) := fun V hV => check_bad _ words V (HE.out.below hV) (HW.out.below hV) hk hbw
    obtain ⟨lr, hlr⟩ : ∃ lr, rels.length = lr := ⟨_, rfl⟩
    obtain ⟨lw, hlw⟩ : ∃ lw, words.length = lw := ⟨_, rfl⟩
    rw [hlr] at q1 hva HG hr4 ⊢
    rw [hlw] at hw4 HCK ⊢
    rw [hEE] at HCK ⊢
    obtain ⟨pe, rfl⟩ := HEE.out
    clear hE hr hw hBa hnew hW0 hgb hlr hlw hg HW hEE hgood hgb2 hbw
    go_enter Tryd.func10, Tryd.ntmps10
    go_upto_region 1 with fail
    rw [HG.out.1, HG.out.2]
    go_upto_region 4 with (go_at_call 18; refine hva.mono ?_; rintro e V1 ⟨rfl, hb⟩; have H1 := Hid.mk' hb; clear hb hva)
    have HB1 : Hid (Below w.heap.size w V1) := HB0.out.trans (H1.out.mono HB0.out.size)
    have r0 := (H1.out.cell (p := ⟨gb, 0, none⟩) (cell_lt q0)).trans q0
    have r1 := (H1.out.cell (p := ⟨gb, 1, none⟩) (cell_lt q1)).trans q1
    have hck := HCK.out V1 HB1.out
    clear q0 q1 H1
    go_wp2_with (first
      | (go_at_call 19; refine hck.mono ?_; rintro e V ⟨rfl, rfl⟩; clear hck)
      | fail)
    go_ret2
    exact ⟨rfl, HB1.out⟩

end Go.Proofs.YthcgabghkbgccaaDoor
