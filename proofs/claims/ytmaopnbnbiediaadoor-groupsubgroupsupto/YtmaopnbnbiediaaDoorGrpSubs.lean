/- What Valid and Cosets answer of groups and words that are none. What Subgroups answers. -/
import Derived.Test.YtmaopnbnbiediaaDoorGrpCopy0
import Derived.Test.YtmaopnbnbiediaaDoorGrpRef2
import Derived.Test.YtmaopnbnbiediaaDoorGrpWays
namespace Go.Proofs.YtmaopnbnbiediaaDoor
open Go.RowKit Go.Sort

/-- An error's value. -/
def esV (p : Addr) : Value := .iface 132 (.pointer (some p))

set_option maxRecDepth 100000 in
set_option maxHeartbeats 2000000 in
theorem checkB_ {a : Nat → Addr} {sx : Nat → ByteArray} (n : Int) (v : Value) (wss : List (List Int)) (w : World) (hE : Errs a sx w) (h : ThouAt w v wss) (hb : 400 < wss.length ∨ 400 < wss.flatten.length) :
    Calls Tryd.prog 32 #[v, .int .i64 n] w fun e w' => e = .returned (esV (a 1)) ∧ w' = w := by
  have hlo := lettersOf_ v wss w h.rows (by have := h.few; omega) (by have := h.short; omega)
  have g1 := hE.glob 1 (by simp)
  rw [show gl 1 = 0 from rfl] at g1
  have h1 := h.few
  have h2 := h.short
  obtain ⟨av, cv, rfl, hcv, -⟩ := h.rows.open_
  obtain ⟨m, hm⟩ : ∃ m, wss.length = m := ⟨_, rfl⟩
  obtain ⟨tot, ht⟩ : ∃ tot, wss.flatten.length = tot := ⟨_, rfl⟩
  rw [hm] at hlo hb h1 ⊢
  rw [ht] at hlo hb h2
  unfold esV
  clear h hm ht hE hcv
  by_cases h4 : 400 < m
  · go_enter Tryd.func32, Tryd.ntmps32
    go_wp2_with fail
    go_ret
    exact ⟨rfl, rfl⟩
  · have h5 : 400 < tot := by omega
    go_enter Tryd.func32, Tryd.ntmps32
    go_wp2_with (first
      | (go_at_call 50; refine hlo.mono ?_; rintro e V ⟨rfl, rfl⟩; clear hlo)
      | fail)
    go_ret
    exact ⟨rfl, rfl⟩

/-- Which error words have: the bound, or their letters. -/
def BadW (n : Nat) (wss : List (List Int)) (i : Nat) : Prop := (i = 1 ∧ (400 < wss.length ∨ 400 < wss.flatten.length)) ∨ (i = 2 ∧ ¬ (400 < wss.length ∨ 400 < wss.flatten.length) ∧ ¬ LettersIn n wss.flatten)
theorem check_bad {a : Nat → Addr} {sx : Nat → ByteArray} {n i : Nat} (v : Value) (wss : List (List Int)) (w : World) (hE : Errs a sx w) (h : ThouAt w v wss) (hn : n ≤ 12) (hb : BadW n wss i) :
    Calls Tryd.prog 32 #[v, .int .i64 (n : Int)] w fun e w' => e = .returned (esV (a i)) ∧ w' = w := by
  rcases hb with ⟨rfl, hb⟩ | ⟨rfl, hb, hl⟩
  · exact checkB_ n v wss w hE h hb
  · refine (check_ n v wss w hE h.rows (by omega) (by omega) hn).mono fun e w' h1 => ⟨?_, h1.2⟩
    rw [h1.1]
    unfold chkV
    rw [if_neg (fun k => hl ((flat_in n wss).2 k))]
    rfl

set_option maxRecDepth 100000 in
set_option maxHeartbeats 2000000 in
theorem valid_bad {a : Nat → Addr} {sx : Nat → ByteArray} {i : Nat} (n : Int) (v : Value) (rels : List (List Int)) (w : World) (hE : Errs a sx w) (h : ThouAt w v rels) (hg : geP n rels = (i : Int) + 1) :
    Calls Tryd.prog 18 #[.agg #[.int .i64 n, v]] w fun e w' => e = .returned (esV (a i)) ∧ Below w.heap.size w w' := by
  have HV := Hid.mk' h
  obtain ⟨av, cv, rfl, hcv, -⟩ := h.rows.open_
  have hBa : Below w.heap.size w (w.alloc (.cells #[.int .i64 n, .slice av rels.length cv] 33)) := (Below.refl _ w).alloc (Nat.le_refl _) _
  have hnew := cells_new w [.int .i64 n, .slice av rels.length cv] 33
  have q0 := hnew 0 _ rfl
  have q1 := hnew 1 _ rfl
  rw [Addr.add_lit, Nat.zero_add] at q0 q1
  have HB := Hid.mk' hBa
  by_cases hr : n < 0 ∨ 12 < n
  · have hi : i = 1 := by
      unfold geP at hg
      rw [if_pos (by unfold geBound; omega)] at hg
      omega
    subst hi
    have g1 := (hE.below hBa).glob 1 (by simp)
    rw [show gl 1 = 0 from rfl] at g1
    unfold esV
    clear h hE hBa hnew hcv hg
    by_cases h0 : n < 0
    · go_enter Tryd.func18, Tryd.ntmps18
      go_wp2_with fail
      go_ret
      exact ⟨rfl, HB.out⟩
    · have h12 : 12 < n := by omega
      go_enter Tryd.func18, Tryd.ntmps18
      go_wp2_with fail
      go_ret
      exact ⟨rfl, HB.out⟩
  · obtain ⟨k, rfl⟩ : ∃ k : Nat, n = (k : Int) := ⟨n.toNat, by omega⟩
    have hk : k ≤ 12 := by omega
    have hbad : BadW k rels i := by
      unfold geP at hg
      by_cases hb : geBound (k : Int) rels
      · rw [if_pos hb] at hg
        unfold geBound at hb
        exact .inl ⟨by omega, by omega⟩
      · rw [if_neg hb] at hg
        by_cases hl : LettersIn k rels.flatten
        · rw [Int.toNat_natCast, if_pos hl] at hg; omega
        · rw [Int.toNat_natCast, if_neg hl] at hg
          unfold geBound at hb
          exact .inr ⟨by omega, by omega, hl⟩
    have hck := check_bad (.slice av rels.length cv) rels _ (hE.below hBa) (h.below hBa) hk hbad
    clear h hE hBa hnew hcv hg hbad
    go_enter Tryd.func18, Tryd.ntmps18
    go_wp2_with (first
      | (go_at_call 32; refine hck.mono ?_; rintro e V ⟨rfl, rfl⟩; clear hck)
      | fail)
    go_ret
    exact ⟨rfl, HB.out⟩

set_option maxRecDepth 100000 in
set_option maxHeartbeats 2000000 in
theorem cosets_bad {a : Nat → Addr} {sx : Nat → ByteArray} {i : Nat} (n : Int) (vr vw : Value) (rels words : List (List Int)) (w : World) (hE : Errs a sx w) (hr : ThouAt w vr rels) (hw : ThouAt w vw words) (hg : geP n rels = (i : Int) + 1 ∨ (∃ k : Nat, n = (k : Int) ∧ k ≤ 12 ∧ geP n rels = 0 ∧ BadW k words i)) :
    Calls Tryd.prog 14 #[.agg #[.int .i64 n, vr], vw] w fun e w' => e = .returned (.tuple #[.slice none 0 0, esV (a i)]) ∧ Below w.heap.size w w' := by
  have HE := Hid.mk' hE
  have HW := Hid.mk' hw
  obtain ⟨ar, cr, rfl, -, -⟩ := hr.rows.open_
  obtain ⟨aw, cw, rfl, -, -⟩ := hw.rows.open_
  have hBa : Below w.heap.size w (w.alloc (.cells #[.int .i64 n, .slice ar rels.length cr] 33)) := (Below.refl _ w).alloc (Nat.le_refl _) _
  have hnew := cells_new w [.int .i64 n, .slice ar rels.length cr] 33
  have q0 := hnew 0 _ rfl
  have q1 := hnew 1 _ rfl
  rw [Addr.add_lit, Nat.zero_add] at q0 q1
  obtain ⟨W0, hW0⟩ : ∃ W0, w.alloc (.cells #[.int .i64 n, .slice ar rels.length cr] 33) = W0 := ⟨_, rfl⟩
  obtain ⟨gb, hgb⟩ : ∃ gb, w.heap.size = gb := ⟨_, rfl⟩
  rw [show (List.toArray [Value.int .i64 n, .slice ar rels.length cr]) = #[.int .i64 n, .slice ar rels.length cr] from rfl, hW0, hgb] at q0 q1
  have HB0 : Hid (Below w.heap.size w W0) := by rw [← hW0]; exact hBa
  have HG : Hid (w.alloc (.cells #[.int .i64 n, .slice ar rels.length cr] 33) = W0 ∧ w.heap.size = gb) := ⟨hW0, hgb⟩
  have hr4 := hr.few
  have hw4 := hw.few
  obtain ⟨E, hEE⟩ : ∃ E, esV (a i) = E := ⟨_, rfl⟩
  have HEE : Hid (∃ p, E = .iface 132 p) := ⟨_, by rw [← hEE]; rfl⟩
  rcases hg with hg | ⟨k, rfl, hk, hg, hbw⟩
  · have hva := valid_bad n (.slice ar rels.length cr) rels W0 (hE.below HB0.out) (hr.below HB0.out) hg
    obtain ⟨lr, hlr⟩ : ∃ lr, rels.length = lr := ⟨_, rfl⟩
    obtain ⟨lw, hlw⟩ : ∃ lw, words.length = lw := ⟨_, rfl⟩
    rw [hlr] at q1 hva HG hr4 ⊢
    rw [hlw] at hw4 ⊢
    rw [hEE] at hva ⊢
    obtain ⟨pe, rfl⟩ := HEE.out
    clear hE hr hw hBa hnew hW0 hgb hlr hlw hg HW hEE
    go_enter Tryd.func14, Tryd.ntmps14
    go_upto_region 1 with fail
    rw [HG.out.1, HG.out.2]
    go_wp2_with (first
      | (go_at_call 18; refine hva.mono ?_; rintro e V1 ⟨rfl, hb⟩; have H1 := Hid.mk' hb; clear hb hva)
      | fail)
    go_ret2
    exact ⟨rfl, HB0.out.trans (H1.out.mono HB0.out.size)⟩
  · have hgood : ¬ geBound (k : Int) rels ∧ LettersIn k rels.flatten := by
      unfold geP at hg
      by_cases hb : geBound (k : Int) rels
      · rw [if_pos hb] at hg; omega
      · rw [if_neg hb] at hg
        by_cases hl : LettersIn k rels.flatten
        · exact ⟨hb, hl⟩
        · rw [Int.toNat_natCast, if_neg hl] at hg; omega
    have hgb2 := hgood.1
    unfold geBound at hgb2
    have hva := valid_ok k (.slice ar rels.length cr) rels W0 (hE.below HB0.out) (hr.rows.below HB0.out) (by omega) (by omega) ((flat_in k rels).1 hgood.2) hk
    have HCK : Hid (∀ V, Below w.heap.size w V → Calls Tryd.prog 32 #[.slice aw words.length cw, .int .i64 (k : Int)] V fun e w' => e = .returned (esV (a i)) ∧ w' = V) := fun V hV => check_bad _ words V (HE.out.below hV) (HW.out.below hV) hk hbw
    obtain ⟨lr, hlr⟩ : ∃ lr, rels.length = lr := ⟨_, rfl⟩
    obtain ⟨lw, hlw⟩ : ∃ lw, words.length = lw := ⟨_, rfl⟩
    rw [hlr] at q1 hva HG hr4 ⊢
    rw [hlw] at hw4 HCK ⊢
    rw [hEE] at HCK ⊢
    obtain ⟨pe, rfl⟩ := HEE.out
    clear hE hr hw hBa hnew hW0 hgb hlr hlw hg HW hEE hgood hgb2 hbw
    go_enter Tryd.func14, Tryd.ntmps14
    go_upto_region 1 with fail
    rw [HG.out.1, HG.out.2]
    go_upto_region 4 with (go_at_call 18; refine hva.mono ?_; rintro e V1 ⟨rfl, hb⟩; have H1 := Hid.mk' hb; clear hb hva)
    have HB1 : Hid (Below w.heap.size w V1) := HB0.out.trans (H1.out.mono HB0.out.size)
    have r0 := (H1.out.cell (p := ⟨gb, 0, none⟩) (cell_lt q0)).trans q0
    have r1 := (H1.out.cell (p := ⟨gb, 1, none⟩) (cell_lt q1)).trans q1
    have hck := HCK.out V1 HB1.out
    clear q0 q1 H1
    go_wp2_with (first
      | (go_at_call 32; refine hck.mono ?_; rintro e V ⟨rfl, rfl⟩; clear hck)
      | fail)
    go_ret2
    exact ⟨rfl, HB1.out⟩

end Go.Proofs.YtmaopnbnbiediaaDoor

namespace Go.Proofs.YtmaopnbnbiediaaDoor
open Go.RowKit Go.Sort

/-- A slice of tables. -/
def Tabs (W : World) (v : Value) (L : List (List (List Int))) : Prop := ∃ us : List Value, SliceIn anyBlock W v us ∧ us.length = L.length ∧ ∀ (j : Nat) (u : Value) (T : List (List Int)), us[j]? = some u → L[j]? = some T → Rows W u T
theorem Tabs.below {W W' : World} {v : Value} {L : List (List (List Int))} (h : Tabs W v L) (hB : Below W.heap.size W W') : Tabs W' v L := by
  obtain ⟨us, h1, h2, h3⟩ := h
  exact ⟨us, h1.below hB, h2, fun j u T hu hT => (h3 j u T hu hT).below hB⟩
theorem Tabs.nil (W : World) : Tabs W (.slice none 0 0) [] := ⟨[], SliceIn.nil _ _, rfl, fun j u T hu => by simp at hu⟩
theorem CIn.tabs {B n gb O : Nat} {vr : Value} {rels : List (List Int)} {G cG : Nat} {rb : Nat → Nat} {W : World} {R : List (List Int)} {L : List (List (List Int))} {vo : Value} {us : List Value} (h : CIn B n gb O vr rels G cG rb W R L vo us) : Tabs W vo L :=
  ⟨us, slice_of_owns h.out (fun _ _ _ => trivial), by have := h.out.1; omega, fun j u T hu hT => (h.each j u T hu hT).any⟩

set_option maxRecDepth 100000 in
set_option maxHeartbeats 4000000 in
theorem subgroups_ok {a : Nat → Addr} {sx : Nat → ByteArray} (n N : Nat) (vr : Value) (rels : List (List Int)) (w : World) (hE : Errs a sx w) (hr : FewAt w vr rels) (hl : ∀ ws ∈ rels, LettersIn n ws) (hn : n ≤ 5) (h0 : 1 ≤ N) (hN : N ≤ 4) (hw : facN N ^ n ≤ 20000) (hs : (subP N n).length ≤ 100000) :
    Calls Tryd.prog 9 #[.agg #[.int .i64 (n : Int), vr], .int .i64 (N : Int)] w fun e w' => ∃ v, e = .returned (.tuple #[v, .nilIface]) ∧ Tabs w' v ((subP N n).filter (keepsB rels)) ∧ Below w.heap.size w w' := by
  obtain ⟨ar, cr, rfl, -, -⟩ := hr.rows.open_
  have hBa : Below w.heap.size w (w.alloc (.cells #[.int .i64 (n : Int), .slice ar rels.length cr] 33)) := (Below.refl _ w).alloc (Nat.le_refl _) _
  have hnew := cells_new w [.int .i64 (n : Int), .slice ar rels.length cr] 33
  have q0 := hnew 0 _ rfl
  have q1 := hnew 1 _ rfl
  rw [Addr.add_lit, Nat.zero_add] at q0 q1
  obtain ⟨W0, hW0⟩ : ∃ W0, w.alloc (.cells #[.int .i64 (n : Int), .slice ar rels.length cr] 33) = W0 := ⟨_, rfl⟩
  obtain ⟨gb, hgb⟩ : ∃ gb, w.heap.size = gb := ⟨_, rfl⟩
  have hs0 : W0.heap.size = gb + 1 := by rw [← hW0, World.size_alloc, hgb]
  rw [show (List.toArray [Value.int .i64 (n : Int), .slice ar rels.length cr]) = #[.int .i64 (n : Int), .slice ar rels.length cr] from rfl, hW0, hgb] at q0 q1
  have HB0 : Hid (Below gb w W0) := by rw [← hW0, ← hgb]; exact hBa
  have hva := valid_ok n (.slice ar rels.length cr) rels W0 (hE.below (by rw [hgb]; exact HB0.out)) (hr.rows.below (by rw [hgb]; exact HB0.out)) hr.few hr.short hl (by omega)
  have HG : Hid (w.alloc (.cells #[.int .i64 (n : Int), .slice ar rels.length cr] 33) = W0 ∧ w.heap.size = gb ∧ W0.heap.size = gb + 1) := ⟨hW0, hgb, hs0⟩
  have hwy : ∀ V, Calls Tryd.prog 19 #[.int .i64 (N : Int), .int .i64 (n : Int)] V fun e w' => e = .returned (.int .i64 ((facN N ^ n : Nat) : Int)) ∧ w' = V := fun V => ways_ N n V hN hn
  have HRL : Hid (∀ V, Below gb w V → RowsIn (fun b => b < gb) V (.slice ar rels.length cr) rels) := fun V hV => (hr.rows.mono (S' := fun b => b < gb) fun b hb _ => by omega).keep fun b hb hs => hV.block b hs
  have HCO : Hid (∀ (V V3 : World) (O G cG : Nat) (rb : Nat → Nat) (o : Obj), Below gb w V → gb < V.heap.size → V.cell? ⟨gb, 1, none⟩ = some (.slice ar rels.length cr) → V.heap.size = O → (V.alloc (.cells #[.slice none 0 0] 29)).heap.size = O + 1 → TbIn (O + 1) n V3 (blankP N n) G cG rb → Below (O + 1) (V.alloc (.cells #[.slice none 0 0] 29)) V3 → Calls Tryd.prog 21 #[.agg #[.slice (some ⟨G, 0, none⟩) N cG], .int .i64 1, .func (.func 22) #[] #[.pointer (some ⟨gb, 0, none⟩), .pointer (some ⟨O, 0, none⟩)]] V3 fun e w' => e = .returned (.tuple #[]) ∧ ∃ vo', (∃ ao mo co, vo' = .slice ao mo co) ∧ w'.cell? ⟨O, 0, none⟩ = some vo' ∧ Tabs w' vo' ((subP N n).filter (keepsB rels)) ∧ Below gb w w') := fun V V3 O G cG rb _ hV hgV hg1 hO hO1 hT hB3 => by
    have hlen : (blankP N n).length = N := by rw [blankP, List.length_replicate]
    have hBV : Below gb w V3 := by
      have h1 : Below gb V (V.alloc (.cells #[.slice none 0 0] 29)) := (Below.refl _ V).alloc (by omega) _
      exact (hV.trans h1).trans (hB3.mono (by omega))
    have oc0 := cells_new V [.slice none 0 0] 29 0 _ rfl
    rw [Addr.add_lit, Nat.zero_add] at oc0
    have oz0 := froz_new V #[.slice none 0 0] 29 0
    rw [show (List.toArray [Value.slice none 0 0]) = #[.slice none 0 0] from rfl] at oc0
    rw [hO] at oc0 oz0
    have hOl : O < O + 1 := by omega
    have hGO : O + 1 ≤ G := (hT.outer.lt G rfl).1
    have hC : CIn gb n gb O (.slice ar rels.length cr) rels G cG rb V3 (blankP N n) [] (.slice none 0 0) [] := by
      refine ⟨⟨own_down hT.outer (by omega), hT.inner, hT.inj, hT.rg, fun k hk => by have := hT.own k hk; omega, hT.wide, hT.few⟩, ?_, HRL.out V3 hBV, ?_, ?_, World.ownsRow_nil _ _ _ _, fun j u T hu => (by simp at hu), by omega, ⟨by omega, by omega, by simp [Value.ownBlock], by simp [Value.ownBlock], by simp [Value.ownBlock]⟩, fun k hk => ⟨by have := hT.own k hk; omega, by have := hT.own k hk; omega, by simp [Value.ownBlock]⟩⟩
      · have h1 := (World.cell?_alloc_lt V (.cells #[.slice none 0 0] 29) ⟨gb, 1, none⟩ hgV).trans hg1
        exact (hB3.cell (p := ⟨gb, 1, none⟩) (by simp only; omega)).trans h1
      · exact (hB3.cell (p := ⟨O, 0, none⟩) hOl).trans oc0
      · exact (World.frozen?_of_block (a := ⟨O, 0, none⟩) (hB3.block O hOl)).trans oz0
    have h9 := complete_ hr.few hr.short hl (by omega) (N * (2 * n) + 1) (blankP N n) 1 [] _ [] V3 hC (fuel_start N n) (fun c x _ _ => .inl (blank_ent c x)) (by omega) (by rw [hlen]; exact h0) (by have := hs; unfold subP at this; simpa using this)
    rw [hlen] at h9
    refine h9.mono fun e w' hh => ⟨hh.1, ?_⟩
    obtain ⟨vo', us', k1, k2⟩ := hh.2
    refine ⟨vo', ?_, k1.oc, by have := k1.tabs; rw [List.nil_append] at this; exact this, ?_⟩
    · obtain ⟨a1, c1, e1⟩ := own_one k1.out
      exact ⟨_, _, _, e1⟩
    · have h8 := Fr.below' (R := blankP N n) (by rw [hlen]; exact k2) hC
      exact hBV.trans h8
  have hbl : ∀ V, Calls Tryd.prog 20 #[.int .i64 (N : Int), .int .i64 (n : Int)] V fun e w' => ∃ G cG rb, e = .returned (.agg #[.slice (some ⟨G, 0, none⟩) N cG]) ∧ TbIn V.heap.size n w' (blankP N n) G cG rb ∧ Below V.heap.size V w' := fun V => blank_ N n V (by omega) hN (by omega)
  have y0 : ¬ ((N : Int) < 1) := by omega
  have y1 : ¬ ((4 : Int) < (N : Int)) := by omega
  obtain ⟨F, hF⟩ : ∃ F, facN N ^ n = F := ⟨_, rfl⟩
  rw [hF] at hwy hw
  have y2 : ¬ ((20000 : Int) < (F : Int)) := by omega
  clear hr hE hl hs hBa hnew hW0 hgb hs0 hF
  go_enter Tryd.func9, Tryd.ntmps9
  go_upto_region 1 with fail
  rw [HG.out.1, HG.out.2.1]
  go_upto_region 7 with (first
    | (go_at_call 18; refine hva.mono ?_; rintro e V ⟨rfl, hV⟩; have HV := Hid.mk' hV; have x0 := (hV.cell (p := ⟨gb, 0, none⟩) (cell_lt q0)).trans q0; have x1 := (hV.cell (p := ⟨gb, 1, none⟩) (cell_lt q1)).trans q1; have hwy2 := hwy V; clear hva hV)
    | (go_at_call 19; refine hwy2.mono ?_; rintro e V1 ⟨rfl, hV1⟩; subst hV1; clear hwy2)
    | fail)
  obtain ⟨O, hO⟩ : ∃ O, V1.heap.size = O := ⟨_, rfl⟩
  have hBV : Below gb w V1 := HB0.out.trans (HV.out.mono (by rw [HG.out.2.2]; omega))
  have hgV : gb < V1.heap.size := cell_lt x0
  obtain ⟨V2, hV2⟩ : ∃ V2, V1.alloc (.cells #[.slice none 0 0] 29) = V2 := ⟨_, rfl⟩
  have hs2 : V2.heap.size = O + 1 := by rw [← hV2, World.size_alloc, hO]
  have y0' : V2.cell? ⟨gb, 0, none⟩ = some (.int .i64 (n : Int)) := by rw [← hV2]; exact (World.cell?_alloc_lt V1 _ ⟨gb, 0, none⟩ hgV).trans x0
  have HC2 : Hid (∀ (V3 : World) (G cG : Nat) (rb : Nat → Nat), TbIn V2.heap.size n V3 (blankP N n) G cG rb → Below V2.heap.size V2 V3 → Calls Tryd.prog 21 #[.agg #[.slice (some ⟨G, 0, none⟩) N cG], .int .i64 1, .func (.func 22) #[] #[.pointer (some ⟨gb, 0, none⟩), .pointer (some ⟨O, 0, none⟩)]] V3 fun e w' => e = .returned (.tuple #[]) ∧ ∃ vo', (∃ ao mo co, vo' = .slice ao mo co) ∧ w'.cell? ⟨O, 0, none⟩ = some vo' ∧ Tabs w' vo' ((subP N n).filter (keepsB rels)) ∧ Below gb w w') := fun V3 G cG rb hT hB3 => by
    rw [hs2] at hT hB3
    rw [← hV2] at hB3
    exact HCO.out V1 V3 O G cG rb (.cells #[] 0) hBV hgV x1 hO (by rw [hV2]; exact hs2) hT hB3
  have hbl2 := hbl V2
  have HX : Hid (V1.heap.size = O ∧ V1.alloc (.cells #[.slice none 0 0] 29) = V2) := ⟨hO, hV2⟩
  clear hO hV2 hs2 hBV hgV hbl HCO q0 q1
  rw [HX.out.2, HX.out.1]
  go_wp2_with (first
    | (go_at_call 20; refine hbl2.mono ?_; rintro e V3 ⟨G, cG, rb, rfl, hT, hB3⟩; have hco := HC2.out V3 G cG rb hT hB3; clear hbl2 hT hB3)
    | (go_at_call 21; refine hco.mono ?_; rintro e V4 ⟨rfl, vo', ⟨ao, mo, co, hvo⟩, c4, t4, b4⟩; subst hvo; have H4 := Hid.mk' (And.intro t4 b4); clear hco t4 b4)
    | fail)
  go_ret2
  exact ⟨_, rfl, H4.out.1, by rw [HG.out.2.1]; exact H4.out.2⟩

end Go.Proofs.YtmaopnbnbiediaaDoor
