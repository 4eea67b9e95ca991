/- The reference's span of all deltas in a dimension. The reference's SameClass. -/
import Derived.Test.YtiblgnkjjbbmaaaGreatDoorCupRefWith
import Derived.Test.YtiblgnkjjbbmaaaGreatDoorCupRefDelta
namespace Go.Proofs.YtiblgnkjjbbmaaaGreatDoor
open Go.RowKit Go.Sort

theorem withS_len (rows : List Nat) (x : Nat) : (withS rows x).length ≤ rows.length + 1 := by
  unfold withS
  split <;> simp
theorem allS_len : ∀ (rs S : List Nat), (rs.foldl withS S).length ≤ S.length + rs.length
  | [], S => by simp
  | r :: rs, S => by
    rw [List.foldl_cons, List.length_cons]
    have := allS_len rs (withS S r)
    have := withS_len S r
    omega

set_option maxRecDepth 100000 in
set_option maxHeartbeats 2000000 in
theorem deltasOf_zero (va : Value) (all : List (List Int)) (w : World) (ha : Rows w va all) :
    Calls Tryz.prog 38 #[va, .int .i64 0] w fun e w' => ∃ P base v, e = .returned (.pointer (some ⟨P, 0, none⟩)) ∧ SpanIn base P w' v (allS (rowsD all 0)) ∧ Below w.heap.size w w' := by
  obtain ⟨aa, ca, rfl, -, -⟩ := ha.open_
  have q1 := box_new w (.slice none 0 0) 104
  have HE : Hid (SpanIn (w.heap.size + 1) w.heap.size (w.alloc (.cells #[.slice none 0 0] 104)) (.slice none 0 0) (allS (rowsD all 0)) ∧ Below w.heap.size w (w.alloc (.cells #[.slice none 0 0] 104))) :=
    ⟨⟨q1.1, q1.2, OwnRows.nil _ _, by omega, by simp⟩, (Below.refl _ w).alloc (Nat.le_refl _) _⟩
  obtain ⟨A0, hA0⟩ : ∃ A0, all.length = A0 := ⟨_, rfl⟩
  rw [hA0]
  clear ha q1 hA0
  go_enter Tryz.func38, Tryz.ntmps38
  go_wp2_with fail
  go_ret
  exact ⟨_, _, _, rfl, HE.out⟩

set_option maxRecDepth 100000 in
set_option maxHeartbeats 4000000 in
theorem deltasOf_succ (va : Value) (all : List (List Int)) (d : Nat) (hd : d ≤ 90) (w : World) (ha : Rows w va all) (hl : all.length ≤ 60) (hx : ∀ x ∈ all, x.length ≤ 1000) :
    Calls Tryz.prog 38 #[va, .int .i64 ((d : Int) + 1)] w fun e w' => ∃ P base v, e = .returned (.pointer (some ⟨P, 0, none⟩)) ∧ SpanIn base P w' v (allS (rowsD all (d + 1))) ∧ Below w.heap.size w w' := by
  obtain ⟨i0, hi, hz0, hz1, hz2⟩ := info_parts Tryz.info3
  have HDE : Hid (∀ (vf : Value) (f : List Int) (W : World), Below w.heap.size w W → Ints W vf f → f.length ≤ 60 → OkCo (ofDim all (d : Int)).length f → Calls Tryz.prog 13 #[va, .int .i64 (d : Int), vf] W fun e w' => ∃ v, e = .returned v ∧ IntsIn (fun b => W.heap.size ≤ b) w' v (natsI (deltaL all d f)) ∧ Below W.heap.size W w') := fun vf f W hW h1 h2 h3 => deltaOf_ va vf all d (by omega) f W (ha.below hW) hl hx h1 h2 h3
  have HOF : Hid (∀ W, Below w.heap.size w W → Calls Tryz.prog 10 #[va, .int .i64 (d : Int)] W fun e w' => ∃ v, e = .returned v ∧ Rows w' v (ofDim all (d : Int)) ∧ Below W.heap.size W w') := fun W hW => of_dim va all (d : Int) W (ha.below hW) (by omega) hx
  have HD60 : Hid ((ofDim all (d : Int)).length ≤ 60 ∧ (ofDim all ((d + 1 : Nat) : Int)).length ≤ 60) := ⟨Nat.le_trans (ofDim_length _ _) hl, Nat.le_trans (ofDim_length _ _) hl⟩
  have HLT := Hid.mk' (rowsD_lt all (d + 1) (by have := HD60.out.2; omega))
  have HRT := Hid.mk' (rowsD_take all d)
  have HRL : Hid ((rowsD all (d + 1)).length = (ofDim all (d : Int)).length) := by show _ = _; simp [rowsD]
  obtain ⟨aa, ca, rfl, -, -⟩ := ha.open_
  have q1 := box_new w (.slice none 0 0) 104
  have hB0 : Below w.heap.size w (w.alloc (.cells #[.slice none 0 0] 104)) := (Below.refl _ w).alloc (Nat.le_refl _) _
  obtain ⟨W1, hW1⟩ : ∃ W1, w.alloc (.cells #[.slice none 0 0] 104) = W1 := ⟨_, rfl⟩
  have HW1 := Hid.mk' hW1
  have hz1' : W1.heap.size = w.heap.size + 1 := by rw [← hW1]; simp
  rw [hW1] at q1 hB0
  obtain ⟨P, hP⟩ : ∃ P, w.heap.size = P := ⟨_, rfl⟩
  rw [hP] at q1
  have HS1 : Hid (SpanIn (P + 1) P W1 (.slice none 0 0) [] ∧ Below w.heap.size w W1 ∧ w.heap.size = P) := ⟨⟨q1.1, q1.2, OwnRows.nil _ _, by omega, by omega⟩, hB0, hP⟩
  have hof := HOF.out W1 hB0
  have HPP := Hid.mk' hP
  obtain ⟨A0, hA0⟩ : ∃ A0, all.length = A0 := ⟨_, rfl⟩
  rw [hA0] at hof HDE ⊢
  obtain ⟨N, hN⟩ : ∃ N, (ofDim all (d : Int)).length = N := ⟨_, rfl⟩
  have HN := Hid.mk' hN
  have e1 : ((d : Int) + 1 - 1) = (d : Int) := by omega
  have ene : (((d : Int) + 1) == 0) = false := by simp; omega
  clear ha hl hx q1 hB0 hW1 hz1' hP hA0 hN HOF
  go_enter Tryz.func38, Tryz.ntmps38
  go_upto_region 2 with fail
  rw [HW1.out, HPP.out]
  go_wp2_with (simp only [e1])
  refine hof.mono ?_
  clear hof
  rintro e W2 ⟨v2, rfl, hv2, hW2⟩
  have HS2 : Hid (SpanIn (P + 1) P W2 (.slice none 0 0) [] ∧ Below w.heap.size w W2) := ⟨HS1.out.1.below hW2, HS1.out.2.1.trans (hW2.mono HS1.out.2.1.size)⟩
  obtain ⟨a2, c2, rfl, -, -⟩ := hv2.open_
  rw [HN.out]
  have hN6 : N ≤ 60 := by have := HD60.out.1; have := HN.out; omega
  clear hv2 hW2 HS1
  go_wp2_with fail
  go_loopw [7] (fun p W => ∃ (k : Nat) (v : Value), k ≤ N ∧ p = .int .i64 (k : Int) ∧ Hid (SpanIn (P + 1) P W v (allS ((rowsD all (d + 1)).take k)) ∧ Below w.heap.size w W)) (fun p _ => N - (intOf p).toNat)
  case atStart => exact ⟨0, _, by omega, rfl, by simpa [allS] using HS2.out.1, HS2.out.2⟩
  case round =>
    obtain ⟨k, v, hk, rfl, HR⟩ := hrel
    by_cases hlt : k < N
    · obtain ⟨av, cv, rfl⟩ := HR.out.1.form
      go_upto_region 10 with (first
        | (at_builtin; refine wpList_append_slice rfl (.tmp 24) (.tmp 26) 23 rfl wr.heap.size 3 i0 (.int .i64 0) 8 Tryz.underlying23 hi hz0 hz1 hz2 rfl _ _ _ rfl ((World.ownsRow_nil _ _ _ _).alloc _) _ [.int .i64 (k : Int)] rfl (slice_one _ _ _) (by simp [Value.oneCell']) (by simp) (by unfold maxLen; simp) (by simp) ?_; intro v6 w6 hown6 hg6 hl6; replace hg6 : (wr.alloc (.cells #[.int .i64 (k : Int)] 3)).grownBy w6 (Value.slice none 0 0).ownBlock := hg6; replace hown6 : w6.ownsRow wr.heap.size 3 1 v6 1 [.int .i64 (k : Int)] := hown6; obtain ⟨a6, c6, rfl⟩ := own_form hown6)
        | fail)
      have hB6 : Below wr.heap.size wr w6 := ((Below.refl _ wr).alloc (Nat.le_refl _) _).grown hg6 (by simp) (fun j hj => by simp [Value.ownBlock] at hj)
      have hin6 : Ints w6 (.slice a6 1 c6) [(k : Int)] := slice_of_owns (cs := [.int .i64 (k : Int)]) hown6 (fun _ _ _ => trivial)
      have hok : OkCo (ofDim all (d : Int)).length [(k : Int)] := ⟨by simp [Rising], by simp; have := HN.out; omega⟩
      have HS6 : Hid (SpanIn (P + 1) P w6 (.slice av (allS ((rowsD all (d + 1)).take k)).length cv) (allS ((rowsD all (d + 1)).take k)) ∧ Below w.heap.size w w6) := ⟨HR.out.1.below hB6, HR.out.2.trans (hB6.mono HR.out.2.size)⟩
      have hde := HDE.out (.slice a6 1 c6) [(k : Int)] w6 HS6.out.2 hin6 (by simp) hok
      rw [deltaL_eq hok (by have := HD60.out.1; omega) (by have := HD60.out.2; omega), one_face (by omega)] at hde
      clear hown6 hg6 hl6 hin6 hok hB6
      go_wp2_with (simp only [e1])
      refine hde.mono ?_
      clear hde
      rintro e W7 ⟨v7, rfl, hv7, hW7⟩
      have hkl : k < (ofDim all (d : Int)).length := by rw [HN.out]; exact hlt
      have hS7 := HS6.out.1.below hW7
      have hal := all_span ((rowsD all (d + 1)).take k) [] spOk_nil (fun r hr => HLT.out r (List.mem_of_mem_take hr))
      have hdm : dM all d k < 2 ^ 64 := lt64 (dM_lt all d k) (by have := HD60.out.2; omega)
      have hwi := with_ (P + 1) P _ v7 (allS ((rowsD all (d + 1)).take k)) (dM all d k) W7 hS7 (by
        have h1 := allS_len ((rowsD all (d + 1)).take k) []
        have h2 : ((rowsD all (d + 1)).take k).length ≤ k := List.length_take_le _ _
        unfold allS
        simp at h1
        omega) hal.1 hdm (SliceIn.mono hv7 (fun b _ h => ⟨by have := HS6.out.1.size; omega, fun e => by
          obtain ⟨vs, o1, -⟩ := HS6.out.1.rows
          have := (o1.lt b e.symm).2; omega⟩))
      rw [← allS_snoc, ← HRT.out k hkl] at hwi
      have HB7 : Hid (Below w.heap.size w W7) := HS6.out.2.trans (hW7.mono HS6.out.2.size)
      obtain ⟨a7, c7, rfl, -, -⟩ := hv7.open_
      clear hv7 hW7 hS7 hal hdm HR
      go_wp2_with fail
      refine hwi.mono ?_
      clear hwi
      rintro e W8 ⟨⟨q, rfl⟩, v8, hs8, hb8⟩
      have HE : Hid (SpanIn (P + 1) P W8 v8 (allS ((rowsD all (d + 1)).take (k + 1))) ∧ Below w.heap.size w W8) := ⟨hs8, HB7.out.trans (by rw [HPP.out]; exact hb8)⟩
      clear hs8 hb8
      go_wp2_with fail
      go_roundw
      case rel => exact ⟨k + 1, v8, by omega, by go_num, HE.out⟩
      case measure => simp [intOf]; omega
    · have hkm : k = N := by omega
      subst hkm
      have HE : Hid (SpanIn (P + 1) P wr v (allS (rowsD all (d + 1))) ∧ Below w.heap.size w wr) := by
        have h1 := HR.out
        rw [← HN.out, ← HRL.out, List.take_length] at h1
        exact h1
      clear HR
      go_wp2_with fail
      go_ret
      exact ⟨_, _, _, rfl, HE.out⟩

end Go.Proofs.YtiblgnkjjbbmaaaGreatDoor

namespace Go.Proofs.YtiblgnkjjbbmaaaGreatDoor
open Go.RowKit Go.Sort

theorem deltasOf_ (va : Value) (all : List (List Int)) (d : Nat) (hd : d ≤ 90) (w : World) (ha : Rows w va all) (hl : all.length ≤ 60) (hx : ∀ x ∈ all, x.length ≤ 1000) :
    Calls Tryz.prog 38 #[va, .int .i64 (d : Int)] w fun e w' => ∃ P base v, e = .returned (.pointer (some ⟨P, 0, none⟩)) ∧ SpanIn base P w' v (allS (rowsD all d)) ∧ Below w.heap.size w w' := by
  cases d with
  | zero => exact deltasOf_zero va all w ha
  | succ d => exact deltasOf_succ va all d (by omega) w ha hl hx
/-- Whether two words are cocycles of one class, as the reference says it. -/
def sameR (all : List (List Int)) (d x y : Nat) : Bool := decide (deltaW all d x = 0) && decide (deltaW all d y = 0) && decide (restS (allS (rowsD all d)) (x ^^^ y) = 0)

set_option maxRecDepth 100000 in
set_option maxHeartbeats 4000000 in
theorem sameClass_ (va vf vg : Value) (all : List (List Int)) (d : Nat) (hd : d ≤ 90) (f g : List Int) (w : World) (ha : Rows w va all) (hl : all.length ≤ 60) (hx : ∀ x ∈ all, x.length ≤ 1000) (hf : Ints w vf f) (hfl : f.length ≤ 60) (hok : OkCo (ofDim all (d : Int)).length f) (hg : Ints w vg g) (hgl : g.length ≤ 60) (hok' : OkCo (ofDim all (d : Int)).length g) :
    Calls Tryz.prog 20 #[va, .int .i64 (d : Int), vf, vg] w fun e w' => e = .returned (.bool (sameR all d (maskN f) (maskN g))) ∧ Below w.heap.size w w' := by
  have hn6 : (ofDim all (d : Int)).length ≤ 60 := Nat.le_trans (ofDim_length _ _) hl
  have hn7 : (ofDim all ((d + 1 : Nat) : Int)).length ≤ 60 := Nat.le_trans (ofDim_length _ _) hl
  have h1 := deltaOf_ va vf all d (by omega) f w ha hl hx hf hfl hok
  have H2 : Hid (∀ W, Below w.heap.size w W → Calls Tryz.prog 13 #[va, .int .i64 (d : Int), vg] W fun e w' => ∃ v, e = .returned v ∧ IntsIn (fun b => W.heap.size ≤ b) w' v (bitsI (deltaW all d (maskN g))) ∧ Below W.heap.size W w') := fun W hW => by
    have h := deltaOf_ va vg all d (by omega) g W (ha.below hW) hl hx (hg.below hW) hgl hok'
    rw [deltaL_eq hok' (by omega) (by omega)] at h
    exact h
  rw [deltaL_eq hok (by omega) (by omega)] at h1
  have HDS : Hid (∀ W, Below w.heap.size w W → Calls Tryz.prog 38 #[va, .int .i64 (d : Int)] W fun e w' => ∃ P base v, e = .returned (.pointer (some ⟨P, 0, none⟩)) ∧ SpanIn base P w' v (allS (rowsD all d)) ∧ Below W.heap.size W w') := fun W hW => deltasOf_ va all d hd W (ha.below hW) hl hx
  have hxl := lt64 (maskN_lt hok) (by omega)
  have hyl := lt64 (maskN_lt hok') (by omega)
  have HSU : Hid (∀ W, Below w.heap.size w W → Calls Tryz.prog 40 #[vf, vg] W fun e w' => ∃ v, e = .returned v ∧ IntsIn (fun b => W.heap.size ≤ b) w' v (bitsI (maskN f ^^^ maskN g)) ∧ Below W.heap.size W w') := fun W hW => sumOf_ vf vg (maskN f) (maskN g) hxl hyl W (by rw [bitsI_mask hok (by omega)]; exact hf.below hW) (by rw [bitsI_mask hok' (by omega)]; exact hg.below hW)
  have hal := all_span (rowsD all d) [] spOk_nil (rowsD_lt all d (by omega))
  have hlen : (allS (rowsD all d)).length ≤ 1000 := by
    have h1 := allS_len (rowsD all d) []
    have h2 : (rowsD all d).length ≤ 60 := by
      cases d with
      | zero => simp [rowsD]
      | succ d => simp [rowsD]; exact Nat.le_trans (ofDim_length _ _) hl
    unfold allS
    simp at h1
    omega
  have HRE : Hid (∀ (base P : Nat) (v u : Value) (W : World), SpanIn base P W v (allS (rowsD all d)) → Ints W u (bitsI (maskN f ^^^ maskN g)) → Calls Tryz.prog 39 #[.agg #[v], u] W fun e w' => ∃ z, e = .returned z ∧ Ints w' z (bitsI (restS (allS (rowsD all d)) (maskN f ^^^ maskN g))) ∧ Below W.heap.size W w') := fun base P v u W h1 h2 => rest_ (S := anyBlock) v u _ _ W h1.rows.rows hlen (fun r hr => hal.1.is r hr) (xor_lt hxl hyl) h2 (fun _ _ => trivial)
  have HD1 : Hid (deltaW all d (maskN f) < 2 ^ 64) := lt64 (deltaW_lt all d _) (by omega)
  have HD2 : Hid (deltaW all d (maskN g) < 2 ^ 64) := lt64 (deltaW_lt all d _) (by omega)
  have HD3 : Hid (restS (allS (rowsD all d)) (maskN f ^^^ maskN g) < 2 ^ 64) := restS_lt (fun r hr => (hal.1.is r hr).1) (xor_lt hxl hyl)
  unfold sameR
  obtain ⟨s, hs⟩ : ∃ s, maskN f ^^^ maskN g = s := ⟨_, rfl⟩
  obtain ⟨rr, hrr⟩ : ∃ rr, restS (allS (rowsD all d)) s = rr := ⟨_, rfl⟩
  obtain ⟨d1, hd1⟩ : ∃ d1, deltaW all d (maskN f) = d1 := ⟨_, rfl⟩
  obtain ⟨d2, hd2⟩ : ∃ d2, deltaW all d (maskN g) = d2 := ⟨_, rfl⟩
  rw [hs] at HSU HRE HD3 ⊢
  rw [hrr] at HRE HD3 ⊢
  rw [hd1] at h1 HD1 ⊢
  rw [hd2] at H2 HD2 ⊢
  obtain ⟨aa, ca, rfl, -, -⟩ := ha.open_
  obtain ⟨af, cf, rfl, -, -⟩ := hf.open_
  obtain ⟨ag, cg, rfl, -, -⟩ := hg.open_
  obtain ⟨A0, hA0⟩ : ∃ A0, all.length = A0 := ⟨_, rfl⟩
  obtain ⟨mf, hmf⟩ : ∃ m, f.length = m := ⟨_, rfl⟩
  obtain ⟨mg, hmg⟩ : ∃ m, g.length = m := ⟨_, rfl⟩
  rw [hA0, hmf] at h1
  rw [hA0, hmg] at H2
  rw [hA0] at HDS
  rw [hmf, hmg] at HSU
  rw [hA0, hmf, hmg]
  obtain ⟨R, hR⟩ : ∃ R, allS (rowsD all d) = R := ⟨_, rfl⟩
  rw [hR] at HDS HRE
  clear ha hf hg hl hx hfl hgl hok hok' hn6 hn7 hxl hyl hal hlen hs hrr hd1 hd2 hA0 hmf hmg hR
  go_enter Tryz.func20, Tryz.ntmps20
  go_wp2_with fail
  refine h1.mono ?_
  clear h1
  rintro e W1 ⟨v1, rfl, hv1, hW1⟩
  have HW1 := Hid.mk' hW1
  obtain ⟨a1, c1, rfl, -, -⟩ := hv1.open_
  have H10 := Hid.mk' (bitsI_len0 HD1.out)
  have hb1 := bitsI_len d1
  obtain ⟨l1, hl1⟩ : ∃ l1, (bitsI d1).length = l1 := ⟨_, rfl⟩
  rw [hl1] at H10 hb1 ⊢
  clear hv1 hW1 hl1
  rcases Nat.eq_zero_or_pos l1 with h0 | h0
  · subst h0
    have HZ1 : Hid (d1 = 0) := H10.out.1 rfl
    have h2 := H2.out W1 HW1.out
    clear H2 H10
    go_wp2_with fail
    refine h2.mono ?_
    clear h2
    rintro e W2 ⟨v2, rfl, hv2, hW2⟩
    have HW2 : Hid (Below w.heap.size w W2) := HW1.out.trans (hW2.mono HW1.out.size)
    obtain ⟨a2, c2, rfl, -, -⟩ := hv2.open_
    have H20 := Hid.mk' (bitsI_len0 HD2.out)
    have hb2 := bitsI_len d2
    obtain ⟨l2, hl2⟩ : ∃ l2, (bitsI d2).length = l2 := ⟨_, rfl⟩
    rw [hl2] at H20 hb2 ⊢
    clear hv2 hW2 hl2 HW1
    rcases Nat.eq_zero_or_pos l2 with h00 | h00
    · subst h00
      have HZ2 : Hid (d2 = 0) := H20.out.1 rfl
      clear H20
      have H30 := Hid.mk' (bitsI_len0 HD3.out)
      obtain ⟨l3, hl3⟩ : ∃ l3, (bitsI rr).length = l3 := ⟨_, rfl⟩
      rw [hl3] at H30
      replace HRE : Hid (∀ (base P : Nat) (v u : Value) (W : World), SpanIn base P W v R → Ints W u (bitsI s) → Calls Tryz.prog 39 #[.agg #[v], u] W fun e w' => ∃ az cz, e = .returned (.slice az l3 cz) ∧ Below W.heap.size W w') := fun base P v u W h1 h2 => (HRE.out base P v u W h1 h2).mono fun e w' h => by
        obtain ⟨z, rfl, hz, hb⟩ := h
        obtain ⟨az, cz, rfl, -, -⟩ := hz.open_
        exact ⟨az, cz, by rw [hl3], hb⟩
      clear hl3
      rcases Nat.eq_zero_or_pos l3 with h30 | h30
      · subst h30
        have HZ3 : Hid (rr = 0) := H30.out.1 rfl
        clear H30
        go_upto_region 3 with fail
        have HBW : Hid (Below w.heap.size w W2.drew) := HW2.out.drew
        go_region_with (first
          | (go_at_call 38; refine (HDS.out _ (by first | exact HW2.out | exact HBW.out | exact HWs.out)).mono ?_; rintro e Wd ⟨P, base, v, rfl, hsp, hbd⟩; have HSp := Hid.mk' hsp; have HBd := Hid.mk' hbd; have HWd : Hid (Below w.heap.size w Wd) := (by first | exact HWs.out.trans (hbd.mono HWs.out.size) | exact HBW.out.trans (hbd.mono HBW.out.size) | exact HW2.out.trans (hbd.mono HW2.out.size)); have y1 := hsp.cell; clear hsp hbd)
          | (go_at_call 40; have y0 := y1; refine (HSU.out _ HWd.out).mono ?_; rintro e Ws ⟨u, rfl, hu, hbs⟩; have HU := Hid.mk' hu.any; have HBs := Hid.mk' hbs; have HWs : Hid (Below w.heap.size w Ws) := HWd.out.trans (hbs.mono HWd.out.size); have y2 := (HSp.out.below hbs).cell; obtain ⟨au, cu, rfl, -, -⟩ := hu.open_; clear hu hbs y0)
          | (go_at_call 40; refine (HSU.out _ (by first | exact HW2.out | exact HBW.out)).mono ?_; rintro e Ws ⟨u, rfl, hu, hbs⟩; have HU := Hid.mk' hu.any; have HBs := Hid.mk' hbs; have HWs : Hid (Below w.heap.size w Ws) := (by first | exact HBW.out.trans (hbs.mono HBW.out.size) | exact HW2.out.trans (hbs.mono HW2.out.size)); obtain ⟨au, cu, rfl, -, -⟩ := hu.open_; clear hu hbs)
          | (go_at_call 39; refine (HRE.out _ _ _ _ _ (by first | exact HSp.out | exact HSp.out.below HBs.out) (by first | exact HU.out | exact HU.out.below HBd.out)).mono ?_; rintro e Wr ⟨az, cz, rfl, hbr⟩; have HWr : Hid (Below w.heap.size w Wr) := (by first | exact HWs.out.trans (hbr.mono HWs.out.size) | exact HWd.out.trans (hbr.mono HWd.out.size)); clear hbr))
        all_goals (
          go_wp2_with fail
          go_ret
          exact ⟨by rw [HZ1.out, HZ2.out, HZ3.out]; rfl, HWr.out⟩)
      · have HZ3 : Hid (rr ≠ 0) := fun e => by have := H30.out.2 e; omega
        have h30b : ((l3 : Int) == 0) = false := by simp; omega
        clear H30
        go_upto_region 3 with fail
        have HBW : Hid (Below w.heap.size w W2.drew) := HW2.out.drew
        go_region_with (first
          | (go_at_call 38; refine (HDS.out _ (by first | exact HW2.out | exact HBW.out | exact HWs.out)).mono ?_; rintro e Wd ⟨P, base, v, rfl, hsp, hbd⟩; have HSp := Hid.mk' hsp; have HBd := Hid.mk' hbd; have HWd : Hid (Below w.heap.size w Wd) := (by first | exact HWs.out.trans (hbd.mono HWs.out.size) | exact HBW.out.trans (hbd.mono HBW.out.size) | exact HW2.out.trans (hbd.mono HW2.out.size)); have y1 := hsp.cell; clear hsp hbd)
          | (go_at_call 40; have y0 := y1; refine (HSU.out _ HWd.out).mono ?_; rintro e Ws ⟨u, rfl, hu, hbs⟩; have HU := Hid.mk' hu.any; have HBs := Hid.mk' hbs; have HWs : Hid (Below w.heap.size w Ws) := HWd.out.trans (hbs.mono HWd.out.size); have y2 := (HSp.out.below hbs).cell; obtain ⟨au, cu, rfl, -, -⟩ := hu.open_; clear hu hbs y0)
          | (go_at_call 40; refine (HSU.out _ (by first | exact HW2.out | exact HBW.out)).mono ?_; rintro e Ws ⟨u, rfl, hu, hbs⟩; have HU := Hid.mk' hu.any; have HBs := Hid.mk' hbs; have HWs : Hid (Below w.heap.size w Ws) := (by first | exact HBW.out.trans (hbs.mono HBW.out.size) | exact HW2.out.trans (hbs.mono HW2.out.size)); obtain ⟨au, cu, rfl, -, -⟩ := hu.open_; clear hu hbs)
          | (go_at_call 39; refine (HRE.out _ _ _ _ _ (by first | exact HSp.out | exact HSp.out.below HBs.out) (by first | exact HU.out | exact HU.out.below HBd.out)).mono ?_; rintro e Wr ⟨az, cz, rfl, hbr⟩; have HWr : Hid (Below w.heap.size w Wr) := (by first | exact HWs.out.trans (hbr.mono HWs.out.size) | exact HWd.out.trans (hbr.mono HWd.out.size)); clear hbr))
        all_goals (
          go_wp2_with fail
          go_ret
          exact ⟨by rw [HZ1.out, HZ2.out, decide_eq_false HZ3.out]; rfl, HWr.out⟩)
    · have hne : d2 ≠ 0 := fun e => by have := H20.out.2 e; omega
      have HNE := Hid.mk' hne
      clear hne H20
      go_wp2_with fail
      go_ret
      exact ⟨by simp [HNE.out], HW2.out⟩
  · have hne : d1 ≠ 0 := fun e => by have := H10.out.2 e; omega
    have HNE := Hid.mk' hne
    clear hne H10
    go_wp2_with fail
    go_ret
    exact ⟨by simp [HNE.out], HW1.out⟩

end Go.Proofs.YtiblgnkjjbbmaaaGreatDoor
