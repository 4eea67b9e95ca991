/- The reference's span of all deltas in a dimension. The reference's cocycles of a dimension. -/
import Derived.Test.YtldknhganoiajaaGreatDoorCupRefWith
import Derived.Test.YtldknhganoiajaaGreatDoorCupRefDelta
import Derived.Test.YtldknhganoiajaaGreatDoorCupCoc
namespace Go.Proofs.YtldknhganoiajaaGreatDoor
open Go.RowKit Go.Sort

theorem withS_len (rows : List Nat) (x : Nat) : (withS rows x).length ≤ rows.length + 1 := by
  unfold withS
  split <;> simp
theorem allS_len : ∀ (rs S : List Nat), (rs.foldl withS S).length ≤ S.length + rs.length
  | [], S => by simp
  | r :: rs, S => by
    rw [List.foldl_cons, List.length_cons]
    have := allS_len rs (withS S r)
    have := withS_len S r
    omega

set_option maxRecDepth 100000 in
set_option maxHeartbeats 2000000 in
theorem deltasOf_zero (va : Value) (all : List (List Int)) (w : World) (ha : Rows w va all) :
    Calls Tryz.prog 24 #[va, .int .i64 0] w fun e w' => ∃ P base v, e = .returned (.pointer (some ⟨P, 0, none⟩)) ∧ SpanIn base P w' v (allS (rowsD all 0)) ∧ Below w.heap.size w w' ∧ w.heap.size ≤ P := by
  obtain ⟨aa, ca, rfl, -, -⟩ := ha.open_
  have q1 := box_new w (.slice none 0 0) 87
  have HE : Hid (SpanIn (w.heap.size + 1) w.heap.size (w.alloc (.cells #[.slice none 0 0] 87)) (.slice none 0 0) (allS (rowsD all 0)) ∧ Below w.heap.size w (w.alloc (.cells #[.slice none 0 0] 87))) :=
    ⟨⟨q1.1, q1.2, OwnRows.nil _ _, by omega, by simp⟩, (Below.refl _ w).alloc (Nat.le_refl _) _⟩
  obtain ⟨A0, hA0⟩ : ∃ A0, all.length = A0 := ⟨_, rfl⟩
  rw [hA0]
  clear ha q1 hA0
  go_enter Tryz.func24, Tryz.ntmps24
  go_wp2_with fail
  go_ret
  exact ⟨_, _, _, rfl, HE.out.1, HE.out.2, Nat.le_refl _⟩

set_option maxRecDepth 100000 in
set_option maxHeartbeats 4000000 in
theorem deltasOf_succ (va : Value) (all : List (List Int)) (d : Nat) (hd : d ≤ 90) (w : World) (ha : Rows w va all) (hl : all.length ≤ 60) (hx : ∀ x ∈ all, x.length ≤ 1000) :
    Calls Tryz.prog 24 #[va, .int .i64 ((d : Int) + 1)] w fun e w' => ∃ P base v, e = .returned (.pointer (some ⟨P, 0, none⟩)) ∧ SpanIn base P w' v (allS (rowsD all (d + 1))) ∧ Below w.heap.size w w' ∧ w.heap.size ≤ P := by
  obtain ⟨i0, hi, hz0, hz1, hz2⟩ := info_parts Tryz.info3
  have HDE : Hid (∀ (vf : Value) (f : List Int) (W : World), Below w.heap.size w W → Ints W vf f → f.length ≤ 60 → OkCo (ofDim all (d : Int)).length f → Calls Tryz.prog 43 #[va, .int .i64 (d : Int), vf] W fun e w' => ∃ v, e = .returned v ∧ IntsIn (fun b => W.heap.size ≤ b) w' v (natsI (deltaL all d f)) ∧ Below W.heap.size W w') := fun vf f W hW h1 h2 h3 => deltaOf_ va vf all d (by omega) f W (ha.below hW) hl hx h1 h2 h3
  have HOF : Hid (∀ W, Below w.heap.size w W → Calls Tryz.prog 42 #[va, .int .i64 (d : Int)] W fun e w' => ∃ v, e = .returned v ∧ Rows w' v (ofDim all (d : Int)) ∧ Below W.heap.size W w') := fun W hW => of_dim va all (d : Int) W (ha.below hW) (by omega) hx
  have HD60 : Hid ((ofDim all (d : Int)).length ≤ 60 ∧ (ofDim all ((d + 1 : Nat) : Int)).length ≤ 60) := ⟨Nat.le_trans (ofDim_length _ _) hl, Nat.le_trans (ofDim_length _ _) hl⟩
  have HLT := Hid.mk' (rowsD_lt all (d + 1) (by have := HD60.out.2; omega))
  have HRT := Hid.mk' (rowsD_take all d)
  have HRL : Hid ((rowsD all (d + 1)).length = (ofDim all (d : Int)).length) := by show _ = _; simp [rowsD]
  obtain ⟨aa, ca, rfl, -, -⟩ := ha.open_
  have q1 := box_new w (.slice none 0 0) 87
  have hB0 : Below w.heap.size w (w.alloc (.cells #[.slice none 0 0] 87)) := (Below.refl _ w).alloc (Nat.le_refl _) _
  obtain ⟨W1, hW1⟩ : ∃ W1, w.alloc (.cells #[.slice none 0 0] 87) = W1 := ⟨_, rfl⟩
  have HW1 := Hid.mk' hW1
  have hz1' : W1.heap.size = w.heap.size + 1 := by rw [← hW1]; simp
  rw [hW1] at q1 hB0
  obtain ⟨P, hP⟩ : ∃ P, w.heap.size = P := ⟨_, rfl⟩
  rw [hP] at q1
  have HS1 : Hid (SpanIn (P + 1) P W1 (.slice none 0 0) [] ∧ Below w.heap.size w W1 ∧ w.heap.size = P) := ⟨⟨q1.1, q1.2, OwnRows.nil _ _, by omega, by omega⟩, hB0, hP⟩
  have hof := HOF.out W1 hB0
  have HPP := Hid.mk' hP
  obtain ⟨A0, hA0⟩ : ∃ A0, all.length = A0 := ⟨_, rfl⟩
  rw [hA0] at hof HDE ⊢
  obtain ⟨N, hN⟩ : ∃ N, (ofDim all (d : Int)).length = N := ⟨_, rfl⟩
  have HN := Hid.mk' hN
  have e1 : ((d : Int) + 1 - 1) = (d : Int) := by omega
  have ene : (((d : Int) + 1) == 0) = false := by simp; omega
  clear ha hl hx q1 hB0 hW1 hz1' hP hA0 hN HOF
  go_enter Tryz.func24, Tryz.ntmps24
  go_upto_region 2 with fail
  rw [HW1.out, HPP.out]
  go_wp2_with (simp only [e1])
  refine hof.mono ?_
  clear hof
  rintro e W2 ⟨v2, rfl, hv2, hW2⟩
  have HS2 : Hid (SpanIn (P + 1) P W2 (.slice none 0 0) [] ∧ Below w.heap.size w W2) := ⟨HS1.out.1.below hW2, HS1.out.2.1.trans (hW2.mono HS1.out.2.1.size)⟩
  obtain ⟨a2, c2, rfl, -, -⟩ := hv2.open_
  rw [HN.out]
  have hN6 : N ≤ 60 := by have := HD60.out.1; have := HN.out; omega
  clear hv2 hW2 HS1
  go_wp2_with fail
  go_loopw [7] (fun p W => ∃ (k : Nat) (v : Value), k ≤ N ∧ p = .int .i64 (k : Int) ∧ Hid (SpanIn (P + 1) P W v (allS ((rowsD all (d + 1)).take k)) ∧ Below w.heap.size w W)) (fun p _ => N - (intOf p).toNat)
  case atStart => exact ⟨0, _, by omega, rfl, by simpa [allS] using HS2.out.1, HS2.out.2⟩
  case round =>
    obtain ⟨k, v, hk, rfl, HR⟩ := hrel
    by_cases hlt : k < N
    · obtain ⟨av, cv, rfl⟩ := HR.out.1.form
      go_upto_region 10 with (first
        | (at_builtin; refine wpList_append_slice rfl (.tmp 24) (.tmp 26) 39 rfl wr.heap.size 3 i0 (.int .i64 0) 8 Tryz.underlying39 hi hz0 hz1 hz2 rfl _ _ _ rfl ((World.ownsRow_nil _ _ _ _).alloc _) _ [.int .i64 (k : Int)] rfl (slice_one _ _ _) (by simp [Value.oneCell']) (by simp) (by unfold maxLen; simp) (by simp) ?_; intro v6 w6 hown6 hg6 hl6; replace hg6 : (wr.alloc (.cells #[.int .i64 (k : Int)] 3)).grownBy w6 (Value.slice none 0 0).ownBlock := hg6; replace hown6 : w6.ownsRow wr.heap.size 3 1 v6 1 [.int .i64 (k : Int)] := hown6; obtain ⟨a6, c6, rfl⟩ := own_form hown6)
        | fail)
      have hB6 : Below wr.heap.size wr w6 := ((Below.refl _ wr).alloc (Nat.le_refl _) _).grown hg6 (by simp) (fun j hj => by simp [Value.ownBlock] at hj)
      have hin6 : Ints w6 (.slice a6 1 c6) [(k : Int)] := slice_of_owns (cs := [.int .i64 (k : Int)]) hown6 (fun _ _ _ => trivial)
      have hok : OkCo (ofDim all (d : Int)).length [(k : Int)] := ⟨by simp [Rising], by simp; have := HN.out; omega⟩
      have HS6 : Hid (SpanIn (P + 1) P w6 (.slice av (allS ((rowsD all (d + 1)).take k)).length cv) (allS ((rowsD all (d + 1)).take k)) ∧ Below w.heap.size w w6) := ⟨HR.out.1.below hB6, HR.out.2.trans (hB6.mono HR.out.2.size)⟩
      have hde := HDE.out (.slice a6 1 c6) [(k : Int)] w6 HS6.out.2 hin6 (by simp) hok
      rw [deltaL_eq hok (by have := HD60.out.1; omega) (by have := HD60.out.2; omega), one_face (by omega)] at hde
      clear hown6 hg6 hl6 hin6 hok hB6
      go_wp2_with (simp only [e1])
      refine hde.mono ?_
      clear hde
      rintro e W7 ⟨v7, rfl, hv7, hW7⟩
      have hkl : k < (ofDim all (d : Int)).length := by rw [HN.out]; exact hlt
      have hS7 := HS6.out.1.below hW7
      have hal := all_span ((rowsD all (d + 1)).take k) [] spOk_nil (fun r hr => HLT.out r (List.mem_of_mem_take hr))
      have hdm : dM all d k < 2 ^ 64 := lt64 (dM_lt all d k) (by have := HD60.out.2; omega)
      have hwi := with_ (P + 1) P _ v7 (allS ((rowsD all (d + 1)).take k)) (dM all d k) W7 hS7 (by
        have h1 := allS_len ((rowsD all (d + 1)).take k) []
        have h2 : ((rowsD all (d + 1)).take k).length ≤ k := List.length_take_le _ _
        unfold allS
        simp at h1
        omega) hal.1 hdm (SliceIn.mono hv7 (fun b _ h => ⟨by have := HS6.out.1.size; omega, fun e => by
          obtain ⟨vs, o1, -⟩ := HS6.out.1.rows
          have := (o1.lt b e.symm).2; omega⟩))
      rw [← allS_snoc, ← HRT.out k hkl] at hwi
      have HB7 : Hid (Below w.heap.size w W7) := HS6.out.2.trans (hW7.mono HS6.out.2.size)
      obtain ⟨a7, c7, rfl, -, -⟩ := hv7.open_
      clear hv7 hW7 hS7 hal hdm HR
      go_wp2_with fail
      refine hwi.mono ?_
      clear hwi
      rintro e W8 ⟨⟨q, rfl⟩, v8, hs8, hb8⟩
      have HE : Hid (SpanIn (P + 1) P W8 v8 (allS ((rowsD all (d + 1)).take (k + 1))) ∧ Below w.heap.size w W8) := ⟨hs8, HB7.out.trans (by rw [HPP.out]; exact hb8)⟩
      clear hs8 hb8
      go_wp2_with fail
      go_roundw
      case rel => exact ⟨k + 1, v8, by omega, by go_num, HE.out⟩
      case measure => simp [intOf]; omega
    · have hkm : k = N := by omega
      subst hkm
      have HE : Hid (SpanIn (P + 1) P wr v (allS (rowsD all (d + 1))) ∧ Below w.heap.size w wr) := by
        have h1 := HR.out
        rw [← HN.out, ← HRL.out, List.take_length] at h1
        exact h1
      clear HR
      go_wp2_with fail
      go_ret
      exact ⟨_, _, _, rfl, HE.out.1, HE.out.2, by rw [HPP.out]; exact Nat.le_refl _⟩

theorem deltasOfP_ (va : Value) (all : List (List Int)) (d : Nat) (hd : d ≤ 90) (w : World) (ha : Rows w va all) (hl : all.length ≤ 60) (hx : ∀ x ∈ all, x.length ≤ 1000) :
    Calls Tryz.prog 24 #[va, .int .i64 (d : Int)] w fun e w' => ∃ P base v, e = .returned (.pointer (some ⟨P, 0, none⟩)) ∧ SpanIn base P w' v (allS (rowsD all d)) ∧ Below w.heap.size w w' ∧ w.heap.size ≤ P := by
  cases d with
  | zero => exact deltasOf_zero va all w ha
  | succ d => exact deltasOf_succ va all d (by omega) w ha hl hx
theorem deltasOf_ (va : Value) (all : List (List Int)) (d : Nat) (hd : d ≤ 90) (w : World) (ha : Rows w va all) (hl : all.length ≤ 60) (hx : ∀ x ∈ all, x.length ≤ 1000) :
    Calls Tryz.prog 24 #[va, .int .i64 (d : Int)] w fun e w' => ∃ P base v, e = .returned (.pointer (some ⟨P, 0, none⟩)) ∧ SpanIn base P w' v (allS (rowsD all d)) ∧ Below w.heap.size w w' :=
  (deltasOfP_ va all d hd w ha hl hx).mono fun e w' h => by
    obtain ⟨P, base, v, h1, h2, h3, -⟩ := h
    exact ⟨P, base, v, h1, h2, h3⟩

end Go.Proofs.YtldknhganoiajaaGreatDoor

namespace Go.Proofs.YtldknhganoiajaaGreatDoor
open Go.RowKit Go.Sort

theorem bitsI_mem {x : Nat} (h : x < 2 ^ 64) {v : Int} (hv : v ∈ bitsI x) : 0 ≤ v ∧ x.testBit v.toNat = true := by
  have h0 : 0 ≤ v := natsI_nonneg v hv
  obtain ⟨k, rfl⟩ : ∃ k : Nat, v = (k : Int) := ⟨v.toNat, by omega⟩
  exact ⟨h0, (bitsN_mem h).1 (natsI_mem.1 hv)⟩
theorem bitsI_iff {x : Nat} (h : x < 2 ^ 64) (k : Nat) : (k : Int) ∈ bitsI x ↔ x.testBit k = true := by
  unfold bitsI
  rw [natsI_mem, bitsN_mem h]
/-- A delta with its face behind, as a list. -/
theorem bits_both {l all : List (List Int)} (hg : Good l all) (h60 : all.length ≤ 60) {d i : Nat} (hi : i < nD all d) : bitsI (dM all d i) ++ [((ovr all d : Nat) : Int) + (i : Int)] = bitsI (bothW all d i) := by
  have h2 := two_dims h60 hg d
  have hd := dM_lt all d i
  have hd' : dM all d i < 2 ^ ovr all d := hd
  have hb := both_lt (all := all) (d := d) hi
  have hd64 : dM all d i < 2 ^ 64 := lt64 hd' (by omega)
  have hb64 : bothW all d i < 2 ^ 64 := lt64 hb (by omega)
  have ho := bitsI_ok hd' (show ovr all d ≤ 64 by omega)
  refine ints_told ?_ (natsI_rising (bitsN_rising _)) (fun v hv => ?_) natsI_nonneg (fun k => ?_)
  · unfold Rising
    rw [List.pairwise_append]
    refine ⟨ho.1, List.pairwise_singleton _ _, fun a ha b hb => ?_⟩
    rw [List.mem_singleton] at hb
    have := (ho.2 a ha).2
    omega
  · rcases List.mem_append.1 hv with hv | hv
    · exact (ho.2 v hv).1
    · rw [List.mem_singleton] at hv; omega
  · rw [bitsI_iff hb64, List.mem_append, bitsI_iff hd64, List.mem_singleton]
    unfold bothW
    rw [Nat.testBit_xor, Nat.testBit_two_pow]
    by_cases e : ovr all d + i = k
    · have hz : (dM all d i).testBit k = false := Nat.testBit_lt_two_pow (Nat.lt_of_lt_of_le hd' (Nat.pow_le_pow_right (by decide) (by omega)))
      rw [hz, decide_eq_true e]
      simp; omega
    · rw [decide_eq_false e]
      simp; omega
/-- A word moved down, as a list. -/
theorem bits_down {x n : Nat} (h : x < 2 ^ 64) (hn : ∀ k, k < n → x.testBit k = false) : (bitsI x).map (fun z => z - (n : Int)) = bitsI (x >>> n) := by
  have hs : x >>> n < 2 ^ 64 := Nat.lt_of_le_of_lt (Nat.shiftRight_le x n) h
  have hge : ∀ v ∈ bitsI x, (n : Int) ≤ v := fun v hv => by
    obtain ⟨h0, hb⟩ := bitsI_mem h hv
    rcases Nat.lt_or_ge v.toNat n with h1 | h1
    · rw [hn _ h1] at hb; cases hb
    · omega
  refine ints_told ?_ (natsI_rising (bitsN_rising _)) (fun v hv => ?_) natsI_nonneg (fun k => ?_)
  · unfold Rising
    rw [List.pairwise_map]
    exact (natsI_rising (bitsN_rising x)).imp (fun hab => by omega)
  · obtain ⟨u, hu, rfl⟩ := List.mem_map.1 hv
    have := hge u hu
    omega
  · rw [bitsI_iff hs, Nat.testBit_shiftRight, List.mem_map]
    constructor
    · rintro ⟨u, hu, e⟩
      obtain ⟨h0, hb⟩ := bitsI_mem h hu
      have : u.toNat = n + k := by omega
      rwa [this] at hb
    · intro hb
      refine ⟨((n + k : Nat) : Int), (bitsI_iff h _).2 hb, by omega⟩
/-- What of the first k rows is told. -/
def outR (n : Nat) (S : List Nat) (k : Nat) : List Nat := ((S.take k).filter (fun r => decide (n ≤ low r))).map (fun r => r >>> n)
theorem outR_succ {n : Nat} {S : List Nat} {k : Nat} (hk : k < S.length) : outR n S (k + 1) = if n ≤ low (S[k]?.getD 0) then outR n S k ++ [S[k]?.getD 0 >>> n] else outR n S k := by
  unfold outR
  have e : S.take (k + 1) = S.take k ++ [S[k]?.getD 0] := by rw [List.take_add_one, List.getElem?_eq_getElem hk]; rfl
  rw [e, List.filter_append, List.map_append]
  by_cases h : n ≤ low (S[k]?.getD 0)
  · rw [if_pos h, List.filter_cons, if_pos (decide_eq_true h)]; rfl
  · rw [if_neg h, List.filter_cons, if_neg (by simp [h])]; simp
theorem outR_end (all : List (List Int)) (d : Nat) : outR (ovr all d) (allS (boths all d)) (allS (boths all d)).length = cocR all d := by
  unfold outR cocR
  rw [List.take_length]
theorem outR_len (n : Nat) (S : List Nat) (k : Nat) : (outR n S k).length ≤ k := by
  unfold outR
  rw [List.length_map]
  exact Nat.le_trans (List.length_filter_le _ _) (List.length_take_le _ _)

end Go.Proofs.YtldknhganoiajaaGreatDoor
