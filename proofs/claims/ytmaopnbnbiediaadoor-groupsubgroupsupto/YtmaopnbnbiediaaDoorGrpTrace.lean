/- One step along a column. A word is traced. -/
import Derived.Test.YtmaopnbnbiediaaDoorGrpMore
import Derived.Test.YtmaopnbnbiediaaDoorGrpUnite
import Derived.Test.YtmaopnbnbiediaaDoorGrpInv
namespace Go.Proofs.YtmaopnbnbiediaaDoor
open Go.RowKit Go.Sort

/-- What a step answers. -/
def StepSays (B : Nat) (X : Nat → Prop) (P n : Nat) (w : World) (r : Option (Nat × Cos)) (e : Ending) (w' : World) : Prop :=
  (∃ t s', r = some (t, s') ∧ e = .returned (.tuple #[.int .i64 (t : Int), .bool true]) ∧ OpAt B X P n w' s' ∧ Kp B X w w') ∨ (r = none ∧ e = .returned (.tuple #[.int .i64 0, .bool false]) ∧ Kp B X w w')

theorem step_says_ok {B : Nat} {X : Nat → Prop} {P n : Nat} {w w' : World} {r : Option (Nat × Cos)} {t : Nat} {s' : Cos} (hr : r = some (t, s')) (h : OpAt B X P n w' s') (hk : Kp B X w w') : StepSays B X P n w r (.returned (.tuple #[.int .i64 (t : Int), .bool true])) w' := .inl ⟨t, s', hr, rfl, h, hk⟩
theorem step_says_no {B : Nat} {X : Nat → Prop} {P n : Nat} {w w' : World} {r : Option (Nat × Cos)} (hr : r = none) (hk : Kp B X w w') : StepSays B X P n w r (.returned (.tuple #[.int .i64 0, .bool false])) w' := .inr ⟨hr, rfl, hk⟩

set_option maxRecDepth 100000 in
set_option maxHeartbeats 4000000 in
theorem step_ {B : Nat} {X : Nat → Prop} {P n : Nat} {s : Cos} (i x : Nat) (w : World) (h : OpAt B X P n w s) (hX : ∀ b, X b → b < w.heap.size) (hR : Rng s.R) (hi : i < s.R.length) (hx : x < 2 * n) (hn : n ≤ 12) :
    Calls Tryd.prog 53 #[.pointer (some ⟨P, 0, none⟩), .int .i64 (i : Int), .int .i64 (x : Int)] w fun e w' => StepSays B X P n w (stepP n s i x) e w' := by
  obtain ⟨j0, hj0, hy0, hy1, hy2⟩ := info_parts Tryd.infoi
  have hst := stands_ i w h hi
  have hcl := h.cls_lt hi
  have h5 := h.is.2.2.1
  obtain ⟨a, ha⟩ : ∃ a, s.cls i = a := ⟨_, rfl⟩
  have HA : Hid (s.cls i = a) := ha
  rw [ha] at hst hcl
  have HR := Hid.mk' hR
  have HX := Hid.mk' hX
  obtain ⟨N, hN⟩ : ∃ N, s.R.length = N := ⟨_, rfl⟩
  have HN : Hid (s.R.length = N) := hN
  obtain ⟨m2, hm2⟩ : ∃ m2, 2 * n = m2 := ⟨_, rfl⟩
  have HM : Hid (2 * n = m2) := hm2
  rw [hN] at hcl h5 hi
  rw [hm2] at hx
  have hm24 : m2 ≤ 24 := by omega
  clear h ha hN hm2 hR hX
  go_enter Tryd.func53, Tryd.ntmps53
  go_upto_region 2 with (go_at_call 52; refine hst.mono ?_; rintro e W1 ⟨rfl, hO1, hK1⟩; have H1 := Hid.mk' (And.intro hO1 hK1); clear hO1 hK1 hst)
  obtain ⟨G, cG, H, cH, rb, c, h1⟩ := H1.out.1
  have p0 := h1.p0
  have p1 := h1.p1
  have p2 := h1.p2
  have ra := h1.row_at (i := a) (by rw [HN.out]; exact hcl)
  have ea := h1.ent_at (i := a) (x := x) (by rw [HN.out]; exact hcl) (by rw [HM.out]; exact hx)
  rw [HN.out] at p0 p2
  rw [HM.out] at ra
  obtain ⟨q, hq⟩ : ∃ q, ent s.R a x = q := ⟨_, rfl⟩
  have HQ : Hid (ent s.R a x = q) := hq
  rw [hq] at ea
  have HI := Hid.mk' h1
  have z0 : (0 : Int) ≤ (a : Int) := by omega
  have z1 : (a : Int) < (N : Int) := by omega
  have z4 : (0 : Int) ≤ (x : Int) := by omega
  have z5 : (x : Int) < (m2 : Int) := by omega
  clear h1 hq
  by_cases e1 : q = -1
  · subst e1
    by_cases e2 : N = 5000
    · subst e2
      go_wp2_with fail
      go_ret2
      exact step_says_no (by unfold stepP; rw [HA.out, HQ.out, if_neg (fun h => h rfl), if_pos HN.out]) H1.out.2
    · have hb5 : ((N : Int) == 5000) = false := beq_false_of_ne (by omega)
      have had := addRow_ B P n N (.slice (some ⟨G, 0, none⟩) N cG) ((List.range N).map fun k => .slice (some ⟨rb k, 0, none⟩) (2 * n) (2 * n)) W1.drew p0 HI.out.z0 (by have := HI.out.outer; rw [HN.out] at this; exact this) (fun e => HI.out.gh.2.1 (Option.some.inj e).symm) (by have := HI.out.own.1; have := cell_lt p0; simp only at this; show B ≤ W1.heap.size; omega) h5 hn
      have HAD := Hid.mk' had
      clear had
      go_upto_region 8 with fail
      go_cut [] from 35 to 42 (fun wx => Hid (∃ v1 g, RowMore B P n N (.slice (some ⟨G, 0, none⟩) N cG) ((List.range N).map fun k => .slice (some ⟨rb k, 0, none⟩) (2 * n) (2 * n)) W1 wx v1 g))
      case first =>
        go_wp2_with fail
        go_region_with (go_at_call 40; refine HAD.out.mono ?_; rintro e V ⟨rfl, v1, g, hm⟩; have HMM : Hid (∃ v1 g, RowMore B P n N (.slice (some ⟨G, 0, none⟩) N cG) ((List.range N).map fun k => .slice (some ⟨rb k, 0, none⟩) (2 * n) (2 * n)) W1 V v1 g) := ⟨v1, g, ⟨hm.cell, hm.froz, hm.own, hm.new, hm.row, hm.blk, hm.os, hm.tape, hm.output, hm.size, hm.keep, hm.rest⟩⟩; clear hm)
        all_goals go_wp2_with fail
        all_goals go_meet
        all_goals exact HMM.out
      obtain ⟨W2, hW2⟩ : ∃ W, W = wc := ⟨_, rfl⟩
      subst hW2
      obtain ⟨v1, g, hm⟩ := hcut.out
      have HM2 := Hid.mk' hm
      have r2 := (hm.rest 2 (by decide)).1.trans p2
      have HSM : Hid (W2.ownsRow B 3 1 (.slice (some ⟨H, 0, none⟩) N cH) N ((List.range N).map fun i => .int .i64 (c i : Int))) := by
        have h1 := HI.out.sm
        rw [HN.out] at h1
        refine ⟨h1.1, h1.2.imp id fun ⟨g', cap, cur, e, k1, k2, k3⟩ => ⟨g', cap, cur, e, k1, ?_, k3⟩⟩
        cases e
        exact (hm.keep H (row_lt k2) HI.out.gh.2.2 fun e => HI.out.gh.1 (Option.some.inj e).symm).trans k2
      have hBw : B ≤ W2.heap.size := by have h1 := HI.out.own.1; have h2 := cell_lt p0; have h3 := hm.size; simp only at h2; omega
      clear hm hcut HAD
      go_upto_region 10 with (at_builtin; refine wpList_append_own_at _ rfl (.tmp 47) (.tmp 49) 42 rfl B 3 j0 (.int .i64 0) 1 8 Tryd.underlying42 hj0 hy0 hy1 hy2 rfl (by decide) _ N _ rfl (HSM.out.alloc _) ⟨_, 0, none⟩ 1 1 [.int .i64 (N : Int)] rfl rfl (cells_new _ _ _) (by simp [Value.oneCell']) (by unfold maxLen; omega) (by omega) (by simp; omega) ?_; intro v5 w5 hown5 hg5 hn5 hl5; have H5 := Hid.mk' (op_more (o := .cells #[.int .i64 (N : Int)] 3) HI.out (fun b hb => Nat.lt_of_lt_of_le (HX.out b hb) H1.out.2.size) (by rw [HN.out]; omega) (by rw [HN.out]; exact HM2.out) (by rw [HN.out]; exact hown5) hg5 hl5); clear hown5 hg5 hn5 hl5; obtain ⟨G', cG', H', cH', rfl, rfl, hc5, h6, hk6⟩ := H5.out; rw [HN.out] at hc5; have k5 := hc5.1; have f5 := hc5.2)
      have HL : Hid ((Cos.R ⟨s.R ++ [newRow n], s.cls⟩).length = N + 1) := by show (s.R ++ [newRow n]).length = N + 1; rw [List.length_append, HN.out]; rfl
      have hset := set_ a x N _ h6 (by rw [HL.out]; omega) (by rw [HL.out]; omega) (by rw [HM.out]; exact hx) hn
      have g0 := h6.p0
      rw [HL.out] at hset g0
      obtain ⟨W5, hW5⟩ : ∃ W5, w5.setCell ⟨P, 2, none⟩ (.slice (some ⟨H', 0, none⟩) (s.R.length + 1) cH') = W5 := ⟨_, rfl⟩
      rw [hW5] at hset g0 h6 hk6 ⊢
      have H6 := Hid.mk' hk6
      obtain ⟨M, hM⟩ : ∃ M, N + 1 = M := ⟨_, rfl⟩
      rw [hM] at hset g0
      have HSP : Hid (stepP n s i x = some (N, ⟨putE (putE (s.R ++ [newRow n]) a x (N : Int)) N (backN x) (a : Int), s.cls⟩)) := by
        show _ = _
        unfold stepP
        rw [HA.out, HQ.out, if_neg (fun h => h rfl), HN.out, if_neg e2]
      clear h6 hk6 hW5 hM hc5 k5 f5 H5 HM2 HSM
      go_wp2_with (first
        | (go_at_call 43; refine hset.mono ?_; rintro e W6 ⟨rfl, h7, hk7⟩; have H7 := Hid.mk' (And.intro h7 hk7); clear h7 hk7 hset)
        | fail)
      go_ret2
      exact step_says_ok HSP.out ⟨_, _, _, _, _, _, H7.out.1⟩ ((H1.out.2.trans H6.out).trans H7.out.2)
  · have hb1 : (q == -1) = false := beq_false_of_ne e1
    have hrq := HR.out a x
    rw [HQ.out] at hrq
    obtain ⟨t, rfl⟩ : ∃ t : Nat, q = (t : Int) := ⟨q.toNat, by omega⟩
    go_wp2_with fail
    go_ret2
    exact step_says_ok (by unfold stepP; rw [HA.out, HQ.out, if_pos (by omega), Int.toNat_natCast]) H1.out.1 H1.out.2

end Go.Proofs.YtmaopnbnbiediaaDoor

namespace Go.Proofs.YtmaopnbnbiediaaDoor
open Go.RowKit Go.Sort

theorem step_ok {B : Nat} {X : Nat → Prop} {P n : Nat} {s s' : Cos} {i x t : Nat} (hr : stepP n s i x = some (t, s')) (w : World) (h : OpAt B X P n w s) (hX : ∀ b, X b → b < w.heap.size) (hR : Rng s.R) (hi : i < s.R.length) (hx : x < 2 * n) (hn : n ≤ 12) :
    Calls Tryd.prog 53 #[.pointer (some ⟨P, 0, none⟩), .int .i64 (i : Int), .int .i64 (x : Int)] w fun e w' => e = .returned (.tuple #[.int .i64 (t : Int), .bool true]) ∧ OpAt B X P n w' s' ∧ Kp B X w w' :=
  (step_ i x w h hX hR hi hx hn).mono fun e w' h => by
    rcases h with ⟨t2, s2, h1, h2, h3, h4⟩ | ⟨h1, _⟩
    · rw [hr] at h1; cases h1; exact ⟨h2, h3, h4⟩
    · rw [hr] at h1; cases h1
theorem step_no {B : Nat} {X : Nat → Prop} {P n : Nat} {s : Cos} {i x : Nat} (hr : stepP n s i x = none) (w : World) (h : OpAt B X P n w s) (hX : ∀ b, X b → b < w.heap.size) (hR : Rng s.R) (hi : i < s.R.length) (hx : x < 2 * n) (hn : n ≤ 12) :
    Calls Tryd.prog 53 #[.pointer (some ⟨P, 0, none⟩), .int .i64 (i : Int), .int .i64 (x : Int)] w fun e w' => e = .returned (.tuple #[.int .i64 0, .bool false]) ∧ Kp B X w w' :=
  (step_ i x w h hX hR hi hx hn).mono fun e w' h => by
    rcases h with ⟨t2, s2, h1, h2, h3, h4⟩ | ⟨h1, h2⟩
    · rw [hr] at h1; cases h1
    · exact h2

/-- What a call that may find no room answers. -/
def BoolSays (B : Nat) (X : Nat → Prop) (P n : Nat) (w : World) (r : Option Cos) (e : Ending) (w' : World) : Prop :=
  (∃ s', r = some s' ∧ e = .returned (.bool true) ∧ OpAt B X P n w' s' ∧ Kp B X w w') ∨ (r = none ∧ e = .returned (.bool false) ∧ Kp B X w w')
theorem BoolSays.ok {B : Nat} {X : Nat → Prop} {P n : Nat} {w w' : World} {r : Option Cos} {s' : Cos} (hr : r = some s') (h : OpAt B X P n w' s') (hk : Kp B X w w') : BoolSays B X P n w r (.returned (.bool true)) w' := .inl ⟨s', hr, rfl, h, hk⟩
theorem BoolSays.no {B : Nat} {X : Nat → Prop} {P n : Nat} {w w' : World} {r : Option Cos} (hr : r = none) (hk : Kp B X w w') : BoolSays B X P n w r (.returned (.bool false)) w' := .inr ⟨hr, rfl, hk⟩

theorem ints_kp {B : Nat} {X : Nat → Prop} {w W : World} {v : Value} {xs : List Int} (h : IntsIn (fun b => b < B) w v xs) (hk : Kp B X w W) : IntsIn (fun b => b < B) W v xs := SliceIn.keep h (fun b hb hB => hk.block b hb (.inl hB))
theorem rows_kp {B : Nat} {X : Nat → Prop} {w W : World} {v : Value} {xs : List (List Int)} (h : RowsIn (fun b => b < B) w v xs) (hk : Kp B X w W) : RowsIn (fun b => b < B) W v xs := RowsIn.keep h (fun b hb hB => hk.block b hb (.inl hB))

/-- While a word is traced. -/
structure WalkAt (B : Nat) (X : Nat → Prop) (P n : Nat) (w : World) (OUT : Option (Nat × Cos)) (N0 : Nat) (rest : List Int) (W : World) (s : Cos) (last : Nat) : Prop where
  op : OpAt B X P n W s
  inv : CInv n s
  lt : last < s.R.length
  more : N0 ≤ s.R.length
  kp : Kp B X w W
  out : walkP n s last rest = OUT

set_option maxRecDepth 100000 in
set_option maxHeartbeats 4000000 in
theorem trace_ {B : Nat} {X : Nat → Prop} {P n : Nat} {s : Cos} (i : Nat) (v : Value) (ws : List Int) (w : World) (h : OpAt B X P n w s) (hX : ∀ b, X b → b < w.heap.size) (hI : CInv n s) (hi : i < s.R.length) (hv : IntsIn (fun b => b < B) w v ws) (hl : LettersIn n ws) (hw4 : ws.length ≤ 400) (hn : n ≤ 12) :
    Calls Tryd.prog 51 #[.pointer (some ⟨P, 0, none⟩), .int .i64 (i : Int), v] w fun e w' => BoolSays B X P n w (traceP n s i ws) e w' := by
  have HS : Hid (WalkAt B X P n w (walkP n s i ws) s.R.length (ws.drop 0) w s i) := ⟨h, hI, hi, Nat.le_refl _, Kp.refl _ _ _, by rw [List.drop_zero]⟩
  have HV : Hid (IntsIn (fun b => b < B) w v ws) := hv
  obtain ⟨av, cv, rfl, hcv, -⟩ := hv.open_
  have HL := Hid.mk' hl
  have HX := Hid.mk' hX
  obtain ⟨m, hm⟩ : ∃ m, ws.length = m := ⟨_, rfl⟩
  have HM : Hid (ws.length = m) := hm
  rw [hm] at hw4 ⊢
  obtain ⟨N, hN⟩ : ∃ N, s.R.length = N := ⟨_, rfl⟩
  rw [hN] at HS hi
  obtain ⟨OUT, hO⟩ : ∃ OUT, walkP n s i ws = OUT := ⟨_, rfl⟩
  have HT : Hid (traceP n s i ws = OUT.map fun r => uniteP n r.2 i r.1) := by
    show _ = _
    unfold traceP
    rw [← hO]
    cases walkP n s i ws <;> rfl
  rw [hO] at HS
  have HEND : Hid (∀ W last s1, WalkAt B X P n w OUT N [] W s1 last → Calls Tryd.prog 65 #[.pointer (some ⟨P, 0, none⟩), .int .i64 (i : Int), .int .i64 (last : Int)] W fun e w' => e = .returned (.tuple #[]) ∧ BoolSays B X P n w (traceP n s i ws) (.returned (.bool true)) w') := fun W last s1 hW => by
    refine (unite_ i last W hW.op (by have := hW.more; omega) hW.lt hW.inv.rng hn).mono fun e w' h1 => ⟨h1.1, BoolSays.ok ?_ h1.2.1 (hW.kp.trans h1.2.2)⟩
    rw [HT.out, ← hW.out]
    rfl
  obtain ⟨r, hr⟩ : ∃ r, traceP n s i ws = r := ⟨_, rfl⟩
  rw [hr] at HT HEND ⊢
  clear h hX hI hv hl hm hN hO hr
  go_enter Tryd.func51, Tryd.ntmps51
  go_wp2_with fail
  go_loopw [7, 8, 14] (fun p q k W => ∃ (kn last : Nat) (s1 : Cos), kn ≤ m ∧ p = .int .i64 (last : Int) ∧ q = .bool true ∧ k = .int .i64 (kn : Int) ∧ Hid (WalkAt B X P n w OUT N (ws.drop kn) W s1 last)) (fun _ _ k _ => m - (intOf k).toNat)
  case atStart => exact ⟨0, i, s, by omega, rfl, rfl, rfl, HS.out⟩
  case round =>
    obtain ⟨k, last, s1, hk, rfl, rfl, rfl, HK⟩ := hrel
    by_cases hkn : k < m
    · have hkl : k < ws.length := by rw [HM.out]; exact hkn
      obtain ⟨l, hl⟩ : ∃ l, ws[k] = l := ⟨_, rfl⟩
      have hlm := HL.out l (by rw [← hl]; exact List.getElem_mem _)
      have hdr : ws.drop k = l :: ws.drop (k + 1) := by rw [List.drop_eq_getElem_cons hkl, hl]
      have hV1 := ints_kp HV.out HK.out.kp
      obtain ⟨a', c', ea, -, hx⟩ := hV1.open_
      rw [HM.out] at ea hx
      cases ea
      obtain ⟨b, off, rfl, -, -, hcell⟩ := hx (by omega)
      have ck := hcell k hkn
      rw [List.getElem?_eq_getElem hkl, Option.getD_some, hl] at ck
      have hcol := column_ l hlm.1 (by omega) (by omega) wr
      have hcx := col_lt (n := n) hlm.1 hlm.2.1 hlm.2.2
      have hwk := HK.out.out
      rw [hdr] at hwk
      have HXr : Hid (∀ b, X b → b < wr.heap.size) := fun b hb => Nat.lt_of_lt_of_le (HX.out b hb) HK.out.kp.size
      have z0 : (0 : Int) ≤ (k : Int) := by omega
      have z1 : (k : Int) < (m : Int) := by omega
      obtain ⟨x, hxx⟩ : ∃ x, colN l = x := ⟨_, rfl⟩
      unfold walkP at hwk
      rw [hxx] at hcol hcx hwk
      cases e1 : stepP n s1 last x with
      | none =>
        rw [e1] at hwk
        have hst := step_no e1 wr HK.out.op HXr.out HK.out.inv.rng HK.out.lt hcx hn
        have HO : Hid (r = none) := by rw [HT.out, ← hwk]; rfl
        clear hl hdr hV1 hx hcell hwk e1 hxx
        go_wp2_with (first
          | (go_at_call 57; refine hcol.mono ?_; rintro e V ⟨rfl, rfl⟩; clear hcol)
          | (go_at_call 53; refine hst.mono ?_; rintro e V ⟨rfl, hk2⟩; have H2 := Hid.mk' hk2; clear hk2 hst)
          | fail)
        go_ret
        exact BoolSays.no HO.out (HK.out.kp.trans H2.out)
      | some rr =>
        obtain ⟨t, s2⟩ := rr
        rw [e1] at hwk
        have hst := step_ok e1 wr HK.out.op HXr.out HK.out.inv.rng HK.out.lt hcx hn
        have HNX : Hid (∀ V, OpAt B X P n V s2 → Kp B X wr V → WalkAt B X P n w OUT N (ws.drop (k + 1)) V s2 t) := fun V h1 h2 => by
          obtain ⟨k1, k2, k3⟩ := HK.out.inv.step HK.out.lt hcx e1
          exact ⟨h1, k1, k2, by have := HK.out.more; omega, HK.out.kp.trans h2, hwk⟩
        clear hl hdr hV1 hx hcell hwk e1 hxx
        go_wp2_with (first
          | (go_at_call 57; refine hcol.mono ?_; rintro e V ⟨rfl, rfl⟩; clear hcol)
          | (go_at_call 53; refine hst.mono ?_; rintro e V2 ⟨rfl, ho2, hk2⟩; have H2 := Hid.mk' (HNX.out V2 ho2 hk2); clear ho2 hk2 hst)
          | fail)
        go_roundw
        case rel => exact ⟨k + 1, t, s2, by omega, rfl, rfl, by go_num, H2.out⟩
        case measure => simp [intOf]; omega
    · obtain rfl : k = m := by omega
      have HW : Hid (WalkAt B X P n w OUT N [] wr s1 last) := by
        have := HK.out
        rw [List.drop_eq_nil_of_le (by rw [HM.out]; exact Nat.le_refl _)] at this
        exact this
      have hun := HEND.out wr last s1 HW.out
      go_wp2_with (first
        | (go_at_call 65; refine hun.mono ?_; rintro e V ⟨rfl, hb⟩; have HB := Hid.mk' hb; clear hb hun)
        | fail)
      go_ret
      exact HB.out

end Go.Proofs.YtmaopnbnbiediaaDoor
