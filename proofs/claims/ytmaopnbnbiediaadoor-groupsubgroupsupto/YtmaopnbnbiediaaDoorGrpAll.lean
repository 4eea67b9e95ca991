/- Words are traced; what a letter leads nowhere from is opened; the work at a coset. -/
import Derived.Test.YtmaopnbnbiediaaDoorGrpTrace
namespace Go.Proofs.YtmaopnbnbiediaaDoor
open Go.RowKit Go.Sort

theorem bool_ok {B : Nat} {X : Nat → Prop} {P n : Nat} {w : World} {f : FuncId} {args : Array Value} {r : Option Cos} {s' : Cos} (h : Calls Tryd.prog f args w fun e w' => BoolSays B X P n w r e w') (hr : r = some s') :
    Calls Tryd.prog f args w fun e w' => e = .returned (.bool true) ∧ OpAt B X P n w' s' ∧ Kp B X w w' := h.mono fun e w' h => by
  rcases h with ⟨s2, h1, h2⟩ | ⟨h1, _⟩
  · rw [hr] at h1; cases h1; exact h2
  · rw [hr] at h1; cases h1
theorem bool_no {B : Nat} {X : Nat → Prop} {P n : Nat} {w : World} {f : FuncId} {args : Array Value} {r : Option Cos} (h : Calls Tryd.prog f args w fun e w' => BoolSays B X P n w r e w') (hr : r = none) :
    Calls Tryd.prog f args w fun e w' => e = .returned (.bool false) ∧ Kp B X w w' := h.mono fun e w' h => by
  rcases h with ⟨s2, h1, _⟩ | ⟨_, h2⟩
  · rw [hr] at h1; cases h1
  · exact h2

/-- While something goes on at a coset. -/
structure OnAt (B : Nat) (X : Nat → Prop) (P n : Nat) (w : World) (N0 : Nat) (W : World) (s : Cos) : Prop where
  op : OpAt B X P n W s
  inv : CInv n s
  more : N0 ≤ s.R.length
  kp : Kp B X w W

/-- Words that may be traced. -/
structure WordsAt (B n : Nat) (w : World) (v : Value) (wss : List (List Int)) : Prop where
  rows : RowsIn (fun b => b < B) w v wss
  lets : ∀ ws ∈ wss, LettersIn n ws
  short : ∀ ws ∈ wss, ws.length ≤ 400
  few : wss.length ≤ 400

theorem WordsAt.kp {B n : Nat} {X : Nat → Prop} {w W : World} {v : Value} {wss : List (List Int)} (h : WordsAt B n w v wss) (hk : Kp B X w W) : WordsAt B n W v wss := ⟨rows_kp h.rows hk, h.lets, h.short, h.few⟩

set_option maxRecDepth 100000 in
set_option maxHeartbeats 4000000 in
theorem traceAll_ {B : Nat} {X : Nat → Prop} {P n : Nat} {s : Cos} (i : Nat) (v : Value) (wss : List (List Int)) (w : World) (h : OpAt B X P n w s) (hX : ∀ b, X b → b < w.heap.size) (hI : CInv n s) (hi : i < s.R.length) (hv : WordsAt B n w v wss) (hn : n ≤ 12) :
    Calls Tryd.prog 34 #[.pointer (some ⟨P, 0, none⟩), .int .i64 (i : Int), v] w fun e w' => BoolSays B X P n w (traceAllP n s i wss) e w' := by
  have HS : Hid (OnAt B X P n w s.R.length w s ∧ traceAllP n s i (wss.drop 0) = traceAllP n s i wss) := ⟨⟨h, hI, Nat.le_refl _, Kp.refl _ _ _⟩, by rw [List.drop_zero]⟩
  have HV := Hid.mk' hv
  have hw4 := hv.few
  obtain ⟨av, cv, rfl, hcv, -⟩ := hv.rows.open_
  have HX := Hid.mk' hX
  obtain ⟨m, hm⟩ : ∃ m, wss.length = m := ⟨_, rfl⟩
  have HM : Hid (wss.length = m) := hm
  rw [hm] at hw4 ⊢
  obtain ⟨N, hN⟩ : ∃ N, s.R.length = N := ⟨_, rfl⟩
  rw [hN] at HS hi
  obtain ⟨OUT, hO⟩ : ∃ OUT, traceAllP n s i wss = OUT := ⟨_, rfl⟩
  rw [hO] at HS ⊢
  clear h hX hI hv hm hN hO
  go_enter Tryd.func34, Tryd.ntmps34
  go_wp2_with fail
  go_loopw [11] (fun k W => ∃ (kn : Nat) (s1 : Cos), kn ≤ m ∧ k = .int .i64 (kn : Int) ∧ Hid (OnAt B X P n w N W s1 ∧ traceAllP n s1 i (wss.drop kn) = OUT)) (fun k _ => m - (intOf k).toNat)
  case atStart => exact ⟨0, s, by omega, rfl, HS.out⟩
  case round =>
    obtain ⟨k, s1, hk, rfl, HK⟩ := hrel
    by_cases hkn : k < m
    · have hkl : k < wss.length := by rw [HM.out]; exact hkn
      obtain ⟨l, hl⟩ : ∃ l, wss[k] = l := ⟨_, rfl⟩
      have hlm : l ∈ wss := by rw [← hl]; exact List.getElem_mem _
      have hdr : wss.drop k = l :: wss.drop (k + 1) := by rw [List.drop_eq_getElem_cons hkl, hl]
      have hV1 := (HV.out.kp HK.out.1.kp).rows
      obtain ⟨a', c', ea, -, hx⟩ := hV1.open_
      rw [HM.out] at ea hx
      cases ea
      obtain ⟨b, off, rfl, -, -, hcell⟩ := hx (by omega)
      obtain ⟨a2, c2, ck, hi2⟩ := hcell k hkn
      rw [List.getElem?_eq_getElem hkl, Option.getD_some, hl] at ck hi2
      have hwk := HK.out.2
      rw [hdr] at hwk
      unfold traceAllP at hwk
      have htr := trace_ i (.slice a2 l.length c2) l wr HK.out.1.op (fun b hb => Nat.lt_of_lt_of_le (HX.out b hb) HK.out.1.kp.size) HK.out.1.inv (by have := HK.out.1.more; omega) hi2 (HV.out.lets l hlm) (HV.out.short l hlm) hn
      have hl4 := HV.out.short l hlm
      have HIN : Hid (i < s1.R.length) := by have := HK.out.1.more; show i < s1.R.length; omega
      obtain ⟨ll, hll⟩ : ∃ ll, l.length = ll := ⟨_, rfl⟩
      have HLM := Hid.mk' hlm
      rw [hll] at htr ck hl4
      have z0 : (0 : Int) ≤ (k : Int) := by omega
      have z1 : (k : Int) < (m : Int) := by omega
      cases e1 : traceP n s1 i l with
      | none =>
        rw [e1] at hwk
        have hst := bool_no htr e1
        have HO : Hid (OUT = none) := hwk.symm
        clear hl hdr hV1 hx hcell hwk e1 htr hi2 hll hlm
        go_wp2_with (first
          | (go_at_call 51; refine hst.mono ?_; rintro e V ⟨rfl, hk2⟩; have H2 := Hid.mk' hk2; clear hk2 hst)
          | fail)
        go_ret
        exact BoolSays.no HO.out (HK.out.1.kp.trans H2.out)
      | some s2 =>
        rw [e1] at hwk
        have hst := bool_ok htr e1
        have HNX : Hid (∀ V, OpAt B X P n V s2 → Kp B X wr V → OnAt B X P n w N V s2 ∧ traceAllP n s2 i (wss.drop (k + 1)) = OUT) := fun V h1 h2 => by
          obtain ⟨k1, k2⟩ := HK.out.1.inv.trace HIN.out (HV.out.lets l HLM.out) e1
          exact ⟨⟨h1, k1, by have := HK.out.1.more; omega, HK.out.1.kp.trans h2⟩, hwk⟩
        clear hl hdr hV1 hx hcell hwk e1 htr hi2 hll hlm
        go_wp2_with (first
          | (go_at_call 51; refine hst.mono ?_; rintro e V ⟨rfl, ho2, hk2⟩; have H2 := Hid.mk' (HNX.out V ho2 hk2); clear ho2 hk2 hst)
          | fail)
        go_roundw
        case rel => exact ⟨k + 1, s2, by omega, by go_num, H2.out⟩
        case measure => simp [intOf]; omega
    · obtain rfl : k = m := by omega
      have HW : Hid (OUT = some s1) := by
        have := HK.out.2
        rw [List.drop_eq_nil_of_le (by rw [HM.out]; exact Nat.le_refl _)] at this
        exact this.symm
      go_wp2_with fail
      go_ret
      exact BoolSays.ok HW.out HK.out.1.op HK.out.1.kp

set_option maxRecDepth 100000 in
set_option maxHeartbeats 4000000 in
theorem openAll_ {B : Nat} {X : Nat → Prop} {P n : Nat} {s : Cos} (i : Nat) (w : World) (h : OpAt B X P n w s) (hX : ∀ b, X b → b < w.heap.size) (hI : CInv n s) (hi : i < s.R.length) (hn : n ≤ 12) :
    Calls Tryd.prog 37 #[.pointer (some ⟨P, 0, none⟩), .int .i64 (i : Int)] w fun e w' => BoolSays B X P n w (openAllP n s i) e w' := by
  have HS : Hid (OnAt B X P n w s.R.length w s ∧ openL n s i ((List.range (2 * n)).drop 0) = openAllP n s i) := ⟨⟨h, hI, Nat.le_refl _, Kp.refl _ _ _⟩, by rw [List.drop_zero]; rfl⟩
  have p1 : w.cell? ⟨P, 1, none⟩ = some (.int .i64 (n : Int)) := by obtain ⟨G, cG, H, cH, rb, c, h⟩ := h; exact h.p1
  have HX := Hid.mk' hX
  obtain ⟨m, hm⟩ : ∃ m, 2 * n = m := ⟨_, rfl⟩
  have HM : Hid (2 * n = m) := hm
  have hmul : (2 : Int) * (n : Int) = (m : Int) := by omega
  have hm24 : m ≤ 24 := by omega
  obtain ⟨N, hN⟩ : ∃ N, s.R.length = N := ⟨_, rfl⟩
  rw [hN] at HS hi
  obtain ⟨OUT, hO⟩ : ∃ OUT, openAllP n s i = OUT := ⟨_, rfl⟩
  rw [hO] at HS ⊢
  clear h hX hI hm hN hO
  go_enter Tryd.func37, Tryd.ntmps37
  go_wp2_with fail
  go_loopw [13] (fun k W => ∃ (kn : Nat) (s1 : Cos), kn ≤ m ∧ k = .int .i64 (kn : Int) ∧ Hid (OnAt B X P n w N W s1 ∧ openL n s1 i ((List.range (2 * n)).drop kn) = OUT)) (fun k _ => m - (intOf k).toNat)
  case atStart => exact ⟨0, s, by omega, rfl, HS.out⟩
  case round =>
    obtain ⟨k, s1, hk, rfl, HK⟩ := hrel
    by_cases hkn : k < m
    · have hk2 : k < 2 * n := by rw [HM.out]; exact hkn
      have hdr : (List.range (2 * n)).drop k = k :: (List.range (2 * n)).drop (k + 1) := by rw [List.drop_eq_getElem_cons (by simpa using hk2), List.getElem_range]
      have hwk := HK.out.2
      rw [hdr] at hwk
      unfold openL at hwk
      have HIN : Hid (i < s1.R.length) := by have := HK.out.1.more; show i < s1.R.length; omega
      have HXr : Hid (∀ b, X b → b < wr.heap.size) := fun b hb => Nat.lt_of_lt_of_le (HX.out b hb) HK.out.1.kp.size
      have z0 : (0 : Int) ≤ (k : Int) := by omega
      have z1 : (k : Int) < (m : Int) := by omega
      cases e1 : stepP n s1 i k with
      | none =>
        rw [e1] at hwk
        have hst := step_no e1 wr HK.out.1.op HXr.out HK.out.1.inv.rng HIN.out hk2 hn
        have HO : Hid (OUT = none) := hwk.symm
        clear hdr hwk e1
        go_wp2_with (first
          | (go_at_call 53; refine hst.mono ?_; rintro e V ⟨rfl, hk2⟩; have H2 := Hid.mk' hk2; clear hk2 hst)
          | fail)
        go_ret
        exact BoolSays.no HO.out (HK.out.1.kp.trans H2.out)
      | some rr =>
        obtain ⟨t, s2⟩ := rr
        rw [e1] at hwk
        have hst := step_ok e1 wr HK.out.1.op HXr.out HK.out.1.inv.rng HIN.out hk2 hn
        have HNX : Hid (∀ V, OpAt B X P n V s2 → Kp B X wr V → OnAt B X P n w N V s2 ∧ openL n s2 i ((List.range (2 * n)).drop (k + 1)) = OUT) := fun V h1 h2 => by
          obtain ⟨k1, _, k2⟩ := HK.out.1.inv.step HIN.out hk2 e1
          exact ⟨⟨h1, k1, by have := HK.out.1.more; omega, HK.out.1.kp.trans h2⟩, hwk⟩
        clear hdr hwk e1
        go_wp2_with (first
          | (go_at_call 53; refine hst.mono ?_; rintro e V ⟨rfl, ho2, hk2⟩; have H2 := Hid.mk' (HNX.out V ho2 hk2); clear ho2 hk2 hst)
          | fail)
        go_roundw
        case rel => exact ⟨k + 1, s2, by omega, by go_num, H2.out⟩
        case measure => simp [intOf]; omega
    · obtain rfl : k = m := by omega
      have HW : Hid (OUT = some s1) := by
        have := HK.out.2
        rw [List.drop_eq_nil_of_le (by rw [List.length_range, HM.out]; exact Nat.le_refl _)] at this
        exact this.symm
      go_wp2_with fail
      go_ret
      exact BoolSays.ok HW.out HK.out.1.op HK.out.1.kp

end Go.Proofs.YtmaopnbnbiediaaDoor
