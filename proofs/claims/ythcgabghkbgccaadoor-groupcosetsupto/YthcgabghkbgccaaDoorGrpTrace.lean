/- A word is traced. -/
import Derived.Test.YthcgabghkbgccaaDoorGrpInv
import Derived.Test.YthcgabghkbgccaaDoorGrpStep
namespace Go.Proofs.YthcgabghkbgccaaDoor
open Go.RowKit Go.Sort

theorem step_ok {B : Nat} {X : Nat → Prop} {P n : Nat} {s s' : Cos} {i x t : Nat} (hr : stepP n s i x = some (t, s')) (w : World) (h : OpAt B X P n w s) (hX : ∀ b, X b → b < w.heap.size) (hR : Rng s.R) (hi : i < s.R.length) (hx : x < 2 * n) (hn : n ≤ 12) :
    Calls Tryd.prog 34 #[.pointer (some ⟨P, 0, none⟩), .int .i64 (i : Int), .int .i64 (x : Int)] w fun e w' => e = .returned (.tuple #[.int .i64 (t : Int), .bool true]) ∧ OpAt B X P n w' s' ∧ Kp B X w w' :=
  (step_ i x w h hX hR hi hx hn).mono fun e w' h => by
    rcases h with ⟨t2, s2, h1, h2, h3, h4⟩ | ⟨h1, _⟩
    · rw [hr] at h1; cases h1; exact ⟨h2, h3, h4⟩
    · rw [hr] at h1; cases h1
theorem step_no {B : Nat} {X : Nat → Prop} {P n : Nat} {s : Cos} {i x : Nat} (hr : stepP n s i x = none) (w : World) (h : OpAt B X P n w s) (hX : ∀ b, X b → b < w.heap.size) (hR : Rng s.R) (hi : i < s.R.length) (hx : x < 2 * n) (hn : n ≤ 12) :
    Calls Tryd.prog 34 #[.pointer (some ⟨P, 0, none⟩), .int .i64 (i : Int), .int .i64 (x : Int)] w fun e w' => e = .returned (.tuple #[.int .i64 0, .bool false]) ∧ Kp B X w w' :=
  (step_ i x w h hX hR hi hx hn).mono fun e w' h => by
    rcases h with ⟨t2, s2, h1, h2, h3, h4⟩ | ⟨h1, h2⟩
    · rw [hr] at h1; cases h1
    · exact h2

/-- What a call that may find no room answers. -/
def BoolSays (B : Nat) (X : Nat → Prop) (P n : Nat) (w : World) (r : Option Cos) (e : Ending) (w' : World) : Prop :=
  (∃ s', r = some s' ∧ e = .returned (.bool true) ∧ OpAt B X P n w' s' ∧ Kp B X w w') ∨ (r = none ∧ e = .returned (.bool false) ∧ Kp B X w w')
theorem BoolSays.ok {B : Nat} {X : Nat → Prop} {P n : Nat} {w w' : World} {r : Option Cos} {s' : Cos} (hr : r = some s') (h : OpAt B X P n w' s') (hk : Kp B X w w') : BoolSays B X P n w r (.returned (.bool true)) w' := .inl ⟨s', hr, rfl, h, hk⟩
theorem BoolSays.no {B : Nat} {X : Nat → Prop} {P n : Nat} {w w' : World} {r : Option Cos} (hr : r = none) (hk : Kp B X w w') : BoolSays B X P n w r (.returned (.bool false)) w' := .inr ⟨hr, rfl, hk⟩

theorem ints_kp {B : Nat} {X : Nat → Prop} {w W : World} {v : Value} {xs : List Int} (h : IntsIn (fun b => b < B) w v xs) (hk : Kp B X w W) : IntsIn (fun b => b < B) W v xs := SliceIn.keep h (fun b hb hB => hk.block b hb (.inl hB))
theorem rows_kp {B : Nat} {X : Nat → Prop} {w W : World} {v : Value} {xs : List (List Int)} (h : RowsIn (fun b => b < B) w v xs) (hk : Kp B X w W) : RowsIn (fun b => b < B) W v xs := RowsIn.keep h (fun b hb hB => hk.block b hb (.inl hB))

/-- While a word is traced. -/
structure WalkAt (B : Nat) (X : Nat → Prop) (P n : Nat) (w : World) (OUT : Option (Nat × Cos)) (N0 : Nat) (rest : List Int) (W : World) (s : Cos) (last : Nat) : Prop where
  op : OpAt B X P n W s
  inv : CInv n s
  lt : last < s.R.length
  more : N0 ≤ s.R.length
  kp : Kp B X w W
  out : walkP n s last rest = OUT

set_option maxRecDepth 100000 in
set_option maxHeartbeats 4000000 in
theorem trace_ {B : Nat} {X : Nat → Prop} {P n : Nat} {s : Cos} (i : Nat) (v : Value) (ws : List Int) (w : World) (h : OpAt B X P n w s) (hX : ∀ b, X b → b < w.heap.size) (hI : CInv n s) (hi : i < s.R.length) (hv : IntsIn (fun b => b < B) w v ws) (hl : LettersIn n ws) (hw4 : ws.length ≤ 400) (hn : n ≤ 12) :
    Calls Tryd.prog 32 #[.pointer (some ⟨P, 0, none⟩), .int .i64 (i : Int), v] w fun e w' => BoolSays B X P n w (traceP n s i ws) e w' := by
  have HS : Hid (WalkAt B X P n w (walkP n s i ws) s.R.length (ws.drop 0) w s i) := ⟨h, hI, hi, Nat.le_refl _, Kp.refl _ _ _, by rw [List.drop_zero]⟩
  have HV : Hid (IntsIn (fun b => b < B) w v ws) := hv
  obtain ⟨av, cv, rfl, hcv, -⟩ := hv.open_
  have HL := Hid.mk' hl
  have HX := Hid.mk' hX
  obtain ⟨m, hm⟩ : ∃ m, ws.length = m := ⟨_, rfl⟩
  have HM : Hid (ws.length = m) := hm
  rw [hm] at hw4 ⊢
  obtain ⟨N, hN⟩ : ∃ N, s.R.length = N := ⟨_, rfl⟩
  rw [hN] at HS hi
  obtain ⟨OUT, hO⟩ : ∃ OUT, walkP n s i ws = OUT := ⟨_, rfl⟩
  have HT : Hid (traceP n s i ws = OUT.map fun r => uniteP n r.2 i r.1) := by
    show _ = _
    unfold traceP
    rw [← hO]
    cases walkP n s i ws <;> rfl
  rw [hO] at HS
  have HEND : Hid (∀ W last s1, WalkAt B X P n w OUT N [] W s1 last → Calls Tryd.prog 40 #[.pointer (some ⟨P, 0, none⟩), .int .i64 (i : Int), .int .i64 (last : Int)] W fun e w' => e = .returned (.tuple #[]) ∧ BoolSays B X P n w (traceP n s i ws) (.returned (.bool true)) w') := fun W last s1 hW => by
    refine (unite_ i last W hW.op (by have := hW.more; omega) hW.lt hW.inv.rng hn).mono fun e w' h1 => ⟨h1.1, BoolSays.ok ?_ h1.2.1 (hW.kp.trans h1.2.2)⟩
    rw [HT.out, ← hW.out]
    rfl
  obtain ⟨r, hr⟩ : ∃ r, traceP n s i ws = r := ⟨_, rfl⟩
  rw [hr] at HT HEND ⊢
  clear h hX hI hv hl hm hN hO hr
  go_enter Tryd.func32, Tryd.ntmps32
  go_wp2_with fail
  go_loopw [7, 8, 14] (fun p q k W => ∃ (kn last : Nat) (s1 : Cos), kn ≤ m ∧ p = .int .i64 (last : Int) ∧ q = .bool true ∧ k = .int .i64 (kn : Int) ∧ Hid (WalkAt B X P n w OUT N (ws.drop kn) W s1 last)) (fun _ _ k _ => m - (intOf k).toNat)
  case atStart => exact ⟨0, i, s, by omega, rfl, rfl, rfl, HS.out⟩
  case round =>
    obtain ⟨k, last, s1, hk, rfl, rfl, rfl, HK⟩ := hrel
    by_cases hkn : k < m
    · have hkl : k < ws.length := by rw [HM.out]; exact hkn
      obtain ⟨l, hl⟩ : ∃ l, ws[k] = l := ⟨_, rfl⟩
      have hlm := HL.out l (by rw [← hl]; exact List.getElem_mem _)
      have hdr : ws.drop k = l :: ws.drop (k + 1) := by rw [List.drop_eq_getElem_cons hkl, hl]
      have hV1 := ints_kp HV.out HK.out.kp
      obtain ⟨a', c', ea, -, hx⟩ := hV1.open_
      rw [HM.out] at ea hx
      cases ea
      obtain ⟨b, off, rfl, -, -, hcell⟩ := hx (by omega)
      have ck := hcell k hkn
      rw [List.getElem?_eq_getElem hkl, Option.getD_some, hl] at ck
      have hcol := column_ l hlm.1 (by omega) (by omega) wr
      have hcx := col_lt (n := n) hlm.1 hlm.2.1 hlm.2.2
      have hwk := HK.out.out
      rw [hdr] at hwk
      have HXr : Hid (∀ b, X b → b < wr.heap.size) := fun b hb => Nat.lt_of_lt_of_le (HX.out b hb) HK.out.kp.size
      have z0 : (0 : Int) ≤ (k : Int) := by omega
      have z1 : (k : Int) < (m : Int) := by omega
      obtain ⟨x, hxx⟩ : ∃ x, colN l = x := ⟨_, rfl⟩
      unfold walkP at hwk
      rw [hxx] at hcol hcx hwk
      cases e1 : stepP n s1 last x with
      | none =>
        rw [e1] at hwk
        have hst := step_no e1 wr HK.out.op HXr.out HK.out.inv.rng HK.out.lt hcx hn
        have HO : Hid (r = none) := by rw [HT.out, ← hwk]; rfl
        clear hl hdr hV1 hx hcell hwk e1 hxx
        go_wp2_with (first
          | (go_at_call 39; refine hcol.mono ?_; rintro e V ⟨rfl, rfl⟩; clear hcol)
          | (go_at_call 34; refine hst.mono ?_; rintro e V ⟨rfl, hk2⟩; have H2 := Hid.mk' hk2; clear hk2 hst)
          | fail)
        go_ret
        exact BoolSays.no HO.out (HK.out.kp.trans H2.out)
      | some rr =>
        obtain ⟨t, s2⟩ := rr
        rw [e1] at hwk
        have hst := step_ok e1 wr HK.out.op HXr.out HK.out.inv.rng HK.out.lt hcx hn
        have HNX : Hid (∀ V, OpAt B X P n V s2 → Kp B X wr V → WalkAt B X P n w OUT N (ws.drop (k + 1)) V s2 t) := fun V h1 h2 => by
          obtain ⟨k1, k2, k3⟩ := HK.out.inv.step HK.out.lt hcx e1
          exact ⟨h1, k1, k2, by have := HK.out.more; omega, HK.out.kp.trans h2, hwk⟩
        clear hl hdr hV1 hx hcell hwk e1 hxx
        go_wp2_with (first
          | (go_at_call 39; refine hcol.mono ?_; rintro e V ⟨rfl, rfl⟩; clear hcol)
          | (go_at_call 34; refine hst.mono ?_; rintro e V2 ⟨rfl, ho2, hk2⟩; have H2 := Hid.mk' (HNX.out V2 ho2 hk2); clear ho2 hk2 hst)
          | fail)
        go_roundw
        case rel => exact ⟨k + 1, t, s2, by omega, rfl, rfl, by go_num, H2.out⟩
        case measure => simp [intOf]; omega
    · obtain rfl : k = m := by omega
      have HW : Hid (WalkAt B X P n w OUT N [] wr s1 last) := by
        have := HK.out
        rw [List.drop_eq_nil_of_le (by rw [HM.out]; exact Nat.le_refl _)] at this
        exact this
      have hun := HEND.out wr last s1 HW.out
      go_wp2_with (first
        | (go_at_call 40; refine hun.mono ?_; rintro e V ⟨rfl, hb⟩; have HB := Hid.mk' hb; clear hb hun)
        | fail)
      go_ret
      exact HB.out

end Go.Proofs.YthcgabghkbgccaaDoor
