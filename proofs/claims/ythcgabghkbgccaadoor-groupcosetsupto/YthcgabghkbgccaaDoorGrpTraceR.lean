/- The reference traces a word: what comes is what comes by taking over. -/
import Derived.Test.YthcgabghkbgccaaDoorGrpSameR
import Derived.Test.YthcgabghkbgccaaDoorGrpTrace
namespace Go.Proofs.YthcgabghkbgccaaDoor
open Go.RowKit Go.Sort

theorem columnR_ (l : Int) (h0 : l ≠ 0) (h1 : -12 ≤ l) (h2 : l ≤ 12) (w : World) : Calls Tryd.prog 28 #[.int .i64 l] w fun e w' => e = .returned (.int .i64 (colN l : Int)) ∧ w' = w := by
  by_cases hl : 0 < l
  · have e1 : (2 : Int) * l - 2 = (colN l : Int) := by unfold colN; rw [if_pos hl]; omega
    go_enter Tryd.func28, Tryd.ntmps28
    go_wp2_with fail
    go_ret
    exact ⟨rfl, rfl⟩
  · have e1 : (-2 : Int) * l - 1 = (colN l : Int) := by unfold colN; rw [if_neg hl]; omega
    go_enter Tryd.func28, Tryd.ntmps28
    go_wp2_with fail
    go_ret
    exact ⟨rfl, rfl⟩

/-- While a word is traced, both ways. -/
structure TrAt (B : Nat) (X : Nat → Prop) (P n : Nat) (w : World) (s : Cos) (OUT : Option (Nat × Cos)) (rest : List Int) (k : Nat) (W : World) (s1 t1 : Cos) (l1 l2 : Nat) : Prop where
  pr : Pair n s1 t1
  fin : FinAt B X P n W t1
  kp : Kp B X w W
  out : walkP n s1 l1 rest = OUT
  cls : s1.cls = s.cls
  len : s1.R.length ≤ s.R.length + k
  low : s.R.length ≤ s1.R.length
  lt1 : l1 < s1.R.length
  lt2 : l2 < t1.R.length
  eq : t1.cls l2 = t1.cls l1
theorem TrAt.step {B : Nat} {X : Nat → Prop} {P n : Nat} {w W : World} {s s1 t1 : Cos} {OUT : Option (Nat × Cos)} {rest : List Int} {k l1 l2 : Nat} {l : Int} (h : TrAt B X P n w s OUT (l :: rest) k W s1 t1 l1 l2) (hx : colN l < 2 * n) (h5 : t1.R.length < 5000) :
    ∃ s2 u, ∀ V, FinAt B X P n V (stepR n t1 l2 (colN l)).2 → Kp B X W V → TrAt B X P n w s OUT rest (k + 1) V s2 (stepR n t1 l2 (colN l)).2 u (stepR n t1 l2 (colN l)).1 := by
  obtain ⟨u, s2, e1, e2, e3, e4, e5, e6, e7, e8⟩ := h.pr.step h.lt1 h.lt2 h.eq hx h5
  refine ⟨s2, u, fun V h1 h2 => ⟨e2, h1, h.kp.trans h2, ?_, e5.trans h.cls, by have := h.len; omega, by have := h.low; omega, e8, e4, ?_⟩⟩
  · rw [← h.out]
    unfold walkP
    rw [e1]
    cases rest <;> rfl
  · rw [← e2.cls_eq]; exact e3.symm
/-- What a word's trace answers. -/
structure TraceSays (B : Nat) (X : Nat → Prop) (P n : Nat) (w : World) (s : Cos) (r : Option Cos) (m : Nat) (w' : World) (s' t' : Cos) : Prop where
  out : r = some s'
  pr : Pair n s' t'
  fin : FinAt B X P n w' t'
  kp : Kp B X w w'
  len : s'.R.length ≤ s.R.length + m
  low : s.R.length ≤ s'.R.length
theorem TrAt.done {B : Nat} {X : Nat → Prop} {P n : Nat} {w W V : World} {s s1 t1 t' : Cos} {ws : List Int} {k l1 l2 c x0 : Nat} (h : TrAt B X P n w s (walkP n s c ws) [] k W s1 t1 l1 l2) (hs : CInv n s) (hc : c < s.R.length) (hx0 : s.cls c = x0) (hS : SameSays B X P n W t1 x0 l2 V t') : ∃ s' t', TraceSays B X P n w s (traceP n s c ws) k V s' t' := by
  have hcls := h.pr.cls_eq
  have ho := h.out
  have hcs : c < s1.R.length := by have := h.low; omega
  have ex0 : t1.cls x0 = t1.cls c := by rw [← hcls, h.cls, ← hx0]; exact hs.cls.idem c
  have hxl : x0 < t1.R.length := by rw [← h.pr.len, ← hx0]; have := hs.cls.le c; have := h.low; omega
  have hT : traceP n s c ws = some (uniteP n s1 c l1) := by
    unfold traceP
    rw [← ho]
    rfl
  have hl := (h.pr.si.unite hcs h.lt1).2
  refine ⟨uniteP n s1 c l1, t', hT, ?_, hS.fin, h.kp.trans hS.kp, by rw [hl]; exact h.len, by rw [hl]; exact h.low⟩
  rcases hS.is with ⟨e, rfl⟩ | ⟨e, hm⟩
  · exact h.pr.same_none hcs h.lt1 (by rw [← ex0, ← h.eq]; exact e)
  · exact h.pr.same_moves hcs h.lt1 hxl h.lt2 ex0 h.eq e hm hS.cl

set_option maxRecDepth 100000 in
set_option maxHeartbeats 4000000 in
theorem traceR_ {B : Nat} {X : Nat → Prop} {P n : Nat} {s t : Cos} (c : Nat) (v : Value) (ws : List Int) (w : World) (h : FinAt B X P n w t) (hp : Pair n s t) (hX : ∀ b, X b → b < w.heap.size) (hc : c < s.R.length) (hv : IntsIn (fun b => b < B) w v ws) (hl : LettersIn n ws) (hN : s.R.length + ws.length ≤ 900) (hn : n ≤ 12) :
    Calls Tryd.prog 16 #[.pointer (some ⟨P, 0, none⟩), .int .i64 (c : Int), v] w fun e w' => e = .returned (.tuple #[]) ∧ ∃ s' t', TraceSays B X P n w s (traceP n s c ws) ws.length w' s' t' := by
  have hlen := hp.len
  have HPR := Hid.mk' hp
  have hx0l := hp.si.cls_lt hc
  obtain ⟨v0, v1, rb, cp, hF⟩ := h
  obtain ⟨G, cG, H, cH, rfl, rfl⟩ := hF.open_ hp.ti.pos
  have p1 := hF.p1
  have cc := hF.of_at (i := c) (by rw [← hlen]; exact hc)
  rw [← hp.cls_eq] at cc
  obtain ⟨x0, hx0⟩ : ∃ x0, s.cls c = x0 := ⟨_, rfl⟩
  have HX0 : Hid (s.cls c = x0) := hx0
  rw [hx0] at cc hx0l
  have HS : Hid (TrAt B X P n w s (walkP n s c ws) (ws.drop 0) 0 w s t c x0) := ⟨hp, ⟨_, _, _, _, hF⟩, Kp.refl _ _ _, by rw [List.drop_zero], rfl, Nat.le_refl _, Nat.le_refl _, hc, by rw [← hlen]; exact hx0l, by rw [← hp.cls_eq, ← hx0]; exact hp.si.cls.idem c⟩
  have HV : Hid (IntsIn (fun b => b < B) w v ws) := hv
  obtain ⟨av, cv, rfl, hcv, -⟩ := hv.open_
  have HL := Hid.mk' hl
  have HX := Hid.mk' hX
  obtain ⟨m, hm⟩ : ∃ m, ws.length = m := ⟨_, rfl⟩
  have HM : Hid (ws.length = m) := hm
  obtain ⟨N, hNN⟩ : ∃ N, s.R.length = N := ⟨_, rfl⟩
  have HN : Hid (s.R.length = N) := hNN
  have HEND : Hid (∀ V W t' s1 t1 l1 l2, TrAt B X P n w s (walkP n s c ws) [] m W s1 t1 l1 l2 → SameSays B X P n W t1 x0 l2 V t' → ∃ s' t', TraceSays B X P n w s (traceP n s c ws) m V s' t') := fun V W t' s1 t1 l1 l2 h1 h2 => h1.done HPR.out.si hc hx0 h2
  rw [hm] at hN hcv ⊢
  rw [hNN] at hN hc
  rw [← hlen, hNN] at p1
  rw [hNN] at hx0l
  obtain ⟨r, hr⟩ : ∃ r, traceP n s c ws = r := ⟨_, rfl⟩
  rw [hr] at HEND ⊢
  obtain ⟨OUT, hO⟩ : ∃ OUT, walkP n s c ws = OUT := ⟨_, rfl⟩
  rw [hO] at HS HEND
  have z0 : (0 : Int) ≤ (c : Int) := by omega
  have z1 : (c : Int) < (N : Int) := by omega
  clear hp hlen hF hx0 hv hl hX hm hNN hr hO
  go_enter Tryd.func16, Tryd.ntmps16
  go_wp2_with fail
  clear p1 cc
  go_loopw [7, 8] (fun p q W => ∃ (kn l1 l2 : Nat) (s1 t1 : Cos), kn ≤ m ∧ p = .int .i64 (l2 : Int) ∧ q = .int .i64 (kn : Int) ∧ Hid (TrAt B X P n w s OUT (ws.drop kn) kn W s1 t1 l1 l2)) (fun _ q _ => m - (intOf q).toNat)
  case atStart => exact ⟨0, c, x0, s, t, by omega, rfl, rfl, HS.out⟩
  case round =>
    obtain ⟨k, l1, l2, s1, t1, hk, rfl, rfl, HK⟩ := hrel
    have hl1 := HK.out.len
    rw [HN.out, HK.out.pr.len] at hl1
    by_cases hkn : k < m
    · have hkl : k < ws.length := by rw [HM.out]; exact hkn
      obtain ⟨l, hl⟩ : ∃ l, ws[k] = l := ⟨_, rfl⟩
      have hlm := HL.out l (by rw [← hl]; exact List.getElem_mem _)
      have hdr : ws.drop k = l :: ws.drop (k + 1) := by rw [List.drop_eq_getElem_cons hkl, hl]
      have hV1 := ints_kp HV.out HK.out.kp
      obtain ⟨a', c', ea, -, hx⟩ := hV1.open_
      rw [HM.out] at ea hx
      cases ea
      obtain ⟨b, off, rfl, -, -, hcell⟩ := hx (by omega)
      have ck := hcell k hkn
      rw [List.getElem?_eq_getElem hkl, Option.getD_some, hl] at ck
      have hcol := columnR_ l hlm.1 (by omega) (by omega) wr
      have hcx := col_lt (n := n) hlm.1 hlm.2.1 hlm.2.2
      have HXr : Hid (∀ b, X b → b < wr.heap.size) := fun b hb => Nat.lt_of_lt_of_le (HX.out b hb) HK.out.kp.size
      have hTR : TrAt B X P n w s OUT (l :: ws.drop (k + 1)) k wr s1 t1 l1 l2 := by rw [← hdr]; exact HK.out
      have hst := stepR_ l2 (colN l) wr HK.out.fin HXr.out HK.out.pr.ti HK.out.lt2 hcx (by omega) hn
      obtain ⟨s2, u, hnx⟩ := hTR.step hcx (by omega)
      obtain ⟨t2, ht2⟩ : ∃ t2, (stepR n t1 l2 (colN l)).2 = t2 := ⟨_, rfl⟩
      obtain ⟨l3, hl3⟩ : ∃ l3, (stepR n t1 l2 (colN l)).1 = l3 := ⟨_, rfl⟩
      rw [ht2, hl3] at hst hnx
      have HNX := Hid.mk' hnx
      obtain ⟨x, hxx⟩ : ∃ x, colN l = x := ⟨_, rfl⟩
      rw [hxx] at hcol hst
      have hFull : ∀ V, FinAt B X P n V t2 → V.cell? ⟨P, 2, none⟩ = some (.bool false) := fun V hV => by obtain ⟨_, _, _, _, h⟩ := hV; exact h.p2
      have HFU := Hid.mk' hFull
      have y0 : (0 : Int) ≤ (k : Int) := by omega
      have y1 : (k : Int) < (m : Int) := by omega
      clear hl hdr hV1 hx hcell hTR hnx ht2 hl3 hxx hFull
      go_wp2_with (first
        | (go_at_call 28; refine hcol.mono ?_; rintro e V ⟨rfl, rfl⟩; clear hcol)
        | (go_at_call 17; refine hst.mono ?_; rintro e V2 ⟨rfl, ho2, hk2⟩; have H2 := Hid.mk' (HNX.out V2 ho2 hk2); have f2 := HFU.out V2 ho2; clear ho2 hk2 hst)
        | fail)
      go_roundw
      case rel => exact ⟨k + 1, u, l3, s2, t2, by omega, rfl, by go_num, H2.out⟩
      case measure => simp [intOf]; omega
    · obtain rfl : k = m := by omega
      have HW : Hid (TrAt B X P n w s OUT [] k wr s1 t1 l1 l2) := by
        have := HK.out
        rw [List.drop_eq_nil_of_le (by rw [HM.out]; exact Nat.le_refl _)] at this
        exact this
      have hsm := sameR_ x0 l2 wr HK.out.fin HK.out.pr.ti HK.out.pr.tc (by rw [← HK.out.pr.len]; have := HK.out.low; rw [HN.out] at this; omega) HK.out.lt2 (by omega) hn
      go_wp2_with (first
        | (go_at_call 29; refine hsm.mono ?_; rintro e V ⟨rfl, t', hS⟩; have HB := Hid.mk' (HEND.out V wr t' s1 t1 l1 l2 HW.out hS); clear hS hsm)
        | fail)
      refine bodyPost_end (v := .tuple #[]) ?_ rfl ⟨rfl, HB.out⟩
      simp [results, Tryd.f16, go_sem]

end Go.Proofs.YthcgabghkbgccaaDoor
