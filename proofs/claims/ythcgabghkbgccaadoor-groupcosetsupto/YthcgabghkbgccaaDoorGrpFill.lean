/- The work at a coset; all cosets are gone through. -/
import Derived.Test.YthcgabghkbgccaaDoorGrpAll
namespace Go.Proofs.YthcgabghkbgccaaDoor
open Go.RowKit Go.Sort

/-- What the work reads beside the cosets: the pointer's box, the group's. -/
structure WorkAt (B : Nat) (X : Nat → Prop) (P n : Nat) (w : World) (ob gb : Nat) (v : Value) (rels : List (List Int)) : Prop where
  box : w.cell? ⟨ob, 0, none⟩ = some (.pointer (some ⟨P, 0, none⟩))
  inX : X ob
  rel : w.cell? ⟨gb, 1, none⟩ = some v
  low : gb < B
  words : WordsAt B n w v rels
theorem WorkAt.kp {B : Nat} {X : Nat → Prop} {P n : Nat} {w W : World} {ob gb : Nat} {v : Value} {rels : List (List Int)} (h : WorkAt B X P n w ob gb v rels) (hk : Kp B X w W) : WorkAt B X P n W ob gb v rels :=
  ⟨hk.cell h.box (.inr h.inX), h.inX, hk.cell h.rel (.inl h.low), h.low, h.words.kp hk⟩

set_option maxRecDepth 100000 in
set_option maxHeartbeats 4000000 in
theorem work_ {B : Nat} {X : Nat → Prop} {P n : Nat} {s : Cos} (k ob gb : Nat) (v : Value) (rels : List (List Int)) (w : World) (h : OpAt B X P n w s) (hX : ∀ b, X b → b < w.heap.size) (hI : CInv n s) (hk : k < s.R.length) (hw : WorkAt B X P n w ob gb v rels) (hn : n ≤ 12) :
    Calls Tryd.prog 23 #[.int .i64 (k : Int), .pointer (some ⟨ob, 0, none⟩), .pointer (some ⟨gb, 0, none⟩)] w fun e w' => BoolSays B X P n w (workP n rels s k) e w' := by
  have htr := traceAll_ k v rels w h hX hI hk hw.words hn
  have c0 := hw.box
  have c1 := hw.rel
  obtain ⟨r, hr⟩ : ∃ r, workP n rels s k = r := ⟨_, rfl⟩
  have hr2 := hr
  unfold workP at hr2
  rw [hr]
  cases e1 : traceAllP n s k rels with
  | none =>
    rw [e1] at hr2
    have HO : Hid (r = none) := hr2.symm
    have hst := bool_no htr e1
    clear htr hr hr2 e1
    go_enter Tryd.func23, Tryd.ntmps23
    go_wp2_with (first
      | (go_at_call 21; refine hst.mono ?_; rintro e V ⟨rfl, hk2⟩; have H2 := Hid.mk' hk2; clear hk2 hst)
      | fail)
    go_ret
    exact BoolSays.no HO.out H2.out
  | some s1 =>
    rw [e1] at hr2
    have hst := bool_ok htr e1
    obtain ⟨i1, i2⟩ := hI.traceAll hk hw.words.lets e1
    have HOP : Hid (∀ V, OpAt B X P n V s1 → Kp B X w V → Calls Tryd.prog 24 #[.pointer (some ⟨P, 0, none⟩), .int .i64 (k : Int)] V fun e w' => BoolSays B X P n V (openAllP n s1 k) e w') := fun V h1 h2 => openAll_ k V h1 (fun b hb => Nat.lt_of_lt_of_le (hX b hb) h2.size) i1 (by omega) hn
    have HWX : Hid (X ob) := hw.inX
    cases e2 : openAllP n s1 k with
    | none =>
      have HO : Hid (r = none) := by rw [← hr2]; exact e2
      rw [e2] at HOP
      clear htr hr hr2 e1 e2
      go_enter Tryd.func23, Tryd.ntmps23
      go_wp2_with (first
        | (go_at_call 21; refine hst.mono ?_; rintro e V ⟨rfl, ho2, hk2⟩; have d0 := hk2.cell c0 (.inr HWX.out); have hop := bool_no (HOP.out V ho2 hk2) rfl; have H2 := Hid.mk' hk2; clear ho2 hk2 hst)
        | (go_at_call 24; refine hop.mono ?_; rintro e V2 ⟨rfl, hk3⟩; have H3 := Hid.mk' hk3; clear hk3 hop)
        | fail)
      go_ret
      exact BoolSays.no HO.out (H2.out.trans H3.out)
    | some s2 =>
      have HO : Hid (r = some s2) := by rw [← hr2]; exact e2
      rw [e2] at HOP
      clear htr hr hr2 e1 e2
      go_enter Tryd.func23, Tryd.ntmps23
      go_wp2_with (first
        | (go_at_call 21; refine hst.mono ?_; rintro e V ⟨rfl, ho2, hk2⟩; have d0 := hk2.cell c0 (.inr HWX.out); have hop := bool_ok (HOP.out V ho2 hk2) rfl; have H2 := Hid.mk' hk2; clear ho2 hk2 hst)
        | (go_at_call 24; refine hop.mono ?_; rintro e V2 ⟨rfl, ho3, hk3⟩; have H3 := Hid.mk' (And.intro ho3 hk3); clear ho3 hk3 hop)
        | fail)
      go_ret
      exact BoolSays.ok HO.out H3.out.1 (H2.out.trans H3.out.2)

theorem fillF_end {n m k : Nat} {rels : List (List Int)} {s : Cos} (h : s.R.length ≤ k) : fillF n rels m k s = some s := by
  cases m with
  | zero => rfl
  | succ m => unfold fillF; rw [if_neg (by omega)]

set_option maxRecDepth 100000 in
set_option maxHeartbeats 4000000 in
theorem fill_ {B : Nat} {X : Nat → Prop} {P n : Nat} {s : Cos} (ob gb : Nat) (v : Value) (rels : List (List Int)) (w : World) (h : OpAt B X P n w s) (hX : ∀ b, X b → b < w.heap.size) (hI : CInv n s) (hw : WorkAt B X P n w ob gb v rels) (hn : n ≤ 12) :
    Calls Tryd.prog 22 #[.pointer (some ⟨P, 0, none⟩), .func (.func 23) #[] #[.pointer (some ⟨ob, 0, none⟩), .pointer (some ⟨gb, 0, none⟩)]] w fun e w' => BoolSays B X P n w (fillF n rels 5001 0 s) e w' := by
  have HS : Hid (OnAt B X P n w 0 w s ∧ fillF n rels 5001 0 s = fillF n rels 5001 0 s) := ⟨⟨h, hI, Nat.zero_le _, Kp.refl _ _ _⟩, rfl⟩
  have HX := Hid.mk' hX
  have HWK := Hid.mk' hw
  obtain ⟨OUT, hO⟩ : ∃ OUT, fillF n rels 5001 0 s = OUT := ⟨_, rfl⟩
  rw [hO] at HS ⊢
  have HS0 : Hid (OnAt B X P n w 0 w s ∧ fillF n rels 5001 0 s = OUT) := ⟨HS.out.1, hO⟩
  clear h hX hI hw hO HS
  go_enter Tryd.func22, Tryd.ntmps22
  go_wp2_with fail
  go_loopw [5] (fun k W => ∃ (kn m : Nat) (s1 : Cos), kn + m = 5001 ∧ kn ≤ 5000 ∧ k = .int .i64 (kn : Int) ∧ Hid (OnAt B X P n w 0 W s1 ∧ fillF n rels m kn s1 = OUT)) (fun k _ => 5001 - (intOf k).toNat)
  case atStart => exact ⟨0, 5001, s, by omega, by omega, rfl, HS0.out⟩
  case round =>
    obtain ⟨k, m, s1, hkm, hk5, rfl, HK⟩ := hrel
    obtain ⟨G, cG, H, cH, rb, c, h1⟩ := HK.out.1.op
    have p0 := h1.p0
    have hN5 := h1.few
    obtain ⟨N, hN⟩ : ∃ N, s1.R.length = N := ⟨_, rfl⟩
    have HN : Hid (s1.R.length = N) := hN
    rw [hN] at p0 hN5
    clear h1 hN
    have HXr : Hid (∀ b, X b → b < wr.heap.size) := fun b hb => Nat.lt_of_lt_of_le (HX.out b hb) HK.out.1.kp.size
    by_cases hkn : k < N
    · have hkl : k < s1.R.length := by rw [HN.out]; exact hkn
      obtain ⟨m', rfl⟩ : ∃ m', m = m' + 1 := ⟨m - 1, by omega⟩
      have hwk := HK.out.2
      unfold fillF at hwk
      rw [if_pos hkl] at hwk
      have hst := stands_ k wr HK.out.1.op hkl
      by_cases e0 : s1.cls k = k
      · rw [if_pos e0] at hwk
        rw [e0] at hst
        have HWO : Hid (∀ V, OpAt B X P n V s1 → Kp B X wr V → Calls Tryd.prog 23 #[.int .i64 (k : Int), .pointer (some ⟨ob, 0, none⟩), .pointer (some ⟨gb, 0, none⟩)] V fun e w' => BoolSays B X P n V (workP n rels s1 k) e w') := fun V h1 h2 => work_ k ob gb v rels V h1 (fun b hb => Nat.lt_of_lt_of_le (HXr.out b hb) h2.size) HK.out.1.inv hkl ((HWK.out.kp HK.out.1.kp).kp h2) hn
        cases e1 : workP n rels s1 k with
        | none =>
          rw [e1] at hwk HWO
          have HO : Hid (OUT = none) := hwk.symm
          clear hwk e1 e0
          go_wp2_with (first
            | (go_at_call 33; refine hst.mono ?_; rintro e V ⟨rfl, ho2, hk2⟩; have hop := bool_no (HWO.out V ho2 hk2) rfl; have H2 := Hid.mk' hk2; clear ho2 hk2 hst)
            | (go_at_call 23; refine hop.mono ?_; rintro e V2 ⟨rfl, hk3⟩; have H3 := Hid.mk' hk3; clear hk3 hop)
            | fail)
          go_ret
          exact BoolSays.no HO.out ((HK.out.1.kp.trans H2.out).trans H3.out)
        | some s2 =>
          obtain ⟨i1, i2⟩ := HK.out.1.inv.work hkl HWK.out.words.lets e1
          rw [e1] at hwk HWO
          have HNX : Hid (∀ V, OpAt B X P n V s2 → Kp B X w V → OnAt B X P n w 0 V s2 ∧ fillF n rels m' (k + 1) s2 = OUT) := fun V h1 h2 => ⟨⟨h1, i1, Nat.zero_le _, h2⟩, hwk⟩
          clear hwk e1 e0 i1 i2
          go_wp2_with (first
            | (go_at_call 33; refine hst.mono ?_; rintro e V ⟨rfl, ho2, hk2⟩; have hop := bool_ok (HWO.out V ho2 hk2) rfl; have H2 := Hid.mk' hk2; clear ho2 hk2 hst)
            | (go_at_call 23; refine hop.mono ?_; rintro e V2 ⟨rfl, ho3, hk3⟩; have H3 := Hid.mk' (And.intro ho3 hk3); clear ho3 hk3 hop)
            | fail)
          go_roundw
          case rel => exact ⟨k + 1, m', s2, by omega, by omega, by go_num, HNX.out _ H3.out.1 ((HK.out.1.kp.trans H2.out).trans H3.out.2)⟩
          case measure => simp [intOf]; omega
      · rw [if_neg e0] at hwk
        have hlt := HK.out.1.inv.cls_lt hkl
        rw [HN.out] at hlt
        have HNX : Hid (∀ V, OpAt B X P n V s1 → Kp B X w V → OnAt B X P n w 0 V s1 ∧ fillF n rels m' (k + 1) s1 = OUT) := fun V h1 h2 => ⟨⟨h1, HK.out.1.inv, Nat.zero_le _, h2⟩, hwk⟩
        obtain ⟨x, hx⟩ : ∃ x, s1.cls k = x := ⟨_, rfl⟩
        rw [hx] at hst hlt e0
        have hb0 : ((x : Int) == (k : Int)) = false := beq_false_of_ne (by omega)
        clear hwk hx
        go_wp2_with (first
          | (go_at_call 33; refine hst.mono ?_; rintro e V ⟨rfl, ho2, hk2⟩; have H2 := Hid.mk' (HNX.out V ho2 (HK.out.1.kp.trans hk2)); clear ho2 hk2 hst)
          | fail)
        go_roundw
        case rel => exact ⟨k + 1, m', s1, by omega, by omega, by go_num, H2.out⟩
        case measure => simp [intOf]; omega
    · have HO : Hid (OUT = some s1) := by rw [← HK.out.2]; exact fillF_end (by rw [HN.out]; omega)
      go_wp2_with fail
      go_ret
      exact BoolSays.ok HO.out HK.out.1.op HK.out.1.kp

end Go.Proofs.YthcgabghkbgccaaDoor
