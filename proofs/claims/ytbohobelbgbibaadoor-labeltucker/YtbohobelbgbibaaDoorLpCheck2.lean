/- What fault labels have, by the program: Check. -/
import Derived.Test.YtbohobelbgbibaaDoorLpCheck
namespace Go.Proofs.YtbohobelbgbibaaDoor
open Go.RowKit Go.Sort

/-- An error's value: none, one of the eight, or one that holds a place. -/
def ErrAt (a : Nat → Addr) (w : World) (ve : Value) (c p : Int) : Prop := (c = 0 ∧ ve = .nilIface) ∨ (∃ i : Nat, i < 8 ∧ c = (i : Int) + 1 ∧ p = -1 ∧ ve = erV (a i)) ∨ (∃ i : Nat, i < 8 ∧ c = (i : Int) + 1 ∧ FaultAt a w ve i p)
theorem ErrAt.below {a : Nat → Addr} {w w' : World} {ve : Value} {c p : Int} (h : ErrAt a w ve c p) (hB : Below w.heap.size w w') : ErrAt a w' ve c p := by
  rcases h with h | h | ⟨i, h1, h2, h3⟩
  · exact .inl h
  · exact .inr (.inl h)
  · exact .inr (.inr ⟨i, h1, h2, h3.below hB⟩)
/-- What Check answers. -/
def CheckSays (a : Nat → Addr) (n : Int) (ls : List Int) (w : World) (e : Ending) (w' : World) : Prop := ∃ ve c p, e = .returned ve ∧ FaultIs n ls c p ∧ ErrAt a w' ve c p ∧ Below w.heap.size w w'
theorem FaultIs.one {n : Int} {ls : List Int} {c p c' p' : Int} (h : FaultIs n ls c p) (h' : FaultIs n ls c' p') : c = c' ∧ p = p' := by
  rcases h with ⟨h1, rfl, rfl⟩ | ⟨h1, h⟩ <;> rcases h' with ⟨k1, rfl, rfl⟩ | ⟨k1, h'⟩
  · exact ⟨rfl, rfl⟩
  · exact absurd k1 (by omega)
  · exact absurd h1 (by omega)
  · rcases h with ⟨h2, rfl, rfl⟩ | ⟨h2, h⟩ <;> rcases h' with ⟨k2, rfl, rfl⟩ | ⟨k2, h'⟩
    · exact ⟨rfl, rfl⟩
    · exact absurd k2 h2
    · exact absurd h2 k2
    · rcases h with ⟨i, h3, h4, h5, rfl, rfl⟩ | ⟨h3, rfl, rfl⟩ <;> rcases h' with ⟨j, k3, k4, k5, rfl, rfl⟩ | ⟨k3, rfl, rfl⟩
      · rcases Nat.lt_trichotomy i j with g | g | g
        · exact absurd (k4 i g) h5
        · exact ⟨rfl, by rw [g]⟩
        · exact absurd (h4 j g) k5
      · exact absurd (k3 i h3) h5
      · exact absurd (h3 j k3) k5
      · exact ⟨rfl, rfl⟩

set_option maxRecDepth 100000 in
theorem check_bound {a : Nat → Addr} {sx : Nat → ByteArray} {ls : List Int} (n : Int) (vl : Value) (w : World) (hE : Errs a sx w) (hl : Ints w vl ls) (hb : n < 1 ∨ 12 < n) :
    Calls Tryd.prog 13 #[.int .i64 n, vl] w fun e w' => e = .returned (erV (a 1)) ∧ w' = w := by
  have hp := pointsN_bad n hb w hE
  unfold erV at hp ⊢
  obtain ⟨al, cl, rfl, -, -⟩ := hl.open_
  obtain ⟨m, hm⟩ : ∃ m, ls.length = m := ⟨_, rfl⟩
  rw [hm]
  clear hE hl hm
  go_enter Tryd.func13, Tryd.ntmps13
  go_wp2_with (first
    | (go_at_call 7; refine hp.mono ?_; rintro e V ⟨rfl, rfl⟩; clear hp)
    | fail)
  go_ret
  exact ⟨rfl, rfl⟩

set_option maxRecDepth 100000 in
theorem check_shape {a : Nat → Addr} {sx : Nat → ByteArray} {ls : List Int} (n : Nat) (h1 : 1 ≤ n) (h2 : n ≤ 12) (vl : Value) (w : World) (hE : Errs a sx w) (hl : Ints w vl ls) (hb : ls.length ≠ ptsN n) (_h9 : ls.length ≤ 1000) :
    Calls Tryd.prog 13 #[.int .i64 (n : Int), vl] w fun e w' => e = .returned (erV (a 2)) ∧ w' = w := by
  have hp := pointsN_ok n h1 h2 w
  have hf := (spots_few n h2).2
  have g1 := hE.glob 2 (by simp)
  rw [show gl 2 = 0 from rfl] at g1
  unfold erV
  obtain ⟨al, cl, rfl, -, -⟩ := hl.open_
  obtain ⟨m, hm⟩ : ∃ m, ls.length = m := ⟨_, rfl⟩
  obtain ⟨q, hq⟩ : ∃ q, ptsN n = q := ⟨_, rfl⟩
  rw [hm] at hb ⊢
  rw [hq] at hb hp hf
  clear hE hl hm hq
  go_enter Tryd.func13, Tryd.ntmps13
  go_wp2_with (first
    | (go_at_call 7; refine hp.mono ?_; rintro e V ⟨rfl, rfl⟩; clear hp)
    | fail)
  go_ret
  exact ⟨rfl, rfl⟩

/-- The error that faults of labels hold lies where the program's text lays it. -/
def KindAt (q : Addr) (w : World) : Prop := w.cell? ⟨1, 0, none⟩ = some (.iface 158 (.pointer (some q)))
theorem Errs.kind {a : Nat → Addr} {sx : Nat → ByteArray} {w : World} (h : Errs a sx w) : KindAt (a 7) w := by
  have g1 := h.glob 7 (by simp)
  rw [show gl 7 = 1 from rfl] at g1
  exact g1
theorem KindAt.below {q : Addr} {w w' : World} (h : KindAt q w) (hB : Below w.heap.size w w') : KindAt q w' := (hB.cell (p := ⟨1, 0, none⟩) (cell_lt h)).trans h

set_option maxRecDepth 100000 in
set_option maxHeartbeats 4000000 in
theorem check_rest {a : Nat → Addr} {ls : List Int} (n : Nat) (h1 : 1 ≤ n) (h2 : n ≤ 12) (vl : Value) (w : World) (hE : KindAt (a 7) w) (hl : Ints w vl ls) (hlen : (spotsL n).length = ls.length) :
    Calls Tryd.prog 13 #[.int .i64 (n : Int), vl] w fun e w' => Below w.heap.size w w' ∧ ((∃ ve i, e = .returned ve ∧ i < ls.length ∧ (∀ j, j < i → goodAt (spotsL n) ls j) ∧ ¬ goodAt (spotsL n) ls i ∧ FaultAt a w' ve 7 (i : Int)) ∨ (e = .returned .nilIface ∧ ∀ j, j < ls.length → goodAt (spotsL n) ls j)) := by
  have hp := pointsN_ok n h1 h2 w
  have hf := spots_few n h2
  have hpt := points_ (n + 1) (by omega) w
  rw [ptsL_spots, show ((n + 1 : Nat) : Int) - 1 = (n : Int) by omega] at hpt
  have g1 : w.cell? ⟨1, 0, none⟩ = some (.iface 158 (.pointer (some (a 7)))) := hE
  have h90 : 0 < (spotsL n).length := by rw [hf.1]; unfold ptsN; have : 2 * 3 ≤ (n + 1) * (n + 2) := Nat.mul_le_mul (by omega) (by omega); omega
  obtain ⟨al, cl, rfl, -, hx⟩ := hl.open_
  obtain ⟨bl, ol, rfl, -, -, hcl⟩ := hx (by omega)
  rw [hf.1] at hlen h90
  rw [← hlen] at hcl ⊢
  have HCL : Hid (∀ V k, Below w.heap.size w V → k < ptsN n → V.cell? ⟨bl, ol + k, none⟩ = some (.int .i64 (labA ls k))) := fun V k hV hk => by
    have c := hcl k hk
    exact (hV.cell (p := ⟨bl, ol + k, none⟩) (cell_lt c)).trans c
  have HG : Hid (∀ V, Below w.heap.size w V → V.cell? ⟨1, 0, none⟩ = some (.iface 158 (.pointer (some (a 7))))) := fun V hV => (hV.cell (p := ⟨1, 0, none⟩) (cell_lt g1)).trans g1
  have HSP : Hid (∀ k, k < ptsN n → ∃ s, (spotsL n)[k]? = some s ∧ ((spotsL n).map spT)[k]? = some (spT s) ∧ goodAt (spotsL n) ls k = labOk s (labA ls k)) := fun k hk => by
    have : k < (spotsL n).length := by rw [hf.1]; exact hk
    refine ⟨_, List.getElem?_eq_getElem this, by rw [List.getElem?_map, List.getElem?_eq_getElem this]; rfl, ?_⟩
    unfold goodAt
    rw [List.getElem?_eq_getElem this]; rfl
  have HLEN : Hid (((spotsL n).map spT).length = ptsN n) := by show _ = _; rw [List.length_map]; exact hf.1
  have hq91 := hf.2
  obtain ⟨q, hq⟩ : ∃ q, ptsN n = q := ⟨_, rfl⟩
  rw [hq] at hp hq91 h90 HCL HSP HLEN ⊢
  clear hE hl hx hcl hlen hf hq g1
  go_enter Tryd.func13, Tryd.ntmps13
  go_wp2_with (first
    | (go_at_call 7; refine hp.mono ?_; rintro e w ⟨rfl, rfl⟩; clear hp)
    | (go_at_call 29; refine hpt.mono ?_; rintro e W1 ⟨v, rfl, hr, hb⟩; obtain ⟨sa, cs, hv⟩ := hr.form; rw [HLEN.out] at hv; subst hv; have H1 := Hid.mk' (And.intro hr.reads hb); clear hr hb hpt)
    | fail)
  have hwW : w.heap.size ≤ W1.heap.size := H1.out.2.size
  go_loopw [25] (fun p W => ∃ k : Nat, k ≤ q ∧ p = .int .i64 (k : Int) ∧ Hid ((∀ j, j < k → goodAt (spotsL n) ls j) ∧ Below W1.heap.size W1 W)) (fun p _ => q - (intOf p).toNat)
  case atStart => exact ⟨0, by omega, rfl, fun j hj => by omega, Below.refl _ _⟩
  case round =>
    obtain ⟨k, hk, rfl, HK⟩ := hrel
    have HBW : Hid (Below w.heap.size w wr) := H1.out.2.trans (HK.out.2.mono hwW)
    by_cases hkq : k < q
    · obtain ⟨s, hs1, hs2, hs3⟩ := HSP.out k hkq
      obtain ⟨a1, c1, ea, hx⟩ := H1.out.1.below HK.out.2
      rw [HLEN.out] at ea hx
      cases ea
      obtain ⟨g, rfl, hcell⟩ := hx (by omega)
      obtain ⟨d0, d1, d2⟩ := hcell k _ hs2
      have cl := HCL.out wr k HBW.out hkq
      have HOK : Hid (mayB s (labA ls k) = true ↔ goodAt (spotsL n) ls k) := by show _ ↔ _; rw [hs3]; exact mayB_ok _ _
      obtain ⟨x, hx1⟩ : ∃ x, labA ls k = x := ⟨_, rfl⟩
      rw [hx1] at HOK cl
      have hmay := fun V => may_ s x V
      obtain ⟨b, hb⟩ : ∃ b, mayB s x = b := ⟨_, rfl⟩
      rw [hb] at HOK hmay
      obtain ⟨s1, s2, s3⟩ := s
      unfold spT at d0 d1 d2
      dsimp only at d0 d1 d2 hmay
      have y0 : (0 : Int) ≤ (k : Int) := by omega
      have y1 : (k : Int) < (q : Int) := by omega
      clear hs1 hs2 hs3 hx hcell hb hx1
      go_upto_region 9 with fail
      obtain ⟨c0, c1, c2, hB2, -⟩ := box3 wr (.int .i64 (s1 : Int)) (.int .i64 (s2 : Int)) (.int .i64 (s3 : Int)) 36
      obtain ⟨W2, hW2⟩ : ∃ W2, wr.alloc (.cells #[.int .i64 (s1 : Int), .int .i64 (s2 : Int), .int .i64 (s3 : Int)] 36) = W2 := ⟨_, rfl⟩
      rw [hW2] at c0 c1 c2 hB2 ⊢
      have cl2 := (hB2.cell (p := ⟨bl, ol + k, none⟩) (cell_lt cl)).trans cl
      have H2 : Hid (Below W1.heap.size W1 W2) := HK.out.2.trans (hB2.mono HK.out.2.size)
      obtain ⟨rs, hrs⟩ : ∃ rs, wr.heap.size = rs := ⟨_, rfl⟩
      rw [hrs] at c0 c1 c2 ⊢
      clear hW2 hB2 cl d0 d1 d2 hrs
      go_cut [36] from 30 to 35 (fun c wx => c = .bool (!b) ∧ Hid (Below W1.heap.size W1 wx))
      case first =>
        go_region_with (go_at_call 30; refine (hmay _).mono ?_; rintro e V ⟨rfl, hV⟩; have H9 : Hid (Below W1.heap.size W1 V) := (H2.out.trans (((Below.refl _ W2).drew.trans hV).mono H2.out.size)); clear hV)
        all_goals go_wp2_with fail
        all_goals go_meet
        all_goals exact ⟨rfl, H9.out⟩
      obtain ⟨rfl, H3⟩ := hcut
      obtain ⟨W3, hW3⟩ : ∃ W, W = wc := ⟨_, rfl⟩
      subst hW3
      have HB3 : Hid (Below w.heap.size w W3) := H1.out.2.trans (H3.out.mono hwW)
      clear c0 c1 c2 cl2 H2
      cases b with
      | true =>
        go_wp2_with fail
        go_roundw
        case rel =>
          refine ⟨k + 1, by omega, by go_num, fun j hj => ?_, H3.out⟩
          rcases Nat.lt_or_ge j k with h | h
          · exact HK.out.1 j h
          · obtain rfl : j = k := by omega
            exact HOK.out.1 rfl
        case measure => simp [intOf]; omega
      | false =>
        have g1 := HG.out W3 HB3.out
        have HNO : Hid (¬ goodAt (spotsL n) ls k) := fun h => by have := HOK.out.2 h; cases this
        go_wp2_with fail
        go_ret
        refine ⟨HB3.out.alloc HB3.out.size _, .inl ⟨_, k, rfl, hkq, HK.out.1, HNO.out, _, rfl, ?_⟩⟩
        exact fault_cells W3 (.int .i64 (k : Int)) _ _
    · obtain rfl : k = q := by omega
      go_wp2_with fail
      go_ret
      exact ⟨HBW.out, .inr ⟨rfl, HK.out.1⟩⟩

theorem check_ {a : Nat → Addr} {sx : Nat → ByteArray} {ls : List Int} (n : Int) (vl : Value) (w : World) (hE : Errs a sx w) (hl : Ints w vl ls) (h9 : ls.length ≤ 1000) :
    Calls Tryd.prog 13 #[.int .i64 n, vl] w fun e w' => CheckSays a n ls w e w' := by
  by_cases hb : n < 1 ∨ 12 < n
  · exact (check_bound n vl w hE hl hb).mono fun e w' h => ⟨_, 2, -1, h.1, .inl ⟨hb, rfl, rfl⟩, .inr (.inl ⟨1, by omega, rfl, rfl, rfl⟩), by rw [h.2]; exact Below.refl _ _⟩
  · obtain ⟨k, rfl⟩ : ∃ k : Nat, n = (k : Int) := ⟨n.toNat, by omega⟩
    have hk1 : 1 ≤ k := by omega
    have hk2 : k ≤ 12 := by omega
    have hf := (spots_few k hk2).1
    by_cases hs : (spotsL k).length = ls.length
    · refine (check_rest k hk1 hk2 vl w hE.kind hl hs).mono fun e w' h => ?_
      obtain ⟨hB, ⟨ve, i, h1, h2, h3, h4, h5⟩ | ⟨h1, h2⟩⟩ := h
      · exact ⟨ve, 8, (i : Int), h1, .inr ⟨by omega, .inr ⟨by rw [Int.toNat_natCast]; exact hs, .inl ⟨i, h2, by rw [Int.toNat_natCast]; exact h3, by rw [Int.toNat_natCast]; exact h4, rfl, rfl⟩⟩⟩, .inr (.inr ⟨7, by omega, rfl, h5⟩), hB⟩
      · exact ⟨.nilIface, 0, -1, h1, .inr ⟨by omega, .inr ⟨by rw [Int.toNat_natCast]; exact hs, .inr ⟨by rw [Int.toNat_natCast]; exact h2, rfl, rfl⟩⟩⟩, .inl ⟨rfl, rfl⟩, hB⟩
    · exact (check_shape k hk1 hk2 vl w hE hl (by rw [← hf]; exact fun e => hs e.symm) h9).mono fun e w' h => ⟨_, 3, -1, h.1, .inr ⟨by omega, .inl ⟨by rw [Int.toNat_natCast]; exact hs, rfl, rfl⟩⟩, .inr (.inl ⟨2, by omega, rfl, rfl, rfl⟩), by rw [h.2]; exact Below.refl _ _⟩

end Go.Proofs.YtbohobelbgbibaaDoor
