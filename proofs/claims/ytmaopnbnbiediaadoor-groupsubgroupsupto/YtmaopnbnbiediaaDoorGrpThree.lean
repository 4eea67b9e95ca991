/- Closed facts together: HALL's number, and both lists. No Go here. Rows of rows held against each other; the closed fact. -/
import Derived.Test.YtmaopnbnbiediaaDoorGrpCount
import Derived.Test.YtmaopnbnbiediaaDoorGrpCheckB
import Derived.Test.YtmaopnbnbiediaaDoorGrpCheckD
import Derived.Test.YtmaopnbnbiediaaDoorGrpRef2
import Derived.Test.YtmaopnbnbiediaaDoorRefA
namespace Go.Proofs.YtmaopnbnbiediaaDoor

theorem case_of {n : Nat} (h : n ≤ 5) : n = 0 ∨ n = 1 ∨ n = 2 ∨ n = 3 ∨ n = 4 ∨ n = 5 := by omega
theorem fac_vals : facN 1 = 1 ∧ facN 2 = 2 ∧ facN 3 = 6 ∧ facN 4 = 24 := by decide
set_option maxRecDepth 100000 in
/-- HALL: as many subgroups as his number says. -/
theorem hall_is {N n : Nat} (h0 : 1 ≤ N) (hN : N ≤ 4) (hn : n ≤ 5) (hw : facN N ^ n ≤ 20000) : ((subP N n).length : Int) = hallP n N := by
  obtain ⟨f1, f2, f3, f4⟩ := fac_vals
  have hNc : N = 1 ∨ N = 2 ∨ N = 3 ∨ N = 4 := by omega
  rcases hNc with rfl | rfl | rfl | rfl
  · rw [count_1 n (by omega)]
    rcases case_of hn with rfl | rfl | rfl | rfl | rfl | rfl <;> decide +kernel
  · obtain ⟨c0, c1, c2, c3, c4, c5⟩ := count_2
    rcases case_of hn with rfl | rfl | rfl | rfl | rfl | rfl
    · rw [c0]; decide +kernel
    · rw [c1]; decide +kernel
    · rw [c2]; decide +kernel
    · rw [c3]; decide +kernel
    · rw [c4]; decide +kernel
    · rw [c5]; decide +kernel
  · obtain ⟨c0, c1, c2, c3, c4⟩ := count_3
    rcases case_of hn with rfl | rfl | rfl | rfl | rfl | rfl
    · rw [c0]; decide +kernel
    · rw [c1]; decide +kernel
    · rw [c2]; decide +kernel
    · rw [c3]; decide +kernel
    · rw [c4]; decide +kernel
    · rw [count_3_5]; decide +kernel
  · obtain ⟨c0, c1, c2⟩ := count_4
    rw [f4] at hw
    rcases case_of hn with rfl | rfl | rfl | rfl | rfl | rfl
    · rw [c0]; decide +kernel
    · rw [c1]; decide +kernel
    · rw [c2]; decide +kernel
    · rw [count_4_3]; decide +kernel
    · exact absurd hw (by decide)
    · exact absurd hw (by decide)
theorem hallP_le {N n : Nat} (h0 : 1 ≤ N) (hN : N ≤ 4) (hn : n ≤ 5) : hallP n N ≤ 100000000 := by
  unfold hallP
  split
  · split <;> omega
  · obtain ⟨m, rfl⟩ : ∃ m, N = m + 1 := ⟨N - 1, by omega⟩
    have h1 := ((hall_bounds' n (by omega) m (by omega) m (by omega)).1).2
    rw [Nat.add_sub_cancel, hallL, List.getElem?_append_right (by rw [hallL_len]; exact Nat.le_refl _), hallL_len, Nat.sub_self]
    exact h1
set_option maxRecDepth 100000 in
theorem hall_small' : ∀ N, N < 5 → ∀ n, n < 6 → 1 ≤ N → facN N ^ n ≤ 20000 → hallP n N ≤ 5000 := by decide +kernel
theorem sub_short {N n : Nat} (h0 : 1 ≤ N) (hN : N ≤ 4) (hn : n ≤ 5) (hw : facN N ^ n ≤ 20000) : (subP N n).length ≤ 100000 := by
  have h1 := hall_is h0 hN hn hw
  have h2 := hall_small' N (by omega) n (by omega) h0 hw
  omega
/-- Both lists, where there are few ways. -/
theorem lists_same {N n : Nat} (h0 : 1 ≤ N) (hN : N ≤ 4) (hn : n ≤ 5) (hw : facN N ^ n ≤ 1500) (rels : List (List Int)) : refP N n rels (facN N ^ n) = (subP N n).filter (keepsB rels) := by
  obtain ⟨f1, f2, f3, f4⟩ := fac_vals
  have hNc : N = 1 ∨ N = 2 ∨ N = 3 ∨ N = 4 := by omega
  rcases hNc with rfl | rfl | rfl | rfl
  · rw [f1, Nat.one_pow]
    exact ref_all (by omega) hN (check_1 n (by omega)) rels
  · rw [f2]
    exact ref_all (by omega) hN (check_2 n (by omega)) rels
  · rw [f3] at hw ⊢
    rcases case_of hn with rfl | rfl | rfl | rfl | rfl | rfl
    · exact ref_all (by omega) hN (check_3 0 (by omega)) rels
    · exact ref_all (by omega) hN (check_3 1 (by omega)) rels
    · exact ref_all (by omega) hN (check_3 2 (by omega)) rels
    · exact ref_all (by omega) hN (check_3 3 (by omega)) rels
    · exact lists_34 rels
    · exact absurd hw (by decide)
  · rw [f4] at hw ⊢
    rcases case_of hn with rfl | rfl | rfl | rfl | rfl | rfl
    · exact ref_all (by omega) hN (check_4 0 (by omega)) rels
    · exact ref_all (by omega) hN (check_4 1 (by omega)) rels
    · exact ref_all (by omega) hN (check_4 2 (by omega)) rels
    · exact absurd hw (by decide)
    · exact absurd hw (by decide)
    · exact absurd hw (by decide)

end Go.Proofs.YtmaopnbnbiediaaDoor

namespace Go.Proofs.YtmaopnbnbiediaaDoor
open Go.RowKit Go.Sort

set_option maxRecDepth 100000 in
set_option maxHeartbeats 4000000 in
theorem sameLists_ (va vb : Value) (xs : List (List Int)) (w : World) (ha : Rows w va xs) (hb : Rows w vb xs) (hx : xs.length ≤ 1000) (hs : ∀ x ∈ xs, x.length ≤ 1000) :
    Calls Tryd.prog 13 #[va, vb] w fun e w' => e = .returned (.bool true) ∧ ∃ q, w' = w.drewN q := by
  obtain ⟨a, ca, rfl, -, ha⟩ := ha.open_
  obtain ⟨b, cb, rfl, -, hb⟩ := hb.open_
  obtain ⟨m, hm⟩ : ∃ m, xs.length = m := ⟨_, rfl⟩
  have HM : Hid (xs.length = m) := hm
  have HA := Hid.mk' ha
  have HB := Hid.mk' hb
  have HS := Hid.mk' hs
  rw [hm] at hx HA HB ⊢
  clear ha hb hs hm
  go_enter Tryd.func13, Tryd.ntmps13
  go_wp2_with fail
  go_loopw [5] (fun p W => ∃ k : Nat, k ≤ m ∧ p = .int .i64 (k : Int) ∧ Hid (∃ q, W = w.drewN q)) (fun p _ => m - (intOf p).toNat)
  case atStart => exact ⟨0, by omega, rfl, 0, rfl⟩
  case round =>
    obtain ⟨k, hk, rfl, HQ⟩ := hrel
    by_cases hkn : k < m
    · obtain ⟨b1, o1, rfl, -, -, h1⟩ := HA.out (by omega)
      obtain ⟨b2, o2, rfl, -, -, h2⟩ := HB.out (by omega)
      obtain ⟨a3, c3, g1, i1⟩ := h1 k hkn
      obtain ⟨a4, c4, g2, i2⟩ := h2 k hkn
      have hkl : k < xs.length := by rw [HM.out]; exact hkn
      obtain ⟨l, hl⟩ : ∃ l, xs[k]? = some l := ⟨_, List.getElem?_eq_getElem hkl⟩
      rw [hl, Option.getD_some] at g1 g2 i1 i2
      have hll := HS.out l (List.mem_of_getElem? hl)
      have hbel : ∀ q, Below w.heap.size w (w.drewN q) := fun q => ⟨rfl, rfl, rfl, Nat.le_refl _, fun _ _ => rfl⟩
      have hsame : ∀ p : Addr, wr.cell? p = w.cell? p := fun p => by obtain ⟨q, e⟩ := HQ.out; rw [e]; rfl
      have g11 := (hsame _).trans g1
      have g22 := (hsame _).trans g2
      have hsi : ∀ n, Calls Tryd.prog 31 #[.slice a3 l.length c3, .slice a4 l.length c4] (wr.drewN n) fun e w' => e = .returned (.bool true) ∧ ∃ q, w' = (wr.drewN n).drewN q := fun n => by
        obtain ⟨q, e⟩ := HQ.out
        have hB : Below w.heap.size w (wr.drewN n) := by rw [e]; exact ⟨rfl, rfl, rfl, Nat.le_refl _, fun _ _ => rfl⟩
        refine (same_ints _ _ l l _ (i1.below hB) (i2.below hB) (by omega)).mono fun e w' h => ⟨by rw [h.1, decide_eq_true rfl], h.2⟩
      obtain ⟨ll, hle⟩ : ∃ ll, l.length = ll := ⟨_, rfl⟩
      rw [hle] at g11 g22 hsi
      have z0 : (0 : Int) ≤ (k : Int) := by omega
      have z1 : (k : Int) < (m : Int) := by omega
      clear h1 h2 i1 i2 hl hll hsame g1 g2 hle hbel
      go_wp2_with fail
      go_quiet (refine Calls.quiet_of (hsi _))
      go_wp2
      go_roundw
      case rel => exact ⟨k + 1, by omega, by go_num, by obtain ⟨q, e⟩ := HQ.out; exact ⟨q + nq, by rw [e, World.drewN_drewN]⟩⟩
      case measure => simp [intOf]; omega
    · obtain rfl : k = m := by omega
      go_wp2_with fail
      go_ret
      exact ⟨rfl, HQ.out⟩

theorem ints_new (w : World) (xs : List Int) : Ints (w.alloc (.cells (xs.map (Value.int .i64)).toArray 3)) (.slice (some ⟨w.heap.size, 0, none⟩) xs.length xs.length) xs := by
  have h0 := cells_new w (xs.map (Value.int .i64)) 3
  refine ⟨some ⟨w.heap.size, 0, none⟩, xs.length, by rw [List.length_map], ⟨by rw [List.length_map]; exact Nat.le_refl _, fun h => by cases h⟩, fun _ => ⟨w.heap.size, 0, rfl, trivial, fun k x hx => ?_⟩⟩
  have := h0 k x hx
  rwa [Addr.add_lit] at this
theorem rows_new (V : World) (us : List Value) (xss : List (List Int)) (hl : us.length = xss.length) (h : ∀ (k : Nat) (u : Value) (x : List Int), us[k]? = some u → xss[k]? = some x → Ints V u x) (t : TypeId) : Rows (V.alloc (.cells us.toArray t)) (.slice (some ⟨V.heap.size, 0, none⟩) us.length us.length) xss := by
  have hB : Below V.heap.size V (V.alloc (.cells us.toArray t)) := (Below.refl _ V).alloc (Nat.le_refl _) _
  have h0 := cells_new V us t
  refine ⟨us, ⟨some ⟨V.heap.size, 0, none⟩, us.length, rfl, ⟨Nat.le_refl _, fun h => by cases h⟩, fun _ => ⟨V.heap.size, 0, rfl, trivial, fun k x hx => ?_⟩⟩, hl, fun k u x hu hx => (h k u x hu hx).below hB⟩
  have := h0 k x hx
  rwa [Addr.add_lit] at this

theorem three_call {a : Nat → Addr} {sx : Nat → ByteArray} (vr : Value) (w : World) (hE : Errs a sx w) (hr : Rows w vr [[1, 1, 1]]) :
    Calls Tryd.prog 14 #[.agg #[.int .i64 1, vr], .slice none 0 0] w fun e w' => ∃ a c, e = .returned (.tuple #[.slice a 3 c, .nilIface]) ∧ Rows w' (.slice a 3 c) [[1, 2], [2, 0], [0, 1]] ∧ Below w.heap.size w w' := by
  refine (cosets_ 1 vr (.slice none 0 0) [[1, 1, 1]] [] w hE ⟨hr, by simp, by simp⟩ ⟨⟨[], SliceIn.nil _ _, rfl, fun k u x hu => by simp at hu⟩, by simp, by simp⟩ (fun ws hws l hl => by
    rw [List.mem_singleton.1 hws] at hl
    have : l = 1 := by simpa using hl
    subst this
    omega) (by omega)).mono fun e w' h => ?_
  have h3 := three_told
  cases hc : cosetsP 1 [[1, 1, 1]] [] with
  | none => rw [hc] at h3; cases h3
  | some s =>
    rw [hc] at h3
    have hT : toldP 1 s = [[1, 2], [2, 0], [0, 1]] := Option.some.inj h3
    rcases h with ⟨v, T, h1, h2, h4, h5⟩ | ⟨t, p, h1, h2, _⟩
    · obtain ⟨_, s', k1, k2, _⟩ := h2
      rw [hc] at k1
      cases k1
      rw [hT] at k2
      subst k2
      obtain ⟨a', c', rfl, -, -⟩ := h4.open_
      exact ⟨a', c', h1, h4, h5⟩
    · exact absurd ⟨fun ws hws => (by cases hws), s, hc, rfl, by rw [hT]; decide⟩ (h2 (toldP 1 s))

set_option maxRecDepth 100000 in
set_option maxHeartbeats 4000000 in
theorem three_ {a : Nat → Addr} {sx : Nat → ByteArray} (w : World) (hE : Errs a sx w) :
    Calls Tryd.prog 4 #[] w fun e w' => e = .returned (.bool true) ∧ Below w.heap.size w w' := by
  have hi := ints_new w [1, 1, 1]
  have hr := rows_new _ [.slice (some ⟨w.heap.size, 0, none⟩) 3 3] [[1, 1, 1]] rfl (fun k u x hu hx => by
    cases k with
    | zero =>
      have e1 := Option.some.inj hu
      have e2 := Option.some.inj hx
      rw [← e1, ← e2]
      exact hi
    | succ k => simp at hu) 42
  have hB : Below w.heap.size w ((w.alloc (.cells #[.int .i64 1, .int .i64 1, .int .i64 1] 3)).alloc (.cells #[.slice (some ⟨w.heap.size, 0, none⟩) 3 3] 42)) := ((Below.refl _ w).alloc (Nat.le_refl _) _).alloc (by simp) _
  have hco := three_call _ _ (hE.below hB) hr
  rw [World.size_alloc] at hco
  have HB := Hid.mk' hB
  clear hi hr hB hE
  go_enter Tryd.func4, Tryd.ntmps4
  go_upto_region 2 with (go_at_call 14; refine hco.mono ?_; rintro e V ⟨av, cv, rfl, hr, hb⟩; have H1 := Hid.mk' (And.intro hr hb); clear hr hb hco)
  have HV : Hid (Below w.heap.size w V) := HB.out.trans (H1.out.2.mono HB.out.size)
  have i1 := ints_new V [1, 2]
  obtain ⟨V1, hV1⟩ : ∃ V1, V.alloc (.cells #[.int .i64 1, .int .i64 2] 3) = V1 := ⟨_, rfl⟩
  have i2 := ints_new V1 [2, 0]
  obtain ⟨V2, hV2⟩ : ∃ V2, V1.alloc (.cells #[.int .i64 2, .int .i64 0] 3) = V2 := ⟨_, rfl⟩
  have i3 := ints_new V2 [0, 1]
  obtain ⟨V3, hV3⟩ : ∃ V3, V2.alloc (.cells #[.int .i64 0, .int .i64 1] 3) = V3 := ⟨_, rfl⟩
  have b1 : Below V.heap.size V V1 := by rw [← hV1]; exact (Below.refl _ V).alloc (Nat.le_refl _) _
  have b2 : Below V1.heap.size V1 V2 := by rw [← hV2]; exact (Below.refl _ V1).alloc (Nat.le_refl _) _
  have b3 : Below V2.heap.size V2 V3 := by rw [← hV3]; exact (Below.refl _ V2).alloc (Nat.le_refl _) _
  have j1 : Ints V1 (.slice (some ⟨V.heap.size, 0, none⟩) 2 2) [1, 2] := by rw [← hV1]; exact i1
  have j2 : Ints V2 (.slice (some ⟨V1.heap.size, 0, none⟩) 2 2) [2, 0] := by rw [← hV2]; exact i2
  have j3 : Ints V3 (.slice (some ⟨V2.heap.size, 0, none⟩) 2 2) [0, 1] := by rw [← hV3]; exact i3
  have m1 := (j1.below b2).below b3
  have m2 := j2.below b3
  have hrr := rows_new V3 [.slice (some ⟨V.heap.size, 0, none⟩) 2 2, .slice (some ⟨V1.heap.size, 0, none⟩) 2 2, .slice (some ⟨V2.heap.size, 0, none⟩) 2 2] [[1, 2], [2, 0], [0, 1]] rfl (fun k u x hu hx => by
    match k, hu, hx with
    | 0, hu, hx => have e1 := Option.some.inj hu; have e2 := Option.some.inj hx; rw [← e1, ← e2]; exact m1
    | 1, hu, hx => have e1 := Option.some.inj hu; have e2 := Option.some.inj hx; rw [← e1, ← e2]; exact m2
    | 2, hu, hx => have e1 := Option.some.inj hu; have e2 := Option.some.inj hx; rw [← e1, ← e2]; exact j3
    | k + 3, hu, hx => simp at hu) 42
  have hB3 : Below V.heap.size V V3 := (b1.trans (b2.mono b1.size)).trans (b3.mono (Nat.le_trans b1.size b2.size))
  have hB4 : Below V.heap.size V (V3.alloc (.cells #[.slice (some ⟨V.heap.size, 0, none⟩) 2 2, .slice (some ⟨V1.heap.size, 0, none⟩) 2 2, .slice (some ⟨V2.heap.size, 0, none⟩) 2 2] 42)) := hB3.alloc hB3.size _
  have hsl := sameLists_ (.slice av 3 cv) _ [[1, 2], [2, 0], [0, 1]] _ (H1.out.1.below hB4) hrr (by simp) (by simp)
  have HB4 : Hid (∀ q, Below w.heap.size w ((V3.alloc (.cells #[.slice (some ⟨V.heap.size, 0, none⟩) 2 2, .slice (some ⟨V1.heap.size, 0, none⟩) 2 2, .slice (some ⟨V2.heap.size, 0, none⟩) 2 2] 42)).drewN q)) := fun q => by
    have h9 := HV.out.trans (hB4.mono HV.out.size)
    exact ⟨h9.os, h9.tape, h9.output, h9.size, h9.block⟩
  have HVV : Hid (V.alloc (.cells #[.int .i64 1, .int .i64 2] 3) = V1 ∧ V1.alloc (.cells #[.int .i64 2, .int .i64 0] 3) = V2 ∧ V2.alloc (.cells #[.int .i64 0, .int .i64 1] 3) = V3) := ⟨hV1, hV2, hV3⟩
  subst hV1
  subst hV2
  subst hV3
  simp only [World.size_alloc] at hsl HB4
  clear i1 i2 i3 b1 b2 b3 j1 j2 j3 m1 m2 hrr hB3 hB4 HVV
  go_wp2_with (first
    | (go_at_call 13; refine hsl.mono ?_; rintro e V9 ⟨rfl, q, rfl⟩; clear hsl)
    | fail)
  go_ret
  exact ⟨rfl, HB4.out q⟩

end Go.Proofs.YtmaopnbnbiediaaDoor
