/- The program's walk. -/
import Derived.Test.YtcciinaeplppiaaDoorLpEnter
import Derived.Test.YtcciinaeplppiaaDoorLpFull2
namespace Go.Proofs.YtcciinaeplppiaaDoor
open Go.RowKit Go.Sort

theorem sideN_all : allN (fun n => (List.range n).all fun i => sideD n (i + 1) == [(numN n i (n - i) : Int), (numN n (i + 1) (n - i - 1) : Int)]) 12 = true := by decide +kernel
theorem sideN {n i : Nat} (hn : n ≤ 12) (hi : i < n) : sideD n (i + 1) = [(numN n i (n - i) : Int), (numN n (i + 1) (n - i - 1) : Int)] := by
  have h1 := List.all_eq_true.1 (allN_at sideN_all hn) i (List.mem_range.2 hi)
  exact eq_of_beq h1
theorem goB_dB {ls : List Int} (x y : Nat) : goB ls [(x : Int), (y : Int)] = dB ls x y := by
  have n0 : numR [(x : Int), (y : Int)] 0 = x := by simp [numR]
  have n1 : numR [(x : Int), (y : Int)] 1 = y := by simp [numR]
  unfold goB dB
  rw [n0, n1, Bool.eq_iff_iff, Bool.and_eq_true, beq_iff_eq, bne_iff_ne]
  omega
theorem good_lab {n : Nat} {ls : List Int} (h : GoodLab (n : Int) ls) : ∀ k, k < ls.length → 0 ≤ labA ls k ∧ labA ls k ≤ 2 := fun k hk => by
  have h1 := h.2.2 k hk
  unfold goodAt labOk at h1
  omega

set_option maxRecDepth 100000 in
theorem walkX_bad {a : Nat → Addr} {sx : Nat → ByteArray} {ls : List Int} {n : Int} (vl : Value) (w : World) (hE : Errs a sx w) (hl : Ints w vl ls) (h9 : ls.length ≤ 1000) (hg : ¬ GoodLab n ls) :
    Calls Tryd.prog 15 #[.int .i64 n, vl] w fun e w' => ∃ ve, e = .returned (.tuple #[.slice none 0 0, ve]) ∧ IsErr a w' n ls ve ∧ Below w.heap.size w w' := by
  have hc := check_bad vl w hE hl h9 hg
  obtain ⟨al, cl, rfl, -, -⟩ := hl.open_
  obtain ⟨m, hm⟩ : ∃ m, ls.length = m := ⟨_, rfl⟩
  rw [hm] at hc ⊢
  clear hE hl hg hm h9
  go_enter Tryd.func15, Tryd.ntmps15
  go_upto_region 2 with (go_at_call 13; refine hc.mono ?_; rintro e V ⟨hv, hb⟩; have HB := Hid.mk' hb; clear hb hc; rcases hv with ⟨q, rfl, hq⟩ | ⟨q, rfl, hq⟩ <;> (have HV := Hid.mk' hq; clear hq))
  all_goals go_wp2_with fail
  all_goals go_ret2
  all_goals exact ⟨_, rfl, HV.out, HB.out⟩

set_option maxRecDepth 100000 in
set_option maxHeartbeats 4000000 in
theorem walkX_ok {kq : Addr} {ls : List Int} (n : Nat) (vl : Value) (w : World) (hE : KindAt kq w) (hl : Ints w vl ls) (_h9 : ls.length ≤ 1000) (hg : GoodLab (n : Int) ls) :
    Calls Tryd.prog 15 #[.int .i64 (n : Int), vl] w fun e w' => ∃ v, e = .returned (.tuple #[v, .nilIface]) ∧ Ints w' v (walkL n ls) ∧ Below w.heap.size w w' := by
  have hc := check_good vl w hE hl hg
  have hls := hg.2.1
  rw [Int.toNat_natCast] at hls
  have hn1 : 1 ≤ n := by have := hg.1; omega
  have hn2 : n ≤ 12 := by have := hg.1; omega
  have HLAB := Hid.mk' (good_lab hg)
  have HLS := Hid.mk' hl
  obtain ⟨al, cl, rfl, -, -⟩ := hl.open_
  have hsm := fun V => small_ n hn1 hn2 V
  have HTL : Hid ((triesL n).length = (smallL n).length) := tries_len n
  have hnum := fun (i j : Int) (h0 : 0 ≤ i) (hi : i ≤ (n : Int) + 1) (h1 : 0 ≤ j) (hj : j ≤ 13) V => numberI_ n i j (by omega) h0 hi h1 hj V
  have HSD : Hid (∀ i, i < n → ∃ x y : Nat, x < y ∧ y < ls.length ∧ numI n (i : Int) ((n : Int) - (i : Int)) = (x : Int) ∧ numI n ((i : Int) + 1) ((n : Int) - (i : Int) - 1) = (y : Int) ∧ sideD n (i + 1) = [(x : Int), (y : Int)] ∧ ∀ r s, r ∈ smallL n → s ∈ smallL n → partB [(x : Int), (y : Int)] r = true → partB [(x : Int), (y : Int)] s = true → r = s) := fun i hi => by
    obtain ⟨⟨x, y, h1, h2, h3⟩, h4⟩ := side_is hn2 (i := i + 1) (by omega) (by omega)
    have h5 := sideN hn2 hi
    rw [h3] at h4 h5
    simp only [List.cons.injEq, and_true] at h5
    refine ⟨x, y, h1, by omega, ?_, ?_, h3, h4⟩
    · rw [h5.1, show (n : Int) - (i : Int) = ((n - i : Nat) : Int) by omega]; rfl
    · rw [h5.2, show (n : Int) - (i : Int) - 1 = ((n - i - 1 : Nat) : Int) by omega]; rfl
  have HEN : Hid (∀ (V : World) (x y : Nat) (ar : Option Addr) (cr : Nat), Below w.heap.size w V → TriRd V (.slice ar (smallL n).length cr) (triesL n) → x < y → y < ls.length → dB ls x y = true → (∀ r s, r ∈ smallL n → s ∈ smallL n → partB [(x : Int), (y : Int)] r = true → partB [(x : Int), (y : Int)] s = true → r = s) → Calls Tryd.prog 34 #[.agg #[.slice al ls.length cl, .slice ar (smallL n).length cr], aggS ((x : Int), (y : Int))] V fun e w' => EnterSays (thru (smallL n) ls ((smallL n).length + 1) [(x : Int), (y : Int)] (-1) []) V e w') := fun V x y ar cr hV hr hxy hy hd hb => enter_ hn2 al cl ar cr V (HLS.out.below hV) hr hls.symm HLAB.out hxy (go_door hxy (HLAB.out x (by omega)) (HLAB.out y hy) (by rw [goB_dB]; exact hd)) hb
  have HDO : Hid (∀ (V : World) (x y : Nat) (ar : Option Addr) (cr : Nat), Below w.heap.size w V → x < ls.length → y < ls.length → Calls Tryd.prog 33 #[.agg #[.slice al ls.length cl, .slice ar (smallL n).length cr], aggS ((x : Int), (y : Int))] V fun e w' => e = .returned (.bool (dB ls x y)) ∧ Below V.heap.size V w') := fun V x y ar cr hV hx hy => door_ x y _ _ V (HLS.out.below hV) hx hy (HLAB.out x hx) (HLAB.out y hy) ar (smallL n).length cr rfl
  have hTf := smallL_few hn2
  obtain ⟨L, hL⟩ : ∃ L, (smallL n).length = L := ⟨_, rfl⟩
  obtain ⟨m, hm⟩ : ∃ m, ls.length = m := ⟨_, rfl⟩
  rw [hL] at HTL hTf
  rw [hm] at hc HSD ⊢
  simp only [hL, hm] at HEN HDO
  obtain ⟨OUT, hO⟩ : ∃ OUT, walkL n ls = OUT := ⟨_, rfl⟩
  have HO := Hid.mk' hO
  have HLL := Hid.mk' hL
  rw [hO]
  clear hl hls hL hm hE hg hO
  go_enter Tryd.func15, Tryd.ntmps15
  go_upto_region 5 with (first
    | (go_at_call 13; refine hc.mono ?_; rintro e W0 ⟨rfl, hb0⟩; have H0 := Hid.mk' hb0; clear hb0 hc)
    | (go_at_call 26; refine (hsm _).mono ?_; rintro e W1 ⟨v, rfl, hr, hb⟩; obtain ⟨sa, cs, hv⟩ := hr.form; rw [HTL.out] at hv; subst hv; have H1 : Hid (TriRd W1 (.slice sa L cs) (triesL n) ∧ Below w.heap.size w W1) := ⟨hr.reads, H0.out.trans (hb.mono H0.out.size)⟩; clear hr hb hsm)
    | fail)
  obtain ⟨c0, c1, hB2⟩ := box2 W1 (.slice al m cl) (.slice sa L cs) 67
  obtain ⟨W2, hW2⟩ : ∃ W2, W1.alloc (.cells #[.slice al m cl, .slice sa L cs] 67) = W2 := ⟨_, rfl⟩
  rw [hW2] at c0 c1 hB2 ⊢
  obtain ⟨hb, hhb⟩ : ∃ b, W1.heap.size = b := ⟨_, rfl⟩
  have H2 : Hid (∀ V, Below W2.heap.size W2 V → V.cell? ⟨hb, 0, none⟩ = some (.slice al m cl) ∧ V.cell? ⟨hb, 1, none⟩ = some (.slice sa L cs) ∧ TriRd V (.slice sa L cs) (triesL n) ∧ Below w.heap.size w V) := fun V hV => by
    rw [← hhb]
    exact ⟨(hV.cell (p := ⟨W1.heap.size, 0, none⟩) (cell_lt c0)).trans c0, (hV.cell (p := ⟨W1.heap.size, 1, none⟩) (cell_lt c1)).trans c1, (H1.out.1.below hB2).below hV, (H1.out.2.trans (hB2.mono H1.out.2.size)).trans (hV.mono (H1.out.2.trans (hB2.mono H1.out.2.size)).size)⟩
  rw [hhb]
  clear hW2 hB2 c0 c1 hhb
  go_wp2_with fail
  go_loopw [8] (fun p W => ∃ i : Nat, i ≤ n ∧ p = .int .i64 ((i : Int) - 1) ∧ Hid (walkTo n ls i = OUT ∧ Below W2.heap.size W2 W)) (fun p _ => (intOf p + 1).toNat)
  case atStart => exact ⟨n, by omega, by go_num, HO.out, Below.refl _ _⟩
  case round =>
    obtain ⟨i, hi, rfl, HK⟩ := hrel
    rcases Nat.eq_zero_or_pos i with hi0 | hi0
    · subst hi0
      have HZ : Hid (OUT = [] ∧ Below w.heap.size w wr) := ⟨HK.out.1.symm, (H2.out wr HK.out.2).2.2.2⟩
      go_wp2_with fail
      go_ret2
      refine ⟨_, rfl, ?_, HZ.out.2⟩
      rw [HZ.out.1]
      exact SliceIn.nil _ _
    · obtain ⟨j, rfl⟩ : ∃ j, i = j + 1 := ⟨i - 1, by omega⟩
      obtain ⟨x, y, hxy, hym, ex, ey, hsd, hone⟩ := HSD.out j (by omega)
      have ej : ((j + 1 : Nat) : Int) - 1 = (j : Int) := by omega
      rw [ej]
      have hjn : (j : Int) < (n : Int) := by omega
      obtain ⟨T, hT⟩ : ∃ T, thru (smallL n) ls (L + 1) [(x : Int), (y : Int)] (-1) [] = T := ⟨_, rfl⟩
      obtain ⟨d, hd⟩ : ∃ d, dB ls x y = d := ⟨_, rfl⟩
      have HST : Hid ((if (d && T.2) = true then T.1 else walkTo n ls j) = OUT) := by
        have h := HK.out.1
        rw [walkTo, hsd, goB_dB, HLL.out, hT, hd] at h
        exact h
      go_upto_region 9 with (go_at_call 32; refine (hnum _ _ (by omega) (by omega) (by omega) (by omega) _).mono ?_; rintro e wr ⟨rfl, rfl⟩)
      obtain ⟨c0, c1, hB3⟩ := box2 wr (.int .i64 (x : Int)) (.int .i64 (y : Int)) 55
      obtain ⟨W3, hW3⟩ : ∃ W3, wr.alloc (.cells #[.int .i64 (x : Int), .int .i64 (y : Int)] 55) = W3 := ⟨_, rfl⟩
      rw [hW3] at c0 c1 hB3 ⊢
      obtain ⟨sb, hsb⟩ : ∃ b, wr.heap.size = b := ⟨_, rfl⟩
      rw [hsb] at c0 c1 ⊢
      have H3 : Hid (Below W2.heap.size W2 W3) := HK.out.2.trans (hB3.mono HK.out.2.size)
      obtain ⟨g0, g1, hrd, hbl⟩ := H2.out W3 H3.out
      have hdo := HDO.out W3 x y sa cs hbl (by omega) hym
      rw [hd] at hdo
      unfold aggS at hdo
      dsimp only at hdo
      have HEX : Hid (∀ V, Below W3.heap.size W3 V → d = true → Calls Tryd.prog 34 #[.agg #[.slice al m cl, .slice sa L cs], .agg #[.int .i64 (x : Int), .int .i64 (y : Int)]] V fun e w' => EnterSays T V e w') := fun V hV h1 => by
        have h2 := H2.out V (H3.out.trans (hV.mono H3.out.size))
        have h3 := HEN.out V x y sa cs h2.2.2.2 h2.2.2.1 hxy hym (hd.trans h1) hone
        rw [hT] at h3
        exact h3
      clear hW3 hB3 hsb hrd hbl hT hone hsd ex ey HEN HDO
      cases d with
      | false =>
        have HN : Hid (walkTo n ls j = OUT) := HST.out
        go_wp2_with (first
          | (go_at_call 33; refine hdo.mono ?_; rintro e V ⟨rfl, hV⟩; have H4 : Hid (Below W2.heap.size W2 V) := (H3.out.trans (hV.mono H3.out.size)); clear hV hdo)
          | fail)
        go_roundw
        case rel => exact ⟨j, by omega, by go_num, HN.out, H4.out⟩
        case measure => simp [intOf]
      | true =>
        obtain ⟨way, st⟩ := T
        cases st with
        | true =>
          have HN : Hid (way = OUT) := HST.out
          go_wp2_with (first
            | (go_at_call 33; refine hdo.mono ?_; rintro e V ⟨rfl, hV⟩; have H4 : Hid (Below W2.heap.size W2 V) := (H3.out.trans (hV.mono H3.out.size)); have hen := HEX.out V hV rfl; have k0 := (H2.out V H4.out).1; have k1 := (H2.out V H4.out).2.1; have e0 := (hV.cell (p := ⟨sb, 0, none⟩) (cell_lt c0)).trans c0; have e1 := (hV.cell (p := ⟨sb, 1, none⟩) (cell_lt c1)).trans c1; clear hV hdo c0 c1 g0 g1)
            | (go_at_call 34; refine hen.mono ?_; rintro e V5 ⟨v, rfl, hi5, hb5⟩; have H5 : Hid (Ints V5 v way ∧ Below w.heap.size w V5) := ⟨hi5, (H2.out V H4.out).2.2.2.trans (hb5.mono (H2.out V H4.out).2.2.2.size)⟩; obtain ⟨a5, c5, rfl, -, -⟩ := hi5.open_; clear hi5 hb5 hen)
            | fail)
          go_ret2
          have h := HN.out
          subst h
          exact ⟨_, rfl, H5.out⟩
        | false =>
          have HN : Hid (walkTo n ls j = OUT) := HST.out
          go_wp2_with (first
            | (go_at_call 33; refine hdo.mono ?_; rintro e V ⟨rfl, hV⟩; have H4 : Hid (Below W2.heap.size W2 V) := (H3.out.trans (hV.mono H3.out.size)); have hen := HEX.out V hV rfl; have k0 := (H2.out V H4.out).1; have k1 := (H2.out V H4.out).2.1; have e0 := (hV.cell (p := ⟨sb, 0, none⟩) (cell_lt c0)).trans c0; have e1 := (hV.cell (p := ⟨sb, 1, none⟩) (cell_lt c1)).trans c1; clear hV hdo c0 c1 g0 g1)
            | (go_at_call 34; refine hen.mono ?_; rintro e V5 ⟨v, rfl, hi5, hb5⟩; have H5 : Hid (Below W2.heap.size W2 V5) := H4.out.trans (hb5.mono H4.out.size); obtain ⟨a5, c5, rfl, -, -⟩ := hi5.open_; clear hi5 hb5 hen)
            | fail)
          go_roundw
          case rel => exact ⟨j, by omega, by go_num, HN.out, H5.out⟩
          case measure => simp [intOf]

end Go.Proofs.YtcciinaeplppiaaDoor
