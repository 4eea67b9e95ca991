/- The statement on deltas, products, cocycles: a case of it (ihigh). -/
import Derived.Test.YtiblgnkjjbbmaaaGreatDoorCupBoth
namespace Go.Proofs.YtiblgnkjjbbmaaaGreatDoor
open Go.RowKit Go.Sort

set_option maxRecDepth 100000 in
set_option maxHeartbeats 16000000 in
theorem says_ihigh {a : Nat → Addr} {s : Nat → ByteArray} (vl vf vg : Value) (l all : List (List Int)) (f g : List Int) (i k : Int) (hg : Good l all) (hi0 : 0 ≤ i) (hi : (topN all : Int) ≤ i) (w : World) (hE : Errs a s w) (hT : TabOk w) (hl : Rows w vl l) (hf : Ints w vf f) (hgi : Ints w vg g) (hfl : f.length ≤ 60) (hgl : g.length ≤ 60) :
    Calls Tryz.prog 3 #[vl, .int .i64 i, vf, .int .i64 k, vg] w fun e w' => e = .returned (.bool true) ∧ Below w.heap.size w w' := by
  obtain ⟨j0, hj0, hy0, hy1, hy2⟩ := info_parts Tryz.info3
  have hct := cut_ w hE hT
  have HH : Hid (Errs a s w ∧ TabOk w ∧ Rows w vl l ∧ Ints w vf f ∧ Ints w vg g) := ⟨hE, hT, hl, hf, hgi⟩
  have hli : ∀ V, Below w.heap.size w V → Calls Tryz.prog 5 #[vl, .int .i64 60] V fun e w' => ∃ q : Bool, e = .returned (.bool q) ∧ Below V.heap.size V w' ∧ (q = true → l.length ≤ 40 ∧ (∀ x ∈ l, x.length ≤ 12) ∧ ∀ all, Good l all → all.length ≤ 60) := fun V hV => little_few closed_ vl l 60 V (hl.below hV)
  obtain ⟨al, cl, rfl, -, -⟩ := hl.open_
  obtain ⟨af, cf, rfl, -, -⟩ := hf.open_
  obtain ⟨ag, cg, rfl, -, -⟩ := hgi.open_
  obtain ⟨mf, hmf⟩ : ∃ m, f.length = m := ⟨_, rfl⟩
  obtain ⟨mg, hmg⟩ : ∃ m, g.length = m := ⟨_, rfl⟩
  have HM := Hid.mk' (And.intro hmf hmg)
  have h60f : ¬ (60 : Int) < (mf : Int) := by omega
  have h60g : ¬ (60 : Int) < (mg : Int) := by omega
  rw [hmf, hmg] at HH
  rw [hmf, hmg]
  clear hE hT hl hf hgi hmf hmg
  go_enter Tryz.func3, Tryz.ntmps3
  go_wp2_with fail
  refine hct.mono ?_
  rintro e w1 ⟨rfl, hB1⟩
  have hl1 := hli w1 hB1
  have HB1 := Hid.mk' hB1
  clear hct hli hB1
  go_wp2_with fail
  refine hl1.mono ?_
  clear hl1
  rintro e w2 ⟨q, rfl, hB2, hq⟩
  have HB2 : Hid (Below w.heap.size w w2) := HB1.out.trans (hB2.mono HB1.out.size)
  clear hB2 HB1
  cases q with
  | false =>
    clear hq
    go_wp2_with fail
    go_ret
    exact ⟨rfl, HB2.out⟩
  | true =>
    have hs := hq rfl
    clear hq
    have HS : Hid (l.length ≤ 40 ∧ (∀ x ∈ l, x.length ≤ 12) ∧ l.length ≤ 100000 ∧ ∀ x ∈ l, x.length ≤ 1000) := ⟨hs.1, hs.2.1, by have := hs.1; omega, fun x hx => by have := hs.2.1 x hx; omega⟩
    have h60 : all.length ≤ 60 := hs.2.2 all hg
    have HG := Hid.mk' (And.intro hg h60)
    obtain ⟨ve1, ve2, D, C, q1, q2, hb0⟩ := both_i a hg h60 (i := i) (f := f) (g := g) (k := k) (fun h => by omega) HS.out.2.2.1 HS.out.2.2.2 hfl hgl
    have HB := Hid.mk' hb0
    clear hb0
    have her := error_g closed_ (.slice al l.length cl) l w2 (HH.out.2.2.1.below HB2.out) HS.out.2.2.1 HS.out.2.2.2
    have hclo : ∀ V, Below w.heap.size w V → Calls Tryz.prog 7 #[.slice al l.length cl] V fun e w' => ∃ v, e = .returned (.tuple #[v, .int .i64 0]) ∧ Rows w' v all ∧ Below V.heap.size V w' := fun V hV => closed_g closed_ (.slice al l.length cl) l all V (HH.out.2.2.1.below hV) HS.out.2.2.1 HS.out.2.2.2 hg
    replace her : Calls Tryz.prog 6 #[.slice al l.length cl] w2 fun e w' => e = .returned (.int .i64 0) ∧ Below w2.heap.size w2 w' := her.mono fun e w' h => by
      rcases h with ⟨h1, ⟨j, hj, -⟩ | ⟨all', -, h2⟩⟩
      · exact (bad_good hj hg).elim
      · exact ⟨h2, h1⟩
    clear hs hg h60
    go_wp2_with fail
    refine her.mono ?_
    clear her
    rintro e w3 ⟨rfl, hB3⟩
    have HB3 : Hid (Below w.heap.size w w3) := HB2.out.trans (hB3.mono HB2.out.size)
    clear hB3 HB2
    have hc4 := hclo w3 HB3.out
    clear hclo
    go_wp2_with fail
    refine hc4.mono ?_
    clear hc4
    rintro e U ⟨vA, rfl, hvA, hB4⟩
    have HBU : Hid (Below w.heap.size w U) := HB3.out.trans (hB4.mono HB3.out.size)
    have HU : Hid (Rows U vA all) := hvA
    have htop := top_of vA all U hvA (by have := HG.out.2; omega) (fun x hx => by have := HG.out.1.short x hx; omega)
    have HOF : Hid (∀ (d : Int) V, Below U.heap.size U V → Calls Tryz.prog 10 #[vA, .int .i64 d] V fun e w' => ∃ v, e = .returned v ∧ Rows w' v (ofDim all d) ∧ Below V.heap.size V w') := fun d V hV => of_dim vA all d V (HU.out.below hV) (by have := HG.out.2; omega) (fun x hx => by have := HG.out.1.short x hx; omega)
    obtain ⟨aA, cA, hA, -, -⟩ := hvA.open_
    subst hA
    obtain ⟨T, hTT⟩ : ∃ T, topN all = T := ⟨_, rfl⟩
    rw [hTT] at htop
    clear hvA hB4 HB3
    have HD : Hid (Below U.heap.size U U) := Below.refl _ _
    have HEU : Hid (∀ V, Below U.heap.size U V → Errs a s V ∧ TabOk V) := fun V hV => ⟨HH.out.1.below (HBU.out.trans (hV.mono HBU.out.size)), HH.out.2.1.below (HBU.out.trans (hV.mono HBU.out.size))⟩
    have HIF2 : Hid (∀ V, Below U.heap.size U V → Ints V (.slice af mf cf) f) := fun V hV => HH.out.2.2.2.1.below (HBU.out.trans (hV.mono HBU.out.size))
    have HIG2 : Hid (∀ V, Below U.heap.size U V → Ints V (.slice ag mg cg) g) := fun V hV => HH.out.2.2.2.2.below (HBU.out.trans (hV.mono HBU.out.size))
    have HIF : Hid (∀ V, Below U.heap.size U V → ∀ o, SliceIn anyBlock (V.alloc o) (.slice af mf cf) (f.map (Value.int .i64))) := fun V hV o => (HIF2.out V hV).below ((Below.refl _ V).alloc (Nat.le_refl _) o)
    have HIG : Hid (∀ V, Below U.heap.size U V → ∀ o, SliceIn anyBlock (V.alloc o) (.slice ag mg cg) (g.map (Value.int .i64))) := fun V hV o => (HIG2.out V hV).below ((Below.refl _ V).alloc (Nat.le_refl _) o)
    have HCX : Hid (∀ V, Below U.heap.size U V → Calls Tryz.prog 12 #[.slice al l.length cl] V fun e w' => ∃ v, e = .returned (.agg #[v]) ∧ Rows w' v l ∧ Below V.heap.size V w') := fun V hV => cx_ (.slice al l.length cl) l V (HH.out.2.2.1.below (HBU.out.trans (hV.mono HBU.out.size))) HS.out.2.2.1 HS.out.2.2.2
    have hi1 : decide (i < 0) = false := decide_eq_false (by omega)
    have hi3 : (T : Int) - 1 < i := by rw [← hTT]; omega
    have hi4 : decide ((T : Int) - 1 < i) = true := decide_eq_true hi3
    clear hTT
    go_upto_region 10 with (first | (go_at_call 8; refine htop.mono ?_; rintro e V ⟨rfl, hVU⟩; obtain rfl : U = V := hVU.symm) | fail)
    clear htop
    go_upto_region 22 with fail
    have hf1 : false = q1 := (HB.out.f1 (by first | exact hn0 | rfl)).symm
    subst hf1
    have hf2 : false = q2 := (HB.out.f2 (by first | exact hn0 | rfl)).symm
    subst hf2
    go_upto_region 23 with (first
      | (go_at_call 12; refine (HCX.out _ HD.out).mono ?_; rintro e V ⟨v, rfl, hs, hV⟩; have HR : Hid (Rows V v l) := hs; obtain ⟨av, cv, rfl, -, -⟩ := hs.open_; replace HD : Hid (Below U.heap.size U V) := HD.out.trans (hV.mono HD.out.size); have hIf := HIF.out V HD.out; have hIg := HIG.out V HD.out; clear hV hs)
      | (at_builtin; refine wpList_append_slice rfl (.tmp 102) (.tmp 103) 23 rfl V.heap.size 3 j0 (.int .i64 0) 8 Tryz.underlying23 hj0 hy0 hy1 hy2 rfl _ _ _ rfl (own_empty V 3 V.heap.size (Nat.le_refl _)) _ (f.map (Value.int .i64)) rfl (hIf _) (ints_one f) (by simp; omega) (by unfold maxLen; simp; omega) (by simp) ?_; intro v6 w6 hown hgr hll; have HBB : Hid (Below V.heap.size V w6) := ((Below.refl _ V).alloc (Nat.le_refl _) _).grown hgr (by simp) (fun j hj => by cases hj; exact Nat.le_refl _); have HA : Hid (Ints w6 v6 f) := ints_put hown; obtain ⟨b6, n6, c6, rfl⟩ := (HA).out.anyform; replace HR := Hid.mk' (HR.out.below HBB.out); replace HD : Hid (Below U.heap.size U w6) := HD.out.trans (HBB.out.mono HD.out.size); have hIf := HIF.out w6 HD.out; have hIg := HIG.out w6 HD.out; clear hown hgr hll HBB)
      | (go_at_call 11; refine (HB.out.de s _ _ _ (HEU.out _ HD.out).1 (HEU.out _ HD.out).2 HR.out HA.out).mono ?_; rintro e V ⟨bD, cD, rfl, hx, hV⟩; have HDL := Hid.mk' hx; replace HD : Hid (Below U.heap.size U V) := HD.out.trans (hV.mono HD.out.size); clear hx hV HR HA)
      | fail)
    go_upto_region 29 with (first
      | (go_at_call 14; refine (HB.out.same1 _ _ _ HDL.out (nil_ints (HB.out.d0 (by first | exact hn0 | rfl)))).mono ?_; rintro e V ⟨rfl, hV⟩; replace HD : Hid (Below U.heap.size U V) := HD.out.trans (hV.mono HD.out.size); clear hV HDL)
      | (go_at_call 15; refine (HB.out.c1 s _ (HEU.out _ HD.out).1).mono ?_; rintro e V ⟨rfl, hV⟩; replace HD : Hid (Below U.heap.size U V) := HD.out.trans (hV.mono HD.out.size); clear hV)
      | fail)
    go_upto_region 30 with (first
      | (go_at_call 12; refine (HCX.out _ HD.out).mono ?_; rintro e V ⟨v, rfl, hs, hV⟩; have HR : Hid (Rows V v l) := hs; obtain ⟨av, cv, rfl, -, -⟩ := hs.open_; replace HD : Hid (Below U.heap.size U V) := HD.out.trans (hV.mono HD.out.size); have hIf := HIF.out V HD.out; have hIg := HIG.out V HD.out; clear hV hs)
      | (at_builtin; refine wpList_append_slice rfl (.tmp 129) (.tmp 130) 23 rfl V.heap.size 3 j0 (.int .i64 0) 8 Tryz.underlying23 hj0 hy0 hy1 hy2 rfl _ _ _ rfl (own_empty V 3 V.heap.size (Nat.le_refl _)) _ (f.map (Value.int .i64)) rfl (hIf _) (ints_one f) (by simp; omega) (by unfold maxLen; simp; omega) (by simp) ?_; intro v6 w6 hown hgr hll; have HBB : Hid (Below V.heap.size V w6) := ((Below.refl _ V).alloc (Nat.le_refl _) _).grown hgr (by simp) (fun j hj => by cases hj; exact Nat.le_refl _); have HA : Hid (Ints w6 v6 f) := ints_put hown; obtain ⟨b6, n6, c6, rfl⟩ := (HA).out.anyform; replace HR := Hid.mk' (HR.out.below HBB.out); replace HD : Hid (Below U.heap.size U w6) := HD.out.trans (HBB.out.mono HD.out.size); have hIf := HIF.out w6 HD.out; have hIg := HIG.out w6 HD.out; clear hown hgr hll HBB)
      | (at_builtin; refine wpList_append_slice rfl (.tmp 133) (.tmp 134) 23 rfl w6.heap.size 3 j0 (.int .i64 0) 8 Tryz.underlying23 hj0 hy0 hy1 hy2 rfl _ _ _ rfl (own_empty w6 3 w6.heap.size (Nat.le_refl _)) _ (g.map (Value.int .i64)) rfl (hIg _) (ints_one g) (by simp; omega) (by unfold maxLen; simp; omega) (by simp) ?_; intro v7 w7 hown hgr hll; have HBB : Hid (Below w6.heap.size w6 w7) := ((Below.refl _ w6).alloc (Nat.le_refl _) _).grown hgr (by simp) (fun j hj => by cases hj; exact Nat.le_refl _); have HA2 : Hid (Ints w7 v7 g) := ints_put hown; obtain ⟨b6, n6, c6, rfl⟩ := (HA2).out.anyform; replace HR := Hid.mk' (HR.out.below HBB.out); replace HA := Hid.mk' (HA.out.below HBB.out); replace HD : Hid (Below U.heap.size U w7) := HD.out.trans (HBB.out.mono HD.out.size); have hIf := HIF.out w7 HD.out; have hIg := HIG.out w7 HD.out; clear hown hgr hll HBB)
      | (go_at_call 16; refine (HB.out.cu s _ _ _ _ (HEU.out _ HD.out).1 (HEU.out _ HD.out).2 HR.out HA.out HA2.out).mono ?_; rintro e V ⟨bD, cD, rfl, hx, hV⟩; have HDL := Hid.mk' hx; replace HD : Hid (Below U.heap.size U V) := HD.out.trans (hV.mono HD.out.size); clear hx hV HR HA HA2)
      | fail)
    go_upto_region 36 with (first
      | (go_at_call 14; refine (HB.out.same2 _ _ _ HDL.out (nil_ints (HB.out.e0 (by first | exact hn0 | rfl)))).mono ?_; rintro e V ⟨rfl, hV⟩; replace HD : Hid (Below U.heap.size U V) := HD.out.trans (hV.mono HD.out.size); clear hV HDL)
      | (go_at_call 15; refine (HB.out.c2 s _ (HEU.out _ HD.out).1).mono ?_; rintro e V ⟨rfl, hV⟩; replace HD : Hid (Below U.heap.size U V) := HD.out.trans (hV.mono HD.out.size); clear hV)
      | fail)
    go_upto_region 37 with (first
      | (go_at_call 12; refine (HCX.out _ HD.out).mono ?_; rintro e V ⟨v, rfl, hs, hV⟩; have HR : Hid (Rows V v l) := hs; obtain ⟨av, cv, rfl, -, -⟩ := hs.open_; replace HD : Hid (Below U.heap.size U V) := HD.out.trans (hV.mono HD.out.size); have hIf := HIF.out V HD.out; have hIg := HIG.out V HD.out; clear hV hs)
      | (at_builtin; refine wpList_append_slice rfl (.tmp 162) (.tmp 163) 23 rfl V.heap.size 3 j0 (.int .i64 0) 8 Tryz.underlying23 hj0 hy0 hy1 hy2 rfl _ _ _ rfl (own_empty V 3 V.heap.size (Nat.le_refl _)) _ (f.map (Value.int .i64)) rfl (hIf _) (ints_one f) (by simp; omega) (by unfold maxLen; simp; omega) (by simp) ?_; intro v6 w6 hown hgr hll; have HBB : Hid (Below V.heap.size V w6) := ((Below.refl _ V).alloc (Nat.le_refl _) _).grown hgr (by simp) (fun j hj => by cases hj; exact Nat.le_refl _); have HA : Hid (Ints w6 v6 f) := ints_put hown; obtain ⟨b6, n6, c6, rfl⟩ := (HA).out.anyform; replace HR := Hid.mk' (HR.out.below HBB.out); replace HD : Hid (Below U.heap.size U w6) := HD.out.trans (HBB.out.mono HD.out.size); have hIf := HIF.out w6 HD.out; have hIg := HIG.out w6 HD.out; clear hown hgr hll HBB)
      | (go_at_call 18; refine (HB.out.co s _ _ _ (HEU.out _ HD.out).1 (HEU.out _ HD.out).2 HR.out HA.out).mono ?_; rintro e V ⟨rfl, hV⟩; replace HD : Hid (Below U.heap.size U V) := HD.out.trans (hV.mono HD.out.size); clear hV HR HA)
      | fail)
    go_upto_region 40 with (first
      | (go_at_call 15; refine (HB.out.c1 s _ (HEU.out _ HD.out).1).mono ?_; rintro e V ⟨rfl, hV⟩; replace HD : Hid (Below U.heap.size U V) := HD.out.trans (hV.mono HD.out.size); clear hV)
      | fail)
    by_cases hik : i = k
    · have HIK := Hid.mk' hik
      have hikb : (i != k) = false := by simp [hik]
      clear hik
      go_upto_region 43 with (first
        | (go_at_call 12; refine (HCX.out _ HD.out).mono ?_; rintro e V ⟨v, rfl, hs, hV⟩; have HR : Hid (Rows V v l) := hs; obtain ⟨av, cv, rfl, -, -⟩ := hs.open_; replace HD : Hid (Below U.heap.size U V) := HD.out.trans (hV.mono HD.out.size); have hIf := HIF.out V HD.out; have hIg := HIG.out V HD.out; clear hV hs)
        | (at_builtin; refine wpList_append_slice rfl (.tmp 194) (.tmp 195) 23 rfl V.heap.size 3 j0 (.int .i64 0) 8 Tryz.underlying23 hj0 hy0 hy1 hy2 rfl _ _ _ rfl (own_empty V 3 V.heap.size (Nat.le_refl _)) _ (f.map (Value.int .i64)) rfl (hIf _) (ints_one f) (by simp; omega) (by unfold maxLen; simp; omega) (by simp) ?_; intro v6 w6 hown hgr hll; have HBB : Hid (Below V.heap.size V w6) := ((Below.refl _ V).alloc (Nat.le_refl _) _).grown hgr (by simp) (fun j hj => by cases hj; exact Nat.le_refl _); have HA : Hid (Ints w6 v6 f) := ints_put hown; obtain ⟨b6, n6, c6, rfl⟩ := (HA).out.anyform; replace HR := Hid.mk' (HR.out.below HBB.out); replace HD : Hid (Below U.heap.size U w6) := HD.out.trans (HBB.out.mono HD.out.size); have hIf := HIF.out w6 HD.out; have hIg := HIG.out w6 HD.out; clear hown hgr hll HBB)
        | (at_builtin; refine wpList_append_slice rfl (.tmp 197) (.tmp 198) 23 rfl w6.heap.size 3 j0 (.int .i64 0) 8 Tryz.underlying23 hj0 hy0 hy1 hy2 rfl _ _ _ rfl (own_empty w6 3 w6.heap.size (Nat.le_refl _)) _ (g.map (Value.int .i64)) rfl (hIg _) (ints_one g) (by simp; omega) (by unfold maxLen; simp; omega) (by simp) ?_; intro v7 w7 hown hgr hll; have HBB : Hid (Below w6.heap.size w6 w7) := ((Below.refl _ w6).alloc (Nat.le_refl _) _).grown hgr (by simp) (fun j hj => by cases hj; exact Nat.le_refl _); have HA2 : Hid (Ints w7 v7 g) := ints_put hown; obtain ⟨b6, n6, c6, rfl⟩ := (HA2).out.anyform; replace HR := Hid.mk' (HR.out.below HBB.out); replace HA := Hid.mk' (HA.out.below HBB.out); replace HD : Hid (Below U.heap.size U w7) := HD.out.trans (HBB.out.mono HD.out.size); have hIf := HIF.out w7 HD.out; have hIg := HIG.out w7 HD.out; clear hown hgr hll HBB)
        | (go_at_call 19; refine (HB.out.sa HIK.out s _ _ _ _ (HEU.out _ HD.out).1 (HEU.out _ HD.out).2 HR.out HA.out HA2.out).mono ?_; rintro e V ⟨rfl, hV⟩; replace HD : Hid (Below U.heap.size U V) := HD.out.trans (hV.mono HD.out.size); clear hV HR HA HA2)
        | fail)
      go_wp2_with (first
        | (go_at_call 15; refine (HB.out.c2 s _ (HEU.out _ HD.out).1).mono ?_; rintro e V ⟨rfl, hV⟩; replace HD : Hid (Below U.heap.size U V) := HD.out.trans (hV.mono HD.out.size); clear hV)
        | fail)
      go_ret
      exact ⟨rfl, HBU.out.trans (HD.out.mono HBU.out.size)⟩
    · have hikb : (i != k) = true := by simp [hik]
      clear hik
      go_wp2_with fail
      go_ret
      exact ⟨rfl, HBU.out.trans (HD.out.mono HBU.out.size)⟩

end Go.Proofs.YtiblgnkjjbbmaaaGreatDoor
