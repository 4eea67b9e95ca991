/- The statement on free faces and collapses. -/
import Derived.Test.YthdmfeidcldafaaGreatDoorMorseBoth
namespace Go.Proofs.YthdmfeidcldafaaGreatDoor
open Go.RowKit Go.Sort

set_option maxRecDepth 100000 in
set_option maxHeartbeats 8000000 in
theorem free_law {a : Nat → Addr} {s : Nat → ByteArray} (vl vp : Value) (l : List (List Int)) (ps : List Duo) (w : World) (hE : Errs a s w) (hl : Rows w vl l) (hp : DuoIn anyBlock w vp ps) (hnil : ∀ cap, vp = .slice none 0 cap → cap = 0) :
    Calls Tryz.prog 3 #[vl, vp] w fun e w' => e = .returned (.bool true) ∧ Below w.heap.size w w' := by
  have HH : Hid (Errs a s w ∧ Rows w vl l ∧ DuoIn anyBlock w vp ps ∧ ∀ cap, vp = .slice none 0 cap → cap = 0) := ⟨hE, hl, hp, hnil⟩
  have har := arrow_ w hE
  have hli : ∀ V, Below w.heap.size w V → Calls Tryz.prog 5 #[vl, .int .i64 60] V fun e w' => ∃ q : Bool, e = .returned (.bool q) ∧ Below V.heap.size V w' ∧ (q = true → l.length ≤ 40 ∧ ∀ x ∈ l, x.length ≤ 12) := fun V hV => little_ closed_ vl l 60 V (hl.below hV)
  have hcx : ∀ V, Below w.heap.size w V → l.length ≤ 40 → (∀ x ∈ l, x.length ≤ 12) → Calls Tryz.prog 8 #[vl] V fun e w' => ∃ v, e = .returned (.agg #[v]) ∧ Rows w' v l ∧ Below V.heap.size V w' := fun V hV h1 h2 => cx_ vl l V (hl.below hV) (by omega) (fun x hx => by have := h2 x hx; omega)
  obtain ⟨al, cl, rfl, -, -⟩ := hl.open_
  obtain ⟨ap, cp, rfl, -⟩ := hp.open_
  obtain ⟨m, hm⟩ : ∃ m, ps.length = m := ⟨_, rfl⟩
  have HM : Hid (ps.length = m) := hm
  have HCX := Hid.mk' hcx
  rw [hm]
  clear hE hl hp hnil hm hcx
  go_enter Tryz.func3, Tryz.ntmps3
  go_wp2_with fail
  refine har.mono ?_
  rintro e w1 ⟨rfl, hB1⟩
  have hl1 := hli w1 hB1
  have HB1 : Hid (Below w.heap.size w w1) := hB1
  clear har hli hB1
  go_wp2_with fail
  refine hl1.mono ?_
  clear hl1
  rintro e w2 ⟨q, rfl, hB2, hq⟩
  have HB2 : Hid (Below w.heap.size w w2) := HB1.out.trans (hB2.mono HB1.out.size)
  clear hB2 HB1
  cases q with
  | false =>
    clear hq
    go_wp2_with fail
    go_ret
    exact ⟨rfl, HB2.out⟩
  | true =>
    have hs := hq rfl
    clear hq
    by_cases h60 : (60 : Int) < (m : Int)
    · clear hs
      go_wp2_with fail
      go_ret
      exact ⟨rfl, HB2.out⟩
    · have h60' : (m : Int) ≤ 60 := by omega
      have HS : Hid (l.length ≤ 40 ∧ (∀ x ∈ l, x.length ≤ 12) ∧ l.length ≤ 100000 ∧ ∀ x ∈ l, x.length ≤ 1000) := ⟨hs.1, hs.2, by have := hs.1; omega, fun x hx => by have := hs.2 x hx; omega⟩
      have hm6 : Hid (ps.length ≤ 1000) := by show ps.length ≤ 1000; have := HM.out; omega
      have her := error_g closed_ (.slice al l.length cl) l w2 (HH.out.2.1.below HB2.out) HS.out.2.2.1 HS.out.2.2.2
      have hcx : ∀ V, Below w.heap.size w V → Calls Tryz.prog 8 #[.slice al l.length cl] V fun e w' => ∃ v, e = .returned (.agg #[v]) ∧ Rows w' v l ∧ Below V.heap.size V w' := fun V hV => HCX.out V hV HS.out.1 HS.out.2.1
      have hpa : ∀ V, Below w.heap.size w V → Calls Tryz.prog 10 #[.slice ap m cp] V fun e w' => ∃ v, e = .returned v ∧ DuoIn anyBlock w' v ps ∧ Below V.heap.size V w' := fun V hV => by
        have h := pairs_ (.slice ap ps.length cp) ps V (HH.out.2.2.1.below (hV.mono (Nat.le_refl _))) HH.out.2.2.2 hm6.out
        rw [HM.out] at h
        exact h.mono fun e w' h => by obtain ⟨v, h1, h2, h3⟩ := h; exact ⟨v, h1, h2.reads (fun _ _ _ => trivial), h3⟩
      have HPI : Hid (DuoIn anyBlock w (.slice ap m cp) ps) := by show DuoIn anyBlock w (.slice ap m cp) ps; have := HH.out.2.2.1; rwa [HM.out] at this
      clear hs HCX h60
      go_wp2_with fail
      refine her.mono ?_
      clear her
      rintro e w3 ⟨hB3, ⟨i, hbad, rfl⟩ | ⟨all, hg, rfl⟩⟩
      · have HC : Hid (Below w.heap.size w w3) := HB2.out.trans (hB3.mono HB2.out.size)
        have hi8 : i < 8 := hbad.lt
        have hfr : ∀ V v, Below w.heap.size w V → Rows V v l → Calls Tryz.prog 7 #[.agg #[v]] V fun e w' => e = .returned (.tuple #[.slice none 0 0, .iface 176 (.pointer (some (a i)))]) ∧ Below V.heap.size V w' := fun V v hV hr => (free_ v l V (HH.out.1.below hV) hr HS.out.2.2.1 HS.out.2.2.2).mono fun e w' h => by
          rcases h.2 with ⟨j, hj, he⟩ | ⟨all, u, hg, _⟩
          · rw [bad_one hbad hj]; exact ⟨he, h.1⟩
          · exact (bad_good hbad hg).elim
        have hco : ∀ V v u, Below w.heap.size w V → Rows V v l → DuoIn anyBlock V u ps → Calls Tryz.prog 9 #[.agg #[v], u] V fun e w' => e = .returned (.tuple #[.agg #[.slice none 0 0], .iface 176 (.pointer (some (a i)))]) ∧ Below V.heap.size V w' := fun V v u hV hr hp => (collapse_ v u l ps V (HH.out.1.below hV) hr HS.out.2.2.1 HS.out.2.2.2 hp hm6.out).mono fun e w' h => by
          rcases h.2 with ⟨j, hj, he⟩ | ⟨all, hg, _⟩
          · rw [bad_one hbad hj]; exact ⟨he, h.1⟩
          · exact (bad_good hbad hg).elim
        have hcd : ∀ V, Below w.heap.size w V → Calls Tryz.prog 11 #[.iface 176 (.pointer (some (a i))), .int .i64 ((i : Int) + 1)] V fun e w' => e = .returned (.bool true) ∧ Below V.heap.size V w' := fun V hV => (coded_es V (HH.out.1.below hV) i hi8 ((i : Int) + 1)).mono fun e w' h => ⟨by rw [h.1, decide_eq_true rfl], h.2⟩
        obtain ⟨E, hEn⟩ : ∃ E : Int, (i : Int) + 1 = E := ⟨_, rfl⟩
        have hE1 : 0 < E := by omega
        obtain ⟨ev, hev⟩ : ∃ ev : Value, .iface 176 (.pointer (some (a i))) = ev := ⟨_, rfl⟩
        rw [hEn] at hcd ⊢
        rw [hev] at hfr hco hcd
        clear hEn hev hbad hi8 hB3 HB2 HPI
        go_upto_region 8 with (first
          | (go_at_call 8; refine (hcx _ HC.out).mono ?_; rintro e V ⟨v, rfl, hs, hV⟩; replace HC : Hid (Below w.heap.size w V) := HC.out.trans (hV.mono HC.out.size); have HR : Hid (Rows V v l) := hs; clear hV hs)
          | (go_at_call 7; refine (hfr _ _ HC.out HR.out).mono ?_; rintro e V ⟨rfl, hV⟩; replace HC : Hid (Below w.heap.size w V) := HC.out.trans (hV.mono HC.out.size); clear hV HR)
          | (go_at_call 10; refine (hpa _ HC.out).mono ?_; rintro e V ⟨u, rfl, hs, hV⟩; replace HC : Hid (Below w.heap.size w V) := HC.out.trans (hV.mono HC.out.size); replace HR := Hid.mk' (HR.out.below hV); have HP : Hid (DuoIn anyBlock V u ps) := hs; clear hV hs)
          | (go_at_call 9; refine (hco _ _ _ HC.out HR.out HP.out).mono ?_; rintro e V8 ⟨rfl, hV⟩; replace HC : Hid (Below w.heap.size w V8) := HC.out.trans (hV.mono HC.out.size); clear hV HR HP))
        have c8 := (box_new V8 (.slice none 0 0) 32).1
        have hb8 : V8.heap.size < (V8.alloc (.cells #[.slice none 0 0] 32)).heap.size := by simp
        replace HC : Hid (Below w.heap.size w (V8.alloc (.cells #[.slice none 0 0] 32))) := HC.out.alloc HC.out.size _
        obtain ⟨W8, hW8⟩ : ∃ W8, V8.alloc (.cells #[.slice none 0 0] 32) = W8 := ⟨_, rfl⟩
        obtain ⟨b8, hb8e⟩ : ∃ b8, V8.heap.size = b8 := ⟨_, rfl⟩
        rw [hW8, hb8e] at c8 hb8
        rw [hW8] at HC
        rw [hW8, hb8e]
        have HD : Hid (Below W8.heap.size W8 W8) := Below.refl _ _
        clear hW8 hb8e hcx hpa hfr hco
        go_wp2_with (first
          | (go_at_call 11; refine (hcd _ (HC.out.trans (HD.out.mono HC.out.size))).mono ?_; rintro e V ⟨rfl, hV⟩; replace HD : Hid (Below W8.heap.size W8 V) := HD.out.trans (hV.mono HD.out.size); have j8 := (HD.out.cell (p := ⟨b8, 0, none⟩) hb8).trans c8; clear hV)
          | fail)
        go_ret
        exact ⟨rfl, HC.out.trans (HD.out.mono HC.out.size)⟩
      · have HC : Hid (Below w.heap.size w w3) := HB2.out.trans (hB3.mono HB2.out.size)
        obtain ⟨L, LT, F, FL, hb, hgo⟩ := both_m a hg ps hm6.out HS.out.2.2.1 HS.out.2.2.2
        have hfr : ∀ V v, Below w.heap.size w V → Rows V v l → Calls Tryz.prog 7 #[.agg #[v]] V fun e w' => ∃ u, e = .returned (.tuple #[u, .nilIface]) ∧ DuoRow V.heap.size 52 w' u FL ∧ Below V.heap.size V w' := fun V v hV hr => hb.free s v V (HH.out.1.below hV) hr
        have hcl : ∀ V, Below w.heap.size w V → Calls Tryz.prog 12 #[.slice al l.length cl] V fun e w' => ∃ u, e = .returned (.tuple #[u, .int .i64 0]) ∧ Rows w' u all ∧ Below V.heap.size V w' := fun V hV => hb.closed _ V (HH.out.2.1.below hV)
        have hnb := hb.numbered
        have hal : ∀ V, Calls Tryz.prog 16 #[.int .i64 (L.length : Int)] V fun e w' => ∃ v, e = .returned v ∧ w'.ownsRow V.heap.size 4 1 v L.length (List.replicate L.length (.bool true)) ∧ Below V.heap.size V w' := fun V => all_left L.length (by have := hb.fewL.1; omega) V
        have hfp := hb.pairs
        have hsp : ∀ V u v, DuoIn anyBlock V u FL → DuoIn anyBlock V v FL → Calls Tryz.prog 14 #[u, v] V fun e w' => e = .returned (.bool true) ∧ Below V.heap.size V w' := fun V u v h1 h2 => (same_pairs u v FL FL V h1 h2 hb.fewL.2 hb.fewL.2).mono fun e w' h => ⟨by rw [h.1, decide_eq_true rfl], h.2⟩
        have hsl : ∀ V u v, Rows V u F → Rows V v F → Calls Tryz.prog 20 #[u, v] V fun e w' => e = .returned (.bool true) ∧ Below V.heap.size V w' := fun V u v h1 h2 => (same_lists _ _ F F V h1 h2 hb.few.1 hb.few.2).mono fun e w' h => by
          obtain ⟨h1, q, h2⟩ := h
          exact ⟨by rw [h1, decide_eq_true rfl], by rw [h2]; exact ⟨rfl, rfl, rfl, Nat.le_refl _, fun _ _ => rfl⟩⟩
        clear hb hg hB3 HB2
        rcases hgo with hgo | ⟨k, hwr⟩
        · have hco : ∀ V v u, Below w.heap.size w V → Rows V v l → DuoIn anyBlock V u ps → Calls Tryz.prog 9 #[.agg #[v], u] V fun e w' => ∃ x, e = .returned (.tuple #[.agg #[x], .nilIface]) ∧ Rows w' x F ∧ Below V.heap.size V w' := fun V v u hV hr hp => hgo.coll s v u V (HH.out.1.below hV) hr hp
          have hcp : ∀ V v, Below w.heap.size w V → Rows V v L → Calls Tryz.prog 17 #[v, .slice ap m cp] V fun e w' => ∃ x, e = .returned (.tuple #[x, .int .i64 (-1)]) ∧ Rows w' x LT ∧ Below V.heap.size V w' := fun V v hV hr => hgo.ref v _ V hr (HPI.out.below (hV.mono (Nat.le_refl _)))
          have hma := hgo.made
          clear hgo HPI
          go_upto_region 7 with (first
            | (go_at_call 8; refine (hcx _ HC.out).mono ?_; rintro e V ⟨v, rfl, hs, hV⟩; replace HC : Hid (Below w.heap.size w V) := HC.out.trans (hV.mono HC.out.size); have HR : Hid (Rows V v l) := hs; clear hV hs)
            | (go_at_call 7; refine (hfr _ _ HC.out HR.out).mono ?_; rintro e V ⟨uf, rfl, hs, hV⟩; replace HC : Hid (Below w.heap.size w V) := HC.out.trans (hV.mono HC.out.size); have HF := Hid.mk' hs; clear hV HR hs))
          go_upto_region 8 with (first
            | (go_at_call 8; refine (hcx _ HC.out).mono ?_; rintro e V ⟨v, rfl, hs, hV⟩; replace HC : Hid (Below w.heap.size w V) := HC.out.trans (hV.mono HC.out.size); replace HF := Hid.mk' (HF.out.below hV); have HR : Hid (Rows V v l) := hs; clear hV hs)
            | (go_at_call 10; refine (hpa _ HC.out).mono ?_; rintro e V ⟨u, rfl, hs, hV⟩; replace HC : Hid (Below w.heap.size w V) := HC.out.trans (hV.mono HC.out.size); replace HF := Hid.mk' (HF.out.below hV); replace HR := Hid.mk' (HR.out.below hV); have HP : Hid (DuoIn anyBlock V u ps) := hs; clear hV hs)
            | (go_at_call 9; refine (hco _ _ _ HC.out HR.out HP.out).mono ?_; rintro e V8 ⟨u8, rfl, hu, hV⟩; have H8 : Hid (Rows V8 u8 F) := hu; obtain ⟨a8, c8, rfl, -, -⟩ := hu.open_; replace HC : Hid (Below w.heap.size w V8) := HC.out.trans (hV.mono HC.out.size); replace HF := Hid.mk' (HF.out.below hV); clear hV HR HP hu))
          have c8' := (box_new V8 (.slice a8 F.length c8) 32).1
          have hb8 : V8.heap.size < (V8.alloc (.cells #[.slice a8 F.length c8] 32)).heap.size := by simp
          have hBW : Below V8.heap.size V8 (V8.alloc (.cells #[.slice a8 F.length c8] 32)) := (Below.refl _ V8).alloc (Nat.le_refl _) _
          replace HC : Hid (Below w.heap.size w (V8.alloc (.cells #[.slice a8 F.length c8] 32))) := HC.out.alloc HC.out.size _
          replace H8 : Hid (Rows (V8.alloc (.cells #[.slice a8 F.length c8] 32)) (.slice a8 F.length c8) F) := H8.out.below hBW
          replace HF := Hid.mk' ((HF.out.below hBW).reads (S := anyBlock) (fun _ _ _ => trivial))
          obtain ⟨W8, hW8⟩ : ∃ W8, V8.alloc (.cells #[.slice a8 F.length c8] 32) = W8 := ⟨_, rfl⟩
          obtain ⟨b8, hb8e⟩ : ∃ b8, V8.heap.size = b8 := ⟨_, rfl⟩
          rw [hW8, hb8e] at c8' hb8
          rw [hW8] at HC H8 HF
          rw [hW8, hb8e]
          have HD : Hid (Below W8.heap.size W8 W8) := Below.refl _ _
          clear hW8 hb8e hcx hpa hfr hco hBW
          go_upto_region 13 with (first
            | (go_at_call 12; refine (hcl _ (HC.out.trans (HD.out.mono HC.out.size))).mono ?_; rintro e V ⟨u, rfl, hu, hV⟩; have HU : Hid (Rows V u all) := hu; obtain ⟨au, cu, rfl, -, -⟩ := hu.open_; replace HD : Hid (Below W8.heap.size W8 V) := HD.out.trans (hV.mono HD.out.size); clear hV hu)
            | (go_at_call 13; refine (hnb _ _ HU.out).mono ?_; rintro e V ⟨u, rfl, hu, hV⟩; have HN : Hid (Rows V u L) := hu; obtain ⟨aL, cL, rfl, -, -⟩ := hu.open_; replace HD : Hid (Below W8.heap.size W8 V) := HD.out.trans (hV.mono HD.out.size); clear hV hu HU)
            | (go_at_call 16; refine (hal _).mono ?_; rintro e V ⟨u, rfl, hu, hV⟩; have HA := Hid.mk' hu; replace HN := Hid.mk' (HN.out.below hV); replace HD : Hid (Below W8.heap.size W8 V) := HD.out.trans (hV.mono HD.out.size); clear hV hu)
            | (go_at_call 15; refine (hfp _ _ _ _ HN.out HA.out).mono ?_; rintro e V ⟨u, rfl, hu, hV⟩; have HQ := Hid.mk' (DuoRow.reads (S := anyBlock) hu (fun _ _ _ => trivial)); replace HN := Hid.mk' (HN.out.below hV); replace HD : Hid (Below W8.heap.size W8 V) := HD.out.trans (hV.mono HD.out.size); clear hV hu HA)
            | (go_at_call 14; refine (hsp _ _ _ (HF.out.below (HD.out.mono (Nat.le_refl _))) HQ.out).mono ?_; rintro e V13 ⟨rfl, hV⟩; replace HN := Hid.mk' (HN.out.below hV); replace HD : Hid (Below W8.heap.size W8 V13) := HD.out.trans (hV.mono HD.out.size); clear hV HQ))
          clear hcl hnb hal hfp hsp HF
          go_wp2_with (first
            | (go_at_call 17; refine (hcp _ _ (HC.out.trans (HD.out.mono HC.out.size)) HN.out).mono ?_; rintro e V ⟨u, rfl, hu, hV⟩; have HT : Hid (Rows V u LT) := hu; obtain ⟨aT, cT, rfl, -, -⟩ := hu.open_; replace HD : Hid (Below W8.heap.size W8 V) := HD.out.trans (hV.mono HD.out.size); clear hV hu)
            | (go_at_call 19; refine (hma _ _ HT.out).mono ?_; rintro e V ⟨u, rfl, hu, hV⟩; have HZ : Hid (Rows V u F) := hu; obtain ⟨aZ, cZ, rfl, -, -⟩ := hu.open_; replace HD : Hid (Below W8.heap.size W8 V) := HD.out.trans (hV.mono HD.out.size); have j8 := (HD.out.cell (p := ⟨b8, 0, none⟩) hb8).trans c8'; clear hV hu HT)
            | (go_at_call 20; refine (hsl _ _ _ (H8.out.below HD.out) HZ.out).mono ?_; rintro e V ⟨rfl, hV⟩; replace HD : Hid (Below W8.heap.size W8 V) := HD.out.trans (hV.mono HD.out.size); clear hV)
            | fail)
          go_ret
          exact ⟨rfl, HC.out.trans (HD.out.mono HC.out.size)⟩
        · have hco : ∀ V v u, Below w.heap.size w V → Rows V v l → DuoIn anyBlock V u ps → Calls Tryz.prog 9 #[.agg #[v], u] V fun e w' => ∃ ve, e = .returned (.tuple #[.agg #[.slice none 0 0], ve]) ∧ FaultAt a w' ve 3 (k : Int) ∧ Below V.heap.size V w' := fun V v u hV hr hp => hwr.coll s v u V (HH.out.1.below hV) hr hp
          have hcp : ∀ V v, Below w.heap.size w V → Rows V v L → Calls Tryz.prog 17 #[v, .slice ap m cp] V fun e w' => e = .returned (.tuple #[.slice none 0 0, .int .i64 (k : Int)]) ∧ Below V.heap.size V w' := fun V v hV hr => hwr.ref v _ V hr (HPI.out.below (hV.mono (Nat.le_refl _)))
          have hfa : ∀ V ve, Below w.heap.size w V → FaultAt a V ve 3 (k : Int) → Calls Tryz.prog 18 #[ve, .agg #[.int .i64 4, .int .i64 (k : Int)]] V fun e w' => e = .returned (.bool true) ∧ Below V.heap.size V w' := fun V ve hV hf => faulted_at V (HH.out.1.below hV) hf (by decide)
          have hk0 : (0 : Int) ≤ (k : Int) := by omega
          clear hwr HPI hsl
          go_upto_region 7 with (first
            | (go_at_call 8; refine (hcx _ HC.out).mono ?_; rintro e V ⟨v, rfl, hs, hV⟩; replace HC : Hid (Below w.heap.size w V) := HC.out.trans (hV.mono HC.out.size); have HR : Hid (Rows V v l) := hs; clear hV hs)
            | (go_at_call 7; refine (hfr _ _ HC.out HR.out).mono ?_; rintro e V ⟨uf, rfl, hs, hV⟩; replace HC : Hid (Below w.heap.size w V) := HC.out.trans (hV.mono HC.out.size); have HF := Hid.mk' hs; clear hV HR hs))
          go_upto_region 8 with (first
            | (go_at_call 8; refine (hcx _ HC.out).mono ?_; rintro e V ⟨v, rfl, hs, hV⟩; replace HC : Hid (Below w.heap.size w V) := HC.out.trans (hV.mono HC.out.size); replace HF := Hid.mk' (HF.out.below hV); have HR : Hid (Rows V v l) := hs; clear hV hs)
            | (go_at_call 10; refine (hpa _ HC.out).mono ?_; rintro e V ⟨u, rfl, hs, hV⟩; replace HC : Hid (Below w.heap.size w V) := HC.out.trans (hV.mono HC.out.size); replace HF := Hid.mk' (HF.out.below hV); replace HR := Hid.mk' (HR.out.below hV); have HP : Hid (DuoIn anyBlock V u ps) := hs; clear hV hs)
            | (go_at_call 9; refine (hco _ _ _ HC.out HR.out HP.out).mono ?_; rintro e V8 ⟨ve, rfl, hu, hV⟩; have H8 : Hid (FaultAt a V8 ve 3 (k : Int)) := hu; replace HC : Hid (Below w.heap.size w V8) := HC.out.trans (hV.mono HC.out.size); replace HF := Hid.mk' (HF.out.below hV); clear hV HR HP hu))
          have c8' := (box_new V8 (.slice none 0 0) 32).1
          have hb8 : V8.heap.size < (V8.alloc (.cells #[.slice none 0 0] 32)).heap.size := by simp
          have hBW : Below V8.heap.size V8 (V8.alloc (.cells #[.slice none 0 0] 32)) := (Below.refl _ V8).alloc (Nat.le_refl _) _
          replace HC : Hid (Below w.heap.size w (V8.alloc (.cells #[.slice none 0 0] 32))) := HC.out.alloc HC.out.size _
          replace H8 : Hid (FaultAt a (V8.alloc (.cells #[.slice none 0 0] 32)) ve 3 (k : Int)) := H8.out.below hBW
          replace HF := Hid.mk' ((HF.out.below hBW).reads (S := anyBlock) (fun _ _ _ => trivial))
          obtain ⟨W8, hW8⟩ : ∃ W8, V8.alloc (.cells #[.slice none 0 0] 32) = W8 := ⟨_, rfl⟩
          obtain ⟨b8, hb8e⟩ : ∃ b8, V8.heap.size = b8 := ⟨_, rfl⟩
          rw [hW8, hb8e] at c8' hb8
          rw [hW8] at HC H8 HF
          rw [hW8, hb8e]
          have HD : Hid (Below W8.heap.size W8 W8) := Below.refl _ _
          clear hW8 hb8e hcx hpa hfr hco hBW
          go_upto_region 13 with (first
            | (go_at_call 12; refine (hcl _ (HC.out.trans (HD.out.mono HC.out.size))).mono ?_; rintro e V ⟨u, rfl, hu, hV⟩; have HU : Hid (Rows V u all) := hu; obtain ⟨au, cu, rfl, -, -⟩ := hu.open_; replace HD : Hid (Below W8.heap.size W8 V) := HD.out.trans (hV.mono HD.out.size); clear hV hu)
            | (go_at_call 13; refine (hnb _ _ HU.out).mono ?_; rintro e V ⟨u, rfl, hu, hV⟩; have HN : Hid (Rows V u L) := hu; obtain ⟨aL, cL, rfl, -, -⟩ := hu.open_; replace HD : Hid (Below W8.heap.size W8 V) := HD.out.trans (hV.mono HD.out.size); clear hV hu HU)
            | (go_at_call 16; refine (hal _).mono ?_; rintro e V ⟨u, rfl, hu, hV⟩; have HA := Hid.mk' hu; replace HN := Hid.mk' (HN.out.below hV); replace HD : Hid (Below W8.heap.size W8 V) := HD.out.trans (hV.mono HD.out.size); clear hV hu)
            | (go_at_call 15; refine (hfp _ _ _ _ HN.out HA.out).mono ?_; rintro e V ⟨u, rfl, hu, hV⟩; have HQ := Hid.mk' (DuoRow.reads (S := anyBlock) hu (fun _ _ _ => trivial)); replace HN := Hid.mk' (HN.out.below hV); replace HD : Hid (Below W8.heap.size W8 V) := HD.out.trans (hV.mono HD.out.size); clear hV hu HA)
            | (go_at_call 14; refine (hsp _ _ _ (HF.out.below (HD.out.mono (Nat.le_refl _))) HQ.out).mono ?_; rintro e V13 ⟨rfl, hV⟩; replace HN := Hid.mk' (HN.out.below hV); replace HD : Hid (Below W8.heap.size W8 V13) := HD.out.trans (hV.mono HD.out.size); clear hV HQ))
          clear hcl hnb hal hfp hsp HF
          go_wp2_with (first
            | (go_at_call 17; refine (hcp _ _ (HC.out.trans (HD.out.mono HC.out.size)) HN.out).mono ?_; rintro e V ⟨rfl, hV⟩; replace HD : Hid (Below W8.heap.size W8 V) := HD.out.trans (hV.mono HD.out.size); clear hV)
            | (go_at_call 18; refine (hfa _ _ (HC.out.trans (HD.out.mono HC.out.size)) (H8.out.below HD.out)).mono ?_; rintro e V ⟨rfl, hV⟩; replace HD : Hid (Below W8.heap.size W8 V) := HD.out.trans (hV.mono HD.out.size); have j8 := (HD.out.cell (p := ⟨b8, 0, none⟩) hb8).trans c8'; clear hV)
            | fail)
          go_ret
          exact ⟨rfl, HC.out.trans (HD.out.mono HC.out.size)⟩

end Go.Proofs.YthdmfeidcldafaaGreatDoor
