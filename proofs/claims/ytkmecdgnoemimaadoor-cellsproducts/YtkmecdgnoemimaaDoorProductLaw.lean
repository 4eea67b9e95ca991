/- CellsProducts answers true of whatever two lists of sets. -/
import Derived.Test.YtkmecdgnoemimaaDoorProductCall
import Derived.Test.YtkmecdgnoemimaaDoorStateK
import Derived.Test.YtkmecdgnoemimaaDoorCircleWalk
namespace Go.Proofs.YtkmecdgnoemimaaDoor
open Go.RowKit Go.Sort Go.Maps Go.Deep

/-- The verdict on a product. -/
def PVerd (a : Nat → Addr) (p q : List (List Int)) (ve : Value) (n : Int) : Prop :=
  (¬ (vertI p).length * (vertI q).length ≤ 100 ∧ ve = .iface 165 (.pointer (some (a 3))) ∧ n = 4) ∨
  ((vertI p).length * (vertI q).length ≤ 100 ∧ Over (prodS p q) ∧ ve = .iface 165 (.pointer (some (a 1))) ∧ n = 2) ∨
  ((vertI p).length * (vertI q).length ≤ 100 ∧ ¬ Over (prodS p q) ∧ ve = .nilIface ∧ n = 0)
theorem PVerd.state {a : Nat → Addr} {p q : List (List Int)} {ve : Value} {n : Int} (h : PVerd a p q ve n) : SState a ve n := by
  rcases h with ⟨_, rfl, rfl⟩ | ⟨_, _, rfl, rfl⟩ | ⟨_, _, rfl, rfl⟩
  · exact .inl ⟨3, by omega, rfl, rfl⟩
  · exact .inl ⟨1, by omega, rfl, rfl⟩
  · exact .inr ⟨rfl, rfl⟩
/-- What Product answers, the verdict told. -/
theorem prod_k {a : Nat → Addr} {l m p q : List (List Int)} {w w' : World} {e : Ending} (g : Good l p ∧ Good m q) (h : ProdG a l m w e w') :
    ∃ va L ca ve n, e = .returned (.tuple #[.agg #[.slice va (List.length L) ca], ve]) ∧ Rows w' (.slice va L.length ca) L ∧ Below w.heap.size w w' ∧ PVerd a p q ve n ∧ (IsZero n → IsFacets (prodS p q) L) ∧ (¬ IsZero n → Value.slice va L.length ca = .slice none 0 0) := by
  obtain ⟨hB, ⟨j, hj, rfl⟩ | ⟨p', q', hg, hc⟩⟩ := h
  · exact (jerr_not hj g).elim
  · obtain rfl := good_one g.1 hg.1
    obtain rfl := good_one g.2 hg.2
    rcases hc with ⟨hn, rfl⟩ | ⟨hn, ho, rfl⟩ | ⟨hn, ho, v, L, hL, rfl, hown⟩
    · exact ⟨none, [], 0, _, 4, rfl, rows_nil _, hB, .inl ⟨hn, rfl, rfl⟩, fun h => absurd h (by unfold IsZero; omega), fun _ => rfl⟩
    · exact ⟨none, [], 0, _, 2, rfl, rows_nil _, hB, .inr (.inl ⟨hn, ho, rfl, rfl⟩), fun h => absurd h (by unfold IsZero; omega), fun _ => rfl⟩
    · obtain ⟨av, cv, rfl, -, -⟩ := hown.rows.open_
      exact ⟨av, L, cv, _, 0, rfl, hown.rows, hB, .inr (.inr ⟨hn, ho, rfl, rfl⟩), fun _ => hL, fun h => absurd rfl h⟩
theorem prod_err {a : Nat → Addr} {l m : List (List Int)} {i : Nat} {w w' : World} {e : Ending} (hi : JErr l m i) (h : ProdG a l m w e w') :
    e = .returned (.tuple #[.agg #[.slice none 0 0], .iface 165 (.pointer (some (a i)))]) ∧ Below w.heap.size w w' := by
  obtain ⟨hB, ⟨j, hj, rfl⟩ | ⟨p', q', hg, hc⟩⟩ := h
  · rw [jerr_one hi hj]; exact ⟨rfl, hB⟩
  · exact (jerr_not hi hg).elim
/-- More sets than a complex may have. -/
theorem prod_over {l m p q : List (List Int)} (g1 : Good l p) (g2 : Good m q) (h : 600 < (prodS p q).length) : Over (prodS p q) :=
  .inr ⟨prodS p q, growAll_nodup g1.whole g2.whole, h, fun x hx => ⟨fun e => by
    obtain ⟨s, h1, h2⟩ := (mem_growAll g1.whole g2.whole x).1 hx
    rw [h2] at e
    exact h1.ne (by simpa using e), x, hx, List.Sublist.refl _⟩⟩
theorem prod_rising {l m p q : List (List Int)} (g1 : Good l p) (g2 : Good m q) : ∀ x ∈ prodS p q, Rising x := fun x hx => ((mem_growAll g1.whole g2.whole x).1 hx).rising
theorem prod_ok {l m p q : List (List Int)} (g1 : Good l p) (g2 : Good m q) (h : (vertI p).length * (vertI q).length ≤ 100) : ∀ x ∈ prodS p q, SetOk x := fun x hx => ((mem_growAll g1.whole g2.whole x).1 hx).ok h
theorem prod_short {l m p q : List (List Int)} (g1 : Good l p) (g2 : Good m q) (h : (vertI p).length * (vertI q).length ≤ 100) : ∀ x ∈ prodS p q, x.length ≤ 100 := fun x hx => by
  have h1 := prod_ok g1 g2 h x hx
  exact range_len (prod_rising g1 g2 x hx) (a := 0) (fun v hv => by have := h1.2.2 v hv; omega)

set_option maxRecDepth 100000 in
set_option maxHeartbeats 8000000 in
theorem products_law (CL : ClosedHolds) {a : Nat → Addr} {s : Nat → ByteArray} (va vb : Value) (A B : List (List Int)) (w : World) (hE : Errs a s w) (ha : Rows w va A) (hb : Rows w vb B) :
    Calls Tryd.prog 3 #[va, vb] w fun e w' => e = .returned (.bool true) ∧ Below w.heap.size w w' := by
  have hci := circle_ w hE
  have HRA : Hid (Rows w va A) := ha
  have HRB : Hid (Rows w vb B) := hb
  clear ha hb
  go_enter Tryd.func3, Tryd.ntmps3
  go_wp2_with fail
  refine hci.mono ?_
  clear hci
  rintro e w1 ⟨rfl, hB1⟩
  have hla := little_few CL va A 20 w1 (HRA.out.below hB1)
  go_wp2_with fail
  refine hla.mono ?_
  clear hla
  rintro e w2 ⟨qa, rfl, hB2, hqa⟩
  have HB2 : Hid (Below w.heap.size w w2) := hB1.trans (hB2.mono hB1.size)
  clear hB1 hB2
  have hlb := little_few CL vb B 20 w2 (HRB.out.below HB2.out)
  go_wp2_with fail
  refine hlb.mono ?_
  clear hlb
  rintro e w3 ⟨qb, rfl, hB3, hqb⟩
  have HB3 : Hid (Below w.heap.size w w3) := HB2.out.trans (hB3.mono HB2.out.size)
  clear hB3 HB2
  cases qa with
  | false =>
    clear hqa hqb
    go_wp2
    go_ret
    exact ⟨rfl, HB3.out⟩
  | true =>
    cases qb with
    | false =>
      clear hqa hqb
      go_wp2
      go_ret
      exact ⟨rfl, HB3.out⟩
    | true =>
      have hA1 : A.length ≤ 100000 := by have := (hqa rfl).1; omega
      have hB1 : B.length ≤ 100000 := by have := (hqb rfl).1; omega
      have hA2 : ∀ x ∈ A, x.length ≤ 1000 := fun x hx => by have := (hqa rfl).2.1 x hx; omega
      have hB2 : ∀ x ∈ B, x.length ≤ 1000 := fun x hx => by have := (hqb rfl).2.1 x hx; omega
      clear hqa hqb
      have her := error_k2 CL a va A w3 (HRA.out.below HB3.out) hA1 hA2
      go_wp2_with fail
      refine her.mono ?_
      clear her
      rintro e w4 ⟨hB4, veA, nA, allA, -, rfl, ⟨hn0, hn1, -, i, hbad, hve, hni⟩ | ⟨rfl, hg⟩⟩
      · have HB4 : Hid (Below w.heap.size w w4) := HB3.out.trans (hB4.mono HB3.out.size)
        have HJ : Hid (JErr A B i) := .inl hbad
        have hi8 : i < 8 := hbad.lt
        have HNI : Hid (nA = (i : Int) + 1) := hni
        clear hbad hve hB4 HB3 hni
        have hcx := cx_ va A _ (HRA.out.below HB4.out) hA1 hA2
        go_wp2_with fail
        refine hcx.mono ?_
        clear hcx
        rintro e w6 ⟨v6, rfl, hr6, hB6⟩
        have HB6 : Hid (Below w.heap.size w w6) := HB4.out.trans (hB6.mono HB4.out.size)
        have HR6 : Hid (Rows w6 v6 A) := hr6
        clear hr6 hB6 HB4
        have hcx := cx_ vb B _ (HRB.out.below HB6.out) hB1 hB2
        go_wp2_with fail
        refine hcx.mono ?_
        clear hcx
        rintro e w7 ⟨v7, rfl, hr7, hB7⟩
        have HB7 : Hid (Below w.heap.size w w7) := HB6.out.trans (hB7.mono HB6.out.size)
        have HR7 : Hid (Rows w7 v7 B) := hr7
        have HR67 : Hid (Rows w7 v6 A) := HR6.out.below hB7
        clear hr7 hB7 HB6 HR6
        have hpr := product_call v6 v7 A B _ (hE.below HB7.out) HR67.out HR7.out hA1 hA2 hB1 hB2
        go_wp2_with fail
        refine hpr.mono ?_
        clear hpr
        intro e w8 hP8
        obtain ⟨rfl, hB8⟩ := prod_err HJ.out hP8
        have HB8 : Hid (Below w.heap.size w w8) := HB7.out.trans (hB8.mono HB7.out.size)
        have hBa : Below w8.heap.size w8 (w8.alloc (.cells #[.slice none 0 0] 27)) := (Below.refl _ w8).alloc (Nat.le_refl _) _
        have hcb := box_new w8 (.slice none 0 0) 27
        have HB9 : Hid (Below w.heap.size w (w8.alloc (.cells #[.slice none 0 0] 27))) := HB8.out.trans (hBa.mono HB8.out.size)
        have his := is_err i hi8 (.slice none 0 0) (w8.alloc (.cells #[.slice none 0 0] 27)) (hE.below HB9.out)
        rw [← HNI.out] at his
        clear hP8 hB8 HB7 HR67 HR7 hBa
        go_wp2_with fail
        refine his.mono ?_
        clear his
        rintro e w9 ⟨rfl, hB9⟩
        go_wp2
        go_ret
        exact ⟨rfl, HB9.out.trans (hB9.mono HB9.out.size)⟩
      · have HB4 : Hid (Below w.heap.size w w4) := HB3.out.trans (hB4.mono HB3.out.size)
        have HGA : Hid (Good A allA) := hg
        clear hg hB4 HB3
        have her := error_k2 CL a vb B w4 (HRB.out.below HB4.out) hB1 hB2
        go_wp2_with fail
        refine her.mono ?_
        clear her
        rintro e w5 ⟨hB5, veA, nA, allB, -, rfl, ⟨hn0, hn1, -, i, hbad, hve, hni⟩ | ⟨rfl, hg⟩⟩
        · have HB5 : Hid (Below w.heap.size w w5) := HB4.out.trans (hB5.mono HB4.out.size)
          have HJ : Hid (JErr A B i) := .inr ⟨⟨allA, HGA.out⟩, hbad⟩
          have hi8 : i < 8 := hbad.lt
          have HNI : Hid (nA = (i : Int) + 1) := hni
          clear hbad hve hB5 HB4 hni
          obtain ⟨w4, hw4⟩ : ∃ w4, w5 = w4 := ⟨_, rfl⟩
          subst hw4
          have HB4 : Hid (Below w.heap.size w w5) := HB5.out
          have hcx := cx_ va A _ (HRA.out.below HB4.out) hA1 hA2
          go_wp2_with fail
          refine hcx.mono ?_
          clear hcx
          rintro e w6 ⟨v6, rfl, hr6, hB6⟩
          have HB6 : Hid (Below w.heap.size w w6) := HB4.out.trans (hB6.mono HB4.out.size)
          have HR6 : Hid (Rows w6 v6 A) := hr6
          clear hr6 hB6 HB4
          have hcx := cx_ vb B _ (HRB.out.below HB6.out) hB1 hB2
          go_wp2_with fail
          refine hcx.mono ?_
          clear hcx
          rintro e w7 ⟨v7, rfl, hr7, hB7⟩
          have HB7 : Hid (Below w.heap.size w w7) := HB6.out.trans (hB7.mono HB6.out.size)
          have HR7 : Hid (Rows w7 v7 B) := hr7
          have HR67 : Hid (Rows w7 v6 A) := HR6.out.below hB7
          clear hr7 hB7 HB6 HR6
          have hpr := product_call v6 v7 A B _ (hE.below HB7.out) HR67.out HR7.out hA1 hA2 hB1 hB2
          go_wp2_with fail
          refine hpr.mono ?_
          clear hpr
          intro e w8 hP8
          obtain ⟨rfl, hB8⟩ := prod_err HJ.out hP8
          have HB8 : Hid (Below w.heap.size w w8) := HB7.out.trans (hB8.mono HB7.out.size)
          have hBa : Below w8.heap.size w8 (w8.alloc (.cells #[.slice none 0 0] 27)) := (Below.refl _ w8).alloc (Nat.le_refl _) _
          have hcb := box_new w8 (.slice none 0 0) 27
          have HB9 : Hid (Below w.heap.size w (w8.alloc (.cells #[.slice none 0 0] 27))) := HB8.out.trans (hBa.mono HB8.out.size)
          have his := is_err i hi8 (.slice none 0 0) (w8.alloc (.cells #[.slice none 0 0] 27)) (hE.below HB9.out)
          rw [← HNI.out] at his
          clear hP8 hB8 HB7 HR67 HR7 hBa
          go_wp2_with fail
          refine his.mono ?_
          clear his
          rintro e w9 ⟨rfl, hB9⟩
          go_wp2
          go_ret
          exact ⟨rfl, HB9.out.trans (hB9.mono HB9.out.size)⟩
        · have HB5 : Hid (Below w.heap.size w w5) := HB4.out.trans (hB5.mono HB4.out.size)
          have HGB : Hid (Good B allB) := hg
          clear hg hB5 HB4
          have hcx := cx_ va A _ (HRA.out.below HB5.out) hA1 hA2
          go_wp2_with fail
          refine hcx.mono ?_
          clear hcx
          rintro e w6 ⟨v6, rfl, hr6, hB6⟩
          have HB6 : Hid (Below w.heap.size w w6) := HB5.out.trans (hB6.mono HB5.out.size)
          have HR6 : Hid (Rows w6 v6 A) := hr6
          clear hr6 hB6 HB5
          have hcx := cx_ vb B _ (HRB.out.below HB6.out) hB1 hB2
          go_wp2_with fail
          refine hcx.mono ?_
          clear hcx
          rintro e w7 ⟨v7, rfl, hr7, hB7⟩
          have HB7 : Hid (Below w.heap.size w w7) := HB6.out.trans (hB7.mono HB6.out.size)
          have HR7 : Hid (Rows w7 v7 B) := hr7
          have HR67 : Hid (Rows w7 v6 A) := HR6.out.below hB7
          clear hr7 hB7 HB6 HR6
          have hpr := product_call v6 v7 A B _ (hE.below HB7.out) HR67.out HR7.out hA1 hA2 hB1 hB2
          go_wp2_with fail
          refine hpr.mono ?_
          clear hpr
          intro e w8 hP8
          obtain ⟨a8, L8, c8, ve, n, rfl, hr8, hB8, hpv, hz, hnz⟩ := prod_k ⟨HGA.out, HGB.out⟩ hP8
          have HB8 : Hid (Below w.heap.size w w8) := HB7.out.trans (hB8.mono HB7.out.size)
          have HR8 : Hid (Rows w8 (.slice a8 L8.length c8) L8) := hr8
          have HPV : Hid (PVerd a allA allB ve n) := hpv
          have HZ : Hid ((IsZero n → IsFacets (prodS allA allB) L8) ∧ (¬ IsZero n → Value.slice a8 L8.length c8 = .slice none 0 0)) := ⟨hz, hnz⟩
          clear hP8 hr8 hB8 hpv hz hnz HB7 HR67 HR7
          have hBa : Below w8.heap.size w8 (w8.alloc (.cells #[.slice a8 L8.length c8] 27)) := (Below.refl _ w8).alloc (Nat.le_refl _) _
          have HX0 : Hid ((w8.alloc (.cells #[.slice a8 L8.length c8] 27)).cell? ⟨w8.heap.size, 0, none⟩ = some (.slice a8 L8.length c8)) := (box_new w8 (.slice a8 L8.length c8) 27).1
          have HC0 : Hid (Below w.heap.size w (w8.alloc (.cells #[.slice a8 L8.length c8] 27))) := HB8.out.trans (hBa.mono HB8.out.size)
          have HL0 : Hid (Rows (w8.alloc (.cells #[.slice a8 L8.length c8] 27)) (.slice a8 L8.length c8) L8) := HR8.out.below hBa
          have hcl := closed_g CL va A allA _ (HRA.out.below HC0.out) hA1 hA2 HGA.out
          clear hBa HB8 HR8
          go_wp2_with fail
          refine hcl.mono ?_
          clear hcl
          rintro e w9 ⟨v9, rfl, hr9, hB9⟩
          have HC9 : Hid (Below w.heap.size w w9) := HC0.out.trans (hB9.mono HC0.out.size)
          have HL9 : Hid (Rows w9 (.slice a8 L8.length c8) L8 ∧ Rows w9 v9 allA) := ⟨HL0.out.below hB9, hr9⟩
          have HX9 : Hid (w9.cell? ⟨w8.heap.size, 0, none⟩ = some (.slice a8 L8.length c8)) := (hB9.cell (p := ⟨w8.heap.size, 0, none⟩) (by simp)).trans HX0.out
          clear hr9 hB9 HC0 HL0 HX0
          have hcl := closed_g CL vb B allB _ (HRB.out.below HC9.out) hB1 hB2 HGB.out
          go_wp2_with fail
          refine hcl.mono ?_
          clear hcl
          rintro e w10 ⟨v10, rfl, hr10, hB10⟩
          have HC10 : Hid (Below w.heap.size w w10) := HC9.out.trans (hB10.mono HC9.out.size)
          have HL10 : Hid (Rows w10 (.slice a8 L8.length c8) L8 ∧ Rows w10 v9 allA ∧ Rows w10 v10 allB) := ⟨HL9.out.1.below hB10, HL9.out.2.below hB10, hr10⟩
          have HX10 : Hid (w10.cell? ⟨w8.heap.size, 0, none⟩ = some (.slice a8 L8.length c8)) := (hB10.cell (p := ⟨w8.heap.size, 0, none⟩) (cell_lt HX9.out)).trans HX9.out
          clear hr10 hB10 HC9 HL9 HX9
          have hse := sets_ v9 v10 allA allB HGA.out HGB.out w10 HL10.out.2.1 HL10.out.2.2
          go_wp2_with fail
          refine hse.mono ?_
          clear hse
          rintro e w11 ⟨a11, c11, rfl, hr11, hB11⟩
          have HC11 : Hid (Below w.heap.size w w11) := HC10.out.trans (hB11.mono HC10.out.size)
          obtain ⟨ts, hts⟩ : ∃ ts, (prodS allA allB).take 601 = ts := ⟨_, rfl⟩
          have HTS : Hid ((prodS allA allB).take 601 = ts) := hts
          rw [hts] at hr11 ⊢
          have HL11 : Hid (Rows w11 (.slice a8 L8.length c8) L8 ∧ Rows w11 v9 allA ∧ Rows w11 v10 allB ∧ Rows w11 (.slice a11 ts.length c11) ts) := ⟨HL10.out.1.below hB11, HL10.out.2.1.below hB11, HL10.out.2.2.below hB11, hr11⟩
          have HX11 : Hid (w11.cell? ⟨w8.heap.size, 0, none⟩ = some (.slice a8 L8.length c8)) := (hB11.cell (p := ⟨w8.heap.size, 0, none⟩) (cell_lt HX10.out)).trans HX10.out
          clear hr11 hB11 HC10 HL10 HX10 hts
          have hv1 := vertices_ v9 allA w11 HL11.out.2.1 (by have := HGA.out.length; omega)
          go_wp2_with fail
          refine hv1.mono ?_
          clear hv1
          rintro e w12 ⟨v12, rfl, hi12, hB12⟩
          obtain ⟨a12, c12, rfl, -, -⟩ := hi12.open_
          have HC12 : Hid (Below w.heap.size w w12) := HC11.out.trans (hB12.mono HC11.out.size)
          have HL12 : Hid (Rows w12 (.slice a8 L8.length c8) L8 ∧ Rows w12 v10 allB ∧ Rows w12 (.slice a11 ts.length c11) ts) := ⟨HL11.out.1.below hB12, HL11.out.2.2.1.below hB12, HL11.out.2.2.2.below hB12⟩
          have HX12 : Hid (w12.cell? ⟨w8.heap.size, 0, none⟩ = some (.slice a8 L8.length c8)) := (hB12.cell (p := ⟨w8.heap.size, 0, none⟩) (cell_lt HX11.out)).trans HX11.out
          clear hi12 hB12 HC11 HL11 HX11
          have hv2 := vertices_ v10 allB w12 HL12.out.2.1 (by have := HGB.out.length; omega)
          go_wp2_with fail
          refine hv2.mono ?_
          clear hv2
          rintro e w13 ⟨v13, rfl, hi13, hB13⟩
          obtain ⟨a13, c13, rfl, -, -⟩ := hi13.open_
          have HC13 : Hid (Below w.heap.size w w13) := HC12.out.trans (hB13.mono HC12.out.size)
          have HL13 : Hid (Rows w13 (.slice a8 L8.length c8) L8 ∧ Rows w13 (.slice a11 ts.length c11) ts) := ⟨HL12.out.1.below hB13, HL12.out.2.2.below hB13⟩
          have HX13 : Hid (w13.cell? ⟨w8.heap.size, 0, none⟩ = some (.slice a8 L8.length c8)) := (hB13.cell (p := ⟨w8.heap.size, 0, none⟩) (cell_lt HX12.out)).trans HX12.out
          clear hi13 hB13 HC12 HL12 HX12
          have hl1 := HGA.out.vlen
          have hl2 := HGB.out.vlen
          obtain ⟨P, hPe⟩ : ∃ P, (vertI allA).length = P := ⟨_, rfl⟩
          obtain ⟨Q, hQe⟩ : ∃ Q, (vertI allB).length = Q := ⟨_, rfl⟩
          rw [hPe] at hl1 ⊢
          rw [hQe] at hl2 ⊢
          have hmm : P * Q ≤ 10000 := Nat.mul_le_mul hl1 hl2
          have hmi : ((P : Int) * (Q : Int)) = ((P * Q : Nat) : Int) := (Int.natCast_mul P Q).symm
          obtain ⟨M, hM⟩ : ∃ M, P * Q = M := ⟨_, rfl⟩
          rw [hM] at hmm hmi
          have HM : Hid ((vertI allA).length * (vertI allB).length = M) := by show _ = _; rw [hPe, hQe]; exact hM
          have hcb := HX13.out
          clear hPe hQe hM
          by_cases h99 : 100 < M
          · have hvn : ve = .iface 165 (.pointer (some (a 3))) ∧ n = 4 ∧ Value.slice a8 L8.length c8 = .slice none 0 0 := by
              rcases HPV.out with ⟨_, h1, h2⟩ | ⟨h0, _⟩ | ⟨h0, _⟩
              · exact ⟨h1, h2, HZ.out.2 (by unfold IsZero; omega)⟩
              · rw [HM.out] at h0; omega
              · rw [HM.out] at h0; omega
            have his : Calls Tryd.prog 10 #[.agg #[.slice a8 L8.length c8], ve, .slice none 0 0, .int .i64 4] w13 (fun e w' => e = .returned (.bool true) ∧ Below w13.heap.size w13 w') := by
              rw [hvn.1, hvn.2.2]
              exact is_err 3 (by omega) (.slice none 0 0) w13 (hE.below HC13.out)
            clear hvn
            go_wp2_with fail
            refine his.mono ?_
            clear his
            rintro e w14 ⟨rfl, hB14⟩
            go_wp2
            go_ret
            exact ⟨rfl, HC13.out.trans (hB14.mono HC13.out.size)⟩
          · have H100 : Hid ((vertI allA).length * (vertI allB).length ≤ 100) := by show _ ≤ _; rw [HM.out]; omega
            by_cases h600 : 600 < ts.length
            · have hvn : ve = .iface 165 (.pointer (some (a 1))) ∧ n = 2 ∧ Value.slice a8 L8.length c8 = .slice none 0 0 := by
                have hov : Over (prodS allA allB) := prod_over HGA.out HGB.out (by rw [← HTS.out, List.length_take] at h600; omega)
                rcases HPV.out with ⟨h0, _⟩ | ⟨_, _, h1, h2⟩ | ⟨_, h0, _⟩
                · exact absurd H100.out h0
                · exact ⟨h1, h2, HZ.out.2 (by unfold IsZero; omega)⟩
                · exact absurd hov h0
              have his : Calls Tryd.prog 10 #[.agg #[.slice a8 L8.length c8], ve, .slice none 0 0, .int .i64 2] w13 (fun e w' => e = .returned (.bool true) ∧ Below w13.heap.size w13 w') := by
                rw [hvn.1, hvn.2.2]
                exact is_err 1 (by omega) (.slice none 0 0) w13 (hE.below HC13.out)
              clear hvn
              go_wp2_with fail
              refine his.mono ?_
              clear his
              rintro e w14 ⟨rfl, hB14⟩
              go_wp2
              go_ret
              exact ⟨rfl, HC13.out.trans (hB14.mono HC13.out.size)⟩
            · have hte : prodS allA allB = ts := by
                have := HTS.out
                have hl : ts.length ≤ 600 := by omega
                rw [← this, List.length_take] at hl
                rw [← this, List.take_of_length_le (by omega)]
              have HTE : Hid (prodS allA allB = ts) := hte
              have HRI : Hid (∀ x ∈ ts, Rising x) := by rw [← hte]; exact prod_rising HGA.out HGB.out
              have HOK : Hid (∀ x ∈ ts, SetOk x) := by rw [← hte]; exact prod_ok HGA.out HGB.out H100.out
              have HSH : Hid (∀ x ∈ ts, x.length ≤ 1000) := by rw [← hte]; exact fun x hx => by have := prod_short HGA.out HGB.out H100.out x hx; omega
              clear hte
              have hma := made_ CL (.slice a11 ts.length c11) ts w13 HL13.out.2 (by omega) HSH.out
              go_wp2_with fail
              refine hma.mono ?_
              clear hma
              rintro e w14 ⟨hB14, ⟨hno, rfl⟩ | ⟨hok, hov, rfl⟩ | ⟨hok, hov, v14, all', rfl, hra, hal, h6⟩⟩
              · exact absurd HOK.out hno
              · rw [map_srt HRI.out] at hov
                have hvn : ve = .iface 165 (.pointer (some (a 1))) ∧ n = 2 ∧ Value.slice a8 L8.length c8 = .slice none 0 0 := by
                  rw [← HTE.out] at hov
                  rcases HPV.out with ⟨h0, _⟩ | ⟨_, _, h1, h2⟩ | ⟨_, h0, _⟩
                  · exact absurd H100.out h0
                  · exact ⟨h1, h2, HZ.out.2 (by unfold IsZero; omega)⟩
                  · exact absurd hov h0
                have HC14 : Hid (Below w.heap.size w w14) := HC13.out.trans (hB14.mono HC13.out.size)
                have hcb2 := (hB14.cell (p := ⟨w8.heap.size, 0, none⟩) (cell_lt HX13.out)).trans HX13.out
                have his : Calls Tryd.prog 10 #[.agg #[.slice a8 L8.length c8], ve, .slice none 0 0, .int .i64 2] w14 (fun e w' => e = .returned (.bool true) ∧ Below w14.heap.size w14 w') := by
                  rw [hvn.1, hvn.2.2]
                  exact is_err 1 (by omega) (.slice none 0 0) w14 (hE.below HC14.out)
                clear hvn hok hov hB14 hcb
                go_wp2_with fail
                refine his.mono ?_
                clear his
                rintro e w15 ⟨rfl, hB15⟩
                go_wp2
                go_ret
                exact ⟨rfl, HC14.out.trans (hB15.mono HC14.out.size)⟩
              · rw [map_srt HRI.out] at hov hal
                have hvn : ve = .nilIface ∧ n = 0 := by
                  rw [← HTE.out] at hov
                  rcases HPV.out with ⟨h0, _⟩ | ⟨_, h0, _⟩ | ⟨_, _, h1, h2⟩
                  · exact absurd H100.out h0
                  · exact absurd h0 hov
                  · exact ⟨h1, h2⟩
                have HC14 : Hid (Below w.heap.size w w14) := HC13.out.trans (hB14.mono HC13.out.size)
                have hcb2 := (hB14.cell (p := ⟨w8.heap.size, 0, none⟩) (cell_lt HX13.out)).trans HX13.out
                have hf1 : IsFacets ts L8 := by rw [← HTE.out]; exact HZ.out.1 hvn.2
                have hf2 : IsFacets ts (facetsI all') := facets_made HRI.out hal
                have hsh := all_short hal hov
                have hlen : (facetsI all').length ≤ 1000000 := by
                  have : (facetsI all').length ≤ all'.length := List.length_filter_le _ _
                  omega
                obtain ⟨a14, c14, rfl, -, -⟩ := hra.open_
                have his : Calls Tryd.prog 10 #[.agg #[.slice a8 L8.length c8], ve, .slice a14 (facetsI all').length c14, .int .i64 0] w14 (fun e w' => e = .returned (.bool true) ∧ Below w14.heap.size w14 w') := by
                  rw [hvn.1]
                  exact is_k (a := a) (s := s) (g := ts) (L := L8) (ve := .nilIface) (n := 0) (vc := .slice a8 L8.length c8) (vw := .slice a14 (facetsI all').length c14) (.inr ⟨rfl, rfl⟩) w14 (fun h => absurd rfl h) (HL13.out.1.below hB14) (fun _ => hf1) (fun _ => ⟨facetsI all', hra, hf2, hlen, fun x hx => by have := hsh x (List.mem_filter.1 hx).1; omega⟩) (hE.below HC14.out)
                clear hvn hok hov hal hra hf1 hf2 hsh hlen hB14 h6 hcb
                go_wp2_with fail
                refine his.mono ?_
                clear his
                rintro e w15 ⟨rfl, hB15⟩
                go_wp2
                go_ret
                exact ⟨rfl, HC14.out.trans (hB15.mono HC14.out.size)⟩

end Go.Proofs.YtkmecdgnoemimaaDoor
