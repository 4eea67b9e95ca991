/- The program's cochains: a complex opened, cochains as rows. -/
import Derived.Test.YtldknhganoiajaaGreatDoorCupCocOf
namespace Go.Proofs.YtldknhganoiajaaGreatDoor
open Go.RowKit Go.Sort Go.Maps Go.Deep

set_option maxRecDepth 100000 in
set_option maxHeartbeats 1000000 in
theorem cochains_bad {a : Nat → Addr} {s : Nat → ByteArray} {l : List (List Int)} {i : Nat} (hb : BadAt l i) (vl vc : Value) (w : World) (hE : Errs a s w) (hl : Rows w vl l) (hll : l.length ≤ 100000) (hle : ∀ x ∈ l, x.length ≤ 1000) :
    Calls Tryz.prog 28 #[.agg #[vl], vc] w fun e w' => e = .returned (.tuple #[.agg #[.slice none 0 0, .map none], .slice none 0 0, .iface 179 (.pointer (some (a i)))]) ∧ Below w.heap.size w w' := by
  obtain ⟨al, cl, rfl, -, -⟩ := hl.open_
  have hB1 : Below w.heap.size w ((w.alloc (.cells #[.slice al l.length cl] 31)).alloc (.cells #[.slice none 0 0, .map none] 46)) := ((Below.refl _ w).alloc (Nat.le_refl _) _).alloc (by simp) _
  have hv := cupOpen_bad hb (.slice al l.length cl) _ (hE.below hB1) (hl.below hB1) hll hle
  have q0 := (box_new w (.slice al l.length cl) 31).1
  have q1 := cells_two (w.alloc (.cells #[.slice al l.length cl] 31)) (.slice none 0 0) (.map none) 46
  rw [World.size_alloc] at q1
  have q2 : ((w.alloc (.cells #[.slice al l.length cl] 31)).alloc (.cells #[.slice none 0 0, .map none] 46)).cell? ⟨w.heap.size, 0, none⟩ = some (.slice al l.length cl) := (World.cell?_alloc_lt _ _ ⟨w.heap.size, 0, none⟩ (by simp)).trans q0
  obtain ⟨W1, hW1⟩ : ∃ W1, (w.alloc (.cells #[.slice al l.length cl] 31)).alloc (.cells #[.slice none 0 0, .map none] 46) = W1 := ⟨_, rfl⟩
  have hz1 : W1.heap.size = w.heap.size + 2 := by rw [← hW1]; simp
  rw [hW1] at hB1 hv q1 q2
  obtain ⟨ev, hev⟩ : ∃ ev : Addr, a i = ev := ⟨_, rfl⟩
  rw [hev] at hv ⊢
  have HW1 := Hid.mk' hW1
  have HB1 := Hid.mk' hB1
  have HZ1 := Hid.mk' hz1
  clear hE hl hll hle hb hev hW1 hB1 hz1
  go_enter Tryz.func28, Tryz.ntmps28
  go_upto_region 1 with fail
  rw [HW1.out]
  go_wp2_with fail
  refine hv.mono ?_
  clear hv
  rintro e W2 ⟨rfl, hB2⟩
  have hB3 : Below W1.heap.size W1 (W2.alloc (.cells #[.slice none 0 0, .map none] 46)) := hB2.alloc hB2.size _
  have c0 := (hB3.cell (p := ⟨w.heap.size + 1, 0, none⟩) (by rw [HZ1.out]; show w.heap.size + 1 < w.heap.size + 2; omega)).trans q1.1.1
  have c1 := (hB3.cell (p := ⟨w.heap.size + 1, 1, none⟩) (by rw [HZ1.out]; show w.heap.size + 1 < w.heap.size + 2; omega)).trans q1.1.2
  have z1 := (hB3.frozen (p := ⟨w.heap.size + 1, 0, none⟩) (by rw [HZ1.out]; show w.heap.size + 1 < w.heap.size + 2; omega)).trans (q1.2 0)
  have z2 := (hB3.frozen (p := ⟨w.heap.size + 1, 1, none⟩) (by rw [HZ1.out]; show w.heap.size + 1 < w.heap.size + 2; omega)).trans (q1.2 1)
  have HB3 : Hid (Below w.heap.size w (W2.alloc (.cells #[.slice none 0 0, .map none] 46))) := HB1.out.trans (hB3.mono HB1.out.size)
  obtain ⟨P, hP⟩ : ∃ P, w.heap.size + 1 = P := ⟨_, rfl⟩
  have HP := Hid.mk' hP
  rw [hP] at c0 c1 z1 z2
  rw [hP]
  clear hP q1 q2 hB2 hB3
  go_upto_region 2 with fail
  obtain ⟨W3, hW3⟩ : ∃ W3, W2.alloc (.cells #[.slice none 0 0, .map none] 46) = W3 := ⟨_, rfl⟩
  rw [hW3] at c0 c1 z1 z2 HB3 ⊢
  clear hW3
  go_wp2_with fail
  refine bodyPost_ret (v := .tuple #[.agg #[.slice none 0 0, .map none], .slice none 0 0, .iface 179 (.pointer (some ev))]) ?_ rfl ?_
  · have c2 := two_set c0 c1 (.slice none 0 0) (.map none)
    simp [results, Tryz.f28, go_sem, c2.1, c2.2]
  · exact ⟨rfl, below_cells2 HB3.out (by have := HP.out; omega) _ _⟩

/-- What rowOf answered, behind V. -/
def RoSays (V w' : World) (v : Value) (n : Nat) (f : List Int) (q : Bool) : Prop :=
  Below V.heap.size V w' ∧ ((q = true ∧ OkCo n f ∧ WordIn (fun b => V.heap.size ≤ b) w' v n (maskN f)) ∨ (q = false ∧ ¬ OkCo n f))
theorem RoSays.yes {V w' : World} {v : Value} {n : Nat} {f : List Int} (h : RoSays V w' v n f true) : OkCo n f ∧ WordIn (fun b => V.heap.size ≤ b) w' v n (maskN f) := by
  rcases h.2 with ⟨-, h⟩ | ⟨h, -⟩
  · exact h
  · cases h
theorem RoSays.no {V w' : World} {v : Value} {n : Nat} {f : List Int} (h : RoSays V w' v n f false) : ¬ OkCo n f := by
  rcases h.2 with ⟨h, -⟩ | ⟨-, h⟩
  · cases h
  · exact h
/-- What cochains answers of a good complex. -/
def CoSays (a : Nat → Addr) (all : List (List Int)) (cs : List Co) (w : World) (e : Ending) (w' : World) : Prop :=
  Below w.heap.size w w' ∧ ((¬ DimsOk (topN all) cs ∧ e = .returned (.tuple #[.agg #[.slice none 0 0, .map none], .slice none 0 0, .iface 179 (.pointer (some (a 1)))])) ∨
    (DimsOk (topN all) cs ∧ ¬ ListsOk all cs ∧ e = .returned (.tuple #[.agg #[.slice none 0 0, .map none], .slice none 0 0, .iface 179 (.pointer (some (a 3)))])) ∨
    (DimsOk (topN all) cs ∧ ListsOk all cs ∧ ∃ B sv v, e = .returned (.tuple #[sv, v, .nilIface]) ∧ w.heap.size ≤ B ∧ B ≤ w'.heap.size ∧ ShapeS (fun b => b < B) w' sv all ∧ WordsAt B w' v (coN all cs) (coX cs) cs.length))

set_option maxRecDepth 100000 in
set_option maxHeartbeats 8000000 in
theorem cochains_good {a : Nat → Addr} {s : Nat → ByteArray} {l all : List (List Int)} (hg : Good l all) (h60 : all.length ≤ 60) (vl : Value) (b cb : Nat) (cs : List Co) (us : Nat → Value) (w : World) (hE : Errs a s w) (hl : Rows w vl l) (hll : l.length ≤ 100000) (hle : ∀ x ∈ l, x.length ≤ 1000)
    (hc : CoAt w b cs us) (hcl : cs.length ≤ 100) (hcx : ∀ c ∈ cs, c.2.length ≤ 60) :
    Calls Tryz.prog 28 #[.agg #[vl], .slice (some ⟨b, 0, none⟩) cs.length cb] w fun e w' => CoSays a all cs w e w' := by
  obtain ⟨i0, hi, hy0, hy1, hy2⟩ := info_parts Tryz.infocr
  obtain ⟨al, cl, rfl, -, -⟩ := hl.open_
  have hB1 : Below w.heap.size w ((w.alloc (.cells #[.slice al l.length cl] 31)).alloc (.cells #[.slice none 0 0, .map none] 46)) := ((Below.refl _ w).alloc (Nat.le_refl _) _).alloc (by simp) _
  have hv := cupOpen_own hg (.slice al l.length cl) _ (hE.below hB1) (hl.below hB1) hll hle
  have q0 := (box_new w (.slice al l.length cl) 31).1
  have q1 := cells_two (w.alloc (.cells #[.slice al l.length cl] 31)) (.slice none 0 0) (.map none) 46
  rw [World.size_alloc] at q1
  have q2 : ((w.alloc (.cells #[.slice al l.length cl] 31)).alloc (.cells #[.slice none 0 0, .map none] 46)).cell? ⟨w.heap.size, 0, none⟩ = some (.slice al l.length cl) := (World.cell?_alloc_lt _ _ ⟨w.heap.size, 0, none⟩ (by simp)).trans q0
  obtain ⟨W1, hW1⟩ : ∃ W1, (w.alloc (.cells #[.slice al l.length cl] 31)).alloc (.cells #[.slice none 0 0, .map none] 46) = W1 := ⟨_, rfl⟩
  have hz1 : W1.heap.size = w.heap.size + 2 := by rw [← hW1]; simp
  rw [hW1] at hB1 hv q1 q2
  have HW1 := Hid.mk' hW1
  have HB1 := Hid.mk' hB1
  have HZ1 := Hid.mk' hz1
  have HE := Hid.mk' hE
  have HG := Hid.mk' hg
  have HC := Hid.mk' (And.intro hc hcx)
  have h7 : topN all ≤ 7 := topN_upto hg.short
  have H60 := Hid.mk' h60
  obtain ⟨m, hm⟩ : ∃ m, cs.length = m := ⟨_, rfl⟩
  have HM := Hid.mk' hm
  rw [hm] at hcl ⊢
  clear hE hl hll hle hW1 hB1 hz1 hg hc hcx h60 hm
  go_enter Tryz.func28, Tryz.ntmps28
  go_upto_region 1 with fail
  rw [HW1.out]
  go_wp2_with fail
  refine hv.mono ?_
  clear hv
  rintro e W2 ⟨sv, rfl, hsv, hB2⟩
  obtain ⟨vF, g, L, rfl, hF, hL, hN, hSg⟩ := hsv
  obtain ⟨aF, cF, rfl, -⟩ := (hF.mono (S' := anyBlock) (fun _ _ _ => trivial)).open_
  rw [facesT_len] at hF
  rw [facesT_len]
  obtain ⟨T, hT⟩ : ∃ T, topN all = T := ⟨_, rfl⟩
  have HT := Hid.mk' hT
  rw [hT] at hF h7 ⊢
  have HSH : Hid (ShapeS (fun b => W1.heap.size ≤ b ∧ b < W2.heap.size) W2 (.agg #[.slice aF T cF, .map (some g)]) all) := ShapeS.mono ⟨_, g, L, rfl, hF, hL, hN, hSg⟩ (fun b hb h => ⟨h, hb⟩)
  have hB3 : Below W1.heap.size W1 (W2.alloc (.cells #[.slice aF T cF, .map (some g)] 46)) := hB2.alloc hB2.size _
  have hq := cells_two W2 (.slice aF T cF) (.map (some g)) 46
  have HS2 := Hid.mk' hB2.size
  obtain ⟨P, hP⟩ : ∃ P, w.heap.size + 1 = P := ⟨_, rfl⟩
  obtain ⟨Q, hQ⟩ : ∃ Q, W2.heap.size = Q := ⟨_, rfl⟩
  rw [hQ] at hq HSH HS2
  rw [hP] at q1 ⊢
  have HPQ : Hid (w.heap.size + 1 = P ∧ P < W1.heap.size ∧ W1.heap.size ≤ Q ∧ W1.heap.size = w.heap.size + 2) := ⟨hP, by rw [HZ1.out]; omega, HS2.out, HZ1.out⟩
  have HQ := Hid.mk' hQ
  clear hF hL hN hSg hB2 hT hP hQ
  go_upto_region 2 with fail
  rw [HQ.out]
  obtain ⟨W3, hW3⟩ : ∃ W3, W2.alloc (.cells #[.slice aF T cF, .map (some g)] 46) = W3 := ⟨_, rfl⟩
  have hz3 : W3.heap.size = Q + 1 := by rw [← hW3, ← HQ.out]; simp
  replace HSH : Hid (ShapeS (fun b => W1.heap.size ≤ b ∧ b < Q) W3 (.agg #[.slice aF T cF, .map (some g)]) all) := by rw [← hW3]; exact HSH.out.below ((Below.refl _ _).alloc (Nat.le_refl _) _)
  rw [hW3] at hq hB3 ⊢
  -- what stands whatever comes behind
  have HST : Hid (∀ V, Below W3.heap.size W3 V → V.cell? ⟨P, 0, none⟩ = some (.slice none 0 0) ∧ V.cell? ⟨P, 1, none⟩ = some (.map none) ∧ V.frozen? ⟨P, 0, none⟩ = false ∧ V.frozen? ⟨P, 1, none⟩ = false ∧ V.cell? ⟨Q, 0, none⟩ = some (.slice aF T cF) ∧ V.cell? ⟨Q, 1, none⟩ = some (.map (some g)) ∧ Errs a s V ∧ CoAt V b cs us ∧ ShapeAt V (.agg #[.slice aF T cF, .map (some g)]) all ∧ Below w.heap.size w V) := fun V hV => by
    have hp := HPQ.out
    have h1 : Below W1.heap.size W1 V := hB3.trans (hV.mono (by omega))
    have h2 : Below w.heap.size w V := HB1.out.trans (h1.mono (by omega))
    exact ⟨(h1.cell (p := ⟨P, 0, none⟩) hp.2.1).trans q1.1.1, (h1.cell (p := ⟨P, 1, none⟩) hp.2.1).trans q1.1.2, (h1.frozen (p := ⟨P, 0, none⟩) hp.2.1).trans (q1.2 0), (h1.frozen (p := ⟨P, 1, none⟩) hp.2.1).trans (q1.2 1), (hV.cell (p := ⟨Q, 0, none⟩) (by show Q < _; omega)).trans hq.1.1, (hV.cell (p := ⟨Q, 1, none⟩) (by show Q < _; omega)).trans hq.1.2, HE.out.below h2, HC.out.1.below h2, HSH.out.at.below hV, h2⟩
  have HZ3 := Hid.mk' hz3
  have HGL : Hid (1 < w.heap.size ∧ 3 < w.heap.size) := ⟨cell_lt (HE.out.glob 1 (by decide)), cell_lt (HE.out.glob 3 (by decide))⟩
  clear q1 q2 hq hW3 hB3 hz3
  go_wp2_with fail
  go_loopw [27] (fun p W => ∃ (k : Nat), k ≤ m ∧ p = .int .i64 (k : Int) ∧ Hid (DimsOk T (cs.take k) ∧ Below W3.heap.size W3 W)) (fun p _ => m - (intOf p).toNat)
  case atStart => exact ⟨0, by omega, rfl, fun c hc => by simp at hc, Below.refl _ _⟩
  case round =>
    obtain ⟨k, hk, rfl, HR⟩ := hrel
    by_cases hlt : k < m
    · have hkc : k < cs.length := by rw [HM.out]; exact hlt
      have hs := HST.out wr HR.out.2
      have d1 := hs.2.2.2.2.2.2.2.1.dim k hkc
      have d2 := hs.2.2.2.2.2.2.2.1.lst k hkc
      have hB4 : Below W3.heap.size W3 (wr.alloc (.cells #[.int .i64 (cs[k]?.getD (0, [])).1, us k] 66)) := HR.out.2.alloc HR.out.2.size _
      have hs4 := HST.out _ hB4
      have hx4 := cells_two wr (.int .i64 (cs[k]?.getD (0, [])).1) (us k) 66
      have HA : Hid (0 ≤ (cs[k]?.getD (0, [])).1 ∧ (cs[k]?.getD (0, [])).1 < (T : Int) → DimsOk T (cs.take (k + 1))) := fun h => all_take hkc HR.out.1 h
      have HNO : Hid (DimsOk T cs → 0 ≤ (cs[k]?.getD (0, [])).1 ∧ (cs[k]?.getD (0, [])).1 < (T : Int)) := fun h => h _ (co_mem hkc)
      obtain ⟨x, hx⟩ : ∃ x, (cs[k]?.getD (0, [])).1 = x := ⟨_, rfl⟩
      rw [hx] at d1 hB4 hs4 hx4 HA HNO
      obtain ⟨au, mu, cu, hu⟩ : ∃ a m c, us k = .slice a m c := by obtain ⟨a, c, e, -⟩ := (hs.2.2.2.2.2.2.2.1.ints k hkc).open_; exact ⟨a, _, c, e⟩
      rw [hu] at d2 hB4 hs4 hx4
      clear hx hu hs
      go_upto_region 7 with fail
      obtain ⟨X, hX⟩ : ∃ X, wr.heap.size = X := ⟨_, rfl⟩
      rw [hX]
      rw [hX] at hx4
      obtain ⟨V, hV⟩ : ∃ V, wr.alloc (.cells #[.int .i64 x, .slice au mu cu] 66) = V := ⟨_, rfl⟩
      rw [hV] at hB4 hs4 hx4 ⊢
      obtain ⟨p0, p1, z0, z1, t0, t1, hEV, -, -, hwV⟩ := hs4
      have x0 := hx4.1.1
      have e1 : V.cell? ⟨1, 0, none⟩ = some (.iface 179 (.pointer (some (a 1)))) := hEV.glob 1 (by decide)
      have HBV : Hid (Below W3.heap.size W3 V ∧ Below w.heap.size w V) := ⟨hB4, hwV⟩
      have hnp : P ≠ 1 := by have := HPQ.out.1; have := HGL.out.1; omega
      clear hX hV hB4 hx4 hEV hwV d1 d2 HR
      have HBAD : Hid (∀ W, Below w.heap.size w W → ¬ DimsOk T cs → CoSays a all cs w (.returned (.tuple #[.agg #[.slice none 0 0, .map none], .slice none 0 0, .iface 179 (.pointer (some (a 1)))])) W) := fun W hW h => ⟨hW, .inl ⟨by rw [HT.out]; exact h, rfl⟩⟩
      obtain ⟨ev, hev⟩ : ∃ ev : Addr, a 1 = ev := ⟨_, rfl⟩
      rw [hev] at e1 HBAD
      clear hev
      by_cases h1 : x < 0
      · have h1b : decide (x < 0) = true := decide_eq_true h1
        have HN : Hid (¬ DimsOk T cs) := fun h => by have := HNO.out h; omega
        go_upto_region 8 with fail
        go_region
        all_goals (
          go_wp2_with fail
          refine bodyPost_ret (v := .tuple #[.agg #[.slice none 0 0, .map none], .slice none 0 0, .iface 179 (.pointer (some ev))]) ?_ rfl ?_
          · have c2 := two_set p0 p1 (.slice none 0 0) (.map none)
            simp [results, Tryz.f28, go_sem, c2.1, c2.2]
          · exact HBAD.out _ (by first | exact below_cells2 HBV.out.2 (by have := HPQ.out.1; omega) _ _ | exact below_cells2 HBV.out.2.drew (by have := HPQ.out.1; omega) _ _) HN.out)
      · have h1b : decide (x < 0) = false := decide_eq_false h1
        by_cases h2 : (T : Int) ≤ x
        · have h2b : decide ((T : Int) ≤ x) = true := decide_eq_true h2
          have HN : Hid (¬ DimsOk T cs) := fun h => by have := HNO.out h; omega
          go_upto_region 8 with fail
          go_region
          all_goals (
            go_wp2_with fail
            refine bodyPost_ret (v := .tuple #[.agg #[.slice none 0 0, .map none], .slice none 0 0, .iface 179 (.pointer (some ev))]) ?_ rfl ?_
            · have c2 := two_set p0 p1 (.slice none 0 0) (.map none)
              simp [results, Tryz.f28, go_sem, c2.1, c2.2]
            · exact HBAD.out _ (by first | exact below_cells2 HBV.out.2 (by have := HPQ.out.1; omega) _ _ | exact below_cells2 HBV.out.2.drew (by have := HPQ.out.1; omega) _ _) HN.out)
        · have h2b : decide ((T : Int) ≤ x) = false := decide_eq_false h2
          have HO : Hid (DimsOk T (cs.take (k + 1))) := HA.out ⟨by omega, by omega⟩
          clear HBAD HNO HA
          go_wp2_with fail
          go_roundw
          case rel => exact ⟨k + 1, by omega, by go_num, HO.out, HBV.out.1⟩
          case measure => simp [intOf]; omega
    · have hkm : k = m := by omega
      subst hkm
      have HD : Hid (DimsOk T cs ∧ Below W3.heap.size W3 wr) := by
        have h1 := HR.out
        rw [← HM.out, List.take_length] at h1
        exact h1
      clear HR
      obtain ⟨wo, hwo⟩ : ∃ W, W = wr := ⟨_, rfl⟩
      subst hwo
      go_wp2_with fail
      go_loopw [11, 47] (fun v p W => ∃ (j : Nat), j ≤ k ∧ p = .int .i64 (j : Int) ∧ Hid (ListsOk all (cs.take j) ∧ WordsAt W3.heap.size W v (coN all cs) (coX cs) j ∧ Below W3.heap.size W3 W)) (fun _ p _ => k - (intOf p).toNat)
      case atStart => exact ⟨0, by omega, rfl, fun c hc => by simp at hc, WordsAt.nil _ _ _ _, HD.out.2⟩
      case round =>
        obtain ⟨j, hj, rfl, HR⟩ := hrel
        obtain ⟨av, cv, rfl⟩ : ∃ a c, u11 = .slice a j c := by obtain ⟨ws, o1, -⟩ := HR.out.2.1; exact own_form o1
        by_cases hlt : j < k
        · have hkc : j < cs.length := by rw [HM.out]; exact hlt
          have hs := HST.out wr HR.out.2.2
          have d1 := hs.2.2.2.2.2.2.2.1.dim j hkc
          have d2 := hs.2.2.2.2.2.2.2.1.lst j hkc
          have hdj := HD.out.1 _ (co_mem hkc)
          have hcj := HC.out.2 _ (co_mem hkc)
          have HA : Hid (OkCo (ofDim all (cs[j]?.getD (0, [])).1).length (cs[j]?.getD (0, [])).2 → ListsOk all (cs.take (j + 1))) := fun h => all_take (p := fun c : Co => OkCo (ofDim all c.1).length c.2) hkc HR.out.1 h
          have HNO : Hid (ListsOk all cs → OkCo (ofDim all (cs[j]?.getD (0, [])).1).length (cs[j]?.getD (0, [])).2) := fun h => h _ (co_mem hkc)
          have HNX : Hid (coN all cs j = (ofDim all (cs[j]?.getD (0, [])).1).length ∧ coX cs j = maskN (cs[j]?.getD (0, [])).2) := ⟨rfl, rfl⟩
          have hB4 : Below W3.heap.size W3 (wr.alloc (.cells #[.int .i64 (cs[j]?.getD (0, [])).1, us j] 66)) := HR.out.2.2.alloc HR.out.2.2.size _
          have hs4 := HST.out _ hB4
          have hx4 := cells_two wr (.int .i64 (cs[j]?.getD (0, [])).1) (us j) 66
          have hin4 := hs4.2.2.2.2.2.2.2.1.ints j hkc
          obtain ⟨y, hy⟩ : ∃ y, (cs[j]?.getD (0, [])).1 = y := ⟨_, rfl⟩
          obtain ⟨f, hf⟩ : ∃ f, (cs[j]?.getD (0, [])).2 = f := ⟨_, rfl⟩
          rw [hy] at d1 hB4 hs4 hx4 HA HNO HNX hdj hin4
          rw [hf] at HA HNO HNX hcj hin4
          obtain ⟨d, rfl⟩ : ∃ d : Nat, y = (d : Int) := ⟨y.toNat, by omega⟩
          obtain ⟨au, mu, cu, hu⟩ : ∃ a m c, us j = .slice a m c := by obtain ⟨a, c, e, -⟩ := hin4.open_; exact ⟨a, _, c, e⟩
          rw [hu] at d2 hB4 hs4 hx4 hin4
          have hn6 : (ofDim all (d : Int)).length ≤ 60 := Nat.le_trans (ofDim_length _ _) H60.out
          obtain ⟨V, hV⟩ : ∃ V, wr.alloc (.cells #[.int .i64 (d : Int), .slice au mu cu] 66) = V := ⟨_, rfl⟩
          have HV := Hid.mk' hV
          rw [hV] at hB4 hs4 hx4 hin4
          obtain ⟨X, hX⟩ : ∃ X, wr.heap.size = X := ⟨_, rfl⟩
          have HXX := Hid.mk' hX
          rw [hX] at hx4
          have hXV : X < V.heap.size := by rw [← hV, ← hX]; simp
          obtain ⟨p0, p1, z0, z1, t0, t1, hEV, -, hSV, hwV⟩ := hs4
          have x0 := hx4.1.1
          have x1 := hx4.1.2
          have e3 : V.cell? ⟨3, 0, none⟩ = some (.iface 179 (.pointer (some (a 3)))) := hEV.glob 3 (by decide)
          have HVW : Hid (WordsAt W3.heap.size V (.slice av j cv) (coN all cs) (coX cs) j ∧ Below W3.heap.size W3 V ∧ Below w.heap.size w V ∧ Below V.heap.size V V) := ⟨by rw [← hV]; exact HR.out.2.1.below ((Below.refl _ _).alloc (Nat.le_refl _) _), hB4, hwV, Below.refl _ _⟩
          have HCN : Hid (∀ V', Below V.heap.size V V' → Calls Tryz.prog 50 #[.agg #[.slice aF T cF, .map (some g)], .int .i64 (d : Int)] V' fun e w' => e = .returned (.int .i64 ((ofDim all (d : Int)).length : Int)) ∧ Below V'.heap.size V' w') := fun V' hV' => count_ _ all d (by omega) (by rw [HT.out]; exact h7) V' (hSV.below hV')
          have HRO : Hid (∀ V', Below V.heap.size V V' → Calls Tryz.prog 49 #[.int .i64 ((ofDim all (d : Int)).length : Int), .slice au mu cu] V' fun e w' => Below V'.heap.size V' w' ∧ ((OkCo (ofDim all (d : Int)).length f ∧ ∃ v, e = .returned (.tuple #[v, .bool true]) ∧ WordIn (fun b => V'.heap.size ≤ b) w' v (ofDim all (d : Int)).length (maskN f)) ∨ (¬ OkCo (ofDim all (d : Int)).length f ∧ e = .returned (.tuple #[.slice none 0 0, .bool false])))) := fun V' hV' => rowOf_ _ _ hn6 f V' (hin4.below hV') hcj
          obtain ⟨n, hn⟩ : ∃ n, (ofDim all (d : Int)).length = n := ⟨_, rfl⟩
          rw [hn] at HA HNO HNX HCN HRO hn6
          have HL3 : Hid (∀ W, Below V.heap.size V W → W.cell? ⟨X, 1, none⟩ = some (.slice au mu cu) ∧ W.cell? ⟨P, 0, none⟩ = some (.slice none 0 0) ∧ W.cell? ⟨P, 1, none⟩ = some (.map none) ∧ W.frozen? ⟨P, 0, none⟩ = false ∧ W.frozen? ⟨P, 1, none⟩ = false ∧ W.cell? ⟨3, 0, none⟩ = some (.iface 179 (.pointer (some (a 3)))) ∧ Below w.heap.size w W) := fun W hW => by
            have hPV : P < V.heap.size := cell_lt (p := ⟨P, 0, none⟩) p0
            exact ⟨(hW.cell (p := ⟨X, 1, none⟩) hXV).trans x1, (hW.cell (p := ⟨P, 0, none⟩) hPV).trans p0, (hW.cell (p := ⟨P, 1, none⟩) hPV).trans p1, (hW.frozen (p := ⟨P, 0, none⟩) hPV).trans z0, (hW.frozen (p := ⟨P, 1, none⟩) hPV).trans z1, (hW.cell (p := ⟨3, 0, none⟩) (cell_lt (p := ⟨3, 0, none⟩) e3)).trans e3, hwV.trans (hW.mono hwV.size)⟩
          have hnp : P ≠ 3 := by have := HPQ.out.1; have := HGL.out.2; omega
          have hj100 : j ≤ 100 := by omega
          clear hy hf hu hs hB4 hx4 hin4 hEV hSV hwV hV hX hn hdj hcj hXV p0 p1 z0 z1 e3
          replace HRO : Hid (∀ V', Below V.heap.size V V' → Calls Tryz.prog 49 #[.int .i64 (n : Int), .slice au mu cu] V' fun e w' => ∃ ar mr cr q, e = .returned (.tuple #[.slice ar mr cr, .bool q]) ∧ RoSays V w' (.slice ar mr cr) n f q) := fun V' hV' => (HRO.out V' hV').mono fun e w' h => by
            rcases h with ⟨h1, ⟨h0, v, rfl, h2⟩ | ⟨h2, rfl⟩⟩
            · obtain ⟨ar, mr, cr, rfl⟩ := h2.form
              exact ⟨ar, mr, cr, true, rfl, hV'.trans (h1.mono hV'.size), .inl ⟨rfl, h0, h2.mono (fun b _ h => by have := hV'.size; omega)⟩⟩
            · exact ⟨_, _, _, false, rfl, hV'.trans (h1.mono hV'.size), .inr ⟨rfl, h2⟩⟩
          obtain ⟨ev, hev⟩ : ∃ ev : Addr, a 3 = ev := ⟨_, rfl⟩
          have HEV := Hid.mk' hev
          rw [hev] at HL3
          clear hev
          go_upto_region 14 with fail
          rw [HV.out, HXX.out]
          go_cut [14, 15] from 51 to 60 (fun c d wx => ∃ ar mr cr q, c = .slice ar mr cr ∧ d = .bool q ∧ Hid (RoSays V wx (.slice ar mr cr) n f q))
          case first =>
            go_wp2_with fail
            go_region_with (first
              | (go_at_call 50; refine (HCN.out _ (by first | exact HVW.out.2.2.2 | exact HVW.out.2.2.2.drew)).mono ?_; rintro e Vc ⟨rfl, hVc⟩; have HVc : Hid (Below V.heap.size V Vc) := (by first | exact HVW.out.2.2.2.trans hVc | exact HVW.out.2.2.2.drew.trans hVc); have x1c := (HL3.out Vc HVc.out).1; clear hVc)
              | (go_at_call 49; refine (HRO.out _ HVc.out).mono ?_; rintro e Vr ⟨ar, mr, cr, q, rfl, hr⟩; have HRQ : Hid (RoSays V Vr (.slice ar mr cr) n f q) := hr; clear hr))
            all_goals go_wp2_with fail
            all_goals go_meet
            all_goals exact ⟨_, _, _, _, rfl, rfl, HRQ.out⟩
          obtain ⟨ar, mr, cr, q, rfl, rfl, HRQ⟩ := hcut
          obtain ⟨Vr, hVr⟩ : ∃ W, W = wc := ⟨_, rfl⟩
          subst hVr
          cases q with
          | true =>
            have hok : OkCo n f := HRQ.out.yes.1
            have HRR : Hid (WordIn (fun b => V.heap.size ≤ b) Vr (.slice ar mr cr) n (maskN f) ∧ Below V.heap.size V Vr) := ⟨HRQ.out.yes.2, HRQ.out.1⟩
            have HO : Hid (ListsOk all (cs.take (j + 1))) := HA.out hok
            clear HA HNO hok HRQ
            obtain ⟨ws, o1, o2⟩ := HVW.out.1.below HRR.out.2
            have HOW := Hid.mk' (And.intro o1 o2)
            have HB5 : Hid (Below W3.heap.size W3 Vr) := HVW.out.2.1.trans (HRR.out.2.mono HVW.out.2.1.size)
            clear o1 o2
            go_upto_region 18 with (first
              | (at_builtin; refine wpList_append_slice rfl (.tmp 65) (.tmp 67) 50 rfl W3.heap.size 68 i0 (.slice none 0 0) 24 Tryz.underlying50 hi hy0 hy1 hy2 rfl _ _ _ rfl (HOW.out.1.alloc _) _ [.slice ar mr cr] rfl (slice_one _ _ _) (by simp [Value.oneCell']) (by simp; omega) (by unfold maxLen; simp; omega) (by have := HB5.out.size; simp; omega) ?_; intro v6 w6 hown6 hg6 hl6; replace hown6 : w6.ownsRow W3.heap.size 68 1 v6 (j + 1) (ws ++ [.slice ar mr cr]) := hown6; obtain ⟨a6, c6, rfl⟩ := own_form hown6)
              | fail)
            have HE6 : Hid (WordsAt W3.heap.size w6 (.slice a6 (j + 1) c6) (coN all cs) (coX cs) (j + 1) ∧ Below W3.heap.size W3 w6) := by
              refine ⟨WordsAt.push HOW.out.1 HOW.out.2 ?_ hown6 hg6 hl6, (HB5.out.alloc HB5.out.size _).grown hg6 (by have := HB5.out.size; simp; omega) (fun i hi => by have := (HOW.out.1.lt i hi).1; omega)⟩
              rw [HNX.out.1, HNX.out.2]
              refine HRR.out.1.mono (fun i _ hi => ⟨by have := HVW.out.2.1.size; omega, fun e => ?_⟩)
              obtain ⟨ws', q1, -⟩ := HVW.out.1
              have := (q1.lt i e.symm).2
              omega
            clear hown6 hg6 hl6 HOW HR HRR
            go_wp2_with fail
            go_roundw
            case rel => exact ⟨j + 1, by omega, by go_num, HO.out, HE6.out.1, HE6.out.2⟩
            case measure => simp [intOf]; omega
          | false =>
            have HN : Hid (¬ ListsOk all cs) := fun h => HRQ.out.no (HNO.out h)
            have HRR : Hid (Below V.heap.size V Vr) := HRQ.out.1
            have HBAD : Hid (∀ W, Below w.heap.size w W → CoSays a all cs w (.returned (.tuple #[.agg #[.slice none 0 0, .map none], .slice none 0 0, .iface 179 (.pointer (some ev))])) W) := fun W hW => ⟨hW, .inr (.inl ⟨by rw [HT.out]; exact HD.out.1, HN.out, by rw [HEV.out]⟩)⟩
            clear HA HNO HRQ
            obtain ⟨-, p0, p1, z0, z1, e3, hwr⟩ := HL3.out Vr HRR.out
            have HWR := Hid.mk' hwr
            clear hwr HRR
            go_upto_region 16 with fail
            go_region
            all_goals (
              go_wp2_with fail
              refine bodyPost_ret (v := .tuple #[.agg #[.slice none 0 0, .map none], .slice none 0 0, .iface 179 (.pointer (some ev))]) ?_ rfl ?_
              · have c2 := two_set p0 p1 (.slice none 0 0) (.map none)
                simp [results, Tryz.f28, go_sem, c2.1, c2.2]
              · exact HBAD.out _ (by first | exact below_cells2 HWR.out (by have := HPQ.out.1; omega) _ _ | exact below_cells2 HWR.out.drew (by have := HPQ.out.1; omega) _ _))
        · have hkm : j = k := by omega
          subst hkm
          have HLO : Hid (ListsOk all cs) := by
            have h1 := HR.out.1
            rw [← HM.out, List.take_length] at h1
            exact h1
          obtain ⟨p0, p1, z0, z1, t0, t1, -, -, -, hwV⟩ := HST.out wr HR.out.2.2
          have HWV := Hid.mk' hwV
          clear hwV
          go_wp2_with fail
          refine bodyPost_ret (v := .tuple #[.agg #[.slice aF T cF, .map (some g)], .slice av j cv, .nilIface]) ?_ rfl ?_
          · have c2 := two_set p0 p1 (.slice aF T cF) (.map (some g))
            simp [results, Tryz.f28, go_sem, c2.1, c2.2]
          · have g0 := grown_word wr ⟨P, 0, none⟩ (.slice aF T cF)
            have g1 := grown_word (wr.setCell ⟨P, 0, none⟩ (.slice aF T cF)) ⟨P, 1, none⟩ (.map (some g))
            have hp := HPQ.out
            have hz := HZ3.out
            refine ⟨below_cells2 HWV.out (by omega) _ _, .inr (.inr ⟨by rw [HT.out]; exact HD.out.1, HLO.out, W3.heap.size, _, _, rfl, by omega, ?_, ?_, ?_⟩)⟩
            · have := HR.out.2.2.size; simp; omega
            · have h1 := ((HSH.out.below HR.out.2.2).kept g0 (fun i hi e => by have h1 : W1.heap.size ≤ i ∧ i < Q := hi; have h2 : i = P := Option.some.inj e; omega)).kept g1 (fun i hi e => by have h1 : W1.heap.size ≤ i ∧ i < Q := hi; have h2 : i = P := Option.some.inj e; omega)
              exact h1.mono (fun i _ hi => by show i < W3.heap.size; omega)
            · rw [HM.out]
              exact (HR.out.2.1.kept g0 (fun i hi e => by have h2 : i = P := Option.some.inj e; omega)).kept g1 (fun i hi e => by have h2 : i = P := Option.some.inj e; omega)

end Go.Proofs.YtldknhganoiajaaGreatDoor
