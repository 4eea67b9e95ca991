/- What fault labels have, by the reference. -/
import Derived.Test.YtbohobelbgbibaaDoorLabFull
namespace Go.Proofs.YtbohobelbgbibaaDoor
open Go.RowKit Go.Sort

/-- May a label stand at a point? -/
def labOk (s : Spt) (x : Int) : Prop := (x = 0 ∧ 0 < s.1) ∨ (x = 1 ∧ 0 < s.2.1) ∨ (x = 2 ∧ 0 < s.2.2)
def goodAt (l : List Spt) (ls : List Int) (i : Nat) : Prop := labOk (l[i]?.getD (0, 0, 0)) (labA ls i)
/-- The fault of labels: its number and its place. -/
def FaultIs (n : Int) (ls : List Int) (c p : Int) : Prop :=
  ((n < 1 ∨ 12 < n) ∧ c = 2 ∧ p = -1) ∨ ((1 ≤ n ∧ n ≤ 12) ∧ (((spotsL n.toNat).length ≠ ls.length ∧ c = 3 ∧ p = -1) ∨ ((spotsL n.toNat).length = ls.length ∧ ((∃ i, i < ls.length ∧ (∀ j, j < i → goodAt (spotsL n.toNat) ls j) ∧ ¬ goodAt (spotsL n.toNat) ls i ∧ c = 8 ∧ p = (i : Int)) ∨ ((∀ j, j < ls.length → goodAt (spotsL n.toNat) ls j) ∧ c = 0 ∧ p = -1)))))

theorem two_put {W : World} {R : Nat} {p q : Value} (h0 : W.cell? ⟨R, 0, none⟩ = some p) (h1 : W.cell? ⟨R, 1, none⟩ = some q) (x y : Value) : ((W.setCell ⟨R, 0, none⟩ x).setCell ⟨R, 1, none⟩ y).cell? ⟨R, 0, none⟩ = some x ∧ ((W.setCell ⟨R, 0, none⟩ x).setCell ⟨R, 1, none⟩ y).cell? ⟨R, 1, none⟩ = some y := by
  have hne : (⟨R, 0, none⟩ : Addr) ≠ ⟨R, 1, none⟩ := fun e => by cases e
  have k0 := World.cell?_setCell_same' W ⟨R, 0, none⟩ x (by rw [h0]; rfl)
  have k1 : (W.setCell ⟨R, 0, none⟩ x).cell? ⟨R, 1, none⟩ = some q := by rw [World.cell?_setCell_other W ⟨R, 0, none⟩ ⟨R, 1, none⟩ x hne]; exact h1
  exact ⟨by rw [World.cell?_setCell_other _ ⟨R, 1, none⟩ ⟨R, 0, none⟩ y hne.symm]; exact k0, World.cell?_setCell_same' _ ⟨R, 1, none⟩ y (by rw [k1]; rfl)⟩

set_option maxRecDepth 100000 in
set_option maxHeartbeats 4000000 in
theorem labelFault_ {ls : List Int} (n : Int) (vl : Value) (w : World) (hl : Ints w vl ls) (h9 : ls.length ≤ 1000) :
    Calls Tryd.prog 12 #[.int .i64 n, vl] w fun e w' => ∃ c p, e = .returned (.agg #[.int .i64 c, .int .i64 p]) ∧ FaultIs n ls c p ∧ Below w.heap.size w w' := by
  have HLS := Hid.mk' hl
  obtain ⟨al, cl, rfl, -, -⟩ := hl.open_
  have hB0 : Below w.heap.size w (w.alloc (.cells #[.int .i64 0, .int .i64 0] 38)) := (Below.refl _ w).alloc (Nat.le_refl _) _
  have hnew := cells_new w [.int .i64 0, .int .i64 0] 38
  have q0 := hnew 0 _ rfl
  have q1 := hnew 1 _ rfl
  rw [Addr.add_lit, Nat.zero_add] at q0 q1
  by_cases hr : n < 1 ∨ 12 < n
  · have HF : Hid (FaultIs n ls 2 (-1)) := .inl ⟨hr, rfl, rfl⟩
    have HB : Hid (Below w.heap.size w (w.alloc (.cells #[.int .i64 2, .int .i64 (-1)] 38))) := (Below.refl _ w).alloc (Nat.le_refl _) _
    have hn2 := cells_new w [.int .i64 2, .int .i64 (-1)] 38
    have r0 := hn2 0 _ rfl
    have r1 := hn2 1 _ rfl
    rw [Addr.add_lit, Nat.zero_add] at r0 r1
    obtain ⟨m, hm⟩ : ∃ m, ls.length = m := ⟨_, rfl⟩
    rw [hm]
    clear hl hB0 hnew hn2 hm
    by_cases h1 : n < 1
    · go_enter Tryd.func12, Tryd.ntmps12
      go_wp2_with fail
      refine bodyPost_ret (v := .agg #[.int .i64 2, .int .i64 (-1)]) ?_ rfl ⟨2, -1, rfl, HF.out, HB.out⟩
      simp [results, Tryd.f12, go_sem, r0, r1]
    · have h2 : 12 < n := by omega
      go_enter Tryd.func12, Tryd.ntmps12
      go_wp2_with fail
      refine bodyPost_ret (v := .agg #[.int .i64 2, .int .i64 (-1)]) ?_ rfl ⟨2, -1, rfl, HF.out, HB.out⟩
      simp [results, Tryd.f12, go_sem, r0, r1]
  · obtain ⟨k, rfl⟩ : ∃ k : Nat, n = (k : Int) := ⟨n.toNat, by omega⟩
    have hk1 : 1 ≤ k := by omega
    have hk12 : k ≤ 12 := by omega
    have hz1 : ∀ t, (w.alloc (.cells #[.int .i64 0, .int .i64 0] 38)).frozen? ⟨w.heap.size, t, none⟩ = false := fun t => by simp
    obtain ⟨W0, hW0⟩ : ∃ W0, w.alloc (.cells #[.int .i64 0, .int .i64 0] 38) = W0 := ⟨_, rfl⟩
    obtain ⟨fb, hfb⟩ : ∃ fb, w.heap.size = fb := ⟨_, rfl⟩
    rw [show (List.toArray [Value.int .i64 0, .int .i64 0]) = #[.int .i64 0, .int .i64 0] from rfl, hW0, hfb] at q0 q1
    rw [hW0, hfb] at hz1
    rw [hW0] at hB0
    have HG : Hid (w.alloc (.cells #[.int .i64 0, .int .i64 0] 38) = W0 ∧ w.heap.size = fb) := ⟨hW0, hfb⟩
    have HBX : Hid (∀ V, Below W0.heap.size W0 V → V.cell? ⟨fb, 0, none⟩ = some (.int .i64 0) ∧ V.cell? ⟨fb, 1, none⟩ = some (.int .i64 0) ∧ V.frozen? ⟨fb, 0, none⟩ = false ∧ V.frozen? ⟨fb, 1, none⟩ = false ∧ ∀ x y, Below w.heap.size w ((V.setCell ⟨fb, 0, none⟩ x).setCell ⟨fb, 1, none⟩ y)) := fun V hV => by
      have hs : fb < W0.heap.size := cell_lt q0
      refine ⟨(hV.cell (p := ⟨fb, 0, none⟩) hs).trans q0, (hV.cell (p := ⟨fb, 1, none⟩) hs).trans q1, (World.frozen?_of_block (a := ⟨fb, 0, none⟩) (hV.block fb hs)).trans (hz1 0), (World.frozen?_of_block (a := ⟨fb, 1, none⟩) (hV.block fb hs)).trans (hz1 1), fun x y => ?_⟩
      exact ((hB0.trans (hV.mono hB0.size)).setCell (p := ⟨fb, 0, none⟩) (by rw [← hfb]; exact Nat.le_refl _) _).setCell (p := ⟨fb, 1, none⟩) (by rw [← hfb]; exact Nat.le_refl _) _
    have HLV : Hid (∀ V, Below W0.heap.size W0 V → Ints V (.slice al ls.length cl) ls) := fun V hV => (HLS.out.below hB0).below hV
    have hsp := spots_ k hk12 W0
    obtain ⟨l, hle⟩ : ∃ l, spotsL k = l := ⟨_, rfl⟩
    have HSL : Hid (spotsL k = l ∧ ∀ c p, (((l.length ≠ ls.length ∧ c = 3 ∧ p = -1) ∨ (l.length = ls.length ∧ ((∃ i, i < ls.length ∧ (∀ j, j < i → goodAt l ls j) ∧ ¬ goodAt l ls i ∧ c = 8 ∧ p = (i : Int)) ∨ ((∀ j, j < ls.length → goodAt l ls j) ∧ c = 0 ∧ p = -1)))) → FaultIs (k : Int) ls c p)) := ⟨hle, fun c p h => .inr ⟨by omega, by rw [Int.toNat_natCast, hle]; exact h⟩⟩
    have h91 := (spots_few k hk12)
    rw [hle] at hsp h91
    have hL91 : l.length ≤ 91 := by omega
    obtain ⟨L, hLL⟩ : ∃ L, l.length = L := ⟨_, rfl⟩
    have HLL : Hid (l.length = L) := hLL
    obtain ⟨m, hm⟩ : ∃ m, ls.length = m := ⟨_, rfl⟩
    have HM : Hid (ls.length = m) := hm
    rw [hLL] at hL91
    rw [hm] at h9 ⊢
    clear hl hnew hW0 hfb hle h91 hLL hm q0 q1 hz1 hr
    go_enter Tryd.func12, Tryd.ntmps12
    go_upto_region 1 with fail
    rw [HG.out.1, HG.out.2]
    go_upto_region 4 with (go_at_call 11; refine hsp.mono ?_; rintro e V ⟨v, rfl, hr, hb⟩; have H1 := Hid.mk' (And.intro hr hb); obtain ⟨sa, cs, rfl⟩ := hr.form; clear hr hb hsp)
    rw [HLL.out] at H1 ⊢
    obtain ⟨f0, f1, g0, g1, hBF⟩ := HBX.out V H1.out.2
    by_cases hne : L = m
    · subst hne
      have HB := Hid.mk' hBF
      have HK0 := Hid.mk' (And.intro f0 f1)
      clear hBF
      have HE : Hid (∀ c p, ((∃ i, i < L ∧ (∀ j, j < i → goodAt l ls j) ∧ ¬ goodAt l ls i ∧ c = 8 ∧ p = (i : Int)) ∨ ((∀ j, j < L → goodAt l ls j) ∧ c = 0 ∧ p = -1)) → FaultIs (k : Int) ls c p) := fun c p h => HSL.out.2 c p (.inr ⟨by rw [HLL.out, HM.out], by rw [HM.out]; exact h⟩)
      go_wp2_with fail
      go_loopw [6] (fun p W => ∃ i : Nat, i ≤ L ∧ p = .int .i64 (i : Int) ∧ Hid (W = V ∧ ∀ j, j < i → goodAt l ls j)) (fun p _ => L - (intOf p).toNat)
      case atStart => exact ⟨0, by omega, rfl, rfl, fun j hj => by omega⟩
      case round =>
        obtain ⟨i, hi, rfl, HI⟩ := hrel
        obtain ⟨hwe, hgo⟩ := HI.out
        subst hwe
        have HGO := Hid.mk' hgo
        clear hgo HI
        by_cases hiL : i < L
        · obtain ⟨s1, hs1⟩ : ∃ s1, l[i]? = some s1 := ⟨_, List.getElem?_eq_getElem (by rw [HLL.out]; exact hiL)⟩
          obtain ⟨gs, hgs⟩ : ∃ gs, sa = some ⟨gs, 0, none⟩ := by
            have h8 : wr.ownsRow W0.heap.size 48 3 (.slice sa L cs) l.length (spotCells l) := H1.out.1
            obtain ⟨g, c, e, -⟩ := h8.form (by rw [HLL.out]; omega)
            cases e
            exact ⟨g, rfl⟩
          subst hgs
          have h8 : SpotRow W0.heap.size wr (.slice (some ⟨gs, 0, none⟩) l.length cs) l := by rw [HLL.out]; exact H1.out.1
          obtain ⟨c1, c2, c3⟩ := h8.cells hs1
          obtain ⟨a', c', ea, -, hx⟩ := (HLV.out wr H1.out.2).open_
          rw [HM.out] at ea hx
          cases ea
          obtain ⟨b, off, rfl, -, -, hcell⟩ := hx (by omega)
          have cx := hcell i hiL
          obtain ⟨x, hxx⟩ : ∃ x, ls[i]?.getD 0 = x := ⟨_, rfl⟩
          rw [hxx] at cx
          obtain ⟨s11, s12, s13⟩ := s1
          dsimp only at c1 c2 c3
          have HGA : Hid (goodAt l ls i ↔ ((x = 0 ∧ 0 < s11) ∨ (x = 1 ∧ 0 < s12) ∨ (x = 2 ∧ 0 < s13))) := by
            show _ ↔ _
            unfold goodAt labOk labA
            rw [hs1, hxx]; rfl
          have HNO : Hid (¬ ((x = 0 ∧ 0 < s11) ∨ (x = 1 ∧ 0 < s12) ∨ (x = 2 ∧ 0 < s13)) → FaultIs (k : Int) ls 8 (i : Int)) := fun h => HE.out 8 (i : Int) (.inl ⟨i, hiL, HGO.out, fun h2 => h (HGA.out.1 h2), rfl, rfl⟩)
          have HYE : Hid (((x = 0 ∧ 0 < s11) ∨ (x = 1 ∧ 0 < s12) ∨ (x = 2 ∧ 0 < s13)) → ∀ j, j < i + 1 → goodAt l ls j) := fun h j hj => by
            rcases Nat.lt_or_ge j i with h1 | h1
            · exact HGO.out j h1
            · obtain rfl : j = i := by omega
              exact HGA.out.2 h
          have hk := two_put HK0.out.1 HK0.out.2 (.int .i64 8) (.int .i64 (i : Int))
          have y0 : (0 : Int) ≤ (i : Int) := by omega
          have y1 : (i : Int) < (L : Int) := by omega
          clear hs1 h8 hx hcell hxx
          by_cases x0 : x = 0
          · subst x0
            by_cases hp : 0 < s11
            · have hp1 : (0 : Int) < (s11 : Int) := by omega
              go_wp2_with fail
              go_roundw
              case rel => exact ⟨i + 1, by omega, by go_num, by trivial, HYE.out (.inl ⟨rfl, hp⟩)⟩
              case measure => simp [intOf]; omega
            · obtain rfl : s11 = 0 := by omega
              have HF := Hid.mk' (HNO.out (by omega))
              go_wp2_with fail
              refine bodyPost_ret (v := .agg #[.int .i64 8, .int .i64 (i : Int)]) ?_ rfl ⟨8, (i : Int), rfl, HF.out, HB.out _ _⟩
              simp [results, Tryd.f12, go_sem, hk.1, hk.2]
          · have b0 : (x == 0) = false := beq_false_of_ne x0
            by_cases x1 : x = 1
            · subst x1
              by_cases hp : 0 < s12
              · have hp1 : (0 : Int) < (s12 : Int) := by omega
                go_wp2_with fail
                go_roundw
                case rel => exact ⟨i + 1, by omega, by go_num, by trivial, HYE.out (.inr (.inl ⟨rfl, hp⟩))⟩
                case measure => simp [intOf]; omega
              · obtain rfl : s12 = 0 := by omega
                have HF := Hid.mk' (HNO.out (by omega))
                go_wp2_with fail
                refine bodyPost_ret (v := .agg #[.int .i64 8, .int .i64 (i : Int)]) ?_ rfl ⟨8, (i : Int), rfl, HF.out, HB.out _ _⟩
                simp [results, Tryd.f12, go_sem, hk.1, hk.2]
            · have b1 : (x == 1) = false := beq_false_of_ne x1
              by_cases x2 : x = 2
              · subst x2
                by_cases hp : 0 < s13
                · have hp1 : (0 : Int) < (s13 : Int) := by omega
                  go_wp2_with fail
                  go_roundw
                  case rel => exact ⟨i + 1, by omega, by go_num, by trivial, HYE.out (.inr (.inr ⟨rfl, hp⟩))⟩
                  case measure => simp [intOf]; omega
                · obtain rfl : s13 = 0 := by omega
                  have HF := Hid.mk' (HNO.out (by omega))
                  go_wp2_with fail
                  refine bodyPost_ret (v := .agg #[.int .i64 8, .int .i64 (i : Int)]) ?_ rfl ⟨8, (i : Int), rfl, HF.out, HB.out _ _⟩
                  simp [results, Tryd.f12, go_sem, hk.1, hk.2]
              · have b2 : (x == 2) = false := beq_false_of_ne x2
                have HF := Hid.mk' (HNO.out (by omega))
                go_wp2_with fail
                refine bodyPost_ret (v := .agg #[.int .i64 8, .int .i64 (i : Int)]) ?_ rfl ⟨8, (i : Int), rfl, HF.out, HB.out _ _⟩
                simp [results, Tryd.f12, go_sem, hk.1, hk.2]
        · obtain rfl : i = L := by omega
          have HF := Hid.mk' (HE.out 0 (-1) (.inr ⟨HGO.out, rfl, rfl⟩))
          have hk := two_put HK0.out.1 HK0.out.2 (.int .i64 0) (.int .i64 (-1))
          go_wp2_with fail
          refine bodyPost_ret (v := .agg #[.int .i64 0, .int .i64 (-1)]) ?_ rfl ⟨0, -1, rfl, HF.out, HB.out _ _⟩
          simp [results, Tryd.f12, go_sem, hk.1, hk.2]
    · have HF := Hid.mk' (HSL.out.2 3 (-1) (.inl ⟨by rw [HLL.out, HM.out]; exact hne, rfl, rfl⟩))
      have hk := two_put f0 f1 (.int .i64 3) (.int .i64 (-1))
      have HB := Hid.mk' (hBF (.int .i64 3) (.int .i64 (-1)))
      have hb1 : ((L : Int) != (m : Int)) = true := by simp; omega
      have hb2 : ((L : Int) == (m : Int)) = false := beq_false_of_ne (by omega)
      clear hBF
      go_wp2_with fail
      refine bodyPost_ret (v := .agg #[.int .i64 3, .int .i64 (-1)]) ?_ rfl ⟨3, -1, rfl, HF.out, HB.out⟩
      simp [results, Tryd.f12, go_sem, hk.1, hk.2]

end Go.Proofs.YtbohobelbgbibaaDoor
