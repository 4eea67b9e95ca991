/- CellsEuler answers true of whatever two lists of sets, face and vertex. -/
import Derived.Test.YtkmecdgnoemimaaDoorEulerMath2
import Derived.Test.YtkmecdgnoemimaaDoorFaceText
import Derived.Test.YtkmecdgnoemimaaDoorConcat
import Derived.Test.YtkmecdgnoemimaaDoorConeCalls
import Derived.Test.YtkmecdgnoemimaaDoorProductCall
import Derived.Test.YtkmecdgnoemimaaDoorRefJoin
import Derived.Test.YtkmecdgnoemimaaDoorCircleWalk
import Derived.Deep.DeepCutAuto
namespace Go.Proofs.YtkmecdgnoemimaaDoor
open Go.RowKit Go.Sort Go.Maps Go.Deep

theorem euler_ok {a : Nat → Addr} {s : Nat → ByteArray} (vl : Value) (l all : List (List Int)) (g : Good l all) (w : World) (hE : Errs a s w) (hl : Rows w vl l) (hll : l.length ≤ 100000) (hle : ∀ x ∈ l, x.length ≤ 1000) :
    Calls Tryd.prog 15 #[.agg #[vl]] w fun e w' => e = .returned (.tuple #[.int .i64 (eulerOf all), .nilIface]) ∧ Below w.heap.size w w' := by
  refine (euler_call vl l w hE hl hll hle).mono ?_
  rintro e w' ⟨hB, ⟨i, hb, rfl⟩ | ⟨all', g', rfl⟩⟩
  · exact (bad_good hb g).elim
  · rw [good_one g g']; exact ⟨rfl, hB⟩

/-- An error's value, or none and what is told then. -/
def ErrOr (a : Nat → Addr) (ve : Value) (P : Prop) : Prop := (ve = .nilIface ∧ P) ∨ ∃ i, ve = .iface 165 (.pointer (some (a i)))
/-- A call that answers with a complex: its facets in new memory, and an error's value or what is told then. -/
def MadeOr (a : Nat → Addr) (w : World) (e : Ending) (w' : World) (P : List (List Int) → Prop) : Prop :=
  ∃ v L ve, e = .returned (.tuple #[.agg #[v], ve]) ∧ OwnRows w.heap.size w' v L ∧ Below w.heap.size w w' ∧ ErrOr a ve (P L)
theorem two_or {a : Nat → Addr} {l m p q : List (List Int)} {sets : List (List Int) → List (List Int) → List (List Int)} {w w' : World} {e : Ending} (g1 : Good l p) (g2 : Good m q) (h : TwoG a l m sets w e w') :
    MadeOr a w e w' (fun L => (∀ x ∈ sets p q, SetOk x) ∧ ¬ Over (sets p q) ∧ IsFacets (sets p q) L) := by
  obtain ⟨hB, ⟨i, hj, rfl⟩ | ⟨p', q', hg, hc⟩⟩ := h
  · exact (jerr_not hj ⟨g1, g2⟩).elim
  · obtain rfl := good_one g1 hg.1
    obtain rfl := good_one g2 hg.2
    rcases hc with ⟨hn, rfl⟩ | ⟨hn, ho, rfl⟩ | ⟨hn, ho, v, L, hL, rfl, hown⟩
    · exact ⟨_, [], _, rfl, OwnRows.nil _ _, hB, .inr ⟨_, rfl⟩⟩
    · exact ⟨_, [], _, rfl, OwnRows.nil _ _, hB, .inr ⟨_, rfl⟩⟩
    · exact ⟨v, L, _, rfl, hown, hB, .inl ⟨rfl, hn, ho, hL⟩⟩
theorem prod_or {a : Nat → Addr} {l m p q : List (List Int)} {w w' : World} {e : Ending} (g1 : Good l p) (g2 : Good m q) (h : ProdG a l m w e w') :
    MadeOr a w e w' (fun L => (vertI p).length * (vertI q).length ≤ 100 ∧ ¬ Over (prodS p q) ∧ IsFacets (prodS p q) L) := by
  obtain ⟨hB, ⟨i, hj, rfl⟩ | ⟨p', q', hg, hc⟩⟩ := h
  · exact (jerr_not hj ⟨g1, g2⟩).elim
  · obtain rfl := good_one g1 hg.1
    obtain rfl := good_one g2 hg.2
    rcases hc with ⟨hn, rfl⟩ | ⟨hn, ho, rfl⟩ | ⟨hn, ho, v, L, hL, rfl, hown⟩
    · exact ⟨_, [], _, rfl, OwnRows.nil _ _, hB, .inr ⟨_, rfl⟩⟩
    · exact ⟨_, [], _, rfl, OwnRows.nil _ _, hB, .inr ⟨_, rfl⟩⟩
    · exact ⟨v, L, _, rfl, hown, hB, .inl ⟨rfl, hn, ho, hL⟩⟩
/-- The facets of sets that rise: a complex whose Euler number is the sets'. -/
def Numb (L : List (List Int)) (k : Int) : Prop := L.length ≤ 100000 ∧ (∀ x ∈ L, x.length ≤ 1000) ∧ -600 ≤ k ∧ k ≤ 600 ∧ ∃ all, Good L all ∧ eulerOf all = k
theorem Good.numb {L all : List (List Int)} (g : Good L all) : Numb L (eulerOf all) := by
  have h1 := eulerOf_small all
  have h2 := g.length
  refine ⟨?_, fun x hx => ?_, by omega, by omega, all, g, rfl⟩
  · rw [← g.same]
    have : (facetsI all).length ≤ all.length := List.length_filter_le _ _
    omega
  · rw [← g.same] at hx
    have := g.short x (List.mem_filter.1 hx).1
    omega
theorem join_numb {a b p q L : List (List Int)} (ga : Good a p) (gb : Good b q) (h : (∀ x ∈ joinS p q, SetOk x) ∧ ¬ Over (joinS p q) ∧ IsFacets (joinS p q) L) : ∃ k, Numb L k ∧ 1 - k = (1 - eulerOf p) * (1 - eulerOf q) := by
  obtain ⟨all, g, hal⟩ := good_ex (join_rising ga gb) h.1 h.2.1 h.2.2
  refine ⟨_, g.numb, ?_⟩
  rw [join_euler ga gb hal, Int.sub_mul, Int.mul_sub, Int.mul_sub]
  omega
theorem prod_numb {a b p q L : List (List Int)} (ga : Good a p) (gb : Good b q) (h : (vertI p).length * (vertI q).length ≤ 100 ∧ ¬ Over (prodS p q) ∧ IsFacets (prodS p q) L) : ∃ k, Numb L k ∧ k = eulerOf p * eulerOf q := by
  obtain ⟨all, g, hal⟩ := good_ex (fun x hx => ((mem_growAll ga.whole gb.whole x).1 hx).rising) (fun x hx => ((mem_growAll ga.whole gb.whole x).1 hx).ok h.1) h.2.1 h.2.2
  exact ⟨_, g.numb, prod_euler ga gb hal⟩
theorem union_numb {a b p q L M : List (List Int)} (ga : Good a p) (gb : Good b q) (h : (∀ x ∈ p ++ q, SetOk x) ∧ ¬ Over (p ++ q) ∧ IsFacets (p ++ q) L) (h2 : IsFacets (bothI p q) M) : ∃ k j, Numb L k ∧ Numb M j ∧ k + j = eulerOf p + eulerOf q := by
  obtain ⟨all, g, hal⟩ := good_ex (fun x hx => (List.mem_append.1 hx).elim (ga.rising x) (gb.rising x)) h.1 h.2.1 h.2.2
  have hs : ∀ x ∈ bothI p q, x ∈ p := fun x hx => (List.mem_filter.1 hx).1
  obtain ⟨all2, g2, hal2⟩ := good_ex (fun x hx => ga.rising x (hs x hx)) (fun x hx => (face_ok_of ga (hs x hx)).1) (ga.notOver hs) h2
  exact ⟨_, _, g.numb, g2.numb, union_euler ga gb hal hal2⟩

theorem box_at {B : Nat} {W W' : World} {v : Value} (h : W.cell? ⟨B, 0, none⟩ = some v ∧ W.frozen? ⟨B, 0, none⟩ = false) (hB : Below W.heap.size W W') : W'.cell? ⟨B, 0, none⟩ = some v ∧ W'.frozen? ⟨B, 0, none⟩ = false :=
  ⟨(hB.cell (p := ⟨B, 0, none⟩) (cell_lt h.1)).trans h.1, (hB.frozen (p := ⟨B, 0, none⟩) (cell_lt h.1)).trans h.2⟩
theorem box_put {B : Nat} {W : World} {v : Value} (h : W.cell? ⟨B, 0, none⟩ = some v ∧ W.frozen? ⟨B, 0, none⟩ = false) (u : Value) : (W.setCell ⟨B, 0, none⟩ u).cell? ⟨B, 0, none⟩ = some u ∧ (W.setCell ⟨B, 0, none⟩ u).frozen? ⟨B, 0, none⟩ = false :=
  ⟨World.cell?_setCell_same' _ _ _ (by rw [h.1]; rfl), by rw [World.frozen?_setCell]; exact h.2⟩

theorem meet_or {a : Nat → Addr} {l m p q : List (List Int)} {w w' : World} {e : Ending} (g1 : Good l p) (g2 : Good m q) (h : PartG a (JErr l m) (fun L => ∃ p q, Good l p ∧ Good m q ∧ IsFacets (bothI p q) L) w e w') :
    ∃ v L, e = .returned (.tuple #[.agg #[v], .nilIface]) ∧ OwnRows w.heap.size w' v L ∧ Below w.heap.size w w' ∧ IsFacets (bothI p q) L := by
  obtain ⟨hB, ⟨i, hi, rfl⟩ | ⟨v, L, ⟨p', q', h1, h2, hL⟩, rfl, hown⟩⟩ := h
  · exact (jerr_not hi ⟨g1, g2⟩).elim
  · obtain rfl := good_one g1 h1
    obtain rfl := good_one g2 h2
    exact ⟨v, L, rfl, hown, hB, hL⟩
theorem ints_put3 {W : World} {base : Nat} {t : TypeId} {v : Value} {x : List Int} (h : W.ownsRow base t 1 v (0 + (x.map (Value.int .i64)).length) ([] ++ x.map (Value.int .i64))) : Ints W v x := by
  have := slice_of_owns (S := anyBlock) h (fun _ _ _ => trivial)
  rw [List.nil_append] at this
  exact this
theorem box_far {B D : Nat} {W : World} {v : Value} (h : W.cell? ⟨D, 0, none⟩ = some v ∧ W.frozen? ⟨D, 0, none⟩ = false) (hBD : B ≠ D) (u : Value) : (W.setCell ⟨B, 0, none⟩ u).cell? ⟨D, 0, none⟩ = some v ∧ (W.setCell ⟨B, 0, none⟩ u).frozen? ⟨D, 0, none⟩ = false := by
  refine ⟨?_, by rw [World.frozen?_setCell]; exact h.2⟩
  rw [World.cell?_setCell_other W ⟨B, 0, none⟩ ⟨D, 0, none⟩ u (fun e => by have : B = D := congrArg Addr.block e; exact hBD this)]
  exact h.1

set_option maxRecDepth 100000 in
set_option maxHeartbeats 8000000 in
theorem euler_law (CL : ClosedHolds) {a : Nat → Addr} {s : Nat → ByteArray} (va vb vf : Value) (A B : List (List Int)) (f : List Int) (v : Int) (w : World) (hE : Errs a s w) (ha : Rows w va A) (hb : Rows w vb B) (hf : Ints w vf f) :
    Calls Tryd.prog 4 #[va, vb, vf, .int .i64 v] w fun e w' => e = .returned (.bool true) ∧ Below w.heap.size w w' := by
  obtain ⟨j0, hj0, hy0, hy1, hy2⟩ := info_parts Tryd.info3
  have hci := circle_ w hE
  have HRA : Hid (Rows w va A) := ha
  have HRB : Hid (Rows w vb B) := hb
  have HF : Hid (Ints w vf f) := hf
  obtain ⟨af, cf, rfl, -, -⟩ := hf.open_
  clear ha hb hf
  go_enter Tryd.func4, Tryd.ntmps4
  go_wp2_with fail
  refine hci.mono ?_
  clear hci
  rintro e w1 ⟨rfl, hB1⟩
  have hla := little_few CL va A 30 w1 (HRA.out.below hB1)
  go_wp2_with fail
  refine hla.mono ?_
  clear hla
  rintro e w2 ⟨qa, rfl, hB2, hqa⟩
  have HB2 : Hid (Below w.heap.size w w2) := hB1.trans (hB2.mono hB1.size)
  clear hB1 hB2
  have hlb := little_few CL vb B 30 w2 (HRB.out.below HB2.out)
  go_wp2_with fail
  refine hlb.mono ?_
  clear hlb
  rintro e w3 ⟨qb, rfl, hB3, hqb⟩
  have HB3 : Hid (Below w.heap.size w w3) := HB2.out.trans (hB3.mono HB2.out.size)
  clear hB3 HB2
  cases qa with
  | false =>
    clear hqa hqb
    go_wp2
    go_ret
    exact ⟨rfl, HB3.out⟩
  | true =>
    cases qb with
    | false =>
      clear hqa hqb
      go_wp2
      go_ret
      exact ⟨rfl, HB3.out⟩
    | true =>
      have hA1 : A.length ≤ 100000 := by have := (hqa rfl).1; omega
      have hB1 : B.length ≤ 100000 := by have := (hqb rfl).1; omega
      have hA2 : ∀ x ∈ A, x.length ≤ 1000 := fun x hx => by have := (hqa rfl).2.1 x hx; omega
      have hB2 : ∀ x ∈ B, x.length ≤ 1000 := fun x hx => by have := (hqb rfl).2.1 x hx; omega
      clear hqa hqb
      by_cases h10 : 10 < f.length
      · go_wp2
        go_ret
        exact ⟨rfl, HB3.out⟩
      · have her := error_k2 CL a va A w3 (HRA.out.below HB3.out) hA1 hA2
        go_wp2_with fail
        refine her.mono ?_
        clear her
        rintro e w4 ⟨hB4, veA, nA, allA, -, rfl, ⟨hn0, hn1, -, -⟩ | ⟨rfl, hg⟩⟩
        · have HB4 : Hid (Below w.heap.size w w4) := HB3.out.trans (hB4.mono HB3.out.size)
          clear hB4 HB3
          go_wp2
          go_ret
          exact ⟨rfl, HB4.out⟩
        · have HB4 : Hid (Below w.heap.size w w4) := HB3.out.trans (hB4.mono HB3.out.size)
          have HGA : Hid (Good A allA) := hg
          clear hg hB4 HB3
          have her := error_k2 CL a vb B w4 (HRB.out.below HB4.out) hB1 hB2
          go_wp2_with fail
          refine her.mono ?_
          clear her
          rintro e w5 ⟨hB5, veB, nB, allB, -, rfl, ⟨hn0, hn1, -, -⟩ | ⟨rfl, hg⟩⟩
          · have HB5 : Hid (Below w.heap.size w w5) := HB4.out.trans (hB5.mono HB4.out.size)
            clear hB5 HB4
            go_wp2
            go_ret
            exact ⟨rfl, HB5.out⟩
          · have HB5 : Hid (Below w.heap.size w w5) := HB4.out.trans (hB5.mono HB4.out.size)
            have HGB : Hid (Good B allB) := hg
            clear hg hB5 HB4
            have hE0 := hE.below HB5.out
            have HA0 : Hid (Rows w5 va A) := HRA.out.below HB5.out
            have HB0 : Hid (Rows w5 vb B) := HRB.out.below HB5.out
            have HF0 : Hid (Ints w5 (.slice af f.length cf) f) := HF.out.below HB5.out
            have hm1 := HGA.out.numb.2.2.1
            have hm2 := HGA.out.numb.2.2.2.1
            have hn1 := HGB.out.numb.2.2.1
            have hn2 := HGB.out.numb.2.2.2.1
            obtain ⟨M, hM⟩ : ∃ M, eulerOf allA = M := ⟨_, rfl⟩
            obtain ⟨NN, hN⟩ : ∃ NN, eulerOf allB = NN := ⟨_, rfl⟩
            rw [hM] at hm1 hm2
            rw [hN] at hn1 hn2
            have HMN : Hid (eulerOf allA = M ∧ eulerOf allB = NN) := ⟨hM, hN⟩
            clear hE HRA HRB HF hM hN
            have HC5 : Hid (Below w5.heap.size w5 w5) := Below.refl _ _
            -- m, n
            have hcx := cx_ va A _ (HA0.out.below HC5.out) hA1 hA2
            go_wp2_with fail
            refine hcx.mono ?_
            clear hcx
            rintro e w6 ⟨v6, rfl, hrX, hBX⟩
            have HC6 : Hid (Below w5.heap.size w5 w6) := HC5.out.trans (hBX.mono HC5.out.size)
            have hst := euler_ok v6 A allA HGA.out w6 (hE0.below HC6.out) hrX hA1 hA2
            rw [HMN.out.1] at hst
            clear hrX hBX HC5
            go_wp2_with fail
            refine hst.mono ?_
            clear hst
            rintro e w7 ⟨rfl, hBX⟩
            have HC7 : Hid (Below w5.heap.size w5 w7) := HC6.out.trans (hBX.mono HC6.out.size)
            clear hBX HC6
            have hcx := cx_ vb B _ (HB0.out.below HC7.out) hB1 hB2
            go_wp2_with fail
            refine hcx.mono ?_
            clear hcx
            rintro e w8 ⟨v8, rfl, hrX, hBX⟩
            have HC8 : Hid (Below w5.heap.size w5 w8) := HC7.out.trans (hBX.mono HC7.out.size)
            have hst := euler_ok v8 B allB HGB.out w8 (hE0.below HC8.out) hrX hB1 hB2
            rw [HMN.out.2] at hst
            clear hrX hBX HC7
            go_wp2_with fail
            refine hst.mono ?_
            clear hst
            rintro e w9 ⟨rfl, hBX⟩
            have HC9 : Hid (Below w5.heap.size w5 w9) := HC8.out.trans (hBX.mono HC8.out.size)
            clear hBX HC8
            -- the join
            have hcx := cx_ va A _ (HA0.out.below HC9.out) hA1 hA2
            go_wp2_with fail
            refine hcx.mono ?_
            clear hcx
            rintro e w10 ⟨v10, rfl, hrX, hBX⟩
            have HC10 : Hid (Below w5.heap.size w5 w10) := HC9.out.trans (hBX.mono HC9.out.size)
            have HR10 : Hid (Rows w10 v10 A) := hrX
            clear hrX hBX HC9
            have hcx := cx_ vb B _ (HB0.out.below HC10.out) hB1 hB2
            go_wp2_with fail
            refine hcx.mono ?_
            clear hcx
            rintro e w11 ⟨v11, rfl, hrX, hBX⟩
            have HC11 : Hid (Below w5.heap.size w5 w11) := HC10.out.trans (hBX.mono HC10.out.size)
            have hst := (join_call v10 v11 A B _ (hE0.below HC11.out) (HR10.out.below hBX) hrX hA1 hA2 hB1 hB2).mono (fun e w' h => two_or (sets := joinS) HGA.out HGB.out h)
            clear hrX hBX HC10 HR10
            go_wp2_with fail
            refine hst.mono ?_
            clear hst
            rintro e w12 ⟨v12, L12, ve12, rfl, hoX, hBX, hXX⟩
            have HC12 : Hid (Below w5.heap.size w5 w12) := HC11.out.trans (hBX.mono HC11.out.size)
            obtain ⟨a12, c12, rfl, -, -⟩ := hoX.rows.open_
            have HO12 : Hid (OwnRows w11.heap.size w12 (.slice a12 L12.length c12) L12) := hoX
            have HX12 : Hid (ErrOr a ve12 ((∀ x ∈ joinS allA allB, SetOk x) ∧ ¬ Over (joinS allA allB) ∧ IsFacets (joinS allA allB) L12)) := hXX
            clear hoX hXX hBX HC11
            have hBa : Below w12.heap.size w12 (w12.alloc (.cells #[.slice a12 L12.length c12] 27)) := (Below.refl _ w12).alloc (Nat.le_refl _) _
            have HC13 : Hid (Below w5.heap.size w5 (w12.alloc (.cells #[.slice a12 L12.length c12] 27))) := HC12.out.trans (hBa.mono HC12.out.size)
            have HR13 : Hid (Rows (w12.alloc (.cells #[.slice a12 L12.length c12] 27)) (.slice a12 L12.length c12) L12) := HO12.out.rows.below hBa
            have HC_13 : Hid ((w12.alloc (.cells #[.slice a12 L12.length c12] 27)).cell? ⟨w12.heap.size, 0, none⟩ = some (.slice a12 L12.length c12) ∧ (w12.alloc (.cells #[.slice a12 L12.length c12] 27)).frozen? ⟨w12.heap.size, 0, none⟩ = false) := box_new w12 (.slice a12 L12.length c12) 27
            have hbC5 : w5.heap.size ≤ w12.heap.size := HC12.out.size
            obtain ⟨X, hX⟩ : ∃ X, (1 - M) * (1 - NN) = X := ⟨_, rfl⟩
            obtain ⟨Y, hY⟩ : ∃ Y, M * NN = Y := ⟨_, rfl⟩
            clear hBa HO12 HC12
            go_upto_region 9 with fail
            obtain ⟨w13, hW⟩ : ∃ W, w12.alloc (.cells #[.slice a12 L12.length c12] 27) = W := ⟨_, rfl⟩
            obtain ⟨bC, hbC⟩ : ∃ bC, w12.heap.size = bC := ⟨_, rfl⟩
            rw [hW, hbC] at HC_13
            rw [hW] at HR13 HC13
            rw [hbC] at hbC5
            rw [hW, hbC]
            clear hW hbC
            go_cut [82] from 81 to 82 (fun sz wx => ∃ z : Bool, sz = .bool z ∧ Hid (z = true → (∀ x ∈ joinS allA allB, SetOk x) ∧ ¬ Over (joinS allA allB) ∧ IsFacets (joinS allA allB) L12) ∧ w13 = wx)
            case first =>
              rcases HX12.out with ⟨rfl, hP⟩ | ⟨i, rfl⟩
              · have HP : Hid ((∀ x ∈ joinS allA allB, SetOk x) ∧ ¬ Over (joinS allA allB) ∧ IsFacets (joinS allA allB) L12) := hP
                clear hP HX12
                go_wp2
                go_meet
                exact ⟨true, rfl, (fun _ => HP.out), rfl⟩
              · clear HX12
                go_wp2
                go_meet
                exact ⟨false, rfl, (fun h => by cases h), rfl⟩
            obtain ⟨z, rfl, HZ, hwx⟩ := hcut
            subst hwx
            clear HX12
            go_upto_if 82 with fail
            go_cut [] from 82 to 82 (fun wx => Hid (Below w13.heap.size w13 wx))
            case first =>
              cases z with
              | false =>
                go_wp2
                go_meet
                exact Below.refl _ _
              | true =>
                obtain ⟨k, hkn, hk⟩ := join_numb HGA.out HGB.out (HZ.out rfl)
                rw [HMN.out.1, HMN.out.2, hX] at hk
                obtain ⟨k1, k2, k3, k4, all, hga, hk0⟩ := hkn
                have hcb := HC_13.out.1
                have hst := euler_ok _ L12 all hga w13 (hE0.below HC13.out) HR13.out k1 k2
                rw [hk0] at hst
                clear hga hk0 k1 k2
                have hbe : (1 - k != X) = false := by simp [hk]
                go_wp2_with fail
                refine hst.mono ?_
                clear hst
                rintro e w14 ⟨rfl, hBX⟩
                go_wp2
                go_meet
                exact hBX
            obtain ⟨w15, hwk⟩ : ∃ wk, wk = wc := ⟨_, rfl⟩
            subst hwk
            have hBX := hcut.out
            clear hcut HZ
            have HC15 : Hid (Below w5.heap.size w5 w15) := HC13.out.trans (hBX.mono HC13.out.size)
            obtain ⟨vC, hvC⟩ : ∃ vC, Value.slice a12 L12.length c12 = vC := ⟨_, rfl⟩
            rw [hvC] at HC_13
            have HC_15 : Hid (w15.cell? ⟨bC, 0, none⟩ = some vC ∧ w15.frozen? ⟨bC, 0, none⟩ = false) := box_at HC_13.out hBX
            clear HC_13 HC13 HR13 hBX hvC
            have hcx := cx_ va A _ (HA0.out.below HC15.out) hA1 hA2
            go_wp2_with fail
            refine hcx.mono ?_
            clear hcx
            rintro e w20 ⟨v20, rfl, hrX, hBX⟩
            have HC20 : Hid (Below w5.heap.size w5 w20) := HC15.out.trans (hBX.mono HC15.out.size)
            have HR20 : Hid (Rows w20 v20 A) := hrX
            have HC_20 : Hid (w20.cell? ⟨bC, 0, none⟩ = some vC ∧ w20.frozen? ⟨bC, 0, none⟩ = false) := box_at HC_15.out hBX
            clear hrX hBX HC15 HC_15
            have hcx := cx_ vb B _ (HB0.out.below HC20.out) hB1 hB2
            go_wp2_with fail
            refine hcx.mono ?_
            clear hcx
            rintro e w21 ⟨v21, rfl, hrX, hBX⟩
            have HC21 : Hid (Below w5.heap.size w5 w21) := HC20.out.trans (hBX.mono HC20.out.size)
            have HR21 : Hid (Rows w21 v21 B) := hrX
            have HC_21 : Hid (w21.cell? ⟨bC, 0, none⟩ = some vC ∧ w21.frozen? ⟨bC, 0, none⟩ = false) := box_at HC_20.out hBX
            have hst := (product_call v20 v21 A B _ (hE0.below HC21.out) (HR20.out.below hBX) hrX hA1 hA2 hB1 hB2).mono (fun e w' h => prod_or HGA.out HGB.out h)
            clear hrX hBX HC20 HR20 HR21 HC_20
            go_wp2_with fail
            refine hst.mono ?_
            clear hst
            rintro e w22 ⟨v22, L22, ve22, rfl, hoX, hBX, hXX⟩
            have HC22 : Hid (Below w5.heap.size w5 w22) := HC21.out.trans (hBX.mono HC21.out.size)
            have HC_22 : Hid (w22.cell? ⟨bC, 0, none⟩ = some vC ∧ w22.frozen? ⟨bC, 0, none⟩ = false) := box_at HC_21.out hBX
            have hltX : bC < w21.heap.size := cell_lt HC_21.out.1
            obtain ⟨a22, c22, rfl, -, -⟩ := hoX.rows.open_
            have HX22 : Hid (ErrOr a ve22 ((vertI allA).length * (vertI allB).length ≤ 100 ∧ ¬ Over (prodS allA allB) ∧ IsFacets (prodS allA allB) L22)) := hXX
            have HC_23 : Hid ((w22.setCell ⟨bC, 0, none⟩ (.slice a22 L22.length c22)).cell? ⟨bC, 0, none⟩ = some (.slice a22 L22.length c22) ∧ (w22.setCell ⟨bC, 0, none⟩ (.slice a22 L22.length c22)).frozen? ⟨bC, 0, none⟩ = false) := box_put HC_22.out _
            have HC23 : Hid (Below w5.heap.size w5 (w22.setCell ⟨bC, 0, none⟩ (.slice a22 L22.length c22))) := HC22.out.setCell (p := ⟨bC, 0, none⟩) hbC5 _
            have HR23 : Hid (Rows (w22.setCell ⟨bC, 0, none⟩ (.slice a22 L22.length c22)) (.slice a22 L22.length c22) L22) := (hoX.setCell (p := ⟨bC, 0, none⟩) hltX _).rows
            have hcb := HC_22.out.1
            have hzb := HC_22.out.2
            clear hoX hXX hBX hltX HC21 HC_21 HC22 HC_22
            go_upto_region 14 with fail
            obtain ⟨w23, hW⟩ : ∃ W, w22.setCell ⟨bC, 0, none⟩ (.slice a22 L22.length c22) = W := ⟨_, rfl⟩
            rw [hW] at HC_23 HC23 HR23
            rw [hW]
            clear hW hcb hzb vC
            go_cut [109] from 108 to 109 (fun sz wx => ∃ z : Bool, sz = .bool z ∧ Hid (z = true → (vertI allA).length * (vertI allB).length ≤ 100 ∧ ¬ Over (prodS allA allB) ∧ IsFacets (prodS allA allB) L22) ∧ w23 = wx)
            case first =>
              rcases HX22.out with ⟨rfl, hP⟩ | ⟨i, rfl⟩
              · have HP : Hid ((vertI allA).length * (vertI allB).length ≤ 100 ∧ ¬ Over (prodS allA allB) ∧ IsFacets (prodS allA allB) L22) := hP
                clear hP HX22
                go_wp2
                go_meet
                exact ⟨true, rfl, (fun _ => HP.out), rfl⟩
              · clear HX22
                go_wp2
                go_meet
                exact ⟨false, rfl, (fun h => by cases h), rfl⟩
            obtain ⟨z, rfl, HZ, hwx⟩ := hcut
            subst hwx
            clear HX22
            go_upto_if 109 with fail
            go_cut [] from 109 to 109 (fun wx => Hid (Below w23.heap.size w23 wx))
            case first =>
              cases z with
              | false =>
                go_wp2
                go_meet
                exact Below.refl _ _
              | true =>
                obtain ⟨k, hkn, hk⟩ := prod_numb HGA.out HGB.out (HZ.out rfl)
                rw [HMN.out.1, HMN.out.2, hY] at hk
                obtain ⟨k1, k2, k3, k4, all, hga, hk0⟩ := hkn
                have hcb := HC_23.out.1
                have hst := euler_ok _ L22 all hga w23 (hE0.below HC23.out) HR23.out k1 k2
                rw [hk0] at hst
                clear hga hk0 k1 k2
                have hbe : (k != Y) = false := by simp [hk]
                have hy1 : -600 ≤ Y := by omega
                have hy2 : Y ≤ 600 := by omega
                have HK : Hid (k = Y) := hk
                clear hk
                go_wp2_with fail
                refine hst.mono ?_
                clear hst
                rintro e w24 ⟨rfl, hBX⟩
                go_wp2
                go_meet
                exact hBX
            obtain ⟨w25, hwk⟩ : ∃ wk, wk = wc := ⟨_, rfl⟩
            subst hwk
            have hBX := hcut.out
            clear hcut HZ
            have HC25 : Hid (Below w5.heap.size w5 w25) := HC23.out.trans (hBX.mono HC23.out.size)
            obtain ⟨vC, hvC⟩ : ∃ vC, Value.slice a22 L22.length c22 = vC := ⟨_, rfl⟩
            rw [hvC] at HC_23
            have HC_25 : Hid (w25.cell? ⟨bC, 0, none⟩ = some vC ∧ w25.frozen? ⟨bC, 0, none⟩ = false) := box_at HC_23.out hBX
            clear HC_23 HC23 HR23 hBX hvC
            have hcx := cx_ va A _ (HA0.out.below HC25.out) hA1 hA2
            go_wp2_with fail
            refine hcx.mono ?_
            clear hcx
            rintro e w30 ⟨v30, rfl, hrX, hBX⟩
            have HC30 : Hid (Below w5.heap.size w5 w30) := HC25.out.trans (hBX.mono HC25.out.size)
            have HR30 : Hid (Rows w30 v30 A) := hrX
            have HC_30 : Hid (w30.cell? ⟨bC, 0, none⟩ = some vC ∧ w30.frozen? ⟨bC, 0, none⟩ = false) := box_at HC_25.out hBX
            clear hrX hBX HC25 HC_25
            have hcx := cx_ vb B _ (HB0.out.below HC30.out) hB1 hB2
            go_wp2_with fail
            refine hcx.mono ?_
            clear hcx
            rintro e w31 ⟨v31, rfl, hrX, hBX⟩
            have HC31 : Hid (Below w5.heap.size w5 w31) := HC30.out.trans (hBX.mono HC30.out.size)
            have HR31 : Hid (Rows w31 v31 B) := hrX
            have HC_31 : Hid (w31.cell? ⟨bC, 0, none⟩ = some vC ∧ w31.frozen? ⟨bC, 0, none⟩ = false) := box_at HC_30.out hBX
            have hst := (union_call v30 v31 A B _ (hE0.below HC31.out) (HR30.out.below hBX) hrX hA1 hA2 hB1 hB2).mono (fun e w' h => two_or (sets := fun p q => p ++ q) HGA.out HGB.out h)
            clear hrX hBX HC30 HR30 HR31 HC_30
            go_wp2_with fail
            refine hst.mono ?_
            clear hst
            rintro e w32 ⟨v32, L32, ve32, rfl, hoX, hBX, hXX⟩
            have HC32 : Hid (Below w5.heap.size w5 w32) := HC31.out.trans (hBX.mono HC31.out.size)
            have HC_32 : Hid (w32.cell? ⟨bC, 0, none⟩ = some vC ∧ w32.frozen? ⟨bC, 0, none⟩ = false) := box_at HC_31.out hBX
            have hltX : bC < w31.heap.size := cell_lt HC_31.out.1
            obtain ⟨a32, c32, rfl, -, -⟩ := hoX.rows.open_
            have HX32 : Hid (ErrOr a ve32 ((∀ x ∈ allA ++ allB, SetOk x) ∧ ¬ Over (allA ++ allB) ∧ IsFacets (allA ++ allB) L32)) := hXX
            have HC_33 : Hid ((w32.setCell ⟨bC, 0, none⟩ (.slice a32 L32.length c32)).cell? ⟨bC, 0, none⟩ = some (.slice a32 L32.length c32) ∧ (w32.setCell ⟨bC, 0, none⟩ (.slice a32 L32.length c32)).frozen? ⟨bC, 0, none⟩ = false) := box_put HC_32.out _
            have HC33 : Hid (Below w5.heap.size w5 (w32.setCell ⟨bC, 0, none⟩ (.slice a32 L32.length c32))) := HC32.out.setCell (p := ⟨bC, 0, none⟩) hbC5 _
            have HR33 : Hid (Rows (w32.setCell ⟨bC, 0, none⟩ (.slice a32 L32.length c32)) (.slice a32 L32.length c32) L32) := (hoX.setCell (p := ⟨bC, 0, none⟩) hltX _).rows
            have hcb := HC_32.out.1
            have hzb := HC_32.out.2
            clear hoX hXX hBX hltX HC31 HC_31 HC32 HC_32
            have hcx := cx_ va A _ (HA0.out.below HC33.out) hA1 hA2
            go_wp2_with fail
            obtain ⟨w33, hW⟩ : ∃ W, w32.setCell ⟨bC, 0, none⟩ (.slice a32 L32.length c32) = W := ⟨_, rfl⟩
            rw [hW] at HC_33 HC33 HR33 hcx
            rw [hW]
            clear hW hcb hzb vC
            refine hcx.mono ?_
            clear hcx
            rintro e w34 ⟨v34, rfl, hrX, hBX⟩
            have HC34 : Hid (Below w5.heap.size w5 w34) := HC33.out.trans (hBX.mono HC33.out.size)
            have HR34 : Hid (Rows w34 v34 A) := hrX
            have HQ34 : Hid (Rows w34 (.slice a32 L32.length c32) L32) := HR33.out.below hBX
            have HC_34 : Hid (w34.cell? ⟨bC, 0, none⟩ = some (.slice a32 L32.length c32) ∧ w34.frozen? ⟨bC, 0, none⟩ = false) := box_at HC_33.out hBX
            clear hrX hBX HC33 HC_33 HR33
            have hcx := cx_ vb B _ (HB0.out.below HC34.out) hB1 hB2
            go_wp2_with fail
            refine hcx.mono ?_
            clear hcx
            rintro e w35 ⟨v35, rfl, hrX, hBX⟩
            have HC35 : Hid (Below w5.heap.size w5 w35) := HC34.out.trans (hBX.mono HC34.out.size)
            have HQ35 : Hid (Rows w35 (.slice a32 L32.length c32) L32) := HQ34.out.below hBX
            have HC_35 : Hid (w35.cell? ⟨bC, 0, none⟩ = some (.slice a32 L32.length c32) ∧ w35.frozen? ⟨bC, 0, none⟩ = false) := box_at HC_34.out hBX
            have hst := (meet_call v34 v35 A B _ (hE0.below HC35.out) (HR34.out.below hBX) hrX hA1 hA2 hB1 hB2).mono (fun e w' h => meet_or HGA.out HGB.out h)
            clear hrX hBX HC34 HR34 HC_34 HQ34
            go_wp2_with fail
            refine hst.mono ?_
            clear hst
            rintro e w36 ⟨v36, L36, rfl, hoX, hBX, hXX⟩
            have HC36 : Hid (Below w5.heap.size w5 w36) := HC35.out.trans (hBX.mono HC35.out.size)
            have HQ36 : Hid (Rows w36 (.slice a32 L32.length c32) L32) := HQ35.out.below hBX
            have HC_36 : Hid (w36.cell? ⟨bC, 0, none⟩ = some (.slice a32 L32.length c32) ∧ w36.frozen? ⟨bC, 0, none⟩ = false) := box_at HC_35.out hBX
            obtain ⟨a36, c36, rfl, -, -⟩ := hoX.rows.open_
            have HL36 : Hid (IsFacets (bothI allA allB) L36) := hXX
            have hBa : Below w36.heap.size w36 (w36.alloc (.cells #[.slice a36 L36.length c36] 27)) := (Below.refl _ w36).alloc (Nat.le_refl _) _
            have HC37 : Hid (Below w5.heap.size w5 (w36.alloc (.cells #[.slice a36 L36.length c36] 27))) := HC36.out.trans (hBa.mono HC36.out.size)
            have HR37 : Hid (Rows (w36.alloc (.cells #[.slice a36 L36.length c36] 27)) (.slice a36 L36.length c36) L36) := hoX.rows.below hBa
            have HQ37 : Hid (Rows (w36.alloc (.cells #[.slice a36 L36.length c36] 27)) (.slice a32 L32.length c32) L32) := HQ36.out.below hBa
            have HC_37 : Hid ((w36.alloc (.cells #[.slice a36 L36.length c36] 27)).cell? ⟨bC, 0, none⟩ = some (.slice a32 L32.length c32) ∧ (w36.alloc (.cells #[.slice a36 L36.length c36] 27)).frozen? ⟨bC, 0, none⟩ = false) := box_at HC_36.out hBa
            have HD_37 : Hid ((w36.alloc (.cells #[.slice a36 L36.length c36] 27)).cell? ⟨w36.heap.size, 0, none⟩ = some (.slice a36 L36.length c36) ∧ (w36.alloc (.cells #[.slice a36 L36.length c36] 27)).frozen? ⟨w36.heap.size, 0, none⟩ = false) := box_new w36 (.slice a36 L36.length c36) 27
            have hbD5 : w5.heap.size ≤ w36.heap.size := HC36.out.size
            have hbCD : bC < w36.heap.size := cell_lt HC_36.out.1
            clear hBa hoX hXX hBX HC35 HC36 HC_35 HC_36 HQ35 HQ36
            go_upto_region 22 with fail
            obtain ⟨w37, hW⟩ : ∃ W, w36.alloc (.cells #[.slice a36 L36.length c36] 27) = W := ⟨_, rfl⟩
            obtain ⟨bD, hbD⟩ : ∃ bD, w36.heap.size = bD := ⟨_, rfl⟩
            rw [hW, hbD] at HD_37
            rw [hW] at HC_37 HR37 HQ37 HC37
            rw [hbD] at hbD5 hbCD
            rw [hW, hbD]
            clear hW hbD
            go_cut [143] from 142 to 143 (fun sz wx => ∃ z : Bool, sz = .bool z ∧ Hid (z = true → (∀ x ∈ allA ++ allB, SetOk x) ∧ ¬ Over (allA ++ allB) ∧ IsFacets (allA ++ allB) L32) ∧ w37 = wx)
            case first =>
              rcases HX32.out with ⟨rfl, hP⟩ | ⟨i, rfl⟩
              · have HP : Hid ((∀ x ∈ allA ++ allB, SetOk x) ∧ ¬ Over (allA ++ allB) ∧ IsFacets (allA ++ allB) L32) := hP
                clear hP HX32
                go_wp2
                go_meet
                exact ⟨true, rfl, (fun _ => HP.out), rfl⟩
              · clear HX32
                go_wp2
                go_meet
                exact ⟨false, rfl, (fun h => by cases h), rfl⟩
            obtain ⟨z, rfl, HZ, hwx⟩ := hcut
            subst hwx
            clear HX32
            go_upto_if 143 with fail
            go_cut [] from 143 to 143 (fun wx => Hid (Below w37.heap.size w37 wx))
            case first =>
              cases z with
              | false =>
                go_wp2
                go_meet
                exact Below.refl _ _
              | true =>
                obtain ⟨k, j, hkn, hjn, hk⟩ := union_numb HGA.out HGB.out (HZ.out rfl) HL36.out
                rw [HMN.out.1, HMN.out.2] at hk
                obtain ⟨k1, k2, k3, k4, all, hga, hk0⟩ := hkn
                obtain ⟨j1, j2, j3, j4, all2, hga2, hj0⟩ := hjn
                have hcb := HC_37.out.1
                have HE2 : Hid (Good L36 all2 ∧ eulerOf all2 = j ∧ L36.length ≤ 100000 ∧ ∀ x ∈ L36, x.length ≤ 1000) := ⟨hga2, hj0, j1, j2⟩
                have hst := euler_ok _ L32 all hga w37 (hE0.below HC37.out) HQ37.out k1 k2
                rw [hk0] at hst
                have hbe : (k + j != M + NN) = false := by simp [hk]
                have HK : Hid (k + j = M + NN) := hk
                clear hga hk0 k1 k2 hga2 hj0 j1 j2 hk
                go_wp2_with fail
                refine hst.mono ?_
                clear hst hcb
                rintro e w38 ⟨rfl, hBX⟩
                have hcd := (box_at HD_37.out hBX).1
                have HC38 : Hid (Below w5.heap.size w5 w38) := HC37.out.trans (hBX.mono HC37.out.size)
                have hst := euler_ok _ L36 all2 HE2.out.1 w38 (hE0.below HC38.out) (HR37.out.below hBX) HE2.out.2.2.1 HE2.out.2.2.2
                rw [HE2.out.2.1] at hst
                go_wp2_with fail
                refine hst.mono ?_
                clear hst hcd
                rintro e w39 ⟨rfl, hBY⟩
                go_wp2
                go_meet
                exact hBX.trans (hBY.mono hBX.size)
            obtain ⟨w40, hwk⟩ : ∃ wk, wk = wc := ⟨_, rfl⟩
            subst hwk
            have hBX := hcut.out
            clear hcut HZ
            have HC40 : Hid (Below w5.heap.size w5 w40) := HC37.out.trans (hBX.mono HC37.out.size)
            obtain ⟨vC, hvC⟩ : ∃ vC, Value.slice a32 L32.length c32 = vC := ⟨_, rfl⟩
            obtain ⟨vD, hvD⟩ : ∃ vD, Value.slice a36 L36.length c36 = vD := ⟨_, rfl⟩
            rw [hvC] at HC_37
            rw [hvD] at HD_37
            have HC_40 : Hid (w40.cell? ⟨bC, 0, none⟩ = some vC ∧ w40.frozen? ⟨bC, 0, none⟩ = false) := box_at HC_37.out hBX
            have HD_40 : Hid (w40.cell? ⟨bD, 0, none⟩ = some vD ∧ w40.frozen? ⟨bD, 0, none⟩ = false) := box_at HD_37.out hBX
            clear HC_37 HD_37 HC37 HR37 HQ37 HL36 hBX hvC hvD
            have hcx := cx_ va A _ (HA0.out.below HC40.out) hA1 hA2
            go_wp2_with fail
            refine hcx.mono ?_
            clear hcx
            rintro e w41 ⟨v41, rfl, hrX, hBX⟩
            have HC41 : Hid (Below w5.heap.size w5 w41) := HC40.out.trans (hBX.mono HC40.out.size)
            have HR41 : Hid (Rows w41 v41 A) := hrX
            have HC_41 : Hid (w41.cell? ⟨bC, 0, none⟩ = some vC ∧ w41.frozen? ⟨bC, 0, none⟩ = false) := box_at HC_40.out hBX
            have HD_41 : Hid (w41.cell? ⟨bD, 0, none⟩ = some vD ∧ w41.frozen? ⟨bD, 0, none⟩ = false) := box_at HD_40.out hBX
            clear hrX hBX HC40 HC_40 HD_40
            have hst := (cone_call v41 A _ (hE0.below HC41.out) HR41.out hA1 hA2).mono (fun e w' h => two_or (sets := joinS) HGA.out good_point h)
            clear HR41
            go_wp2_with fail
            refine hst.mono ?_
            clear hst
            rintro e w42 ⟨v42, L42, ve42, rfl, hoX, hBX, hXX⟩
            have HC42 : Hid (Below w5.heap.size w5 w42) := HC41.out.trans (hBX.mono HC41.out.size)
            have HC_42 : Hid (w42.cell? ⟨bC, 0, none⟩ = some vC ∧ w42.frozen? ⟨bC, 0, none⟩ = false) := box_at HC_41.out hBX
            have hltX : bC < w41.heap.size := cell_lt HC_41.out.1
            obtain ⟨a42, c42, rfl, -, -⟩ := hoX.rows.open_
            have HX42 : Hid (ErrOr a ve42 ((∀ x ∈ joinS allA [[0]], SetOk x) ∧ ¬ Over (joinS allA [[0]]) ∧ IsFacets (joinS allA [[0]]) L42)) := hXX
            have HD_42 : Hid (w42.cell? ⟨bD, 0, none⟩ = some vD ∧ w42.frozen? ⟨bD, 0, none⟩ = false) := box_at HD_41.out hBX
            have HC_43 : Hid ((w42.setCell ⟨bC, 0, none⟩ (.slice a42 L42.length c42)).cell? ⟨bC, 0, none⟩ = some (.slice a42 L42.length c42) ∧ (w42.setCell ⟨bC, 0, none⟩ (.slice a42 L42.length c42)).frozen? ⟨bC, 0, none⟩ = false) := box_put HC_42.out _
            have HC43 : Hid (Below w5.heap.size w5 (w42.setCell ⟨bC, 0, none⟩ (.slice a42 L42.length c42))) := HC42.out.setCell (p := ⟨bC, 0, none⟩) hbC5 _
            have HR43 : Hid (Rows (w42.setCell ⟨bC, 0, none⟩ (.slice a42 L42.length c42)) (.slice a42 L42.length c42) L42) := (hoX.setCell (p := ⟨bC, 0, none⟩) hltX _).rows
            have HD_43 : Hid ((w42.setCell ⟨bC, 0, none⟩ (.slice a42 L42.length c42)).cell? ⟨bD, 0, none⟩ = some vD ∧ (w42.setCell ⟨bC, 0, none⟩ (.slice a42 L42.length c42)).frozen? ⟨bD, 0, none⟩ = false) := box_far HD_42.out (by omega) _
            have hcb := HC_42.out.1
            have hzb := HC_42.out.2
            clear hoX hXX hBX hltX HC41 HC_41 HC42 HC_42 HD_41 HD_42
            go_upto_region 28 with fail
            obtain ⟨w43, hW⟩ : ∃ W, w42.setCell ⟨bC, 0, none⟩ (.slice a42 L42.length c42) = W := ⟨_, rfl⟩
            rw [hW] at HC_43 HC43 HR43 HD_43
            rw [hW]
            clear hW hcb hzb vC
            go_cut [176] from 175 to 176 (fun sz wx => ∃ z : Bool, sz = .bool z ∧ Hid (z = true → (∀ x ∈ joinS allA [[0]], SetOk x) ∧ ¬ Over (joinS allA [[0]]) ∧ IsFacets (joinS allA [[0]]) L42) ∧ w43 = wx)
            case first =>
              rcases HX42.out with ⟨rfl, hP⟩ | ⟨i, rfl⟩
              · have HP : Hid ((∀ x ∈ joinS allA [[0]], SetOk x) ∧ ¬ Over (joinS allA [[0]]) ∧ IsFacets (joinS allA [[0]]) L42) := hP
                clear hP HX42
                go_wp2
                go_meet
                exact ⟨true, rfl, (fun _ => HP.out), rfl⟩
              · clear HX42
                go_wp2
                go_meet
                exact ⟨false, rfl, (fun h => by cases h), rfl⟩
            obtain ⟨z, rfl, HZ, hwx⟩ := hcut
            subst hwx
            clear HX42
            go_upto_if 176 with fail
            go_cut [] from 176 to 176 (fun wx => Hid (Below w43.heap.size w43 wx))
            case first =>
              cases z with
              | false =>
                go_wp2
                go_meet
                exact Below.refl _ _
              | true =>
                obtain ⟨k, hkn, hk⟩ := join_numb HGA.out good_point (HZ.out rfl)
                have hk1 : k = 1 := by
                  have h1 : eulerOf [[(0 : Int)]] = 1 := rfl
                  rw [h1, Int.sub_self, Int.mul_zero] at hk
                  omega
                obtain ⟨k1, k2, k3, k4, all, hga, hk0⟩ := hkn
                have hcb := HC_43.out.1
                have hst := euler_ok _ L42 all hga w43 (hE0.below HC43.out) HR43.out k1 k2
                rw [hk0, hk1] at hst
                clear hga hk0 k1 k2 hk hk1 k3 k4
                go_wp2_with fail
                refine hst.mono ?_
                clear hst
                rintro e w44 ⟨rfl, hBX⟩
                go_wp2
                go_meet
                exact hBX
            obtain ⟨w45, hwk⟩ : ∃ wk, wk = wc := ⟨_, rfl⟩
            subst hwk
            have hBX := hcut.out
            clear hcut HZ
            have HC45 : Hid (Below w5.heap.size w5 w45) := HC43.out.trans (hBX.mono HC43.out.size)
            obtain ⟨vC, hvC⟩ : ∃ vC, Value.slice a42 L42.length c42 = vC := ⟨_, rfl⟩
            rw [hvC] at HC_43
            have HC_45 : Hid (w45.cell? ⟨bC, 0, none⟩ = some vC ∧ w45.frozen? ⟨bC, 0, none⟩ = false) := box_at HC_43.out hBX
            have HD_45 : Hid (w45.cell? ⟨bD, 0, none⟩ = some vD ∧ w45.frozen? ⟨bD, 0, none⟩ = false) := box_at HD_43.out hBX
            clear HC_43 HC43 HR43 hBX hvC HD_43
            have hcx := cx_ va A _ (HA0.out.below HC45.out) hA1 hA2
            go_wp2_with fail
            refine hcx.mono ?_
            clear hcx
            rintro e w46 ⟨v46, rfl, hrX, hBX⟩
            have HC46 : Hid (Below w5.heap.size w5 w46) := HC45.out.trans (hBX.mono HC45.out.size)
            have HR46 : Hid (Rows w46 v46 A) := hrX
            have HC_46 : Hid (w46.cell? ⟨bC, 0, none⟩ = some vC ∧ w46.frozen? ⟨bC, 0, none⟩ = false) := box_at HC_45.out hBX
            have HD_46 : Hid (w46.cell? ⟨bD, 0, none⟩ = some vD ∧ w46.frozen? ⟨bD, 0, none⟩ = false) := box_at HD_45.out hBX
            clear hrX hBX HC45 HC_45 HD_45
            have hIf : Ints (w46.alloc (.cells #[] 3)) (.slice af f.length cf) f := (HF0.out.below HC46.out).below ((Below.refl _ w46).alloc (Nat.le_refl _) _)
            go_wp2_with (first
              | (at_builtin; refine wpList_append_slice rfl (.tmp 191) (.tmp 192) 37 rfl w46.heap.size 3 j0 (.int .i64 0) 8 Tryd.underlying37 hj0 hy0 hy1 hy2 rfl _ _ _ rfl (own_empty w46 3 w46.heap.size (Nat.le_refl _)) _ (f.map (Value.int .i64)) rfl hIf (ints_one f) (by simp; omega) (by unfold maxLen; simp; omega) (by simp) ?_; intro v47 w47 howX hgX hlX)
              | fail)
            have HI47 : Hid (Ints w47 v47 f) := ints_put3 howX
            have hBX : Below w46.heap.size w46 w47 := ((Below.refl _ w46).alloc (Nat.le_refl _) _).grown hgX (by simp) (fun j hj => by cases hj; exact Nat.le_refl _)
            have HC47 : Hid (Below w5.heap.size w5 w47) := HC46.out.trans (hBX.mono HC46.out.size)
            have HC_47 : Hid (w47.cell? ⟨bC, 0, none⟩ = some vC ∧ w47.frozen? ⟨bC, 0, none⟩ = false) := box_at HC_46.out hBX
            have HD_47 : Hid (w47.cell? ⟨bD, 0, none⟩ = some vD ∧ w47.frozen? ⟨bD, 0, none⟩ = false) := box_at HD_46.out hBX
            have hst := link_call v46 v47 A f w47 (hE0.below HC47.out) (HR46.out.below hBX) hA1 hA2 HI47.out (by omega)
            clear howX hgX hlX hIf HI47 hBX HR46 HC46 HC_46 HD_46
            go_wp2_with fail
            refine hst.mono ?_
            clear hst
            rintro e w48 ⟨hBX, hcase⟩
            have HC48 : Hid (Below w5.heap.size w5 w48) := HC47.out.trans (hBX.mono HC47.out.size)
            have HC_48 : Hid (w48.cell? ⟨bC, 0, none⟩ = some vC ∧ w48.frozen? ⟨bC, 0, none⟩ = false) := box_at HC_47.out hBX
            have HD_48 : Hid (w48.cell? ⟨bD, 0, none⟩ = some vD ∧ w48.frozen? ⟨bD, 0, none⟩ = false) := box_at HD_47.out hBX
            have hltX : bC < w47.heap.size := cell_lt HC_47.out.1
            have hcb := HC_48.out.1
            have hzb := HC_48.out.2
            clear hBX HC47 HC_47 HD_47
            rcases hcase with ⟨i, hi, rfl⟩ | ⟨v48, L48, ⟨all', g', hm', hL⟩, rfl, hoX⟩
            · clear hi
              go_wp2
              go_ret
              exact ⟨rfl, HB5.out.trans ((HC48.out.setCell (p := ⟨bC, 0, none⟩) hbC5 _).mono HB5.out.size)⟩
            obtain rfl := good_one HGA.out g'
            obtain ⟨all1, g1, h1⟩ := link_good HGA.out hL
            obtain ⟨k1, k2, -, -, -⟩ := g1.numb
            obtain ⟨a48, c48, rfl, -, -⟩ := hoX.rows.open_
            have HL48 : Hid (IsAll (linkI allA f) all1 ∧ Good L48 all1) := ⟨h1, g1⟩
            have HC_49 : Hid ((w48.setCell ⟨bC, 0, none⟩ (.slice a48 L48.length c48)).cell? ⟨bC, 0, none⟩ = some (.slice a48 L48.length c48) ∧ (w48.setCell ⟨bC, 0, none⟩ (.slice a48 L48.length c48)).frozen? ⟨bC, 0, none⟩ = false) := box_put HC_48.out _
            have HD_49 : Hid ((w48.setCell ⟨bC, 0, none⟩ (.slice a48 L48.length c48)).cell? ⟨bD, 0, none⟩ = some vD ∧ (w48.setCell ⟨bC, 0, none⟩ (.slice a48 L48.length c48)).frozen? ⟨bD, 0, none⟩ = false) := box_far HD_48.out (by omega) _
            have HC49 : Hid (Below w5.heap.size w5 (w48.setCell ⟨bC, 0, none⟩ (.slice a48 L48.length c48))) := HC48.out.setCell (p := ⟨bC, 0, none⟩) hbC5 _
            have HR49 : Hid (Rows (w48.setCell ⟨bC, 0, none⟩ (.slice a48 L48.length c48)) (.slice a48 L48.length c48) L48) := (hoX.setCell (p := ⟨bC, 0, none⟩) hltX _).rows
            clear hoX hL g' hm' g1 h1 hltX HC48 HC_48 HD_48
            go_upto_region 35 with fail
            obtain ⟨w49, hW⟩ : ∃ W, w48.setCell ⟨bC, 0, none⟩ (.slice a48 L48.length c48) = W := ⟨_, rfl⟩
            rw [hW] at HC_49 HD_49 HC49 HR49
            rw [hW]
            clear hW hcb hzb vC
            have hcb := HC_49.out.1
            have hBX : Below w49.heap.size w49 (w49.alloc (.cells #[.int .i64 v] 3)) := (Below.refl _ w49).alloc (Nat.le_refl _) _
            have HC50 : Hid (Below w5.heap.size w5 (w49.alloc (.cells #[.int .i64 v] 3))) := HC49.out.trans (hBX.mono HC49.out.size)
            have HC_50 : Hid ((w49.alloc (.cells #[.int .i64 v] 3)).cell? ⟨bC, 0, none⟩ = some (.slice a48 L48.length c48) ∧ (w49.alloc (.cells #[.int .i64 v] 3)).frozen? ⟨bC, 0, none⟩ = false) := box_at HC_49.out hBX
            have HD_50 : Hid ((w49.alloc (.cells #[.int .i64 v] 3)).cell? ⟨bD, 0, none⟩ = some vD ∧ (w49.alloc (.cells #[.int .i64 v] 3)).frozen? ⟨bD, 0, none⟩ = false) := box_at HD_49.out hBX
            have hst := link_call (.slice a48 L48.length c48) (.slice (some ⟨w49.heap.size, 0, none⟩) 1 1) L48 [v] (w49.alloc (.cells #[.int .i64 v] 3)) (hE0.below HC50.out) (HR49.out.below hBX) k1 k2 (slice_one w49 (.int .i64 v) 3) (by simp)
            clear hBX HC49 HC_49 HD_49 HR49 k1 k2
            go_wp2_with fail
            refine hst.mono ?_
            clear hst hcb
            rintro e w51 ⟨hBX, hcase⟩
            have HC51 : Hid (Below w5.heap.size w5 w51) := HC50.out.trans (hBX.mono HC50.out.size)
            have HC_51 : Hid (w51.cell? ⟨bC, 0, none⟩ = some (.slice a48 L48.length c48) ∧ w51.frozen? ⟨bC, 0, none⟩ = false) := box_at HC_50.out hBX
            have HD_51 : Hid (w51.cell? ⟨bD, 0, none⟩ = some vD ∧ w51.frozen? ⟨bD, 0, none⟩ = false) := box_at HD_50.out hBX
            have hltX : bD < (w49.alloc (.cells #[.int .i64 v] 3)).heap.size := cell_lt HD_50.out.1
            have hcb := HD_51.out.1
            have hzb := HD_51.out.2
            clear hBX HC50 HC_50 HD_50
            rcases hcase with ⟨i, hi, rfl⟩ | ⟨v51, L51, ⟨all2, g2, hv2, hL2⟩, rfl, hoX⟩
            · clear hi hltX
              go_wp2
              go_ret
              exact ⟨rfl, HB5.out.trans ((HC51.out.setCell (p := ⟨bD, 0, none⟩) hbD5 _).mono HB5.out.size)⟩
            obtain rfl := good_one HL48.out.2 g2
            obtain ⟨a51, c51, rfl, -, -⟩ := hoX.rows.open_
            have HL51 : Hid ([v] ∈ all1 ∧ IsFacets (linkI all1 [v]) L51) := ⟨hv2, hL2⟩
            have HC_52 : Hid ((w51.setCell ⟨bD, 0, none⟩ (.slice a51 L51.length c51)).cell? ⟨bC, 0, none⟩ = some (.slice a48 L48.length c48) ∧ (w51.setCell ⟨bD, 0, none⟩ (.slice a51 L51.length c51)).frozen? ⟨bC, 0, none⟩ = false) := box_far HC_51.out (by omega) _
            have HD_52 : Hid ((w51.setCell ⟨bD, 0, none⟩ (.slice a51 L51.length c51)).cell? ⟨bD, 0, none⟩ = some (.slice a51 L51.length c51) ∧ (w51.setCell ⟨bD, 0, none⟩ (.slice a51 L51.length c51)).frozen? ⟨bD, 0, none⟩ = false) := box_put HD_51.out _
            have HC52 : Hid (Below w5.heap.size w5 (w51.setCell ⟨bD, 0, none⟩ (.slice a51 L51.length c51))) := HC51.out.setCell (p := ⟨bD, 0, none⟩) hbD5 _
            obtain ⟨nB, hnB⟩ : ∃ nB, (w49.alloc (.cells #[.int .i64 v] 3)).heap.size = nB := ⟨_, rfl⟩
            rw [hnB] at hoX hltX
            have HR52 : Hid (OwnRows nB (w51.setCell ⟨bD, 0, none⟩ (.slice a51 L51.length c51)) (.slice a51 L51.length c51) L51) := hoX.setCell (p := ⟨bD, 0, none⟩) hltX _
            have hCnB : bC < nB := Nat.lt_trans hbCD hltX
            clear hnB
            clear hoX hL2 g2 hv2 hltX HC51 HC_51 HD_51
            go_upto_region 38 with fail
            obtain ⟨w52, hW⟩ : ∃ W, w51.setCell ⟨bD, 0, none⟩ (.slice a51 L51.length c51) = W := ⟨_, rfl⟩
            rw [hW] at HC_52 HD_52 HC52 HR52
            rw [hW]
            clear hW hcb hzb vD
            obtain ⟨vC, hvC⟩ : ∃ vC, Value.slice a48 L48.length c48 = vC := ⟨_, rfl⟩
            rw [hvC] at HC_52
            clear hvC
            have hcx := cx_ va A _ (HA0.out.below HC52.out) hA1 hA2
            go_wp2_with fail
            refine hcx.mono ?_
            clear hcx
            rintro e w53 ⟨v53, rfl, hrX, hBX⟩
            have HC53 : Hid (Below w5.heap.size w5 w53) := HC52.out.trans (hBX.mono HC52.out.size)
            have HR53 : Hid (Rows w53 v53 A) := hrX
            have HQ53 : Hid (OwnRows nB w53 (.slice a51 L51.length c51) L51) := HR52.out.below hBX
            have HC_53 : Hid (w53.cell? ⟨bC, 0, none⟩ = some vC ∧ w53.frozen? ⟨bC, 0, none⟩ = false) := box_at HC_52.out hBX
            have HD_53 : Hid (w53.cell? ⟨bD, 0, none⟩ = some (.slice a51 L51.length c51) ∧ w53.frozen? ⟨bD, 0, none⟩ = false) := box_at HD_52.out hBX
            clear hrX hBX HC52 HC_52 HD_52 HR52
            have hBX : Below w53.heap.size w53 (w53.alloc (.cells #[.int .i64 v] 3)) := (Below.refl _ w53).alloc (Nat.le_refl _) _
            have HC54 : Hid (Below w5.heap.size w5 (w53.alloc (.cells #[.int .i64 v] 3))) := HC53.out.trans (hBX.mono HC53.out.size)
            have hst := together_ (.slice af f.length cf) (.slice (some ⟨w53.heap.size, 0, none⟩) 1 1) f [v] (w53.alloc (.cells #[.int .i64 v] 3)) (HF0.out.below HC54.out) (slice_one w53 (.int .i64 v) 3) (by omega) (by simp)
            have HB54 : Hid (Below w53.heap.size w53 (w53.alloc (.cells #[.int .i64 v] 3))) := hBX
            clear hBX
            go_wp2_with fail
            refine hst.mono ?_
            clear hst
            rintro e w55 ⟨v55, out, rfl, hIo, hro, hmo, hBX⟩
            have HB55 : Hid (Below w53.heap.size w53 w55) := HB54.out.trans (hBX.mono HB54.out.size)
            have HC55 : Hid (Below w5.heap.size w5 w55) := HC53.out.trans (HB55.out.mono HC53.out.size)
            have hout := link_out HGA.out HL48.out.1 HL51.out.1 hro hmo
            have hol := HGA.out.short out hout
            have HLL : Hid (∀ y, FaceOf (linkI all1 [v]) y ↔ FaceOf (linkI allA out) y) := link_link HGA.out HL48.out.1 HL48.out.2 HL51.out.1 hmo
            have hst := link_call v53 v55 A out w55 (hE0.below HC55.out) (HR53.out.below HB55.out) hA1 hA2 hIo (by omega)
            have HOU : Hid (out ∈ allA) := hout
            have HQ55 : Hid (OwnRows nB w55 (.slice a51 L51.length c51) L51) := HQ53.out.below HB55.out
            have HC_55 : Hid (w55.cell? ⟨bC, 0, none⟩ = some vC ∧ w55.frozen? ⟨bC, 0, none⟩ = false) := box_at HC_53.out HB55.out
            have HD_55 : Hid (w55.cell? ⟨bD, 0, none⟩ = some (.slice a51 L51.length c51) ∧ w55.frozen? ⟨bD, 0, none⟩ = false) := box_at HD_53.out HB55.out
            clear hBX hIo hro hmo hout HB54 HB55 HC53 HC54 HR53 HQ53 HC_53 HD_53
            go_wp2_with fail
            refine hst.mono ?_
            clear hst
            rintro e w56 ⟨hBX, ⟨i, hi, rfl⟩ | ⟨v56, L56, ⟨all3, g3, hm3, hL3⟩, rfl, hoX⟩⟩
            · exfalso
              rcases hi with hi | ⟨_, all3, g3, hn3⟩
              · exact bad_good hi HGA.out
              · rw [← good_one HGA.out g3] at hn3; exact hn3 HOU.out
            obtain rfl := good_one HGA.out g3
            obtain ⟨a56, c56, rfl, -, -⟩ := hoX.rows.open_
            have heq : L56 = L51 := (facets_one HLL.out HL51.out.2 hL3).symm
            have HC56 : Hid (Below w5.heap.size w5 w56) := HC55.out.trans (hBX.mono HC55.out.size)
            have HC_56 : Hid (w56.cell? ⟨bC, 0, none⟩ = some vC ∧ w56.frozen? ⟨bC, 0, none⟩ = false) := box_at HC_55.out hBX
            have HD_56 : Hid (w56.cell? ⟨bD, 0, none⟩ = some (.slice a51 L51.length c51) ∧ w56.frozen? ⟨bD, 0, none⟩ = false) := box_at HD_55.out hBX
            have hltX : bC < w55.heap.size := cell_lt HC_55.out.1
            have HQ56 : Hid (Rows (w56.setCell ⟨bC, 0, none⟩ (.slice a56 L56.length c56)) (.slice a51 L51.length c51) L51) := ((HQ55.out.below hBX).setCell (p := ⟨bC, 0, none⟩) hCnB _).rows
            have hcc := (box_put HC_56.out (.slice a56 L56.length c56)).1
            have hcd := (box_far HD_56.out (by omega) (.slice a56 L56.length c56) : (w56.setCell ⟨bC, 0, none⟩ (.slice a56 L56.length c56)).cell? ⟨bD, 0, none⟩ = some (.slice a51 L51.length c51) ∧ _).1
            have hcb := HC_56.out.1
            have hzb := HC_56.out.2
            obtain ⟨all4, g4, -⟩ := link_good HGA.out hL3
            have hx1 : L56.length ≤ 1000000 := by have := g4.numb.1; omega
            have hx2 : ∀ x ∈ L56, x.length ≤ 1000000 := fun x hx => by have := g4.numb.2.1 x hx; omega
            clear g4
            have hst := same_lists _ _ L56 L51 _ ((hoX.setCell (p := ⟨bC, 0, none⟩) hltX (.slice a56 L56.length c56)).rows) HQ56.out hx1 hx2
            rw [decide_eq_true heq] at hst
            clear hoX hL3 g3 hm3 heq hltX hBX HC55 HC_55 HD_55 HC_56 HD_56 HQ55 HQ56
            go_wp2_with fail
            refine hst.mono ?_
            clear hst
            rintro e w57 ⟨rfl, n, rfl⟩
            go_wp2
            go_ret
            have hB57 : Below w5.heap.size w5 ((w56.setCell ⟨bC, 0, none⟩ (.slice a56 L56.length c56)).drewN n) := (HC56.out.setCell (p := ⟨bC, 0, none⟩) hbC5 (.slice a56 L56.length c56)).trans ⟨rfl, rfl, rfl, Nat.le_refl _, fun _ _ => rfl⟩
            exact ⟨rfl, HB5.out.trans (hB57.mono HB5.out.size)⟩


end Go.Proofs.YtkmecdgnoemimaaDoor
