/- The reference's SumOf: what is in just one of two lists. -/
import Derived.Test.YtiblgnkjjbbmaaaDoorCupCut
import Derived.Test.YtiblgnkjjbbmaaaDoorSorted
namespace Go.Proofs.YtiblgnkjjbbmaaaDoor
open Go.RowKit Go.Sort

/-- What of one list is not in the other. -/
def onlyL (f g : List Int) : List Int := f.filter (fun v => !g.contains v)
theorem onlyL_take {f g : List Int} {k : Nat} (hk : k < f.length) : onlyL (f.take (k + 1)) g = if g.contains (f[k]?.getD 0) = true then onlyL (f.take k) g else onlyL (f.take k) g ++ [f[k]?.getD 0] := by
  unfold onlyL
  rw [take_co hk, List.filter_append]
  cases h : g.contains (f[k]?.getD 0)
  · rw [List.filter_cons_of_pos (by rw [h]; rfl)]; simp
  · rw [List.filter_cons_of_neg (by rw [h]; simp)]; simp
theorem onlyL_len (f g : List Int) : (onlyL f g).length ≤ f.length := List.length_filter_le _ _
theorem sum_told {x y : Nat} (hx : x < 2 ^ 64) (hy : y < 2 ^ 64) {out : List Int} (hr : Rising out) (hm : ∀ v, v ∈ out ↔ v ∈ onlyL (bitsI x) (bitsI y) ++ onlyL (bitsI y) (bitsI x)) : out = bitsI (x ^^^ y) := by
  have hk : ∀ v, v ∈ out → 0 ≤ v := fun v hv => by
    have h := (hm v).1 hv
    unfold onlyL at h
    rcases List.mem_append.1 h with h | h
    · exact natsI_nonneg v (List.mem_filter.1 h).1
    · exact natsI_nonneg v (List.mem_filter.1 h).1
  refine ints_told hr (natsI_rising (bitsN_rising _)) hk natsI_nonneg (fun k => ?_)
  have hxy := xor_lt hx hy
  have e1 : ((k : Int) ∈ bitsI (x ^^^ y)) ↔ (x ^^^ y).testBit k = true := by rw [← bitsI_has hxy, List.contains_iff_mem]
  have e2 : ((k : Int) ∈ bitsI x) ↔ x.testBit k = true := by rw [← bitsI_has hx, List.contains_iff_mem]
  have e3 : ((k : Int) ∈ bitsI y) ↔ y.testBit k = true := by rw [← bitsI_has hy, List.contains_iff_mem]
  rw [e1, hm, List.mem_append]
  unfold onlyL
  rw [List.mem_filter, List.mem_filter, e2, e3, bitsI_has hx, bitsI_has hy, Nat.testBit_xor]
  cases x.testBit k <;> cases y.testBit k <;> simp

set_option maxRecDepth 100000 in
set_option maxHeartbeats 2000000 in
theorem sumOf_ (vf vg : Value) (x y : Nat) (hx : x < 2 ^ 64) (hy : y < 2 ^ 64) (w : World) (hf : Ints w vf (bitsI x)) (hg : Ints w vg (bitsI y)) :
    Calls Tryd.prog 13 #[vf, vg] w fun e w' => ∃ v, e = .returned v ∧ IntsIn (fun b => w.heap.size ≤ b) w' v (bitsI (x ^^^ y)) ∧ Below w.heap.size w w' := by
  obtain ⟨i0, hi, hz0, hz1, hz2⟩ := info_parts Tryd.info3
  have HTL : Hid (∀ {out : List Int}, Rising out → (∀ v, v ∈ out ↔ v ∈ onlyL (bitsI x) (bitsI y) ++ onlyL (bitsI y) (bitsI x)) → out = bitsI (x ^^^ y)) := fun {out} h1 h2 => sum_told hx hy h1 h2
  have hl1 := bitsI_len x
  have hl2 := bitsI_len y
  obtain ⟨f, hfe⟩ : ∃ f, bitsI x = f := ⟨_, rfl⟩
  obtain ⟨g, hge⟩ : ∃ g, bitsI y = g := ⟨_, rfl⟩
  obtain ⟨s, hse⟩ : ∃ s, bitsI (x ^^^ y) = s := ⟨_, rfl⟩
  rw [hfe, hge, hse] at HTL
  rw [hfe] at hf hl1
  rw [hge] at hg hl2
  rw [hse]
  have HI := Hid.mk' (And.intro hf hg)
  obtain ⟨af, cf, rfl, -, hfx⟩ := hf.open_
  obtain ⟨ag, cg, rfl, -, hgx⟩ := hg.open_
  have HFX := Hid.mk' hfx
  have HGX := Hid.mk' hgx
  obtain ⟨mf, hmf⟩ : ∃ m, f.length = m := ⟨_, rfl⟩
  obtain ⟨mg, hmg⟩ : ∃ m, g.length = m := ⟨_, rfl⟩
  have HMM := Hid.mk' (And.intro hmf hmg)
  rw [hmf, hmg] at HI
  rw [hmf] at hl1
  rw [hmg] at hl2
  rw [hmf, hmg]
  clear hf hg hfx hgx hfe hge hse hmf hmg hx hy
  go_enter Tryd.func13, Tryd.ntmps13
  go_wp2_with fail
  go_loopw [5, 6] (fun v p W => ∃ (k : Nat) (L : List Int), k ≤ mf ∧ p = .int .i64 (k : Int) ∧ Hid (L = onlyL (f.take k) g ∧ W.ownsRow w.heap.size 3 1 v L.length (L.map (Value.int .i64)) ∧ Below w.heap.size w W)) (fun _ p _ => mf - (intOf p).toNat)
  case atStart => exact ⟨0, [], by omega, rfl, rfl, World.ownsRow_nil _ _ _ _, Below.refl _ _⟩
  case round =>
    obtain ⟨k, L, hk, rfl, HR⟩ := hrel
    obtain ⟨aL, cL, rfl⟩ := own_form HR.out.2.1
    have hLl : L.length ≤ 64 := by
      rw [HR.out.1]
      have h1 := onlyL_len (f.take k) g
      have h2 : (f.take k).length ≤ f.length := List.length_take_le' _ _
      have := HMM.out.1
      omega
    obtain ⟨M, hM⟩ : ∃ M, L.length = M := ⟨_, rfl⟩
    have HM := Hid.mk' hM
    rw [hM] at hLl ⊢
    clear hM
    by_cases hlt : k < mf
    · have hkf : k < f.length := by rw [HMM.out.1]; exact hlt
      obtain ⟨b, o, rfl, -, hbl, hcs⟩ := HFX.out (by omega)
      have g1 : wr.cell? ⟨b, o + k, none⟩ = some (.int .i64 (f[k]?.getD 0)) := (HR.out.2.2.cell (p := ⟨b, o + k, none⟩) hbl).trans (hcs k hkf)
      obtain ⟨z, hz⟩ : ∃ z, f[k]?.getD 0 = z := ⟨_, rfl⟩
      have hct := contains_ (.slice ag mg cg) g z wr (HI.out.2.below HR.out.2.2) (by have := HMM.out.2; omega)
      have HO : Hid (onlyL (f.take (k + 1)) g = if g.contains z = true then L else L ++ [z]) := by
        show onlyL (f.take (k + 1)) g = if g.contains z = true then L else L ++ [z]
        rw [onlyL_take hkf, hz, ← HR.out.1]
      rw [hz] at g1
      obtain ⟨t, ht⟩ : ∃ t, g.contains z = t := ⟨_, rfl⟩
      rw [ht] at hct HO
      have hown : ∀ q, (wr.drewN q).ownsRow w.heap.size 3 1 (.slice aL M cL) M (L.map (Value.int .i64)) ∧ Below w.heap.size w (wr.drewN q) ∧ (wr.drewN q).cell? ⟨b, o + k, none⟩ = some (.int .i64 z) := fun q => by
        have h1 := HR.out.2.1
        rw [HM.out] at h1
        exact ⟨h1.kept (Below.grownBy (drew_below wr _)) (by cases (Value.slice aL M cL).ownBlock <;> simp), HR.out.2.2.trans (drew_below _ _), g1⟩
      have HW := Hid.mk' hown
      clear hz ht hcs hbl hown
      go_wp2_with fail
      refine hct.mono ?_
      clear hct
      rintro e V1 ⟨rfl, q, rfl⟩
      have HB := Hid.mk' (HW.out q)
      have g2 := (HW.out q).2.2
      obtain ⟨V, hV⟩ : ∃ V, wr.drewN q = V := ⟨_, rfl⟩
      rw [hV] at HB g2 ⊢
      clear hV g1 HW
      cases t with
      | true =>
        go_wp2_with fail
        go_roundw
        case rel => exact ⟨k + 1, L, by omega, by go_num, by rw [HO.out]; simp, by rw [HM.out]; exact HB.out.1, HB.out.2.1⟩
        case measure => simp [intOf]; omega
      | false =>
        go_wp2_with (first
          | (at_builtin; refine wpList_append_slice rfl (.tmp 26) (.tmp 31) 23 rfl w.heap.size 3 i0 (.int .i64 0) 8 Tryd.underlying23 hi hz0 hz1 hz2 rfl _ _ _ rfl (HB.out.1.alloc _) _ [.int .i64 z] rfl (slice_one _ _ _) (by simp [Value.oneCell']) (by simp; omega) (by unfold maxLen; simp; omega) (by have := HB.out.2.1.size; simp; omega) ?_; intro v6 w6 hown6 hg6 hl6)
          | fail)
        have HE6 : Hid (w6.ownsRow w.heap.size 3 1 v6 (L ++ [z]).length ((L ++ [z]).map (Value.int .i64)) ∧ Below w.heap.size w w6) := by
          refine ⟨by rw [List.map_append, List.length_append, HM.out]; exact hown6, ?_⟩
          exact (HB.out.2.1.alloc HB.out.2.1.size _).grown hg6 (by have := HB.out.2.1.size; simp; omega) (fun j hj => by have := (HB.out.1.lt j hj).1; omega)
        obtain ⟨a6, c6, rfl⟩ := own_form hown6
        clear hown6 hg6 hl6
        go_wp2_with fail
        go_roundw
        case rel => exact ⟨k + 1, L ++ [z], by omega, by go_num, by rw [HO.out]; simp, HE6.out.1, HE6.out.2⟩
        case measure => simp [intOf]; omega
    · have hkm : k = mf := by omega
      subst hkm
      have HL0 : Hid (L = onlyL f g) := by
        have h1 := HR.out.1
        rw [← HMM.out.1, List.take_length] at h1
        exact h1
      have HS : Hid (wr.ownsRow w.heap.size 3 1 (.slice aL M cL) M (L.map (Value.int .i64)) ∧ Below w.heap.size w wr) := by
        have h1 := HR.out.2.1
        rw [HM.out] at h1
        exact ⟨h1, HR.out.2.2⟩
      have hL64 := hLl
      clear HR
      go_wp2_with fail
      go_loopw [5, 8] (fun v p W => ∃ (j : Nat) (R : List Int), j ≤ mg ∧ p = .int .i64 (j : Int) ∧ Hid (R = L ++ onlyL (g.take j) f ∧ W.ownsRow w.heap.size 3 1 v R.length (R.map (Value.int .i64)) ∧ Below w.heap.size w W)) (fun _ p _ => mg - (intOf p).toNat)
      case atStart => exact ⟨0, L, by omega, rfl, by simp [onlyL], by rw [HM.out]; exact HS.out.1, HS.out.2⟩
      case round =>
        obtain ⟨j, R, hj, rfl, HR⟩ := hrel
        obtain ⟨aR, cR, rfl⟩ := own_form HR.out.2.1
        have hRl : R.length ≤ 128 := by
          rw [HR.out.1, List.length_append]
          have h1 := onlyL_len (g.take j) f
          have h2 : (g.take j).length ≤ g.length := List.length_take_le' _ _
          have := HMM.out.2
          have := HM.out
          omega
        obtain ⟨K, hK⟩ : ∃ K, R.length = K := ⟨_, rfl⟩
        have HKK := Hid.mk' hK
        rw [hK] at hRl ⊢
        clear hK
        by_cases hlt2 : j < mg
        · have hjg : j < g.length := by rw [HMM.out.2]; exact hlt2
          obtain ⟨b, o, rfl, -, hbl, hcs⟩ := HGX.out (by omega)
          have g1 : wr.cell? ⟨b, o + j, none⟩ = some (.int .i64 (g[j]?.getD 0)) := (HR.out.2.2.cell (p := ⟨b, o + j, none⟩) hbl).trans (hcs j hjg)
          obtain ⟨z, hz⟩ : ∃ z, g[j]?.getD 0 = z := ⟨_, rfl⟩
          have hct := contains_ (.slice af k cf) f z wr (HI.out.1.below HR.out.2.2) (by have := HMM.out.1; omega)
          have HO : Hid (L ++ onlyL (g.take (j + 1)) f = if f.contains z = true then R else R ++ [z]) := by
            show L ++ onlyL (g.take (j + 1)) f = if f.contains z = true then R else R ++ [z]
            rw [onlyL_take hjg, hz, HR.out.1]
            split <;> simp
          rw [hz] at g1
          obtain ⟨t, ht⟩ : ∃ t, f.contains z = t := ⟨_, rfl⟩
          rw [ht] at hct HO
          have HW : Hid (∀ q, (wr.drewN q).ownsRow w.heap.size 3 1 (.slice aR K cR) K (R.map (Value.int .i64)) ∧ Below w.heap.size w (wr.drewN q) ∧ (wr.drewN q).cell? ⟨b, o + j, none⟩ = some (.int .i64 z)) := fun q => by
            have h1 := HR.out.2.1
            rw [HKK.out] at h1
            exact ⟨h1.kept (Below.grownBy (drew_below wr _)) (by cases (Value.slice aR K cR).ownBlock <;> simp), HR.out.2.2.trans (drew_below _ _), g1⟩
          clear hz ht hcs hbl
          go_wp2_with fail
          refine hct.mono ?_
          clear hct
          rintro e V1 ⟨rfl, q, rfl⟩
          have HB := Hid.mk' (HW.out q)
          have g2 := (HW.out q).2.2
          obtain ⟨V, hV⟩ : ∃ V, wr.drewN q = V := ⟨_, rfl⟩
          rw [hV] at HB g2 ⊢
          clear hV g1 HW
          cases t with
          | true =>
            go_wp2_with fail
            go_roundw
            case rel => exact ⟨j + 1, R, by omega, by go_num, by rw [HO.out]; simp, by rw [HKK.out]; exact HB.out.1, HB.out.2.1⟩
            case measure => simp [intOf]; omega
          | false =>
            go_wp2_with (first
              | (at_builtin; refine wpList_append_slice rfl (.tmp 47) (.tmp 52) 23 rfl w.heap.size 3 i0 (.int .i64 0) 8 Tryd.underlying23 hi hz0 hz1 hz2 rfl _ _ _ rfl (HB.out.1.alloc _) _ [.int .i64 z] rfl (slice_one _ _ _) (by simp [Value.oneCell']) (by simp; omega) (by unfold maxLen; simp; omega) (by have := HB.out.2.1.size; simp; omega) ?_; intro v6 w6 hown6 hg6 hl6)
              | fail)
            have HE6 : Hid (w6.ownsRow w.heap.size 3 1 v6 (R ++ [z]).length ((R ++ [z]).map (Value.int .i64)) ∧ Below w.heap.size w w6) := by
              refine ⟨by rw [List.map_append, List.length_append, HKK.out]; exact hown6, ?_⟩
              exact (HB.out.2.1.alloc HB.out.2.1.size _).grown hg6 (by have := HB.out.2.1.size; simp; omega) (fun j hj => by have := (HB.out.1.lt j hj).1; omega)
            obtain ⟨a6, c6, rfl⟩ := own_form hown6
            clear hown6 hg6 hl6
            go_wp2_with fail
            go_roundw
            case rel => exact ⟨j + 1, R ++ [z], by omega, by go_num, by rw [HO.out]; simp, HE6.out.1, HE6.out.2⟩
            case measure => simp [intOf]; omega
        · have hjm : j = mg := by omega
          subst hjm
          have HRR : Hid (R = onlyL f g ++ onlyL g f) := by
            have h1 := HR.out.1
            rw [← HMM.out.2, List.take_length, HL0.out] at h1
            exact h1
          have hin : Ints wr (.slice aR K cR) R := by
            have h1 := HR.out.2.1
            rw [HKK.out] at h1
            exact slice_of_owns h1 (fun _ _ _ => trivial)
          have hso := sorted_ (.slice aR K cR) R wr hin (by rw [HKK.out]; omega)
          have HBB := Hid.mk' HR.out.2.2
          clear hin HR
          go_wp2_with fail
          refine hso.mono ?_
          clear hso
          rintro e V ⟨v, out, rfl, hv, hr, hm, hlen, hB⟩
          have HEE : Hid (IntsIn (fun b => w.heap.size ≤ b) V v s ∧ Below w.heap.size w V) := by
            refine ⟨?_, HBB.out.trans (hB.mono HBB.out.size)⟩
            rw [← HTL.out hr (fun u => by rw [hm, HRR.out])]
            exact SliceIn.mono hv (fun b _ h => by have := HBB.out.size; omega)
          obtain ⟨a9, c9, rfl, -, -⟩ := hv.open_
          clear hv hr hm hB
          go_wp2_with fail
          go_ret
          exact ⟨_, rfl, HEE.out⟩

end Go.Proofs.YtiblgnkjjbbmaaaDoor
