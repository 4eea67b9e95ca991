/- Worlds that have drawn; the numbers below n of which something holds, one more. The reference's SumOf: what is in just one of two lists. The reference's Span: what is left of a cochain; rows that are replaced in place. -/
import Derived.Test.YtldknhganoiajaaGreatDoorCupRefMath
import Derived.Test.YtldknhganoiajaaGreatDoorRefC
import Derived.Test.YtldknhganoiajaaGreatDoorSorted
import Derived.Laws.OwnMore
namespace Go.Proofs.YtldknhganoiajaaGreatDoor
open Go.RowKit Go.Sort

theorem filter_next (p : Nat → Bool) (k : Nat) : (List.range (k + 1)).filter p = if p k = true then (List.range k).filter p ++ [k] else (List.range k).filter p := by
  rw [List.range_succ, List.filter_append]
  cases h : p k <;> simp [h]
theorem drew_cell (w : World) (n : Nat) (p : Addr) : (w.drewN n).cell? p = w.cell? p := rfl
theorem drew_below {m : Nat} (w : World) (n : Nat) : Below m w (w.drewN n) := ⟨rfl, rfl, rfl, Nat.le_refl _, fun _ _ => rfl⟩

end Go.Proofs.YtldknhganoiajaaGreatDoor

namespace Go.Proofs.YtldknhganoiajaaGreatDoor
open Go.RowKit Go.Sort

/-- What of one list is not in the other. -/
def onlyL (f g : List Int) : List Int := f.filter (fun v => !g.contains v)
theorem onlyL_take {f g : List Int} {k : Nat} (hk : k < f.length) : onlyL (f.take (k + 1)) g = if g.contains (f[k]?.getD 0) = true then onlyL (f.take k) g else onlyL (f.take k) g ++ [f[k]?.getD 0] := by
  unfold onlyL
  rw [take_co hk, List.filter_append]
  cases h : g.contains (f[k]?.getD 0)
  · rw [List.filter_cons_of_pos (by rw [h]; rfl)]; simp
  · rw [List.filter_cons_of_neg (by rw [h]; simp)]; simp
theorem onlyL_len (f g : List Int) : (onlyL f g).length ≤ f.length := List.length_filter_le _ _
theorem sum_told {x y : Nat} (hx : x < 2 ^ 64) (hy : y < 2 ^ 64) {out : List Int} (hr : Rising out) (hm : ∀ v, v ∈ out ↔ v ∈ onlyL (bitsI x) (bitsI y) ++ onlyL (bitsI y) (bitsI x)) : out = bitsI (x ^^^ y) := by
  have hk : ∀ v, v ∈ out → 0 ≤ v := fun v hv => by
    have h := (hm v).1 hv
    unfold onlyL at h
    rcases List.mem_append.1 h with h | h
    · exact natsI_nonneg v (List.mem_filter.1 h).1
    · exact natsI_nonneg v (List.mem_filter.1 h).1
  refine ints_told hr (natsI_rising (bitsN_rising _)) hk natsI_nonneg (fun k => ?_)
  have hxy := xor_lt hx hy
  have e1 : ((k : Int) ∈ bitsI (x ^^^ y)) ↔ (x ^^^ y).testBit k = true := by rw [← bitsI_has hxy, List.contains_iff_mem]
  have e2 : ((k : Int) ∈ bitsI x) ↔ x.testBit k = true := by rw [← bitsI_has hx, List.contains_iff_mem]
  have e3 : ((k : Int) ∈ bitsI y) ↔ y.testBit k = true := by rw [← bitsI_has hy, List.contains_iff_mem]
  rw [e1, hm, List.mem_append]
  unfold onlyL
  rw [List.mem_filter, List.mem_filter, e2, e3, bitsI_has hx, bitsI_has hy, Nat.testBit_xor]
  cases x.testBit k <;> cases y.testBit k <;> simp

set_option maxRecDepth 100000 in
set_option maxHeartbeats 2000000 in
theorem sumOf_ (vf vg : Value) (x y : Nat) (hx : x < 2 ^ 64) (hy : y < 2 ^ 64) (w : World) (hf : Ints w vf (bitsI x)) (hg : Ints w vg (bitsI y)) :
    Calls Tryz.prog 47 #[vf, vg] w fun e w' => ∃ v, e = .returned v ∧ IntsIn (fun b => w.heap.size ≤ b) w' v (bitsI (x ^^^ y)) ∧ Below w.heap.size w w' := by
  obtain ⟨i0, hi, hz0, hz1, hz2⟩ := info_parts Tryz.info3
  have HTL : Hid (∀ {out : List Int}, Rising out → (∀ v, v ∈ out ↔ v ∈ onlyL (bitsI x) (bitsI y) ++ onlyL (bitsI y) (bitsI x)) → out = bitsI (x ^^^ y)) := fun {out} h1 h2 => sum_told hx hy h1 h2
  have hl1 := bitsI_len x
  have hl2 := bitsI_len y
  obtain ⟨f, hfe⟩ : ∃ f, bitsI x = f := ⟨_, rfl⟩
  obtain ⟨g, hge⟩ : ∃ g, bitsI y = g := ⟨_, rfl⟩
  obtain ⟨s, hse⟩ : ∃ s, bitsI (x ^^^ y) = s := ⟨_, rfl⟩
  rw [hfe, hge, hse] at HTL
  rw [hfe] at hf hl1
  rw [hge] at hg hl2
  rw [hse]
  have HI := Hid.mk' (And.intro hf hg)
  obtain ⟨af, cf, rfl, -, hfx⟩ := hf.open_
  obtain ⟨ag, cg, rfl, -, hgx⟩ := hg.open_
  have HFX := Hid.mk' hfx
  have HGX := Hid.mk' hgx
  obtain ⟨mf, hmf⟩ : ∃ m, f.length = m := ⟨_, rfl⟩
  obtain ⟨mg, hmg⟩ : ∃ m, g.length = m := ⟨_, rfl⟩
  have HMM := Hid.mk' (And.intro hmf hmg)
  rw [hmf, hmg] at HI
  rw [hmf] at hl1
  rw [hmg] at hl2
  rw [hmf, hmg]
  clear hf hg hfx hgx hfe hge hse hmf hmg hx hy
  go_enter Tryz.func47, Tryz.ntmps47
  go_wp2_with fail
  go_loopw [5, 6] (fun v p W => ∃ (k : Nat) (L : List Int), k ≤ mf ∧ p = .int .i64 (k : Int) ∧ Hid (L = onlyL (f.take k) g ∧ W.ownsRow w.heap.size 3 1 v L.length (L.map (Value.int .i64)) ∧ Below w.heap.size w W)) (fun _ p _ => mf - (intOf p).toNat)
  case atStart => exact ⟨0, [], by omega, rfl, rfl, World.ownsRow_nil _ _ _ _, Below.refl _ _⟩
  case round =>
    obtain ⟨k, L, hk, rfl, HR⟩ := hrel
    obtain ⟨aL, cL, rfl⟩ := own_form HR.out.2.1
    have hLl : L.length ≤ 64 := by
      rw [HR.out.1]
      have h1 := onlyL_len (f.take k) g
      have h2 : (f.take k).length ≤ f.length := List.length_take_le' _ _
      have := HMM.out.1
      omega
    obtain ⟨M, hM⟩ : ∃ M, L.length = M := ⟨_, rfl⟩
    have HM := Hid.mk' hM
    rw [hM] at hLl ⊢
    clear hM
    by_cases hlt : k < mf
    · have hkf : k < f.length := by rw [HMM.out.1]; exact hlt
      obtain ⟨b, o, rfl, -, hbl, hcs⟩ := HFX.out (by omega)
      have g1 : wr.cell? ⟨b, o + k, none⟩ = some (.int .i64 (f[k]?.getD 0)) := (HR.out.2.2.cell (p := ⟨b, o + k, none⟩) hbl).trans (hcs k hkf)
      obtain ⟨z, hz⟩ : ∃ z, f[k]?.getD 0 = z := ⟨_, rfl⟩
      have hct := contains_ (.slice ag mg cg) g z wr (HI.out.2.below HR.out.2.2) (by have := HMM.out.2; omega)
      have HO : Hid (onlyL (f.take (k + 1)) g = if g.contains z = true then L else L ++ [z]) := by
        show onlyL (f.take (k + 1)) g = if g.contains z = true then L else L ++ [z]
        rw [onlyL_take hkf, hz, ← HR.out.1]
      rw [hz] at g1
      obtain ⟨t, ht⟩ : ∃ t, g.contains z = t := ⟨_, rfl⟩
      rw [ht] at hct HO
      have hown : ∀ q, (wr.drewN q).ownsRow w.heap.size 3 1 (.slice aL M cL) M (L.map (Value.int .i64)) ∧ Below w.heap.size w (wr.drewN q) ∧ (wr.drewN q).cell? ⟨b, o + k, none⟩ = some (.int .i64 z) := fun q => by
        have h1 := HR.out.2.1
        rw [HM.out] at h1
        exact ⟨h1.kept (Below.grownBy (drew_below wr _)) (by cases (Value.slice aL M cL).ownBlock <;> simp), HR.out.2.2.trans (drew_below _ _), g1⟩
      have HW := Hid.mk' hown
      clear hz ht hcs hbl hown
      go_wp2_with fail
      refine hct.mono ?_
      clear hct
      rintro e V1 ⟨rfl, q, rfl⟩
      have HB := Hid.mk' (HW.out q)
      have g2 := (HW.out q).2.2
      obtain ⟨V, hV⟩ : ∃ V, wr.drewN q = V := ⟨_, rfl⟩
      rw [hV] at HB g2 ⊢
      clear hV g1 HW
      cases t with
      | true =>
        go_wp2_with fail
        go_roundw
        case rel => exact ⟨k + 1, L, by omega, by go_num, by rw [HO.out]; simp, by rw [HM.out]; exact HB.out.1, HB.out.2.1⟩
        case measure => simp [intOf]; omega
      | false =>
        go_wp2_with (first
          | (at_builtin; refine wpList_append_slice rfl (.tmp 26) (.tmp 31) 39 rfl w.heap.size 3 i0 (.int .i64 0) 8 Tryz.underlying39 hi hz0 hz1 hz2 rfl _ _ _ rfl (HB.out.1.alloc _) _ [.int .i64 z] rfl (slice_one _ _ _) (by simp [Value.oneCell']) (by simp; omega) (by unfold maxLen; simp; omega) (by have := HB.out.2.1.size; simp; omega) ?_; intro v6 w6 hown6 hg6 hl6)
          | fail)
        have HE6 : Hid (w6.ownsRow w.heap.size 3 1 v6 (L ++ [z]).length ((L ++ [z]).map (Value.int .i64)) ∧ Below w.heap.size w w6) := by
          refine ⟨by rw [List.map_append, List.length_append, HM.out]; exact hown6, ?_⟩
          exact (HB.out.2.1.alloc HB.out.2.1.size _).grown hg6 (by have := HB.out.2.1.size; simp; omega) (fun j hj => by have := (HB.out.1.lt j hj).1; omega)
        obtain ⟨a6, c6, rfl⟩ := own_form hown6
        clear hown6 hg6 hl6
        go_wp2_with fail
        go_roundw
        case rel => exact ⟨k + 1, L ++ [z], by omega, by go_num, by rw [HO.out]; simp, HE6.out.1, HE6.out.2⟩
        case measure => simp [intOf]; omega
    · have hkm : k = mf := by omega
      subst hkm
      have HL0 : Hid (L = onlyL f g) := by
        have h1 := HR.out.1
        rw [← HMM.out.1, List.take_length] at h1
        exact h1
      have HS : Hid (wr.ownsRow w.heap.size 3 1 (.slice aL M cL) M (L.map (Value.int .i64)) ∧ Below w.heap.size w wr) := by
        have h1 := HR.out.2.1
        rw [HM.out] at h1
        exact ⟨h1, HR.out.2.2⟩
      have hL64 := hLl
      clear HR
      go_wp2_with fail
      go_loopw [5, 8] (fun v p W => ∃ (j : Nat) (R : List Int), j ≤ mg ∧ p = .int .i64 (j : Int) ∧ Hid (R = L ++ onlyL (g.take j) f ∧ W.ownsRow w.heap.size 3 1 v R.length (R.map (Value.int .i64)) ∧ Below w.heap.size w W)) (fun _ p _ => mg - (intOf p).toNat)
      case atStart => exact ⟨0, L, by omega, rfl, by simp [onlyL], by rw [HM.out]; exact HS.out.1, HS.out.2⟩
      case round =>
        obtain ⟨j, R, hj, rfl, HR⟩ := hrel
        obtain ⟨aR, cR, rfl⟩ := own_form HR.out.2.1
        have hRl : R.length ≤ 128 := by
          rw [HR.out.1, List.length_append]
          have h1 := onlyL_len (g.take j) f
          have h2 : (g.take j).length ≤ g.length := List.length_take_le' _ _
          have := HMM.out.2
          have := HM.out
          omega
        obtain ⟨K, hK⟩ : ∃ K, R.length = K := ⟨_, rfl⟩
        have HKK := Hid.mk' hK
        rw [hK] at hRl ⊢
        clear hK
        by_cases hlt2 : j < mg
        · have hjg : j < g.length := by rw [HMM.out.2]; exact hlt2
          obtain ⟨b, o, rfl, -, hbl, hcs⟩ := HGX.out (by omega)
          have g1 : wr.cell? ⟨b, o + j, none⟩ = some (.int .i64 (g[j]?.getD 0)) := (HR.out.2.2.cell (p := ⟨b, o + j, none⟩) hbl).trans (hcs j hjg)
          obtain ⟨z, hz⟩ : ∃ z, g[j]?.getD 0 = z := ⟨_, rfl⟩
          have hct := contains_ (.slice af k cf) f z wr (HI.out.1.below HR.out.2.2) (by have := HMM.out.1; omega)
          have HO : Hid (L ++ onlyL (g.take (j + 1)) f = if f.contains z = true then R else R ++ [z]) := by
            show L ++ onlyL (g.take (j + 1)) f = if f.contains z = true then R else R ++ [z]
            rw [onlyL_take hjg, hz, HR.out.1]
            split <;> simp
          rw [hz] at g1
          obtain ⟨t, ht⟩ : ∃ t, f.contains z = t := ⟨_, rfl⟩
          rw [ht] at hct HO
          have HW : Hid (∀ q, (wr.drewN q).ownsRow w.heap.size 3 1 (.slice aR K cR) K (R.map (Value.int .i64)) ∧ Below w.heap.size w (wr.drewN q) ∧ (wr.drewN q).cell? ⟨b, o + j, none⟩ = some (.int .i64 z)) := fun q => by
            have h1 := HR.out.2.1
            rw [HKK.out] at h1
            exact ⟨h1.kept (Below.grownBy (drew_below wr _)) (by cases (Value.slice aR K cR).ownBlock <;> simp), HR.out.2.2.trans (drew_below _ _), g1⟩
          clear hz ht hcs hbl
          go_wp2_with fail
          refine hct.mono ?_
          clear hct
          rintro e V1 ⟨rfl, q, rfl⟩
          have HB := Hid.mk' (HW.out q)
          have g2 := (HW.out q).2.2
          obtain ⟨V, hV⟩ : ∃ V, wr.drewN q = V := ⟨_, rfl⟩
          rw [hV] at HB g2 ⊢
          clear hV g1 HW
          cases t with
          | true =>
            go_wp2_with fail
            go_roundw
            case rel => exact ⟨j + 1, R, by omega, by go_num, by rw [HO.out]; simp, by rw [HKK.out]; exact HB.out.1, HB.out.2.1⟩
            case measure => simp [intOf]; omega
          | false =>
            go_wp2_with (first
              | (at_builtin; refine wpList_append_slice rfl (.tmp 47) (.tmp 52) 39 rfl w.heap.size 3 i0 (.int .i64 0) 8 Tryz.underlying39 hi hz0 hz1 hz2 rfl _ _ _ rfl (HB.out.1.alloc _) _ [.int .i64 z] rfl (slice_one _ _ _) (by simp [Value.oneCell']) (by simp; omega) (by unfold maxLen; simp; omega) (by have := HB.out.2.1.size; simp; omega) ?_; intro v6 w6 hown6 hg6 hl6)
              | fail)
            have HE6 : Hid (w6.ownsRow w.heap.size 3 1 v6 (R ++ [z]).length ((R ++ [z]).map (Value.int .i64)) ∧ Below w.heap.size w w6) := by
              refine ⟨by rw [List.map_append, List.length_append, HKK.out]; exact hown6, ?_⟩
              exact (HB.out.2.1.alloc HB.out.2.1.size _).grown hg6 (by have := HB.out.2.1.size; simp; omega) (fun j hj => by have := (HB.out.1.lt j hj).1; omega)
            obtain ⟨a6, c6, rfl⟩ := own_form hown6
            clear hown6 hg6 hl6
            go_wp2_with fail
            go_roundw
            case rel => exact ⟨j + 1, R ++ [z], by omega, by go_num, by rw [HO.out]; simp, HE6.out.1, HE6.out.2⟩
            case measure => simp [intOf]; omega
        · have hjm : j = mg := by omega
          subst hjm
          have HRR : Hid (R = onlyL f g ++ onlyL g f) := by
            have h1 := HR.out.1
            rw [← HMM.out.2, List.take_length, HL0.out] at h1
            exact h1
          have hin : Ints wr (.slice aR K cR) R := by
            have h1 := HR.out.2.1
            rw [HKK.out] at h1
            exact slice_of_owns h1 (fun _ _ _ => trivial)
          have hso := sorted_ (.slice aR K cR) R wr hin (by rw [HKK.out]; omega)
          have HBB := Hid.mk' HR.out.2.2
          clear hin HR
          go_wp2_with fail
          refine hso.mono ?_
          clear hso
          rintro e V ⟨v, out, rfl, hv, hr, hm, hlen, hB⟩
          have HEE : Hid (IntsIn (fun b => w.heap.size ≤ b) V v s ∧ Below w.heap.size w V) := by
            refine ⟨?_, HBB.out.trans (hB.mono HBB.out.size)⟩
            rw [← HTL.out hr (fun u => by rw [hm, HRR.out])]
            exact SliceIn.mono hv (fun b _ h => by have := HBB.out.size; omega)
          obtain ⟨a9, c9, rfl, -, -⟩ := hv.open_
          clear hv hr hm hB
          go_wp2_with fail
          go_ret
          exact ⟨_, rfl, HEE.out⟩

end Go.Proofs.YtldknhganoiajaaGreatDoor

namespace Go.Proofs.YtldknhganoiajaaGreatDoor
open Go.RowKit Go.Sort

theorem restS_take {rows : List Nat} {k x : Nat} (hk : k < rows.length) : restS (rows.take (k + 1)) x = if (restS (rows.take k) x).testBit (low (rows[k]?.getD 0)) = true then restS (rows.take k) x ^^^ rows[k]?.getD 0 else restS (rows.take k) x := by
  unfold restS
  rw [List.take_add_one, List.getElem?_eq_getElem hk, List.foldl_append]
  rfl
theorem restS_lt {rows : List Nat} (h : ∀ r ∈ rows, r < 2 ^ 64) : ∀ {x : Nat}, x < 2 ^ 64 → restS rows x < 2 ^ 64 := by
  induction rows with
  | nil => intro x hx; exact hx
  | cons r rows ih =>
    intro x hx
    have h' : ∀ r ∈ rows, r < 2 ^ 64 := fun r hr => h r (List.mem_cons_of_mem _ hr)
    show restS rows (if x.testBit (low r) = true then x ^^^ r else x) < 2 ^ 64
    refine ih h' ?_
    split
    · exact xor_lt hx (h r (List.mem_cons_self ..))
    · exact hx
theorem bits_at {rows : List Nat} {k : Nat} (hk : k < rows.length) : (rows.map bitsI)[k]?.getD [] = bitsI (rows[k]?.getD 0) := by
  rw [List.getElem?_map, List.getElem?_eq_getElem hk]; rfl

set_option maxRecDepth 100000 in
set_option maxHeartbeats 2000000 in
theorem rest_ {S : Nat → Prop} (v vf : Value) (rows : List Nat) (x : Nat) (w : World) (hv : Rows w v (rows.map bitsI)) (hrl : rows.length ≤ 1000) (hok : ∀ r ∈ rows, r < 2 ^ 64 ∧ r ≠ 0) (hx : x < 2 ^ 64) (hf : IntsIn S w vf (bitsI x)) (hS : ∀ b, w.heap.size ≤ b → S b) :
    Calls Tryz.prog 45 #[.agg #[v], vf] w fun e w' => ∃ u, e = .returned u ∧ IntsIn S w' u (bitsI (restS rows x)) ∧ Below w.heap.size w w' := by
  obtain ⟨av, cv, rfl, -, hvx⟩ := hv.open_
  rw [List.length_map] at hvx
  have HVX := Hid.mk' hvx
  have HS := Hid.mk' hS
  have HOK := Hid.mk' hok
  rw [List.length_map]
  obtain ⟨n, hn⟩ : ∃ n, rows.length = n := ⟨_, rfl⟩
  have HN := Hid.mk' hn
  rw [hn] at hrl ⊢
  have hB1 : Below w.heap.size w (w.alloc (.cells #[.slice av n cv] 87)) := (Below.refl _ w).alloc (Nat.le_refl _) _
  have q1 := (box_new w (.slice av n cv) 87).1
  obtain ⟨W1, hW1⟩ : ∃ W1, w.alloc (.cells #[.slice av n cv] 87) = W1 := ⟨_, rfl⟩
  have HW1 := Hid.mk' hW1
  have hz1 : W1.heap.size = w.heap.size + 1 := by rw [← hW1]; simp
  have HZ1 := Hid.mk' hz1
  rw [hW1] at hB1 q1
  obtain ⟨af, mf, cf, hvf⟩ : ∃ a m c, vf = .slice a m c := by obtain ⟨a, c, e, -⟩ := hf.open_; exact ⟨a, _, c, e⟩
  have HI : Hid (IntsIn S W1 vf (bitsI x) ∧ Below w.heap.size w W1 ∧ Below W1.heap.size W1 W1) := ⟨hf.below hB1, hB1, Below.refl _ _⟩
  have HX := Hid.mk' hx
  rw [hvf] at HI ⊢
  obtain ⟨B, hBB⟩ : ∃ B, w.heap.size = B := ⟨_, rfl⟩
  rw [hBB] at q1 hz1
  have HBB := Hid.mk' hBB
  clear hv hvx hn hok hS hf hW1 hB1 hvf hx hz1 hBB
  go_enter Tryz.func45, Tryz.ntmps45
  go_upto_region 1 with fail
  rw [HW1.out, HBB.out]
  go_wp2_with fail
  go_loopw [1, 5] (fun u p W => ∃ (k y : Nat) (a : Option Addr) (m c : Nat), k ≤ n ∧ p = .int .i64 (k : Int) ∧ u = .slice a m c ∧ Hid (y = restS (rows.take k) x ∧ y < 2 ^ 64 ∧ IntsIn S W (.slice a m c) (bitsI y) ∧ Below W1.heap.size W1 W)) (fun _ p _ => n - (intOf p).toNat)
  case atStart => exact ⟨0, x, af, mf, cf, by omega, rfl, rfl, rfl, HX.out, HI.out.1, HI.out.2.2⟩
  case round =>
    obtain ⟨k, y, a, m, c, hk, rfl, rfl, HR⟩ := hrel
    have g0 : wr.cell? ⟨B, 0, none⟩ = some (.slice av n cv) := (HR.out.2.2.2.cell (p := ⟨B, 0, none⟩) (by show B < W1.heap.size; have := HZ1.out; have := HBB.out; omega)).trans q1
    by_cases hlt : k < n
    · have hkr : k < rows.length := by rw [HN.out]; exact hlt
      obtain ⟨b, o, rfl, -, hbl, hcs⟩ := HVX.out (by omega)
      obtain ⟨a', c', g1, i1⟩ := hcs k hkr
      rw [bits_at hkr] at g1 i1
      obtain ⟨r, hr⟩ : ∃ r, rows[k]?.getD 0 = r := ⟨_, rfl⟩
      have hrm : r ∈ rows := by rw [← hr, List.getElem?_eq_getElem hkr]; exact List.getElem_mem hkr
      rw [hr] at g1 i1
      obtain ⟨r1, r2⟩ := HOK.out r hrm
      have hl0 : 0 < (bitsI r).length := by
        rcases Nat.eq_zero_or_pos (bitsI r).length with h | h
        · exact absurd ((bitsI_len0 r1).1 h) r2
        · exact h
      have hBw : Below w.heap.size w wr := HI.out.2.1.trans (HR.out.2.2.2.mono (by have := HZ1.out; omega))
      obtain ⟨b', o', rfl, hbl', g3⟩ : ∃ b' o', a' = some ⟨b', o', none⟩ ∧ b' < w.heap.size ∧ w.cell? ⟨b', o', none⟩ = some (.int .i64 (low r : Int)) := by
        obtain ⟨a2, c2, e2, -, h2⟩ := i1.open_
        cases e2
        obtain ⟨b2, o2, e3, -, e4, h3⟩ := h2 hl0
        refine ⟨b2, o2, e3, e4, ?_⟩
        have := h3 0 hl0
        rw [bitsI_head r1 r2] at this
        exact this
      have g2 : wr.cell? ⟨b, o + k, none⟩ = some (.slice (some ⟨b', o', none⟩) (bitsI r).length c') := (hBw.cell (p := ⟨b, o + k, none⟩) hbl).trans g1
      have g4 : wr.cell? ⟨b', o', none⟩ = some (.int .i64 (low r : Int)) := (hBw.cell (p := ⟨b', o', none⟩) hbl').trans g3
      have hct := contains_ (.slice a m c) (bitsI y) (low r : Int) wr HR.out.2.2.1.any (by have := bitsI_len y; omega)
      rw [bitsI_has HR.out.2.1] at hct
      have HSU : Hid (∀ q, Calls Tryz.prog 47 #[.slice a m c, .slice (some ⟨b', o', none⟩) (bitsI r).length c'] (wr.drewN q) fun e w' => ∃ v, e = .returned v ∧ IntsIn (fun b => (wr.drewN q).heap.size ≤ b) w' v (bitsI (y ^^^ r)) ∧ Below (wr.drewN q).heap.size (wr.drewN q) w') := fun q => sumOf_ _ _ y r HR.out.2.1 r1 (wr.drewN q) (HR.out.2.2.1.any.below (drew_below _ _)) ((i1.below hBw).below (drew_below _ _))
      have HT : Hid (restS (rows.take (k + 1)) x = if y.testBit (low r) = true then y ^^^ r else y) := by
        show restS (rows.take (k + 1)) x = if y.testBit (low r) = true then y ^^^ r else y
        rw [restS_take hkr, hr, ← HR.out.1]
      have HXR : Hid (y ^^^ r < 2 ^ 64) := xor_lt HR.out.2.1 r1
      obtain ⟨lr, hlr⟩ : ∃ lr, (bitsI r).length = lr := ⟨_, rfl⟩
      rw [hlr] at g2 HSU hl0
      obtain ⟨t, ht⟩ : ∃ t, y.testBit (low r) = t := ⟨_, rfl⟩
      rw [ht] at hct HT
      obtain ⟨z, hz⟩ : ∃ z, low r = z := ⟨_, rfl⟩
      rw [hz] at g4 hct
      clear hcs hbl g1 i1 hr hrm r1 r2 hbl' g3 hBw hlr ht hz
      go_wp2_with fail
      refine hct.mono ?_
      clear hct
      rintro e V1 ⟨rfl, q, rfl⟩
      cases t with
      | false =>
        have HE : Hid (y = restS (rows.take (k + 1)) x ∧ y < 2 ^ 64 ∧ IntsIn S (wr.drewN q) (.slice a m c) (bitsI y) ∧ Below W1.heap.size W1 (wr.drewN q)) := ⟨by rw [HT.out]; simp, HR.out.2.1, HR.out.2.2.1.below (drew_below _ _), HR.out.2.2.2.trans (drew_below _ _)⟩
        clear HR HT HSU
        go_wp2_with fail
        go_roundw
        case rel => exact ⟨k + 1, y, a, m, c, by omega, by go_num, rfl, HE.out⟩
        case measure => simp [intOf]; omega
      | true =>
        have hsu := HSU.out q
        have h1 : (wr.drewN q).cell? ⟨B, 0, none⟩ = some (.slice (some ⟨b, o, none⟩) n cv) := g0
        have h2 : (wr.drewN q).cell? ⟨b, o + k, none⟩ = some (.slice (some ⟨b', o', none⟩) lr c') := g2
        clear g0 g2 g4
        go_wp2_with fail
        refine hsu.mono ?_
        clear hsu
        rintro e V2 ⟨u2, rfl, hu2, hV2⟩
        have HE : Hid (y ^^^ r = restS (rows.take (k + 1)) x ∧ y ^^^ r < 2 ^ 64 ∧ IntsIn S V2 u2 (bitsI (y ^^^ r)) ∧ Below W1.heap.size W1 V2) := ⟨by rw [HT.out]; simp, HXR.out, SliceIn.mono hu2 (fun b' _ h => HS.out b' (by have h3 : (wr.drewN q).heap.size ≤ b' := h; have h4 : W1.heap.size ≤ (wr.drewN q).heap.size := (HR.out.2.2.2.trans (drew_below wr q)).size; have := HZ1.out; omega)), (HR.out.2.2.2.trans (drew_below wr q)).trans (hV2.mono (HR.out.2.2.2.trans (drew_below wr q)).size)⟩
        obtain ⟨a9, c9, rfl, -, -⟩ := hu2.open_
        clear hu2 hV2 HR HT HSU
        go_wp2_with fail
        go_roundw
        case rel => exact ⟨k + 1, y ^^^ r, _, _, _, by omega, by go_num, rfl, HE.out⟩
        case measure => simp [intOf]; omega
    · have hkm : k = n := by omega
      subst hkm
      have HE : Hid (IntsIn S wr (.slice a m c) (bitsI (restS rows x)) ∧ Below w.heap.size w wr) := by
        have h1 := HR.out.1
        rw [← HN.out, List.take_length] at h1
        rw [← h1]
        exact ⟨HR.out.2.2.1, HI.out.2.1.trans (HR.out.2.2.2.mono (by have := HZ1.out; omega))⟩
      clear HR
      go_wp2_with fail
      go_ret
      exact ⟨_, rfl, HE.out⟩

end Go.Proofs.YtldknhganoiajaaGreatDoor
