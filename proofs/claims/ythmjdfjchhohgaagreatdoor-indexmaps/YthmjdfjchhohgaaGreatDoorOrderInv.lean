/- What the reference's MapFault answers. What numbered answers: each vertex' number, in an array. A region that draws its order, by what holds at each set of operations that have come up: each such set is looked at once, whatever the order was. -/
import Derived.Test.YthmjdfjchhohgaaGreatDoorIndexOf
import Derived.Test.YthmjdfjchhohgaaGreatDoorIdxRowBox
import Derived.Test.YthmjdfjchhohgaaGreatDoorIdxNums
import Derived.Test.YthmjdfjchhohgaaGreatDoorIdxMath
import Derived.Test.YthmjdfjchhohgaaGreatDoorBase
import Derived.Orders
namespace Go.Proofs.YthmjdfjchhohgaaGreatDoor
open Go.RowKit Go.Sort Go.Lib

theorem fault_load {b : Nat} {W : World} {g : Nat → Value} (h : VecAt 44 2 b W g) : (loadVar 44 ⟨b, 0, none⟩).run Tryz.prog W = .ok (.agg #[g 0, g 1]) W := by
  have := run_loadVar_mid (P := Tryz.prog) W b 0 44 [g 0, g 1] _ (fun j v hv => by
    rw [Nat.zero_add]
    rcases j with _ | _ | j
    · cases hv; exact (h.cell (by omega)).1
    · cases hv; exact (h.cell (by omega)).1
    · simp at hv) Tryz.underlying44 rfl (by kernel_rfl)
  exact this
theorem fault_put {b : Nat} {W : World} {g : Nat → Value} (h : VecAt 44 2 b W g) (x y : Value) : ∃ W9, (W.setCell ⟨b, 0, none⟩ x).setCell ⟨b, 1, none⟩ y = W9 ∧ VecAt 44 2 b W9 (fun k => if k = 1 then y else x) ∧ ∀ w : World, Below w.heap.size w W → w.heap.size ≤ b → Below w.heap.size w W9 := by
  refine ⟨_, rfl, ((h.put 0 x).put 1 y).conv fun k hk => ?_, fun w hB hb => (hB.setCell hb _).setCell hb _⟩
  rcases (show k = 0 ∨ k = 1 by omega) with rfl | rfl <;> rfl
theorem fault_start (w : World) : VecAt 44 2 w.heap.size (w.alloc (.cells #[.int .i64 0, .int .i64 0] 44)) (fun _ => .int .i64 0) := (Go.MapKept.heap_alloc w (.cells #[.int .i64 0, .int .i64 0] 44)).1

set_option maxRecDepth 100000 in
set_option maxHeartbeats 1000000 in
theorem map_fault_len (va vb vf : Value) (all : List (List Int)) (f : List Int) (w : World) (ha : Rows w va all) (hl : all.length ≤ 600) (hf : Ints w vf f) (_hfl : f.length ≤ 1000) (hne : f.length ≠ (vertI all).length) :
    Calls Tryz.prog 17 #[va, vb, vf] w fun e w' => e = .returned (.agg #[.int .i64 3, .int .i64 (-1)]) ∧ Below w.heap.size w w' := by
  obtain ⟨af, cf, rfl, -, -⟩ := hf.open_
  have hBa : Below w.heap.size w (w.alloc (.cells #[.int .i64 0, .int .i64 0] 44)) := (Below.refl _ w).alloc (Nat.le_refl _) _
  have hva := fault_start w
  obtain ⟨W0, hW0⟩ : ∃ W0, w.alloc (.cells #[.int .i64 0, .int .i64 0] 44) = W0 := ⟨_, rfl⟩
  rw [hW0] at hBa hva
  have hv := vertices_ va all W0 (ha.below hBa) (by omega)
  obtain ⟨V, hV⟩ : ∃ V, vertI all = V := ⟨_, rfl⟩
  rw [hV] at hv hne
  obtain ⟨n, hn⟩ : ∃ n, f.length = n := ⟨_, rfl⟩
  obtain ⟨m, hm⟩ : ∃ m, V.length = m := ⟨_, rfl⟩
  have HVC : Hid (Calls Tryz.prog 32 #[va] W0 fun e w' => ∃ av cv, e = .returned (.slice av m cv) ∧ Below W0.heap.size W0 w') := hv.mono fun e w' ⟨v, h1, h2, h3⟩ => by
    obtain ⟨av, cv, rfl, -, -⟩ := h2.open_
    rw [hm] at h1
    exact ⟨av, cv, h1, h3⟩
  rw [hn] at hne ⊢
  rw [hm] at hne
  have hbb : ((m : Int) != (n : Int)) = true := bne_iff_ne.2 (by omega)
  have HB0 := Hid.mk' hBa
  have HF0 := Hid.mk' hva
  clear hv ha hf hV hn hm hl hne hBa hva
  go_enter Tryz.func17, Tryz.ntmps17
  go_wp2_with fail
  refine HVC.out.mono ?_
  rintro e V1 ⟨av, cv, rfl, hB⟩
  have HB1 : Hid (Below w.heap.size w V1) := HB0.out.trans (hB.mono HB0.out.size)
  have HF1 := Hid.mk' (HF0.out.below hB)
  obtain ⟨c0, d0⟩ := HF1.out.cell (k := 0) (by omega)
  obtain ⟨c1, d1⟩ := HF1.out.cell (k := 1) (by omega)
  clear hB HVC HB0 HF0
  go_wp2_with fail
  obtain ⟨W9, hW9, hv9, hb9⟩ := fault_put HF1.out (.int .i64 3) (.int .i64 (-1))
  rw [hW9]
  have hl2 := fault_load (W := W9) hv9
  refine bodyPost_ret (v := .agg #[.int .i64 3, .int .i64 (-1)]) ?_ rfl ⟨rfl, hb9 w HB1.out (Nat.le_refl _)⟩
  simp [results, Tryz.f17, asAddr, hl2]

/-- Is a face taken onto one of others? -/
def takesP (q : List (List Int)) (ht : Int → Int) (x : List Int) : Prop := ∃ s ∈ q, Rising s ∧ ∀ u, u ∈ s ↔ u ∈ x.map ht
/-- What is wrong with a map. -/
def MapSays (f : List Int) (q L : List (List Int)) (ht : Int → Int) (c p : Int) : Prop :=
  (∃ i : Nat, i < f.length ∧ c = 4 ∧ p = i ∧ [f[i]?.getD 0] ∉ q ∧ ∀ j, j < i → [f[j]?.getD 0] ∈ q) ∨
  ((∀ j, j < f.length → [f[j]?.getD 0] ∈ q) ∧ ((∃ i : Nat, i < L.length ∧ c = 7 ∧ p = i ∧ ¬ takesP q ht (L[i]?.getD []) ∧ ∀ j, j < i → takesP q ht (L[j]?.getD [])) ∨
    (c = 0 ∧ p = -1 ∧ ∀ j, j < L.length → takesP q ht (L[j]?.getD []))))

set_option maxRecDepth 100000 in
set_option maxHeartbeats 4000000 in
theorem map_fault {ht : Int → Int} {L q : List (List Int)} (va vb vf : Value) (all : List (List Int)) (f : List Int) (w : World) (ha : Rows w va all) (hl : all.length ≤ 600) (hq : Rows w vb q) (hql : q.length ≤ 600) (hq7 : ∀ x ∈ q, x.length ≤ 7) 
    (hf : Ints w vf f) (hfl : f.length ≤ 1000) (hne : f.length = (vertI all).length) (hLl : L.length ≤ 600) (hL7 : ∀ x ∈ L, x.length ≤ 7)
    (hnb : ∀ W, Below w.heap.size w W → Calls Tryz.prog 43 #[va] W fun e w' => ∃ v, e = .returned v ∧ Rows w' v L ∧ Below W.heap.size W w')
    (him : ∀ W vx x, Below w.heap.size w W → x ∈ L → Ints W vx x → Calls Tryz.prog 44 #[va, vf, vx] W fun e w' => ∃ v, e = .returned v ∧ Ints w' v (x.map ht) ∧ Below W.heap.size W w') :
    Calls Tryz.prog 17 #[va, vb, vf] w fun e w' => (∃ c p : Int, e = .returned (.agg #[.int .i64 c, .int .i64 p]) ∧ MapSays f q L ht c p) ∧ Below w.heap.size w w' := by
  have hf0 := hf
  obtain ⟨af, cf, rfl, hcap, -⟩ := hf.open_
  have HCF := Hid.mk' (ints_cells hf0)
  have hBa : Below w.heap.size w (w.alloc (.cells #[.int .i64 0, .int .i64 0] 44)) := (Below.refl _ w).alloc (Nat.le_refl _) _
  have hva := fault_start w
  obtain ⟨W0, hW0⟩ : ∃ W0, w.alloc (.cells #[.int .i64 0, .int .i64 0] 44) = W0 := ⟨_, rfl⟩
  rw [hW0] at hBa hva
  have hv := vertices_ va all W0 (ha.below hBa) (by omega)
  obtain ⟨n, hn⟩ : ∃ n, f.length = n := ⟨_, rfl⟩
  have HVC : Hid (Calls Tryz.prog 32 #[va] W0 fun e w' => ∃ av cv, e = .returned (.slice av n cv) ∧ Below W0.heap.size W0 w') := hv.mono fun e w' ⟨v, h1, h2, h3⟩ => by
    obtain ⟨av, cv, rfl, -, -⟩ := h2.open_
    rw [← hne, hn] at h1
    exact ⟨av, cv, h1, h3⟩
  have HIX : Hid (∀ W vx x, Below w.heap.size w W → Ints W vx x → Calls Tryz.prog 42 #[vb, vx] W fun e w' => (∃ i : Int, e = .returned (.int .i64 i) ∧ (0 ≤ i ↔ x ∈ q) ∧ -1 ≤ i) ∧ Below W.heap.size W w') := fun W vx x hB hx =>
    (index_of vb vx q x W (hq.below hB) hx (by omega) (fun x h => by have := hq7 x h; omega)).mono fun e w' ⟨i, h1, h2, h3, k, h4⟩ => ⟨⟨i, h1, h2, h3⟩, by rw [h4]; exact ⟨rfl, rfl, rfl, Nat.le_refl _, fun _ _ => rfl⟩⟩
  have HN : Hid (f.length = n) := hn
  have HNB := Hid.mk' hnb
  have HIM := Hid.mk' him
  have HL7 := Hid.mk' hL7
  rw [hn] at hfl hcap HCF HIM ⊢
  have hnc := hcap.1
  have HB0 := Hid.mk' hBa
  have HF0 := Hid.mk' hva
  clear hv ha hf hf0 hn hl hne hBa hva hq hql hq7 hnb him hL7 hcap
  go_enter Tryz.func17, Tryz.ntmps17
  go_wp2_with fail
  refine HVC.out.mono ?_
  rintro e V1 ⟨av, cv, rfl, hB⟩
  have HB1 : Hid (Below w.heap.size w V1) := HB0.out.trans (hB.mono HB0.out.size)
  have HF1 := Hid.mk' (HF0.out.below hB)
  clear hB HVC HB0 HF0
  go_wp2_with fail
  go_loopw [7] (fun p W => ∃ k : Nat, k ≤ n ∧ p = .int .i64 k ∧ Hid (∀ j, j < k → [f[j]?.getD 0] ∈ q) ∧ Hid (Below w.heap.size w W) ∧ Hid (VecAt 44 2 w.heap.size W (fun _ => .int .i64 0))) (fun p _ => n - (intOf p).toNat)
  case atStart => exact ⟨0, by omega, rfl, fun j hj => by omega, HB1, HF1⟩
  case round =>
    obtain ⟨k, hk, rfl, HK, HB2, HF2⟩ := hrel
    clear HB1 HF1
    by_cases hlt : k < n
    · obtain ⟨b, o, rfl, hb, g0⟩ := HCF.out k hlt
      have g1 := (HB2.out.cell (p := ⟨b, o + k, none⟩) hb).trans g0
      obtain ⟨x, hx⟩ : ∃ x, f[k]?.getD 0 = x := ⟨_, rfl⟩
      rw [hx] at g1
      have HX := Hid.mk' hx
      have h1 : Ints wr (.slice (some ⟨b, o + k, none⟩) 1 (cf - k)) [x] := ⟨some ⟨b, o + k, none⟩, cf - k, rfl, ⟨by simp; omega, fun h => by cases h⟩, fun _ => ⟨b, o + k, rfl, trivial, fun j u hj => by
        have hj0 : j = 0 := by
          rcases Nat.eq_zero_or_pos j with h | h
          · exact h
          · rw [List.getElem?_eq_none (by simp; omega)] at hj; cases hj
        subst hj0
        simp at hj
        subst hj
        exact g1⟩⟩
      have hix := HIX.out wr _ [x] HB2.out h1
      clear g0 g1 h1 hx
      go_wp2_with fail
      refine hix.mono ?_
      clear hix
      rintro e V2 ⟨⟨i, rfl, hi1, hi2⟩, hV⟩
      have HB3 : Hid (Below w.heap.size w V2) := HB2.out.trans (hV.mono HB2.out.size)
      have HF3 := Hid.mk' (HF2.out.below hV)
      have HI1 := Hid.mk' hi1
      obtain ⟨c0, d0⟩ := HF3.out.cell (k := 0) (by omega)
      obtain ⟨c1, d1⟩ := HF3.out.cell (k := 1) (by omega)
      clear hV hi1
      by_cases hi : i < 0
      · have hd : decide (i < 0) = true := decide_eq_true hi
        have HSAY : Hid (MapSays f q L ht 4 (k : Int)) := .inl ⟨k, by rw [HN.out]; exact hlt, rfl, rfl, by rw [HX.out]; exact fun hc => by have := HI1.out.2 hc; omega, HK.out⟩
        go_wp2_with fail
        obtain ⟨W9, hW9, hv9, hb9⟩ := fault_put HF3.out (.int .i64 4) (.int .i64 ((k : Int)))
        rw [hW9]
        have hl2 := fault_load (W := W9) hv9
        refine bodyPost_ret (v := .agg #[.int .i64 4, .int .i64 ((k : Int))]) ?_ rfl ⟨⟨_, _, rfl, HSAY.out⟩, hb9 w HB3.out (Nat.le_refl _)⟩
        simp [results, Tryz.f17, asAddr, hl2]
      · have hd : decide (i < 0) = false := decide_eq_false hi
        have HIN : Hid ([f[k]?.getD 0] ∈ q) := by
          show _ ∈ q
          rw [HX.out]
          exact HI1.out.1 (by omega)
        go_wp2_with fail
        go_roundw
        case rel => exact ⟨k + 1, by omega, by go_num, fun j hj => by
          rcases Nat.lt_or_ge j k with h | h
          · exact HK.out j h
          · obtain rfl : j = k := by omega
            exact HIN.out, HB3, HF3⟩
        case measure => simp [intOf]; omega
    · obtain rfl : k = n := by omega
      have HNB2 : Hid (Calls Tryz.prog 43 #[va] wr fun e w' => ∃ a c, e = .returned (.slice a L.length c) ∧ Rows w' (.slice a L.length c) L ∧ Below wr.heap.size wr w') := (HNB.out wr HB2.out).mono fun e w' ⟨v, h1, h2, h3⟩ => by
        have h4 := h2
        obtain ⟨a, c, rfl, -, -⟩ := h2.open_
        exact ⟨a, c, h1, h4, h3⟩
      obtain ⟨l, hll⟩ : ∃ l, L.length = l := ⟨_, rfl⟩
      have HLL := Hid.mk' hll
      rw [hll] at HNB2 hLl
      clear hll HNB
      generalize wr = Wm at *
      go_wp2_with fail
      refine HNB2.out.mono ?_
      clear HNB2
      rintro e V2 ⟨aL, cL, rfl, hr, hV⟩
      have HB3 : Hid (Below w.heap.size w V2) := HB2.out.trans (hV.mono HB2.out.size)
      have HF3 := Hid.mk' (HF2.out.below hV)
      obtain ⟨a1, c1, e1, -, hrc⟩ := hr.open_
      obtain ⟨rfl, -, rfl⟩ : aL = a1 ∧ l = L.length ∧ cL = c1 := by simpa using e1
      rw [HLL.out] at hrc
      have HRC := Hid.mk' hrc
      clear hV hr e1 hrc HB2 HF2
      go_wp2_with fail
      go_loopw [9] (fun p W => ∃ m : Nat, m ≤ l ∧ p = .int .i64 m ∧ Hid (∀ j, j < m → takesP q ht (L[j]?.getD [])) ∧ Hid (Below V2.heap.size V2 W) ∧ Hid (VecAt 44 2 w.heap.size W (fun _ => .int .i64 0))) (fun p _ => l - (intOf p).toNat)
      case atStart => exact ⟨0, by omega, rfl, fun j hj => by omega, Below.refl _ _, HF3⟩
      case round =>
        obtain ⟨m, hm, rfl, HM, HB4, HF4⟩ := hrel
        clear HF3
        by_cases hml : m < l
        · obtain ⟨b, o, rfl, -, hb, crow⟩ := HRC.out (by omega)
          obtain ⟨a2, p2, f0, i2⟩ := crow m hml
          have hxm : L[m]?.getD [] ∈ L := by rw [List.getElem?_eq_getElem (by rw [HLL.out]; exact hml)]; exact List.getElem_mem _
          obtain ⟨x, hxe⟩ : ∃ x, L[m]?.getD [] = x := ⟨_, rfl⟩
          rw [hxe] at f0 i2 hxm
          have HXE := Hid.mk' hxe
          have hx7 := HL7.out x hxm
          have HX7 := Hid.mk' hx7
          have hI := HIM.out wr (.slice a2 x.length p2) x (HB3.out.trans (HB4.out.mono HB3.out.size)) hxm (i2.below HB4.out)
          have f1 := (HB4.out.cell (p := ⟨b, o + m, none⟩) hb).trans f0
          obtain ⟨xl, hxl⟩ : ∃ xl, x.length = xl := ⟨_, rfl⟩
          rw [hxl] at f1 hI hx7
          clear crow hxm hxe i2 f0 hxl
          go_wp2_with fail
          refine hI.mono ?_
          clear hI
          rintro e V3 ⟨v3, rfl, hi, hV⟩
          have HB5 : Hid (Below V2.heap.size V2 V3) := HB4.out.trans (hV.mono HB4.out.size)
          have HF5 := Hid.mk' (HF4.out.below hV)
          have hso := sorted_ v3 (x.map ht) V3 hi (by rw [List.length_map]; have := HX7.out; omega)
          clear hV hi f1 HB4 HF4
          go_wp2_with fail
          refine hso.mono ?_
          clear hso
          rintro e V4 ⟨v4, out, rfl, hio, hro, hmo, hlo, hV⟩
          have HB6 : Hid (Below V2.heap.size V2 V4) := HB5.out.trans (hV.mono HB5.out.size)
          have HF6 := Hid.mk' (HF5.out.below hV)
          have hix := HIX.out V4 v4 out (HB3.out.trans (HB6.out.mono HB3.out.size)) hio.any
          have HRO : Hid (Rising out ∧ ∀ u, u ∈ out ↔ u ∈ x.map ht) := ⟨hro, hmo⟩
          obtain ⟨qd, hqd⟩ : ∃ qd, decide (x.map ht).Nodup = qd := ⟨_, rfl⟩
          rw [hqd]
          clear hV hio hro hmo hlo HB5 HF5 hqd
          go_wp2_with fail
          refine hix.mono ?_
          clear hix
          rintro e V5 ⟨⟨i, rfl, hi1, hi2⟩, hV⟩
          have HB7 : Hid (Below V2.heap.size V2 V5) := HB6.out.trans (hV.mono HB6.out.size)
          have HF7 := Hid.mk' (HF6.out.below hV)
          have HTP : Hid (0 ≤ i ↔ takesP q ht (L[m]?.getD [])) := by
            show _ ↔ _
            rw [hi1, HXE.out]
            exact ⟨fun h => ⟨out, h, HRO.out⟩, fun ⟨s, h1, h2, h3⟩ => by
              rw [rising_one HRO.out.1 h2 fun u => (HRO.out.2 u).trans (h3 u).symm]
              exact h1⟩
          obtain ⟨c0, d0⟩ := HF7.out.cell (k := 0) (by omega)
          obtain ⟨c1, d1⟩ := HF7.out.cell (k := 1) (by omega)
          have HB8 : Hid (Below w.heap.size w V5) := HB3.out.trans (HB7.out.mono HB3.out.size)
          clear hV hi1 HB6 HF6
          by_cases hi : i < 0
          · have hd : decide (i < 0) = true := decide_eq_true hi
            have HSAY : Hid (MapSays f q L ht 7 (m : Int)) := .inr ⟨fun j hj => HK.out j (by rw [← HN.out]; exact hj), .inl ⟨m, by rw [HLL.out]; exact hml, rfl, rfl, fun hc => by have := HTP.out.2 hc; omega, HM.out⟩⟩
            go_wp2_with fail
            obtain ⟨W9, hW9, hv9, hb9⟩ := fault_put HF7.out (.int .i64 7) (.int .i64 ((m : Int)))
            rw [hW9]
            have hl2 := fault_load (W := W9) hv9
            refine bodyPost_ret (v := .agg #[.int .i64 7, .int .i64 ((m : Int))]) ?_ rfl ⟨⟨_, _, rfl, HSAY.out⟩, hb9 w HB8.out (Nat.le_refl _)⟩
            simp [results, Tryz.f17, asAddr, hl2]
          · have hd : decide (i < 0) = false := decide_eq_false hi
            have HTK : Hid (takesP q ht (L[m]?.getD [])) := HTP.out.1 (by omega)
            go_wp2_with fail
            go_roundw
            case rel => exact ⟨m + 1, by omega, by go_num, fun j hj => by
              rcases Nat.lt_or_ge j m with h | h
              · exact HM.out j h
              · obtain rfl : j = m := by omega
                exact HTK.out, HB7, HF7⟩
            case measure => simp [intOf]; omega
        · obtain rfl : m = l := by omega
          have HB8 : Hid (Below w.heap.size w wr) := HB3.out.trans (HB4.out.mono HB3.out.size)
          have HSAY : Hid (MapSays f q L ht 0 (-1)) := .inr ⟨fun j hj => HK.out j (by rw [← HN.out]; exact hj), .inr ⟨rfl, rfl, fun j hj => HM.out j (by rw [← HLL.out]; exact hj)⟩⟩
          obtain ⟨c0, d0⟩ := HF4.out.cell (k := 0) (by omega)
          obtain ⟨c1, d1⟩ := HF4.out.cell (k := 1) (by omega)
          go_wp2_with fail
          obtain ⟨W9, hW9, hv9, hb9⟩ := fault_put HF4.out (.int .i64 0) (.int .i64 (-1))
          rw [hW9]
          have hl2 := fault_load (W := W9) hv9
          refine bodyPost_ret (v := .agg #[.int .i64 0, .int .i64 (-1)]) ?_ rfl ⟨⟨_, _, rfl, HSAY.out⟩, hb9 w HB8.out (Nat.le_refl _)⟩
          simp [results, Tryz.f17, asAddr, hl2]

end Go.Proofs.YthmjdfjchhohgaaGreatDoor

namespace Go.Proofs.YthmjdfjchhohgaaGreatDoor
open Go.RowKit Go.Sort

set_option maxRecDepth 100000 in
set_option maxHeartbeats 1000000 in
theorem numbered_arr (a0 a1 a2 a3 a4 a5 a6 ah : Option Addr) (n1 n2 n3 n4 n5 n6 c0 c1 c2 c3 c4 c5 c6 ch : Nat) (V h : List Int) (w : World)
    (hr : Rows w (.slice a0 V.length c0) (V.map fun v => [v])) (hh : Ints w (.slice ah h.length ch) h) (hV : V.Nodup) (hv : ∀ v ∈ V, 0 ≤ v ∧ v ≤ 99) (hl : h.length = V.length) (hV1 : V.length ≤ 100) :
    Calls Tryz.prog 56 #[.agg #[.slice a0 V.length c0, .slice a1 n1 c1, .slice a2 n2 c2, .slice a3 n3 c3, .slice a4 n4 c4, .slice a5 n5 c5, .slice a6 n6 c6], .slice ah h.length ch] w fun e w' =>
      e = .returned (.agg (numC fun k => hiF V h (k : Int)).toArray) ∧ Below w.heap.size w w' := by
  obtain ⟨hz, hsz⟩ := zero_of_info (P := Tryz.prog) (t := 81) (v := .agg (numC fun _ => 0).toArray) (n := 100) (by kernel_rfl)
  have hvs := fun W => verts_ a0 a1 a2 a3 a4 a5 a6 V.length n1 n2 n3 n4 n5 n6 c0 c1 c2 c3 c4 c5 c6 W
  have HB0 : Hid (Below w.heap.size w (((w.alloc (.cells #[.slice a0 V.length c0, .slice a1 n1 c1, .slice a2 n2 c2, .slice a3 n3 c3, .slice a4 n4 c4, .slice a5 n5 c5, .slice a6 n6 c6] 63)).alloc (.cells (numC fun _ => 0).toArray 81)).alloc (.cells (numC fun _ => 0).toArray 81))) := (((Below.refl _ w).alloc (Nat.le_refl _) _).alloc (by simp) _).alloc (by simp; omega) _
  have hn1 := numsAt_new (w.alloc (.cells #[.slice a0 V.length c0, .slice a1 n1 c1, .slice a2 n2 c2, .slice a3 n3 c3, .slice a4 n4 c4, .slice a5 n5 c5, .slice a6 n6 c6] 63)) (fun _ => 0) 81
  have hn2 := numsAt_new ((w.alloc (.cells #[.slice a0 V.length c0, .slice a1 n1 c1, .slice a2 n2 c2, .slice a3 n3 c3, .slice a4 n4 c4, .slice a5 n5 c5, .slice a6 n6 c6] 63)).alloc (.cells (numC fun _ => 0).toArray 81)) (fun _ => 0) 81
  go_enter Tryz.func56, Tryz.ntmps56
  go_wp2_with fail
  refine (hvs _).mono ?_
  clear hvs
  rintro e W1 ⟨rfl, hV1⟩
  have HB1 : Hid (Below w.heap.size w W1) := HB0.out.trans (hV1.mono HB0.out.size)
  have ht4 : NumsAt 81 (w.heap.size + 1) W1 fun _ => 0 := by have := (hn1.below ((Below.refl _ _).alloc (Nat.le_refl _) _)).below hV1; simpa using this
  have ht5 : NumsAt 81 (w.heap.size + 1 + 1) W1 fun _ => 0 := by have := hn2.below hV1; simpa using this
  have HT4 : Hid (NumsAt 81 (w.heap.size + 1) W1 fun _ => 0) := ht4
  have HT5 : Hid (NumsAt 81 (w.heap.size + 1 + 1) W1 fun _ => 0) := ht5
  clear ht4 ht5
  obtain ⟨ar, cr, e1, -, hc⟩ := hr.open_
  obtain ⟨rfl, -, rfl⟩ : a0 = ar ∧ V.length = (V.map fun v => [v]).length ∧ c0 = cr := by simpa using e1
  obtain ⟨ai, ci, e2, -, hci⟩ := hh.open_
  obtain ⟨rfl, rfl⟩ : ah = ai ∧ ch = ci := by simpa using e2
  clear e1 e2 hV1 hn1 hn2 hr hh
  go_wp2_with fail
  go_loopw [11] (fun p W => ∃ k : Nat, k ≤ V.length ∧ p = .int .i64 k ∧ NumsAt 81 (w.heap.size + 1) W (fun _ => 0) ∧ NumsAt 81 (w.heap.size + 1 + 1) W (fun i => hiF (V.take k) h (i : Int)) ∧ Below w.heap.size w W) (fun p _ => V.length - (intOf p).toNat)
  case atStart => exact ⟨0, by omega, rfl, HT4.out, by simpa [hiF_nil] using HT5.out, HB1.out⟩
  case round =>
    obtain ⟨k, hk, rfl, h4, h5, hB⟩ := hrel
    have H4 : Hid (NumsAt 81 (w.heap.size + 1) wr (fun _ => 0)) := h4
    have H5 : Hid (NumsAt 81 (w.heap.size + 1 + 1) wr (fun i => hiF (V.take k) h (i : Int))) := h5
    have HB : Hid (Below w.heap.size w wr) := hB
    clear h4 h5 hB
    by_cases hlt : k < V.length
    · obtain ⟨b, o, rfl, -, hb, c⟩ := hc (by rw [List.length_map]; omega)
      obtain ⟨a1, p1, g1, i1⟩ := c k (by rw [List.length_map]; omega)
      have hrow : (V.map fun v => [v])[k]?.getD [] = [V[k]] := by simp [hlt]
      rw [hrow] at g1 i1
      obtain ⟨m, hm⟩ : ∃ m : Nat, V[k] = (m : Int) := ⟨V[k].toNat, by have := (hv _ (List.getElem_mem hlt)).1; omega⟩
      have hm99 : m < 100 := by have := (hv _ (List.getElem_mem hlt)).2; omega
      have hst := hiF_step (h := h) hV hlt
      rw [List.getElem?_eq_getElem hlt, Option.getD_some, hm] at hst
      rw [hm] at i1
      obtain ⟨b2, o2, rfl, -, hb2, c2⟩ := hci (by omega)
      have g2 := (HB.out.cell (p := ⟨b2, o2 + k, none⟩) hb2).trans (c2 k (by omega))
      obtain ⟨x, hx⟩ : ∃ x, h[k]?.getD 0 = x := ⟨_, rfl⟩
      rw [hx] at g2 hst
      have HST : Hid (∀ i : Int, hiF (V.take (k + 1)) h i = if i = (m : Int) then x else hiF (V.take k) h i) := hst
      obtain ⟨a1', p1', e1, -, hx1⟩ := i1.open_
      obtain ⟨rfl, rfl⟩ : a1 = a1' ∧ p1 = p1' := by simpa using e1
      obtain ⟨b1, o1, rfl, -, hb1, hc1⟩ := hx1 (by simp)
      have g3 := (HB.out.cell (p := ⟨b1, o1 + 0, none⟩) hb1).trans (hc1 0 (by simp))
      have g4 := (HB.out.cell (p := ⟨b, o + k, none⟩) hb).trans g1
      simp only [List.length_cons, List.length_nil, Nat.zero_add, Nat.add_zero, List.getElem?_cons_zero, Option.getD_some] at g3 g4
      obtain ⟨f1, f2⟩ := H5.out.cell hm99
      have hlh : k < h.length := by omega
      clear hst hx hx1 hc1 i1 g1 c2 c hc hci e1 hrow hm
      go_wp2_with fail
      go_region
      go_wp2_with fail
      go_roundw
      case rel =>
        refine ⟨k + 1, by omega, by go_num, H4.out.keep (Below.heap_setCell _ _ _ _ (fun e => by simp at e)), ?_, (HB.out.setCell (by show w.heap.size ≤ w.heap.size + 1 + 1; omega) _).drew⟩
        have := H5.out.put m x
        have hf : (fun i : Nat => if i = m then x else hiF (V.take k) h (i : Int)) = fun i : Nat => hiF (V.take (k + 1)) h (i : Int) := funext fun i => by
          rw [HST.out]
          by_cases e : i = m
          · subst e; rw [if_pos rfl, if_pos rfl]
          · rw [if_neg e, if_neg (show ¬ (i : Int) = (m : Int) by omega)]
        rw [hf] at this
        exact this
      case measure => simp [intOf]; omega
    · obtain rfl : k = V.length := by omega
      have H6 : Hid (NumsAt 81 (w.heap.size + 1 + 1) wr (fun i => hiF V h (i : Int))) := by have := H5.out; rw [List.take_length] at this; exact this
      have hld := H6.out.loadAt (P := Tryz.prog) Tryz.underlying81 hsz
      have hsc := H4.out.storeCells (P := Tryz.prog) (fun i => hiF V h (i : Int))
      have HR : Hid (NumsAt 81 (w.heap.size + 1) (wr.setRow (w.heap.size + 1) (numC fun i => hiF V h (i : Int)).toArray) (fun i => hiF V h (i : Int))) := H4.out.setRow _
      clear hc hci H5
      go_wp2_with fail
      refine wp_load_at rfl rfl hld ?_
      go_wp2_with fail
      refine bodyPost_ret (v := .agg (numC fun i => hiF V h (i : Int)).toArray) ?_ rfl ⟨rfl, below_setRow HB.out (by omega)⟩
      have hl2 := HR.out.load (P := Tryz.prog) Tryz.underlying81 hsz
      simp [results, Tryz.f56, asAddr, hl2]

end Go.Proofs.YthmjdfjchhohgaaGreatDoor

namespace Go.Proofs.YthmjdfjchhohgaaGreatDoor
open Go.RowKit

section
variable {P : Program} {ops : Array Oper} {Q : Exit → Act → World → Prop}

theorem wpAny_inv {md : Region.Mode} (I : Array Bool → Act → World → Prop) (m : Array Bool → Nat) (hstep : ∀ listed a w, I listed a w → ∀ i ∈ Region.ready md ops listed, m (listed.setIfInBounds i true) < m listed ∧ wpOp P ops Q i (I (listed.setIfInBounds i true)) a w)
    (hend : ∀ listed a w, I listed a w → Region.ready md ops listed = [] → Q .normal a w) : ∀ fuel listed a w, m listed ≤ fuel → I listed a w → wpAny P md ops Q fuel listed a w
  | 0, listed, a, w, hm, h => by
    have h0 : Region.ready md ops listed = [] := by
      rcases e : Region.ready md ops listed with _ | ⟨i, l⟩
      · rfl
      · have := (hstep listed a w h i (by rw [e]; exact .head _)).1
        omega
    exact ⟨h0, hend listed a w h h0⟩
  | fuel + 1, listed, a, w, hm, h => ⟨hend listed a w h, fun i hi => by
      have h1 := hstep listed a w h i hi
      exact wpOp_mono (fun a' w' h' => wpAny_inv I m hstep hend fuel _ a' w' (by omega) h') h1.2⟩

theorem region_inv {id : Nat} {a : Act} {w : World} (hm : P.follows .mixedOrders = true) (I : Array Bool → Act → World → Prop) (m : Array Bool → Nat) (h0 : I (Array.replicate ops.size false) a w.drew) (hs : m (Array.replicate ops.size false) ≤ ops.size)
    (hstep : ∀ listed a w, I listed a w → ∀ i ∈ Region.ready .any ops listed, m (listed.setIfInBounds i true) < m listed ∧ wpOp P ops Q i (I (listed.setIfInBounds i true)) a w)
    (hend : ∀ listed a w, I listed a w → Region.ready .any ops listed = [] → Q .normal a w) : (Code.region id ops true).wp P Q a w :=
  wp_region_any hm (wpAny_inv I m hstep hend _ _ _ _ hs h0)

theorem ready_spec {md : Region.Mode} {listed : Array Bool} {i : Nat} (h : i ∈ Region.ready md ops listed) : i < ops.size ∧ listed.getD i true = false ∧ ∀ o, ops[i]? = some o → ∀ e ∈ o.after, Region.binds md e = true → listed.getD e.on false = true := by
  unfold Region.ready at h
  rw [List.mem_filter, List.mem_range] at h
  obtain ⟨h1, h2⟩ := h
  rw [Bool.and_eq_true] at h2
  refine ⟨h1, by simpa using h2.1, fun o ho e he hb => ?_⟩
  have h3 := h2.2
  rw [ho] at h3
  simp only [Option.map_some, Option.getD_some] at h3
  have h4 := (Array.all_eq_true_iff_forall_mem.1 h3) e he
  simpa [hb] using h4

/-- Where every edge points back: if none may come up, all have. -/
theorem all_listed {md : Region.Mode} {listed : Array Bool} (hB : ∀ (i : Nat) (o : Oper), ops[i]? = some o → ∀ e ∈ o.after, e.on < i) (hs : listed.size = ops.size) (h : Region.ready md ops listed = []) : ∀ i, i < ops.size → listed.getD i true = true := by
  intro i
  induction i using Nat.strongRecOn with
  | ind i ih =>
    intro hi
    cases hl : listed.getD i true with
    | true => rfl
    | false =>
      exfalso
      have hm : i ∈ Region.ready md ops listed := by
        unfold Region.ready
        rw [List.mem_filter, List.mem_range]
        refine ⟨hi, ?_⟩
        rw [hl, Array.getElem?_eq_getElem hi]
        simp only [Bool.not_false, Bool.true_and, Option.map_some, Option.getD_some]
        refine Array.all_eq_true_iff_forall_mem.2 fun e he => ?_
        have hlt := hB i _ (Array.getElem?_eq_getElem hi) e he
        have h2 := ih e.on hlt (by omega)
        have h3 : listed.getD e.on false = true := by
          have h4 : e.on < listed.size := by omega
          simpa [Array.getD, h4] using h2
        simp [h3]
      rw [h] at hm
      cases hm

/-- One operation that comes to a value. -/
theorem op_value {i : Nat} {o : Oper} {a : Act} {w w' : World} {v : Value} {K : Act → World → Prop} (ho : ops[i]? = some o) (hg : o.guard = none) (hr : (execOp a.eval o).run P w = .ok (.value v) w') (h : K (a.put o.dst v) w') : wpOp P ops Q i K a w := by
  unfold wpOp
  simp only [ho]
  rw [if_pos (by simp [Region.wanted, hg])]
  exact .inl (by unfold Oper.wp; rw [hr]; exact h)

/-- .. that is carried out, and leaves no value. -/
theorem op_skip {i : Nat} {o : Oper} {a : Act} {w w' : World} {K : Act → World → Prop} (ho : ops[i]? = some o) (hg : o.guard = none) (hr : (execOp a.eval o).run P w = .ok .skip w') (h : K (a.put o.dst undef) w') : wpOp P ops Q i K a w := by
  unfold wpOp
  simp only [ho]
  rw [if_pos (by simp [Region.wanted, hg])]
  exact .inl (by unfold Oper.wp; rw [hr]; exact h)

/-- .. that calls. -/
theorem op_call {i : Nat} {o : Oper} {a : Act} {w w' : World} {f : FuncId} {args : Array Value} {K : Act → World → Prop} (ho : ops[i]? = some o) (hg : o.guard = none) (hr : (execOp a.eval o).run P w = .ok (.enter f args) w') (R : Ending → World → Prop) (hc : Calls P f args w' R) (h : ∀ e w'', R e w'' → ∃ v, e = .returned v ∧ K (a.put o.dst v) w'') : wpOp P ops Q i K a w := by
  unfold wpOp
  simp only [ho]
  rw [if_pos (by simp [Region.wanted, hg])]
  refine .inl ?_
  unfold Oper.wp
  rw [hr]
  refine Calls.mono hc fun e w'' he => ?_
  obtain ⟨v, rfl, hk⟩ := h e w'' he
  exact hk

end

end Go.Proofs.YthmjdfjchhohgaaGreatDoor
