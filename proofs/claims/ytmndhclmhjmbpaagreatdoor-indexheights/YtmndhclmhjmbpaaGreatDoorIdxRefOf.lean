/- What the reference says of indices: IndicesOf. -/
import Derived.Test.YtmndhclmhjmbpaaGreatDoorIdxRefs
import Derived.Test.YtmndhclmhjmbpaaGreatDoorHeldQuiet
import Derived.Test.YtmndhclmhjmbpaaGreatDoorFacetsIn
import Derived.Test.YtmndhclmhjmbpaaGreatDoorIndexOf
namespace Go.Proofs.YtmndhclmhjmbpaaGreatDoor
open Go.RowKit Go.Sort Go.Lib

/-- Do all vertices of a face lie below? -/
def lowB (V h : List Int) (t : Int) (x : List Int) : Bool := x.all fun u => decide (hiF V h u < t)

theorem take_all_succ {p : Int → Bool} {x : List Int} {k : Nat} (hk : k < x.length) : (x.take (k + 1)).all p = ((x.take k).all p && p (x[k]?.getD 0)) := by
  rw [List.take_add_one, List.getElem?_eq_getElem hk, Option.getD_some]
  simp only [Option.toList, List.all_append, List.all_cons, List.all_nil, Bool.and_true]

set_option maxRecDepth 100000 in
set_option maxHeartbeats 8000000 in
theorem indices_of (va vh : Value) (all : List (List Int)) (h : List Int) (w : World) (ha : Rows w va all) (hl : all.length ≤ 600) (hx : ∀ x ∈ all, x.length ≤ 7) (hr : ∀ x ∈ all, Rising x) (hh : Ints w vh h) (hhl : h.length ≤ 1000) (hlen : h.length = (vertI all).length) (hnd : (vertI all).Nodup) :
    Calls Tryz.prog 13 #[va, vh] w fun e w' => ∃ v, e = .returned v ∧ Ints w' v ((vertI all).map fun v => 1 - eulerOf (lowL all (hiF (vertI all) h) v)) ∧ Below w.heap.size w w' := by
  obtain ⟨i0, hi0, hz0, hz1, hz2⟩ := info_parts Tryz.info3
  obtain ⟨j0, hj0, hy0, hy1, hy2⟩ := info_parts Tryz.info23
  have HHI : Hid (∀ W (v : Int), Below w.heap.size w W → Calls Tryz.prog 34 #[va, vh, .int .i64 v] W fun e w' => e = .returned (.int .i64 (hiF (vertI all) h v)) ∧ Below W.heap.size W w') := fun W v hB => high_of va vh all h v W (ha.below hB) (by omega) (hh.below hB) hhl hlen hnd
  have HLK : Hid (∀ W vf (v : Int), Below w.heap.size w W → Ints W vf [v] → Calls Tryz.prog 33 #[va, vf] W fun e w' => ∃ au cu, e = .returned (.slice au (linkI all [v]).length cu) ∧ Rows w' (.slice au (linkI all [v]).length cu) (linkI all [v]) ∧ Below W.heap.size W w') := fun W vf v hB hf =>
    (link_of va vf all [v] W (ha.below hB) hf (by omega) hx hr (by simp)).mono fun e w' ⟨u, h1, h2, h3⟩ => by
      have h4 := h2
      obtain ⟨au, cu, rfl, -, -⟩ := h2.open_
      exact ⟨au, cu, h1, h4, h3⟩
  have HLS : Hid (∀ v : Int, (linkI all [v]).length ≤ 600 ∧ ∀ x ∈ linkI all [v], x.length ≤ 7) := fun v => ⟨Nat.le_trans (List.length_filter_le _ _) hl, fun x h => hx x (List.mem_filter.1 h).1⟩
  have hv := vertices_ va all w ha (by omega)
  have hh0 := hh
  obtain ⟨ah, ch, rfl, -, -⟩ := hh.open_
  have HC : Hid (∀ k, k < h.length → ∃ b o, ah = some ⟨b, o, none⟩ ∧ b < w.heap.size ∧ w.cell? ⟨b, o + k, none⟩ = some (.int .i64 (h[k]?.getD 0))) := ints_cells hh0
  obtain ⟨V, hV⟩ : ∃ V, vertI all = V := ⟨_, rfl⟩
  rw [hV] at hv hlen hnd HHI ⊢
  have HVC : Hid (Calls Tryz.prog 32 #[va] w fun e w' => ∃ av cv, e = .returned (.slice av h.length cv) ∧ h.length ≤ cv ∧ (∀ k, k < h.length → ∃ b o, av = some ⟨b, o, none⟩ ∧ b < w'.heap.size ∧ w'.cell? ⟨b, o + k, none⟩ = some (.int .i64 (V[k]?.getD 0))) ∧ Below w.heap.size w w') := hv.mono fun e w' ⟨v, h1, h2, h3⟩ => by
    have h4 := h2.any
    obtain ⟨av, cv, rfl, h6, -⟩ := h2.open_
    have h5 := ints_cells h4
    rw [← hlen] at h1 h5 h6
    exact ⟨av, cv, h1, h6.1, h5, h3⟩
  have HAT : Hid (∀ k (hk : k < V.length), hiF V h V[k] = (h[k]?).getD 0) := fun k hk => hiF_at (h := h) hnd hk
  obtain ⟨ht, hht⟩ : ∃ ht, hiF V h = ht := ⟨_, rfl⟩
  obtain ⟨G, hG⟩ : ∃ G : Int → Int, (fun v => 1 - eulerOf (lowL all ht v)) = G := ⟨_, rfl⟩
  have HG : Hid (∀ v, G v = 1 - eulerOf ((linkI all [v]).filter fun s => s.all fun u => decide (ht u < ht v))) := fun v => by rw [← hG]; rfl
  rw [hht] at HAT
  have HHJ : Hid (∀ W (v : Int), Below w.heap.size w W → Calls Tryz.prog 34 #[va, .slice ah h.length ch, .int .i64 v] W fun e w' => e = .returned (.int .i64 (ht v)) ∧ Below W.heap.size W w') := fun W v hB => by
    have := HHI.out W v hB
    rw [← hht]; exact this
  have HL0 : Hid (linkI all = linkI all) := rfl
  obtain ⟨lk, hlk⟩ : ∃ lk : Int → List (List Int), (fun v => linkI all [v]) = lk := ⟨_, rfl⟩
  have HG2 : Hid (∀ v, G v = 1 - eulerOf ((lk v).filter fun s => s.all fun u => decide (ht u < ht v))) := fun v => by rw [← hlk]; exact HG.out v
  have HLK2 : Hid (∀ W vf (v : Int), Below w.heap.size w W → Ints W vf [v] → Calls Tryz.prog 33 #[va, vf] W fun e w' => ∃ au cu, e = .returned (.slice au (lk v).length cu) ∧ Rows w' (.slice au (lk v).length cu) (lk v) ∧ Below W.heap.size W w') := fun W vf v hB hf => by rw [← hlk]; exact HLK.out W vf v hB hf
  have HLS2 : Hid (∀ v : Int, (lk v).length ≤ 600 ∧ ∀ x ∈ lk v, x.length ≤ 7) := fun v => by rw [← hlk]; exact HLS.out v
  obtain ⟨n, hn⟩ : ∃ n, h.length = n := ⟨_, rfl⟩
  have HN : Hid (V.length = n) := by show V.length = n; omega
  rw [show (fun v => 1 - eulerOf (lowL all (hiF V h) v)) = G by rw [hht]; exact hG]
  rw [hn] at HC hhl HVC HHJ ⊢
  clear hv ha hh hh0 hV hlen hnd hn hl hx hr HHI HLK HLS hht hG HG HL0 hlk
  go_enter Tryz.func13, Tryz.ntmps13
  go_wp2_with fail
  refine HVC.out.mono ?_
  rintro e V1 ⟨av, cv, rfl, hcv, hvc, hB⟩
  have HB : Hid (Below w.heap.size w V1) := hB
  have HCV : Hid (n ≤ cv) := hcv
  have HVV : Hid (∀ k, k < n → ∃ b o, av = some ⟨b, o, none⟩ ∧ b < V1.heap.size ∧ V1.cell? ⟨b, o + k, none⟩ = some (.int .i64 (V[k]?.getD 0))) := hvc
  clear hB HVC hvc hcv
  go_wp2_with fail
  go_loopw [6, 7] (fun v p W => ∃ k : Nat, k ≤ n ∧ p = .int .i64 k ∧ Hid (W.ownsRow V1.heap.size 3 1 v k (((V.take k).map G).map (Value.int .i64)) ∧ Below V1.heap.size V1 W)) (fun _ p _ => n - (intOf p).toNat)
  case atStart => exact ⟨0, by omega, rfl, World.ownsRow_nil _ _ _ _, Below.refl _ _⟩
  case round =>
    obtain ⟨k, hk, rfl, HK⟩ := hrel
    obtain ⟨ao, co, rfl⟩ := own_slice HK.out.1
    by_cases hlt : k < n
    · obtain ⟨b, o, rfl, hb, g0⟩ := HVV.out k hlt
      have g1 := (HK.out.2.cell (p := ⟨b, o + k, none⟩) hb).trans g0
      obtain ⟨bh, oh, rfl, hbh, g2⟩ := HC.out k hlt
      have HH0 : Hid (w.cell? ⟨bh, oh + k, none⟩ = some (.int .i64 (h[k]?.getD 0)) ∧ bh < w.heap.size) := ⟨g2, hbh⟩
      have HBW : Hid (Below w.heap.size w wr) := HB.out.trans (HK.out.2.mono HB.out.size)
      have HVK : Hid (V[k]?.getD 0 = V[k]'(by rw [HN.out]; exact hlt)) := by
        show _ = _
        rw [List.getElem?_eq_getElem (by rw [HN.out]; exact hlt)]; rfl
      have HA := Hid.mk' (HAT.out k (by rw [HN.out]; exact hlt))
      rw [← HVK.out] at HA
      have HT : Hid (V.take (k + 1) = V.take k ++ [V[k]?.getD 0]) := by
        show _ = _
        rw [List.take_add_one, List.getElem?_eq_getElem (by rw [HN.out]; exact hlt)]; rfl
      clear HVK
      obtain ⟨x, hxe⟩ : ∃ x, V[k]?.getD 0 = x := ⟨_, rfl⟩
      rw [hxe] at g1 HA HT
      obtain ⟨t, hte⟩ : ∃ t, h[k]?.getD 0 = t := ⟨_, rfl⟩
      rw [hte] at HH0 HA
      have hcv := HCV.out
      clear g0 g2 hxe hte
      have h1 : Ints wr (.slice (some ⟨b, o + k, none⟩) 1 (cv - k)) [x] := ⟨some ⟨b, o + k, none⟩, cv - k, rfl, ⟨by simp; omega, fun h => by cases h⟩, fun _ => ⟨b, o + k, rfl, trivial, fun j u hj => by
        have hj0 : j = 0 := by
          rcases Nat.eq_zero_or_pos j with h | h
          · exact h
          · rw [List.getElem?_eq_none (by simp; omega)] at hj; cases hj
        subst hj0
        simp at hj
        subst hj
        exact g1⟩⟩
      have hL := HLK2.out wr _ x HBW.out h1
      have hLs := HLS2.out x
      have HGX := Hid.mk' (HG2.out x)
      obtain ⟨L, hLe⟩ : ∃ L, lk x = L := ⟨_, rfl⟩
      rw [hLe] at hL hLs HGX
      have HLX : Hid (∀ s ∈ L, s.length ≤ 7) := hLs.2
      have hM6 := hLs.1
      obtain ⟨M, hMe⟩ : ∃ M, L.length = M := ⟨_, rfl⟩
      rw [hMe] at hL hM6
      have HM : Hid (L.length = M) := hMe
      clear h1 hLe hLs hMe HVV HC
      go_wp2_with fail
      refine hL.mono ?_
      clear hL
      rintro e W1 ⟨au, cu, rfl, hrl, hV⟩
      have HB1 : Hid (Below w.heap.size w W1) := HBW.out.trans (hV.mono HBW.out.size)
      have HO1 : Hid (W1.ownsRow V1.heap.size 3 1 (.slice ao k co) k (((V.take k).map G).map (Value.int .i64)) ∧ Below V1.heap.size V1 W1) := ⟨HK.out.1.kept (Below.grownBy hV) (by cases (Value.slice ao k co).ownBlock <;> simp), HK.out.2.trans (hV.mono HK.out.2.size)⟩
      obtain ⟨a1, c1, e1, -, hrc⟩ := hrl.open_
      obtain ⟨rfl, -, rfl⟩ : au = a1 ∧ M = L.length ∧ cu = c1 := by simpa using e1
      rw [HM.out] at hrc
      have HRC := Hid.mk' hrc
      clear hV hrl e1 hrc HBW g1
      go_wp2_with fail
      go_loopw [9, 10] (fun v p W => ∃ (m : Nat) (us : List Value), m ≤ M ∧ p = .int .i64 m ∧ Hid (W.ownsRow W1.heap.size 23 1 v us.length us ∧ HeadsIn anyBlock W1 us ((L.take m).filter fun s => s.all fun u => decide (ht u < ht x)) ∧ Below W1.heap.size W1 W)) (fun _ p _ => M - (intOf p).toNat)
      case atStart => exact ⟨0, [], by omega, rfl, World.ownsRow_nil _ _ _ _, ⟨rfl, fun k u x h => by simp at h⟩, Below.refl _ _⟩
      case round =>
        generalize wr = Wm at *
        obtain ⟨m, us, hm, rfl, HI⟩ := hrel
        obtain ⟨al, cl, rfl⟩ := own_slice HI.out.1
        by_cases hml : m < M
        · obtain ⟨bl, ol, rfl, -, hbl, crow⟩ := HRC.out (by omega)
          obtain ⟨a2, p2, f0, i2⟩ := crow m hml
          have HTM : Hid (L.take (m + 1) = L.take m ++ [L[m]?.getD []]) := by
            show _ = _
            rw [List.take_add_one, List.getElem?_eq_getElem (by rw [HM.out]; exact hml)]; rfl
          have hsm : L[m]?.getD [] ∈ L := by rw [List.getElem?_eq_getElem (by rw [HM.out]; exact hml)]; exact List.getElem_mem _
          have hs7 := HLX.out _ hsm
          obtain ⟨sx, hsx⟩ : ∃ sx, L[m]?.getD [] = sx := ⟨_, rfl⟩
          rw [hsx] at f0 i2 HTM hs7
          have HI2 : Hid (Ints W1 (.slice a2 sx.length p2) sx) := i2
          obtain ⟨sl, hsl⟩ : ∃ sl, sx.length = sl := ⟨_, rfl⟩
          have HSL : Hid (sx.length = sl) := hsl
          have hic := ints_cells i2
          rw [hsl] at f0 hs7 hic
          have HIC := Hid.mk' hic
          have HF0 : Hid (W1.cell? ⟨bl, ol + m, none⟩ = some (.slice a2 sl p2) ∧ bl < W1.heap.size) := ⟨f0, hbl⟩
          have f1 := (HI.out.2.2.cell (p := ⟨bl, ol + m, none⟩) hbl).trans f0
          clear crow hsm hsx i2 hsl hic f0
          go_wp2_with fail
          go_loopw [11, 12] (fun v p W => ∃ j : Nat, j ≤ sl ∧ p = .int .i64 j ∧ v = .bool ((sx.take j).all fun u => decide (ht u < t)) ∧ Hid (Below Wm.heap.size Wm W)) (fun _ p _ => sl - (intOf p).toNat)
          case atStart => exact ⟨0, by omega, rfl, by simp, Below.refl _ _⟩
          case round =>
            obtain ⟨j, hj, rfl, rfl, HW⟩ := hrel
            have f2 := (HW.out.cell (p := ⟨bl, ol + m, none⟩) (Nat.lt_of_lt_of_le hbl HI.out.2.2.size)).trans f1
            by_cases hjl : j < sl
            · obtain ⟨b1, o1, rfl, hb1, q0⟩ := HIC.out j hjl
              have HBx : Hid (Below W1.heap.size W1 wr) := HI.out.2.2.trans (HW.out.mono HI.out.2.2.size)
              have q1 := (HBx.out.cell (p := ⟨b1, o1 + j, none⟩) hb1).trans q0
              have HBy : Hid (Below w.heap.size w wr) := HB1.out.trans (HBx.out.mono HB1.out.size)
              have r1 := (HBy.out.cell (p := ⟨bh, oh + k, none⟩) hbh).trans HH0.out.1
              have HTA := Hid.mk' (take_all_succ (p := fun u => decide (ht u < t)) (x := sx) (k := j) (by rw [HSL.out]; exact hjl))
              obtain ⟨y, hy⟩ : ∃ y, sx[j]?.getD 0 = y := ⟨_, rfl⟩
              rw [hy] at q0 q1 HTA
              have HQ0 : Hid (W1.cell? ⟨b1, o1 + j, none⟩ = some (.int .i64 y)) := q0
              obtain ⟨q, hq⟩ : ∃ q, ((sx.take j).all fun u => decide (ht u < t)) = q := ⟨_, rfl⟩
              rw [hq] at HTA ⊢
              clear hy hq q0 f1
              cases q with
              | false =>
                go_wp2_with fail
                go_quiet (fail)
                go_wp2_with fail
                go_roundw
                case rel => exact ⟨j + 1, by omega, by go_num, by rw [HTA.out]; rfl, (by have h := fun q => HW.out.trans (⟨rfl, rfl, rfl, Nat.le_refl _, fun _ _ => rfl⟩ : Below Wm.heap.size wr (wr.drewN q)); exact h _)⟩
                case measure => simp [intOf]; omega
              | true =>
                have hl1 : b1 < wr.heap.size := Nat.lt_of_lt_of_le hb1 HBx.out.size
                have hl2 : bh < wr.heap.size := Nat.lt_of_lt_of_le hbh HBy.out.size
                have hl3 : bl < wr.heap.size := Nat.lt_of_lt_of_le hbl HBx.out.size
                have hcall : ∀ n' : WIn wr, Calls Tryz.prog 34 #[va, .slice (some ⟨bh, oh, none⟩) n ch, .int .i64 y] n'.w fun e w'' => e = .returned (.int .i64 (ht y)) ∧ ∃ k : WIn wr, w'' = k.w := fun n' => call_in n' (HHJ.out _ y (HBy.out.trans (n'.ok.mono HBy.out.size)))
                have gq : ∀ n' : WIn wr, n'.w.cell? ⟨b1, o1 + j, none⟩ = some (.int .i64 y) := fun n' => (n'.ok.cell (p := ⟨b1, o1 + j, none⟩) hl1).trans q1
                have gr : ∀ n' : WIn wr, n'.w.cell? ⟨bh, oh + k, none⟩ = some (.int .i64 t) := fun n' => (n'.ok.cell (p := ⟨bh, oh + k, none⟩) hl2).trans r1
                have gf : ∀ n' : WIn wr, n'.w.cell? ⟨bl, ol + m, none⟩ = some (.slice (some ⟨b1, o1, none⟩) sl p2) := fun n' => (n'.ok.cell (p := ⟨bl, ol + m, none⟩) hl3).trans f2
                clear HHJ
                go_wp2_with fail
                refine region_in (by kernel_rfl) (by kernel_rfl) ?_
                repeat (go_big_quiet_step (exact hcall _))
                refine wpQuiet_nil ?_
                rintro _ ⟨nq, rfl⟩
                have HV := Hid.mk' nq.ok
                go_wp2_with fail
                go_roundw
                case rel => exact ⟨j + 1, by omega, by go_num, by rw [HTA.out]; rfl, HW.out.trans (HV.out.mono HW.out.size)⟩
                case measure => simp [intOf]; omega
            · obtain rfl : j = sl := by omega
              have HTK : Hid (sx.take j = sx) := by
                show _ = _
                rw [← HSL.out, List.take_length]
              obtain ⟨q, hq⟩ : ∃ q, ((sx.take j).all fun u => decide (ht u < t)) = q := ⟨_, rfl⟩
              have HQ : Hid ((sx.all fun u => decide (ht u < ht x)) = q) := by
                show _ = _
                rw [HA.out, ← hq, HTK.out]
              rw [hq]
              have HBx : Hid (Below W1.heap.size W1 wr) := HI.out.2.2.trans (HW.out.mono HI.out.2.2.size)
              have hown : wr.ownsRow W1.heap.size 23 1 (.slice al us.length cl) us.length us := HI.out.1.kept (Below.grownBy HW.out) (by cases (Value.slice al us.length cl).ownBlock <;> simp)
              have hul : us.length ≤ 600 := by
                have h1 := HI.out.2.1.1
                have h2 := List.length_filter_le (fun s : List Int => s.all fun u => decide (ht u < ht x)) (L.take m)
                have h3 : (L.take m).length ≤ m := by rw [List.length_take]; omega
                omega
              clear hq f1
              cases q with
              | false =>
                go_wp2_with fail
                go_roundw
                case rel => exact ⟨m + 1, us, by omega, by go_num, hown, by
                  have := HI.out.2.1
                  rw [HTM.out, List.filter_append, List.filter_cons, if_neg (by rw [HQ.out]; decide), List.filter_nil, List.append_nil]
                  exact this, HBx.out⟩
                case measure => simp [intOf]; omega
              | true =>
                have hbs := HBx.out.size
                have HHI : Hid (HeadsIn anyBlock W1 (us ++ [.slice a2 j p2]) ((L.take (m + 1)).filter fun s => s.all fun u => decide (ht u < ht x))) := by
                  have h1 := HI2.out
                  rw [HSL.out] at h1
                  have := HI.out.2.1.snoc h1
                  show HeadsIn _ _ _ _
                  rw [HTM.out, List.filter_append, List.filter_cons, if_pos HQ.out, List.filter_nil]
                  exact this
                go_wp2_with (first
                  | (at_builtin; refine wpList_append_slice rfl (.tmp 62) (.tmp 67) 22 rfl _ 23 j0 (.slice none 0 0) 24 Tryz.underlying22 hj0 hy0 hy1 hy2 rfl _ _ _ rfl (hown.alloc _) _ [.slice a2 j p2] rfl (slice_one _ _ _) (by simp [Value.oneCell']) (by simp; omega) (by unfold maxLen; simp; omega) (by simp; omega) ?_; intro v5 w5 hown5 hg5 hl5)
                  | fail)
                go_roundw
                case rel => exact ⟨m + 1, us ++ [.slice a2 j p2], by omega, by go_num, by rw [List.length_append]; exact hown5, HHI.out, (HBx.out.alloc hbs _).grown hg5 (by simp; omega) (fun j hj => (hown.lt j hj).1)⟩
                case measure => simp [intOf]; omega
        · obtain rfl : m = M := by omega
          have HFL : Hid ((L.take m) = L) := by show _ = _; rw [← HM.out, List.take_length]
          have hhd := HI.out.2.1
          rw [HFL.out] at hhd
          obtain ⟨FL, hFL⟩ : ∃ FL, (L.filter fun s => s.all fun u => decide (ht u < ht x)) = FL := ⟨_, rfl⟩
          rw [hFL] at hhd HGX
          have hFl : FL.length ≤ 600 := by rw [← hFL]; exact Nat.le_trans (List.length_filter_le _ _) (by rw [HM.out]; exact hM6)
          have hFx : ∀ s ∈ FL, s.length ≤ 1000 := fun s hs => by rw [← hFL] at hs; have := HLX.out s (List.mem_filter.1 hs).1; omega
          have heu := euler_of (.slice al us.length cl) FL Wm (hhd.rows HI.out.2.2 HI.out.1 (fun _ _ => trivial)) (by omega) hFx
          have hes := eulerOf_small FL
          obtain ⟨ε, hε⟩ : ∃ ε, eulerOf FL = ε := ⟨_, rfl⟩
          rw [hε] at heu hes HGX
          have he1 : -600 ≤ ε := by omega
          have he2 : ε ≤ 600 := by omega
          have HBx : Hid (Below w.heap.size w Wm) := HB1.out.trans (HI.out.2.2.mono HB1.out.size)
          have hownO : Wm.ownsRow V1.heap.size 3 1 (.slice ao k co) k (((V.take k).map G).map (Value.int .i64)) := HO1.out.1.kept (Below.grownBy HI.out.2.2) (by cases (Value.slice ao k co).ownBlock <;> simp)
          have HVB : Hid (Below V1.heap.size V1 Wm) := HO1.out.2.trans (HI.out.2.2.mono HO1.out.2.size)
          have hbs := HBx.out.size
          have hbv := HVB.out.size
          have hbw := HB.out.size
          clear hFL hε hes hFx hhd HRC
          go_wp2_with fail
          refine heu.mono ?_
          clear heu
          rintro e V2 ⟨rfl, hV2⟩
          obtain rfl : Wm = V2 := hV2.symm
          clear hV2
          go_wp2_with (first
            | (at_builtin; refine wpList_append_slice rfl (.tmp 69) (.tmp 73) 23 rfl V1.heap.size 3 i0 (.int .i64 0) 8 Tryz.underlying23 hi0 hz0 hz1 hz2 rfl _ _ _ rfl (hownO.alloc _) _ [.int .i64 (1 - ε)] rfl (slice_one _ _ _) (by simp [Value.oneCell']) (by simp; omega) (by unfold maxLen; simp; omega) (by simp; omega) ?_; intro v4 w4 hown4 hg4 hl4)
            | fail)
          go_roundw
          case rel =>
            refine ⟨k + 1, by omega, by go_num, ?_, ?_⟩
            · rw [HT.out, List.map_append, List.map_append, List.map_cons, List.map_nil, List.map_cons, List.map_nil, HGX.out]; exact hown4
            · exact (HVB.out.alloc (by omega) _).grown hg4 (by simp; omega) (fun b hb => (hownO.lt b hb).1)
          case measure => simp [intOf]; omega
    · obtain rfl : k = n := by omega
      have HE : Hid (Ints wr (.slice ao k co) (V.map G)) := by
        have h1 := HK.out.1
        have h2 : V.take k = V := by rw [← HN.out, List.take_length]
        rw [h2] at h1
        have h3 := slice_of_owns (S := anyBlock) h1 (fun _ _ _ => trivial)
        exact h3
      have HB9 : Hid (Below w.heap.size w wr) := HB.out.trans (HK.out.2.mono HB.out.size)
      go_wp2_with fail
      go_ret
      exact ⟨_, rfl, HE.out, HB9.out⟩

end Go.Proofs.YtmndhclmhjmbpaaGreatDoor
