/- How many pieces the reference's pieces counts. -/
import Derived.Test.YtjaoiaajplgboaaDoorCubeScan
import Derived.Test.YtjaoiaajplgboaaDoorCubeErr
namespace Go.Proofs.YtjaoiaajplgboaaDoor
open Go.RowKit Go.Sort

/-- Which pieces count. -/
def Counts (m : List (List UInt8)) (c inner : Bool) (s : Sq) : Prop := inner = false ∨ Inner m (wide m) m.length c s

theorem ok_two {m : List (List UInt8)} (h : OkImg m) : TwoBytes m := fun a ha => by
  obtain ⟨x, y, rfl, hx, hy⟩ := sq_nat' ha
  have h1 := h.img
  have hr : (m[y]?.getD []) = m[y] := by rw [List.getElem?_eq_getElem hy]; rfl
  have hl : m[y].length = wide m := h1.1.even _ (List.getElem_mem hy)
  have e : byteOf m ((x : Int), (y : Int)) = m[y][x]'(by omega) := by
    unfold byteOf
    simp only [Int.toNat_natCast]
    rw [hr, List.getElem?_eq_getElem (by omega)]
    rfl
  rw [e]
  exact h1.2.2.2 _ (List.getElem_mem hy) _ (List.getElem_mem _)

/-- What the reference's pieces answers. -/
def RefSays (m : List (List UInt8)) (full c inner : Bool) (w : World) (e : Ending) (w' : World) : Prop :=
  ∃ N : Nat, e = .returned (.int .i64 (N : Int)) ∧ N = cntN (Counts m c inner) (firsts m (wide m) m.length (kindOf full) c) ∧ Below w.heap.size w w'

set_option maxRecDepth 100000 in
set_option maxHeartbeats 4000000 in
theorem ref_pieces (vm : Value) (m : List (List UInt8)) (w : World) (hm : Strs w vm m) (hok : OkImg m) (full c inner : Bool) :
    Calls Tryd.prog 23 #[vm, .bool full, .bool c, .bool inner] w fun e w' => RefSays m full c inner w e w' := by
  have hi := hok.img.1
  have hr24 := hok.img.2.1
  have hc24 := hok.img.2.2.1
  have HI : Hid (Img m) := hi
  have H2 : Hid (TwoBytes m) := ok_two hok
  have hgr := grid_ vm m w hm hi
  obtain ⟨B, hB⟩ : ∃ B, w.heap.size = B := ⟨_, rfl⟩
  have HBB : Hid (w.heap.size = B) := hB
  have hfl : ∀ (x y : Int) (V : World), Below B w V → (-1000000 ≤ x ∧ x ≤ 1000000) → (-1000000 ≤ y ∧ y ≤ 1000000) → Calls Tryd.prog 29 #[vm, .int .i64 x, .int .i64 y] V fun e w' => e = .returned (.bool (fullAt m (wide m) m.length x y)) ∧ w' = V := fun x y V hV hx hy => ref_full vm m V (hm.below (by rw [hB]; exact hV)) hi x y hx hy
  have HSPR : Hid (∀ (V : World), Below B w V → ∀ (g : Nat) (rb : Nat → Nat) (cap : Nat) (f : Sq → Int), GridAt B V g rb (wide m) m.length f → (∀ b, 0 ≤ f b) → ∀ (ux uy : Nat), ux < wide m → uy < m.length → byteOf m ((ux : Int), (uy : Int)) = kindOf full → ∀ n : Int, 0 < n → n ≤ 100000 →
      Calls Tryd.prog 31 #[vm, .slice (some ⟨g, 0, none⟩) m.length cap, cornerV ((ux : Int), (uy : Int)), .bool full, .bool c, .int .i64 n] V fun e w' => SpreadSays B g rb m c ((ux : Int), (uy : Int)) n f V e w') :=
    fun V hV g rb cap f hG hp ux uy h1 h2 h3 n h4 h5 => spread_ vm m B w hB.symm V hV hm hi H2.out g rb cap f hG hp full c ux uy h1 h2 h3 n h4 h5
  obtain ⟨am, ca, rfl, -, ha⟩ := hm.open_
  rw [hB] at ha
  have HA : Hid (0 < m.length → ∃ b off, am = some ⟨b, off, none⟩ ∧ anyBlock b ∧ b < B ∧ ∀ k, k < m.length → w.cell? ⟨b, off + k, none⟩ = some (encStr (m[k]?.getD []))) := ha
  obtain ⟨R, hR⟩ : ∃ R, StepTo m (wide m) m.length c = R := ⟨_, rfl⟩
  obtain ⟨K, hK⟩ : ∃ K, OfKind m (wide m) m.length (kindOf full) = K := ⟨_, rfl⟩
  have HRK : Hid (StepTo m (wide m) m.length c = R ∧ OfKind m (wide m) m.length (kindOf full) = K) := ⟨hR, hK⟩
  clear hm hi hok ha hR hK hB
  go_enter Tryd.func23, Tryd.ntmps23
  go_wp2_with fail
  refine hgr.mono ?_
  clear hgr
  rintro e w1 ⟨ag, cap, g, rb, rfl, hag, hG, hB1⟩
  rw [HBB.out] at hG hB1
  have HM1 : Hid (MarkMid B w1 g rb (wide m) m.length K R (Counts m c inner) (sqTo (wide m) 0) 0 0 (fun _ => 0)) := ⟨hG, fun _ => Int.le_refl _, fun _ => by simp, fun b _ => ⟨fun h => by omega, fun h => absurd h (met_nil b)⟩, by simp [sqTo_zero, starts, cntN]⟩
  have HB1 : Hid (Below B w w1) := hB1
  clear hG hB1
  go_wp2_with fail
  go_loopw [10, 11, 12] (fun s10 s11 p W => ∃ (k next cnt : Nat) (f : Sq → Int), k ≤ m.length ∧ p = .int .i64 k ∧ s10 = .int .i64 next ∧ s11 = .int .i64 cnt ∧ (next ≤ k * wide m ∧ cnt ≤ k * wide m) ∧ Hid (MarkMid B W g rb (wide m) m.length K R (Counts m c inner) (sqTo (wide m) k) next cnt f) ∧ Hid (Below B w W)) (fun _ _ p _ => m.length - (intOf p).toNat)
  case atStart => exact ⟨0, 0, 0, fun _ => 0, by omega, rfl, rfl, rfl, by omega, HM1.out, HB1.out⟩
  case round =>
    obtain ⟨k, next, cnt, f, hk, rfl, rfl, rfl, hnk, HM, HB⟩ := hrel
    clear HM1 HB1
    by_cases hlt : k < m.length
    · obtain ⟨b, o, rfl, -, hbw, hcell⟩ := HA.out (by omega)
      obtain rfl := hag (by omega)
      go_wp2_with fail
      go_loopw [10, 11, 13] (fun s10 s11 p W => ∃ (j next cnt : Nat) (f : Sq → Int), j ≤ wide m ∧ p = .int .i64 j ∧ s10 = .int .i64 next ∧ s11 = .int .i64 cnt ∧ (next ≤ k * wide m + j ∧ cnt ≤ k * wide m + j) ∧ Hid (MarkMid B W g rb (wide m) m.length K R (Counts m c inner) (sqTo (wide m) k ++ rowTo k j) next cnt f) ∧ Hid (Below B w W)) (fun _ _ p _ => wide m - (intOf p).toNat)
      case atStart => exact ⟨0, next, cnt, f, by omega, rfl, rfl, rfl, by omega, by rw [rowTo_zero, List.append_nil]; exact HM.out, HB.out⟩
      case round =>
        obtain ⟨j, next1, cnt1, f1, hj, rfl, rfl, rfl, hnj, HM2, HB2⟩ := hrel
        clear HM HB
        have hmul : k * wide m ≤ 23 * 24 := Nat.mul_le_mul (by omega) hc24
        obtain ⟨t, ht⟩ : ∃ t, (⟨(m[k]?.getD []).toArray⟩ : ByteArray) = t := ⟨_, rfl⟩
        have r1 : wr.cell? ⟨b, o + k, none⟩ = some (.string t) := (HB2.out.cell (p := ⟨b, o + k, none⟩) hbw).trans ((hcell k hlt).trans (by rw [← ht]))
        have hst : t.size = wide m := (text_size ht).trans (row_of HI.out hlt)
        have HST : Hid (t.size = wide m) := hst
        have i1 : (k : Int) < (m.length : Int) := by omega
        by_cases hjt : j < wide m
        · have i2 : (j : Int) < (t.size : Int) := by omega
          clear hst
          obtain ⟨d, hd⟩ : ∃ d, sqTo (wide m) k ++ rowTo k j = d := ⟨_, rfl⟩
          have HD : Hid (sqTo (wide m) k ++ rowTo k (j + 1) = d ++ [((j : Int), (k : Int))]) := by rw [rowTo_succ, ← List.append_assoc, hd]; exact rfl
          rw [hd] at HM2
          have hmk := HM2.out.grid.mark hjt hlt
          have hhd := HM2.out.grid.head k hlt
          obtain ⟨mk, hmk'⟩ : ∃ mk, f1 ((j : Int), (k : Int)) = mk := ⟨_, rfl⟩
          have HMK : Hid (f1 ((j : Int), (k : Int)) = mk) := hmk'
          have hmk0 : 0 ≤ mk := by rw [← hmk']; exact HM2.out.pos _
          rw [hmk'] at hmk
          obtain ⟨m0, mf⟩ := hmk
          have i3 : (j : Int) < (wide m : Int) := by omega
          have hfc := hfl (j : Int) (k : Int) wr HB2.out (by omega) (by omega)
          obtain ⟨fb, hfb⟩ : ∃ fb, fullAt m (wide m) m.length (j : Int) (k : Int) = fb := ⟨_, rfl⟩
          rw [hfb] at hfc
          have HIN : Hid (InSq (wide m) m.length ((j : Int), (k : Int))) := ⟨by simp only; omega, by simp only; omega, by simp only; omega, by simp only; omega⟩
          have HFB : Hid (fb = full ↔ K ((j : Int), (k : Int))) := by
            rw [← hfb, ← HRK.out.2]
            exact ⟨fun h => ⟨HIN.out, (full_kind H2.out HIN.out full).1 h⟩, fun h => (full_kind H2.out HIN.out full).2 h.2⟩
          clear hd hmk' hfb
          by_cases hq : fb = full
          · by_cases hp : 0 < mk
            · have HNW : Hid (¬ New K R d ((j : Int), (k : Int))) := fun h => h.2 ((HM2.out.met _ HIN.out).1 (by rw [HMK.out]; exact hp))
              subst hq
              go_wp2_with (first
                | (go_at_call 29; refine hfc.mono ?_; rintro e w2 ⟨rfl, rfl⟩)
                | fail)
              go_roundw
              case rel => exact ⟨j + 1, next1, cnt1, f1, by omega, by go_num, rfl, rfl, by omega, by rw [HD.out]; exact HM2.out.skip HNW.out, HB2.out⟩
              case measure => simp [intOf]; omega
            · have hpb : decide (0 < mk) = false := decide_eq_false hp
              have HM0 : Hid (mk = 0) := by show mk = 0; omega
              have HNW : Hid (New K R d ((j : Int), (k : Int))) := ⟨HFB.out.1 hq, fun h => by
                have := (HM2.out.met _ HIN.out).2 h
                rw [HMK.out] at this
                exact hp this⟩
              subst hq
              clear hp
              have hpt := HM2.out.grid.put hjt hlt ((next1 : Int) + 1)
              have hrb := HM2.out.grid.off k hlt
              have HSC0 : Hid (ScanMid B (wr.setCell ⟨rb k, j, none⟩ (.int .i64 ((next1 : Int) + 1))) g rb (wide m) m.length R (Met K R d) ((j : Int), (k : Int)) ((next1 : Int) + 1) [] (putM f1 ((j : Int), (k : Int)) ((next1 : Int) + 1)) (putM f1 ((j : Int), (k : Int)) ((next1 : Int) + 1)) false) := mark_first HM2.out hpt
              have HB3 : Hid (Below B w (wr.setCell ⟨rb k, j, none⟩ (.int .i64 ((next1 : Int) + 1)))) := HB2.out.setCell hrb.2.1 _
              have p1 : IntKind.i64.wrap ((next1 : Int) + 1) = (next1 : Int) + 1 := wrapI (by omega) (by omega)
              clear hpt
              go_wp2_with (first
                | (go_at_call 29; refine hfc.mono ?_; rintro e w2 ⟨rfl, rfl⟩)
                | fail)
              obtain ⟨N, hN⟩ : ∃ N : Int, (next1 : Int) + 1 = N := ⟨_, rfl⟩
              have HNN : Hid ((next1 : Int) + 1 = N) := hN
              have hN1 : 0 < N := by omega
              have hN2 : N ≤ 100000 := by omega
              rw [hN] at HSC0 HB3
              rw [hN]
              have HRI : Hid (∀ a b, R a b → InSq (wide m) m.length b) := fun a b h => by rw [← HRK.out.1] at h; exact h.2.1
              have HAP : Hid (∀ b, Reach R ((j : Int), (k : Int)) b → ¬ Met K R d b) := fun b hb => new_apart (fun x y hxy => by rw [← HRK.out.1] at hxy ⊢; exact step_symm x y hxy) HNW.out hb
              have HBY : Hid (∀ b, Reach R ((j : Int), (k : Int)) b → byteOf m b = kindOf fb) := fun b hb => by
                rw [← HRK.out.1] at hb
                have h1 := HNW.out.1
                rw [← HRK.out.2] at h1
                rw [← reach_byte hb]; exact h1.2
              clear hN p1 hfc m0 mf hhd r1
              go_loopw [14] (fun v W => ∃ (again : Bool) (f2 : Sq → Int), v = .bool again ∧ Hid ((again = true ∧ ScanMid B W g rb (wide m) m.length R (Met K R d) ((j : Int), (k : Int)) N [] f2 f2 false) ∨ (again = false ∧ ∃ f0, ScanMid B W g rb (wide m) m.length R (Met K R d) ((j : Int), (k : Int)) N (sqTo (wide m) m.length) f0 f2 false)) ∧ Hid (Below B w W)) (fun v W => 2 * bareW rb (wide m) m.length W + (match v with | .bool true => 1 | _ => 0))
              case atStart => exact ⟨true, _, rfl, .inl ⟨rfl, HSC0.out⟩, HB3.out⟩
              case round =>
                obtain ⟨again, f2, rfl, HSC, HB4⟩ := hrel
                clear HSC0 HB3
                cases again with
                | true =>
                  have HS4 : Hid (ScanMid B wr g rb (wide m) m.length R (Met K R d) ((j : Int), (k : Int)) N [] f2 f2 false) := by
                    rcases HSC.out with h | h
                    · exact h.2
                    · cases h.1
                  obtain ⟨wo, hwo⟩ : ∃ wo, wo = wr := ⟨_, rfl⟩
                  have HBO : Hid (bareW rb (wide m) m.length wr = bare (sqTo (wide m) m.length) f2) := bare_of HS4.out.grid
                  clear HSC
                  go_wp2_with fail
                  go_loopw [14, 15] (fun s p W => ∃ (kv : Nat) (ag : Bool) (f3 : Sq → Int), kv ≤ m.length ∧ p = .int .i64 kv ∧ s = .bool ag ∧ Hid (ScanMid B W g rb (wide m) m.length R (Met K R d) ((j : Int), (k : Int)) N (sqTo (wide m) kv) f2 f3 ag) ∧ Hid (Below B w W)) (fun _ p _ => m.length - (intOf p).toNat)
                  case atStart => exact ⟨0, false, f2, by omega, rfl, rfl, by rw [sqTo_zero]; exact HS4.out, HB4.out⟩
                  case round =>
                    obtain ⟨kv, ag5, f3, hkv, rfl, rfl, HS5, HB5⟩ := hrel
                    clear HS4 HB4
                    by_cases hkt : kv < m.length
                    · go_wp2_with fail
                      go_loopw [14, 16] (fun s p W => ∃ (ju : Nat) (ag : Bool) (f3 : Sq → Int), ju ≤ wide m ∧ p = .int .i64 ju ∧ s = .bool ag ∧ Hid (ScanMid B W g rb (wide m) m.length R (Met K R d) ((j : Int), (k : Int)) N (sqTo (wide m) kv ++ rowTo kv ju) f2 f3 ag) ∧ Hid (Below B w W)) (fun _ p _ => wide m - (intOf p).toNat)
                      case atStart => exact ⟨0, ag5, f3, by omega, rfl, rfl, by rw [rowTo_zero, List.append_nil]; exact HS5.out, HB5.out⟩
                      case round =>
                        obtain ⟨ju, ag6, f4, hju, rfl, rfl, HS6, HB6⟩ := hrel
                        clear HS5 HB5
                        obtain ⟨t2, ht2⟩ : ∃ t, (⟨(m[kv]?.getD []).toArray⟩ : ByteArray) = t := ⟨_, rfl⟩
                        have r2 : wr.cell? ⟨b, o + kv, none⟩ = some (.string t2) := (HB6.out.cell (p := ⟨b, o + kv, none⟩) hbw).trans ((hcell kv hkt).trans (by rw [← ht2]))
                        have hst2 : t2.size = wide m := (text_size ht2).trans (row_of HI.out hkt)
                        have i5 : (kv : Int) < (m.length : Int) := by omega
                        by_cases hjut : ju < wide m
                        · have i6 : (ju : Int) < (t2.size : Int) := by omega
                          have i7 : (ju : Int) < (wide m : Int) := by omega
                          have hmk2 := (HS6.out.grid.mark hjut hkt).1
                          have hhd2 := HS6.out.grid.head kv hkt
                          obtain ⟨mk2, hmk2'⟩ : ∃ mk, f4 ((ju : Int), (kv : Int)) = mk := ⟨_, rfl⟩
                          rw [hmk2'] at hmk2
                          have HMK2 : Hid (f4 ((ju : Int), (kv : Int)) = mk2) := hmk2'
                          have HIN2 : Hid (InSq (wide m) m.length ((ju : Int), (kv : Int))) := ⟨by simp only; omega, by simp only; omega, by simp only; omega, by simp only; omega⟩
                          clear hmk2' hst2 ht2
                          by_cases hmN : mk2 = N
                          · have hmb : (mk2 == N) = true := beq_iff_eq.2 hmN
                            have HFN : Hid (f4 ((ju : Int), (kv : Int)) = N) := HMK2.out.trans hmN
                            have hsp := HSPR.out wr HB6.out g rb cap f4 HS6.out.grid HS6.out.pos ju kv hjut hkt (HBY.out _ (HS6.out.marked.reach _ HIN2.out HFN.out)) N hN1 hN2
                            unfold cornerV at hsp
                            clear hmN
                            go_upto_region 24 with (go_at_call 31; refine hsp.mono ?_; rintro e w5 ⟨q, f5, rfl, hG5, hS5, hR5, hB5⟩; rw [HRK.out.1] at hS5 hR5; have HS7 : Hid (ScanMid B w5 g rb (wide m) m.length R (Met K R d) ((j : Int), (k : Int)) N (sqTo (wide m) kv ++ rowTo kv (ju + 1)) f2 f5 (ag6 || q)) := (by rw [rowTo_succ, ← List.append_assoc]; exact HS6.out.spread hN1 HAP.out HRI.out HIN2.out HFN.out hG5 hS5 hR5); have HB7 : Hid (Below B w w5) := HB6.out.trans hB5; clear hG5 hS5 hR5 hB5)
                            cases ag6 <;> cases q
                            all_goals go_wp2_with fail
                            all_goals go_roundw
                            all_goals first
                              | exact ⟨ju + 1, _, f5, by omega, by go_num, rfl, HS7.out, HB7.out⟩
                              | (simp [intOf]; omega)
                          · have hmb : (mk2 == N) = false := beq_false_of_ne hmN
                            have HFN : Hid (f4 ((ju : Int), (kv : Int)) ≠ N) := fun h => hmN (HMK2.out.symm.trans h)
                            clear hmN
                            go_wp2_with fail
                            go_roundw
                            case rel => exact ⟨ju + 1, ag6, f4, by omega, by go_num, rfl, by rw [rowTo_succ, ← List.append_assoc]; exact HS6.out.skip HFN.out, HB6.out⟩
                            case measure => simp [intOf]; omega
                        · obtain rfl : ju = wide m := by omega
                          go_wp2_with fail
                          go_roundw
                          case rel => exact ⟨kv + 1, ag6, f4, by omega, by go_num, rfl, by rw [sqTo_succ]; exact HS6.out, HB6.out⟩
                          case measure => simp [intOf]; omega
                    · obtain rfl : kv = m.length := by omega
                      go_wp2_with fail
                      go_roundw
                      case rel =>
                        refine ⟨ag5, f3, rfl, ?_, HB5.out⟩
                        cases ag5 with
                        | true => exact .inl ⟨rfl, scan_begin HS5.out⟩
                        | false => exact .inr ⟨rfl, f2, HS5.out⟩
                      case measure =>
                        rw [bare_of HS5.out.grid, HBO.out]
                        have h1 := HS5.out.scan.fewer
                        have h2 := HS5.out.scan.most
                        cases ag5 with
                        | true => have := h1 rfl; simp; omega
                        | false => simp; omega
                | false =>
                  obtain ⟨f0, hS4⟩ : ∃ f0, ScanMid B wr g rb (wide m) m.length R (Met K R d) ((j : Int), (k : Int)) N (sqTo (wide m) m.length) f0 f2 false := by
                    rcases HSC.out with h | h
                    · cases h.1
                    · exact h.2
                  have HS4 : Hid (ScanMid B wr g rb (wide m) m.length R (Met K R d) ((j : Int), (k : Int)) N (sqTo (wide m) m.length) f0 f2 false) := hS4
                  clear HSC hS4
                  go_wp2_with fail
                  go_loopw [18, 19] (fun s p W => ∃ (kv : Nat) (rim : Bool), kv ≤ m.length ∧ p = .int .i64 kv ∧ s = .bool rim ∧ Hid (rim = true ↔ ∃ a ∈ sqTo (wide m) kv, AtRim (wide m) m.length a ∧ f2 a = N) ∧ Hid (wr = W)) (fun _ p _ => m.length - (intOf p).toNat)
                  case atStart => exact ⟨0, false, by omega, rfl, rfl, ⟨fun h => (by cases h), fun ⟨a, ha, _⟩ => (by rw [sqTo_zero] at ha; cases ha)⟩, rfl⟩
                  case round =>
                    obtain ⟨kv, rim, hkv, rfl, rfl, HRM, HWR⟩ := hrel
                    have hwr := HWR.out
                    clear HWR
                    subst hwr
                    by_cases hkt : kv < m.length
                    · obtain ⟨t2, ht2⟩ : ∃ t, (⟨(m[kv]?.getD []).toArray⟩ : ByteArray) = t := ⟨_, rfl⟩
                      have r2 : wr.cell? ⟨b, o + kv, none⟩ = some (.string t2) := (HB4.out.cell (p := ⟨b, o + kv, none⟩) hbw).trans ((hcell kv hkt).trans (by rw [← ht2]))
                      have hst2 : t2.size = wide m := (text_size ht2).trans (row_of HI.out hkt)
                      have HST2 : Hid (t2.size = wide m) := hst2
                      have i5 : (kv : Int) < (m.length : Int) := by omega
                      have hhd2 := HS4.out.grid.head kv hkt
                      clear ht2 hst2
                      go_wp2_with fail
                      go_loopw [18, 20] (fun s p W => ∃ (ju : Nat) (rim : Bool), ju ≤ wide m ∧ p = .int .i64 ju ∧ s = .bool rim ∧ Hid (rim = true ↔ ∃ a ∈ sqTo (wide m) kv ++ rowTo kv ju, AtRim (wide m) m.length a ∧ f2 a = N) ∧ Hid (wr = W)) (fun _ p _ => wide m - (intOf p).toNat)
                      case atStart => exact ⟨0, rim, by omega, rfl, rfl, by rw [rowTo_zero, List.append_nil]; exact HRM.out, rfl⟩
                      case round =>
                        obtain ⟨ju, rim2, hju, rfl, rfl, HRM2, HWR⟩ := hrel
                        have hwr := HWR.out
                        clear HWR
                        subst hwr
                        clear HRM
                        by_cases hjut : ju < wide m
                        · have i6 : (ju : Int) < (t2.size : Int) := by rw [HST2.out]; omega
                          have i7 : (ju : Int) < (wide m : Int) := by omega
                          have hmk2 := (HS4.out.grid.mark hjut hkt).1
                          obtain ⟨mk2, hmk2'⟩ : ∃ mk, f2 ((ju : Int), (kv : Int)) = mk := ⟨_, rfl⟩
                          rw [hmk2'] at hmk2
                          have HMK2 : Hid (f2 ((ju : Int), (kv : Int)) = mk2) := hmk2'
                          have p3 : IntKind.i64.wrap ((m.length : Int) - 1) = (m.length : Int) - 1 := wrapI (by omega) (by omega)
                          have p4 : IntKind.i64.wrap ((t2.size : Int) - 1) = (t2.size : Int) - 1 := by rw [HST2.out]; exact wrapI (by omega) (by omega)
                          clear hmk2'
                          go_upto_region 32 with fail
                          go_cut [21] from 108 to 139 (fun s wx => ∃ z : Bool, s = .bool z ∧ Hid (z = true ↔ AtRim (wide m) m.length ((ju : Int), (kv : Int))) ∧ wr = wx)
                          case first =>
                            by_cases q1 : (ju : Int) = 0
                            · have b1 : ((ju : Int) == 0) = true := beq_iff_eq.2 q1
                              have HR : Hid (AtRim (wide m) m.length ((ju : Int), (kv : Int))) := .inl q1
                              clear q1
                              go_wp2_with fail
                              go_meet
                              exact ⟨true, rfl, ⟨fun _ => HR.out, fun _ => rfl⟩, rfl⟩
                            · have b1 : ((ju : Int) == 0) = false := beq_false_of_ne q1
                              by_cases q2 : (kv : Int) = 0
                              · have b2 : ((kv : Int) == 0) = true := beq_iff_eq.2 q2
                                have HR : Hid (AtRim (wide m) m.length ((ju : Int), (kv : Int))) := .inr (.inl q2)
                                clear q1 q2
                                go_wp2_with fail
                                go_meet
                                exact ⟨true, rfl, ⟨fun _ => HR.out, fun _ => rfl⟩, rfl⟩
                              · have b2 : ((kv : Int) == 0) = false := beq_false_of_ne q2
                                by_cases q3 : (kv : Int) = (m.length : Int) - 1
                                · have b3 : ((kv : Int) == (m.length : Int) - 1) = true := beq_iff_eq.2 q3
                                  have HR : Hid (AtRim (wide m) m.length ((ju : Int), (kv : Int))) := .inr (.inr (.inr q3))
                                  clear q1 q2 q3
                                  go_wp2_with fail
                                  go_meet
                                  exact ⟨true, rfl, ⟨fun _ => HR.out, fun _ => rfl⟩, rfl⟩
                                · have b3 : ((kv : Int) == (m.length : Int) - 1) = false := beq_false_of_ne q3
                                  by_cases q4 : (ju : Int) = (wide m : Int) - 1
                                  · have b4 : ((ju : Int) == (t2.size : Int) - 1) = true := by rw [HST2.out]; exact beq_iff_eq.2 q4
                                    have HR : Hid (AtRim (wide m) m.length ((ju : Int), (kv : Int))) := .inr (.inr (.inl q4))
                                    clear q1 q2 q3 q4
                                    go_wp2_with fail
                                    go_meet
                                    exact ⟨true, rfl, ⟨fun _ => HR.out, fun _ => rfl⟩, rfl⟩
                                  · have b4 : ((ju : Int) == (t2.size : Int) - 1) = false := by rw [HST2.out]; exact beq_false_of_ne q4
                                    have HR : Hid (¬ AtRim (wide m) m.length ((ju : Int), (kv : Int))) := fun h => by
                                      rcases h with h | h | h | h
                                      · exact q1 h
                                      · exact q2 h
                                      · exact q4 h
                                      · exact q3 h
                                    clear q1 q2 q3 q4
                                    go_wp2_with fail
                                    go_meet
                                    exact ⟨false, rfl, ⟨fun h => (by cases h), fun h => absurd h HR.out⟩, rfl⟩
                          obtain ⟨z, rfl, HZ, hwx⟩ := hcut
                          subst hwx
                          have HNX : Hid (∀ b : Bool, (b = true ↔ rim2 = true ∨ (z = true ∧ mk2 = N)) → (b = true ↔ ∃ a ∈ sqTo (wide m) kv ++ rowTo kv (ju + 1), AtRim (wide m) m.length a ∧ f2 a = N)) := by
                            intro b hb
                            rw [hb, rowTo_succ, ← List.append_assoc, HRM2.out, HZ.out, ← HMK2.out]
                            constructor
                            · rintro (⟨a, ha, h⟩ | h)
                              · exact ⟨a, List.mem_append_left _ ha, h⟩
                              · exact ⟨_, List.mem_append_right _ (by simp), h⟩
                            · rintro ⟨a, ha, h⟩
                              rcases List.mem_append.1 ha with ha | ha
                              · exact .inl ⟨a, ha, h⟩
                              · cases List.mem_singleton.1 ha; exact .inr h
                          by_cases hmN : mk2 = N
                          · have hmb : (mk2 == N) = true := beq_iff_eq.2 hmN
                            have HMN : Hid (mk2 = N) := hmN
                            clear hmN
                            cases rim2 <;> cases z
                            all_goals go_wp2_with fail
                            all_goals go_roundw
                            all_goals first
                              | exact ⟨ju + 1, _, by omega, by go_num, rfl, HNX.out _ (by simp [HMN.out]), by first | exact rfl | exact trivial⟩
                              | (simp [intOf]; omega)
                          · have hmb : (mk2 == N) = false := beq_false_of_ne hmN
                            have HMN : Hid (¬ mk2 = N) := hmN
                            clear hmN
                            cases rim2 <;> cases z
                            all_goals go_wp2_with fail
                            all_goals go_roundw
                            all_goals first
                              | exact ⟨ju + 1, _, by omega, by go_num, rfl, HNX.out _ (by simp [HMN.out]), by first | exact rfl | exact trivial⟩
                              | (simp [intOf]; omega)
                        · obtain rfl : ju = wide m := by omega
                          have hst3 : t2.size = wide m := HST2.out
                          go_wp2_with fail
                          go_roundw
                          case rel => exact ⟨kv + 1, rim2, by omega, by go_num, rfl, by rw [sqTo_succ]; exact HRM2.out, by first | exact rfl | exact trivial⟩
                          case measure => simp [intOf]; omega
                    · obtain rfl : kv = m.length := by omega
                      have HFK := (mark_end (cnt' := cntN (Counts m c inner) (starts K R [] d ++ [((j : Int), (k : Int))])) HM2.out HNW.out HIN.out HRI.out (by rw [HNN.out]; exact HS4.out) rfl).1
                      have HINR : Hid (rim = true ↔ ¬ Inner m (wide m) m.length c ((j : Int), (k : Int))) := by
                        rw [HRM.out]
                        constructor
                        · rintro ⟨a, ha, h1, h2⟩ hI
                          rw [← HNN.out] at h2
                          have h3 := (HFK a (mem_sqTo.1 ha)).1 h2
                          rw [← HRK.out.1] at h3
                          exact hI a h3 h1
                        · intro hI
                          refine Classical.byContradiction fun hc => hI fun a ha hr => hc ?_
                          have hin := reach_in ha HIN.out
                          rw [HRK.out.1] at ha
                          exact ⟨a, mem_sqTo.2 hin, hr, by rw [← HNN.out]; exact (HFK a hin).2 ha⟩
                      have HEND : Hid (∀ cnt', cnt' = cntN (Counts m c inner) (starts K R [] d ++ [((j : Int), (k : Int))]) → MarkMid B wr g rb (wide m) m.length K R (Counts m c inner) (d ++ [((j : Int), (k : Int))]) (next1 + 1) cnt' f2) := fun cnt' h => (mark_end HM2.out HNW.out HIN.out HRI.out (by rw [HNN.out]; exact HS4.out) h).2
                      have HNC : Hid (cnt1 = cntN (Counts m c inner) (starts K R [] d)) := HM2.out.cnt
                      have HN10 : Hid (N = ((next1 + 1 : Nat) : Int)) := by show N = _; rw [← HNN.out]; rfl
                      have hcl : cnt1 ≤ 100000 := by omega
                      clear HFK
                      cases rim with
                      | false =>
                        have HC : Hid (cnt1 + 1 = cntN (Counts m c inner) (starts K R [] d ++ [((j : Int), (k : Int))])) := by
                          show cnt1 + 1 = _
                          rw [cntN_pos _ (show Counts m c inner ((j : Int), (k : Int)) from .inr (Classical.byContradiction fun h => by have := HINR.out.2 h; cases this)), ← HNC.out]
                        go_wp2_with fail
                        go_roundw
                        case rel => exact ⟨j + 1, next1 + 1, cnt1 + 1, f2, by omega, by go_num, by rw [HN10.out], by go_num, by omega, by rw [HD.out]; exact HEND.out _ HC.out, HB4.out⟩
                        case measure => simp [intOf]; omega
                      | true =>
                        cases inner with
                        | false =>
                          have HC : Hid (cnt1 + 1 = cntN (Counts m c false) (starts K R [] d ++ [((j : Int), (k : Int))])) := by
                            show cnt1 + 1 = _
                            rw [cntN_pos _ (show Counts m c false ((j : Int), (k : Int)) from .inl rfl), ← HNC.out]
                          go_wp2_with fail
                          go_roundw
                          case rel => exact ⟨j + 1, next1 + 1, cnt1 + 1, f2, by omega, by go_num, by rw [HN10.out], by go_num, by omega, by rw [HD.out]; exact HEND.out _ HC.out, HB4.out⟩
                          case measure => simp [intOf]; omega
                        | true =>
                          have HC : Hid (cnt1 = cntN (Counts m c true) (starts K R [] d ++ [((j : Int), (k : Int))])) := by
                            show cnt1 = _
                            rw [cntN_neg _ (show ¬ Counts m c true ((j : Int), (k : Int)) from fun h => by
                              rcases h with h | h
                              · cases h
                              · exact HINR.out.1 rfl h), ← HNC.out]
                          go_wp2_with fail
                          go_roundw
                          case rel => exact ⟨j + 1, next1 + 1, cnt1, f2, by omega, by go_num, by rw [HN10.out], rfl, by omega, by rw [HD.out]; exact HEND.out _ HC.out, HB4.out⟩
                          case measure => simp [intOf]; omega
          · have HNW : Hid (¬ New K R d ((j : Int), (k : Int))) := fun h => hq (HFB.out.2 h.1)
            obtain rfl : fb = !full := by cases fb <;> cases full <;> simp_all
            clear hq
            cases full with
            | true =>
              go_wp2_with (first
                | (go_at_call 29; refine hfc.mono ?_; rintro e w2 ⟨rfl, rfl⟩)
                | fail)
              go_roundw
              case rel => exact ⟨j + 1, next1, cnt1, f1, by omega, by go_num, rfl, rfl, by omega, by rw [HD.out]; exact HM2.out.skip HNW.out, HB2.out⟩
              case measure => simp [intOf]; omega
            | false =>
              go_wp2_with (first
                | (go_at_call 29; refine hfc.mono ?_; rintro e w2 ⟨rfl, rfl⟩)
                | fail)
              go_roundw
              case rel => exact ⟨j + 1, next1, cnt1, f1, by omega, by go_num, rfl, rfl, by omega, by rw [HD.out]; exact HM2.out.skip HNW.out, HB2.out⟩
              case measure => simp [intOf]; omega
        · obtain rfl : j = wide m := by omega
          go_wp2_with fail
          go_roundw
          case rel => exact ⟨k + 1, next1, cnt1, f1, by omega, by go_num, rfl, rfl, by rw [Nat.succ_mul]; exact hnj, by rw [sqTo_succ]; exact HM2.out, HB2.out⟩
          case measure => simp [intOf]; omega
    · obtain rfl : k = m.length := by omega
      go_wp2_with fail
      go_ret
      refine ⟨cnt, rfl, ?_, by rw [HBB.out]; exact HB.out⟩
      have h := HM.out.cnt
      rw [← HRK.out.1, ← HRK.out.2] at h
      exact h

end Go.Proofs.YtjaoiaajplgboaaDoor
