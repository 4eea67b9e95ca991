/- The walk of counted. -/
import Derived.Test.YtkmecdgnoemimaaDoorStairs
namespace Go.Proofs.YtkmecdgnoemimaaDoor
open Go.RowKit Go.Sort Go.Maps Go.Deep

theorem strs_nil (S : Nat → Prop) (W : World) : StrsIn S W (.slice none 0 0) [] := ⟨none, 0, by simp, ⟨by simp, fun _ => by simp⟩, fun h => by simp at h⟩
/-- Only one block has changed. -/
def OnlyAt (A : Nat) (W W' : World) : Prop := W'.heap.size = W.heap.size ∧ ∀ p : Addr, p.block ≠ A → W'.cell? p = W.cell? p
theorem OnlyAt.refl (A : Nat) (W : World) : OnlyAt A W W := ⟨rfl, fun _ _ => rfl⟩
theorem OnlyAt.set {A : Nat} {W W' : World} (h : OnlyAt A W W') (k : Nat) (v : Value) : OnlyAt A W (W'.setCell ⟨A, k, none⟩ v) :=
  ⟨by rw [World.size_setCell]; exact h.1, fun p hp => (World.cell?_setCell_other _ _ _ _ (fun e => hp (by first | (rw [e]) | (rw [← e])))).trans (h.2 p hp)⟩

set_option maxRecDepth 100000 in
set_option maxHeartbeats 4000000 in
theorem counted_ (b : Nat) (F : List (List UInt8)) (G : List UInt8 → Prop) (w : World) (hP : PileAt w b F G) (hF : F.length ≤ 600) (hx : ∀ x ∈ F, x.length ≤ 7) (hc : ∀ x ∈ F, ∀ c ∈ x, c.toNat < 100) :
    Calls Tryd.prog 29 #[.map (some b)] w fun e w' => CountedSays F G w e w' := by
  have hB0 : Below w.heap.size w (w.alloc (.cells Tryd.zeroCells87 87)) := (Below.refl _ w).alloc (Nat.le_refl _) _
  have hfc := faces_ b F G 0 (w.alloc (.cells Tryd.zeroCells87 87)) (hP.below hB0) (by omega) (fun x hx' => by have := hx x hx'; omega)
  have hrow0 : (w.alloc (.cells Tryd.zeroCells87 87)).rowIs w.heap.size 87 100 (fun _ => .int .u8 0) := by
    rw [Tryd.zeroes]
    have := World.rowIs_alloc w (Array.replicate 100 (.int .u8 0)) 87 (fun _ => .int .u8 0) (fun i hi => by simp at hi; simp [hi])
    simpa using this
  have hbl := hP.lt
  have HP : Hid (PileAt w b F G) := hP
  have HX : Hid ((∀ x ∈ F, x.length ≤ 7) ∧ ∀ x ∈ F, ∀ c ∈ x, c.toNat < 100) := ⟨hx, hc⟩
  clear hP hx hc
  go_enter Tryd.func29, Tryd.ntmps29
  go_wp2_with fail
  refine hfc.mono ?_
  clear hfc
  rintro e w1 ⟨vv, us, rfl, hs1, hn1, hm1, hB1⟩
  have HU : Hid (us.Nodup ∧ ∀ x, x ∈ us ↔ x ∈ F ∧ x.length = 1) := ⟨hn1, fun x => by rw [hm1]; exact and_congr_right (fun _ => by omega)⟩
  obtain ⟨vs, hvs⟩ : ∃ vs, srtS us = vs := ⟨_, rfl⟩
  have hmv : ∀ x, x ∈ vs ↔ x ∈ us := fun x => by rw [← hvs]; exact (List.mergeSort_perm us _).mem_iff
  have HVN : Hid (vs.Nodup ∧ ∀ x ∈ vs, x ∈ F ∧ x.length = 1) := ⟨by rw [← hvs]; exact (List.mergeSort_perm us _).nodup_iff.2 hn1, fun x hx' => (HU.out.2 x).1 ((hmv x).1 hx')⟩
  have HVS : Hid (srtS us = vs) := hvs
  have hvl : vs.length ≤ 600 := by
    have h1 : vs.length = us.length := by rw [← hvs]; exact (List.mergeSort_perm us _).length_eq
    have := nodup_le hn1 (fun x hx' => ((hm1 x).1 hx').1)
    omega
  rw [hvs] at hs1
  obtain ⟨av, cv, rfl, -, hxv⟩ := hs1.open_
  have hBw : Below w.heap.size w w1 := hB0.trans (hB1.mono hB0.size)
  have hr1 : w1.rowIs w.heap.size 87 100 (fun _ => .int .u8 0) := hrow0.of_block (hB1.block _ (by simp))
  obtain ⟨n, hn⟩ : ∃ n, vs.length = n := ⟨_, rfl⟩
  have HN : Hid (vs.length = n) := hn
  rw [hn] at hvl hxv ⊢
  clear hs1 hn1 hm1 hvs hmv hrow0 hB0 hn
  go_wp2_with fail
  go_loopw [15] (fun p wr => ∃ k : Nat, k ≤ n ∧ p = .int .i64 k ∧ wr.rowIs w.heap.size 87 100 (fun j => byteV (placeK vs k (UInt8.ofNat j))) ∧ Below w.heap.size w wr ∧ OnlyAt w.heap.size w1 wr) (fun p _ => n - (intOf p).toNat)
  case atStart => exact ⟨0, by omega, rfl, hr1.congr (fun j _ => by rw [place_zero]; rfl), hBw, OnlyAt.refl _ _⟩
  case round =>
    obtain ⟨k, hk, rfl, hrow, hB, hB2⟩ := hrel
    have HR : Hid (wr.rowIs w.heap.size 87 100 (fun j => byteV (placeK vs k (UInt8.ofNat j)))) := hrow
    clear hr1 hBw
    by_cases hlt : k < n
    · have hkv : k < vs.length := by rw [HN.out]; exact hlt
      obtain ⟨bv, ov, rfl, hbv, hbl2, cv1⟩ := hxv (by omega)
      have hmem : vs[k]?.getD [] ∈ vs := by rw [List.getElem?_eq_getElem hkv]; simp
      obtain ⟨hxF, hx1⟩ := HVN.out.2 _ hmem
      obtain ⟨c, hce⟩ : ∃ c, vs[k]?.getD [] = [c] := by
        obtain ⟨c, hce⟩ := List.length_eq_one_iff.1 hx1
        exact ⟨c, hce⟩
      have hcc := HX.out.2 _ hxF c (by rw [hce]; simp)
      have HCE : Hid (vs[k]? = some [c]) := by
        show vs[k]? = some [c]
        rw [List.getElem?_eq_getElem hkv, Option.getD_some] at hce
        rw [List.getElem?_eq_getElem hkv, hce]
      have g1 := cv1 k hlt
      rw [hce] at g1
      have hne : bv ≠ w.heap.size := by simp at hbv; omega
      obtain ⟨sx, hsx⟩ : ∃ s : ByteArray, encStr [c] = .string s := ⟨_, rfl⟩
      have hidx := fun W => head_index c [] W
      rw [hsx] at g1 hidx
      have g2 : wr.cell? ⟨bv, ov + k, none⟩ = some (.string sx) := (hB2.2 ⟨bv, ov + k, none⟩ hne).trans g1
      have hcell := hrow.cell (show c.toNat < 100 by omega)
      have hfz := hrow.frozen c.toNat
      have hn0 : (0 : Int) ≤ (c.toNat : Int) := by omega
      have hn1 : (c.toNat : Int) < 100 := by omega
      clear hxv hbv hce hmem hxF hx1 g1 hsx hrow cv1
      go_wp2
      go_roundw
      case rel =>
        refine ⟨k + 1, hlt, by go_num, ?_, hB.setCell (p := ⟨w.heap.size, c.toNat, none⟩) (Nat.le_refl _) _, hB2.set _ _⟩
        refine (HR.out.set c.toNat _).congr (fun j hj => ?_)
        by_cases e : j = c.toNat
        · subst e
          rw [if_pos rfl, UInt8.ofNat_toNat, place_here HVN.out.1 hkv HCE.out]
          unfold byteV
          rw [UInt8.toNat_ofNat']
          simp
        · rw [if_neg e, place_there hkv HCE.out (fun e' => e (by
            rw [← e', UInt8.toNat_ofNat']; omega))]
      case measure => simp [intOf]; omega
    · have hkn : k = n := by omega
      subst hkn
      have hfo := facets_own b F G wr (HP.out.below hB) (by omega) (fun x hx' => by have := HX.out.1 x hx'; omega)
      have HB : Hid (Below w.heap.size w wr) := hB
      clear hxv hrow hB2 hB
      go_wp2_with fail
      refine hfo.mono ?_
      clear hfo
      rintro e w2 ⟨v2, ss, rfl, hown, hnd, hms, hB3⟩
      have HSS : Hid (ss.Nodup ∧ ∀ x, x ∈ ss ↔ x ∈ F ∧ ¬ G x) := ⟨hnd, hms⟩
      have hB4 : Below w.heap.size w w2 := HB.out.trans (hB3.mono HB.out.size)
      have HR2 : Hid (w2.rowIs w.heap.size 87 100 (fun j => byteV (placeK vs k (UInt8.ofNat j)))) := HR.out.of_block (hB3.block _ HR.out.lt)
      obtain ⟨fs, hfs⟩ : ∃ fs, srtS ss = fs := ⟨_, rfl⟩
      have HFS : Hid (srtS ss = fs) := hfs
      have HFM : Hid (∀ x ∈ fs, x ∈ F) := fun x hx' => by
        rw [← HFS.out] at hx'
        exact ((HSS.out.2 x).1 ((List.mergeSort_perm ss _).mem_iff.1 hx')).1
      have hfl : fs.length ≤ 600 := by
        have h1 : fs.length = ss.length := by rw [← HFS.out]; exact (List.mergeSort_perm ss _).length_eq
        have := nodup_le hnd (fun x hx' => ((hms x).1 hx').1)
        omega
      rw [hfs] at hown
      obtain ⟨N, hN⟩ : ∃ N, fs.length = N := ⟨_, rfl⟩
      have HFN : Hid (fs.length = N) := hN
      rw [hN] at hfl
      have hws : w.heap.size < wr.heap.size := HR.out.lt
      have hform := hown.form
      rw [hN] at hform
      clear hnd hms hfs hN hown HR
      rcases hform with ⟨rfl, hnil⟩ | ⟨g, cap, rfl, hcap, hbg, hgl, hT⟩
      · have HNI : Hid (fs = []) := hnil
        clear hnil
        go_wp2
        go_loopw [30] (fun p W => p = .int .i64 0 ∧ W = w2) (fun _ _ => 0)
        case atStart => exact ⟨rfl, rfl⟩
        case round =>
          obtain ⟨rfl, rfl⟩ := hrel
          go_wp2
          go_ret
          refine ⟨_, us, ss, rfl, ?_, HU.out, HSS.out, hB4⟩
          rw [HFS.out, HNI.out]
          exact strs_nil _ _
      · have HT : Hid (TextsAt w2 g fs) := hT
        have hgw : w.heap.size < g := by omega
        clear hT
        go_wp2
        go_loopw [30] (fun p W => ∃ m : Nat, m ≤ N ∧ p = .int .i64 m ∧ TextsAt W g (mapTo (placeU vs) m fs) ∧ W.rowIs w.heap.size 87 100 (fun j => byteV (placeK vs k (UInt8.ofNat j))) ∧ Below w.heap.size w W ∧ g < W.heap.size)
          (fun p _ => N - (intOf p).toNat)
        case atStart => exact ⟨0, by omega, rfl, by rw [mapTo_zero]; exact HT.out, HR2.out, hB4, hgl⟩
        case round =>
          obtain ⟨m, hm, rfl, hTm, hrm, hBm, hgm⟩ := hrel
          obtain ⟨wo, hwo⟩ : ∃ wo : World, wo = wr := ⟨_, rfl⟩
          subst hwo
          have HTM : Hid (TextsAt wo g (mapTo (placeU vs) m fs)) := hTm
          have HRM : Hid (wo.rowIs w.heap.size 87 100 (fun j => byteV (placeK vs k (UInt8.ofNat j)))) := hrm
          clear hTm hrm HT HR2
          by_cases hlm : m < N
          · have hmf : m < fs.length := by rw [HFN.out]; exact hlm
            have hcm := HTM.out m fs[m] (mapTo_get hmf)
            have HSU : Hid (mapTo (placeU vs) (m + 1) fs = (mapTo (placeU vs) m fs).set m (placeU vs fs[m])) := mapTo_succ hmf
            have hxF := HFM.out fs[m] (List.getElem_mem hmf)
            obtain ⟨x, hxe⟩ : ∃ x, fs[m] = x := ⟨_, rfl⟩
            rw [hxe] at hcm HSU hxF
            have hxl := HX.out.1 x hxF
            have HXC : Hid (∀ c ∈ x, c.toNat < 100) := HX.out.2 x hxF
            have g2 := hcm.1
            obtain ⟨cap2, w3, hcv, hby, hB5, hsz5⟩ := bytes_made wo x
            obtain ⟨sx, hsx⟩ : ∃ s : ByteArray, encStr x = .string s := ⟨_, rfl⟩
            rw [hsx] at g2 hcv
            have HBY : Hid (BytesAt w3 wo.heap.size x) := hby
            have HB5 : Hid (Below wo.heap.size wo w3) := hB5
            clear hxe hsx hby hB5 hcm hxF
            go_wp2
            go_loopw [39] (fun p W => ∃ j : Nat, j ≤ x.length ∧ p = .int .i64 j ∧ BytesAt W wo.heap.size (mapTo (placeK vs k) j x) ∧ Below wo.heap.size wo W ∧ W.heap.size = wo.heap.size + 1)
              (fun p _ => x.length - (intOf p).toNat)
            case atStart => exact ⟨0, by omega, rfl, by rw [mapTo_zero]; exact HBY.out, HB5.out, hsz5⟩
            case round =>
              obtain ⟨j, hj, rfl, hby, hB6, hsz6⟩ := hrel
              have HBY2 : Hid (BytesAt wr wo.heap.size (mapTo (placeK vs k) j x)) := hby
              clear hby HBY HB5 hcv g2
              by_cases hjx : j < x.length
              · have hg := HBY2.out j x[j] (mapTo_get hjx)
                have HSV : Hid (mapTo (placeK vs k) (j + 1) x = (mapTo (placeK vs k) j x).set j (placeK vs k x[j])) := mapTo_succ hjx
                have hzc := HXC.out x[j] (List.getElem_mem hjx)
                obtain ⟨z, hz⟩ : ∃ z, x[j] = z := ⟨_, rfl⟩
                rw [hz] at hg HSV hzc
                have hgc := hg.1
                have hgf := hg.2
                have hrow := (HRM.out.of_block (hB6.block _ HRM.out.lt)).cell (show z.toNat < 100 from hzc)
                rw [UInt8.ofNat_toNat] at hrow
                have HSE := HBY2.out.set (k := j) (by rw [mapTo_length]; exact hjx) (placeK vs k z)
                rw [← HSV.out] at HSE
                have HS2 : Hid (BytesAt (wr.setCell ⟨wo.heap.size, j, none⟩ (byteV (placeK vs k z))) wo.heap.size (mapTo (placeK vs k) (j + 1) x)) := HSE
                obtain ⟨y, hy⟩ : ∃ y : Int, byteV (placeK vs k z) = .int .u8 y := ⟨_, rfl⟩
                rw [hy] at hrow HS2
                have hn0 : (0 : Int) ≤ (j : Int) := by omega
                have hn1 : (0 : Int) ≤ (z.toNat : Int) := by omega
                have hn2 : (z.toNat : Int) < 100 := by omega
                clear hg HSE hz HSV hy
                go_wp2
                go_roundw
                case rel => exact ⟨j + 1, by omega, by go_num, HS2.out, hB6.setCell (p := ⟨wo.heap.size, j, none⟩) (Nat.le_refl _) _, by rw [World.size_setCell]; exact hsz6⟩
                case measure => simp [intOf]; omega
              · obtain rfl : j = x.length := by omega
                have hba := bytes_back (cap := cap2) HBY2.out (mapTo_length _ _ x)
                rw [mapTo_all] at hba
                have hpe : x.map (placeK vs k) = placeU vs x := by unfold placeU; rw [HN.out]
                rw [hpe] at hba
                obtain ⟨st, hst⟩ : ∃ s : ByteArray, encStr (placeU vs x) = .string s := ⟨_, rfl⟩
                have HT2 : Hid (TextsAt wr g (mapTo (placeU vs) m fs)) := HTM.out.under hgm hB6
                have hcm := HT2.out m fs[m] (mapTo_get hmf)
                have hcl := hcm.1
                have hfz := hcm.2
                have hT3 := HT2.out.set (k := m) (by rw [mapTo_length]; exact hmf) (placeU vs x)
                rw [← HSU.out, hst] at hT3
                rw [hst] at hba
                obtain ⟨u0, hu0⟩ : ∃ u, encStr fs[m] = u := ⟨_, rfl⟩
                rw [hu0] at hcl
                have HT3 : Hid (TextsAt (wr.setCell ⟨g, m, none⟩ (.string st)) g (mapTo (placeU vs) (m + 1) fs)) := hT3
                have HR3 : Hid ((wr.setCell ⟨g, m, none⟩ (.string st)).rowIs w.heap.size 87 100 (fun j => byteV (placeK vs k (UInt8.ofNat j)))) := by
                  exact (HRM.out.of_block (hB6.block _ HRM.out.lt)).of_block (((Below.refl (w.heap.size + 1) wr).setCell (p := ⟨g, m, none⟩) (by show w.heap.size + 1 ≤ g; omega) _).block w.heap.size (by omega))
                have hB7 : Below w.heap.size w wr := hBm.trans (hB6.mono hBm.size)
                have hsz7 : g < wr.heap.size := by omega
                have hn0 : (0 : Int) ≤ (m : Int) := by omega
                clear hT3 hst hcm hpe hu0
                go_wp2
                go_roundw
                case rel => exact ⟨m + 1, by omega, by go_num, HT3.out, HR3.out, hB7.setCell (p := ⟨g, m, none⟩) (by show w.heap.size ≤ g; omega) _, by rw [World.size_setCell]; exact hsz7⟩
                case measure => simp [intOf]; omega
          · obtain rfl : m = N := by omega
            have HI : Hid (StrsIn (fun b => w.heap.size ≤ b) wo (.slice (some ⟨g, 0, none⟩) m cap) ((srtS ss).map (placeU (srtS us)))) := by
              show StrsIn _ _ _ _
              have h1 := HTM.out
              have h2 := HFN.out
              have h3 : mapTo (placeU vs) m fs = fs.map (placeU vs) := by rw [← h2]; exact mapTo_all _ _
              rw [h3] at h1
              have h4 := strs_of_texts (S := fun b => w.heap.size ≤ b) (cap := cap) h1 (Nat.le_of_lt hgw) (by rw [List.length_map, h2]; exact hcap)
              rw [List.length_map, h2] at h4
              rw [HFS.out, HVS.out]
              exact h4
            clear HTM
            go_wp2
            go_ret
            exact ⟨_, us, ss, rfl, HI.out, HU.out, HSS.out, hBm⟩

end Go.Proofs.YtkmecdgnoemimaaDoor
