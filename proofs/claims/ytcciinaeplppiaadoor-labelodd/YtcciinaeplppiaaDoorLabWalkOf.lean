/- The reference's walk. -/
import Derived.Test.YtcciinaeplppiaaDoorLabWalkL
import Derived.Test.YtcciinaeplppiaaDoorLabThrough
namespace Go.Proofs.YtcciinaeplppiaaDoor
open Go.RowKit Go.Sort

set_option maxRecDepth 100000 in
set_option maxHeartbeats 4000000 in
theorem walkOf_ {n : Nat} (hn : n ≤ 12) {ls : List Int} (vl : Value) (w : World) (hl : Ints w vl ls) (hls : ls.length = (spotsL n).length) (hg : ∀ j, j < ls.length → 0 ≤ labA ls j ∧ labA ls j ≤ 2) :
    Calls Tryd.prog 19 #[.int .i64 (n : Int), vl] w fun e w' => ∃ v, e = .returned v ∧ Ints w' v (walkL n ls) ∧ Below w.heap.size w w' := by
  obtain ⟨j0, hj0, hy0, hy1, hy2⟩ := info_parts Tryd.infoInt
  have HLS := Hid.mk' (And.intro hl (And.intro hls hg))
  have hsp := spots_ n hn w
  have h91 := spots_few n hn
  obtain ⟨al, cl, rfl, -, -⟩ := hl.open_
  obtain ⟨l, hle⟩ : ∃ l, spotsL n = l := ⟨_, rfl⟩
  have HSL : Hid (spotsL n = l) := hle
  rw [hle] at h91 hsp
  obtain ⟨L, hLL⟩ : ∃ L, l.length = L := ⟨_, rfl⟩
  have HLL : Hid (l.length = L ∧ ls.length = L) := ⟨hLL, by rw [hls, hle, hLL]⟩
  have hL91 : L ≤ 91 := by rw [← hLL]; omega
  rw [HLL.out.2]
  clear hl hls hg h91 hle hLL
  go_enter Tryd.func19, Tryd.ntmps19
  go_upto_region 2 with (go_at_call 11; refine hsp.mono ?_; rintro e9 V1 ⟨v1, rfl, hr1, hb1⟩; have H1 := Hid.mk' (And.intro hr1 hb1); obtain ⟨sa, cs, hv1⟩ := hr1.form; subst hv1; clear hr1 hb1 hsp)
  have hsm := smallOf_ n hn V1
  rw [HLL.out.1] at H1 ⊢
  go_upto_region 3 with (go_at_call 10; refine hsm.mono ?_; rintro e9 V2 ⟨v2, rfl, hr2, hb2⟩; have H2 := Hid.mk' (And.intro hr2 hb2); obtain ⟨ta, ct, hv2⟩ := own_slice1 hr2; subst hv2; clear hr2 hb2 hsm)
  obtain ⟨T, hT⟩ : ∃ T, smallL n = T := ⟨_, rfl⟩
  have HT : Hid (smallL n = T) := hT
  rw [hT] at H2 ⊢
  obtain ⟨tl, htl⟩ : ∃ tl, T.length = tl := ⟨_, rfl⟩
  have HTL : Hid (T.length = tl) := htl
  rw [htl] at H2 ⊢
  clear hT htl
  have HV2 : Hid (Below w.heap.size w V2) := H1.out.2.trans (H2.out.2.mono H1.out.2.size)
  have HAT : Hid (∀ V, Below V2.heap.size V2 V → Rows V (.slice ta tl ct) T ∧ Ints V (.slice al L cl) ls ∧ Below w.heap.size w V) := fun V hV => by
    refine ⟨H2.out.1.rows.below hV, ?_, HV2.out.trans (hV.mono HV2.out.size)⟩
    have h1 := (HLS.out.1.below HV2.out).below hV
    rw [HLL.out.2] at h1
    exact h1
  have HCE : Hid (∀ V k s, Below V2.heap.size V2 V → l[k]? = some s → ∃ gs, sa = some ⟨gs, 0, none⟩ ∧ V.cell? ⟨gs, k * 3, none⟩ = some (.int .i64 (s.1 : Int)) ∧ V.cell? ⟨gs, k * 3 + 2, none⟩ = some (.int .i64 (s.2.2 : Int))) := fun V k s hV hk => by
    have hkl : k < l.length := (List.getElem?_eq_some_iff.1 hk).1
    have h8 : V1.ownsRow w.heap.size 48 3 (.slice sa L cs) l.length (spotCells l) := H1.out.1
    obtain ⟨g, c, e, -⟩ := h8.form (by omega)
    cases e
    have h9 : SpotRow w.heap.size V1 (.slice (some ⟨g, 0, none⟩) l.length cs) l := by rw [HLL.out.1]; exact H1.out.1
    obtain ⟨c1, -, c3⟩ := h9.cells hk
    have hB : ∀ p : Addr, p.block < V1.heap.size → V.cell? p = V1.cell? p := fun p hp => (hV.cell (p := p) (Nat.lt_of_lt_of_le hp H2.out.2.size)).trans (H2.out.2.cell (p := p) hp)
    exact ⟨g, rfl, (hB ⟨g, k * 3, none⟩ (cell_lt c1)).trans c1, (hB ⟨g, k * 3 + 2, none⟩ (cell_lt c3)).trans c3⟩
  go_wp2_with fail
  go_loopw [7] (fun p W => ∃ i : Nat, i ≤ n ∧ p = .int .i64 (i : Int) ∧ Hid (walkTo n ls i = walkL n ls ∧ Below V2.heap.size V2 W)) (fun p _ => (intOf p).toNat)
  case atStart => exact ⟨n, by omega, rfl, rfl, Below.refl _ _⟩
  case round =>
    obtain ⟨i, hi, rfl, HI⟩ := hrel
    cases i with
    | zero =>
      have HE : Hid (Ints wr (.slice none 0 0) (walkL n ls) ∧ Below w.heap.size w wr) := by
        refine ⟨?_, (HAT.out wr HI.out.2).2.2⟩
        rw [← HI.out.1]
        exact SliceIn.nil _ _
      go_wp2_with fail
      go_ret
      exact ⟨_, rfl, HE.out⟩
    | succ i =>
      obtain ⟨i1, hi1⟩ : ∃ i1, i + 1 = i1 := ⟨_, rfl⟩
      have HI1 : Hid (i + 1 = i1) := hi1
      rw [hi1] at hi HI ⊢
      have hi0 : 0 < i1 := by omega
      have hsub : (i1 : Int) - 1 = (i : Int) := by omega
      obtain ⟨Wr, hWr⟩ : ∃ W, W = wr := ⟨_, rfl⟩
      subst hWr
      have z0 : (0 : Int) < (i1 : Int) := by omega
      clear hi1
      go_wp2_with fail
      go_loopw [8, 9] (fun pd p W => ∃ (vd : Value) (k : Nat), k ≤ L ∧ pd = vd ∧ p = .int .i64 (k : Int) ∧ Hid (W.ownsRow V2.heap.size 3 1 vd (sideTo l i1 k).length ((sideTo l i1 k).map (Value.int .i64)) ∧ Below V2.heap.size V2 W)) (fun _ p _ => L - (intOf p).toNat)
      case atStart => exact ⟨_, 0, by omega, rfl, rfl, World.ownsRow_nil _ _ _ _, HI.out.2⟩
      case round =>
        obtain ⟨vd, k, hk, hvd, rfl, HK⟩ := hrel
        obtain ⟨ad, cd, hv9⟩ := own_sl HK.out.1
        have hKf := sideTo_few l i1 k
        obtain ⟨K, hK⟩ : ∃ K, (sideTo l i1 k).length = K := ⟨_, rfl⟩
        have HKK : Hid ((sideTo l i1 k).length = K) := hK
        rw [hK] at hv9 hKf HK
        subst hv9
        subst hvd
        clear hK
        by_cases hkL : k < L
        · obtain ⟨s, hs⟩ : ∃ s, l[k]? = some s := ⟨_, List.getElem?_eq_getElem (by rw [HLL.out.1]; exact hkL)⟩
          obtain ⟨gs, hgs, c1, c3⟩ := HCE.out wr k s HK.out.2 hs
          subst hgs
          obtain ⟨s1, s2, s3⟩ := s
          dsimp only at c1 c3
          have HON : Hid (onSide (spA l k) i1 = ((s3 == 0) && ((s1 == i1) || (s1 + 1 == i1)))) := by show _ = _; unfold spA; rw [hs]; rfl
          have hws : V2.heap.size ≤ wr.heap.size := HK.out.2.size
          have y0 : (0 : Int) ≤ (k : Int) := by omega
          have y1 : (k : Int) < (L : Int) := by omega
          clear hs
          by_cases h3 : s3 = 0
          · subst h3
            by_cases h1 : s1 = i1
            · subst s1
              have HE : Hid (sideTo l i1 (k + 1) = sideTo l i1 k ++ [(k : Int)]) := sideTo_yes (by rw [HON.out]; simp)
              go_wp2_with (first
                | (at_builtin; refine wpList_append_own_at _ rfl (.tmp 52) (.tmp 54) 22 rfl V2.heap.size 3 j0 (.int .i64 0) 1 8 Tryd.underlying22 hj0 hy0 hy1 hy2 rfl (by decide) _ K _ rfl (HK.out.1.alloc _) ⟨_, 0, none⟩ 1 1 [.int .i64 (k : Int)] rfl rfl (cells_new _ _ _) (by simp [Value.oneCell']) (by unfold maxLen; omega) (by omega) (by simp; omega) ?_; intro v5 w5 hown5 hg5 hn5 hl5; have H5 := Hid.mk' (And.intro hown5 (And.intro hg5 hl5)); clear hown5 hg5 hn5 hl5)
                | fail)
              go_roundw
              case rel =>
                refine ⟨_, k + 1, by omega, rfl, by go_num, ?_, (HK.out.2.alloc hws _).grown H5.out.2.1 (by simp; omega) (fun b e => (HK.out.1.lt b e).1)⟩
                rw [HE.out, List.length_append, HKK.out, List.map_append]
                exact H5.out.1
              case measure => simp [intOf]; omega
            · have b1 : ((s1 : Int) == (i1 : Int)) = false := beq_false_of_ne (by omega)
              by_cases h2 : s1 = i
              · subst s1
                have HE : Hid (sideTo l i1 (k + 1) = sideTo l i1 k ++ [(k : Int)]) := sideTo_yes (by rw [HON.out]; have := HI1.out; simp [this])
                go_wp2_with (first
                  | (at_builtin; refine wpList_append_own_at _ rfl (.tmp 52) (.tmp 54) 22 rfl V2.heap.size 3 j0 (.int .i64 0) 1 8 Tryd.underlying22 hj0 hy0 hy1 hy2 rfl (by decide) _ K _ rfl (HK.out.1.alloc _) ⟨_, 0, none⟩ 1 1 [.int .i64 (k : Int)] rfl rfl (cells_new _ _ _) (by simp [Value.oneCell']) (by unfold maxLen; omega) (by omega) (by simp; omega) ?_; intro v5 w5 hown5 hg5 hn5 hl5; have H5 := Hid.mk' (And.intro hown5 (And.intro hg5 hl5)); clear hown5 hg5 hn5 hl5)
                  | fail)
                go_roundw
                case rel =>
                  refine ⟨_, k + 1, by omega, rfl, by go_num, ?_, (HK.out.2.alloc hws _).grown H5.out.2.1 (by simp; omega) (fun b e => (HK.out.1.lt b e).1)⟩
                  rw [HE.out, List.length_append, HKK.out, List.map_append]
                  exact H5.out.1
                case measure => simp [intOf]; omega
              · have b2 : ((s1 : Int) == (i : Int)) = false := beq_false_of_ne (by omega)
                have HE : Hid (sideTo l i1 (k + 1) = sideTo l i1 k) := sideTo_no (by rw [HON.out]; have := HI1.out; simp; omega)
                go_wp2_with fail
                go_roundw
                case rel => exact ⟨_, k + 1, by omega, rfl, by go_num, by rw [HE.out, HKK.out]; exact HK.out⟩
                case measure => simp [intOf]; omega
          · have b3 : ((s3 : Int) == 0) = false := beq_false_of_ne (by omega)
            have HE : Hid (sideTo l i1 (k + 1) = sideTo l i1 k) := sideTo_no (by rw [HON.out]; simp [h3])
            go_wp2_with fail
            go_roundw
            case rel => exact ⟨_, k + 1, by omega, rfl, by go_num, by rw [HE.out, HKK.out]; exact HK.out⟩
            case measure => simp [intOf]; omega
        · obtain rfl : k = L := by omega
          have hsi := side_is hn hi0 hi
          have hsd : sideD n i1 = sideTo l i1 k := by unfold sideD; rw [HSL.out, HLL.out.1]
          obtain ⟨⟨x, y, hxy, hyL, hde⟩, hbd⟩ := hsi
          rw [HSL.out, HLL.out.1] at hyL
          have hse : sideTo l i1 k = [(x : Int), (y : Int)] := by rw [← hsd]; exact hde
          have hK2 : K = 2 := by rw [← HKK.out, hse]; rfl
          subst hK2
          have HDD : Hid (sideD n i1 = [(x : Int), (y : Int)] ∧ ∀ r s, r ∈ smallL n → s ∈ smallL n → partB [(x : Int), (y : Int)] r = true → partB [(x : Int), (y : Int)] s = true → r = s) := ⟨hde, by rw [hde] at hbd; exact hbd⟩
          have HOW : Hid (wr.ownsRow V2.heap.size 3 1 (.slice ad 2 cd) 2 [.int .i64 (x : Int), .int .i64 (y : Int)]) := by
            have h1 := HK.out.1
            rw [hse] at h1
            exact h1
          obtain ⟨gd, hgd⟩ : ∃ gd, ad = some ⟨gd, 0, none⟩ := by
            obtain ⟨g, c, e, -⟩ := HOW.out.form (by omega)
            cases e
            exact ⟨g, rfl⟩
          subst hgd
          have d0 : wr.cell? ⟨gd, 0, none⟩ = some (.int .i64 (x : Int)) := by rw [HOW.out.cellAt 0 (by simp)]; rfl
          have d1 : wr.cell? ⟨gd, 1, none⟩ = some (.int .i64 (y : Int)) := by rw [HOW.out.cellAt 1 (by simp)]; rfl
          obtain ⟨a', c', ea, -, hx⟩ := (HAT.out wr HK.out.2).2.1.open_
          rw [HLL.out.2] at ea hx
          cases ea
          obtain ⟨bl, ol, rfl, -, -, hcell⟩ := hx (by omega)
          have cx := hcell x (by omega)
          have cy := hcell y hyL
          have gx := HLS.out.2.2 x (by rw [HLL.out.2]; omega)
          have gy := HLS.out.2.2 y (by rw [HLL.out.2]; exact hyL)
          have HDK : Hid (goB ls [(x : Int), (y : Int)] = true → DoorOk ls [(x : Int), (y : Int)]) := fun h => go_door hxy gx gy h
          have HGB : Hid (goB ls [(x : Int), (y : Int)] = ((labA ls x + labA ls y == 1) && (labA ls x != labA ls y))) := by show _ = _; unfold goB; simp [numR]
          obtain ⟨lx, hlx⟩ : ∃ lx, labA ls x = lx := ⟨_, rfl⟩
          obtain ⟨ly, hly⟩ : ∃ ly, labA ls y = ly := ⟨_, rfl⟩
          rw [show ls[x]?.getD 0 = lx from hlx] at cx
          rw [show ls[y]?.getD 0 = ly from hly] at cy
          rw [hlx] at gx
          rw [hly] at gy
          rw [hlx, hly] at HGB
          have HWT : Hid (walkTo n ls i1 = if goB ls [(x : Int), (y : Int)] && (thru (smallL n) ls ((smallL n).length + 1) [(x : Int), (y : Int)] (-1) []).2 then (thru (smallL n) ls ((smallL n).length + 1) [(x : Int), (y : Int)] (-1) []).1 else walkTo n ls i) := by
            show _ = _
            rw [← HI1.out, walkTo, HI1.out, hde]
          have z1 : (0 : Int) ≤ (x : Int) := by omega
          have z2 : (x : Int) < (k : Int) := by omega
          have z3 : (0 : Int) ≤ (y : Int) := by omega
          have z4 : (y : Int) < (k : Int) := by omega
          have HIN : Hid (Ints wr.drew (.slice (some ⟨gd, 0, none⟩) 2 cd) [(x : Int), (y : Int)] ∧ Below V2.heap.size V2 wr.drew) := ⟨slice_of_owns HOW.out fun _ _ _ => trivial, HK.out.2.drew⟩
          clear hsd hde hbd hse hx hcell hlx hly hxy
          go_upto_region 12 with fail
          go_cut [84] from 56 to 83 (fun c wx => c = .bool (!(goB ls [(x : Int), (y : Int)])) ∧ wx = wr.drew)
          case first =>
            by_cases hs1 : lx + ly = 1
            · have b1 : ((lx + ly) != 1) = false := by rw [hs1]; rfl
              have b2 : (lx == ly) = false := beq_false_of_ne (by omega)
              have e : goB ls [(x : Int), (y : Int)] = true := by rw [HGB.out, hs1]; simp; omega
              go_wp2_with fail
              go_region
              all_goals go_wp2_with fail
              all_goals go_meet
              all_goals exact ⟨by rw [e]; rfl, rfl⟩
            · have b1 : ((lx + ly) != 1) = true := by simp [hs1]
              have b2 : ((lx + ly) == 1) = false := by simp [hs1]
              have e : goB ls [(x : Int), (y : Int)] = false := by rw [HGB.out, b2]; rfl
              go_wp2_with fail
              go_region
              all_goals go_wp2_with fail
              all_goals go_meet
              all_goals exact ⟨by rw [e]; rfl, rfl⟩
          obtain ⟨rfl, hwc⟩ := hcut
          obtain ⟨Wd, hWd⟩ : ∃ W, wr.drew = W := ⟨_, rfl⟩
          rw [hWd] at hwc HIN
          subst hwc
          clear hWd d0 d1 cx cy
          obtain ⟨G, hG⟩ : ∃ G, goB ls [(x : Int), (y : Int)] = G := ⟨_, rfl⟩
          rw [hG] at HWT HDK ⊢
          clear hG HGB
          cases G with
          | false =>
            have HE : Hid (walkTo n ls i = walkL n ls) := by
              have h1 := HI.out.1
              rw [HWT.out] at h1
              exact h1
            go_wp2_with fail
            go_roundw
            case rel => exact ⟨i, by omega, rfl, HE.out, HIN.out.2⟩
            case measure => simp [intOf]; omega
          | true =>
            have hth := through_ hn (.slice ta tl ct) (.slice (some ⟨bl, ol, none⟩) k cl) (.slice (some ⟨gd, 0, none⟩) 2 cd) wc (by rw [HT.out]; exact (HAT.out wc HIN.out.2).1) (HAT.out wc HIN.out.2).2.1 HIN.out.1 HLS.out.2.1 (HDK.out rfl) HDD.out.2
            obtain ⟨OUT, hOUT⟩ : ∃ OUT, thru (smallL n) ls ((smallL n).length + 1) [(x : Int), (y : Int)] (-1) [] = OUT := ⟨_, rfl⟩
            rw [hOUT] at hth HWT
            obtain ⟨o1, o2⟩ := OUT
            have hth2 : Calls Tryd.prog 36 #[.slice ta tl ct, .slice (some ⟨bl, ol, none⟩) k cl, .slice (some ⟨gd, 0, none⟩) 2 cd, .int .i64 (-1)] wc fun e w' => ∃ a c, e = .returned (.tuple #[.slice a o1.length c, .bool o2]) ∧ Hid (Ints w' (.slice a o1.length c) o1 ∧ Below V2.heap.size V2 w') := hth.mono fun e w' ⟨v, h1, h2, h3⟩ => by
              obtain ⟨a, c, rfl, -, -⟩ := h2.open_
              exact ⟨a, c, h1, h2, HIN.out.2.trans (h3.mono HIN.out.2.size)⟩
            obtain ⟨ol1, hol⟩ : ∃ m, o1.length = m := ⟨_, rfl⟩
            rw [hol] at hth2
            clear hth hOUT hol
            cases o2 with
            | false =>
              have HE : Hid (walkTo n ls i = walkL n ls) := by
                have h1 := HI.out.1
                rw [HWT.out] at h1
                exact h1
              go_wp2_with (first
                | (go_at_call 36; refine hth2.mono ?_; rintro e9 V9 ⟨a9, c9, rfl, H9⟩; clear hth2)
                | fail)
              go_roundw
              case rel => exact ⟨i, by omega, rfl, HE.out, H9.out.2⟩
              case measure => simp [intOf]; omega
            | true =>
              have HE : Hid (o1 = walkL n ls) := by
                have h1 := HI.out.1
                rw [HWT.out] at h1
                exact h1
              have HWB : Hid (∀ V, Below V2.heap.size V2 V → Below w.heap.size w V) := fun V hV => (HAT.out V hV).2.2
              go_wp2_with (first
                | (go_at_call 36; refine hth2.mono ?_; rintro e9 V9 ⟨a9, c9, rfl, H9⟩; clear hth2)
                | fail)
              go_ret
              exact ⟨_, rfl, by rw [← HE.out]; exact H9.out.1, HWB.out _ H9.out.2⟩

end Go.Proofs.YtcciinaeplppiaaDoor
