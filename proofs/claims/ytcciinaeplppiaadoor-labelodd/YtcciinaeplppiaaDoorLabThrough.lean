/- The reference goes through doors. -/
import Derived.Test.YtcciinaeplppiaaDoorLabThru2
import Derived.Test.YtcciinaeplppiaaDoorRefPart
namespace Go.Proofs.YtcciinaeplppiaaDoor
open Go.RowKit Go.Sort

def lenS (v : Value) : Nat := match v with
  | .slice _ n _ => n
  | _ => 0
/-- While one goes through doors. -/
structure ThruAt (n : Nat) (ls e0 : List Int) (w : World) (OUT : List Int × Bool) (f : Nat) (e : List Int) (frm : Int) (out : List Int) (vd vo : Value) (W : World) : Prop where
  inv : WayInv n ls e0 e out frm
  fin : thru (smallL n) ls f e frm out = OUT
  fuel : f + out.length = (smallL n).length + 1
  few : out.length ≤ (smallL n).length
  door : IntsIn (fun b => some b ≠ vo.ownBlock) W vd e
  own : W.ownsRow w.heap.size 3 1 vo out.length (out.map (Value.int .i64))
  bl : Below w.heap.size w W
/-- What through answers. -/
def ThruSays (OUT : List Int × Bool) (w : World) (e : Ending) (w' : World) : Prop := ∃ v, e = .returned (.tuple #[v, .bool OUT.2]) ∧ Ints w' v OUT.1 ∧ Below w.heap.size w w'
theorem ThruSays.of {OUT : List Int × Bool} {w w' : World} {v : Value} {out : List Int} {b : Bool} (h : OUT = (out, b)) (h1 : Ints w' v out) (h2 : Below w.heap.size w w') : ThruSays OUT w (.returned (.tuple #[v, .bool b])) w' := by
  subst h
  exact ⟨v, rfl, h1, h2⟩
theorem own_rowsIn {base : Nat} {w : World} {v : Value} {xss : List (List Int)} (h : OwnRows base w v xss) : RowsIn (fun b => base ≤ b) w v xss := by
  obtain ⟨vs, h1, h2⟩ := h
  exact ⟨vs, slice_of_owns h1 (fun b hb _ => hb), by have := h1.1; simpa using this, fun k u x hu hx => SliceIn.mono (h2 k u x hu hx) fun b _ hS => hS.1⟩
theorem drew_below (w : World) (q : Nat) : Below w.heap.size w (w.drewN q) := ⟨rfl, rfl, rfl, Nat.le_refl _, fun _ _ => rfl⟩
theorem door_len {ls e : List Int} (h : DoorOk ls e) : e.length = 2 := by
  obtain ⟨x, y, -, rfl, -⟩ := h
  rfl

set_option maxRecDepth 100000 in
set_option maxHeartbeats 4000000 in
theorem through_ {n : Nat} (hn : n ≤ 12) {ls e0 : List Int} (va vl vd : Value) (w : World) (ha : Rows w va (smallL n)) (hl : Ints w vl ls) (hd : Ints w vd e0) (hls : ls.length = (spotsL n).length) (hok : DoorOk ls e0) (hb : ∀ r s, r ∈ smallL n → s ∈ smallL n → partB e0 r = true → partB e0 s = true → r = s) :
    Calls Tryd.prog 36 #[va, vl, vd, .int .i64 (-1)] w fun e w' => ThruSays (thru (smallL n) ls ((smallL n).length + 1) e0 (-1) []) w e w' := by
  obtain ⟨j0, hj0, hy0, hy1, hy2⟩ := info_parts Tryd.infoInt
  have h91 : ls.length ≤ 1000 := by rw [hls]; have := spots_few n hn; omega
  have HA := Hid.mk' (And.intro ha hl)
  have HT0 : Hid (ThruAt n ls e0 w (thru (smallL n) ls ((smallL n).length + 1) e0 (-1) []) ((smallL n).length + 1) e0 (-1) [] vd (.slice none 0 0) w) := ⟨WayInv.start hok, rfl, rfl, Nat.zero_le _, SliceIn.mono hd fun b _ _ => (fun e => by cases e), World.ownsRow_nil _ _ _ _, Below.refl _ _⟩
  have HBB := Hid.mk' hb
  have hTf := smallL_few hn
  have HTR : Hid (∀ r ∈ smallL n, TriIn ls.length r) := fun r hr => by rw [hls]; exact smallL_tri hr
  have HNX : Hid (∀ e frm, nextTo (smallL n) e frm (smallL n).length = -1 ∨ (0 ≤ nextTo (smallL n) e frm (smallL n).length ∧ nextTo (smallL n) e frm (smallL n).length < ((smallL n).length : Int) ∧ partB e (rowA (smallL n) (nextTo (smallL n) e frm (smallL n).length)) = true ∧ nextTo (smallL n) e frm (smallL n).length ≠ frm)) := fun e frm => nextTo_is
  have HFEW : Hid (∀ e out frm nx, WayInv n ls e0 e out frm → 0 ≤ nx → nx < ((smallL n).length : Int) → partB e (rowA (smallL n) nx) = true → nx ≠ frm → out.length + 1 ≤ (smallL n).length) := fun e out frm nx h1 h2 h3 h4 h5 => h1.few hn hb h2 h3 h4 h5
  have HWN : Hid (∀ e out frm nx o, WayInv n ls e0 e out frm → 0 ≤ nx → nx < ((smallL n).length : Int) → partB e (rowA (smallL n) nx) = true → nx ≠ frm → o ∈ doorsL ls (rowA (smallL n) nx) → o ≠ e → WayInv n ls e0 o (out ++ [nx]) nx) := fun e out frm nx o h1 h2 h3 h4 h5 h6 h7 => h1.next hn h2 h3 h4 h5 h6 h7
  obtain ⟨aa, ca, rfl, -, -⟩ := ha.open_
  obtain ⟨al, cl, rfl, -, -⟩ := hl.open_
  obtain ⟨T, hT⟩ : ∃ T, smallL n = T := ⟨_, rfl⟩
  obtain ⟨L, hL⟩ : ∃ L, T.length = L := ⟨_, rfl⟩
  obtain ⟨m, hm⟩ : ∃ m, ls.length = m := ⟨_, rfl⟩
  have HTL : Hid (smallL n = T ∧ T.length = L ∧ ls.length = m) := ⟨hT, hL, hm⟩
  obtain ⟨OUT, hO⟩ : ∃ OUT, thru (smallL n) ls ((smallL n).length + 1) e0 (-1) [] = OUT := ⟨_, rfl⟩
  have HO : Hid (thru (smallL n) ls ((smallL n).length + 1) e0 (-1) [] = OUT) := hO
  rw [hO] at HT0 ⊢
  rw [hT, hL] at hTf
  rw [hm] at h91 ⊢
  rw [hT] at HA HTR HNX HFEW HWN
  rw [hL] at HNX HFEW HWN
  rw [hT, hL] at ⊢
  clear ha hl hd hls hok hb hT hL hm hO
  go_enter Tryd.func36, Tryd.ntmps36
  go_wp2_with fail
  go_loopw [2, 3, 10] (fun pd pf po W => ∃ (vd vo : Value) (f : Nat) (e : List Int) (frm : Int) (out : List Int), pd = vd ∧ pf = .int .i64 frm ∧ po = vo ∧ Hid (ThruAt n ls e0 w OUT f e frm out vd vo W)) (fun _ _ po _ => L + 1 - lenS po)
  case atStart => exact ⟨_, _, _, _, _, _, rfl, rfl, rfl, HT0.out⟩
  case round =>
    obtain ⟨vd, vo, f, e, frm, out, hvd, rfl, hvo, HR⟩ := hrel
    have he2 := door_len HR.out.inv.ok
    obtain ⟨ad, cd, hd1, -, -⟩ := HR.out.door.open_
    obtain ⟨ao, co, hv2⟩ := own_sl HR.out.own
    rw [he2] at hd1
    obtain ⟨K, hK⟩ : ∃ K, out.length = K := ⟨_, rfl⟩
    have HK : Hid (out.length = K) := hK
    rw [hK] at hv2
    have hKL := HR.out.few
    rw [HTL.out.1, HTL.out.2.1, hK] at hKL
    subst hd1 hv2 hvd hvo
    have HE2 : Hid (e.length = 2) := he2
    clear he2 hK
    obtain ⟨Wr, hWr⟩ : ∃ W, W = wr := ⟨_, rfl⟩
    subst hWr
    have hwW : w.heap.size ≤ Wr.heap.size := HR.out.bl.size
    go_wp2_with fail
    go_loopw [11, 12] (fun pn p W => ∃ k : Nat, k ≤ L ∧ pn = .int .i64 (nextTo T e frm k) ∧ p = .int .i64 (k : Int) ∧ Hid (Below Wr.heap.size Wr W)) (fun _ p _ => L - (intOf p).toNat)
    case atStart => exact ⟨0, by omega, rfl, rfl, Below.refl _ _⟩
    case round =>
      obtain ⟨k, hk, rfl, rfl, HB⟩ := hrel
      by_cases hkL : k < L
      · have hkl : k < T.length := by rw [HTL.out.2.1]; exact hkL
        obtain ⟨r, hr⟩ : ∃ r, T[k]? = some r := ⟨_, List.getElem?_eq_getElem hkl⟩
        have hR := ((HA.out.1.below HR.out.bl).below HB.out)
        obtain ⟨a1, c1, ea, -, hx⟩ := hR.open_
        rw [HTL.out.2.1] at ea hx
        cases ea
        obtain ⟨bb, off, rfl, -, -, hcell⟩ := hx (by omega)
        obtain ⟨a2, c2, ck, hi2⟩ := hcell k hkL
        rw [hr, Option.getD_some] at ck hi2
        have h3 := (tri_at (HTR.out r (List.mem_of_getElem? hr)) (k := 0) (by omega)).2.2
        rw [h3] at ck hi2
        have hdr : Ints wr (.slice ad 2 cd) e := SliceIn.below (SliceIn.mono HR.out.door fun _ _ _ => trivial) HB.out
        have hpo := part_of (.slice ad 2 cd) (.slice a2 3 c2) e r wr hdr hi2 (by rw [HE2.out]; omega) (by omega)
        have HPB : Hid (partB e (T[k]?.getD []) = e.all (fun v => r.contains v)) := by show _ = _; rw [hr]; rfl
        obtain ⟨pb, hpb⟩ : ∃ pb, e.all (fun v => r.contains v) = pb := ⟨_, rfl⟩
        rw [hpb] at hpo HPB
        have HSX : Hid (nextTo T e frm (k + 1) = if pb && ((k : Int) != frm) then (k : Int) else nextTo T e frm k) := by show _ = _; rw [nextTo, HPB.out]
        have y0 : (0 : Int) ≤ (k : Int) := by omega
        have y1 : (k : Int) < (L : Int) := by omega
        have HBQ : Hid (∀ q, Below Wr.heap.size Wr (wr.drewN q)) := fun q => HB.out.trans ((drew_below wr q).mono HB.out.size)
        clear hr hR hx hcell hi2 h3 hpb hdr
        cases pb with
        | false =>
          have HE : Hid (nextTo T e frm (k + 1) = nextTo T e frm k) := HSX.out
          go_wp2_with (first
            | (go_at_call 52; refine hpo.mono ?_; rintro e V ⟨rfl, q, hq⟩; have HV : Hid (Below Wr.heap.size Wr V) := (by rw [hq]; exact HBQ.out q); clear hq hpo)
            | fail)
          go_roundw
          case rel => exact ⟨k + 1, by omega, by rw [HE.out], by go_num, HV.out⟩
          case measure => simp [intOf]; omega
        | true =>
          by_cases hkf : (k : Int) = frm
          · subst hkf
            have HE : Hid (nextTo T e (k : Int) (k + 1) = nextTo T e (k : Int) k) := by show _ = _; rw [HSX.out]; simp
            have b1 : ((k : Int) != (k : Int)) = false := by simp
            go_wp2_with (first
              | (go_at_call 52; refine hpo.mono ?_; rintro e V ⟨rfl, q, hq⟩; have HV : Hid (Below Wr.heap.size Wr V) := (by rw [hq]; exact HBQ.out q); clear hq hpo)
              | fail)
            go_roundw
            case rel => exact ⟨k + 1, by omega, by rw [HE.out], by go_num, HV.out⟩
            case measure => simp [intOf]; omega
          · have b1 : ((k : Int) != frm) = true := by simp [hkf]
            have b2 : ((k : Int) == frm) = false := by simp [hkf]
            have HE : Hid (nextTo T e frm (k + 1) = (k : Int)) := by show _ = _; rw [HSX.out, b1]; rfl
            go_wp2_with (first
              | (go_at_call 52; refine hpo.mono ?_; rintro e V ⟨rfl, q, hq⟩; have HV : Hid (Below Wr.heap.size Wr V) := (by rw [hq]; exact HBQ.out q); clear hq hpo)
              | fail)
            go_roundw
            case rel => exact ⟨k + 1, by omega, by rw [HE.out], by go_num, HV.out⟩
            case measure => simp [intOf]; omega
      · obtain rfl : k = L := by omega
        obtain ⟨f', rfl⟩ : ∃ f', f = f' + 1 := ⟨f - 1, by have h1 := HR.out.fuel; have h2 := HR.out.few; omega⟩
        have HTH : Hid ((nextTo T e frm k < 0 → OUT = (out, false)) ∧ (¬ nextTo T e frm k < 0 → (otherTo (doorsL ls (rowA T (nextTo T e frm k))) e (doorsL ls (rowA T (nextTo T e frm k))).length = [] → OUT = (out ++ [nextTo T e frm k], true)) ∧ (¬ otherTo (doorsL ls (rowA T (nextTo T e frm k))) e (doorsL ls (rowA T (nextTo T e frm k))).length = [] → thru T ls f' (otherTo (doorsL ls (rowA T (nextTo T e frm k))) e (doorsL ls (rowA T (nextTo T e frm k))).length) (nextTo T e frm k) (out ++ [nextTo T e frm k]) = OUT))) := by
          have h1 := HR.out.fin
          rw [HTL.out.1, thru, HTL.out.2.1] at h1
          refine ⟨fun h => ?_, fun h => ⟨fun h2 => ?_, fun h2 => ?_⟩⟩
          · rw [if_pos h] at h1; exact h1.symm
          · rw [if_neg h, if_pos h2] at h1; exact h1.symm
          · rw [if_neg h, if_neg h2] at h1; exact h1
        rcases HNX.out e frm with hnx | ⟨hx0, hx1, hx2, hx3⟩
        · have HE : Hid (OUT = (out, false) ∧ Ints wr (.slice ao K co) out ∧ Below w.heap.size w wr) := by
            refine ⟨HTH.out.1 (by omega), ?_, HR.out.bl.trans (HB.out.mono hwW)⟩
            have h1 : Ints Wr (.slice ao K co) out := slice_of_owns HR.out.own fun _ _ _ => trivial
            exact h1.below HB.out
          rw [hnx]
          go_wp2_with fail
          go_ret2
          exact ThruSays.of HE.out.1 HE.out.2.1 HE.out.2.2
        · obtain ⟨i, hi⟩ : ∃ i : Nat, nextTo T e frm k = (i : Int) := ⟨(nextTo T e frm k).toNat, by omega⟩
          rw [hi] at hx0 hx1 hx2 hx3 HTH ⊢
          have hiL : i < k := by omega
          have hfew := HFEW.out e out frm (i : Int) HR.out.inv hx0 hx1 hx2 hx3
          rw [HK.out] at hfew
          have HWS := Hid.mk' (fun o h6 h7 => HWN.out e out frm (i : Int) o HR.out.inv hx0 hx1 hx2 hx3 h6 h7)
          have hil : i < T.length := by rw [HTL.out.2.1]; exact hiL
          obtain ⟨r, hr⟩ : ∃ r, T[i]? = some r := ⟨_, List.getElem?_eq_getElem hil⟩
          have HRW : Hid (rowA T (i : Int) = r ∧ TriIn ls.length r) := ⟨by unfold rowA; rw [Int.toNat_natCast, hr]; rfl, HTR.out r (List.mem_of_getElem? hr)⟩
          rw [HRW.out.1] at HTH HWS
          have HOW : Hid (wr.ownsRow w.heap.size 3 1 (.slice ao K co) K (out.map (Value.int .i64)) ∧ Below w.heap.size w wr ∧ IntsIn (fun b => some b ≠ (Value.slice ao K co).ownBlock) wr (.slice ad 2 cd) e) := by
            have h1 := HR.out.own
            rw [HK.out] at h1
            exact ⟨own_kept9 h1 fun b _ hb => HB.out.block b hb, HR.out.bl.trans (HB.out.mono hwW), SliceIn.below HR.out.door HB.out⟩
          have hww : w.heap.size ≤ wr.heap.size := HOW.out.2.1.size
          have HAP : Hid (∀ v5 w5 o, w5.ownsRow w.heap.size 3 1 v5 (K + 1) (out.map (Value.int .i64) ++ [.int .i64 (i : Int)]) → (wr.alloc o).grownBy w5 (Value.slice ao K co).ownBlock → (v5.ownBlock = (Value.slice ao K co).ownBlock ∨ v5.ownBlock = some (wr.alloc o).heap.size) → Below w.heap.size w w5 ∧ w5.ownsRow w.heap.size 3 1 v5 (K + 1) ((out ++ [(i : Int)]).map (Value.int .i64)) ∧ Ints w5 (.slice ad 2 cd) e ∧ (∀ b, v5.ownBlock = some b → b < w5.heap.size)) := fun v5 w5 o h1 h2 h3 => by
            refine ⟨(HOW.out.2.1.alloc hww o).grown h2 (by simp; omega) (fun b e => (HOW.out.1.lt b e).1), by rw [List.map_append]; exact h1, ?_, fun b e => (h1.lt b e).2⟩
            refine SliceIn.mono (SliceIn.keep HOW.out.2.2 fun b hb hS => ?_) fun _ _ _ => trivial
            exact (h2.block b (by rw [World.size_alloc]; omega) hS).trans ((World.grownBy_alloc wr o none).block b hb (by simp))
          have y0 : (0 : Int) ≤ (i : Int) := by omega
          have y1 : (i : Int) < (k : Int) := by omega
          have y2 : ¬ ((i : Int) < 0) := by omega
          clear hi hx0 hx1 hx2 hx3 hr
          go_upto_region 13 with (at_builtin; refine wpList_append_own_at _ rfl (.tmp 40) (.tmp 42) 22 rfl w.heap.size 3 j0 (.int .i64 0) 1 8 Tryd.underlying22 hj0 hy0 hy1 hy2 rfl (by decide) _ K _ rfl (HOW.out.1.alloc _) ⟨_, 0, none⟩ 1 1 [.int .i64 (i : Int)] rfl rfl (cells_new _ _ _) (by simp [Value.oneCell']) (by unfold maxLen; omega) (by omega) (by simp; omega) ?_; intro v5 w5 hown5 hg5 hn5 hl5; have H5 := Hid.mk' (HAP.out v5 w5 _ hown5 hg5 hl5); obtain ⟨a5, c5, rfl⟩ := own_sl hown5; clear hown5 hg5 hn5 hl5)
          have hR := (HA.out.1.below H5.out.1)
          obtain ⟨a1, c1, ea, -, hx⟩ := hR.open_
          rw [HTL.out.2.1] at ea hx
          cases ea
          obtain ⟨bb, off, rfl, -, -, hcell⟩ := hx (by omega)
          obtain ⟨a2, c2, ck, hi2⟩ := hcell i hiL
          have hri : T[i]?.getD [] = r := by have := HRW.out.1; unfold rowA at this; rwa [Int.toNat_natCast] at this
          have h3 := (tri_at HRW.out.2 (k := 0) (by omega)).2.2
          rw [hri] at ck hi2
          rw [h3] at ck hi2
          have hdo := doors_ (.slice a2 3 c2) (.slice al ls.length cl) w5 hi2 (HA.out.2.below H5.out.1) HRW.out.2 (by rw [HTL.out.2.2]; omega)
          rw [HTL.out.2.2] at hdo
          clear hR hx hcell hi2 hri h3
          go_upto_region 14 with (go_at_call 53; refine hdo.mono ?_; rintro e9 V6 ⟨vs6, rfl, hr6, hb6⟩; have H6 := Hid.mk' (And.intro hr6 hb6); obtain ⟨a6, c6, hv6⟩ := own_slice1 hr6; subst hv6; clear hr6 hb6 hdo)
          obtain ⟨ds, hds⟩ : ∃ ds, doorsL ls r = ds := ⟨_, rfl⟩
          have HDS : Hid (doorsL ls r = ds) := hds
          rw [hds] at H6 HTH HWS ⊢
          obtain ⟨D, hD⟩ : ∃ D, ds.length = D := ⟨_, rfl⟩
          have HD : Hid (ds.length = D) := hD
          have hD9 : D ≤ 1000 := by
            rw [← hD, ← hds]
            have := doors_few ls r (a := 3) (b := 0) (by omega) (by omega)
            rw [List.length_append] at this
            unfold doorsL
            omega
          have HLN : Hid (∀ x ∈ ds, x.length = 2) := fun x hx => by
            rw [← hds] at hx
            have hmem : r ∈ T := by
              have := HRW.out.1
              unfold rowA at this
              rw [Int.toNat_natCast, List.getElem?_eq_getElem hil] at this
              rw [← this]
              exact List.getElem_mem _
            rw [← HTL.out.1] at hmem
            exact door_len ((mem_doors (smallL_of hmem)).1 hx).1
          rw [hD] at H6 ⊢
          clear hds hD
          have HV6 : Hid (Below w.heap.size w V6 ∧ w5.heap.size ≤ V6.heap.size) := ⟨H5.out.1.trans (H6.out.2.mono H5.out.1.size), H6.out.2.size⟩
          have HRI : Hid (RowsIn (fun b => w5.heap.size ≤ b) V6 (.slice a6 D c6) ds) := own_rowsIn H6.out.1
          have HDV : Hid (Ints V6 (.slice ad 2 cd) e) := H5.out.2.2.1.below H6.out.2
          go_wp2_with fail
          go_loopw [15, 16] (fun po p W => ∃ (vt : Value) (q : Nat), q ≤ D ∧ po = vt ∧ p = .int .i64 (q : Int) ∧ Hid (IntsIn (fun b => w5.heap.size ≤ b) W vt (otherTo ds e q) ∧ Below V6.heap.size V6 W)) (fun _ p _ => D - (intOf p).toNat)
          case atStart => exact ⟨_, 0, by omega, rfl, rfl, SliceIn.nil _ _, Below.refl _ _⟩
          case round =>
            obtain ⟨vt, q, hq, hvt, rfl, HQ⟩ := hrel
            obtain ⟨av, cv, hv9, -, -⟩ := HQ.out.1.open_
            obtain ⟨N9, hN9⟩ : ∃ N9, (otherTo ds e q).length = N9 := ⟨_, rfl⟩
            have HN9 : Hid ((otherTo ds e q).length = N9) := hN9
            rw [hN9] at hv9
            subst hv9
            subst hvt
            clear hN9
            by_cases hqD : q < D
            · have hql : q < ds.length := by rw [HD.out]; exact hqD
              obtain ⟨x, hx⟩ : ∃ x, ds[q]? = some x := ⟨_, List.getElem?_eq_getElem hql⟩
              have hR := HRI.out.below HQ.out.2
              obtain ⟨a1, c1, ea, -, hxx⟩ := hR.open_
              rw [HD.out] at ea hxx
              cases ea
              obtain ⟨b9, o9, rfl, -, -, hcell⟩ := hxx (by omega)
              obtain ⟨a2, c2, ck, hi2⟩ := hcell q hqD
              rw [hx, Option.getD_some] at ck hi2
              have h2 := HLN.out x (List.mem_of_getElem? hx)
              rw [h2] at ck hi2
              have HI2 := Hid.mk' hi2
              have hsi := same_ints (.slice a2 2 c2) (.slice ad 2 cd) x e wr (SliceIn.mono hi2 fun _ _ _ => trivial) (HDV.out.below HQ.out.2) (by rw [h2]; omega)
              have HOT : Hid (otherTo ds e (q + 1) = if x = e then otherTo ds e q else x) := by show _ = _; rw [otherTo, hx]; rfl
              have HX2 : Hid (x.length = 2) := h2
              have HBQ : Hid (∀ t, Below V6.heap.size V6 (wr.drewN t)) := fun t => HQ.out.2.trans ((drew_below wr t).mono HQ.out.2.size)
              have HKQ : Hid (∀ t (v : Value) (l : List Int), IntsIn (fun b => w5.heap.size ≤ b) wr v l → IntsIn (fun b => w5.heap.size ≤ b) (wr.drewN t) v l) := fun t v l h => SliceIn.below h (drew_below wr t)
              have w0 : (0 : Int) ≤ (q : Int) := by omega
              have w1 : (q : Int) < (D : Int) := by omega
              clear hx hR hxx hcell hi2 h2
              by_cases hxe : x = e
              · rw [decide_eq_true hxe] at hsi
                have HE : Hid (otherTo ds e (q + 1) = otherTo ds e q) := by show _ = _; rw [HOT.out, if_pos hxe]
                clear hxe
                go_wp2_with (first
                  | (go_at_call 17; refine hsi.mono ?_; rintro e9 V ⟨rfl, t, ht⟩; have HV : Hid (IntsIn (fun b => w5.heap.size ≤ b) V (.slice av N9 cv) (otherTo ds e q) ∧ Below V6.heap.size V6 V) := (by rw [ht]; exact ⟨HKQ.out t _ _ HQ.out.1, HBQ.out t⟩); clear ht hsi)
                  | fail)
                go_roundw
                case rel => exact ⟨_, q + 1, by omega, rfl, by go_num, by rw [HE.out]; exact HV.out⟩
                case measure => simp [intOf]; omega
              · rw [decide_eq_false hxe] at hsi
                have HE : Hid (otherTo ds e (q + 1) = x) := by show _ = _; rw [HOT.out, if_neg hxe]
                clear hxe
                go_upto_region 19 with (go_at_call 17; refine hsi.mono ?_; rintro e9 V ⟨rfl, t, ht⟩; have HV : Hid (IntsIn (fun b => w5.heap.size ≤ b) V (.slice a2 2 c2) x ∧ Below V6.heap.size V6 V ∧ V.cell? ⟨b9, o9 + q, none⟩ = some (.slice a2 2 c2)) := (by rw [ht]; exact ⟨HKQ.out t _ _ HI2.out, HBQ.out t, ck⟩); clear ht hsi)
                have ck2 := HV.out.2.2
                go_wp2_with fail
                go_roundw
                case rel => exact ⟨_, q + 1, by omega, rfl, by go_num, by rw [HE.out]; exact ⟨HV.out.1, HV.out.2.1⟩⟩
                case measure => simp [intOf]; omega
            · obtain rfl : q = D := by omega
              have HWB : Hid (Below w.heap.size w wr) := HV6.out.1.trans (HQ.out.2.mono HV6.out.1.size)
              have HOX : Hid (Ints wr (.slice a5 (K + 1) c5) (out ++ [(i : Int)]) ∧ wr.ownsRow w.heap.size 3 1 (.slice a5 (K + 1) c5) (K + 1) ((out ++ [(i : Int)]).map (Value.int .i64))) := by
                have h1 : wr.ownsRow w.heap.size 3 1 (.slice a5 (K + 1) c5) (K + 1) ((out ++ [(i : Int)]).map (Value.int .i64)) := own_kept9 H5.out.2.1 fun b _ hb => (HQ.out.2.block b (Nat.lt_of_lt_of_le hb HV6.out.2)).trans (H6.out.2.block b hb)
                exact ⟨slice_of_owns h1 fun _ _ _ => trivial, h1⟩
              have hot := otherTo_is (ds := ds) (e := e) (k := q) (by rw [HD.out]; exact Nat.le_refl _)
              by_cases hon : otherTo ds e q = []
              · have hN0 : N9 = 0 := by rw [← HN9.out, hon]; rfl
                subst hN0
                have HF : Hid (OUT = (out ++ [(i : Int)], true)) := (HTH.out.2 y2).1 (by rw [HD.out]; exact hon)
                clear hot hon
                go_wp2_with fail
                go_ret2
                exact ThruSays.of HF.out HOX.out.1 HWB.out
              · obtain ⟨o, ho⟩ : ∃ o, otherTo ds e q = o := ⟨_, rfl⟩
                rw [ho] at hot hon
                obtain ⟨hom, hoe⟩ := hot.resolve_left hon
                have hN2 : N9 = 2 := by rw [← HN9.out, ho]; exact HLN.out o hom
                subst hN2
                have HTA : Hid (ThruAt n ls e0 w OUT f' o (i : Int) (out ++ [(i : Int)]) (.slice av 2 cv) (.slice a5 (K + 1) c5) wr) := by
                  have hlen : (out ++ [(i : Int)]).length = K + 1 := by rw [List.length_append, HK.out]; rfl
                  refine ⟨HWS.out o hom hoe, ?_, ?_, ?_, ?_, by rw [hlen]; exact HOX.out.2, HWB.out⟩
                  · have h1 := (HTH.out.2 y2).2 (by rw [HD.out, ho]; exact hon)
                    rw [HD.out, ho] at h1
                    rw [HTL.out.1]
                    exact h1
                  · have h1 := HR.out.fuel
                    rw [hlen]
                    rw [HK.out] at h1
                    omega
                  · rw [hlen, HTL.out.1, HTL.out.2.1]; exact hfew
                  · have h1 := HQ.out.1
                    rw [ho] at h1
                    exact SliceIn.mono h1 fun b _ hS e9 => by have := H5.out.2.2.2 b e9.symm; omega
                clear hot hon ho hom hoe
                go_wp2_with fail
                go_roundw
                case rel => exact ⟨_, _, f', o, (i : Int), out ++ [(i : Int)], rfl, rfl, rfl, HTA.out⟩
                case measure => show k + 1 - lenS (.slice a5 (K + 1) c5) < k + 1 - lenS (.slice ao K co); simp only [lenS]; omega

end Go.Proofs.YtcciinaeplppiaaDoor
