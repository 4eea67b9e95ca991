/- The program's Ring. -/
import Derived.Test.YtldknhganoiajaaGreatDoorCupProds
import Derived.Test.YtldknhganoiajaaGreatDoorCupOpen2
namespace Go.Proofs.YtldknhganoiajaaGreatDoor
open Go.RowKit Go.Sort Go.Maps Go.Deep

/-- Of how many dimensions products are. -/
def ringN (all : List (List Int)) (i k : Nat) : Nat := cntB (fedB (rowsD all (i + k))) (prodL all i k (clsP all i) (clsP all k))
def ringRow (all : List (List Int)) (_T i m : Nat) : List Int := (List.range m).map (fun k => (ringN all i k : Int))
def ringP (all : List (List Int)) (T m : Nat) : List (List Int) := (List.range m).map (fun i => ringRow all T i (T - i))
theorem ringRow_succ (all : List (List Int)) (T i m : Nat) : ringRow all T i (m + 1) = ringRow all T i m ++ [(ringN all i m : Int)] := by unfold ringRow; rw [List.range_succ, List.map_append]; rfl
theorem ringP_succ (all : List (List Int)) (T m : Nat) : ringP all T (m + 1) = ringP all T m ++ [ringRow all T m (T - m)] := by unfold ringP; rw [List.range_succ, List.map_append]; rfl
theorem ringRow_len (all : List (List Int)) (T i m : Nat) : (ringRow all T i m).length = m := by simp [ringRow]
theorem ringP_len (all : List (List Int)) (T m : Nat) : (ringP all T m).length = m := by simp [ringP]
theorem Tryz.infocw : (Tryz.prog.info? 50).map (fun i => (i.zero, i.size, i.bytes)) = some (some (.slice none 0 0), 1, 24) := by kernel_rfl

/-- The classes of the first k dimensions, in memory of their own. -/
def ClsO (base : Nat) (W : World) (v : Value) (all : List (List Int)) (k : Nat) : Prop :=
  ∃ us : List Value, W.ownsRow base 50 1 v k us ∧ ∀ (j : Nat) (u : Value), us[j]? = some u → WsIn (fun b => base ≤ b ∧ some b ≠ v.ownBlock) W u (nD all j) (clsP all j)
theorem ClsO.read {base : Nat} {W : World} {v : Value} {all : List (List Int)} {k : Nat} (h : ClsO base W v all k) : ClsR W v k all := by
  obtain ⟨us, h1, h2⟩ := h
  exact ⟨us, slice_of_owns h1 (fun _ _ _ => trivial), by have := h1.1; simpa using this, fun j u hu => (h2 j u hu).mono (fun _ _ _ => trivial)⟩
theorem ClsO.push {base : Nat} {w w3 : World} {v v' u : Value} {all : List (List Int)} {k : Nat} {us : List Value} {o : Obj} (h1 : w.ownsRow base 50 1 v k us) (h2 : ∀ (j : Nat) (u : Value), us[j]? = some u → WsIn (fun b => base ≤ b ∧ some b ≠ v.ownBlock) w u (nD all j) (clsP all j))
    (hu : WsIn (fun b => base ≤ b ∧ some b ≠ v.ownBlock) w u (nD all k) (clsP all k)) (hown : w3.ownsRow base 50 1 v' (k + 1) (us ++ [u])) (hg : (w.alloc o).grownBy w3 v.ownBlock) (hl : v'.ownBlock = v.ownBlock ∨ v'.ownBlock = some (w.alloc o).heap.size) :
    ClsO base w3 v' all (k + 1) := by
  have key : ∀ {u : Value} {n : Nat} {L : List Nat}, WsIn (fun b => base ≤ b ∧ some b ≠ v.ownBlock) w u n L → WsIn (fun b => base ≤ b ∧ some b ≠ v'.ownBlock) w3 u n L := fun {u n L} h => by
    have h' : WsIn (fun b => base ≤ b ∧ some b ≠ v.ownBlock ∧ some b ≠ v'.ownBlock) w u n L := h.mono (fun b hb hne => ⟨hne.1, hne.2, fun e => by
      rcases hl with hl | hl
      · exact hne.2 (e.trans hl)
      · rw [hl] at e; simp at e; omega⟩)
    have h'' : WsIn (fun b => base ≤ b ∧ some b ≠ v.ownBlock ∧ some b ≠ v'.ownBlock) w3 u n L := h'.keep (by have := hg.size; simp at this; omega) (fun b hb hne => by
      rw [hg.block b (by simp; omega) hne.2.1]
      exact (World.grownBy_alloc w o none).block b hb (by simp))
    exact h''.mono (fun b _ hne => ⟨hne.1, hne.2.2⟩)
  have hvl : us.length = k := by have := h1.1; simpa using this
  refine ⟨us ++ [u], hown, fun j u' hu' => ?_⟩
  rw [List.getElem?_append, hvl] at hu'
  by_cases hj : j < k
  · rw [if_pos hj] at hu'
    exact key (h2 j u' hu')
  · rw [if_neg hj] at hu'
    have h0 : j - k = 0 := by
      rcases Nat.eq_zero_or_pos (j - k) with h | h
      · exact h
      · rw [List.getElem?_eq_none (by simp; omega)] at hu'; cases hu'
    have hjk : j = k := by omega
    rw [h0] at hu'
    simp at hu'
    subst hu'
    subst hjk
    exact key hu

set_option maxRecDepth 100000 in
set_option maxHeartbeats 2000000 in
theorem cupRing_err {a : Nat → Addr} {s : Nat → ByteArray} {l : List (List Int)} {i : Nat} (hb : BadAt l i) (vl : Value) (w : World) (hE : Errs a s w) (hl : Rows w vl l) (hll : l.length ≤ 100000) (hle : ∀ x ∈ l, x.length ≤ 1000) :
    Calls Tryz.prog 7 #[.agg #[vl]] w fun e w' => e = .returned (.tuple #[.slice none 0 0, .iface 179 (.pointer (some (a i)))]) ∧ Below w.heap.size w w' := by
  obtain ⟨al, cl, rfl, -, -⟩ := hl.open_
  have hB1 : Below w.heap.size w (w.alloc (.cells #[.slice al l.length cl] 31)) := (Below.refl _ w).alloc (Nat.le_refl _) _
  have hv := cupOpen_bad hb (.slice al l.length cl) _ (hE.below hB1) (hl.below hB1) hll hle
  have q0 := (box_new w (.slice al l.length cl) 31).1
  obtain ⟨ev, hev⟩ : ∃ ev : Addr, a i = ev := ⟨_, rfl⟩
  rw [hev] at hv ⊢
  have HB1 := Hid.mk' hB1
  obtain ⟨W1, hW1⟩ : ∃ W1, w.alloc (.cells #[.slice al l.length cl] 31) = W1 := ⟨_, rfl⟩
  have HW1 := Hid.mk' hW1
  rw [hW1] at hv q0 HB1
  clear hE hl hll hle hb hev hB1 hW1
  go_enter Tryz.func7, Tryz.ntmps7
  go_upto_region 1 with fail
  rw [HW1.out]
  go_wp2_with fail
  refine hv.mono ?_
  clear hv
  rintro e W2 ⟨rfl, hB3⟩
  have HB3 : Hid (Below w.heap.size w (W2.alloc (.cells #[.slice none 0 0, .map none] 46))) := by
    have h := HB1.out.trans (hB3.mono HB1.out.size)
    exact h.alloc h.size _
  clear hB3
  go_wp2_with fail
  go_ret2
  exact ⟨rfl, HB3.out⟩

set_option maxRecDepth 100000 in
set_option maxHeartbeats 8000000 in
theorem cupRing_ok {a : Nat → Addr} {s : Nat → ByteArray} {l all : List (List Int)} (hg : Good l all) (h60 : all.length ≤ 60) (vl : Value) (w : World) (hE : Errs a s w) (hT : TabOk w) (hl : Rows w vl l) (hll : l.length ≤ 100000) (hle : ∀ x ∈ l, x.length ≤ 1000) :
    Calls Tryz.prog 7 #[.agg #[vl]] w fun e w' => ∃ b c, e = .returned (.tuple #[.slice b (topN all) c, .nilIface]) ∧ Rows w' (.slice b (topN all) c) (ringP all (topN all) (topN all)) ∧ Below w.heap.size w w' := by
  obtain ⟨i0, hi, hy0, hy1, hy2⟩ := info_parts Tryz.infocw
  obtain ⟨i1, hi1, hz0, hz1, hz2⟩ := info_parts Tryz.info3
  obtain ⟨i2, hi2, hx0, hx1, hx2⟩ := info_parts Tryz.info39
  have h7 : topN all ≤ 7 := topN_upto hg.short
  obtain ⟨al, cl, rfl, -, -⟩ := hl.open_
  have hB1 : Below w.heap.size w (w.alloc (.cells #[.slice al l.length cl] 31)) := (Below.refl _ w).alloc (Nat.le_refl _) _
  have hv := cupOpen_good hg (.slice al l.length cl) _ (hE.below hB1) (hl.below hB1) hll hle
  have q0 := (box_new w (.slice al l.length cl) 31).1
  obtain ⟨W1, hW1⟩ : ∃ W1, w.alloc (.cells #[.slice al l.length cl] 31) = W1 := ⟨_, rfl⟩
  have HW1 := Hid.mk' hW1
  have HB1 := Hid.mk' hB1
  rw [hW1] at hv q0 HB1
  have HT := Hid.mk' hT
  have HCL := Hid.mk' (fun (d : Nat) (hd : d ≤ 90) (v : Value) (V : World) (h1 : ShapeAt V v all) (h2 : TabOk V) => classes_ hg h60 d hd v V h1 h2)
  have HPR := Hid.mk' (fun (i k n : Nat) (hn : n ≤ 100) (hik : i + k < n) (v vc : Value) (V : World) (h1 : ShapeAt V v all) (h2 : TabOk V) (h3 : ClsR V vc n all) => products_ hg h60 i k n hn hik v vc V h1 h2 h3)
  have HRN : Hid (∀ i k, ringN all i k ≤ 60) := fun i k => Nat.le_trans (ring_le hg h60 (clsP_is hg h60 i) (clsP_is hg h60 k) (cocP_spec hg h60 (i + k))) (clsP_len hg h60 (i + k))
  obtain ⟨T, hTT⟩ : ∃ T, topN all = T := ⟨_, rfl⟩
  have HTT := Hid.mk' hTT
  rw [hTT] at h7 ⊢
  clear hE hl hll hle hg hB1 hW1 hT hTT h60
  go_enter Tryz.func7, Tryz.ntmps7
  go_upto_region 1 with fail
  rw [HW1.out]
  go_wp2_with fail
  refine hv.mono ?_
  clear hv q0
  rintro e V2 ⟨sv, rfl, hsv, hB2⟩
  have hsv' := hsv
  obtain ⟨vF, g, L, rfl, hF, hL, hN⟩ := hsv
  obtain ⟨aF, cF, rfl, -⟩ := hF.open_
  rw [facesT_len, HTT.out] at hsv' ⊢
  have hq := cells_two V2 (.slice aF T cF) (.map (some g)) 46
  obtain ⟨Q, hQ⟩ : ∃ Q, V2.heap.size = Q := ⟨_, rfl⟩
  have HQ := Hid.mk' hQ
  obtain ⟨W2, hW2⟩ : ∃ W, V2.alloc (.cells #[.slice aF T cF, .map (some g)] 46) = W := ⟨_, rfl⟩
  have HW2 := Hid.mk' hW2
  have HWB : Hid (Below w.heap.size w W2 ∧ W2.heap.size = Q + 1 ∧ ShapeAt W2 (.agg #[.slice aF T cF, .map (some g)]) all) := by
    have h1 : Below w.heap.size w V2 := HB1.out.trans (hB2.mono HB1.out.size)
    rw [← hW2]
    exact ⟨h1.alloc h1.size _, by rw [World.size_alloc, hQ], hsv'.below ((Below.refl _ _).alloc (Nat.le_refl _) _)⟩
  rw [hW2, hQ] at hq
  have HS : Hid (∀ V, Below W2.heap.size W2 V → ShapeAt V (.agg #[.slice aF T cF, .map (some g)]) all ∧ V.cell? ⟨Q, 0, none⟩ = some (.slice aF T cF) ∧ V.cell? ⟨Q, 1, none⟩ = some (.map (some g)) ∧ TabOk V ∧ Below w.heap.size w V) := fun V hV => by
    have h1 := HWB.out.1.trans (hV.mono HWB.out.1.size)
    exact ⟨HWB.out.2.2.below hV, (hV.cell (p := ⟨Q, 0, none⟩) (by have := HWB.out.2.1; show Q < _; omega)).trans hq.1.1, (hV.cell (p := ⟨Q, 1, none⟩) (by have := HWB.out.2.1; show Q < _; omega)).trans hq.1.2, HT.out.below h1, h1⟩
  clear hsv' hF hL hN hB2 hq hQ hW2
  go_upto_region 2 with fail
  rw [HQ.out, HW2.out]
  have b0 := (HS.out W2 (Below.refl _ _)).2.1
  have b1 := (HS.out W2 (Below.refl _ _)).2.2.1
  go_wp2_with fail
  go_loopw [6, 23] (fun v p W => ∃ (k : Nat), k ≤ T ∧ p = .int .i64 (k : Int) ∧ Hid (ClsO W2.heap.size W v all k ∧ Below W2.heap.size W2 W)) (fun _ p _ => T - (intOf p).toNat)
  case atStart => exact ⟨0, by omega, rfl, ⟨[], World.ownsRow_nil _ _ _ _, fun j u hu => by simp at hu⟩, Below.refl _ _⟩
  case round =>
    obtain ⟨k, hk, rfl, HK⟩ := hrel
    obtain ⟨us, o1, o2⟩ := HK.out.1
    obtain ⟨aL, cL, rfl⟩ := own_form o1
    have HO := Hid.mk' (And.intro o1 o2)
    clear o1 o2
    by_cases hlt : k < T
    · have b0 := (HS.out wr HK.out.2).2.1
      have b1 := (HS.out wr HK.out.2).2.2.1
      have hcl := HCL.out k (by omega) _ wr (HS.out wr HK.out.2).1 (HS.out wr HK.out.2).2.2.2.1
      go_upto_region 9 with (first
        | (go_at_call 18; refine hcl.mono ?_; clear hcl; rintro e V3 ⟨u, rfl, hu, hV3⟩; obtain ⟨au, cu, rfl⟩ := hu.form; have HU : Hid (WsIn (fun b => wr.heap.size ≤ b) V3 (.slice au (clsP all k).length cu) (nD all k) (clsP all k) ∧ Below wr.heap.size wr V3) := ⟨hu.in_, hV3⟩; have HO3 : Hid (V3.ownsRow W2.heap.size 50 1 (.slice aL k cL) k us) := (HO.out.1.kept (Below.grownBy hV3) (by cases (Value.slice aL k cL).ownBlock <;> simp)); obtain ⟨mu, hmu⟩ : ∃ m, (clsP all k).length = m := ⟨_, rfl⟩; rw [hmu] at HU ⊢; clear hu hV3 hmu b0 b1)
        | (at_builtin; refine wpList_append_slice rfl (.tmp 26) (.tmp 30) 49 rfl W2.heap.size 50 i0 (.slice none 0 0) 24 Tryz.underlying49 hi hy0 hy1 hy2 rfl _ _ _ rfl (HO3.out.alloc _) _ [.slice au mu cu] rfl (slice_one _ _ _) (by simp [Value.oneCell']) (by simp; omega) (by unfold maxLen; simp; omega) (by have := HU.out.2.size; have := HK.out.2.size; simp; omega) ?_; intro v6 w6 hown6 hg6 hl6; replace hown6 : w6.ownsRow W2.heap.size 50 1 v6 (k + 1) (us ++ [.slice au mu cu]) := hown6; obtain ⟨a6, c6, rfl⟩ := own_form hown6)
        | fail)
      have HE6 : Hid (ClsO W2.heap.size w6 (.slice a6 (k + 1) c6) all (k + 1) ∧ Below W2.heap.size W2 w6) := by
        have hlow : ∀ i, (Value.slice aL k cL).ownBlock = some i → W2.heap.size ≤ i ∧ i < wr.heap.size := fun i hi => HO.out.1.lt i hi
        have hb3 : Below W2.heap.size W2 V3 := HK.out.2.trans (HU.out.2.mono HK.out.2.size)
        refine ⟨ClsO.push HO3.out (fun j u hu => (HO.out.2 j u hu).below HU.out.2) (HU.out.1.mono (fun b _ hb => ⟨by have := HK.out.2.size; omega, fun e => by have := (hlow b e.symm).2; omega⟩)) hown6 hg6 hl6, (hb3.alloc hb3.size _).grown hg6 (by have := hb3.size; simp; omega) (fun i hi => (hlow i hi).1)⟩
      clear hown6 hg6 hl6 HO3 HO HU HK
      go_wp2_with fail
      go_roundw
      case rel => exact ⟨k + 1, by omega, by go_num, HE6.out⟩
      case measure => simp [intOf]; omega
    · have hkT : k = T := by omega
      subst hkT
      have HR3 : Hid (ClsR wr (.slice aL k cL) k all ∧ Below W2.heap.size W2 wr) := ⟨HK.out.1.read, HK.out.2⟩
      obtain ⟨W3, hW3⟩ : ∃ W, W = wr := ⟨_, rfl⟩
      subst hW3
      clear HO HK
      go_wp2_with fail
      go_loopw [8, 35] (fun v p W => ∃ (i : Nat), i ≤ k ∧ p = .int .i64 (i : Int) ∧ Hid (OwnRows W3.heap.size W v (ringP all k i) ∧ Below W3.heap.size W3 W)) (fun _ p _ => k - (intOf p).toNat)
      case atStart => exact ⟨0, by omega, rfl, OwnRows.nil _ _, Below.refl _ _⟩
      case round =>
        obtain ⟨i, hi', rfl, HI⟩ := hrel
        obtain ⟨vs, o1, o2⟩ := HI.out.1
        rw [ringP_len] at o1
        obtain ⟨aR, cR, rfl⟩ := own_form o1
        have HO := Hid.mk' (And.intro o1 o2)
        have HSW : Hid (∀ V, Below W3.heap.size W3 V → Below W2.heap.size W2 V) := fun V hV => HR3.out.2.trans (hV.mono HR3.out.2.size)
        clear o1 o2
        by_cases hit : i < k
        · obtain ⟨V3, hV3⟩ : ∃ W, W = wr := ⟨_, rfl⟩
          subst hV3
          obtain ⟨m, hm⟩ : ∃ m, k - i = m := ⟨_, rfl⟩
          have hmi : ((k : Nat) : Int) - (i : Int) = (m : Int) := by omega
          go_wp2_with fail
          go_loopw [10, 42] (fun v p W => ∃ (j : Nat), j ≤ m ∧ p = .int .i64 (j : Int) ∧ Hid (W.ownsRow V3.heap.size 3 1 v j ((ringRow all k i j).map (Value.int .i64)) ∧ Below V3.heap.size V3 W)) (fun _ p _ => m - (intOf p).toNat)
          case atStart => exact ⟨0, by omega, rfl, by simpa [ringRow] using World.ownsRow_nil _ _ _ _, Below.refl _ _⟩
          case round =>
            obtain ⟨j, hj, rfl, HJ⟩ := hrel
            have o1 := HJ.out.1
            obtain ⟨aC, cC, rfl⟩ := own_form o1
            have HC := Hid.mk' o1
            clear o1
            by_cases hjm : j < m
            · have hB3 : Below W3.heap.size W3 wr := HI.out.2.trans (HJ.out.2.mono HI.out.2.size)
              have hB2 := HSW.out wr hB3
              have b0 := (HS.out wr hB2).2.1
              have b1 := (HS.out wr hB2).2.2.1
              have hpr := HPR.out i j k (by omega) (by omega) _ (.slice aL k cL) wr (HS.out wr hB2).1 (HS.out wr hB2).2.2.2.1 (HR3.out.1.below hB3)
              have hrn : ringN all i j ≤ 60 := HRN.out i j
              have HRS := Hid.mk' (ringRow_succ all k i j)
              have hdef : cntB (fedB (rowsD all (i + j))) (prodL all i j (clsP all i) (clsP all j)) = ringN all i j := rfl
              rw [hdef] at hpr
              obtain ⟨r, hr⟩ : ∃ r, ringN all i j = r := ⟨_, rfl⟩
              rw [hr] at hpr hrn HRS
              clear hr hdef hB3 hB2
              go_upto_region 19 with (first
                | (go_at_call 19; refine hpr.mono ?_; clear hpr; rintro e V5 ⟨rfl, hV5⟩; have HV5 := Hid.mk' hV5; have HC5 : Hid (V5.ownsRow V3.heap.size 3 1 (.slice aC j cC) j ((ringRow all k i j).map (Value.int .i64))) := (HC.out.kept (Below.grownBy hV5) (by cases (Value.slice aC j cC).ownBlock <;> simp)); clear hV5 b0 b1)
                | (at_builtin; refine wpList_append_slice rfl (.tmp 45) (.tmp 51) 39 rfl V3.heap.size 3 i1 (.int .i64 0) 8 Tryz.underlying39 hi1 hz0 hz1 hz2 rfl _ _ _ rfl (HC5.out.alloc _) _ [.int .i64 (r : Int)] rfl (slice_one _ _ _) (by simp [Value.oneCell']) (by simp; omega) (by unfold maxLen; simp; omega) (by have := HV5.out.size; have := HJ.out.2.size; simp; omega) ?_; intro v6 w6 hown6 hg6 hl6; replace hown6 : w6.ownsRow V3.heap.size 3 1 v6 (j + 1) ((ringRow all k i j).map (Value.int .i64) ++ [.int .i64 (r : Int)]) := hown6; obtain ⟨a6, c6, rfl⟩ := own_form hown6)
                | fail)
              have HE6 : Hid (w6.ownsRow V3.heap.size 3 1 (.slice a6 (j + 1) c6) (j + 1) ((ringRow all k i (j + 1)).map (Value.int .i64)) ∧ Below V3.heap.size V3 w6) := by
                have hlow : ∀ i, (Value.slice aC j cC).ownBlock = some i → V3.heap.size ≤ i ∧ i < wr.heap.size := fun i hi => HC.out.lt i hi
                have hb3 : Below V3.heap.size V3 V5 := HJ.out.2.trans (HV5.out.mono HJ.out.2.size)
                refine ⟨by rw [HRS.out, List.map_append]; exact hown6, (hb3.alloc hb3.size _).grown hg6 (by have := hb3.size; simp; omega) (fun i hi => (hlow i hi).1)⟩
              clear hown6 hg6 hl6 HC5 HC HJ
              go_wp2_with fail
              go_roundw
              case rel => exact ⟨j + 1, by omega, by go_num, HE6.out⟩
              case measure => simp [intOf]; omega
            · have hjm2 : j = m := by omega
              subst hjm2
              have HIN : Hid (IntsIn (fun b => V3.heap.size ≤ b) wr (.slice aC j cC) (ringRow all k i (k - i))) := by
                have h1 := HC.out
                rw [hm]
                have h2 := slice_of_owns (S := fun b => V3.heap.size ≤ b) h1 (fun b h _ => h)
                have hl : (ringRow all k i j).length = j := ringRow_len ..
                exact h2
              have HO5 : Hid (wr.ownsRow W3.heap.size 39 1 (.slice aR i cR) i vs) := HO.out.1.kept (Below.grownBy HJ.out.2) (by cases (Value.slice aR i cR).ownBlock <;> simp)
              have HPS := Hid.mk' (ringP_succ all k i)
              clear HC
              go_upto_region 21 with (first
                | (at_builtin; refine wpList_append_slice rfl (.tmp 54) (.tmp 56) 22 rfl W3.heap.size 39 i2 (.slice none 0 0) 24 Tryz.underlying22 hi2 hx0 hx1 hx2 rfl _ _ _ rfl (HO5.out.alloc _) _ [.slice aC j cC] rfl (slice_one _ _ _) (by simp [Value.oneCell']) (by simp; omega) (by unfold maxLen; simp; omega) (by have := HJ.out.2.size; have := HI.out.2.size; simp; omega) ?_; intro v6 w6 hown6 hg6 hl6; replace hown6 : w6.ownsRow W3.heap.size 39 1 v6 (i + 1) (vs ++ [.slice aC j cC]) := hown6; obtain ⟨a6, c6, rfl⟩ := own_form hown6)
                | fail)
              have HE6 : Hid (OwnRows W3.heap.size w6 (.slice a6 (i + 1) c6) (ringP all k (i + 1)) ∧ Below W3.heap.size W3 w6) := by
                have hlow : ∀ i', (Value.slice aR i cR).ownBlock = some i' → W3.heap.size ≤ i' ∧ i' < V3.heap.size := fun i' hi' => HO.out.1.lt i' hi'
                have hb3 : Below W3.heap.size W3 wr := HI.out.2.trans (HJ.out.2.mono HI.out.2.size)
                refine ⟨?_, (hb3.alloc hb3.size _).grown hg6 (by have := hb3.size; simp; omega) (fun i hi => (hlow i hi).1)⟩
                rw [HPS.out]
                exact OwnRows.push (by rw [ringP_len]; exact HO5.out) (fun q u x hu hx => (HO.out.2 q u x hu hx).below HJ.out.2) (SliceIn.mono HIN.out (fun b _ hb => ⟨by have h9 : V3.heap.size ≤ b := hb; have := HI.out.2.size; omega, fun e => by have h9 : V3.heap.size ≤ b := hb; have := (hlow b e.symm).2; omega⟩)) (by rw [ringP_len]; exact hown6) hg6 hl6
              clear hown6 hg6 hl6 HO5 HO HI HJ HIN
              go_wp2_with fail
              go_roundw
              case rel => exact ⟨i + 1, by omega, by go_num, HE6.out⟩
              case measure => simp [intOf]; omega
        · have hik : i = k := by omega
          subst hik
          have HEE : Hid (Rows wr (.slice aR i cR) (ringP all i i) ∧ Below w.heap.size w wr) := ⟨HI.out.1.rows, (HS.out wr (HSW.out wr HI.out.2)).2.2.2.2⟩
          clear HO HI
          go_wp2_with fail
          go_ret2
          exact ⟨_, _, rfl, HEE.out⟩

end Go.Proofs.YtldknhganoiajaaGreatDoor
