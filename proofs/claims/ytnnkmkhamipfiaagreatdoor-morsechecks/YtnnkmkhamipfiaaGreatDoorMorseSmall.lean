/- What the reference's SmallBorder answers. -/
import Derived.Test.YtnnkmkhamipfiaaGreatDoorMorseChk2
import Derived.Test.YtnnkmkhamipfiaaGreatDoorMorseBound
import Derived.Test.YtnnkmkhamipfiaaGreatDoorMorseCritRef
namespace Go.Proofs.YtnnkmkhamipfiaaGreatDoor
open Go.RowKit Go.Sort

def allN (mt : Nat → Int) (n : Nat) : List Nat := (List.range n).filter fun f => decide (mt f < 0)
/-- The first critical faces of so many vertices. -/
def ofLen (L : List (List Int)) (mt : Nat → Int) (n d i : Nat) : List Int := (((allN mt n).take i).filter fun f => decide ((faceAt L f).length = d)).map fun (f : Nat) => (f : Int)
theorem ofLen_yes {L : List (List Int)} {mt : Nat → Int} {n d i x : Nat} (h : (allN mt n)[i]? = some x) (hd : (faceAt L x).length = d) : ofLen L mt n d (i + 1) = ofLen L mt n d i ++ [(x : Int)] := by
  unfold ofLen
  rw [List.take_add_one, h, List.filter_append, List.map_append]
  simp [hd]
theorem ofLen_no {L : List (List Int)} {mt : Nat → Int} {n d i x : Nat} (h : (allN mt n)[i]? = some x) (hd : (faceAt L x).length ≠ d) : ofLen L mt n d (i + 1) = ofLen L mt n d i := by
  unfold ofLen
  rw [List.take_add_one, h, List.filter_append, List.map_append]
  simp [hd]
theorem ofLen_len (L : List (List Int)) (mt : Nat → Int) (n d i : Nat) : (ofLen L mt n d i).length ≤ n := by
  unfold ofLen
  rw [List.length_map]
  refine Nat.le_trans (List.length_filter_le _ _) (Nat.le_trans (by rw [List.length_take]; exact Nat.min_le_right _ _) ?_)
  unfold allN
  refine Nat.le_trans (List.length_filter_le _ _) ?_
  rw [List.length_range]; exact Nat.le_refl _

theorem ofLen_all {L : List (List Int)} {mt : Nat → Int} (hM : MateOk L mt) (d : Nat) : ofLen L mt L.length d (allN mt L.length).length = (critN L mt ((d : Int) - 1)).map fun (f : Nat) => (f : Int) := by
  unfold ofLen
  rw [List.take_length]
  congr 1
  unfold allN critN
  rw [List.filter_filter]
  refine List.filter_congr fun x hx => ?_
  rw [List.mem_range] at hx
  unfold critB
  have h1 : decide ((faceAt L x).length = d) = decide (((faceAt L x).length : Int) - 1 = (d : Int) - 1) := by rw [Bool.eq_iff_iff, decide_eq_true_eq, decide_eq_true_eq]; omega
  have h2 : decide (mt x < 0) = decide (mt x = -1) := by
    rw [Bool.eq_iff_iff, decide_eq_true_eq, decide_eq_true_eq]
    rcases hM x hx with h | ⟨b, h, _⟩ <;> omega
  rw [h1, h2]
theorem crit_zero {L : List (List Int)} {mt : Nat → Int} (hF : FaceList L) : critN L mt (((0 : Nat) : Int) - 1) = [] := by
  unfold critN
  refine List.filter_eq_nil_iff.2 fun x hx => ?_
  rw [List.mem_range] at hx
  unfold critB
  have h1 := hF.some_ _ (faceAt_mem hx)
  have h2 : 0 < (faceAt L x).length := List.length_pos_iff.2 h1
  simp only [Bool.and_eq_true, decide_eq_true_eq, not_and]
  omega
theorem noneTo_is (mt : Nat → Int) (n : Nat) : noneTo mt n = (allN mt n).map fun (f : Nat) => (f : Int) := rfl
theorem rowIs_ints {S : Nat → Prop} {W : World} {g n : Nat} {f : Nat → Int} (h : W.rowIs g 3 n (fun j => .int .i64 (f j))) (hS : S g) : IntsIn S W (.slice (some ⟨g, 0, none⟩) n n) ((List.range n).map f) := by
  refine ⟨_, n, by simp, ⟨by simp, fun e => by cases e⟩, fun h0 => ⟨g, 0, rfl, hS, fun k u hu => ?_⟩⟩
  have hk : k < n := by have := (List.getElem?_eq_some_iff.1 hu).1; simpa using this
  rw [List.getElem?_map, List.getElem?_map, List.getElem?_range hk] at hu
  simp at hu
  subst hu
  rw [Nat.zero_add]
  exact h.cell hk
theorem none_len (mt : Nat → Int) (n : Nat) : (allN mt n).length ≤ n := by
  unfold allN
  refine Nat.le_trans (List.length_filter_le _ _) ?_
  rw [List.length_range]; exact Nat.le_refl _
/-- Two rows of one's own, apart. -/
structure TwoRows (b : Nat) (W : World) (v1 v2 : Value) (l1 l2 : List Int) : Prop where
  one : rowC b W v1 l1
  two : rowC b W v2 l2
  apart : ∀ x, v1.ownBlock = some x → v2.ownBlock ≠ some x
theorem TwoRows.below {b : Nat} {W W' : World} {v1 v2 : Value} {l1 l2 : List Int} (h : TwoRows b W v1 v2 l1 l2) (hB : Below W.heap.size W W') : TwoRows b W' v1 v2 l1 l2 := ⟨h.one.below hB, h.two.below hB, h.apart⟩
theorem TwoRows.first {b : Nat} {W W' : World} {v1 v2 v1' : Value} {l1 l2 l1' : List Int} (h : TwoRows b W v1 v2 l1 l2) (hg : W.grownBy W' v1.ownBlock) (h1 : rowC b W' v1' l1') (hl : v1'.ownBlock = v1.ownBlock ∨ v1'.ownBlock = some W.heap.size) : TwoRows b W' v1' v2 l1' l2 := by
  refine ⟨h1, World.ownsRow.kept h.two hg ?_, fun x e => ?_⟩
  · cases e : v1.ownBlock with
    | none => cases v2.ownBlock <;> simp
    | some x => exact .inr (h.apart x e)
  · rcases hl with h2 | h2
    · rw [h2] at e; exact h.apart x e
    · rw [h2] at e; cases e
      exact fun e2 => absurd (World.ownsRow.lt h.two _ e2).2 (Nat.lt_irrefl _)
theorem TwoRows.swap {b : Nat} {W : World} {v1 v2 : Value} {l1 l2 : List Int} (h : TwoRows b W v1 v2 l1 l2) : TwoRows b W v2 v1 l2 l1 := ⟨h.two, h.one, fun x e e2 => h.apart x e2 e⟩

set_option maxRecDepth 100000 in
set_option maxHeartbeats 8000000 in
theorem small_border {L : List (List Int)} {mt : Nat → Int} {Pf : Nat → Nat → Nat × Nat} (hF : FaceList L) (hL6 : L.length ≤ 600) (hx : ∀ x ∈ L, x.length ≤ 1000) (hV : ValsOf L mt (fun g a => netP (Pf g a))) (hM : MateOk L mt)
    (hEN : ∀ r c, entL L Pf r c = wsum (fun y => undL L y c) (sgL L c) (fun a => netP (Pf r a)) (-1) L.length) (vL vW : Value) (d : Nat) (hd : d ≤ 7) (w : World) (hL : Rows w vL L) (hW : Ints w vW ((List.range L.length).map mt)) :
    Calls Tryz.prog 19 #[vL, vW, .int .i64 (d : Int), .int .i64 20000] w fun e w' => Below w.heap.size w w' ∧ ∃ (few : Bool) (v : Value), e = .returned (.tuple #[.agg #[.int .i64 ((critN L mt ((d : Int) - 1)).length : Int), .int .i64 ((critN L mt d).length : Int), v], .bool few]) ∧
      (few = true → Ints w' v (entsTo L Pf (critN L mt ((d : Int) - 1)) (critN L mt d) (critN L mt ((d : Int) - 1)).length 0) ∧ ∀ r ∈ critN L mt ((d : Int) - 1), ∀ c ∈ critN L mt d, (entL L Pf r c).natAbs ≤ 20000) ∧ (few = false → v = .slice none 0 0) := by
  obtain ⟨i0, hi0, hz0, hz1, hz2⟩ := info_parts Tryz.info3
  have HUN0 : ∀ (i k : Nat) (W : World), Below w.heap.size w W → i < L.length → k < L.length → Calls Tryz.prog 36 #[vL, .int .i64 (i : Int), .int .i64 (k : Int)] W fun e w' => e = .returned (.bool (undL L i k)) ∧ Below W.heap.size W w' := fun i k W hB hi hk => (under_ vL i k W (hL.below hB) hi hk (by omega) hx).mono fun e w' h => ⟨by rw [h.1]; simp [undL, hi], h.2⟩
  have HH : Hid (Rows w vL L ∧ Ints w vW ((List.range L.length).map mt) ∧ FaceList L ∧ ValsOf L mt (fun g a => netP (Pf g a)) ∧ MateOk L mt ∧ (∀ x ∈ L, x.length ≤ 1000) ∧ ∀ r c, entL L Pf r c = wsum (fun y => undL L y c) (sgL L c) (fun a => netP (Pf r a)) (-1) L.length) := ⟨hL, hW, hF, hV, hM, hx, hEN⟩
  have hBX : Below w.heap.size w (w.alloc (.cells #[.int .i64 0, .int .i64 0, .slice none 0 0] 51)) := (Below.refl _ w).alloc (Nat.le_refl _) _
  have hco := critical_of (S := anyBlock) L.length vW _ (hW.below hBX) (by omega)
  have hRN : d ≠ 0 → ofLen L mt L.length d (allN mt L.length).length = (critN L mt ((d : Int) - 1)).map fun (f : Nat) => (f : Int) := fun h0 => ofLen_all hM d
  have hCN : ofLen L mt L.length (d + 1) (allN mt L.length).length = (critN L mt d).map fun (f : Nat) => (f : Int) := by have h := ofLen_all hM (d + 1); rw [show ((d + 1 : Nat) : Int) - 1 = (d : Int) by omega] at h; exact h
  have hZR : d = 0 → critN L mt ((d : Int) - 1) = [] := fun h0 => by rw [h0]; exact crit_zero hF
  have hR6 : ∀ e : Int, (∀ x ∈ critN L mt e, x < L.length ∧ mt x = -1) ∧ (critN L mt e).length ≤ L.length := fun e => ⟨fun x hx => by
    obtain ⟨h1, h2⟩ := List.mem_filter.1 hx
    unfold critB at h2
    simp only [Bool.and_eq_true, decide_eq_true_eq] at h2
    exact ⟨List.mem_range.1 h1, h2.2⟩, by refine Nat.le_trans (List.length_filter_le _ _) ?_; rw [List.length_range]; exact Nat.le_refl _⟩
  obtain ⟨aL, cL, rfl, -, -⟩ := hL.open_
  obtain ⟨aW, cW, rfl, -, -⟩ := hW.open_
  have hmb := matBox_new w 0 0 (.slice none 0 0) 51
  rw [List.length_map, List.length_range] at hco HH ⊢
  obtain ⟨n, hn⟩ : ∃ n, L.length = n := ⟨_, rfl⟩
  have HNN : Hid (L.length = n) := hn
  rw [hn] at hco hL6 hRN hCN hR6 HUN0 ⊢
  have HH0 : Hid (Rows w (.slice aL n cL) L ∧ Ints w (.slice aW n cW) ((List.range n).map mt)) := by
    have h1 := HH.out.1
    have h2 := HH.out.2.1
    rw [hn] at h1 h2
    exact ⟨h1, h2⟩
  obtain ⟨Rn, hRn⟩ : ∃ l, critN L mt ((d : Int) - 1) = l := ⟨_, rfl⟩
  obtain ⟨Cn, hCn⟩ : ∃ l, critN L mt (d : Int) = l := ⟨_, rfl⟩
  obtain ⟨nr, hnr⟩ : ∃ nr, Rn.length = nr := ⟨_, rfl⟩
  obtain ⟨nc, hnc⟩ : ∃ nc, Cn.length = nc := ⟨_, rfl⟩
  have HNC : Hid (Rn.length = nr ∧ Cn.length = nc) := ⟨hnr, hnc⟩
  have HMEM : Hid ((∀ x ∈ Rn, x < n ∧ mt x = -1) ∧ ∀ x ∈ Cn, x < n ∧ mt x = -1) := ⟨by rw [← hRn]; exact (hR6 _).1, by rw [← hCn]; exact (hR6 _).1⟩
  have hnr6 : nr ≤ 600 := by rw [← hnr, ← hRn]; exact Nat.le_trans (hR6 _).2 hL6
  have hnc6 : nc ≤ 600 := by rw [← hnc, ← hCn]; exact Nat.le_trans (hR6 _).2 hL6
  rw [hRn] at hRN hZR ⊢
  rw [hCn] at hCN ⊢
  rw [hnr, hnc]
  have HZR : Hid (d = 0 → nr = 0) := fun h0 => by rw [← hnr, hZR h0]; rfl
  have HRN0 := Hid.mk' hRN
  have HCN0 := Hid.mk' hCN
  clear hL hW hF hV hM hx hn hEN hRN hCN hZR hR6 hRn hCn hnr hnc
  go_enter Tryz.func19, Tryz.ntmps19
  go_upto_region 5 with (first
    | (go_at_call 18; refine hco.mono ?_; clear hco; rintro e X ⟨u, rfl, hu, hX⟩; obtain ⟨au, cu, rfl⟩ := own_slice hu; have HXX := Hid.mk' (And.intro hu hX); clear hu hX)
    | fail)
  obtain ⟨wb, hwb⟩ : ∃ wb, w.heap.size = wb := ⟨_, rfl⟩
  obtain ⟨yb, hyb⟩ : ∃ yb, X.heap.size = yb := ⟨_, rfl⟩
  obtain ⟨na, hna⟩ : ∃ na, (noneTo mt n).length = na := ⟨_, rfl⟩
  have hnan : na ≤ n := by rw [← hna, noneTo_is, List.length_map]; exact none_len mt n
  try rw [hwb]
  rw [hna]
  have HX : Hid (X.heap.size = yb ∧ w.heap.size = wb ∧ wb + 1 ≤ yb ∧ Below wb w X ∧ MatBox wb X 0 0 (.slice none 0 0) ∧ IntsIn (fun b => b < yb) X (.slice au na cu) (noneTo mt n) ∧ (allN mt n).length = na) := by
    obtain ⟨hu, hX⟩ := HXX.out
    have hz := hX.size
    simp only [World.size_alloc] at hz
    refine ⟨hyb, hwb, by omega, ?_, ?_, ?_, by rw [← hna, noneTo_is, List.length_map]⟩
    · rw [← hwb]
      exact hBX.trans (hX.mono (by simp))
    · rw [← hwb]
      exact hmb.below hX
    · rw [← hna]
      have h1 : SliceIn (fun b => b < yb) X _ _ := slice_of_owns hu (fun b hb e => by have := (World.ownsRow.lt hu b e).2; omega)
      exact h1
  have HRN : Hid (d ≠ 0 → ofLen L mt n d na = Rn.map fun (f : Nat) => (f : Int)) := by rw [← HX.out.2.2.2.2.2.2]; exact HRN0.out
  have HCN : Hid (ofLen L mt n (d + 1) na = Cn.map fun (f : Nat) => (f : Int)) := by rw [← HX.out.2.2.2.2.2.2]; exact HCN0.out
  have HBY : Hid (∀ W, Below yb X W → Below wb w W) := fun W hB => HX.out.2.2.2.1.trans (hB.mono (by have := HX.out.2.2.1; omega))
  have HLC : Hid (∀ i, i < n → ∃ bL oL, aL = some ⟨bL, oL, none⟩ ∧ bL < wb ∧ ∃ a1 p1, w.cell? ⟨bL, oL + i, none⟩ = some (.slice a1 (faceAt L i).length p1)) := fun i hi => by
    obtain ⟨aL', cL', e1, -, hrows⟩ := HH.out.1.open_
    cases e1
    obtain ⟨bL, oL, rfl, -, hbL, hrw⟩ := hrows (by rw [HNN.out]; omega)
    obtain ⟨a1, p1, g1, i1⟩ := hrw i (by rw [HNN.out]; exact hi)
    exact ⟨bL, oL, rfl, by rw [← hwb]; exact hbL, a1, p1, g1⟩
  have HAL : Hid (∀ i, i < na → ∃ bA oA, au = some ⟨bA, oA, none⟩ ∧ bA < yb ∧ ∃ x : Nat, (allN mt n)[i]? = some x ∧ x < n ∧ X.cell? ⟨bA, oA + i, none⟩ = some (.int .i64 (x : Int))) := fun i hi => by
    obtain ⟨a', c', e, -, hc⟩ := HX.out.2.2.2.2.2.1.open_
    rw [noneTo_is, List.length_map, HX.out.2.2.2.2.2.2] at e hc
    cases e
    obtain ⟨bA, oA, rfl, hS, hbA, hcell⟩ := hc (by omega)
    obtain ⟨x, hxx⟩ : ∃ x, (allN mt n)[i]? = some x := ⟨_, List.getElem?_eq_getElem (by rw [HX.out.2.2.2.2.2.2]; exact hi)⟩
    have h1 := hcell i hi
    rw [show ((allN mt n).map fun (f : Nat) => (f : Int))[i]?.getD 0 = (x : Int) from by rw [List.getElem?_map, hxx]; rfl] at h1
    exact ⟨bA, oA, rfl, hS, x, hxx, List.mem_range.1 (List.mem_filter.1 (List.mem_iff_getElem?.2 ⟨i, hxx⟩)).1, h1⟩
  have HUN : Hid (∀ (i k : Nat) (W : World), Below wb w W → i < n → k < n → Calls Tryz.prog 36 #[.slice aL n cL, .int .i64 (i : Int), .int .i64 (k : Int)] W fun e w' => e = .returned (.bool (undL L i k)) ∧ Below W.heap.size W w') := fun i k W hB hi hk => HUN0 i k W (by rw [hwb]; exact hB) hi hk
  clear hwb hyb hna HXX hBX hmb HUN0
  go_loopw [10, 11, 13] (fun vr vc p W => ∃ i : Nat, i ≤ na ∧ p = .int .i64 (i : Int) ∧ Hid (TwoRows yb W vr vc (ofLen L mt n d i) (ofLen L mt n (d + 1) i) ∧ Below yb X W)) (fun _ _ p _ => na - (intOf p).toNat)
  case atStart => exact ⟨0, by omega, rfl, ⟨World.ownsRow_nil _ _ _ _, World.ownsRow_nil _ _ _ _, fun x e => by cases e⟩, by have := Below.refl yb X; exact this⟩
  case round =>
    obtain ⟨i, hi, rfl, HK⟩ := hrel
    obtain ⟨ar, cr, rfl⟩ := own_slice HK.out.1.one
    obtain ⟨ac, cc, rfl⟩ := own_slice HK.out.1.two
    by_cases hin : i < na
    · obtain ⟨bA, oA, rfl, hbA, x, hxx, hxn, xX⟩ := HAL.out i hin
      obtain ⟨bL, oL, rfl, hbL, a1, p1, gw⟩ := HLC.out x hxn
      have HXG : Hid (∀ W, Below yb X W → W.cell? ⟨bA, oA + i, none⟩ = some (.int .i64 (x : Int)) ∧ W.cell? ⟨bL, oL + x, none⟩ = some (.slice a1 (faceAt L x).length p1)) := fun W hB => ⟨(hB.cell (p := ⟨bA, oA + i, none⟩) hbA).trans xX, ((HBY.out W hB).cell (p := ⟨bL, oL + x, none⟩) hbL).trans gw⟩
      obtain ⟨x0, g1⟩ := HXG.out wr HK.out.2
      clear xX gw hbA hbL
      obtain ⟨fx, hfx⟩ : ∃ fx, (faceAt L x).length = fx := ⟨_, rfl⟩
      rw [hfx] at g1 HXG
      have HFX : Hid ((allN mt n)[i]? = some x ∧ (faceAt L x).length = fx) := ⟨hxx, hfx⟩
      obtain ⟨lr, hlr⟩ : ∃ lr, (ofLen L mt n d i).length = lr := ⟨_, rfl⟩
      obtain ⟨lc, hlc⟩ : ∃ lc, (ofLen L mt n (d + 1) i).length = lc := ⟨_, rfl⟩
      have hlr6 : lr ≤ 600 := by rw [← hlr]; exact Nat.le_trans (ofLen_len ..) hL6
      have hlc6 : lc ≤ 600 := by rw [← hlc]; exact Nat.le_trans (ofLen_len ..) hL6
      have HLR : Hid ((ofLen L mt n d i).length = lr ∧ (ofLen L mt n (d + 1) i).length = lc) := ⟨hlr, hlc⟩
      have own1 : wr.ownsRow yb 3 1 (.slice ar lr cr) lr ((ofLen L mt n d i).map (Value.int .i64)) := by have := HK.out.1.one; unfold rowC at this; rw [hlr] at this; exact this
      have own2 : wr.ownsRow yb 3 1 (.slice ac lc cc) lc ((ofLen L mt n (d + 1) i).map (Value.int .i64)) := by have := HK.out.1.two; unfold rowC at this; rw [hlc] at this; exact this
      have hT := HK.out.1
      rw [hlr, hlc] at hT ⊢
      have HT := Hid.mk' hT
      have hsz := HK.out.2.size
      have hyb := HX.out.1
      have z1 : (i : Int) < (na : Int) := by omega
      have z2 : (x : Int) < (n : Int) := by omega
      clear hfx hxx hlr hlc hT
      by_cases e1 : fx = d
      · have hb1 : ((fx : Int) == (d : Int)) = true := by rw [e1]; simp
        have hb2 : ((fx : Int) == (d : Int) + 1) = false := beq_false_of_ne (by omega)
        have HE1 : Hid (fx = d) := e1
        clear e1
        go_wp2_with (first
          | (at_builtin; refine wpList_append_slice rfl (.tmp 39) (.tmp 44) 29 rfl yb 3 i0 (.int .i64 0) 8 Tryz.underlying29 hi0 hz0 hz1 hz2 rfl _ _ _ rfl (own1.alloc _) _ [.int .i64 (x : Int)] rfl (slice_one _ _ _) (by simp [Value.oneCell']) (by simp; omega) (by unfold maxLen; simp; omega) (by simp; omega) ?_; intro v4 w4 hown4 hg4 hl4; have H4 := Hid.mk' (And.intro hown4 (And.intro hg4 hl4)); obtain ⟨a4, c4, rfl⟩ := own_slice hown4; have hB4 : Below yb X w4 := (HK.out.2.alloc (by omega) _).grown hg4 (by simp; omega) (fun b hb => (own1.lt b hb).1); obtain ⟨y0, y1⟩ := HXG.out w4 hB4; clear hown4 hg4 hl4 hB4)
          | fail)
        go_roundw
        case rel =>
          obtain ⟨h1, h2, h3⟩ := H4.out
          refine ⟨i + 1, by omega, by go_num, ?_, (HK.out.2.alloc (by omega) _).grown h2 (by simp; omega) (fun b hb => (own1.lt b hb).1)⟩
          rw [ofLen_yes (d := d) HFX.out.1 (by rw [HFX.out.2, HE1.out]), ofLen_no (d := d + 1) HFX.out.1 (by rw [HFX.out.2, HE1.out]; omega)]
          refine (HT.out.below ((Below.refl _ wr).alloc (Nat.le_refl _) _)).first h2 ?_ h3
          unfold rowC
          rw [List.map_append, List.length_append, HLR.out.1]; exact h1
        case measure => simp [intOf]; omega
      · have hb1 : ((fx : Int) == (d : Int)) = false := beq_false_of_ne (by omega)
        by_cases e2 : fx = d + 1
        · have hb2 : ((fx : Int) == (d : Int) + 1) = true := by rw [e2]; simp
          have HE2 : Hid (fx = d + 1) := e2
          clear e1 e2
          go_wp2_with (first
            | (at_builtin; refine wpList_append_slice rfl (.tmp 57) (.tmp 62) 29 rfl yb 3 i0 (.int .i64 0) 8 Tryz.underlying29 hi0 hz0 hz1 hz2 rfl _ _ _ rfl (own2.alloc _) _ [.int .i64 (x : Int)] rfl (slice_one _ _ _) (by simp [Value.oneCell']) (by simp; omega) (by unfold maxLen; simp; omega) (by simp; omega) ?_; intro v4 w4 hown4 hg4 hl4; have H4 := Hid.mk' (And.intro hown4 (And.intro hg4 hl4)); obtain ⟨a4, c4, rfl⟩ := own_slice hown4; have hB4 : Below yb X w4 := (HK.out.2.alloc (by omega) _).grown hg4 (by simp; omega) (fun b hb => (own2.lt b hb).1); obtain ⟨y0, y1⟩ := HXG.out w4 hB4; clear hown4 hg4 hl4 hB4)
            | fail)
          go_roundw
          case rel =>
            obtain ⟨h1, h2, h3⟩ := H4.out
            refine ⟨i + 1, by omega, by go_num, ?_, (HK.out.2.alloc (by omega) _).grown h2 (by simp; omega) (fun b hb => (own2.lt b hb).1)⟩
            rw [ofLen_no (d := d) HFX.out.1 (by rw [HFX.out.2, HE2.out]; omega), ofLen_yes (d := d + 1) HFX.out.1 (by rw [HFX.out.2, HE2.out])]
            refine ((HT.out.below ((Below.refl _ wr).alloc (Nat.le_refl _) _)).swap.first h2 ?_ h3).swap
            unfold rowC
            rw [List.map_append, List.length_append, HLR.out.2]; exact h1
          case measure => simp [intOf]; omega
        · have hb2 : ((fx : Int) == (d : Int) + 1) = false := beq_false_of_ne (by omega)
          have HE2 : Hid (fx ≠ d ∧ fx ≠ d + 1) := ⟨e1, e2⟩
          clear e1 e2
          go_wp2_with fail
          go_roundw
          case rel =>
            refine ⟨i + 1, by omega, by go_num, ?_, HK.out.2⟩
            rw [ofLen_no HFX.out.1 (by rw [HFX.out.2]; exact HE2.out.1), ofLen_no (d := d + 1) HFX.out.1 (by rw [HFX.out.2]; exact HE2.out.2)]
            exact HT.out
          case measure => simp [intOf]; omega
    · have hin2 : i = na := by omega
      have HRC : Hid (ofLen L mt n d i = (if d = 0 then ofLen L mt n 0 i else Rn.map fun (f : Nat) => (f : Int)) ∧ ofLen L mt n (d + 1) i = Cn.map fun (f : Nat) => (f : Int)) := by
        rw [hin2]
        refine ⟨?_, HCN.out⟩
        by_cases h0 : d = 0
        · rw [if_pos h0, h0]
        · rw [if_neg h0]; exact HRN.out h0
      obtain ⟨lr, hlr⟩ : ∃ lr, (ofLen L mt n d i).length = lr := ⟨_, rfl⟩
      have hlc : (ofLen L mt n (d + 1) i).length = nc := by rw [HRC.out.2, List.length_map]; exact HNC.out.2
      have HT : Hid (TwoRows yb wr (.slice ar lr cr) (.slice ac nc cc) (ofLen L mt n d i) (Cn.map fun (f : Nat) => (f : Int))) := by
        have h := HK.out.1
        rw [hlr, hlc, HRC.out.2] at h
        exact h
      have HB0 : Hid (Below yb X wr) := HK.out.2
      have HLRR : Hid ((ofLen L mt n d i).length = lr) := hlr
      have key : (d ≠ 0 ∧ (((d : Int) == 0) = false)) ∨ (d = 0 ∧ (((d : Int) == 0) = true)) := by
        by_cases h0 : d = 0
        · exact .inr ⟨h0, by rw [h0]; rfl⟩
        · exact .inl ⟨h0, beq_false_of_ne (by omega)⟩
      rw [hlr, hlc]
      clear hlr hlc HK
      have hrr : ∃ (a' : Option Addr) (c' : Nat), True := ⟨none, 0, trivial⟩
      rcases key with ⟨hd0, hb0⟩ | ⟨hd0, hb0⟩
      · have hlr2 : lr = nr := by rw [← HLRR.out, HRC.out.1, if_neg hd0, List.length_map]; exact HNC.out.1
        subst hlr2
        have HR : Hid (rowC yb wr (.slice ar lr cr) (Rn.map fun (f : Nat) => (f : Int))) := by have h := HT.out.one; rw [HRC.out.1, if_neg hd0] at h; exact h
        clear hd0 hin2
        go_upto_region 14 with fail
        obtain ⟨mb, hmb⟩ : ∃ mb, wr.heap.size = mb := ⟨_, rfl⟩
        have hBZ : Below wr.heap.size wr (wr.alloc (.cells #[.int .i64 (lr : Int), .int .i64 (nc : Int), .slice none 0 0] 51)) := (Below.refl _ wr).alloc (Nat.le_refl _) _
        have hmz := matBox_new wr (lr : Int) (nc : Int) (.slice none 0 0) 51
        have hin : ∀ {v l}, rowC yb wr v l → IntsIn (fun b => b < mb) (wr.alloc (.cells #[.int .i64 (lr : Int), .int .i64 (nc : Int), .slice none 0 0] 51)) v l := fun {v l} h => by
          have h1 : SliceIn (fun b => b < mb) wr v _ := slice_of_owns h (fun b _ e => by have := (World.ownsRow.lt h b e).2; omega)
          exact SliceIn.below h1 hBZ
        have hinR := hin HR.out
        have hinC := hin HT.out.two
        obtain ⟨Z, hZ⟩ : ∃ Z, wr.alloc (.cells #[.int .i64 (lr : Int), .int .i64 (nc : Int), .slice none 0 0] 51) = Z := ⟨_, rfl⟩
        have hZs : Z.heap.size = mb + 1 := by rw [← hZ, ← hmb]; simp
        rw [hZ] at hBZ hmz hinR hinC
        rw [hmb] at hmz
        try rw [hZ]
        try rw [hmb]
        have hymb : yb ≤ mb := by have := HB0.out.size; rw [HX.out.1, hmb] at this; exact this
        have HZ : Hid (Z.heap.size = mb + 1 ∧ yb ≤ mb ∧ MatBox mb Z (lr : Int) nc (.slice none 0 0) ∧ IntsIn (fun b => b < mb) Z (.slice ar lr cr) (Rn.map fun (f : Nat) => (f : Int)) ∧ IntsIn (fun b => b < mb) Z (.slice ac nc cc) (Cn.map fun (f : Nat) => (f : Int)) ∧ Below yb X Z) := ⟨hZs, hymb, hmz, hinR, hinC, HB0.out.trans (hBZ.mono (by omega))⟩
        have HZW : Hid (∀ W, Below (mb + 1) Z W → Below wb w W ∧ Below yb X W) := fun W hB => by
          have h1 : Below yb X W := HZ.out.2.2.2.2.2.trans (hB.mono (by have := HZ.out.2.1; omega))
          exact ⟨HBY.out W h1, h1⟩
        have HWI : Hid (∀ W, Below wb w W → WalkIn wb L mt (.slice aL n cL) (.slice aW n cW) W) := fun W hB => by
          have hB' : Below w.heap.size w W := by rw [HX.out.2.1]; exact hB
          refine ⟨RowsIn.mono (RowsIn.keep (RowsIn.mono (S' := fun b => b < wb) (show RowsIn anyBlock w _ L from HH0.out.1) (fun b hb _ => by rw [HX.out.2.1] at hb; exact hb)) (fun b hb hS => hB.block b hS)) (fun _ _ h => h), ?_⟩
          rw [HNN.out]
          exact SliceIn.keep (SliceIn.mono (S' := fun b => b < wb) HH0.out.2 (fun b hb _ => by rw [HX.out.2.1] at hb; exact hb)) (fun b hb hS => hB.block b hS)
        have HMB : Hid (∀ W, Below (mb + 1) Z W → MatBox mb W (lr : Int) nc (.slice none 0 0) ∧ MatBox wb W 0 0 (.slice none 0 0)) := fun W hB => ⟨HZ.out.2.2.1.below (by rw [HZ.out.1]; exact hB), HX.out.2.2.2.2.1.below (by rw [HX.out.1]; exact (HZW.out W hB).2)⟩
        clear hBZ hmz hin hinR hinC hZ hmb hZs hymb
        have hmki := run_make_row' (P := Tryz.prog) 29 3 (.int .i64 0) 8 Tryz.underlying29 Tryz.info3 rfl .i64 .i64 n (by omega) (by omega)
        obtain ⟨i2, hi2, hx0, hx1, hx2⟩ := info_parts Tryz.info29
        go_wp2_with fail
        go_loopw [3, 15, 16] (fun mo v p W => ∃ k m : Nat, k ≤ nc ∧ p = .int .i64 (k : Int) ∧ mo = .int .i64 (m : Int) ∧ 0 < m ∧ m ≤ 20000 ∧ ∃ (Fs : List (List Int)) (aF : Option Addr) (cF : Nat), v = .slice aF k cF ∧ Hid (OwnRows (mb + 1) W (.slice aF k cF) Fs ∧ Fs.length = k ∧ Below (mb + 1) Z W ∧ ∀ j c, j < k → Cn[j]? = some c → (Fs[j]?.getD []).length = n ∧ ∀ r ∈ Rn, (Fs[j]?.getD [])[r]? = some (entL L Pf r c) ∧ (entL L Pf r c).natAbs ≤ 20000)) (fun _ _ p _ => nc - (intOf p).toNat)
        case atStart => exact ⟨0, 20000, by omega, rfl, rfl, by omega, by omega, [], none, 0, rfl, OwnRows.nil _ _, rfl, by have := Below.refl (mb + 1) Z; exact this, fun j c h => by omega⟩
        case round =>
          obtain ⟨k, m, hk, rfl, rfl, hm0, hm2, Fs, aF, cF, rfl, HF⟩ := hrel
          by_cases hkn : k < nc
          · obtain ⟨c, hc⟩ : ∃ c, Cn[k]? = some c := ⟨_, List.getElem?_eq_getElem (by rw [HNC.out.2]; exact hkn)⟩
            have hcm := HMEM.out.2 c (List.mem_iff_getElem?.2 ⟨k, hc⟩)
            obtain ⟨ac', cc', e, -, hcc⟩ := HZ.out.2.2.2.2.1.open_
            rw [List.length_map, HNC.out.2] at e hcc
            cases e
            obtain ⟨bc, oc, rfl, hbc, -, hcell⟩ := hcc (by omega)
            have yZ := hcell k hkn
            rw [show (Cn.map fun (f : Nat) => (f : Int))[k]?.getD 0 = (c : Int) from by rw [List.getElem?_map, hc]; rfl] at yZ
            have HCZ : Hid (∀ W, Below (mb + 1) Z W → W.cell? ⟨bc, oc + k, none⟩ = some (.int .i64 (c : Int))) := fun W hB => (hB.cell (p := ⟨bc, oc + k, none⟩) (Nat.lt_succ_of_lt hbc)).trans yZ
            have HCC : Hid (Cn[k]? = some c ∧ c < n ∧ mt c = -1) := ⟨hc, hcm.1, hcm.2⟩
            have z2 : (k : Int) < (nc : Int) := by omega
            have z3 : (c : Int) < (n : Int) := by have := hcm.1; omega
            clear hc hcm hcc hcell yZ hbc
            go_upto_region 19 with fail
            obtain ⟨gs, hgs⟩ : ∃ gs, wr.heap.size = gs := ⟨_, rfl⟩
            have hrow := World.rowIs_made wr (.int .i64 0) n 3
            have hBU : Below wr.heap.size wr (wr.alloc (.cells (madeCells #[.int .i64 0] n) 3)) := (Below.refl _ wr).alloc (Nat.le_refl _) _
            obtain ⟨U, hU⟩ : ∃ U, wr.alloc (.cells (madeCells #[.int .i64 0] n) 3) = U := ⟨_, rfl⟩
            rw [hU] at hrow hBU
            rw [hgs] at hrow hBU
            try rw [hU]
            try rw [hgs]
            have hmg : mb + 1 ≤ gs := by have := HF.out.2.2.1.size; rw [HZ.out.1, hgs] at this; exact this
            have HU1 : Hid (U.rowIs gs 3 n (fun _ => .int .i64 0) ∧ Below gs wr U ∧ wr.heap.size = gs ∧ mb + 1 ≤ gs) := ⟨hrow, hBU, hgs, hmg⟩
            have HUW : Hid (∀ W, KeepBut U W gs gs → Below gs wr W) := fun W hK => ⟨hK.os.trans hBU.os, hK.tape.trans hBU.tape, hK.output.trans hBU.output, Nat.le_trans hBU.size hK.size, fun b hb => (hK.block b (by have := hBU.size; omega) (by omega) (by omega)).trans (hBU.block b hb)⟩
            clear hrow hBU hU hgs hmg
            go_wp2_with fail
            go_loopw [3, 18] (fun mo p W => ∃ (x m : Nat) (f : Nat → Int), x ≤ n ∧ p = .int .i64 (x : Int) ∧ mo = .int .i64 (m : Int) ∧ 0 < m ∧ m ≤ 20000 ∧ Hid (W.rowIs gs 3 n (fun j => .int .i64 (f j)) ∧ KeepBut U W gs gs ∧ ∀ g, g < n → mt g = -1 → (f g = wsum (fun y => undL L y c) (sgL L c) (fun a => netP (Pf g a)) (-1) x ∧ (f g).natAbs + m ≤ 20000))) (fun _ p _ => n - (intOf p).toNat)
            case atStart => exact ⟨0, m, fun _ => 0, by omega, rfl, rfl, hm0, hm2, HU1.out.1, KeepBut.refl _ _ _, fun g _ _ => ⟨rfl, by simp; exact hm2⟩⟩
            case round =>
              obtain ⟨x, m, f, hxn, rfl, rfl, hm0, hm2, HJ⟩ := hrel
              have hBw := HUW.out wr HJ.out.2.1
              by_cases hxl : x < n
              · have hBZ2 : Below (mb + 1) Z wr := HF.out.2.2.1.trans (hBw.mono HU1.out.2.2.2)
                have y0 := HCZ.out wr hBZ2
                have hun := HUN.out x c wr (HZW.out wr hBZ2).1 hxl HCC.out.2.1
                have z4 : (x : Int) < (n : Int) := by omega
                have HBZ2 := Hid.mk' hBZ2
                clear hBZ2 hBw
                cases hu : undL L x c with
                | false =>
                  rw [hu] at hun
                  have HWS : Hid (∀ g, wsum (fun y => undL L y c) (sgL L c) (fun a => netP (Pf g a)) (-1) (x + 1) = wsum (fun y => undL L y c) (sgL L c) (fun a => netP (Pf g a)) (-1) x) := fun g => by
                    show _ + _ = _
                    rw [if_neg (fun h => by have h2 : undL L x c = true := h.2; rw [hu] at h2; cases h2)]; omega
                  clear hu
                  go_wp2_with (first
                    | (go_at_call 36; refine hun.mono ?_; clear hun; rintro e V2 ⟨rfl, hV⟩; have HV := Hid.mk' hV; clear hV)
                    | fail)
                  go_roundw
                  case rel => exact ⟨x + 1, m, f, by omega, by go_num, rfl, hm0, hm2, HJ.out.1.of_block (HV.out.block gs HJ.out.1.lt), HJ.out.2.1.below HV.out, fun g hg hc => by rw [HWS.out]; exact HJ.out.2.2 g hg hc⟩
                  case measure => simp [intOf]; omega
                | true =>
                  rw [hu] at hun
                  go_upto_region 23 with (first
                    | (go_at_call 36; refine hun.mono ?_; clear hun; rintro e V2 ⟨rfl, hV⟩; have HV := Hid.mk' hV; clear hV)
                    | fail)
                  have hsx := und_sign HH.out.2.2.1 (by rw [HNN.out]; exact HCC.out.2.1) hu
                  obtain ⟨sx, hsx2⟩ : ∃ sx, sgL L c x = sx := ⟨_, rfl⟩
                  rw [hsx2] at hsx
                  have HSX : Hid (sgL L c x = sx ∧ signI (faceAt L c) (faceAt L x) = sx ∧ (sx = 1 ∨ sx = -1)) := ⟨hsx2, hsx.1.symm, hsx.2⟩
                  have HWS : Hid (∀ g, wsum (fun y => undL L y c) (sgL L c) (fun a => netP (Pf g a)) (-1) (x + 1) = wsum (fun y => undL L y c) (sgL L c) (fun a => netP (Pf g a)) (-1) x + sx * netP (Pf g x)) := fun g => by
                    show _ + _ = _
                    rw [if_pos ⟨by omega, hu⟩, HSX.out.1]
                  have HK2 : Hid (KeepBut U V2 gs gs ∧ Below (mb + 1) Z V2 ∧ V2.rowIs gs 3 n (fun j => .int .i64 (f j))) := by
                    have h1 := HJ.out.2.1.below HV.out
                    exact ⟨h1, HF.out.2.2.1.trans ((HUW.out V2 h1).mono HU1.out.2.2.2), HJ.out.1.of_block (HV.out.block gs HJ.out.1.lt)⟩
                  have hWI := HWI.out V2 (HZW.out V2 HK2.out.2.1).1
                  obtain ⟨aL', cL', e1, -, hrows⟩ := hWI.rows.open_
                  rw [HNN.out] at e1
                  cases e1
                  obtain ⟨bL', oL', e2, -, hbL', hrw⟩ := hrows (by rw [HNN.out]; omega)
                  subst e2
                  obtain ⟨a1, p1, g1, i1⟩ := hrw c (by rw [HNN.out]; exact HCC.out.2.1)
                  obtain ⟨a3, p3, g3, i3⟩ := hrw x (by rw [HNN.out]; exact hxl)
                  have y1 := HCZ.out V2 HK2.out.2.1
                  have hso : ∀ q, Calls Tryz.prog 44 #[.slice a1 (L[c]?.getD []).length p1, .slice a3 (L[x]?.getD []).length p3] (V2.drewN q) fun e w' => e = .returned (.int .i64 sx) ∧ ∃ q', w' = (V2.drewN q).drewN q' := fun q => (sign_of _ _ (faceAt L c) (faceAt L x) (V2.drewN q) (show Ints V2 _ _ from i1.any) (show Ints V2 _ _ from i3.any) (HH.out.2.2.2.2.2.1 _ (faceAt_mem (by rw [HNN.out]; exact HCC.out.2.1))) (HH.out.2.2.2.2.2.1 _ (faceAt_mem (by rw [HNN.out]; exact hxl)))).mono fun e w' h => ⟨by rw [h.1, HSX.out.2.1], h.2⟩
                  have hwk : ∀ q, Calls Tryz.prog 43 #[.slice (some ⟨bL', oL', none⟩) n cL, .slice aW n cW, .int .i64 (x : Int), .int .i64 sx, .slice (some ⟨gs, 0, none⟩) n n, .int .i64 (m : Int)] (V2.drewN q) fun e w' => WalkSays L mt (fun g a => netP (Pf g a)) gs m x sx f (V2.drewN q) e w' := fun q => by
                    have h9 := walks_ (B := wb) (gs := gs) (vL := .slice (some ⟨bL', oL', none⟩) n cL) (vW := .slice aW n cW) HH.out.2.2.1 (by rw [HNN.out]; exact hL6) HH.out.2.2.2.2.2.1 HH.out.2.2.2.1 HH.out.2.2.2.2.1 (by have := HU1.out.2.2.2; have := HZ.out.2.1; have := HX.out.2.2.1; omega) m x sx f (V2.drewN q) hm2 (by rw [HNN.out]; exact hxl) HSX.out.2.2 (fun g hg hc => (HJ.out.2.2 g (by rw [← HNN.out]; exact hg) hc).2) (by
                      have h8 := HWI.out (V2.drewN q) (by have h7 := (HZW.out V2 HK2.out.2.1).1; exact ⟨h7.os, h7.tape, h7.output, h7.size, h7.block⟩)
                      exact h8) (by rw [HNN.out]; exact HK2.out.2.2.of_block rfl)
                    rw [HNN.out] at h9
                    exact h9
                  obtain ⟨n1, hn1⟩ : ∃ n1, (L[c]?.getD []).length = n1 := ⟨_, rfl⟩
                  obtain ⟨n3, hn3⟩ : ∃ n3, (L[x]?.getD []).length = n3 := ⟨_, rfl⟩
                  rw [hn1] at g1 hso
                  rw [hn3] at g3 hso
                  clear hrows hrw i1 i3 hWI hn1 hn3 hbL' hu hsx hsx2 y0
                  go_region_with (first
                    | (go_at_call 44; refine (hso _).mono ?_; rintro e V3 ⟨rfl, q, rfl⟩)
                    | (go_at_call 43; refine (hwk _).mono ?_; rintro e V4 hW4; have H4 := Hid.mk' hW4; obtain ⟨l2, f2, rfl, -⟩ := hW4))
                  all_goals
                    obtain ⟨l2', f2', e, p1, p2, p3, p4, p5, p6⟩ := H4.out
                    obtain rfl : l2 = l2' := by have := Value.int.inj (Ending.returned.inj e); omega
                    have HP : Hid (V4.rowIs gs 3 n (fun j => .int .i64 (f2' j)) ∧ KeepBut U V4 gs gs ∧ (∀ g, g < n → mt g = -1 → (f2' g - f g).natAbs + l2 ≤ m) ∧ (0 < l2 → ∀ g, g < n → mt g = -1 → f2' g = f g + sx * netP (Pf g x))) := by
                      rw [HNN.out] at p3
                      exact ⟨p3, HK2.out.1.trans ⟨p4.os, p4.tape, p4.output, p4.size, p4.block⟩, fun g hg hc => p5 g (by rw [HNN.out]; exact hg) hc, fun h g hg hc => p6 h g (by rw [HNN.out]; exact hg) hc⟩
                    have hl2 : l2 ≤ 20000 := by omega
                    clear p1 p2 p3 p4 p5 p6 e g1 g3 hso hwk
                    rcases Nat.eq_zero_or_pos l2 with h0 | h0
                    · subst h0
                      have hBZ4 : Below (mb + 1) Z V4 := HF.out.2.2.1.trans ((HUW.out V4 HP.out.2.1).mono HU1.out.2.2.2)
                      obtain ⟨hm4, hr4⟩ := HMB.out V4 hBZ4
                      obtain ⟨m0, z0⟩ := hm4.c0
                      obtain ⟨m1, z1⟩ := hm4.c1
                      obtain ⟨m2, z2'⟩ := hm4.c2
                      obtain ⟨r0, k0⟩ := hr4.c0
                      obtain ⟨r1, k1⟩ := hr4.c1
                      obtain ⟨r2, k2⟩ := hr4.c2
                      have hp := hr4.put (lr : Int) (nc : Int) (.slice none 0 0)
                      have s0 := hp.c0.1
                      have s1 := hp.c1.1
                      have s2 := hp.c2.1
                      have HB4 := Hid.mk' (HZW.out V4 hBZ4).1
                      clear hm4 hr4 hp hBZ4
                      go_wp2_with fail
                      refine bodyPost_ret (v := .tuple #[.agg #[.int .i64 (lr : Int), .int .i64 (nc : Int), .slice none 0 0], .bool false]) ?_ rfl ?_
                      · simp [results, Tryz.f19, go_sem, s0, s1, s2]
                      · refine ⟨?_, false, _, rfl, (fun e => by cases e), fun _ => rfl⟩
                        rw [HX.out.2.1]
                        exact ((HB4.out.setCell (p := ⟨wb, 0, none⟩) (Nat.le_refl _) _).setCell (p := ⟨wb, 1, none⟩) (Nat.le_refl _) _).setCell (p := ⟨wb, 2, none⟩) (Nat.le_refl _) _
                    · have hb0 : ((l2 : Int) == 0) = false := beq_false_of_ne (by omega)
                      go_wp2_with fail
                      go_roundw
                      case rel =>
                        refine ⟨x + 1, l2, f2', by omega, by go_num, rfl, h0, hl2, HP.out.1, HP.out.2.1, fun g hg hc => ⟨?_, ?_⟩⟩
                        · rw [HP.out.2.2.2 h0 g hg hc, HWS.out, (HJ.out.2.2 g hg hc).1]
                        · have h1 := (HJ.out.2.2 g hg hc).2
                          have h2 := HP.out.2.2.1 g hg hc
                          omega
                      case measure => simp [intOf]; omega
              · have hxe : x = n := by omega
                have HBW : Hid (Below gs _ wr) := HUW.out wr HJ.out.2.1
                obtain ⟨vs, o1, o2⟩ := HF.out.1.below (by rw [HU1.out.2.2.1]; exact HBW.out)
                have HO := Hid.mk' (And.intro o1 o2)
                have HEF : Hid (∀ r ∈ Rn, f r = entL L Pf r c ∧ (entL L Pf r c).natAbs ≤ 20000) := fun r hr => by
                  have h1 := HMEM.out.1 r hr
                  have h2 := HJ.out.2.2 r h1.1 h1.2
                  have h3 : f r = entL L Pf r c := by rw [h2.1, HH.out.2.2.2.2.2.2, HNN.out, hxe]
                  exact ⟨h3, by rw [← h3]; have := h2.2; omega⟩
                have own : wr.ownsRow (mb + 1) 29 1 (.slice aF k cF) k vs := by rw [HF.out.2.1] at o1; exact o1
                have hsz := HBW.out.size
                have hmg := HU1.out.2.2.2
                have hg0 : gs < wr.heap.size := HJ.out.1.lt
                clear o1 o2
                go_upto_region 17 with (first
                  | (at_builtin; refine wpList_append_slice rfl (.tmp 115) (.tmp 117) 22 rfl (mb + 1) 29 i2 (.slice none 0 0) 24 Tryz.underlying22 hi2 hx0 hx1 hx2 rfl _ _ _ rfl (own.alloc _) _ [.slice (some ⟨gs, 0, none⟩) n n] rfl (slice_one _ _ _) (by simp [Value.oneCell']) (by simp; omega) (by unfold maxLen; simp; omega) (by simp; omega) ?_; intro v6 w6 hown6 hg6 hl6; replace hown6 : w6.ownsRow (mb + 1) 29 1 v6 (k + 1) (vs ++ [.slice (some ⟨gs, 0, none⟩) n n]) := hown6; obtain ⟨a6, c6, rfl⟩ := own_form hown6)
                  | fail)
                have HE6 : Hid (OwnRows (mb + 1) w6 (.slice a6 (k + 1) c6) (Fs ++ [(List.range n).map f]) ∧ Below (mb + 1) Z w6) := by
                  have hvb : ∀ b, Value.ownBlock (.slice aF k cF) = some b → mb + 1 ≤ b ∧ b < gs := fun b e => by have := HF.out.1.block e; rw [HU1.out.2.2.1] at this; exact this
                  refine ⟨OwnRows.push HO.out.1 HO.out.2 (rowIs_ints HJ.out.1 ⟨hmg, fun e => by have := (hvb gs e.symm).2; omega⟩) (by rw [HF.out.2.1]; exact hown6) hg6 hl6, ?_⟩
                  have h1 : Below (mb + 1) Z wr := HF.out.2.2.1.trans (HBW.out.mono hmg)
                  exact (h1.alloc (by omega) _).grown hg6 (by simp; omega) (fun b hb => (hvb b hb).1)
                clear hown6 hg6 hl6 own hsz hg0
                go_wp2_with fail
                go_roundw
                case rel =>
                  refine ⟨k + 1, m, by omega, by go_num, rfl, hm0, hm2, Fs ++ [(List.range n).map f], a6, c6, rfl, HE6.out.1, by rw [List.length_append, HF.out.2.1]; rfl, HE6.out.2, fun j c' hj hc' => ?_⟩
                  rw [List.getElem?_append, HF.out.2.1]
                  by_cases hjk : j < k
                  · rw [if_pos hjk]; exact HF.out.2.2.2 j c' hjk hc'
                  · obtain rfl : j = k := by omega
                    rw [if_neg hjk, Nat.sub_self, List.getElem?_cons_zero, Option.getD_some]
                    rw [HCC.out.1] at hc'
                    cases hc'
                    refine ⟨by simp, fun r hr => ⟨?_, (HEF.out r hr).2⟩⟩
                    rw [List.getElem?_map, List.getElem?_range (HMEM.out.1 r hr).1, ← (HEF.out r hr).1]; rfl
                case measure => simp [intOf]; omega
          · have hkn2 : k = nc := by omega
            have hFl : Fs.length = nc := by rw [← hkn2]; exact HF.out.2.1
            obtain ⟨zz, hzz⟩ : ∃ zz, wr.heap.size = zz := ⟨_, rfl⟩
            have hmz : mb + 1 ≤ zz := by have := HF.out.2.2.1.size; rw [HZ.out.1, hzz] at this; exact this
            have hRI : RowsIn (fun b => mb + 1 ≤ b) wr (.slice aF k cF) Fs := by
              obtain ⟨vs, o1, o2⟩ := HF.out.1
              exact ⟨vs, slice_of_owns o1 (fun b hb _ => hb), by have := o1.1; simpa using this, fun q u x hu hx => (o2 q u x hu hx).mono (fun b _ hb => hb.1)⟩
            have HRI := Hid.mk' hRI
            have HWW : Hid (∀ W, KeepBut wr W mb mb → Rows W (.slice aF k cF) Fs ∧ IntsIn (fun b => b < mb) W (.slice ar lr cr) (Rn.map fun (f : Nat) => (f : Int)) ∧ MatBox wb W 0 0 (.slice none 0 0) ∧ Below wb w W) := fun W hK => by
              have hB1 := HF.out.2.2.1
              have hB2 := HZW.out wr hB1
              have hym := HZ.out.2.1
              have hwy := HX.out.2.2.1
              have hk : ∀ b, b < mb → W.heap[b]? = wr.heap[b]? := fun b hb => hK.block b (by omega) (by omega) (by omega)
              refine ⟨(RowsIn.keep HRI.out (fun b hb hS => hK.block b hb (by have hS : mb + 1 ≤ b := hS; omega) (by have hS : mb + 1 ≤ b := hS; omega))).any, ?_, ?_, ?_⟩
              · exact SliceIn.keep (SliceIn.keep HZ.out.2.2.2.1 (fun b _ hS => hB1.block b (by have hS : b < mb := hS; omega))) (fun b _ hS => hk b hS)
              · have hm := (HMB.out wr hB1).2
                have e := hk wb (by omega)
                exact ⟨⟨(World.cell?_of_block (a := ⟨wb, 0, none⟩) e).trans hm.c0.1, (World.frozen?_of_block (a := ⟨wb, 0, none⟩) e).trans hm.c0.2⟩, ⟨(World.cell?_of_block (a := ⟨wb, 1, none⟩) e).trans hm.c1.1, (World.frozen?_of_block (a := ⟨wb, 1, none⟩) e).trans hm.c1.2⟩, ⟨(World.cell?_of_block (a := ⟨wb, 2, none⟩) e).trans hm.c2.1, (World.frozen?_of_block (a := ⟨wb, 2, none⟩) e).trans hm.c2.2⟩⟩
              · have h1 := hB2.1
                exact ⟨hK.os.trans h1.os, hK.tape.trans h1.tape, hK.output.trans h1.output, Nat.le_trans h1.size hK.size, fun b hb => (hk b (by omega)).trans (h1.block b hb)⟩
            have HMZ : Hid (MatBox mb wr (lr : Int) nc (.slice none 0 0)) := (HMB.out wr HF.out.2.2.1).1
            have HZZ : Hid (wr.heap.size = zz ∧ mb + 1 ≤ zz) := ⟨hzz, hmz⟩
            have HFL : Hid (Fs.length = k) := by rw [hkn2]; exact hFl
            clear hRI hzz hmz hFl
            obtain ⟨ZZ, hZZ⟩ : ∃ ZZ, ZZ = wr := ⟨_, rfl⟩
            subst hZZ
            subst hkn2
            go_wp2_with fail
            go_loopw [19] (fun p W => ∃ i : Nat, i ≤ lr ∧ p = .int .i64 (i : Int) ∧ ∃ v, Hid (KeepBut ZZ W mb mb ∧ MatBox mb W (lr : Int) k v ∧ rowC zz W v (entsTo L Pf Rn Cn i 0))) (fun p _ => lr - (intOf p).toNat)
            case atStart => exact ⟨0, by omega, rfl, .slice none 0 0, KeepBut.refl _ _ _, HMZ.out, by rw [ents_zero]; exact World.ownsRow_nil _ _ _ _⟩
            case round =>
              obtain ⟨i, hi, rfl, v, HI⟩ := hrel
              obtain ⟨av, cv, rfl⟩ := own_slice HI.out.2.2
              by_cases hir : i < lr
              · go_wp2_with fail
                go_loopw [20] (fun p W => ∃ j : Nat, j ≤ k ∧ p = .int .i64 (j : Int) ∧ ∃ v, Hid (KeepBut ZZ W mb mb ∧ MatBox mb W (lr : Int) k v ∧ rowC zz W v (entsTo L Pf Rn Cn i j))) (fun p _ => k - (intOf p).toNat)
                case atStart => exact ⟨0, by omega, rfl, _, HI.out⟩
                case round =>
                  obtain ⟨j, hj, rfl, v, HW⟩ := hrel
                  obtain ⟨av, cv, rfl⟩ := own_slice HW.out.2.2
                  by_cases hjk : j < k
                  · obtain ⟨hrw, hri, -, -⟩ := HWW.out wr HW.out.1
                    obtain ⟨r, hr⟩ : ∃ r, Rn[i]? = some r := ⟨_, List.getElem?_eq_getElem (by rw [HNC.out.1]; exact hir)⟩
                    obtain ⟨c, hc⟩ : ∃ c, Cn[j]? = some c := ⟨_, List.getElem?_eq_getElem (by rw [HNC.out.2]; exact hjk)⟩
                    have hrm : r ∈ Rn := List.mem_iff_getElem?.2 ⟨i, hr⟩
                    have hFj := HF.out.2.2.2 j c hjk hc
                    obtain ⟨aF', cF', e1, -, hrows⟩ := hrw.open_
                    rw [HFL.out] at e1
                    cases e1
                    obtain ⟨bF, oF, e9, -, hbF, hrw2⟩ := hrows (by rw [HFL.out]; omega)
                    subst e9
                    obtain ⟨au1, pu, gu, iu⟩ := hrw2 j (by rw [HFL.out]; exact hjk)
                    obtain ⟨fl, hfl⟩ : ∃ fl, Fs[j]?.getD [] = fl := ⟨_, rfl⟩
                    rw [hfl] at gu iu hFj
                    obtain ⟨au2, cu2, e2, -, hcu⟩ := iu.open_
                    rw [hFj.1] at gu e2 hcu
                    cases e2
                    have hrn := (HMEM.out.1 r hrm).1
                    obtain ⟨bu, ou, e8, -, hbu, hcu2⟩ := hcu (by omega)
                    subst e8
                    have y2 := hcu2 r hrn
                    rw [(hFj.2 r hrm).1, Option.getD_some] at y2
                    obtain ⟨ar', cr', e3, -, hcr⟩ := hri.open_
                    rw [List.length_map, HNC.out.1] at e3 hcr
                    cases e3
                    obtain ⟨br, or, e7, -, hbr, hcr2⟩ := hcr (by omega)
                    have y3 := hcr2 i hir
                    rw [show (Rn.map fun (f : Nat) => (f : Int))[i]?.getD 0 = (r : Int) from by rw [List.getElem?_map, hr]; rfl] at y3
                    have HEV : Hid (entsTo L Pf Rn Cn i (j + 1) = entsTo L Pf Rn Cn i j ++ [entL L Pf r c]) := ents_step hr hc
                    obtain ⟨x, hx2⟩ : ∃ x, entL L Pf r c = x := ⟨_, rfl⟩
                    rw [hx2] at HEV y2
                    obtain ⟨len, hlen⟩ : ∃ len, (entsTo L Pf Rn Cn i j).length = len := ⟨_, rfl⟩
                    have hl6 : len ≤ 360600 := by rw [← hlen]; exact ents_len (by rw [HNC.out.1]; omega) (by rw [HNC.out.2]; omega) i j
                    rw [hlen] at HW
                    have HLN : Hid ((entsTo L Pf Rn Cn i j).length = len) := hlen
                    have own : wr.ownsRow zz 3 1 (.slice av len cv) len ((entsTo L Pf Rn Cn i j).map (Value.int .i64)) := by have := HW.out.2.2; unfold rowC at this; rw [hlen] at this; exact this
                    obtain ⟨m2', z2'⟩ := HW.out.2.1.c2
                    have hsz := HW.out.1.size
                    have hzz2 := HZZ.out.1
                    have q1 : (i : Int) < (lr : Int) := by omega
                    have q2 : (j : Int) < (k : Int) := by omega
                    have q3 : (r : Int) < (n : Int) := by omega
                    clear hrw hri hr hc hrm hFj hrows hrw2 hfl iu hcu hcu2 hcr hcr2 hx2 hlen hbF hbu hbr
                    subst e7
                    go_wp2_with fail
                    have cellB : ∀ o, (wr.alloc o).cell? ⟨mb, 2, none⟩ = some (.slice av len cv) := fun o => (World.cell?_alloc_lt wr o ⟨mb, 2, none⟩ (by have := HW.out.2.1.lt; simp only; omega)).trans m2'
                    have hzz3 := HZZ.out.2
                    go_region_law (first
                      | (refine step_append_slice (by rfl) (.tmp 132) (.tmp 143) 29 (by rfl) zz 3 i0 (.int .i64 0) 8 Tryz.underlying29 hi0 hz0 hz1 hz2 (by rfl) (.slice av len cv) len _ (by first | rfl | simp [Act.eval]) (by first | exact own.alloc _ | exact (own.alloc _).drew | exact own.drew.alloc _) (.slice (some ⟨wr.heap.size, 0, none⟩) 1 1) [.int .i64 x] (by first | rfl | simp [Act.eval]) (by first | exact slice_one _ _ _ | exact slice_one wr _ _) (by simp [Value.oneCell']) (by simp; omega) (by unfold maxLen; simp; omega) (by simp; omega) ?_; intro v6 w6 hown6 hg6 hl6; have hown7 : w6.ownsRow zz 3 1 v6 (len + 1) _ := hown6; obtain ⟨g3, p3, rfl, -, -⟩ := hown7.form (by omega); have hg7 : (wr.alloc (.cells #[.int .i64 x] 3)).grownBy w6 (Value.ownBlock (.slice av len cv)) := (by first | exact hg6 | exact ⟨hg6.os, hg6.tape, hg6.output, hg6.size, hg6.block⟩ | exact ⟨hg6.size, hg6.os, hg6.tape, hg6.output, hg6.block⟩); have hmb6 := MatBox.far HW.out.2.1 hg7 (fun e => by have := (World.ownsRow.lt own mb e.symm).1; omega); have q6 := hmb6.c2.1; have g6 := hmb6.c2.2; have H6 := Hid.mk' (And.intro hown7 (And.intro hg7 hmb6)); clear hown6 hown7 hg6 hg7 hl6 hmb6))
                    all_goals go_wp2
                    all_goals go_roundw
                    all_goals first
                      | (obtain ⟨ho4, hg4, hm4⟩ := H6.out; have hK4 : KeepBut ZZ w6 mb mb := (HW.out.1.below ((Below.refl _ wr).alloc (Nat.le_refl _) (.cells #[.int .i64 x] 3))).on hg4 (fun b e => .inr (.inr (by have := (World.ownsRow.lt own b e).1; rw [HZZ.out.1]; exact this))); refine ⟨j + 1, by omega, by go_num, _, hK4.trans (put_keep w6 mb 2 (.slice (some ⟨g3, 0, none⟩) (len + 1) p3)), hm4.set (.slice (some ⟨g3, 0, none⟩) (len + 1) p3), ?_⟩; have h2 := World.ownsRow.kept ho4 (grown_one w6 ⟨mb, 2, none⟩ (.slice (some ⟨g3, 0, none⟩) (len + 1) p3)) (.inr fun e => by have := (World.ownsRow.lt ho4 mb e).1; omega); unfold rowC; rw [HEV.out, List.map_append, List.length_append, HLN.out]; exact h2)
                      | (simp [intOf]; omega)
                  · have hjn : j = k := by omega
                    have HEX : Hid (entsTo L Pf Rn Cn i j = entsTo L Pf Rn Cn (i + 1) 0) := by
                      rw [hjn, ← HNC.out.2]
                      exact ents_row (List.getElem?_eq_getElem (by rw [HNC.out.1]; exact hir))
                    subst hjn
                    rw [HEX.out] at HW
                    go_wp2_with fail
                    go_roundw
                    case rel => exact ⟨i + 1, by omega, by go_num, _, HW.out⟩
                    case measure => simp [intOf]; omega
              · have hin3 : i = lr := by omega
                obtain ⟨-, -, hrb, hbw⟩ := HWW.out wr HI.out.1
                obtain ⟨m0, z0⟩ := HI.out.2.1.c0
                obtain ⟨m1, z1'⟩ := HI.out.2.1.c1
                obtain ⟨m2', z2'⟩ := HI.out.2.1.c2
                obtain ⟨r0, k0⟩ := hrb.c0
                obtain ⟨r1, k1⟩ := hrb.c1
                obtain ⟨r2, k2⟩ := hrb.c2
                have hp := hrb.put (lr : Int) (k : Int) (.slice av (entsTo L Pf Rn Cn i 0).length cv)
                have s0 := hp.c0.1
                have s1 := hp.c1.1
                have s2 := hp.c2.1
                have HBW := Hid.mk' hbw
                have HKS := Hid.mk' (put3_keep wr wb (.int .i64 (lr : Int)) (.int .i64 (k : Int)) (.slice av (entsTo L Pf Rn Cn i 0).length cv))
                have HIN : Hid (i = lr) := hin3
                clear hrb hbw hp hin3
                go_wp2_with fail
                refine bodyPost_ret (v := .tuple #[.agg #[.int .i64 (lr : Int), .int .i64 (k : Int), .slice av (entsTo L Pf Rn Cn i 0).length cv], .bool true]) ?_ rfl ?_
                · simp [results, Tryz.f19, go_sem, s0, s1, s2]
                · refine ⟨?_, true, _, rfl, fun _ => ⟨?_, fun r hr c hc => ?_⟩, fun e => by cases e⟩
                  · rw [HX.out.2.1]
                    exact ((HBW.out.setCell (p := ⟨wb, 0, none⟩) (Nat.le_refl _) _).setCell (p := ⟨wb, 1, none⟩) (Nat.le_refl _) _).setCell (p := ⟨wb, 2, none⟩) (Nat.le_refl _) _
                  · have he : entsTo L Pf Rn Cn i 0 = entsTo L Pf Rn Cn lr 0 := by rw [HIN.out]
                    rw [← he]
                    have h1 : SliceIn (fun b => zz ≤ b) wr (.slice av (entsTo L Pf Rn Cn i 0).length cv) _ := slice_of_owns HI.out.2.2 (fun b hb _ => hb)
                    have hw := HZZ.out.2
                    have hy := HZ.out.2.1
                    have hy2 := HX.out.2.2.1
                    exact (SliceIn.keep h1 (fun b hb hS => HKS.out.block b hb (by have hS : zz ≤ b := hS; omega) (by have hS : zz ≤ b := hS; omega))).mono (fun _ _ _ => trivial)
                  · obtain ⟨j, hj⟩ := List.mem_iff_getElem?.1 hc
                    exact ((HF.out.2.2.2 j c (by have := (List.getElem?_eq_some_iff.1 hj).1; rw [HNC.out.2] at this; exact this) hj).2 r hr).2
      · have hnr : nr = 0 := HZR.out hd0
        have HR : Hid (rowC yb wr (.slice none 0 0) (Rn.map fun (f : Nat) => (f : Int))) := by
          have : Rn = [] := List.eq_nil_of_length_eq_zero (by rw [HNC.out.1]; exact hnr)
          rw [this]; exact World.ownsRow_nil _ _ _ _
        subst hnr
        clear hd0 hin2
        go_upto_region 14 with fail
        obtain ⟨mb, hmb⟩ : ∃ mb, wr.heap.size = mb := ⟨_, rfl⟩
        have hBZ : Below wr.heap.size wr (wr.alloc (.cells #[.int .i64 (0), .int .i64 (nc : Int), .slice none 0 0] 51)) := (Below.refl _ wr).alloc (Nat.le_refl _) _
        have hmz := matBox_new wr (0) (nc : Int) (.slice none 0 0) 51
        have hin : ∀ {v l}, rowC yb wr v l → IntsIn (fun b => b < mb) (wr.alloc (.cells #[.int .i64 (0), .int .i64 (nc : Int), .slice none 0 0] 51)) v l := fun {v l} h => by
          have h1 : SliceIn (fun b => b < mb) wr v _ := slice_of_owns h (fun b _ e => by have := (World.ownsRow.lt h b e).2; omega)
          exact SliceIn.below h1 hBZ
        have hinR := hin HR.out
        have hinC := hin HT.out.two
        obtain ⟨Z, hZ⟩ : ∃ Z, wr.alloc (.cells #[.int .i64 (0), .int .i64 (nc : Int), .slice none 0 0] 51) = Z := ⟨_, rfl⟩
        have hZs : Z.heap.size = mb + 1 := by rw [← hZ, ← hmb]; simp
        rw [hZ] at hBZ hmz hinR hinC
        rw [hmb] at hmz
        try rw [hZ]
        try rw [hmb]
        have hymb : yb ≤ mb := by have := HB0.out.size; rw [HX.out.1, hmb] at this; exact this
        have HZ : Hid (Z.heap.size = mb + 1 ∧ yb ≤ mb ∧ MatBox mb Z (0) nc (.slice none 0 0) ∧ IntsIn (fun b => b < mb) Z (.slice none 0 0) (Rn.map fun (f : Nat) => (f : Int)) ∧ IntsIn (fun b => b < mb) Z (.slice ac nc cc) (Cn.map fun (f : Nat) => (f : Int)) ∧ Below yb X Z) := ⟨hZs, hymb, hmz, hinR, hinC, HB0.out.trans (hBZ.mono (by omega))⟩
        have HZW : Hid (∀ W, Below (mb + 1) Z W → Below wb w W ∧ Below yb X W) := fun W hB => by
          have h1 : Below yb X W := HZ.out.2.2.2.2.2.trans (hB.mono (by have := HZ.out.2.1; omega))
          exact ⟨HBY.out W h1, h1⟩
        have HWI : Hid (∀ W, Below wb w W → WalkIn wb L mt (.slice aL n cL) (.slice aW n cW) W) := fun W hB => by
          have hB' : Below w.heap.size w W := by rw [HX.out.2.1]; exact hB
          refine ⟨RowsIn.mono (RowsIn.keep (RowsIn.mono (S' := fun b => b < wb) (show RowsIn anyBlock w _ L from HH0.out.1) (fun b hb _ => by rw [HX.out.2.1] at hb; exact hb)) (fun b hb hS => hB.block b hS)) (fun _ _ h => h), ?_⟩
          rw [HNN.out]
          exact SliceIn.keep (SliceIn.mono (S' := fun b => b < wb) HH0.out.2 (fun b hb _ => by rw [HX.out.2.1] at hb; exact hb)) (fun b hb hS => hB.block b hS)
        have HMB : Hid (∀ W, Below (mb + 1) Z W → MatBox mb W (0) nc (.slice none 0 0) ∧ MatBox wb W 0 0 (.slice none 0 0)) := fun W hB => ⟨HZ.out.2.2.1.below (by rw [HZ.out.1]; exact hB), HX.out.2.2.2.2.1.below (by rw [HX.out.1]; exact (HZW.out W hB).2)⟩
        clear hBZ hmz hin hinR hinC hZ hmb hZs hymb
        have hmki := run_make_row' (P := Tryz.prog) 29 3 (.int .i64 0) 8 Tryz.underlying29 Tryz.info3 rfl .i64 .i64 n (by omega) (by omega)
        obtain ⟨i2, hi2, hx0, hx1, hx2⟩ := info_parts Tryz.info29
        go_wp2_with fail
        go_loopw [3, 15, 16] (fun mo v p W => ∃ k m : Nat, k ≤ nc ∧ p = .int .i64 (k : Int) ∧ mo = .int .i64 (m : Int) ∧ 0 < m ∧ m ≤ 20000 ∧ ∃ (Fs : List (List Int)) (aF : Option Addr) (cF : Nat), v = .slice aF k cF ∧ Hid (OwnRows (mb + 1) W (.slice aF k cF) Fs ∧ Fs.length = k ∧ Below (mb + 1) Z W ∧ ∀ j c, j < k → Cn[j]? = some c → (Fs[j]?.getD []).length = n ∧ ∀ r ∈ Rn, (Fs[j]?.getD [])[r]? = some (entL L Pf r c) ∧ (entL L Pf r c).natAbs ≤ 20000)) (fun _ _ p _ => nc - (intOf p).toNat)
        case atStart => exact ⟨0, 20000, by omega, rfl, rfl, by omega, by omega, [], none, 0, rfl, OwnRows.nil _ _, rfl, by have := Below.refl (mb + 1) Z; exact this, fun j c h => by omega⟩
        case round =>
          obtain ⟨k, m, hk, rfl, rfl, hm0, hm2, Fs, aF, cF, rfl, HF⟩ := hrel
          by_cases hkn : k < nc
          · obtain ⟨c, hc⟩ : ∃ c, Cn[k]? = some c := ⟨_, List.getElem?_eq_getElem (by rw [HNC.out.2]; exact hkn)⟩
            have hcm := HMEM.out.2 c (List.mem_iff_getElem?.2 ⟨k, hc⟩)
            obtain ⟨ac', cc', e, -, hcc⟩ := HZ.out.2.2.2.2.1.open_
            rw [List.length_map, HNC.out.2] at e hcc
            cases e
            obtain ⟨bc, oc, rfl, hbc, -, hcell⟩ := hcc (by omega)
            have yZ := hcell k hkn
            rw [show (Cn.map fun (f : Nat) => (f : Int))[k]?.getD 0 = (c : Int) from by rw [List.getElem?_map, hc]; rfl] at yZ
            have HCZ : Hid (∀ W, Below (mb + 1) Z W → W.cell? ⟨bc, oc + k, none⟩ = some (.int .i64 (c : Int))) := fun W hB => (hB.cell (p := ⟨bc, oc + k, none⟩) (Nat.lt_succ_of_lt hbc)).trans yZ
            have HCC : Hid (Cn[k]? = some c ∧ c < n ∧ mt c = -1) := ⟨hc, hcm.1, hcm.2⟩
            have z2 : (k : Int) < (nc : Int) := by omega
            have z3 : (c : Int) < (n : Int) := by have := hcm.1; omega
            clear hc hcm hcc hcell yZ hbc
            go_upto_region 19 with fail
            obtain ⟨gs, hgs⟩ : ∃ gs, wr.heap.size = gs := ⟨_, rfl⟩
            have hrow := World.rowIs_made wr (.int .i64 0) n 3
            have hBU : Below wr.heap.size wr (wr.alloc (.cells (madeCells #[.int .i64 0] n) 3)) := (Below.refl _ wr).alloc (Nat.le_refl _) _
            obtain ⟨U, hU⟩ : ∃ U, wr.alloc (.cells (madeCells #[.int .i64 0] n) 3) = U := ⟨_, rfl⟩
            rw [hU] at hrow hBU
            rw [hgs] at hrow hBU
            try rw [hU]
            try rw [hgs]
            have hmg : mb + 1 ≤ gs := by have := HF.out.2.2.1.size; rw [HZ.out.1, hgs] at this; exact this
            have HU1 : Hid (U.rowIs gs 3 n (fun _ => .int .i64 0) ∧ Below gs wr U ∧ wr.heap.size = gs ∧ mb + 1 ≤ gs) := ⟨hrow, hBU, hgs, hmg⟩
            have HUW : Hid (∀ W, KeepBut U W gs gs → Below gs wr W) := fun W hK => ⟨hK.os.trans hBU.os, hK.tape.trans hBU.tape, hK.output.trans hBU.output, Nat.le_trans hBU.size hK.size, fun b hb => (hK.block b (by have := hBU.size; omega) (by omega) (by omega)).trans (hBU.block b hb)⟩
            clear hrow hBU hU hgs hmg
            go_wp2_with fail
            go_loopw [3, 18] (fun mo p W => ∃ (x m : Nat) (f : Nat → Int), x ≤ n ∧ p = .int .i64 (x : Int) ∧ mo = .int .i64 (m : Int) ∧ 0 < m ∧ m ≤ 20000 ∧ Hid (W.rowIs gs 3 n (fun j => .int .i64 (f j)) ∧ KeepBut U W gs gs ∧ ∀ g, g < n → mt g = -1 → (f g = wsum (fun y => undL L y c) (sgL L c) (fun a => netP (Pf g a)) (-1) x ∧ (f g).natAbs + m ≤ 20000))) (fun _ p _ => n - (intOf p).toNat)
            case atStart => exact ⟨0, m, fun _ => 0, by omega, rfl, rfl, hm0, hm2, HU1.out.1, KeepBut.refl _ _ _, fun g _ _ => ⟨rfl, by simp; exact hm2⟩⟩
            case round =>
              obtain ⟨x, m, f, hxn, rfl, rfl, hm0, hm2, HJ⟩ := hrel
              have hBw := HUW.out wr HJ.out.2.1
              by_cases hxl : x < n
              · have hBZ2 : Below (mb + 1) Z wr := HF.out.2.2.1.trans (hBw.mono HU1.out.2.2.2)
                have y0 := HCZ.out wr hBZ2
                have hun := HUN.out x c wr (HZW.out wr hBZ2).1 hxl HCC.out.2.1
                have z4 : (x : Int) < (n : Int) := by omega
                have HBZ2 := Hid.mk' hBZ2
                clear hBZ2 hBw
                cases hu : undL L x c with
                | false =>
                  rw [hu] at hun
                  have HWS : Hid (∀ g, wsum (fun y => undL L y c) (sgL L c) (fun a => netP (Pf g a)) (-1) (x + 1) = wsum (fun y => undL L y c) (sgL L c) (fun a => netP (Pf g a)) (-1) x) := fun g => by
                    show _ + _ = _
                    rw [if_neg (fun h => by have h2 : undL L x c = true := h.2; rw [hu] at h2; cases h2)]; omega
                  clear hu
                  go_wp2_with (first
                    | (go_at_call 36; refine hun.mono ?_; clear hun; rintro e V2 ⟨rfl, hV⟩; have HV := Hid.mk' hV; clear hV)
                    | fail)
                  go_roundw
                  case rel => exact ⟨x + 1, m, f, by omega, by go_num, rfl, hm0, hm2, HJ.out.1.of_block (HV.out.block gs HJ.out.1.lt), HJ.out.2.1.below HV.out, fun g hg hc => by rw [HWS.out]; exact HJ.out.2.2 g hg hc⟩
                  case measure => simp [intOf]; omega
                | true =>
                  rw [hu] at hun
                  go_upto_region 23 with (first
                    | (go_at_call 36; refine hun.mono ?_; clear hun; rintro e V2 ⟨rfl, hV⟩; have HV := Hid.mk' hV; clear hV)
                    | fail)
                  have hsx := und_sign HH.out.2.2.1 (by rw [HNN.out]; exact HCC.out.2.1) hu
                  obtain ⟨sx, hsx2⟩ : ∃ sx, sgL L c x = sx := ⟨_, rfl⟩
                  rw [hsx2] at hsx
                  have HSX : Hid (sgL L c x = sx ∧ signI (faceAt L c) (faceAt L x) = sx ∧ (sx = 1 ∨ sx = -1)) := ⟨hsx2, hsx.1.symm, hsx.2⟩
                  have HWS : Hid (∀ g, wsum (fun y => undL L y c) (sgL L c) (fun a => netP (Pf g a)) (-1) (x + 1) = wsum (fun y => undL L y c) (sgL L c) (fun a => netP (Pf g a)) (-1) x + sx * netP (Pf g x)) := fun g => by
                    show _ + _ = _
                    rw [if_pos ⟨by omega, hu⟩, HSX.out.1]
                  have HK2 : Hid (KeepBut U V2 gs gs ∧ Below (mb + 1) Z V2 ∧ V2.rowIs gs 3 n (fun j => .int .i64 (f j))) := by
                    have h1 := HJ.out.2.1.below HV.out
                    exact ⟨h1, HF.out.2.2.1.trans ((HUW.out V2 h1).mono HU1.out.2.2.2), HJ.out.1.of_block (HV.out.block gs HJ.out.1.lt)⟩
                  have hWI := HWI.out V2 (HZW.out V2 HK2.out.2.1).1
                  obtain ⟨aL', cL', e1, -, hrows⟩ := hWI.rows.open_
                  rw [HNN.out] at e1
                  cases e1
                  obtain ⟨bL', oL', e2, -, hbL', hrw⟩ := hrows (by rw [HNN.out]; omega)
                  subst e2
                  obtain ⟨a1, p1, g1, i1⟩ := hrw c (by rw [HNN.out]; exact HCC.out.2.1)
                  obtain ⟨a3, p3, g3, i3⟩ := hrw x (by rw [HNN.out]; exact hxl)
                  have y1 := HCZ.out V2 HK2.out.2.1
                  have hso : ∀ q, Calls Tryz.prog 44 #[.slice a1 (L[c]?.getD []).length p1, .slice a3 (L[x]?.getD []).length p3] (V2.drewN q) fun e w' => e = .returned (.int .i64 sx) ∧ ∃ q', w' = (V2.drewN q).drewN q' := fun q => (sign_of _ _ (faceAt L c) (faceAt L x) (V2.drewN q) (show Ints V2 _ _ from i1.any) (show Ints V2 _ _ from i3.any) (HH.out.2.2.2.2.2.1 _ (faceAt_mem (by rw [HNN.out]; exact HCC.out.2.1))) (HH.out.2.2.2.2.2.1 _ (faceAt_mem (by rw [HNN.out]; exact hxl)))).mono fun e w' h => ⟨by rw [h.1, HSX.out.2.1], h.2⟩
                  have hwk : ∀ q, Calls Tryz.prog 43 #[.slice (some ⟨bL', oL', none⟩) n cL, .slice aW n cW, .int .i64 (x : Int), .int .i64 sx, .slice (some ⟨gs, 0, none⟩) n n, .int .i64 (m : Int)] (V2.drewN q) fun e w' => WalkSays L mt (fun g a => netP (Pf g a)) gs m x sx f (V2.drewN q) e w' := fun q => by
                    have h9 := walks_ (B := wb) (gs := gs) (vL := .slice (some ⟨bL', oL', none⟩) n cL) (vW := .slice aW n cW) HH.out.2.2.1 (by rw [HNN.out]; exact hL6) HH.out.2.2.2.2.2.1 HH.out.2.2.2.1 HH.out.2.2.2.2.1 (by have := HU1.out.2.2.2; have := HZ.out.2.1; have := HX.out.2.2.1; omega) m x sx f (V2.drewN q) hm2 (by rw [HNN.out]; exact hxl) HSX.out.2.2 (fun g hg hc => (HJ.out.2.2 g (by rw [← HNN.out]; exact hg) hc).2) (by
                      have h8 := HWI.out (V2.drewN q) (by have h7 := (HZW.out V2 HK2.out.2.1).1; exact ⟨h7.os, h7.tape, h7.output, h7.size, h7.block⟩)
                      exact h8) (by rw [HNN.out]; exact HK2.out.2.2.of_block rfl)
                    rw [HNN.out] at h9
                    exact h9
                  obtain ⟨n1, hn1⟩ : ∃ n1, (L[c]?.getD []).length = n1 := ⟨_, rfl⟩
                  obtain ⟨n3, hn3⟩ : ∃ n3, (L[x]?.getD []).length = n3 := ⟨_, rfl⟩
                  rw [hn1] at g1 hso
                  rw [hn3] at g3 hso
                  clear hrows hrw i1 i3 hWI hn1 hn3 hbL' hu hsx hsx2 y0
                  go_region_with (first
                    | (go_at_call 44; refine (hso _).mono ?_; rintro e V3 ⟨rfl, q, rfl⟩)
                    | (go_at_call 43; refine (hwk _).mono ?_; rintro e V4 hW4; have H4 := Hid.mk' hW4; obtain ⟨l2, f2, rfl, -⟩ := hW4))
                  all_goals
                    obtain ⟨l2', f2', e, p1, p2, p3, p4, p5, p6⟩ := H4.out
                    obtain rfl : l2 = l2' := by have := Value.int.inj (Ending.returned.inj e); omega
                    have HP : Hid (V4.rowIs gs 3 n (fun j => .int .i64 (f2' j)) ∧ KeepBut U V4 gs gs ∧ (∀ g, g < n → mt g = -1 → (f2' g - f g).natAbs + l2 ≤ m) ∧ (0 < l2 → ∀ g, g < n → mt g = -1 → f2' g = f g + sx * netP (Pf g x))) := by
                      rw [HNN.out] at p3
                      exact ⟨p3, HK2.out.1.trans ⟨p4.os, p4.tape, p4.output, p4.size, p4.block⟩, fun g hg hc => p5 g (by rw [HNN.out]; exact hg) hc, fun h g hg hc => p6 h g (by rw [HNN.out]; exact hg) hc⟩
                    have hl2 : l2 ≤ 20000 := by omega
                    clear p1 p2 p3 p4 p5 p6 e g1 g3 hso hwk
                    rcases Nat.eq_zero_or_pos l2 with h0 | h0
                    · subst h0
                      have hBZ4 : Below (mb + 1) Z V4 := HF.out.2.2.1.trans ((HUW.out V4 HP.out.2.1).mono HU1.out.2.2.2)
                      obtain ⟨hm4, hr4⟩ := HMB.out V4 hBZ4
                      obtain ⟨m0, z0⟩ := hm4.c0
                      obtain ⟨m1, z1⟩ := hm4.c1
                      obtain ⟨m2, z2'⟩ := hm4.c2
                      obtain ⟨r0, k0⟩ := hr4.c0
                      obtain ⟨r1, k1⟩ := hr4.c1
                      obtain ⟨r2, k2⟩ := hr4.c2
                      have hp := hr4.put (0) (nc : Int) (.slice none 0 0)
                      have s0 := hp.c0.1
                      have s1 := hp.c1.1
                      have s2 := hp.c2.1
                      have HB4 := Hid.mk' (HZW.out V4 hBZ4).1
                      clear hm4 hr4 hp hBZ4
                      go_wp2_with fail
                      refine bodyPost_ret (v := .tuple #[.agg #[.int .i64 (0), .int .i64 (nc : Int), .slice none 0 0], .bool false]) ?_ rfl ?_
                      · simp [results, Tryz.f19, go_sem, s0, s1, s2]
                      · refine ⟨?_, false, _, rfl, (fun e => by cases e), fun _ => rfl⟩
                        rw [HX.out.2.1]
                        exact ((HB4.out.setCell (p := ⟨wb, 0, none⟩) (Nat.le_refl _) _).setCell (p := ⟨wb, 1, none⟩) (Nat.le_refl _) _).setCell (p := ⟨wb, 2, none⟩) (Nat.le_refl _) _
                    · have hb0 : ((l2 : Int) == 0) = false := beq_false_of_ne (by omega)
                      go_wp2_with fail
                      go_roundw
                      case rel =>
                        refine ⟨x + 1, l2, f2', by omega, by go_num, rfl, h0, hl2, HP.out.1, HP.out.2.1, fun g hg hc => ⟨?_, ?_⟩⟩
                        · rw [HP.out.2.2.2 h0 g hg hc, HWS.out, (HJ.out.2.2 g hg hc).1]
                        · have h1 := (HJ.out.2.2 g hg hc).2
                          have h2 := HP.out.2.2.1 g hg hc
                          omega
                      case measure => simp [intOf]; omega
              · have hxe : x = n := by omega
                have HBW : Hid (Below gs _ wr) := HUW.out wr HJ.out.2.1
                obtain ⟨vs, o1, o2⟩ := HF.out.1.below (by rw [HU1.out.2.2.1]; exact HBW.out)
                have HO := Hid.mk' (And.intro o1 o2)
                have HEF : Hid (∀ r ∈ Rn, f r = entL L Pf r c ∧ (entL L Pf r c).natAbs ≤ 20000) := fun r hr => by
                  have h1 := HMEM.out.1 r hr
                  have h2 := HJ.out.2.2 r h1.1 h1.2
                  have h3 : f r = entL L Pf r c := by rw [h2.1, HH.out.2.2.2.2.2.2, HNN.out, hxe]
                  exact ⟨h3, by rw [← h3]; have := h2.2; omega⟩
                have own : wr.ownsRow (mb + 1) 29 1 (.slice aF k cF) k vs := by rw [HF.out.2.1] at o1; exact o1
                have hsz := HBW.out.size
                have hmg := HU1.out.2.2.2
                have hg0 : gs < wr.heap.size := HJ.out.1.lt
                clear o1 o2
                go_upto_region 17 with (first
                  | (at_builtin; refine wpList_append_slice rfl (.tmp 115) (.tmp 117) 22 rfl (mb + 1) 29 i2 (.slice none 0 0) 24 Tryz.underlying22 hi2 hx0 hx1 hx2 rfl _ _ _ rfl (own.alloc _) _ [.slice (some ⟨gs, 0, none⟩) n n] rfl (slice_one _ _ _) (by simp [Value.oneCell']) (by simp; omega) (by unfold maxLen; simp; omega) (by simp; omega) ?_; intro v6 w6 hown6 hg6 hl6; replace hown6 : w6.ownsRow (mb + 1) 29 1 v6 (k + 1) (vs ++ [.slice (some ⟨gs, 0, none⟩) n n]) := hown6; obtain ⟨a6, c6, rfl⟩ := own_form hown6)
                  | fail)
                have HE6 : Hid (OwnRows (mb + 1) w6 (.slice a6 (k + 1) c6) (Fs ++ [(List.range n).map f]) ∧ Below (mb + 1) Z w6) := by
                  have hvb : ∀ b, Value.ownBlock (.slice aF k cF) = some b → mb + 1 ≤ b ∧ b < gs := fun b e => by have := HF.out.1.block e; rw [HU1.out.2.2.1] at this; exact this
                  refine ⟨OwnRows.push HO.out.1 HO.out.2 (rowIs_ints HJ.out.1 ⟨hmg, fun e => by have := (hvb gs e.symm).2; omega⟩) (by rw [HF.out.2.1]; exact hown6) hg6 hl6, ?_⟩
                  have h1 : Below (mb + 1) Z wr := HF.out.2.2.1.trans (HBW.out.mono hmg)
                  exact (h1.alloc (by omega) _).grown hg6 (by simp; omega) (fun b hb => (hvb b hb).1)
                clear hown6 hg6 hl6 own hsz hg0
                go_wp2_with fail
                go_roundw
                case rel =>
                  refine ⟨k + 1, m, by omega, by go_num, rfl, hm0, hm2, Fs ++ [(List.range n).map f], a6, c6, rfl, HE6.out.1, by rw [List.length_append, HF.out.2.1]; rfl, HE6.out.2, fun j c' hj hc' => ?_⟩
                  rw [List.getElem?_append, HF.out.2.1]
                  by_cases hjk : j < k
                  · rw [if_pos hjk]; exact HF.out.2.2.2 j c' hjk hc'
                  · obtain rfl : j = k := by omega
                    rw [if_neg hjk, Nat.sub_self, List.getElem?_cons_zero, Option.getD_some]
                    rw [HCC.out.1] at hc'
                    cases hc'
                    refine ⟨by simp, fun r hr => ⟨?_, (HEF.out r hr).2⟩⟩
                    rw [List.getElem?_map, List.getElem?_range (HMEM.out.1 r hr).1, ← (HEF.out r hr).1]; rfl
                case measure => simp [intOf]; omega
          · have hkn2 : k = nc := by omega
            have hFl : Fs.length = nc := by rw [← hkn2]; exact HF.out.2.1
            obtain ⟨zz, hzz⟩ : ∃ zz, wr.heap.size = zz := ⟨_, rfl⟩
            have hmz : mb + 1 ≤ zz := by have := HF.out.2.2.1.size; rw [HZ.out.1, hzz] at this; exact this
            have hRI : RowsIn (fun b => mb + 1 ≤ b) wr (.slice aF k cF) Fs := by
              obtain ⟨vs, o1, o2⟩ := HF.out.1
              exact ⟨vs, slice_of_owns o1 (fun b hb _ => hb), by have := o1.1; simpa using this, fun q u x hu hx => (o2 q u x hu hx).mono (fun b _ hb => hb.1)⟩
            have HRI := Hid.mk' hRI
            have HWW : Hid (∀ W, KeepBut wr W mb mb → Rows W (.slice aF k cF) Fs ∧ IntsIn (fun b => b < mb) W (.slice none 0 0) (Rn.map fun (f : Nat) => (f : Int)) ∧ MatBox wb W 0 0 (.slice none 0 0) ∧ Below wb w W) := fun W hK => by
              have hB1 := HF.out.2.2.1
              have hB2 := HZW.out wr hB1
              have hym := HZ.out.2.1
              have hwy := HX.out.2.2.1
              have hk : ∀ b, b < mb → W.heap[b]? = wr.heap[b]? := fun b hb => hK.block b (by omega) (by omega) (by omega)
              refine ⟨(RowsIn.keep HRI.out (fun b hb hS => hK.block b hb (by have hS : mb + 1 ≤ b := hS; omega) (by have hS : mb + 1 ≤ b := hS; omega))).any, ?_, ?_, ?_⟩
              · exact SliceIn.keep (SliceIn.keep HZ.out.2.2.2.1 (fun b _ hS => hB1.block b (by have hS : b < mb := hS; omega))) (fun b _ hS => hk b hS)
              · have hm := (HMB.out wr hB1).2
                have e := hk wb (by omega)
                exact ⟨⟨(World.cell?_of_block (a := ⟨wb, 0, none⟩) e).trans hm.c0.1, (World.frozen?_of_block (a := ⟨wb, 0, none⟩) e).trans hm.c0.2⟩, ⟨(World.cell?_of_block (a := ⟨wb, 1, none⟩) e).trans hm.c1.1, (World.frozen?_of_block (a := ⟨wb, 1, none⟩) e).trans hm.c1.2⟩, ⟨(World.cell?_of_block (a := ⟨wb, 2, none⟩) e).trans hm.c2.1, (World.frozen?_of_block (a := ⟨wb, 2, none⟩) e).trans hm.c2.2⟩⟩
              · have h1 := hB2.1
                exact ⟨hK.os.trans h1.os, hK.tape.trans h1.tape, hK.output.trans h1.output, Nat.le_trans h1.size hK.size, fun b hb => (hk b (by omega)).trans (h1.block b hb)⟩
            have HMZ : Hid (MatBox mb wr (0) nc (.slice none 0 0)) := (HMB.out wr HF.out.2.2.1).1
            have HZZ : Hid (wr.heap.size = zz ∧ mb + 1 ≤ zz) := ⟨hzz, hmz⟩
            have HFL : Hid (Fs.length = k) := by rw [hkn2]; exact hFl
            clear hRI hzz hmz hFl
            obtain ⟨ZZ, hZZ⟩ : ∃ ZZ, ZZ = wr := ⟨_, rfl⟩
            subst hZZ
            subst hkn2
            go_wp2_with fail
            go_loopw [19] (fun p W => ∃ i : Nat, i ≤ 0 ∧ p = .int .i64 (i : Int) ∧ ∃ v, Hid (KeepBut ZZ W mb mb ∧ MatBox mb W (0) k v ∧ rowC zz W v (entsTo L Pf Rn Cn i 0))) (fun p _ => 0 - (intOf p).toNat)
            case atStart => exact ⟨0, by omega, rfl, .slice none 0 0, KeepBut.refl _ _ _, HMZ.out, by rw [ents_zero]; exact World.ownsRow_nil _ _ _ _⟩
            case round =>
              obtain ⟨i, hi, rfl, v, HI⟩ := hrel
              obtain ⟨av, cv, rfl⟩ := own_slice HI.out.2.2
              by_cases hir : i < 0
              · omega
              · have hin3 : i = 0 := by omega
                obtain ⟨-, -, hrb, hbw⟩ := HWW.out wr HI.out.1
                obtain ⟨m0, z0⟩ := HI.out.2.1.c0
                obtain ⟨m1, z1'⟩ := HI.out.2.1.c1
                obtain ⟨m2', z2'⟩ := HI.out.2.1.c2
                obtain ⟨r0, k0⟩ := hrb.c0
                obtain ⟨r1, k1⟩ := hrb.c1
                obtain ⟨r2, k2⟩ := hrb.c2
                have hp := hrb.put (0) (k : Int) (.slice av (entsTo L Pf Rn Cn i 0).length cv)
                have s0 := hp.c0.1
                have s1 := hp.c1.1
                have s2 := hp.c2.1
                have HBW := Hid.mk' hbw
                have HKS := Hid.mk' (put3_keep wr wb (.int .i64 (0)) (.int .i64 (k : Int)) (.slice av (entsTo L Pf Rn Cn i 0).length cv))
                have HIN : Hid (i = 0) := hin3
                clear hrb hbw hp hin3
                go_wp2_with fail
                refine bodyPost_ret (v := .tuple #[.agg #[.int .i64 (0), .int .i64 (k : Int), .slice av (entsTo L Pf Rn Cn i 0).length cv], .bool true]) ?_ rfl ?_
                · simp [results, Tryz.f19, go_sem, s0, s1, s2]
                · refine ⟨?_, true, _, rfl, fun _ => ⟨?_, fun r hr c hc => ?_⟩, fun e => by cases e⟩
                  · rw [HX.out.2.1]
                    exact ((HBW.out.setCell (p := ⟨wb, 0, none⟩) (Nat.le_refl _) _).setCell (p := ⟨wb, 1, none⟩) (Nat.le_refl _) _).setCell (p := ⟨wb, 2, none⟩) (Nat.le_refl _) _
                  · have he : entsTo L Pf Rn Cn i 0 = entsTo L Pf Rn Cn 0 0 := by rw [HIN.out]
                    rw [← he]
                    have h1 : SliceIn (fun b => zz ≤ b) wr (.slice av (entsTo L Pf Rn Cn i 0).length cv) _ := slice_of_owns HI.out.2.2 (fun b hb _ => hb)
                    have hw := HZZ.out.2
                    have hy := HZ.out.2.1
                    have hy2 := HX.out.2.2.1
                    exact (SliceIn.keep h1 (fun b hb hS => HKS.out.block b hb (by have hS : zz ≤ b := hS; omega) (by have hS : zz ≤ b := hS; omega))).mono (fun _ _ _ => trivial)
                  · obtain ⟨j, hj⟩ := List.mem_iff_getElem?.1 hc
                    exact ((HF.out.2.2.2 j c (by have := (List.getElem?_eq_some_iff.1 hj).1; rw [HNC.out.2] at this; exact this) hj).2 r hr).2

end Go.Proofs.YtnnkmkhamipfiaaGreatDoor
