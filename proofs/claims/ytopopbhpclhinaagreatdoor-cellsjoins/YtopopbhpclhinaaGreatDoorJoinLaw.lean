/- CellsJoins answers true of whatever two lists of sets. -/
import Derived.Test.YtopopbhpclhinaaGreatDoorJoinLaw0
import Derived.Test.YtopopbhpclhinaaGreatDoorCircleWalk
namespace Go.Proofs.YtopopbhpclhinaaGreatDoor
open Go.RowKit Go.Sort Go.Maps Go.Deep

set_option maxRecDepth 100000 in
set_option maxHeartbeats 32000000 in
theorem joins_law (CL : ClosedHolds) {a : Nat → Addr} {s : Nat → ByteArray} (va vb : Value) (A B : List (List Int)) (w : World) (hE : Errs a s w) (ha : Rows w va A) (hb : Rows w vb B) :
    Calls Tryz.prog 3 #[va, vb] w fun e w' => e = .returned (.bool true) ∧ Below w.heap.size w w' := by
  obtain ⟨i0, hi, hz0, hz1, hz2⟩ := info_parts Tryz.info39
  have hci := circle_ w hE
  have HRA : Hid (Rows w va A) := ha
  have HRB : Hid (Rows w vb B) := hb
  clear ha hb
  go_enter Tryz.func3, Tryz.ntmps3
  go_wp2_with fail
  refine hci.mono ?_
  clear hci
  rintro e w1 ⟨rfl, hB1⟩
  have hla := little_few CL va A 40 w1 (HRA.out.below hB1)
  go_wp2_with fail
  refine hla.mono ?_
  clear hla
  rintro e w2 ⟨qa, rfl, hB2, hqa⟩
  have HB2 : Hid (Below w.heap.size w w2) := hB1.trans (hB2.mono hB1.size)
  clear hB1 hB2
  have hlb := little_few CL vb B 40 w2 (HRB.out.below HB2.out)
  go_wp2_with fail
  refine hlb.mono ?_
  clear hlb
  rintro e w3 ⟨qb, rfl, hB3, hqb⟩
  have HB3 : Hid (Below w.heap.size w w3) := HB2.out.trans (hB3.mono HB2.out.size)
  clear hB3 HB2
  cases qa with
  | false =>
    clear hqa hqb
    go_wp2
    go_ret
    exact ⟨rfl, HB3.out⟩
  | true =>
    cases qb with
    | false =>
      clear hqa hqb
      go_wp2
      go_ret
      exact ⟨rfl, HB3.out⟩
    | true =>
      have HQA : Hid (∀ all, Good A all → all.length ≤ 40) := (hqa rfl).2.2
      have HQB : Hid (∀ all, Good B all → all.length ≤ 40) := (hqb rfl).2.2
      have hA1 : A.length ≤ 100000 := by have := (hqa rfl).1; omega
      have hB1 : B.length ≤ 100000 := by have := (hqb rfl).1; omega
      have hA2 : ∀ x ∈ A, x.length ≤ 1000 := fun x hx => by have := (hqa rfl).2.1 x hx; omega
      have hB2 : ∀ x ∈ B, x.length ≤ 1000 := fun x hx => by have := (hqb rfl).2.1 x hx; omega
      clear hqa hqb
      have her := error_k2 CL a va A w3 (HRA.out.below HB3.out) hA1 hA2
      go_wp2_with fail
      refine her.mono ?_
      clear her
      rintro e w4 ⟨hB4, veA, nA, allA, -, rfl, ⟨hn0, hn1, -, i, hbad, hve, hni⟩ | ⟨rfl, hg⟩⟩
      · have HB4 : Hid (Below w.heap.size w w4) := HB3.out.trans (hB4.mono HB3.out.size)
        obtain ⟨p, hp0⟩ : ∃ p : List (List Int), p = [] := ⟨_, rfl⟩
        obtain ⟨q, hq0⟩ : ∃ q : List (List Int), q = [] := ⟨_, rfl⟩
        have HGS : Hid (GState a A B p q veA nA) := .inl ⟨i, .inl hbad, hve, hni⟩
        have HGC : Hid (GState a A [[0]] p [[0]] veA nA) := .inl ⟨i, .inl hbad, hve, hni⟩
        have HGT : Hid (GState a A [[0], [1]] p [[0], [1]] veA nA) := .inl ⟨i, .inl hbad, hve, hni⟩
        have HGP : Hid (Good [] p) := by rw [hp0]; exact good_nil
        have HGQ : Hid (Good [] q) := by rw [hq0]; exact good_nil
        have HPR : Hid (Rows w4 (.slice none 0 0) p) := by rw [hp0]; exact rows_nil w4
        have HQR : Hid (Rows w4 (.slice none 0 0) q) := by rw [hq0]; exact rows_nil w4
        have hpl : p.length ≤ 40 := by rw [hp0]; simp
        have hql : q.length ≤ 40 := by rw [hq0]; simp
        have HPL : Hid (p.length = 0) := by show p.length = 0; rw [hp0]; rfl
        have HQL : Hid (q.length = 0) := by show q.length = 0; rw [hq0]; rfl
        clear hbad hve hni hp0 hq0 hB4 HB3 HQA HQB
        have hE0 := hE.below HB4.out
        have HA0 : Hid (Rows w4 va A) := HRA.out.below HB4.out
        have HBB : Hid (Rows w4 vb B) := HRB.out.below HB4.out
        clear hE HRA HRB
        obtain ⟨veJ, nJ, hJ⟩ := end_ex a (veA) HGS.out.nonneg (joinS p q)
        obtain ⟨veU, nU, hU⟩ := end_ex a (veA) HGS.out.nonneg (p ++ q)
        obtain ⟨veM, nM, hM⟩ := end_ex a (veA) HGS.out.nonneg (bothI p q)
        obtain ⟨veC, nC, hC⟩ := end_ex a (veA) HGC.out.nonneg (joinS p [[0]])
        obtain ⟨veT, nT, hT⟩ := end_ex a (veA) HGT.out.nonneg (joinS p [[0], [1]])
        have HJ : Hid (EndS a (veA) (nA) (joinS p q) veJ nJ) := hJ
        have HU : Hid (EndS a (veA) (nA) (p ++ q) veU nU) := hU
        have HM : Hid (EndS a (veA) (nA) (bothI p q) veM nM) := hM
        have HCC : Hid (EndS a (veA) (nA) (joinS p [[0]]) veC nC) := hC
        have HTT : Hid (EndS a (veA) (nA) (joinS p [[0], [1]]) veT nT) := hT
        clear hJ hU hM hC hT
        have HCw4 : Hid (Below w4.heap.size w4 w4) := Below.refl _ _
        have hcx := cx_ va A _ (HA0.out.below HCw4.out) hA1 hA2
        go_wp2_with fail
        refine hcx.mono ?_
        clear hcx
        rintro e w101 ⟨vw101, rfl, hrX, hBX⟩
        have HRw101 : Hid (Rows w101 vw101 A) := hrX
        have HCw101 : Hid (Below w4.heap.size w4 w101) := HCw4.out.trans (hBX.mono HCw4.out.size)
        clear HCw4
        clear hrX hBX
        have hcx := cx_ vb B _ (HBB.out.below HCw101.out) hB1 hB2
        go_wp2_with fail
        refine hcx.mono ?_
        clear hcx
        rintro e w102 ⟨vw102, rfl, hrX, hBX⟩
        have HRw102 : Hid (Rows w102 vw102 B) := hrX
        have HRw101b : Hid (Rows w102 vw101 A) := HRw101.out.below hBX
        have HCw102 : Hid (Below w4.heap.size w4 w102) := HCw101.out.trans (hBX.mono HCw101.out.size)
        clear HCw101
        clear hrX hBX
        have hst := (join_call vw101 vw102 A B _ (hE0.below HCw102.out) HRw101b.out HRw102.out hA1 hA2 hB1 hB2).mono (fun e w' h => two_k HGS.out (sets := joinS) HJ.out (h))
        go_wp2_with fail
        refine hst.mono ?_
        clear hst
        rintro e w103 ⟨vw103, Lw103, rfl, hoX, hBX, hzX, heX⟩
        obtain ⟨aw103, cw103, rfl, -, -⟩ := hoX.rows.open_
        have HOw103 : Hid (OwnRows w102.heap.size w103 (.slice aw103 Lw103.length cw103) Lw103) := hoX
        have HZw103 : Hid (IsZero nJ → IsFacets (joinS p q) Lw103) := hzX
        have HVw103 : Hid (¬ IsZero nJ → Value.slice aw103 Lw103.length cw103 = .slice none 0 0) := heX
        have HCw103 : Hid (Below w4.heap.size w4 w103) := HCw102.out.trans (hBX.mono HCw102.out.size)
        clear HCw102
        clear hoX hBX hzX heX
        have hBa : Below w103.heap.size w103 (w103.alloc (.cells #[.slice aw103 Lw103.length cw103] 29)) := (Below.refl _ w103).alloc (Nat.le_refl _) _
        have HXn : Hid (BoxAt w103.heap.size (w103.alloc (.cells #[.slice aw103 Lw103.length cw103] 29)) (.slice aw103 Lw103.length cw103)) := box_new w103 (.slice aw103 Lw103.length cw103) 29
        have HCn : Hid (Below w4.heap.size w4 (w103.alloc (.cells #[.slice aw103 Lw103.length cw103] 29))) := HCw103.out.trans (hBa.mono HCw103.out.size)
        have HRn : Hid (Rows (w103.alloc (.cells #[.slice aw103 Lw103.length cw103] 29)) (.slice aw103 Lw103.length cw103) Lw103) := HOw103.out.rows.below hBa
        have hBXB : w4.heap.size ≤ w103.heap.size := HCw103.out.size
        clear hBa HCw103 HOw103
        have hst := join_of (.slice none 0 0) (.slice none 0 0) p q HGP.out HGQ.out _ (HPR.out.below HCn.out) (HQR.out.below HCn.out) hpl hql
        go_wp2_with fail
        refine hst.mono ?_
        clear hst
        rintro e w104 ⟨vw104, rfl, hrX, hBX⟩
        have HRrw104 : Hid (Rows w104 (.slice aw103 Lw103.length cw103) Lw103) := HRn.out.below hBX
        clear HRn
        have HCw104 : Hid (Below w4.heap.size w4 w104) := HCn.out.trans (hBX.mono HCn.out.size)
        have HXw104 : Hid (BoxAt w103.heap.size w104 (.slice aw103 Lw103.length cw103)) := HXn.out.below hBX
        clear HCn HXn
        have HSw104 : Hid (Rows w104 vw104 (joinS p q)) := hrX
        clear hrX hBX
        have hst := made_v CL HJ.out (vw104) _ HSw104.out (join_rising HGP.out HGQ.out) (by have := join_length hpl hql; omega) (fun x hx => by have := join_short HGP.out HGQ.out x hx; omega)
        go_wp2_with fail
        refine hst.mono ?_
        clear hst
        rintro e w105 ⟨vw105, rfl, hBX, hLX⟩
        have HRrw105 : Hid (Rows w105 (.slice aw103 Lw103.length cw103) Lw103) := HRrw104.out.below hBX
        clear HRrw104
        have HCw105 : Hid (Below w4.heap.size w4 w105) := HCw104.out.trans (hBX.mono HCw104.out.size)
        have HXw105 : Hid (BoxAt w103.heap.size w105 (.slice aw103 Lw103.length cw103)) := HXw104.out.below hBX
        clear HCw104 HXw104
        have HLw105 : Hid (IsZero nJ → ∃ L, Rows w105 vw105 L ∧ IsFacets (joinS p q) L ∧ L.length ≤ 1000000 ∧ ∀ x ∈ L, x.length ≤ 1000000) := hLX
        clear hBX hLX
        have hcb := HXw105.out.1
        have his := is_k (HJ.out.state HGS.out.state) (vc := .slice aw103 Lw103.length cw103) w105 HVw103.out HRrw105.out HZw103.out HLw105.out (hE0.below HCw105.out)
        go_wp2_with fail
        refine his.mono ?_
        clear his hcb
        clear HRrw105 HVw103 HZw103 HLw105
        rintro e w106 ⟨rfl, hBX⟩
        have HCw106 : Hid (Below w4.heap.size w4 w106) := HCw105.out.trans (hBX.mono HCw105.out.size)
        have HXw106 : Hid (BoxAt w103.heap.size w106 (.slice aw103 Lw103.length cw103)) := HXw105.out.below hBX
        clear HCw105 HXw105
        clear hBX
        have hcx := cx_ va A _ (HA0.out.below HCw106.out) hA1 hA2
        go_wp2_with fail
        refine hcx.mono ?_
        clear hcx
        rintro e w107 ⟨vw107, rfl, hrX, hBX⟩
        have HRw107 : Hid (Rows w107 vw107 A) := hrX
        have HCw107 : Hid (Below w4.heap.size w4 w107) := HCw106.out.trans (hBX.mono HCw106.out.size)
        have HXw107 : Hid (BoxAt w103.heap.size w107 (.slice aw103 Lw103.length cw103)) := HXw106.out.below hBX
        clear HCw106 HXw106
        clear hrX hBX
        have hcx := cx_ vb B _ (HBB.out.below HCw107.out) hB1 hB2
        go_wp2_with fail
        refine hcx.mono ?_
        clear hcx
        rintro e w108 ⟨vw108, rfl, hrX, hBX⟩
        have HRw108 : Hid (Rows w108 vw108 B) := hrX
        have HRw107b : Hid (Rows w108 vw107 A) := HRw107.out.below hBX
        have HCw108 : Hid (Below w4.heap.size w4 w108) := HCw107.out.trans (hBX.mono HCw107.out.size)
        have HXw108 : Hid (BoxAt w103.heap.size w108 (.slice aw103 Lw103.length cw103)) := HXw107.out.below hBX
        clear HCw107 HXw107
        clear hrX hBX
        have hst := (union_call vw107 vw108 A B _ (hE0.below HCw108.out) HRw107b.out HRw108.out hA1 hA2 hB1 hB2).mono (fun e w' h => two_k HGS.out (sets := (fun p q => p ++ q)) HU.out (h))
        go_wp2_with fail
        refine hst.mono ?_
        clear hst
        rintro e w109 ⟨vw109, Lw109, rfl, hoX, hBX, hzX, heX⟩
        obtain ⟨aw109, cw109, rfl, -, -⟩ := hoX.rows.open_
        have HOw109 : Hid (OwnRows w108.heap.size w109 (.slice aw109 Lw109.length cw109) Lw109) := hoX
        have HZw109 : Hid (IsZero nU → IsFacets (p ++ q) Lw109) := hzX
        have HVw109 : Hid (¬ IsZero nU → Value.slice aw109 Lw109.length cw109 = .slice none 0 0) := heX
        have hltw109 : w103.heap.size < w108.heap.size := HXw108.out.lt
        have HCw109 : Hid (Below w4.heap.size w4 w109) := HCw108.out.trans (hBX.mono HCw108.out.size)
        have HXw109 : Hid (BoxAt w103.heap.size w109 (.slice aw103 Lw103.length cw103)) := HXw108.out.below hBX
        clear HCw108 HXw108
        clear hoX hBX hzX heX
        have hcb := HXw109.out.1
        have hzb := HXw109.out.2
        have HXn : Hid (BoxAt w103.heap.size (w109.setCell ⟨w103.heap.size, 0, none⟩ (.slice aw109 Lw109.length cw109)) (.slice aw109 Lw109.length cw109)) := HXw109.out.set _
        have HCn : Hid (Below w4.heap.size w4 (w109.setCell ⟨w103.heap.size, 0, none⟩ (.slice aw109 Lw109.length cw109))) := HCw109.out.setCell (p := ⟨w103.heap.size, 0, none⟩) hBXB _
        have HRn : Hid (Rows (w109.setCell ⟨w103.heap.size, 0, none⟩ (.slice aw109 Lw109.length cw109)) (.slice aw109 Lw109.length cw109) Lw109) := (HOw109.out.setCell (p := ⟨w103.heap.size, 0, none⟩) hltw109 _).rows
        clear HCw109 HXw109 HOw109 hltw109
        obtain ⟨us, hus1, hus2, hus3⟩ := HPR.out.below HCn.out
        obtain ⟨ts, hts1, hts2, hts3⟩ := HQR.out.below HCn.out
        have HUS : Hid (∀ (k : Nat) (u : Value) (x : List Int), us[k]? = some u → p[k]? = some x → Ints (w109.setCell ⟨w103.heap.size, 0, none⟩ (.slice aw109 Lw109.length cw109)) u x) := hus3
        have HTS : Hid (∀ (k : Nat) (u : Value) (x : List Int), ts[k]? = some u → q[k]? = some x → Ints (w109.setCell ⟨w103.heap.size, 0, none⟩ (.slice aw109 Lw109.length cw109)) u x) := hts3
        have hsu : ∀ c ∈ us, c.oneCell' = true := fun c hc => by
          obtain ⟨k, hk, rfl⟩ := List.mem_iff_getElem.1 hc
          obtain ⟨_, _, e, _⟩ := HUS.out k _ (p[k]'(by omega)) (List.getElem?_eq_getElem hk) (List.getElem?_eq_getElem (by omega))
          rw [e]; rfl
        have hst : ∀ c ∈ ts, c.oneCell' = true := fun c hc => by
          obtain ⟨k, hk, rfl⟩ := List.mem_iff_getElem.1 hc
          obtain ⟨_, _, e, _⟩ := HTS.out k _ (q[k]'(by omega)) (List.getElem?_eq_getElem hk) (List.getElem?_eq_getElem (by omega))
          rw [e]; rfl
        have htl : ts.length ≤ 40 := by rw [hts2]; exact hql
        have hul : us.length ≤ 40 := by rw [hus2]; exact hpl
        clear hus3 hts3
        go_wp2_with (first
          | (at_builtin; refine wpList_append_slice rfl (.tmp 90) (.tmp 91) 22 rfl ((w109.setCell ⟨w103.heap.size, 0, none⟩ (.slice aw109 Lw109.length cw109))).heap.size 39 i0 (.slice none 0 0) 24 Tryz.underlying22 hi hz0 hz1 hz2 rfl _ _ _ rfl (World.ownsRow_nil _ _ _ _) _ us rfl hus1 hsu (by simp; omega) (by unfold maxLen; simp; omega) (Nat.le_refl _) ?_; intro v5 w110 hown5 hg5 hl5; have hB5 : Below ((w109.setCell ⟨w103.heap.size, 0, none⟩ (.slice aw109 Lw109.length cw109))).heap.size ((w109.setCell ⟨w103.heap.size, 0, none⟩ (.slice aw109 Lw109.length cw109))) w110 := (Below.refl _ _).grown hg5 (Nat.le_refl _) (fun j hj => by cases hj); have hf5 : FreeRows ((w109.setCell ⟨w103.heap.size, 0, none⟩ (.slice aw109 Lw109.length cw109))).heap.size w110 v5 p := FreeRows.append (xss := []) (vs := []) (World.ownsRow_nil _ _ _ _) (fun k u x hu => by simp at hu) hus2 (fun k u x hu hx => SliceIn.mono (HUS.out k u x hu hx) (fun b _ _ => by simp [Value.ownBlock])) hown5 hg5 hl5; obtain ⟨vs5, h51, h52⟩ := hf5; have H52 : Hid (∀ (k : Nat) (u : Value) (x : List Int), vs5[k]? = some u → p[k]? = some x → IntsIn (fun b => some b ≠ v5.ownBlock) w110 u x) := h52; have hbs5 := hB5.size; have HL5 : Hid (v5.ownBlock = none ∨ v5.ownBlock = some ((w109.setCell ⟨w103.heap.size, 0, none⟩ (.slice aw109 Lw109.length cw109))).heap.size) := hl5; clear hown5 hg5 hl5 h52; have hts5 := SliceIn.below hts1 hB5)
          | (at_builtin; refine wpList_append_slice rfl (.tmp 93) (.tmp 94) 22 rfl ((w109.setCell ⟨w103.heap.size, 0, none⟩ (.slice aw109 Lw109.length cw109))).heap.size 39 i0 (.slice none 0 0) 24 Tryz.underlying22 hi hz0 hz1 hz2 rfl _ _ _ rfl h51 _ ts rfl hts5 hst (by omega) (by unfold maxLen; omega) hbs5 ?_; intro v6 w111 hown6 hg6 hl6)
          | fail)
        have hf6 : FreeRows ((w109.setCell ⟨w103.heap.size, 0, none⟩ (.slice aw109 Lw109.length cw109))).heap.size w111 v6 (p ++ q) := FreeRows.append h51 H52.out hts2 (fun k u x hu hx => SliceIn.mono (SliceIn.below (SliceIn.mono (S' := fun b => b < ((w109.setCell ⟨w103.heap.size, 0, none⟩ (.slice aw109 Lw109.length cw109))).heap.size) (HTS.out k u x hu hx) (fun b hb _ => hb)) hB5) (fun b _ hlt e => by
          rcases HL5.out with h | h
          · rw [h] at e; cases e
          · rw [h] at e; cases e; omega)) hown6 hg6 hl6
        have HS6 : Hid (Rows w111 v6 (p ++ q)) := hf6.rows
        have hB6 : Below ((w109.setCell ⟨w103.heap.size, 0, none⟩ (.slice aw109 Lw109.length cw109))).heap.size ((w109.setCell ⟨w103.heap.size, 0, none⟩ (.slice aw109 Lw109.length cw109))) w111 := hB5.grown hg6 hbs5 (fun j hj => (h51.lt j hj).1)
        have HRrw111 : Hid (Rows w111 (.slice aw109 Lw109.length cw109) Lw109) := HRn.out.below hB6
        clear HRn hf6 hown6 hg6 hl6 h51 H52 hts5 hB5 hbs5 HL5 hus1 hus2 hts1 hts2 hsu hst htl hul HUS HTS
        have HCw111 : Hid (Below w4.heap.size w4 w111) := HCn.out.trans (hB6.mono HCn.out.size)
        have HXw111 : Hid (BoxAt w103.heap.size w111 (.slice aw109 Lw109.length cw109)) := HXn.out.below hB6
        clear HCn HXn
        clear hB6 hcb hzb
        have hst := made_v CL HU.out (v6) _ HS6.out (union_rising HGP.out HGQ.out) (by rw [List.length_append]; omega) (fun x hx => by have := union_short HGP.out HGQ.out x hx; omega)
        go_wp2_with fail
        refine hst.mono ?_
        clear hst
        rintro e w112 ⟨vw112, rfl, hBX, hLX⟩
        have HRrw112 : Hid (Rows w112 (.slice aw109 Lw109.length cw109) Lw109) := HRrw111.out.below hBX
        clear HRrw111
        have HCw112 : Hid (Below w4.heap.size w4 w112) := HCw111.out.trans (hBX.mono HCw111.out.size)
        have HXw112 : Hid (BoxAt w103.heap.size w112 (.slice aw109 Lw109.length cw109)) := HXw111.out.below hBX
        clear HCw111 HXw111
        have HLw112 : Hid (IsZero nU → ∃ L, Rows w112 vw112 L ∧ IsFacets (p ++ q) L ∧ L.length ≤ 1000000 ∧ ∀ x ∈ L, x.length ≤ 1000000) := hLX
        clear hBX hLX
        have hcb := HXw112.out.1
        have his := is_k (HU.out.state HGS.out.state) (vc := .slice aw109 Lw109.length cw109) w112 HVw109.out HRrw112.out HZw109.out HLw112.out (hE0.below HCw112.out)
        go_wp2_with fail
        refine his.mono ?_
        clear his hcb
        clear HRrw112 HVw109 HZw109 HLw112
        rintro e w113 ⟨rfl, hBX⟩
        have HCw113 : Hid (Below w4.heap.size w4 w113) := HCw112.out.trans (hBX.mono HCw112.out.size)
        have HXw113 : Hid (BoxAt w103.heap.size w113 (.slice aw109 Lw109.length cw109)) := HXw112.out.below hBX
        clear HCw112 HXw112
        clear hBX
        clear HS6
        have hcx := cx_ va A _ (HA0.out.below HCw113.out) hA1 hA2
        go_wp2_with fail
        refine hcx.mono ?_
        clear hcx
        rintro e w114 ⟨vw114, rfl, hrX, hBX⟩
        have HRw114 : Hid (Rows w114 vw114 A) := hrX
        have HCw114 : Hid (Below w4.heap.size w4 w114) := HCw113.out.trans (hBX.mono HCw113.out.size)
        have HXw114 : Hid (BoxAt w103.heap.size w114 (.slice aw109 Lw109.length cw109)) := HXw113.out.below hBX
        clear HCw113 HXw113
        clear hrX hBX
        have hcx := cx_ vb B _ (HBB.out.below HCw114.out) hB1 hB2
        go_wp2_with fail
        refine hcx.mono ?_
        clear hcx
        rintro e w115 ⟨vw115, rfl, hrX, hBX⟩
        have HRw115 : Hid (Rows w115 vw115 B) := hrX
        have HRw114b : Hid (Rows w115 vw114 A) := HRw114.out.below hBX
        have HCw115 : Hid (Below w4.heap.size w4 w115) := HCw114.out.trans (hBX.mono HCw114.out.size)
        have HXw115 : Hid (BoxAt w103.heap.size w115 (.slice aw109 Lw109.length cw109)) := HXw114.out.below hBX
        clear HCw114 HXw114
        clear hrX hBX
        have hst := (meet_call vw114 vw115 A B _ (hE0.below HCw115.out) HRw114b.out HRw115.out hA1 hA2 hB1 hB2).mono (fun e w' h => two_k HGS.out (sets := bothI) HM.out (meet_two (h)))
        go_wp2_with fail
        refine hst.mono ?_
        clear hst
        rintro e w116 ⟨vw116, Lw116, rfl, hoX, hBX, hzX, heX⟩
        obtain ⟨aw116, cw116, rfl, -, -⟩ := hoX.rows.open_
        have HOw116 : Hid (OwnRows w115.heap.size w116 (.slice aw116 Lw116.length cw116) Lw116) := hoX
        have HZw116 : Hid (IsZero nM → IsFacets (bothI p q) Lw116) := hzX
        have HVw116 : Hid (¬ IsZero nM → Value.slice aw116 Lw116.length cw116 = .slice none 0 0) := heX
        have hltw116 : w103.heap.size < w115.heap.size := HXw115.out.lt
        have HCw116 : Hid (Below w4.heap.size w4 w116) := HCw115.out.trans (hBX.mono HCw115.out.size)
        have HXw116 : Hid (BoxAt w103.heap.size w116 (.slice aw109 Lw109.length cw109)) := HXw115.out.below hBX
        clear HCw115 HXw115
        clear hoX hBX hzX heX
        have hcb := HXw116.out.1
        have hzb := HXw116.out.2
        have HXn : Hid (BoxAt w103.heap.size (w116.setCell ⟨w103.heap.size, 0, none⟩ (.slice aw116 Lw116.length cw116)) (.slice aw116 Lw116.length cw116)) := HXw116.out.set _
        have HCn : Hid (Below w4.heap.size w4 (w116.setCell ⟨w103.heap.size, 0, none⟩ (.slice aw116 Lw116.length cw116))) := HCw116.out.setCell (p := ⟨w103.heap.size, 0, none⟩) hBXB _
        have HRn : Hid (Rows (w116.setCell ⟨w103.heap.size, 0, none⟩ (.slice aw116 Lw116.length cw116)) (.slice aw116 Lw116.length cw116) Lw116) := (HOw116.out.setCell (p := ⟨w103.heap.size, 0, none⟩) hltw116 _).rows
        clear HCw116 HXw116 HOw116 hltw116
        go_wp2
        go_loopw [19, 20] (fun v r wr => ∃ (k : Nat) (us : List Value), k ≤ 0 ∧ r = .int .i64 k ∧ wr.ownsRow ((w116.setCell ⟨w103.heap.size, 0, none⟩ (.slice aw116 Lw116.length cw116))).heap.size 39 1 v us.length us ∧ Heads w4 us (bothI (p.take k) q) ∧ Below ((w116.setCell ⟨w103.heap.size, 0, none⟩ (.slice aw116 Lw116.length cw116))).heap.size ((w116.setCell ⟨w103.heap.size, 0, none⟩ (.slice aw116 Lw116.length cw116))) wr) (fun _ r _ => 0 - (intOf r).toNat)
        case atStart => exact ⟨0, [], Nat.zero_le _, rfl, World.ownsRow_nil _ _ _ _, ⟨by simp [bothI], fun k u x h => by simp at h⟩, Below.refl _ _⟩
        case round =>
          obtain ⟨k, us, hk, rfl, hown, hh, hBm⟩ := hrel
          obtain ⟨wm, hwm⟩ : ∃ wm : World, wm = wr := ⟨_, rfl⟩
          subst hwm
          have HH : Hid (Heads w4 us (bothI (p.take k) q)) := hh
          have HCm : Hid (Below w4.heap.size w4 wm) := HCn.out.trans (hBm.mono HCn.out.size)
          have hul : us.length ≤ 40 := by
            have h1 := hh.1
            have h2 := List.length_filter_le (fun x => decide (x ∈ q)) (p.take k)
            have h3 : (bothI (p.take k) q).length ≤ (p.take k).length := h2
            rw [List.length_take] at h3
            omega
          have hbm := hBm.size
          clear hh
          by_cases hlt : k < 0
          · exact absurd hlt (Nat.not_lt_zero _)
          · obtain rfl : k = 0 := by omega
            have HSm : Hid (Rows wm u19 (bothI p q)) := by
              have h1 := HH.out
              rw [List.take_of_length_le (Nat.le_of_eq HPL.out)] at h1
              exact h1.rows HCm.out hown
            have HRrm : Hid (Rows wm (.slice aw116 Lw116.length cw116) Lw116) := HRn.out.below hBm
            have HXm : Hid (BoxAt w103.heap.size wm (.slice aw116 Lw116.length cw116)) := HXn.out.below hBm
            clear HRn hown hBm hbm hul HH HCn HXn hcb hzb
            have hst := made_v CL HM.out (u19) _ HSm.out (fun x hx => HGP.out.rising x (List.mem_filter.1 hx).1) (by have h1 : (bothI p q).length ≤ p.length := List.length_filter_le _ _; omega) (fun x hx => by have := (fun x hx => HGP.out.short x (List.mem_filter.1 hx).1 : ∀ x ∈ bothI p q, x.length ≤ 7) x hx; omega)
            go_wp2_with fail
            refine hst.mono ?_
            clear hst
            rintro e w117 ⟨vw117, rfl, hBX, hLX⟩
            have HRrw117 : Hid (Rows w117 (.slice aw116 Lw116.length cw116) Lw116) := HRrm.out.below hBX
            clear HRrm
            have HCw117 : Hid (Below w4.heap.size w4 w117) := HCm.out.trans (hBX.mono HCm.out.size)
            have HXw117 : Hid (BoxAt w103.heap.size w117 (.slice aw116 Lw116.length cw116)) := HXm.out.below hBX
            clear HCm HXm
            have HLw117 : Hid (IsZero nM → ∃ L, Rows w117 vw117 L ∧ IsFacets (bothI p q) L ∧ L.length ≤ 1000000 ∧ ∀ x ∈ L, x.length ≤ 1000000) := hLX
            clear hBX hLX
            have hcb := HXw117.out.1
            have his := is_k (HM.out.state HGS.out.state) (vc := .slice aw116 Lw116.length cw116) w117 HVw116.out HRrw117.out HZw116.out HLw117.out (hE0.below HCw117.out)
            go_wp2_with fail
            refine his.mono ?_
            clear his hcb
            clear HRrw117 HVw116 HZw116 HLw117
            rintro e w118 ⟨rfl, hBX⟩
            have HCw118 : Hid (Below w4.heap.size w4 w118) := HCw117.out.trans (hBX.mono HCw117.out.size)
            have HXw118 : Hid (BoxAt w103.heap.size w118 (.slice aw116 Lw116.length cw116)) := HXw117.out.below hBX
            clear HCw117 HXw117
            clear hBX
            clear HSm
            have hcx := cx_ va A _ (HA0.out.below HCw118.out) hA1 hA2
            go_wp2_with fail
            refine hcx.mono ?_
            clear hcx
            rintro e w119 ⟨vw119, rfl, hrX, hBX⟩
            have HRw119 : Hid (Rows w119 vw119 A) := hrX
            have HCw119 : Hid (Below w4.heap.size w4 w119) := HCw118.out.trans (hBX.mono HCw118.out.size)
            have HXw119 : Hid (BoxAt w103.heap.size w119 (.slice aw116 Lw116.length cw116)) := HXw118.out.below hBX
            clear HCw118 HXw118
            clear hrX hBX
            have hst := (cone_call vw119 A _ (hE0.below HCw119.out) HRw119.out hA1 hA2).mono (fun e w' h => two_k HGC.out (sets := joinS) HCC.out (h))
            go_wp2_with fail
            refine hst.mono ?_
            clear hst
            rintro e w120 ⟨vw120, Lw120, rfl, hoX, hBX, hzX, heX⟩
            obtain ⟨aw120, cw120, rfl, -, -⟩ := hoX.rows.open_
            have HOw120 : Hid (OwnRows w119.heap.size w120 (.slice aw120 Lw120.length cw120) Lw120) := hoX
            have HZw120 : Hid (IsZero nC → IsFacets (joinS p [[0]]) Lw120) := hzX
            have HVw120 : Hid (¬ IsZero nC → Value.slice aw120 Lw120.length cw120 = .slice none 0 0) := heX
            have hltw120 : w103.heap.size < w119.heap.size := HXw119.out.lt
            have HCw120 : Hid (Below w4.heap.size w4 w120) := HCw119.out.trans (hBX.mono HCw119.out.size)
            have HXw120 : Hid (BoxAt w103.heap.size w120 (.slice aw116 Lw116.length cw116)) := HXw119.out.below hBX
            clear HCw119 HXw119
            clear hoX hBX hzX heX
            have hcb := HXw120.out.1
            have hzb := HXw120.out.2
            have HXn : Hid (BoxAt w103.heap.size (w120.setCell ⟨w103.heap.size, 0, none⟩ (.slice aw120 Lw120.length cw120)) (.slice aw120 Lw120.length cw120)) := HXw120.out.set _
            have HCn : Hid (Below w4.heap.size w4 (w120.setCell ⟨w103.heap.size, 0, none⟩ (.slice aw120 Lw120.length cw120))) := HCw120.out.setCell (p := ⟨w103.heap.size, 0, none⟩) hBXB _
            have HRn : Hid (Rows (w120.setCell ⟨w103.heap.size, 0, none⟩ (.slice aw120 Lw120.length cw120)) (.slice aw120 Lw120.length cw120) Lw120) := (HOw120.out.setCell (p := ⟨w103.heap.size, 0, none⟩) hltw120 _).rows
            clear HCw120 HXw120 HOw120 hltw120
            have hBr := two_below ((w120.setCell ⟨w103.heap.size, 0, none⟩ (.slice aw120 Lw120.length cw120))) (.int .i64 0) (.slice (some ⟨((w120.setCell ⟨w103.heap.size, 0, none⟩ (.slice aw120 Lw120.length cw120))).heap.size, 0, none⟩) 1 1) 3 39
            have hjo := join_of (.slice none 0 0) _ p [[0]] HGP.out good_point _ (HPR.out.below (HCn.out.trans (hBr.mono HCn.out.size))) (rows_point ((w120.setCell ⟨w103.heap.size, 0, none⟩ (.slice aw120 Lw120.length cw120))) 3 39) hpl (by decide)
            simp only [World.size_setCell] at hjo hBr
            go_wp2_with fail
            refine hjo.mono ?_
            clear hjo
            rintro e w121 ⟨vw121, rfl, hrX, hBX⟩
            have hB7 : Below ((w120.setCell ⟨w103.heap.size, 0, none⟩ (.slice aw120 Lw120.length cw120))).heap.size ((w120.setCell ⟨w103.heap.size, 0, none⟩ (.slice aw120 Lw120.length cw120))) w121 := by simp only [World.size_setCell]; exact hBr.trans (hBX.mono (by have h8 := hBr.size; rw [World.size_setCell] at h8; exact h8))
            have HSw121 : Hid (Rows w121 vw121 (joinS p [[0]])) := hrX
            have HRrw121 : Hid (Rows w121 (.slice aw120 Lw120.length cw120) Lw120) := HRn.out.below hB7
            clear HRn
            have HCw121 : Hid (Below w4.heap.size w4 w121) := HCn.out.trans (hB7.mono HCn.out.size)
            have HXw121 : Hid (BoxAt w103.heap.size w121 (.slice aw120 Lw120.length cw120)) := HXn.out.below hB7
            clear HCn HXn
            clear hB7 hBX hrX hBr hcb hzb
            have hst := made_v CL HCC.out (vw121) _ HSw121.out (join_rising HGP.out good_point) (by have := join_length (q := [[0]]) hpl (by decide); omega) (fun x hx => by have := join_short HGP.out good_point x hx; omega)
            go_wp2_with fail
            refine hst.mono ?_
            clear hst
            rintro e w122 ⟨vw122, rfl, hBX, hLX⟩
            have HRrw122 : Hid (Rows w122 (.slice aw120 Lw120.length cw120) Lw120) := HRrw121.out.below hBX
            clear HRrw121
            have HCw122 : Hid (Below w4.heap.size w4 w122) := HCw121.out.trans (hBX.mono HCw121.out.size)
            have HXw122 : Hid (BoxAt w103.heap.size w122 (.slice aw120 Lw120.length cw120)) := HXw121.out.below hBX
            clear HCw121 HXw121
            have HLw122 : Hid (IsZero nC → ∃ L, Rows w122 vw122 L ∧ IsFacets (joinS p [[0]]) L ∧ L.length ≤ 1000000 ∧ ∀ x ∈ L, x.length ≤ 1000000) := hLX
            clear hBX hLX
            have hcb := HXw122.out.1
            have his := is_k (HCC.out.state HGC.out.state) (vc := .slice aw120 Lw120.length cw120) w122 HVw120.out HRrw122.out HZw120.out HLw122.out (hE0.below HCw122.out)
            go_wp2_with fail
            refine his.mono ?_
            clear his hcb
            clear HRrw122 HVw120 HZw120 HLw122
            rintro e w123 ⟨rfl, hBX⟩
            have HCw123 : Hid (Below w4.heap.size w4 w123) := HCw122.out.trans (hBX.mono HCw122.out.size)
            have HXw123 : Hid (BoxAt w103.heap.size w123 (.slice aw120 Lw120.length cw120)) := HXw122.out.below hBX
            clear HCw122 HXw122
            clear hBX
            have hcx := cx_ va A _ (HA0.out.below HCw123.out) hA1 hA2
            go_wp2_with fail
            refine hcx.mono ?_
            clear hcx
            rintro e w124 ⟨vw124, rfl, hrX, hBX⟩
            have HRw124 : Hid (Rows w124 vw124 A) := hrX
            have HCw124 : Hid (Below w4.heap.size w4 w124) := HCw123.out.trans (hBX.mono HCw123.out.size)
            have HXw124 : Hid (BoxAt w103.heap.size w124 (.slice aw120 Lw120.length cw120)) := HXw123.out.below hBX
            clear HCw123 HXw123
            clear hrX hBX
            have hst := (suspend_call vw124 A _ (hE0.below HCw124.out) HRw124.out hA1 hA2).mono (fun e w' h => two_k HGT.out (sets := joinS) HTT.out (h))
            go_wp2_with fail
            refine hst.mono ?_
            clear hst
            rintro e w125 ⟨vw125, Lw125, rfl, hoX, hBX, hzX, heX⟩
            obtain ⟨aw125, cw125, rfl, -, -⟩ := hoX.rows.open_
            have HOw125 : Hid (OwnRows w124.heap.size w125 (.slice aw125 Lw125.length cw125) Lw125) := hoX
            have HZw125 : Hid (IsZero nT → IsFacets (joinS p [[0], [1]]) Lw125) := hzX
            have HVw125 : Hid (¬ IsZero nT → Value.slice aw125 Lw125.length cw125 = .slice none 0 0) := heX
            have hltw125 : w103.heap.size < w124.heap.size := HXw124.out.lt
            have HCw125 : Hid (Below w4.heap.size w4 w125) := HCw124.out.trans (hBX.mono HCw124.out.size)
            have HXw125 : Hid (BoxAt w103.heap.size w125 (.slice aw120 Lw120.length cw120)) := HXw124.out.below hBX
            clear HCw124 HXw124
            clear hoX hBX hzX heX
            have hcb := HXw125.out.1
            have hzb := HXw125.out.2
            have HXn : Hid (BoxAt w103.heap.size (w125.setCell ⟨w103.heap.size, 0, none⟩ (.slice aw125 Lw125.length cw125)) (.slice aw125 Lw125.length cw125)) := HXw125.out.set _
            have HCn : Hid (Below w4.heap.size w4 (w125.setCell ⟨w103.heap.size, 0, none⟩ (.slice aw125 Lw125.length cw125))) := HCw125.out.setCell (p := ⟨w103.heap.size, 0, none⟩) hBXB _
            have HRn : Hid (Rows (w125.setCell ⟨w103.heap.size, 0, none⟩ (.slice aw125 Lw125.length cw125)) (.slice aw125 Lw125.length cw125) Lw125) := (HOw125.out.setCell (p := ⟨w103.heap.size, 0, none⟩) hltw125 _).rows
            clear HCw125 HXw125 HOw125 hltw125
            have hBr : Below ((w125.setCell ⟨w103.heap.size, 0, none⟩ (.slice aw125 Lw125.length cw125))).heap.size ((w125.setCell ⟨w103.heap.size, 0, none⟩ (.slice aw125 Lw125.length cw125))) (((((w125.setCell ⟨w103.heap.size, 0, none⟩ (.slice aw125 Lw125.length cw125))).alloc (.cells #[.int .i64 0] 3)).alloc (.cells #[.int .i64 1] 3)).alloc (.cells #[.slice (some ⟨((w125.setCell ⟨w103.heap.size, 0, none⟩ (.slice aw125 Lw125.length cw125))).heap.size, 0, none⟩) 1 1, .slice (some ⟨((w125.setCell ⟨w103.heap.size, 0, none⟩ (.slice aw125 Lw125.length cw125))).heap.size + 1, 0, none⟩) 1 1] 39)) := (two_below ((w125.setCell ⟨w103.heap.size, 0, none⟩ (.slice aw125 Lw125.length cw125))) (.int .i64 0) (.int .i64 1) 3 3).alloc (by simp; omega) _
            have hjo := join_of (.slice none 0 0) _ p [[0], [1]] HGP.out good_two _ (HPR.out.below (HCn.out.trans (hBr.mono HCn.out.size))) (rows_two ((w125.setCell ⟨w103.heap.size, 0, none⟩ (.slice aw125 Lw125.length cw125))) 3 39) hpl (by decide)
            simp only [World.size_setCell] at hjo hBr
            go_wp2_with fail
            refine hjo.mono ?_
            clear hjo
            rintro e w126 ⟨vw126, rfl, hrX, hBX⟩
            have hB7 : Below ((w125.setCell ⟨w103.heap.size, 0, none⟩ (.slice aw125 Lw125.length cw125))).heap.size ((w125.setCell ⟨w103.heap.size, 0, none⟩ (.slice aw125 Lw125.length cw125))) w126 := by simp only [World.size_setCell]; exact hBr.trans (hBX.mono (by have h8 := hBr.size; rw [World.size_setCell] at h8; exact h8))
            have HSw126 : Hid (Rows w126 vw126 (joinS p [[0], [1]])) := hrX
            have HRrw126 : Hid (Rows w126 (.slice aw125 Lw125.length cw125) Lw125) := HRn.out.below hB7
            clear HRn
            have HCw126 : Hid (Below w4.heap.size w4 w126) := HCn.out.trans (hB7.mono HCn.out.size)
            have HXw126 : Hid (BoxAt w103.heap.size w126 (.slice aw125 Lw125.length cw125)) := HXn.out.below hB7
            clear HCn HXn
            clear hB7 hBX hrX hBr hcb hzb
            have hst := made_v CL HTT.out (vw126) _ HSw126.out (join_rising HGP.out good_two) (by have := join_length (q := [[0], [1]]) hpl (by decide); omega) (fun x hx => by have := join_short HGP.out good_two x hx; omega)
            go_wp2_with fail
            refine hst.mono ?_
            clear hst
            rintro e w127 ⟨vw127, rfl, hBX, hLX⟩
            have HRrw127 : Hid (Rows w127 (.slice aw125 Lw125.length cw125) Lw125) := HRrw126.out.below hBX
            clear HRrw126
            have HCw127 : Hid (Below w4.heap.size w4 w127) := HCw126.out.trans (hBX.mono HCw126.out.size)
            have HXw127 : Hid (BoxAt w103.heap.size w127 (.slice aw125 Lw125.length cw125)) := HXw126.out.below hBX
            clear HCw126 HXw126
            have HLw127 : Hid (IsZero nT → ∃ L, Rows w127 vw127 L ∧ IsFacets (joinS p [[0], [1]]) L ∧ L.length ≤ 1000000 ∧ ∀ x ∈ L, x.length ≤ 1000000) := hLX
            clear hBX hLX
            have hcb := HXw127.out.1
            have his := is_k (HTT.out.state HGT.out.state) (vc := .slice aw125 Lw125.length cw125) w127 HVw125.out HRrw127.out HZw125.out HLw127.out (hE0.below HCw127.out)
            go_wp2_with fail
            refine his.mono ?_
            clear his hcb
            clear HRrw127 HVw125 HZw125 HLw127
            rintro e w128 ⟨rfl, hBX⟩
            have HCw128 : Hid (Below w4.heap.size w4 w128) := HCw127.out.trans (hBX.mono HCw127.out.size)
            have HXw128 : Hid (BoxAt w103.heap.size w128 (.slice aw125 Lw125.length cw125)) := HXw127.out.below hBX
            clear HCw127 HXw127
            clear hBX
            go_wp2
            go_ret
            exact ⟨rfl, HB4.out.trans (HCw128.out.mono HB4.out.size)⟩
      · have HGA : Hid (Good A allA) := hg
        have HB4 : Hid (Below w.heap.size w w4) := HB3.out.trans (hB4.mono HB3.out.size)
        have hpl : allA.length ≤ 40 := HQA.out allA hg
        clear hg hB4 HB3 HQA
        have her := error_k2 CL a vb B w4 (HRB.out.below HB4.out) hB1 hB2
        go_wp2_with fail
        refine her.mono ?_
        clear her
        rintro e w5 ⟨hB5, veB, nB, allB, -, rfl, ⟨hn0, hn1, -, i, hbad, hve, hni⟩ | ⟨rfl, hg⟩⟩
        · have HB5 : Hid (Below w.heap.size w w5) := HB4.out.trans (hB5.mono HB4.out.size)
          have HJE : Hid (JErr A B i ∧ veB = .iface 145 (.pointer (some (a i))) ∧ nB = (i : Int) + 1) := ⟨.inr ⟨⟨allA, HGA.out⟩, hbad⟩, hve, hni⟩
          clear hbad hve hni hB5 HB4 HQB
          have hcl := closed_g CL va A allA w5 (HRA.out.below HB5.out) hA1 hA2 HGA.out
          go_wp2_with fail
          refine hcl.mono ?_
          clear hcl
          rintro e w6 ⟨vp, rfl, hrp, hB6⟩
          have HB6 : Hid (Below w.heap.size w w6) := HB5.out.trans (hB6.mono HB5.out.size)
          obtain ⟨p, hp0⟩ : ∃ p, allA = p := ⟨_, rfl⟩
          obtain ⟨q, hq0⟩ : ∃ q : List (List Int), q = [] := ⟨_, rfl⟩
          rw [hp0] at HGA hpl hrp
          have HGS : Hid (GState a A B p q veB nB) := .inl ⟨i, HJE.out⟩
          have HGC : Hid (GState a A [[0]] p [[0]] .nilIface 0) := .inr ⟨⟨HGA.out, good_point⟩, rfl, rfl⟩
          have HGT : Hid (GState a A [[0], [1]] p [[0], [1]] .nilIface 0) := .inr ⟨⟨HGA.out, good_two⟩, rfl, rfl⟩
          have HGP : Hid (Good A p) := HGA.out
          have HGQ : Hid (Good [] q) := by rw [hq0]; exact good_nil
          obtain ⟨ap, cp, rfl, -, -⟩ := hrp.open_
          have HPR : Hid (Rows w6 (.slice ap p.length cp) p) := hrp
          have HQR : Hid (Rows w6 (.slice none 0 0) q) := by rw [hq0]; exact rows_nil w6
          have hql : q.length ≤ 40 := by rw [hq0]; simp
          have HQL : Hid (q.length = 0) := by show q.length = 0; rw [hq0]; rfl
          clear hp0 hq0 hrp hB6 HB5 HGA HJE
          have hE0 := hE.below HB6.out
          have HA0 : Hid (Rows w6 va A) := HRA.out.below HB6.out
          have HBB : Hid (Rows w6 vb B) := HRB.out.below HB6.out
          clear hE HRA HRB
          obtain ⟨veJ, nJ, hJ⟩ := end_ex a (veB) HGS.out.nonneg (joinS p q)
          obtain ⟨veU, nU, hU⟩ := end_ex a (veB) HGS.out.nonneg (p ++ q)
          obtain ⟨veM, nM, hM⟩ := end_ex a (veB) HGS.out.nonneg (bothI p q)
          obtain ⟨veC, nC, hC⟩ := end_ex a (.nilIface) HGC.out.nonneg (joinS p [[0]])
          obtain ⟨veT, nT, hT⟩ := end_ex a (.nilIface) HGT.out.nonneg (joinS p [[0], [1]])
          have HJ : Hid (EndS a (veB) (nB) (joinS p q) veJ nJ) := hJ
          have HU : Hid (EndS a (veB) (nB) (p ++ q) veU nU) := hU
          have HM : Hid (EndS a (veB) (nB) (bothI p q) veM nM) := hM
          have HCC : Hid (EndS a (.nilIface) (0) (joinS p [[0]]) veC nC) := hC
          have HTT : Hid (EndS a (.nilIface) (0) (joinS p [[0], [1]]) veT nT) := hT
          clear hJ hU hM hC hT
          have HCw6 : Hid (Below w6.heap.size w6 w6) := Below.refl _ _
          have hcx := cx_ va A _ (HA0.out.below HCw6.out) hA1 hA2
          go_wp2_with fail
          refine hcx.mono ?_
          clear hcx
          rintro e w101 ⟨vw101, rfl, hrX, hBX⟩
          have HRw101 : Hid (Rows w101 vw101 A) := hrX
          have HCw101 : Hid (Below w6.heap.size w6 w101) := HCw6.out.trans (hBX.mono HCw6.out.size)
          clear HCw6
          clear hrX hBX
          have hcx := cx_ vb B _ (HBB.out.below HCw101.out) hB1 hB2
          go_wp2_with fail
          refine hcx.mono ?_
          clear hcx
          rintro e w102 ⟨vw102, rfl, hrX, hBX⟩
          have HRw102 : Hid (Rows w102 vw102 B) := hrX
          have HRw101b : Hid (Rows w102 vw101 A) := HRw101.out.below hBX
          have HCw102 : Hid (Below w6.heap.size w6 w102) := HCw101.out.trans (hBX.mono HCw101.out.size)
          clear HCw101
          clear hrX hBX
          have hst := (join_call vw101 vw102 A B _ (hE0.below HCw102.out) HRw101b.out HRw102.out hA1 hA2 hB1 hB2).mono (fun e w' h => two_k HGS.out (sets := joinS) HJ.out (h))
          go_wp2_with fail
          refine hst.mono ?_
          clear hst
          rintro e w103 ⟨vw103, Lw103, rfl, hoX, hBX, hzX, heX⟩
          obtain ⟨aw103, cw103, rfl, -, -⟩ := hoX.rows.open_
          have HOw103 : Hid (OwnRows w102.heap.size w103 (.slice aw103 Lw103.length cw103) Lw103) := hoX
          have HZw103 : Hid (IsZero nJ → IsFacets (joinS p q) Lw103) := hzX
          have HVw103 : Hid (¬ IsZero nJ → Value.slice aw103 Lw103.length cw103 = .slice none 0 0) := heX
          have HCw103 : Hid (Below w6.heap.size w6 w103) := HCw102.out.trans (hBX.mono HCw102.out.size)
          clear HCw102
          clear hoX hBX hzX heX
          have hBa : Below w103.heap.size w103 (w103.alloc (.cells #[.slice aw103 Lw103.length cw103] 29)) := (Below.refl _ w103).alloc (Nat.le_refl _) _
          have HXn : Hid (BoxAt w103.heap.size (w103.alloc (.cells #[.slice aw103 Lw103.length cw103] 29)) (.slice aw103 Lw103.length cw103)) := box_new w103 (.slice aw103 Lw103.length cw103) 29
          have HCn : Hid (Below w6.heap.size w6 (w103.alloc (.cells #[.slice aw103 Lw103.length cw103] 29))) := HCw103.out.trans (hBa.mono HCw103.out.size)
          have HRn : Hid (Rows (w103.alloc (.cells #[.slice aw103 Lw103.length cw103] 29)) (.slice aw103 Lw103.length cw103) Lw103) := HOw103.out.rows.below hBa
          have hBXB : w6.heap.size ≤ w103.heap.size := HCw103.out.size
          clear hBa HCw103 HOw103
          have hst := join_of (.slice ap p.length cp) (.slice none 0 0) p q HGP.out HGQ.out _ (HPR.out.below HCn.out) (HQR.out.below HCn.out) hpl hql
          go_wp2_with fail
          refine hst.mono ?_
          clear hst
          rintro e w104 ⟨vw104, rfl, hrX, hBX⟩
          have HRrw104 : Hid (Rows w104 (.slice aw103 Lw103.length cw103) Lw103) := HRn.out.below hBX
          clear HRn
          have HCw104 : Hid (Below w6.heap.size w6 w104) := HCn.out.trans (hBX.mono HCn.out.size)
          have HXw104 : Hid (BoxAt w103.heap.size w104 (.slice aw103 Lw103.length cw103)) := HXn.out.below hBX
          clear HCn HXn
          have HSw104 : Hid (Rows w104 vw104 (joinS p q)) := hrX
          clear hrX hBX
          have hst := made_v CL HJ.out (vw104) _ HSw104.out (join_rising HGP.out HGQ.out) (by have := join_length hpl hql; omega) (fun x hx => by have := join_short HGP.out HGQ.out x hx; omega)
          go_wp2_with fail
          refine hst.mono ?_
          clear hst
          rintro e w105 ⟨vw105, rfl, hBX, hLX⟩
          have HRrw105 : Hid (Rows w105 (.slice aw103 Lw103.length cw103) Lw103) := HRrw104.out.below hBX
          clear HRrw104
          have HCw105 : Hid (Below w6.heap.size w6 w105) := HCw104.out.trans (hBX.mono HCw104.out.size)
          have HXw105 : Hid (BoxAt w103.heap.size w105 (.slice aw103 Lw103.length cw103)) := HXw104.out.below hBX
          clear HCw104 HXw104
          have HLw105 : Hid (IsZero nJ → ∃ L, Rows w105 vw105 L ∧ IsFacets (joinS p q) L ∧ L.length ≤ 1000000 ∧ ∀ x ∈ L, x.length ≤ 1000000) := hLX
          clear hBX hLX
          have hcb := HXw105.out.1
          have his := is_k (HJ.out.state HGS.out.state) (vc := .slice aw103 Lw103.length cw103) w105 HVw103.out HRrw105.out HZw103.out HLw105.out (hE0.below HCw105.out)
          go_wp2_with fail
          refine his.mono ?_
          clear his hcb
          clear HRrw105 HVw103 HZw103 HLw105
          rintro e w106 ⟨rfl, hBX⟩
          have HCw106 : Hid (Below w6.heap.size w6 w106) := HCw105.out.trans (hBX.mono HCw105.out.size)
          have HXw106 : Hid (BoxAt w103.heap.size w106 (.slice aw103 Lw103.length cw103)) := HXw105.out.below hBX
          clear HCw105 HXw105
          clear hBX
          have hcx := cx_ va A _ (HA0.out.below HCw106.out) hA1 hA2
          go_wp2_with fail
          refine hcx.mono ?_
          clear hcx
          rintro e w107 ⟨vw107, rfl, hrX, hBX⟩
          have HRw107 : Hid (Rows w107 vw107 A) := hrX
          have HCw107 : Hid (Below w6.heap.size w6 w107) := HCw106.out.trans (hBX.mono HCw106.out.size)
          have HXw107 : Hid (BoxAt w103.heap.size w107 (.slice aw103 Lw103.length cw103)) := HXw106.out.below hBX
          clear HCw106 HXw106
          clear hrX hBX
          have hcx := cx_ vb B _ (HBB.out.below HCw107.out) hB1 hB2
          go_wp2_with fail
          refine hcx.mono ?_
          clear hcx
          rintro e w108 ⟨vw108, rfl, hrX, hBX⟩
          have HRw108 : Hid (Rows w108 vw108 B) := hrX
          have HRw107b : Hid (Rows w108 vw107 A) := HRw107.out.below hBX
          have HCw108 : Hid (Below w6.heap.size w6 w108) := HCw107.out.trans (hBX.mono HCw107.out.size)
          have HXw108 : Hid (BoxAt w103.heap.size w108 (.slice aw103 Lw103.length cw103)) := HXw107.out.below hBX
          clear HCw107 HXw107
          clear hrX hBX
          have hst := (union_call vw107 vw108 A B _ (hE0.below HCw108.out) HRw107b.out HRw108.out hA1 hA2 hB1 hB2).mono (fun e w' h => two_k HGS.out (sets := (fun p q => p ++ q)) HU.out (h))
          go_wp2_with fail
          refine hst.mono ?_
          clear hst
          rintro e w109 ⟨vw109, Lw109, rfl, hoX, hBX, hzX, heX⟩
          obtain ⟨aw109, cw109, rfl, -, -⟩ := hoX.rows.open_
          have HOw109 : Hid (OwnRows w108.heap.size w109 (.slice aw109 Lw109.length cw109) Lw109) := hoX
          have HZw109 : Hid (IsZero nU → IsFacets (p ++ q) Lw109) := hzX
          have HVw109 : Hid (¬ IsZero nU → Value.slice aw109 Lw109.length cw109 = .slice none 0 0) := heX
          have hltw109 : w103.heap.size < w108.heap.size := HXw108.out.lt
          have HCw109 : Hid (Below w6.heap.size w6 w109) := HCw108.out.trans (hBX.mono HCw108.out.size)
          have HXw109 : Hid (BoxAt w103.heap.size w109 (.slice aw103 Lw103.length cw103)) := HXw108.out.below hBX
          clear HCw108 HXw108
          clear hoX hBX hzX heX
          have hcb := HXw109.out.1
          have hzb := HXw109.out.2
          have HXn : Hid (BoxAt w103.heap.size (w109.setCell ⟨w103.heap.size, 0, none⟩ (.slice aw109 Lw109.length cw109)) (.slice aw109 Lw109.length cw109)) := HXw109.out.set _
          have HCn : Hid (Below w6.heap.size w6 (w109.setCell ⟨w103.heap.size, 0, none⟩ (.slice aw109 Lw109.length cw109))) := HCw109.out.setCell (p := ⟨w103.heap.size, 0, none⟩) hBXB _
          have HRn : Hid (Rows (w109.setCell ⟨w103.heap.size, 0, none⟩ (.slice aw109 Lw109.length cw109)) (.slice aw109 Lw109.length cw109) Lw109) := (HOw109.out.setCell (p := ⟨w103.heap.size, 0, none⟩) hltw109 _).rows
          clear HCw109 HXw109 HOw109 hltw109
          obtain ⟨us, hus1, hus2, hus3⟩ := HPR.out.below HCn.out
          obtain ⟨ts, hts1, hts2, hts3⟩ := HQR.out.below HCn.out
          have HUS : Hid (∀ (k : Nat) (u : Value) (x : List Int), us[k]? = some u → p[k]? = some x → Ints (w109.setCell ⟨w103.heap.size, 0, none⟩ (.slice aw109 Lw109.length cw109)) u x) := hus3
          have HTS : Hid (∀ (k : Nat) (u : Value) (x : List Int), ts[k]? = some u → q[k]? = some x → Ints (w109.setCell ⟨w103.heap.size, 0, none⟩ (.slice aw109 Lw109.length cw109)) u x) := hts3
          have hsu : ∀ c ∈ us, c.oneCell' = true := fun c hc => by
            obtain ⟨k, hk, rfl⟩ := List.mem_iff_getElem.1 hc
            obtain ⟨_, _, e, _⟩ := HUS.out k _ (p[k]'(by omega)) (List.getElem?_eq_getElem hk) (List.getElem?_eq_getElem (by omega))
            rw [e]; rfl
          have hst : ∀ c ∈ ts, c.oneCell' = true := fun c hc => by
            obtain ⟨k, hk, rfl⟩ := List.mem_iff_getElem.1 hc
            obtain ⟨_, _, e, _⟩ := HTS.out k _ (q[k]'(by omega)) (List.getElem?_eq_getElem hk) (List.getElem?_eq_getElem (by omega))
            rw [e]; rfl
          have htl : ts.length ≤ 40 := by rw [hts2]; exact hql
          have hul : us.length ≤ 40 := by rw [hus2]; exact hpl
          clear hus3 hts3
          go_wp2_with (first
            | (at_builtin; refine wpList_append_slice rfl (.tmp 90) (.tmp 91) 22 rfl ((w109.setCell ⟨w103.heap.size, 0, none⟩ (.slice aw109 Lw109.length cw109))).heap.size 39 i0 (.slice none 0 0) 24 Tryz.underlying22 hi hz0 hz1 hz2 rfl _ _ _ rfl (World.ownsRow_nil _ _ _ _) _ us rfl hus1 hsu (by simp; omega) (by unfold maxLen; simp; omega) (Nat.le_refl _) ?_; intro v5 w110 hown5 hg5 hl5; have hB5 : Below ((w109.setCell ⟨w103.heap.size, 0, none⟩ (.slice aw109 Lw109.length cw109))).heap.size ((w109.setCell ⟨w103.heap.size, 0, none⟩ (.slice aw109 Lw109.length cw109))) w110 := (Below.refl _ _).grown hg5 (Nat.le_refl _) (fun j hj => by cases hj); have hf5 : FreeRows ((w109.setCell ⟨w103.heap.size, 0, none⟩ (.slice aw109 Lw109.length cw109))).heap.size w110 v5 p := FreeRows.append (xss := []) (vs := []) (World.ownsRow_nil _ _ _ _) (fun k u x hu => by simp at hu) hus2 (fun k u x hu hx => SliceIn.mono (HUS.out k u x hu hx) (fun b _ _ => by simp [Value.ownBlock])) hown5 hg5 hl5; obtain ⟨vs5, h51, h52⟩ := hf5; have H52 : Hid (∀ (k : Nat) (u : Value) (x : List Int), vs5[k]? = some u → p[k]? = some x → IntsIn (fun b => some b ≠ v5.ownBlock) w110 u x) := h52; have hbs5 := hB5.size; have HL5 : Hid (v5.ownBlock = none ∨ v5.ownBlock = some ((w109.setCell ⟨w103.heap.size, 0, none⟩ (.slice aw109 Lw109.length cw109))).heap.size) := hl5; clear hown5 hg5 hl5 h52; have hts5 := SliceIn.below hts1 hB5)
            | (at_builtin; refine wpList_append_slice rfl (.tmp 93) (.tmp 94) 22 rfl ((w109.setCell ⟨w103.heap.size, 0, none⟩ (.slice aw109 Lw109.length cw109))).heap.size 39 i0 (.slice none 0 0) 24 Tryz.underlying22 hi hz0 hz1 hz2 rfl _ _ _ rfl h51 _ ts rfl hts5 hst (by omega) (by unfold maxLen; omega) hbs5 ?_; intro v6 w111 hown6 hg6 hl6)
            | fail)
          have hf6 : FreeRows ((w109.setCell ⟨w103.heap.size, 0, none⟩ (.slice aw109 Lw109.length cw109))).heap.size w111 v6 (p ++ q) := FreeRows.append h51 H52.out hts2 (fun k u x hu hx => SliceIn.mono (SliceIn.below (SliceIn.mono (S' := fun b => b < ((w109.setCell ⟨w103.heap.size, 0, none⟩ (.slice aw109 Lw109.length cw109))).heap.size) (HTS.out k u x hu hx) (fun b hb _ => hb)) hB5) (fun b _ hlt e => by
            rcases HL5.out with h | h
            · rw [h] at e; cases e
            · rw [h] at e; cases e; omega)) hown6 hg6 hl6
          have HS6 : Hid (Rows w111 v6 (p ++ q)) := hf6.rows
          have hB6 : Below ((w109.setCell ⟨w103.heap.size, 0, none⟩ (.slice aw109 Lw109.length cw109))).heap.size ((w109.setCell ⟨w103.heap.size, 0, none⟩ (.slice aw109 Lw109.length cw109))) w111 := hB5.grown hg6 hbs5 (fun j hj => (h51.lt j hj).1)
          have HRrw111 : Hid (Rows w111 (.slice aw109 Lw109.length cw109) Lw109) := HRn.out.below hB6
          clear HRn hf6 hown6 hg6 hl6 h51 H52 hts5 hB5 hbs5 HL5 hus1 hus2 hts1 hts2 hsu hst htl hul HUS HTS
          have HCw111 : Hid (Below w6.heap.size w6 w111) := HCn.out.trans (hB6.mono HCn.out.size)
          have HXw111 : Hid (BoxAt w103.heap.size w111 (.slice aw109 Lw109.length cw109)) := HXn.out.below hB6
          clear HCn HXn
          clear hB6 hcb hzb
          have hst := made_v CL HU.out (v6) _ HS6.out (union_rising HGP.out HGQ.out) (by rw [List.length_append]; omega) (fun x hx => by have := union_short HGP.out HGQ.out x hx; omega)
          go_wp2_with fail
          refine hst.mono ?_
          clear hst
          rintro e w112 ⟨vw112, rfl, hBX, hLX⟩
          have HRrw112 : Hid (Rows w112 (.slice aw109 Lw109.length cw109) Lw109) := HRrw111.out.below hBX
          clear HRrw111
          have HCw112 : Hid (Below w6.heap.size w6 w112) := HCw111.out.trans (hBX.mono HCw111.out.size)
          have HXw112 : Hid (BoxAt w103.heap.size w112 (.slice aw109 Lw109.length cw109)) := HXw111.out.below hBX
          clear HCw111 HXw111
          have HLw112 : Hid (IsZero nU → ∃ L, Rows w112 vw112 L ∧ IsFacets (p ++ q) L ∧ L.length ≤ 1000000 ∧ ∀ x ∈ L, x.length ≤ 1000000) := hLX
          clear hBX hLX
          have hcb := HXw112.out.1
          have his := is_k (HU.out.state HGS.out.state) (vc := .slice aw109 Lw109.length cw109) w112 HVw109.out HRrw112.out HZw109.out HLw112.out (hE0.below HCw112.out)
          go_wp2_with fail
          refine his.mono ?_
          clear his hcb
          clear HRrw112 HVw109 HZw109 HLw112
          rintro e w113 ⟨rfl, hBX⟩
          have HCw113 : Hid (Below w6.heap.size w6 w113) := HCw112.out.trans (hBX.mono HCw112.out.size)
          have HXw113 : Hid (BoxAt w103.heap.size w113 (.slice aw109 Lw109.length cw109)) := HXw112.out.below hBX
          clear HCw112 HXw112
          clear hBX
          clear HS6
          have hcx := cx_ va A _ (HA0.out.below HCw113.out) hA1 hA2
          go_wp2_with fail
          refine hcx.mono ?_
          clear hcx
          rintro e w114 ⟨vw114, rfl, hrX, hBX⟩
          have HRw114 : Hid (Rows w114 vw114 A) := hrX
          have HCw114 : Hid (Below w6.heap.size w6 w114) := HCw113.out.trans (hBX.mono HCw113.out.size)
          have HXw114 : Hid (BoxAt w103.heap.size w114 (.slice aw109 Lw109.length cw109)) := HXw113.out.below hBX
          clear HCw113 HXw113
          clear hrX hBX
          have hcx := cx_ vb B _ (HBB.out.below HCw114.out) hB1 hB2
          go_wp2_with fail
          refine hcx.mono ?_
          clear hcx
          rintro e w115 ⟨vw115, rfl, hrX, hBX⟩
          have HRw115 : Hid (Rows w115 vw115 B) := hrX
          have HRw114b : Hid (Rows w115 vw114 A) := HRw114.out.below hBX
          have HCw115 : Hid (Below w6.heap.size w6 w115) := HCw114.out.trans (hBX.mono HCw114.out.size)
          have HXw115 : Hid (BoxAt w103.heap.size w115 (.slice aw109 Lw109.length cw109)) := HXw114.out.below hBX
          clear HCw114 HXw114
          clear hrX hBX
          have hst := (meet_call vw114 vw115 A B _ (hE0.below HCw115.out) HRw114b.out HRw115.out hA1 hA2 hB1 hB2).mono (fun e w' h => two_k HGS.out (sets := bothI) HM.out (meet_two (h)))
          go_wp2_with fail
          refine hst.mono ?_
          clear hst
          rintro e w116 ⟨vw116, Lw116, rfl, hoX, hBX, hzX, heX⟩
          obtain ⟨aw116, cw116, rfl, -, -⟩ := hoX.rows.open_
          have HOw116 : Hid (OwnRows w115.heap.size w116 (.slice aw116 Lw116.length cw116) Lw116) := hoX
          have HZw116 : Hid (IsZero nM → IsFacets (bothI p q) Lw116) := hzX
          have HVw116 : Hid (¬ IsZero nM → Value.slice aw116 Lw116.length cw116 = .slice none 0 0) := heX
          have hltw116 : w103.heap.size < w115.heap.size := HXw115.out.lt
          have HCw116 : Hid (Below w6.heap.size w6 w116) := HCw115.out.trans (hBX.mono HCw115.out.size)
          have HXw116 : Hid (BoxAt w103.heap.size w116 (.slice aw109 Lw109.length cw109)) := HXw115.out.below hBX
          clear HCw115 HXw115
          clear hoX hBX hzX heX
          have hcb := HXw116.out.1
          have hzb := HXw116.out.2
          have HXn : Hid (BoxAt w103.heap.size (w116.setCell ⟨w103.heap.size, 0, none⟩ (.slice aw116 Lw116.length cw116)) (.slice aw116 Lw116.length cw116)) := HXw116.out.set _
          have HCn : Hid (Below w6.heap.size w6 (w116.setCell ⟨w103.heap.size, 0, none⟩ (.slice aw116 Lw116.length cw116))) := HCw116.out.setCell (p := ⟨w103.heap.size, 0, none⟩) hBXB _
          have HRn : Hid (Rows (w116.setCell ⟨w103.heap.size, 0, none⟩ (.slice aw116 Lw116.length cw116)) (.slice aw116 Lw116.length cw116) Lw116) := (HOw116.out.setCell (p := ⟨w103.heap.size, 0, none⟩) hltw116 _).rows
          clear HCw116 HXw116 HOw116 hltw116
          go_wp2
          go_loopw [19, 20] (fun v r wr => ∃ (k : Nat) (us : List Value), k ≤ p.length ∧ r = .int .i64 k ∧ wr.ownsRow ((w116.setCell ⟨w103.heap.size, 0, none⟩ (.slice aw116 Lw116.length cw116))).heap.size 39 1 v us.length us ∧ Heads w6 us (bothI (p.take k) q) ∧ Below ((w116.setCell ⟨w103.heap.size, 0, none⟩ (.slice aw116 Lw116.length cw116))).heap.size ((w116.setCell ⟨w103.heap.size, 0, none⟩ (.slice aw116 Lw116.length cw116))) wr) (fun _ r _ => p.length - (intOf r).toNat)
          case atStart => exact ⟨0, [], Nat.zero_le _, rfl, World.ownsRow_nil _ _ _ _, ⟨by simp [bothI], fun k u x h => by simp at h⟩, Below.refl _ _⟩
          case round =>
            obtain ⟨k, us, hk, rfl, hown, hh, hBm⟩ := hrel
            obtain ⟨wm, hwm⟩ : ∃ wm : World, wm = wr := ⟨_, rfl⟩
            subst hwm
            have HH : Hid (Heads w6 us (bothI (p.take k) q)) := hh
            have HCm : Hid (Below w6.heap.size w6 wm) := HCn.out.trans (hBm.mono HCn.out.size)
            have hul : us.length ≤ 40 := by
              have h1 := hh.1
              have h2 := List.length_filter_le (fun x => decide (x ∈ q)) (p.take k)
              have h3 : (bothI (p.take k) q).length ≤ (p.take k).length := h2
              rw [List.length_take] at h3
              omega
            have hbm := hBm.size
            clear hh
            by_cases hlt : k < p.length
            · obtain ⟨ap', cp', eap, -, hcp⟩ := HPR.out.open_
              obtain ⟨rfl, rfl⟩ : ap = ap' ∧ cp = cp' := by simpa using eap
              obtain ⟨b, o, rfl, -, hb, c⟩ := hcp (by omega)
              obtain ⟨ax, cx, g1, i1⟩ := c k hlt
              have HSU := both_succ (q := q) hlt
              have hmem : p[k]?.getD [] ∈ p := by rw [List.getElem?_eq_getElem hlt]; simp
              obtain ⟨x, hxe⟩ : ∃ x, p[k]?.getD [] = x := ⟨_, rfl⟩
              rw [hxe] at g1 i1 HSU hmem
              have HS2 : Hid (bothI (p.take (k + 1)) q = bothI (p.take k) q ++ (if x ∈ q then [x] else [])) := HSU
              have HI1 : Hid (Ints w6 (.slice ax x.length cx) x) := i1
              have g2 : wm.cell? ⟨b, o + k, none⟩ = some (.slice ax x.length cx) := (HCm.out.cell (p := ⟨b, o + k, none⟩) hb).trans g1
              have hio := index_of (.slice none 0 0) (.slice ax x.length cx) q x wm (HQR.out.below HCm.out) (i1.below HCm.out) (by omega) (fun y hy => by have := HGQ.out.short y hy; omega)
              clear c hcp eap hxe i1 HSU hmem
              go_wp2_with fail
              refine hio.mono ?_
              clear hio
              rintro e wx ⟨ix, rfl, hii, -, qd, hwx⟩
              have hd : Below wm.heap.size wm wx := by rw [hwx]; exact ⟨rfl, rfl, rfl, Nat.le_refl _, fun _ _ => rfl⟩
              have hBx : Below ((w116.setCell ⟨w103.heap.size, 0, none⟩ (.slice aw116 Lw116.length cw116))).heap.size ((w116.setCell ⟨w103.heap.size, 0, none⟩ (.slice aw116 Lw116.length cw116))) wx := hBm.trans (hd.mono hbm)
              have hownx : wx.ownsRow ((w116.setCell ⟨w103.heap.size, 0, none⟩ (.slice aw116 Lw116.length cw116))).heap.size 39 1 u19 us.length us := by rw [hwx]; exact hown
              have g3 : wx.cell? ⟨b, o + k, none⟩ = some (.slice ax x.length cx) := (hd.cell (p := ⟨b, o + k, none⟩) (cell_lt g2)).trans g2
              have hbx := hBx.size
              clear hwx hown hd g2 g1
              by_cases hq : 0 ≤ ix
              · have HQI : Hid (x ∈ q) := hii.1 hq
                clear hii
                go_wp2_with (first
                  | (at_builtin; refine wpList_append_slice rfl (.tmp 128) (.tmp 133) 22 rfl ((w116.setCell ⟨w103.heap.size, 0, none⟩ (.slice aw116 Lw116.length cw116))).heap.size 39 i0 (.slice none 0 0) 24 Tryz.underlying22 hi hz0 hz1 hz2 rfl _ _ _ rfl (hownx.alloc _) _ [.slice ax x.length cx] rfl (slice_one _ _ _) (by simp [Value.oneCell']) (by simp; omega) (by unfold maxLen; simp; omega) (by simp at hbx ⊢; omega) ?_; intro v4 w4 hown4 hg4 hl4)
                  | go_in)
                (try go_frame)
                have hB4 : Below ((w116.setCell ⟨w103.heap.size, 0, none⟩ (.slice aw116 Lw116.length cw116))).heap.size ((w116.setCell ⟨w103.heap.size, 0, none⟩ (.slice aw116 Lw116.length cw116))) w4 := (hBx.alloc hbx _).grown hg4 (by simp at hbx ⊢; omega) (fun j hj => (hownx.lt j hj).1)
                have HH4 : Hid (Heads w6 (us ++ [.slice ax x.length cx]) (bothI (p.take (k + 1)) q)) := by
                  rw [HS2.out, if_pos HQI.out]; exact HH.out.snoc HI1.out
                have ho4 : w4.ownsRow ((w116.setCell ⟨w103.heap.size, 0, none⟩ (.slice aw116 Lw116.length cw116))).heap.size 39 1 v4 (us ++ [Value.slice ax x.length cx]).length (us ++ [Value.slice ax x.length cx]) := by rw [List.length_append]; exact hown4
                clear hown4 hg4 hl4
                go_roundw
                case rel => exact ⟨k + 1, us ++ [.slice ax x.length cx], by omega, by go_num, ho4, HH4.out, hB4⟩
                case measure => simp [intOf]; omega
              · have HQI : Hid (¬ x ∈ q) := fun h => hq (hii.2 h)
                clear hii
                go_wp2
                go_roundw
                case rel => exact ⟨k + 1, us, by omega, by go_num, hownx, by rw [HS2.out, if_neg HQI.out, List.append_nil]; exact HH.out, hBx⟩
                case measure => simp [intOf]; omega
            · obtain rfl : k = p.length := by omega
              have HSm : Hid (Rows wm u19 (bothI p q)) := by
                have h1 := HH.out
                rw [List.take_of_length_le (Nat.le_refl _)] at h1
                exact h1.rows HCm.out hown
              have HRrm : Hid (Rows wm (.slice aw116 Lw116.length cw116) Lw116) := HRn.out.below hBm
              have HXm : Hid (BoxAt w103.heap.size wm (.slice aw116 Lw116.length cw116)) := HXn.out.below hBm
              clear HRn hown hBm hbm hul HH HCn HXn hcb hzb
              have hst := made_v CL HM.out (u19) _ HSm.out (fun x hx => HGP.out.rising x (List.mem_filter.1 hx).1) (by have h1 : (bothI p q).length ≤ p.length := List.length_filter_le _ _; omega) (fun x hx => by have := (fun x hx => HGP.out.short x (List.mem_filter.1 hx).1 : ∀ x ∈ bothI p q, x.length ≤ 7) x hx; omega)
              go_wp2_with fail
              refine hst.mono ?_
              clear hst
              rintro e w117 ⟨vw117, rfl, hBX, hLX⟩
              have HRrw117 : Hid (Rows w117 (.slice aw116 Lw116.length cw116) Lw116) := HRrm.out.below hBX
              clear HRrm
              have HCw117 : Hid (Below w6.heap.size w6 w117) := HCm.out.trans (hBX.mono HCm.out.size)
              have HXw117 : Hid (BoxAt w103.heap.size w117 (.slice aw116 Lw116.length cw116)) := HXm.out.below hBX
              clear HCm HXm
              have HLw117 : Hid (IsZero nM → ∃ L, Rows w117 vw117 L ∧ IsFacets (bothI p q) L ∧ L.length ≤ 1000000 ∧ ∀ x ∈ L, x.length ≤ 1000000) := hLX
              clear hBX hLX
              have hcb := HXw117.out.1
              have his := is_k (HM.out.state HGS.out.state) (vc := .slice aw116 Lw116.length cw116) w117 HVw116.out HRrw117.out HZw116.out HLw117.out (hE0.below HCw117.out)
              go_wp2_with fail
              refine his.mono ?_
              clear his hcb
              clear HRrw117 HVw116 HZw116 HLw117
              rintro e w118 ⟨rfl, hBX⟩
              have HCw118 : Hid (Below w6.heap.size w6 w118) := HCw117.out.trans (hBX.mono HCw117.out.size)
              have HXw118 : Hid (BoxAt w103.heap.size w118 (.slice aw116 Lw116.length cw116)) := HXw117.out.below hBX
              clear HCw117 HXw117
              clear hBX
              clear HSm
              have hcx := cx_ va A _ (HA0.out.below HCw118.out) hA1 hA2
              go_wp2_with fail
              refine hcx.mono ?_
              clear hcx
              rintro e w119 ⟨vw119, rfl, hrX, hBX⟩
              have HRw119 : Hid (Rows w119 vw119 A) := hrX
              have HCw119 : Hid (Below w6.heap.size w6 w119) := HCw118.out.trans (hBX.mono HCw118.out.size)
              have HXw119 : Hid (BoxAt w103.heap.size w119 (.slice aw116 Lw116.length cw116)) := HXw118.out.below hBX
              clear HCw118 HXw118
              clear hrX hBX
              have hst := (cone_call vw119 A _ (hE0.below HCw119.out) HRw119.out hA1 hA2).mono (fun e w' h => two_k HGC.out (sets := joinS) HCC.out (h))
              go_wp2_with fail
              refine hst.mono ?_
              clear hst
              rintro e w120 ⟨vw120, Lw120, rfl, hoX, hBX, hzX, heX⟩
              obtain ⟨aw120, cw120, rfl, -, -⟩ := hoX.rows.open_
              have HOw120 : Hid (OwnRows w119.heap.size w120 (.slice aw120 Lw120.length cw120) Lw120) := hoX
              have HZw120 : Hid (IsZero nC → IsFacets (joinS p [[0]]) Lw120) := hzX
              have HVw120 : Hid (¬ IsZero nC → Value.slice aw120 Lw120.length cw120 = .slice none 0 0) := heX
              have hltw120 : w103.heap.size < w119.heap.size := HXw119.out.lt
              have HCw120 : Hid (Below w6.heap.size w6 w120) := HCw119.out.trans (hBX.mono HCw119.out.size)
              have HXw120 : Hid (BoxAt w103.heap.size w120 (.slice aw116 Lw116.length cw116)) := HXw119.out.below hBX
              clear HCw119 HXw119
              clear hoX hBX hzX heX
              have hcb := HXw120.out.1
              have hzb := HXw120.out.2
              have HXn : Hid (BoxAt w103.heap.size (w120.setCell ⟨w103.heap.size, 0, none⟩ (.slice aw120 Lw120.length cw120)) (.slice aw120 Lw120.length cw120)) := HXw120.out.set _
              have HCn : Hid (Below w6.heap.size w6 (w120.setCell ⟨w103.heap.size, 0, none⟩ (.slice aw120 Lw120.length cw120))) := HCw120.out.setCell (p := ⟨w103.heap.size, 0, none⟩) hBXB _
              have HRn : Hid (Rows (w120.setCell ⟨w103.heap.size, 0, none⟩ (.slice aw120 Lw120.length cw120)) (.slice aw120 Lw120.length cw120) Lw120) := (HOw120.out.setCell (p := ⟨w103.heap.size, 0, none⟩) hltw120 _).rows
              clear HCw120 HXw120 HOw120 hltw120
              have hBr := two_below ((w120.setCell ⟨w103.heap.size, 0, none⟩ (.slice aw120 Lw120.length cw120))) (.int .i64 0) (.slice (some ⟨((w120.setCell ⟨w103.heap.size, 0, none⟩ (.slice aw120 Lw120.length cw120))).heap.size, 0, none⟩) 1 1) 3 39
              have hjo := join_of (.slice ap p.length cp) _ p [[0]] HGP.out good_point _ (HPR.out.below (HCn.out.trans (hBr.mono HCn.out.size))) (rows_point ((w120.setCell ⟨w103.heap.size, 0, none⟩ (.slice aw120 Lw120.length cw120))) 3 39) hpl (by decide)
              simp only [World.size_setCell] at hjo hBr
              go_wp2_with fail
              refine hjo.mono ?_
              clear hjo
              rintro e w121 ⟨vw121, rfl, hrX, hBX⟩
              have hB7 : Below ((w120.setCell ⟨w103.heap.size, 0, none⟩ (.slice aw120 Lw120.length cw120))).heap.size ((w120.setCell ⟨w103.heap.size, 0, none⟩ (.slice aw120 Lw120.length cw120))) w121 := by simp only [World.size_setCell]; exact hBr.trans (hBX.mono (by have h8 := hBr.size; rw [World.size_setCell] at h8; exact h8))
              have HSw121 : Hid (Rows w121 vw121 (joinS p [[0]])) := hrX
              have HRrw121 : Hid (Rows w121 (.slice aw120 Lw120.length cw120) Lw120) := HRn.out.below hB7
              clear HRn
              have HCw121 : Hid (Below w6.heap.size w6 w121) := HCn.out.trans (hB7.mono HCn.out.size)
              have HXw121 : Hid (BoxAt w103.heap.size w121 (.slice aw120 Lw120.length cw120)) := HXn.out.below hB7
              clear HCn HXn
              clear hB7 hBX hrX hBr hcb hzb
              have hst := made_v CL HCC.out (vw121) _ HSw121.out (join_rising HGP.out good_point) (by have := join_length (q := [[0]]) hpl (by decide); omega) (fun x hx => by have := join_short HGP.out good_point x hx; omega)
              go_wp2_with fail
              refine hst.mono ?_
              clear hst
              rintro e w122 ⟨vw122, rfl, hBX, hLX⟩
              have HRrw122 : Hid (Rows w122 (.slice aw120 Lw120.length cw120) Lw120) := HRrw121.out.below hBX
              clear HRrw121
              have HCw122 : Hid (Below w6.heap.size w6 w122) := HCw121.out.trans (hBX.mono HCw121.out.size)
              have HXw122 : Hid (BoxAt w103.heap.size w122 (.slice aw120 Lw120.length cw120)) := HXw121.out.below hBX
              clear HCw121 HXw121
              have HLw122 : Hid (IsZero nC → ∃ L, Rows w122 vw122 L ∧ IsFacets (joinS p [[0]]) L ∧ L.length ≤ 1000000 ∧ ∀ x ∈ L, x.length ≤ 1000000) := hLX
              clear hBX hLX
              have hcb := HXw122.out.1
              have his := is_k (HCC.out.state HGC.out.state) (vc := .slice aw120 Lw120.length cw120) w122 HVw120.out HRrw122.out HZw120.out HLw122.out (hE0.below HCw122.out)
              go_wp2_with fail
              refine his.mono ?_
              clear his hcb
              clear HRrw122 HVw120 HZw120 HLw122
              rintro e w123 ⟨rfl, hBX⟩
              have HCw123 : Hid (Below w6.heap.size w6 w123) := HCw122.out.trans (hBX.mono HCw122.out.size)
              have HXw123 : Hid (BoxAt w103.heap.size w123 (.slice aw120 Lw120.length cw120)) := HXw122.out.below hBX
              clear HCw122 HXw122
              clear hBX
              have hcx := cx_ va A _ (HA0.out.below HCw123.out) hA1 hA2
              go_wp2_with fail
              refine hcx.mono ?_
              clear hcx
              rintro e w124 ⟨vw124, rfl, hrX, hBX⟩
              have HRw124 : Hid (Rows w124 vw124 A) := hrX
              have HCw124 : Hid (Below w6.heap.size w6 w124) := HCw123.out.trans (hBX.mono HCw123.out.size)
              have HXw124 : Hid (BoxAt w103.heap.size w124 (.slice aw120 Lw120.length cw120)) := HXw123.out.below hBX
              clear HCw123 HXw123
              clear hrX hBX
              have hst := (suspend_call vw124 A _ (hE0.below HCw124.out) HRw124.out hA1 hA2).mono (fun e w' h => two_k HGT.out (sets := joinS) HTT.out (h))
              go_wp2_with fail
              refine hst.mono ?_
              clear hst
              rintro e w125 ⟨vw125, Lw125, rfl, hoX, hBX, hzX, heX⟩
              obtain ⟨aw125, cw125, rfl, -, -⟩ := hoX.rows.open_
              have HOw125 : Hid (OwnRows w124.heap.size w125 (.slice aw125 Lw125.length cw125) Lw125) := hoX
              have HZw125 : Hid (IsZero nT → IsFacets (joinS p [[0], [1]]) Lw125) := hzX
              have HVw125 : Hid (¬ IsZero nT → Value.slice aw125 Lw125.length cw125 = .slice none 0 0) := heX
              have hltw125 : w103.heap.size < w124.heap.size := HXw124.out.lt
              have HCw125 : Hid (Below w6.heap.size w6 w125) := HCw124.out.trans (hBX.mono HCw124.out.size)
              have HXw125 : Hid (BoxAt w103.heap.size w125 (.slice aw120 Lw120.length cw120)) := HXw124.out.below hBX
              clear HCw124 HXw124
              clear hoX hBX hzX heX
              have hcb := HXw125.out.1
              have hzb := HXw125.out.2
              have HXn : Hid (BoxAt w103.heap.size (w125.setCell ⟨w103.heap.size, 0, none⟩ (.slice aw125 Lw125.length cw125)) (.slice aw125 Lw125.length cw125)) := HXw125.out.set _
              have HCn : Hid (Below w6.heap.size w6 (w125.setCell ⟨w103.heap.size, 0, none⟩ (.slice aw125 Lw125.length cw125))) := HCw125.out.setCell (p := ⟨w103.heap.size, 0, none⟩) hBXB _
              have HRn : Hid (Rows (w125.setCell ⟨w103.heap.size, 0, none⟩ (.slice aw125 Lw125.length cw125)) (.slice aw125 Lw125.length cw125) Lw125) := (HOw125.out.setCell (p := ⟨w103.heap.size, 0, none⟩) hltw125 _).rows
              clear HCw125 HXw125 HOw125 hltw125
              have hBr : Below ((w125.setCell ⟨w103.heap.size, 0, none⟩ (.slice aw125 Lw125.length cw125))).heap.size ((w125.setCell ⟨w103.heap.size, 0, none⟩ (.slice aw125 Lw125.length cw125))) (((((w125.setCell ⟨w103.heap.size, 0, none⟩ (.slice aw125 Lw125.length cw125))).alloc (.cells #[.int .i64 0] 3)).alloc (.cells #[.int .i64 1] 3)).alloc (.cells #[.slice (some ⟨((w125.setCell ⟨w103.heap.size, 0, none⟩ (.slice aw125 Lw125.length cw125))).heap.size, 0, none⟩) 1 1, .slice (some ⟨((w125.setCell ⟨w103.heap.size, 0, none⟩ (.slice aw125 Lw125.length cw125))).heap.size + 1, 0, none⟩) 1 1] 39)) := (two_below ((w125.setCell ⟨w103.heap.size, 0, none⟩ (.slice aw125 Lw125.length cw125))) (.int .i64 0) (.int .i64 1) 3 3).alloc (by simp; omega) _
              have hjo := join_of (.slice ap p.length cp) _ p [[0], [1]] HGP.out good_two _ (HPR.out.below (HCn.out.trans (hBr.mono HCn.out.size))) (rows_two ((w125.setCell ⟨w103.heap.size, 0, none⟩ (.slice aw125 Lw125.length cw125))) 3 39) hpl (by decide)
              simp only [World.size_setCell] at hjo hBr
              go_wp2_with fail
              refine hjo.mono ?_
              clear hjo
              rintro e w126 ⟨vw126, rfl, hrX, hBX⟩
              have hB7 : Below ((w125.setCell ⟨w103.heap.size, 0, none⟩ (.slice aw125 Lw125.length cw125))).heap.size ((w125.setCell ⟨w103.heap.size, 0, none⟩ (.slice aw125 Lw125.length cw125))) w126 := by simp only [World.size_setCell]; exact hBr.trans (hBX.mono (by have h8 := hBr.size; rw [World.size_setCell] at h8; exact h8))
              have HSw126 : Hid (Rows w126 vw126 (joinS p [[0], [1]])) := hrX
              have HRrw126 : Hid (Rows w126 (.slice aw125 Lw125.length cw125) Lw125) := HRn.out.below hB7
              clear HRn
              have HCw126 : Hid (Below w6.heap.size w6 w126) := HCn.out.trans (hB7.mono HCn.out.size)
              have HXw126 : Hid (BoxAt w103.heap.size w126 (.slice aw125 Lw125.length cw125)) := HXn.out.below hB7
              clear HCn HXn
              clear hB7 hBX hrX hBr hcb hzb
              have hst := made_v CL HTT.out (vw126) _ HSw126.out (join_rising HGP.out good_two) (by have := join_length (q := [[0], [1]]) hpl (by decide); omega) (fun x hx => by have := join_short HGP.out good_two x hx; omega)
              go_wp2_with fail
              refine hst.mono ?_
              clear hst
              rintro e w127 ⟨vw127, rfl, hBX, hLX⟩
              have HRrw127 : Hid (Rows w127 (.slice aw125 Lw125.length cw125) Lw125) := HRrw126.out.below hBX
              clear HRrw126
              have HCw127 : Hid (Below w6.heap.size w6 w127) := HCw126.out.trans (hBX.mono HCw126.out.size)
              have HXw127 : Hid (BoxAt w103.heap.size w127 (.slice aw125 Lw125.length cw125)) := HXw126.out.below hBX
              clear HCw126 HXw126
              have HLw127 : Hid (IsZero nT → ∃ L, Rows w127 vw127 L ∧ IsFacets (joinS p [[0], [1]]) L ∧ L.length ≤ 1000000 ∧ ∀ x ∈ L, x.length ≤ 1000000) := hLX
              clear hBX hLX
              have hcb := HXw127.out.1
              have his := is_k (HTT.out.state HGT.out.state) (vc := .slice aw125 Lw125.length cw125) w127 HVw125.out HRrw127.out HZw125.out HLw127.out (hE0.below HCw127.out)
              go_wp2_with fail
              refine his.mono ?_
              clear his hcb
              clear HRrw127 HVw125 HZw125 HLw127
              rintro e w128 ⟨rfl, hBX⟩
              have HCw128 : Hid (Below w6.heap.size w6 w128) := HCw127.out.trans (hBX.mono HCw127.out.size)
              have HXw128 : Hid (BoxAt w103.heap.size w128 (.slice aw125 Lw125.length cw125)) := HXw127.out.below hBX
              clear HCw127 HXw127
              clear hBX
              go_wp2
              go_ret
              exact ⟨rfl, HB6.out.trans (HCw128.out.mono HB6.out.size)⟩
        · have HGB : Hid (Good B allB) := hg
          have HB5 : Hid (Below w.heap.size w w5) := HB4.out.trans (hB5.mono HB4.out.size)
          have hql : allB.length ≤ 40 := HQB.out allB hg
          clear hg hB5 HB4 HQB
          have hcl := closed_g CL va A allA w5 (HRA.out.below HB5.out) hA1 hA2 HGA.out
          go_wp2_with fail
          refine hcl.mono ?_
          clear hcl
          rintro e w6 ⟨vp, rfl, hrp, hB6⟩
          have HB6 : Hid (Below w.heap.size w w6) := HB5.out.trans (hB6.mono HB5.out.size)
          have HRP : Hid (Rows w6 vp allA) := hrp
          obtain ⟨ap, cp, rfl, -, -⟩ := hrp.open_
          clear hrp hB6 HB5
          have hcl := closed_g CL vb B allB w6 (HRB.out.below HB6.out) hB1 hB2 HGB.out
          go_wp2_with fail
          refine hcl.mono ?_
          clear hcl
          rintro e w7 ⟨vq, rfl, hrq, hB7⟩
          have HB7 : Hid (Below w.heap.size w w7) := HB6.out.trans (hB7.mono HB6.out.size)
          obtain ⟨aq, cq, rfl, -, -⟩ := hrq.open_
          have HPR0 : Hid (Rows w7 (.slice ap allA.length cp) allA) := HRP.out.below hB7
          obtain ⟨p, hp0⟩ : ∃ p, allA = p := ⟨_, rfl⟩
          obtain ⟨q, hq0⟩ : ∃ q, allB = q := ⟨_, rfl⟩
          rw [hp0] at HGA hpl HPR0 ⊢
          rw [hq0] at HGB hql hrq ⊢
          have HPR : Hid (Rows w7 (.slice ap p.length cp) p) := HPR0.out
          have HQR : Hid (Rows w7 (.slice aq q.length cq) q) := hrq
          have HGS : Hid (GState a A B p q .nilIface 0) := .inr ⟨⟨HGA.out, HGB.out⟩, rfl, rfl⟩
          have HGC : Hid (GState a A [[0]] p [[0]] .nilIface 0) := .inr ⟨⟨HGA.out, good_point⟩, rfl, rfl⟩
          have HGT : Hid (GState a A [[0], [1]] p [[0], [1]] .nilIface 0) := .inr ⟨⟨HGA.out, good_two⟩, rfl, rfl⟩
          have HGP : Hid (Good A p) := HGA.out
          have HGQ : Hid (Good B q) := HGB.out
          clear hp0 hq0 hrq hB7 HB6 HRP HPR0 HGA HGB
          have hE0 := hE.below HB7.out
          have HA0 : Hid (Rows w7 va A) := HRA.out.below HB7.out
          have HBB : Hid (Rows w7 vb B) := HRB.out.below HB7.out
          clear hE HRA HRB
          obtain ⟨veJ, nJ, hJ⟩ := end_ex a (.nilIface) HGS.out.nonneg (joinS p q)
          obtain ⟨veU, nU, hU⟩ := end_ex a (.nilIface) HGS.out.nonneg (p ++ q)
          obtain ⟨veM, nM, hM⟩ := end_ex a (.nilIface) HGS.out.nonneg (bothI p q)
          obtain ⟨veC, nC, hC⟩ := end_ex a (.nilIface) HGC.out.nonneg (joinS p [[0]])
          obtain ⟨veT, nT, hT⟩ := end_ex a (.nilIface) HGT.out.nonneg (joinS p [[0], [1]])
          have HJ : Hid (EndS a (.nilIface) (0) (joinS p q) veJ nJ) := hJ
          have HU : Hid (EndS a (.nilIface) (0) (p ++ q) veU nU) := hU
          have HM : Hid (EndS a (.nilIface) (0) (bothI p q) veM nM) := hM
          have HCC : Hid (EndS a (.nilIface) (0) (joinS p [[0]]) veC nC) := hC
          have HTT : Hid (EndS a (.nilIface) (0) (joinS p [[0], [1]]) veT nT) := hT
          clear hJ hU hM hC hT
          have HCw7 : Hid (Below w7.heap.size w7 w7) := Below.refl _ _
          have hcx := cx_ va A _ (HA0.out.below HCw7.out) hA1 hA2
          go_wp2_with fail
          refine hcx.mono ?_
          clear hcx
          rintro e w101 ⟨vw101, rfl, hrX, hBX⟩
          have HRw101 : Hid (Rows w101 vw101 A) := hrX
          have HCw101 : Hid (Below w7.heap.size w7 w101) := HCw7.out.trans (hBX.mono HCw7.out.size)
          clear HCw7
          clear hrX hBX
          have hcx := cx_ vb B _ (HBB.out.below HCw101.out) hB1 hB2
          go_wp2_with fail
          refine hcx.mono ?_
          clear hcx
          rintro e w102 ⟨vw102, rfl, hrX, hBX⟩
          have HRw102 : Hid (Rows w102 vw102 B) := hrX
          have HRw101b : Hid (Rows w102 vw101 A) := HRw101.out.below hBX
          have HCw102 : Hid (Below w7.heap.size w7 w102) := HCw101.out.trans (hBX.mono HCw101.out.size)
          clear HCw101
          clear hrX hBX
          have hst := (join_call vw101 vw102 A B _ (hE0.below HCw102.out) HRw101b.out HRw102.out hA1 hA2 hB1 hB2).mono (fun e w' h => two_k HGS.out (sets := joinS) HJ.out (h))
          go_wp2_with fail
          refine hst.mono ?_
          clear hst
          rintro e w103 ⟨vw103, Lw103, rfl, hoX, hBX, hzX, heX⟩
          obtain ⟨aw103, cw103, rfl, -, -⟩ := hoX.rows.open_
          have HOw103 : Hid (OwnRows w102.heap.size w103 (.slice aw103 Lw103.length cw103) Lw103) := hoX
          have HZw103 : Hid (IsZero nJ → IsFacets (joinS p q) Lw103) := hzX
          have HVw103 : Hid (¬ IsZero nJ → Value.slice aw103 Lw103.length cw103 = .slice none 0 0) := heX
          have HCw103 : Hid (Below w7.heap.size w7 w103) := HCw102.out.trans (hBX.mono HCw102.out.size)
          clear HCw102
          clear hoX hBX hzX heX
          have hBa : Below w103.heap.size w103 (w103.alloc (.cells #[.slice aw103 Lw103.length cw103] 29)) := (Below.refl _ w103).alloc (Nat.le_refl _) _
          have HXn : Hid (BoxAt w103.heap.size (w103.alloc (.cells #[.slice aw103 Lw103.length cw103] 29)) (.slice aw103 Lw103.length cw103)) := box_new w103 (.slice aw103 Lw103.length cw103) 29
          have HCn : Hid (Below w7.heap.size w7 (w103.alloc (.cells #[.slice aw103 Lw103.length cw103] 29))) := HCw103.out.trans (hBa.mono HCw103.out.size)
          have HRn : Hid (Rows (w103.alloc (.cells #[.slice aw103 Lw103.length cw103] 29)) (.slice aw103 Lw103.length cw103) Lw103) := HOw103.out.rows.below hBa
          have hBXB : w7.heap.size ≤ w103.heap.size := HCw103.out.size
          clear hBa HCw103 HOw103
          have hst := join_of (.slice ap p.length cp) (.slice aq q.length cq) p q HGP.out HGQ.out _ (HPR.out.below HCn.out) (HQR.out.below HCn.out) hpl hql
          go_wp2_with fail
          refine hst.mono ?_
          clear hst
          rintro e w104 ⟨vw104, rfl, hrX, hBX⟩
          have HRrw104 : Hid (Rows w104 (.slice aw103 Lw103.length cw103) Lw103) := HRn.out.below hBX
          clear HRn
          have HCw104 : Hid (Below w7.heap.size w7 w104) := HCn.out.trans (hBX.mono HCn.out.size)
          have HXw104 : Hid (BoxAt w103.heap.size w104 (.slice aw103 Lw103.length cw103)) := HXn.out.below hBX
          clear HCn HXn
          have HSw104 : Hid (Rows w104 vw104 (joinS p q)) := hrX
          clear hrX hBX
          have hst := made_v CL HJ.out (vw104) _ HSw104.out (join_rising HGP.out HGQ.out) (by have := join_length hpl hql; omega) (fun x hx => by have := join_short HGP.out HGQ.out x hx; omega)
          go_wp2_with fail
          refine hst.mono ?_
          clear hst
          rintro e w105 ⟨vw105, rfl, hBX, hLX⟩
          have HRrw105 : Hid (Rows w105 (.slice aw103 Lw103.length cw103) Lw103) := HRrw104.out.below hBX
          clear HRrw104
          have HCw105 : Hid (Below w7.heap.size w7 w105) := HCw104.out.trans (hBX.mono HCw104.out.size)
          have HXw105 : Hid (BoxAt w103.heap.size w105 (.slice aw103 Lw103.length cw103)) := HXw104.out.below hBX
          clear HCw104 HXw104
          have HLw105 : Hid (IsZero nJ → ∃ L, Rows w105 vw105 L ∧ IsFacets (joinS p q) L ∧ L.length ≤ 1000000 ∧ ∀ x ∈ L, x.length ≤ 1000000) := hLX
          clear hBX hLX
          have hcb := HXw105.out.1
          have his := is_k (HJ.out.state HGS.out.state) (vc := .slice aw103 Lw103.length cw103) w105 HVw103.out HRrw105.out HZw103.out HLw105.out (hE0.below HCw105.out)
          go_wp2_with fail
          refine his.mono ?_
          clear his hcb
          clear HRrw105 HVw103 HZw103 HLw105
          rintro e w106 ⟨rfl, hBX⟩
          have HCw106 : Hid (Below w7.heap.size w7 w106) := HCw105.out.trans (hBX.mono HCw105.out.size)
          have HXw106 : Hid (BoxAt w103.heap.size w106 (.slice aw103 Lw103.length cw103)) := HXw105.out.below hBX
          clear HCw105 HXw105
          clear hBX
          have hcx := cx_ va A _ (HA0.out.below HCw106.out) hA1 hA2
          go_wp2_with fail
          refine hcx.mono ?_
          clear hcx
          rintro e w107 ⟨vw107, rfl, hrX, hBX⟩
          have HRw107 : Hid (Rows w107 vw107 A) := hrX
          have HCw107 : Hid (Below w7.heap.size w7 w107) := HCw106.out.trans (hBX.mono HCw106.out.size)
          have HXw107 : Hid (BoxAt w103.heap.size w107 (.slice aw103 Lw103.length cw103)) := HXw106.out.below hBX
          clear HCw106 HXw106
          clear hrX hBX
          have hcx := cx_ vb B _ (HBB.out.below HCw107.out) hB1 hB2
          go_wp2_with fail
          refine hcx.mono ?_
          clear hcx
          rintro e w108 ⟨vw108, rfl, hrX, hBX⟩
          have HRw108 : Hid (Rows w108 vw108 B) := hrX
          have HRw107b : Hid (Rows w108 vw107 A) := HRw107.out.below hBX
          have HCw108 : Hid (Below w7.heap.size w7 w108) := HCw107.out.trans (hBX.mono HCw107.out.size)
          have HXw108 : Hid (BoxAt w103.heap.size w108 (.slice aw103 Lw103.length cw103)) := HXw107.out.below hBX
          clear HCw107 HXw107
          clear hrX hBX
          have hst := (union_call vw107 vw108 A B _ (hE0.below HCw108.out) HRw107b.out HRw108.out hA1 hA2 hB1 hB2).mono (fun e w' h => two_k HGS.out (sets := (fun p q => p ++ q)) HU.out (h))
          go_wp2_with fail
          refine hst.mono ?_
          clear hst
          rintro e w109 ⟨vw109, Lw109, rfl, hoX, hBX, hzX, heX⟩
          obtain ⟨aw109, cw109, rfl, -, -⟩ := hoX.rows.open_
          have HOw109 : Hid (OwnRows w108.heap.size w109 (.slice aw109 Lw109.length cw109) Lw109) := hoX
          have HZw109 : Hid (IsZero nU → IsFacets (p ++ q) Lw109) := hzX
          have HVw109 : Hid (¬ IsZero nU → Value.slice aw109 Lw109.length cw109 = .slice none 0 0) := heX
          have hltw109 : w103.heap.size < w108.heap.size := HXw108.out.lt
          have HCw109 : Hid (Below w7.heap.size w7 w109) := HCw108.out.trans (hBX.mono HCw108.out.size)
          have HXw109 : Hid (BoxAt w103.heap.size w109 (.slice aw103 Lw103.length cw103)) := HXw108.out.below hBX
          clear HCw108 HXw108
          clear hoX hBX hzX heX
          have hcb := HXw109.out.1
          have hzb := HXw109.out.2
          have HXn : Hid (BoxAt w103.heap.size (w109.setCell ⟨w103.heap.size, 0, none⟩ (.slice aw109 Lw109.length cw109)) (.slice aw109 Lw109.length cw109)) := HXw109.out.set _
          have HCn : Hid (Below w7.heap.size w7 (w109.setCell ⟨w103.heap.size, 0, none⟩ (.slice aw109 Lw109.length cw109))) := HCw109.out.setCell (p := ⟨w103.heap.size, 0, none⟩) hBXB _
          have HRn : Hid (Rows (w109.setCell ⟨w103.heap.size, 0, none⟩ (.slice aw109 Lw109.length cw109)) (.slice aw109 Lw109.length cw109) Lw109) := (HOw109.out.setCell (p := ⟨w103.heap.size, 0, none⟩) hltw109 _).rows
          clear HCw109 HXw109 HOw109 hltw109
          obtain ⟨us, hus1, hus2, hus3⟩ := HPR.out.below HCn.out
          obtain ⟨ts, hts1, hts2, hts3⟩ := HQR.out.below HCn.out
          have HUS : Hid (∀ (k : Nat) (u : Value) (x : List Int), us[k]? = some u → p[k]? = some x → Ints (w109.setCell ⟨w103.heap.size, 0, none⟩ (.slice aw109 Lw109.length cw109)) u x) := hus3
          have HTS : Hid (∀ (k : Nat) (u : Value) (x : List Int), ts[k]? = some u → q[k]? = some x → Ints (w109.setCell ⟨w103.heap.size, 0, none⟩ (.slice aw109 Lw109.length cw109)) u x) := hts3
          have hsu : ∀ c ∈ us, c.oneCell' = true := fun c hc => by
            obtain ⟨k, hk, rfl⟩ := List.mem_iff_getElem.1 hc
            obtain ⟨_, _, e, _⟩ := HUS.out k _ (p[k]'(by omega)) (List.getElem?_eq_getElem hk) (List.getElem?_eq_getElem (by omega))
            rw [e]; rfl
          have hst : ∀ c ∈ ts, c.oneCell' = true := fun c hc => by
            obtain ⟨k, hk, rfl⟩ := List.mem_iff_getElem.1 hc
            obtain ⟨_, _, e, _⟩ := HTS.out k _ (q[k]'(by omega)) (List.getElem?_eq_getElem hk) (List.getElem?_eq_getElem (by omega))
            rw [e]; rfl
          have htl : ts.length ≤ 40 := by rw [hts2]; exact hql
          have hul : us.length ≤ 40 := by rw [hus2]; exact hpl
          clear hus3 hts3
          go_wp2_with (first
            | (at_builtin; refine wpList_append_slice rfl (.tmp 90) (.tmp 91) 22 rfl ((w109.setCell ⟨w103.heap.size, 0, none⟩ (.slice aw109 Lw109.length cw109))).heap.size 39 i0 (.slice none 0 0) 24 Tryz.underlying22 hi hz0 hz1 hz2 rfl _ _ _ rfl (World.ownsRow_nil _ _ _ _) _ us rfl hus1 hsu (by simp; omega) (by unfold maxLen; simp; omega) (Nat.le_refl _) ?_; intro v5 w110 hown5 hg5 hl5; have hB5 : Below ((w109.setCell ⟨w103.heap.size, 0, none⟩ (.slice aw109 Lw109.length cw109))).heap.size ((w109.setCell ⟨w103.heap.size, 0, none⟩ (.slice aw109 Lw109.length cw109))) w110 := (Below.refl _ _).grown hg5 (Nat.le_refl _) (fun j hj => by cases hj); have hf5 : FreeRows ((w109.setCell ⟨w103.heap.size, 0, none⟩ (.slice aw109 Lw109.length cw109))).heap.size w110 v5 p := FreeRows.append (xss := []) (vs := []) (World.ownsRow_nil _ _ _ _) (fun k u x hu => by simp at hu) hus2 (fun k u x hu hx => SliceIn.mono (HUS.out k u x hu hx) (fun b _ _ => by simp [Value.ownBlock])) hown5 hg5 hl5; obtain ⟨vs5, h51, h52⟩ := hf5; have H52 : Hid (∀ (k : Nat) (u : Value) (x : List Int), vs5[k]? = some u → p[k]? = some x → IntsIn (fun b => some b ≠ v5.ownBlock) w110 u x) := h52; have hbs5 := hB5.size; have HL5 : Hid (v5.ownBlock = none ∨ v5.ownBlock = some ((w109.setCell ⟨w103.heap.size, 0, none⟩ (.slice aw109 Lw109.length cw109))).heap.size) := hl5; clear hown5 hg5 hl5 h52; have hts5 := SliceIn.below hts1 hB5)
            | (at_builtin; refine wpList_append_slice rfl (.tmp 93) (.tmp 94) 22 rfl ((w109.setCell ⟨w103.heap.size, 0, none⟩ (.slice aw109 Lw109.length cw109))).heap.size 39 i0 (.slice none 0 0) 24 Tryz.underlying22 hi hz0 hz1 hz2 rfl _ _ _ rfl h51 _ ts rfl hts5 hst (by omega) (by unfold maxLen; omega) hbs5 ?_; intro v6 w111 hown6 hg6 hl6)
            | fail)
          have hf6 : FreeRows ((w109.setCell ⟨w103.heap.size, 0, none⟩ (.slice aw109 Lw109.length cw109))).heap.size w111 v6 (p ++ q) := FreeRows.append h51 H52.out hts2 (fun k u x hu hx => SliceIn.mono (SliceIn.below (SliceIn.mono (S' := fun b => b < ((w109.setCell ⟨w103.heap.size, 0, none⟩ (.slice aw109 Lw109.length cw109))).heap.size) (HTS.out k u x hu hx) (fun b hb _ => hb)) hB5) (fun b _ hlt e => by
            rcases HL5.out with h | h
            · rw [h] at e; cases e
            · rw [h] at e; cases e; omega)) hown6 hg6 hl6
          have HS6 : Hid (Rows w111 v6 (p ++ q)) := hf6.rows
          have hB6 : Below ((w109.setCell ⟨w103.heap.size, 0, none⟩ (.slice aw109 Lw109.length cw109))).heap.size ((w109.setCell ⟨w103.heap.size, 0, none⟩ (.slice aw109 Lw109.length cw109))) w111 := hB5.grown hg6 hbs5 (fun j hj => (h51.lt j hj).1)
          have HRrw111 : Hid (Rows w111 (.slice aw109 Lw109.length cw109) Lw109) := HRn.out.below hB6
          clear HRn hf6 hown6 hg6 hl6 h51 H52 hts5 hB5 hbs5 HL5 hus1 hus2 hts1 hts2 hsu hst htl hul HUS HTS
          have HCw111 : Hid (Below w7.heap.size w7 w111) := HCn.out.trans (hB6.mono HCn.out.size)
          have HXw111 : Hid (BoxAt w103.heap.size w111 (.slice aw109 Lw109.length cw109)) := HXn.out.below hB6
          clear HCn HXn
          clear hB6 hcb hzb
          have hst := made_v CL HU.out (v6) _ HS6.out (union_rising HGP.out HGQ.out) (by rw [List.length_append]; omega) (fun x hx => by have := union_short HGP.out HGQ.out x hx; omega)
          go_wp2_with fail
          refine hst.mono ?_
          clear hst
          rintro e w112 ⟨vw112, rfl, hBX, hLX⟩
          have HRrw112 : Hid (Rows w112 (.slice aw109 Lw109.length cw109) Lw109) := HRrw111.out.below hBX
          clear HRrw111
          have HCw112 : Hid (Below w7.heap.size w7 w112) := HCw111.out.trans (hBX.mono HCw111.out.size)
          have HXw112 : Hid (BoxAt w103.heap.size w112 (.slice aw109 Lw109.length cw109)) := HXw111.out.below hBX
          clear HCw111 HXw111
          have HLw112 : Hid (IsZero nU → ∃ L, Rows w112 vw112 L ∧ IsFacets (p ++ q) L ∧ L.length ≤ 1000000 ∧ ∀ x ∈ L, x.length ≤ 1000000) := hLX
          clear hBX hLX
          have hcb := HXw112.out.1
          have his := is_k (HU.out.state HGS.out.state) (vc := .slice aw109 Lw109.length cw109) w112 HVw109.out HRrw112.out HZw109.out HLw112.out (hE0.below HCw112.out)
          go_wp2_with fail
          refine his.mono ?_
          clear his hcb
          clear HRrw112 HVw109 HZw109 HLw112
          rintro e w113 ⟨rfl, hBX⟩
          have HCw113 : Hid (Below w7.heap.size w7 w113) := HCw112.out.trans (hBX.mono HCw112.out.size)
          have HXw113 : Hid (BoxAt w103.heap.size w113 (.slice aw109 Lw109.length cw109)) := HXw112.out.below hBX
          clear HCw112 HXw112
          clear hBX
          clear HS6
          have hcx := cx_ va A _ (HA0.out.below HCw113.out) hA1 hA2
          go_wp2_with fail
          refine hcx.mono ?_
          clear hcx
          rintro e w114 ⟨vw114, rfl, hrX, hBX⟩
          have HRw114 : Hid (Rows w114 vw114 A) := hrX
          have HCw114 : Hid (Below w7.heap.size w7 w114) := HCw113.out.trans (hBX.mono HCw113.out.size)
          have HXw114 : Hid (BoxAt w103.heap.size w114 (.slice aw109 Lw109.length cw109)) := HXw113.out.below hBX
          clear HCw113 HXw113
          clear hrX hBX
          have hcx := cx_ vb B _ (HBB.out.below HCw114.out) hB1 hB2
          go_wp2_with fail
          refine hcx.mono ?_
          clear hcx
          rintro e w115 ⟨vw115, rfl, hrX, hBX⟩
          have HRw115 : Hid (Rows w115 vw115 B) := hrX
          have HRw114b : Hid (Rows w115 vw114 A) := HRw114.out.below hBX
          have HCw115 : Hid (Below w7.heap.size w7 w115) := HCw114.out.trans (hBX.mono HCw114.out.size)
          have HXw115 : Hid (BoxAt w103.heap.size w115 (.slice aw109 Lw109.length cw109)) := HXw114.out.below hBX
          clear HCw114 HXw114
          clear hrX hBX
          have hst := (meet_call vw114 vw115 A B _ (hE0.below HCw115.out) HRw114b.out HRw115.out hA1 hA2 hB1 hB2).mono (fun e w' h => two_k HGS.out (sets := bothI) HM.out (meet_two (h)))
          go_wp2_with fail
          refine hst.mono ?_
          clear hst
          rintro e w116 ⟨vw116, Lw116, rfl, hoX, hBX, hzX, heX⟩
          obtain ⟨aw116, cw116, rfl, -, -⟩ := hoX.rows.open_
          have HOw116 : Hid (OwnRows w115.heap.size w116 (.slice aw116 Lw116.length cw116) Lw116) := hoX
          have HZw116 : Hid (IsZero nM → IsFacets (bothI p q) Lw116) := hzX
          have HVw116 : Hid (¬ IsZero nM → Value.slice aw116 Lw116.length cw116 = .slice none 0 0) := heX
          have hltw116 : w103.heap.size < w115.heap.size := HXw115.out.lt
          have HCw116 : Hid (Below w7.heap.size w7 w116) := HCw115.out.trans (hBX.mono HCw115.out.size)
          have HXw116 : Hid (BoxAt w103.heap.size w116 (.slice aw109 Lw109.length cw109)) := HXw115.out.below hBX
          clear HCw115 HXw115
          clear hoX hBX hzX heX
          have hcb := HXw116.out.1
          have hzb := HXw116.out.2
          have HXn : Hid (BoxAt w103.heap.size (w116.setCell ⟨w103.heap.size, 0, none⟩ (.slice aw116 Lw116.length cw116)) (.slice aw116 Lw116.length cw116)) := HXw116.out.set _
          have HCn : Hid (Below w7.heap.size w7 (w116.setCell ⟨w103.heap.size, 0, none⟩ (.slice aw116 Lw116.length cw116))) := HCw116.out.setCell (p := ⟨w103.heap.size, 0, none⟩) hBXB _
          have HRn : Hid (Rows (w116.setCell ⟨w103.heap.size, 0, none⟩ (.slice aw116 Lw116.length cw116)) (.slice aw116 Lw116.length cw116) Lw116) := (HOw116.out.setCell (p := ⟨w103.heap.size, 0, none⟩) hltw116 _).rows
          clear HCw116 HXw116 HOw116 hltw116
          go_wp2
          go_loopw [19, 20] (fun v r wr => ∃ (k : Nat) (us : List Value), k ≤ p.length ∧ r = .int .i64 k ∧ wr.ownsRow ((w116.setCell ⟨w103.heap.size, 0, none⟩ (.slice aw116 Lw116.length cw116))).heap.size 39 1 v us.length us ∧ Heads w7 us (bothI (p.take k) q) ∧ Below ((w116.setCell ⟨w103.heap.size, 0, none⟩ (.slice aw116 Lw116.length cw116))).heap.size ((w116.setCell ⟨w103.heap.size, 0, none⟩ (.slice aw116 Lw116.length cw116))) wr) (fun _ r _ => p.length - (intOf r).toNat)
          case atStart => exact ⟨0, [], Nat.zero_le _, rfl, World.ownsRow_nil _ _ _ _, ⟨by simp [bothI], fun k u x h => by simp at h⟩, Below.refl _ _⟩
          case round =>
            obtain ⟨k, us, hk, rfl, hown, hh, hBm⟩ := hrel
            obtain ⟨wm, hwm⟩ : ∃ wm : World, wm = wr := ⟨_, rfl⟩
            subst hwm
            have HH : Hid (Heads w7 us (bothI (p.take k) q)) := hh
            have HCm : Hid (Below w7.heap.size w7 wm) := HCn.out.trans (hBm.mono HCn.out.size)
            have hul : us.length ≤ 40 := by
              have h1 := hh.1
              have h2 := List.length_filter_le (fun x => decide (x ∈ q)) (p.take k)
              have h3 : (bothI (p.take k) q).length ≤ (p.take k).length := h2
              rw [List.length_take] at h3
              omega
            have hbm := hBm.size
            clear hh
            by_cases hlt : k < p.length
            · obtain ⟨ap', cp', eap, -, hcp⟩ := HPR.out.open_
              obtain ⟨rfl, rfl⟩ : ap = ap' ∧ cp = cp' := by simpa using eap
              obtain ⟨b, o, rfl, -, hb, c⟩ := hcp (by omega)
              obtain ⟨ax, cx, g1, i1⟩ := c k hlt
              have HSU := both_succ (q := q) hlt
              have hmem : p[k]?.getD [] ∈ p := by rw [List.getElem?_eq_getElem hlt]; simp
              obtain ⟨x, hxe⟩ : ∃ x, p[k]?.getD [] = x := ⟨_, rfl⟩
              rw [hxe] at g1 i1 HSU hmem
              have HS2 : Hid (bothI (p.take (k + 1)) q = bothI (p.take k) q ++ (if x ∈ q then [x] else [])) := HSU
              have HI1 : Hid (Ints w7 (.slice ax x.length cx) x) := i1
              have g2 : wm.cell? ⟨b, o + k, none⟩ = some (.slice ax x.length cx) := (HCm.out.cell (p := ⟨b, o + k, none⟩) hb).trans g1
              have hio := index_of (.slice aq q.length cq) (.slice ax x.length cx) q x wm (HQR.out.below HCm.out) (i1.below HCm.out) (by omega) (fun y hy => by have := HGQ.out.short y hy; omega)
              clear c hcp eap hxe i1 HSU hmem
              go_wp2_with fail
              refine hio.mono ?_
              clear hio
              rintro e wx ⟨ix, rfl, hii, -, qd, hwx⟩
              have hd : Below wm.heap.size wm wx := by rw [hwx]; exact ⟨rfl, rfl, rfl, Nat.le_refl _, fun _ _ => rfl⟩
              have hBx : Below ((w116.setCell ⟨w103.heap.size, 0, none⟩ (.slice aw116 Lw116.length cw116))).heap.size ((w116.setCell ⟨w103.heap.size, 0, none⟩ (.slice aw116 Lw116.length cw116))) wx := hBm.trans (hd.mono hbm)
              have hownx : wx.ownsRow ((w116.setCell ⟨w103.heap.size, 0, none⟩ (.slice aw116 Lw116.length cw116))).heap.size 39 1 u19 us.length us := by rw [hwx]; exact hown
              have g3 : wx.cell? ⟨b, o + k, none⟩ = some (.slice ax x.length cx) := (hd.cell (p := ⟨b, o + k, none⟩) (cell_lt g2)).trans g2
              have hbx := hBx.size
              clear hwx hown hd g2 g1
              by_cases hq : 0 ≤ ix
              · have HQI : Hid (x ∈ q) := hii.1 hq
                clear hii
                go_wp2_with (first
                  | (at_builtin; refine wpList_append_slice rfl (.tmp 128) (.tmp 133) 22 rfl ((w116.setCell ⟨w103.heap.size, 0, none⟩ (.slice aw116 Lw116.length cw116))).heap.size 39 i0 (.slice none 0 0) 24 Tryz.underlying22 hi hz0 hz1 hz2 rfl _ _ _ rfl (hownx.alloc _) _ [.slice ax x.length cx] rfl (slice_one _ _ _) (by simp [Value.oneCell']) (by simp; omega) (by unfold maxLen; simp; omega) (by simp at hbx ⊢; omega) ?_; intro v4 w4 hown4 hg4 hl4)
                  | go_in)
                (try go_frame)
                have hB4 : Below ((w116.setCell ⟨w103.heap.size, 0, none⟩ (.slice aw116 Lw116.length cw116))).heap.size ((w116.setCell ⟨w103.heap.size, 0, none⟩ (.slice aw116 Lw116.length cw116))) w4 := (hBx.alloc hbx _).grown hg4 (by simp at hbx ⊢; omega) (fun j hj => (hownx.lt j hj).1)
                have HH4 : Hid (Heads w7 (us ++ [.slice ax x.length cx]) (bothI (p.take (k + 1)) q)) := by
                  rw [HS2.out, if_pos HQI.out]; exact HH.out.snoc HI1.out
                have ho4 : w4.ownsRow ((w116.setCell ⟨w103.heap.size, 0, none⟩ (.slice aw116 Lw116.length cw116))).heap.size 39 1 v4 (us ++ [Value.slice ax x.length cx]).length (us ++ [Value.slice ax x.length cx]) := by rw [List.length_append]; exact hown4
                clear hown4 hg4 hl4
                go_roundw
                case rel => exact ⟨k + 1, us ++ [.slice ax x.length cx], by omega, by go_num, ho4, HH4.out, hB4⟩
                case measure => simp [intOf]; omega
              · have HQI : Hid (¬ x ∈ q) := fun h => hq (hii.2 h)
                clear hii
                go_wp2
                go_roundw
                case rel => exact ⟨k + 1, us, by omega, by go_num, hownx, by rw [HS2.out, if_neg HQI.out, List.append_nil]; exact HH.out, hBx⟩
                case measure => simp [intOf]; omega
            · obtain rfl : k = p.length := by omega
              have HSm : Hid (Rows wm u19 (bothI p q)) := by
                have h1 := HH.out
                rw [List.take_of_length_le (Nat.le_refl _)] at h1
                exact h1.rows HCm.out hown
              have HRrm : Hid (Rows wm (.slice aw116 Lw116.length cw116) Lw116) := HRn.out.below hBm
              have HXm : Hid (BoxAt w103.heap.size wm (.slice aw116 Lw116.length cw116)) := HXn.out.below hBm
              clear HRn hown hBm hbm hul HH HCn HXn hcb hzb
              have hst := made_v CL HM.out (u19) _ HSm.out (fun x hx => HGP.out.rising x (List.mem_filter.1 hx).1) (by have h1 : (bothI p q).length ≤ p.length := List.length_filter_le _ _; omega) (fun x hx => by have := (fun x hx => HGP.out.short x (List.mem_filter.1 hx).1 : ∀ x ∈ bothI p q, x.length ≤ 7) x hx; omega)
              go_wp2_with fail
              refine hst.mono ?_
              clear hst
              rintro e w117 ⟨vw117, rfl, hBX, hLX⟩
              have HRrw117 : Hid (Rows w117 (.slice aw116 Lw116.length cw116) Lw116) := HRrm.out.below hBX
              clear HRrm
              have HCw117 : Hid (Below w7.heap.size w7 w117) := HCm.out.trans (hBX.mono HCm.out.size)
              have HXw117 : Hid (BoxAt w103.heap.size w117 (.slice aw116 Lw116.length cw116)) := HXm.out.below hBX
              clear HCm HXm
              have HLw117 : Hid (IsZero nM → ∃ L, Rows w117 vw117 L ∧ IsFacets (bothI p q) L ∧ L.length ≤ 1000000 ∧ ∀ x ∈ L, x.length ≤ 1000000) := hLX
              clear hBX hLX
              have hcb := HXw117.out.1
              have his := is_k (HM.out.state HGS.out.state) (vc := .slice aw116 Lw116.length cw116) w117 HVw116.out HRrw117.out HZw116.out HLw117.out (hE0.below HCw117.out)
              go_wp2_with fail
              refine his.mono ?_
              clear his hcb
              clear HRrw117 HVw116 HZw116 HLw117
              rintro e w118 ⟨rfl, hBX⟩
              have HCw118 : Hid (Below w7.heap.size w7 w118) := HCw117.out.trans (hBX.mono HCw117.out.size)
              have HXw118 : Hid (BoxAt w103.heap.size w118 (.slice aw116 Lw116.length cw116)) := HXw117.out.below hBX
              clear HCw117 HXw117
              clear hBX
              clear HSm
              have hcx := cx_ va A _ (HA0.out.below HCw118.out) hA1 hA2
              go_wp2_with fail
              refine hcx.mono ?_
              clear hcx
              rintro e w119 ⟨vw119, rfl, hrX, hBX⟩
              have HRw119 : Hid (Rows w119 vw119 A) := hrX
              have HCw119 : Hid (Below w7.heap.size w7 w119) := HCw118.out.trans (hBX.mono HCw118.out.size)
              have HXw119 : Hid (BoxAt w103.heap.size w119 (.slice aw116 Lw116.length cw116)) := HXw118.out.below hBX
              clear HCw118 HXw118
              clear hrX hBX
              have hst := (cone_call vw119 A _ (hE0.below HCw119.out) HRw119.out hA1 hA2).mono (fun e w' h => two_k HGC.out (sets := joinS) HCC.out (h))
              go_wp2_with fail
              refine hst.mono ?_
              clear hst
              rintro e w120 ⟨vw120, Lw120, rfl, hoX, hBX, hzX, heX⟩
              obtain ⟨aw120, cw120, rfl, -, -⟩ := hoX.rows.open_
              have HOw120 : Hid (OwnRows w119.heap.size w120 (.slice aw120 Lw120.length cw120) Lw120) := hoX
              have HZw120 : Hid (IsZero nC → IsFacets (joinS p [[0]]) Lw120) := hzX
              have HVw120 : Hid (¬ IsZero nC → Value.slice aw120 Lw120.length cw120 = .slice none 0 0) := heX
              have hltw120 : w103.heap.size < w119.heap.size := HXw119.out.lt
              have HCw120 : Hid (Below w7.heap.size w7 w120) := HCw119.out.trans (hBX.mono HCw119.out.size)
              have HXw120 : Hid (BoxAt w103.heap.size w120 (.slice aw116 Lw116.length cw116)) := HXw119.out.below hBX
              clear HCw119 HXw119
              clear hoX hBX hzX heX
              have hcb := HXw120.out.1
              have hzb := HXw120.out.2
              have HXn : Hid (BoxAt w103.heap.size (w120.setCell ⟨w103.heap.size, 0, none⟩ (.slice aw120 Lw120.length cw120)) (.slice aw120 Lw120.length cw120)) := HXw120.out.set _
              have HCn : Hid (Below w7.heap.size w7 (w120.setCell ⟨w103.heap.size, 0, none⟩ (.slice aw120 Lw120.length cw120))) := HCw120.out.setCell (p := ⟨w103.heap.size, 0, none⟩) hBXB _
              have HRn : Hid (Rows (w120.setCell ⟨w103.heap.size, 0, none⟩ (.slice aw120 Lw120.length cw120)) (.slice aw120 Lw120.length cw120) Lw120) := (HOw120.out.setCell (p := ⟨w103.heap.size, 0, none⟩) hltw120 _).rows
              clear HCw120 HXw120 HOw120 hltw120
              have hBr := two_below ((w120.setCell ⟨w103.heap.size, 0, none⟩ (.slice aw120 Lw120.length cw120))) (.int .i64 0) (.slice (some ⟨((w120.setCell ⟨w103.heap.size, 0, none⟩ (.slice aw120 Lw120.length cw120))).heap.size, 0, none⟩) 1 1) 3 39
              have hjo := join_of (.slice ap p.length cp) _ p [[0]] HGP.out good_point _ (HPR.out.below (HCn.out.trans (hBr.mono HCn.out.size))) (rows_point ((w120.setCell ⟨w103.heap.size, 0, none⟩ (.slice aw120 Lw120.length cw120))) 3 39) hpl (by decide)
              simp only [World.size_setCell] at hjo hBr
              go_wp2_with fail
              refine hjo.mono ?_
              clear hjo
              rintro e w121 ⟨vw121, rfl, hrX, hBX⟩
              have hB7 : Below ((w120.setCell ⟨w103.heap.size, 0, none⟩ (.slice aw120 Lw120.length cw120))).heap.size ((w120.setCell ⟨w103.heap.size, 0, none⟩ (.slice aw120 Lw120.length cw120))) w121 := by simp only [World.size_setCell]; exact hBr.trans (hBX.mono (by have h8 := hBr.size; rw [World.size_setCell] at h8; exact h8))
              have HSw121 : Hid (Rows w121 vw121 (joinS p [[0]])) := hrX
              have HRrw121 : Hid (Rows w121 (.slice aw120 Lw120.length cw120) Lw120) := HRn.out.below hB7
              clear HRn
              have HCw121 : Hid (Below w7.heap.size w7 w121) := HCn.out.trans (hB7.mono HCn.out.size)
              have HXw121 : Hid (BoxAt w103.heap.size w121 (.slice aw120 Lw120.length cw120)) := HXn.out.below hB7
              clear HCn HXn
              clear hB7 hBX hrX hBr hcb hzb
              have hst := made_v CL HCC.out (vw121) _ HSw121.out (join_rising HGP.out good_point) (by have := join_length (q := [[0]]) hpl (by decide); omega) (fun x hx => by have := join_short HGP.out good_point x hx; omega)
              go_wp2_with fail
              refine hst.mono ?_
              clear hst
              rintro e w122 ⟨vw122, rfl, hBX, hLX⟩
              have HRrw122 : Hid (Rows w122 (.slice aw120 Lw120.length cw120) Lw120) := HRrw121.out.below hBX
              clear HRrw121
              have HCw122 : Hid (Below w7.heap.size w7 w122) := HCw121.out.trans (hBX.mono HCw121.out.size)
              have HXw122 : Hid (BoxAt w103.heap.size w122 (.slice aw120 Lw120.length cw120)) := HXw121.out.below hBX
              clear HCw121 HXw121
              have HLw122 : Hid (IsZero nC → ∃ L, Rows w122 vw122 L ∧ IsFacets (joinS p [[0]]) L ∧ L.length ≤ 1000000 ∧ ∀ x ∈ L, x.length ≤ 1000000) := hLX
              clear hBX hLX
              have hcb := HXw122.out.1
              have his := is_k (HCC.out.state HGC.out.state) (vc := .slice aw120 Lw120.length cw120) w122 HVw120.out HRrw122.out HZw120.out HLw122.out (hE0.below HCw122.out)
              go_wp2_with fail
              refine his.mono ?_
              clear his hcb
              clear HRrw122 HVw120 HZw120 HLw122
              rintro e w123 ⟨rfl, hBX⟩
              have HCw123 : Hid (Below w7.heap.size w7 w123) := HCw122.out.trans (hBX.mono HCw122.out.size)
              have HXw123 : Hid (BoxAt w103.heap.size w123 (.slice aw120 Lw120.length cw120)) := HXw122.out.below hBX
              clear HCw122 HXw122
              clear hBX
              have hcx := cx_ va A _ (HA0.out.below HCw123.out) hA1 hA2
              go_wp2_with fail
              refine hcx.mono ?_
              clear hcx
              rintro e w124 ⟨vw124, rfl, hrX, hBX⟩
              have HRw124 : Hid (Rows w124 vw124 A) := hrX
              have HCw124 : Hid (Below w7.heap.size w7 w124) := HCw123.out.trans (hBX.mono HCw123.out.size)
              have HXw124 : Hid (BoxAt w103.heap.size w124 (.slice aw120 Lw120.length cw120)) := HXw123.out.below hBX
              clear HCw123 HXw123
              clear hrX hBX
              have hst := (suspend_call vw124 A _ (hE0.below HCw124.out) HRw124.out hA1 hA2).mono (fun e w' h => two_k HGT.out (sets := joinS) HTT.out (h))
              go_wp2_with fail
              refine hst.mono ?_
              clear hst
              rintro e w125 ⟨vw125, Lw125, rfl, hoX, hBX, hzX, heX⟩
              obtain ⟨aw125, cw125, rfl, -, -⟩ := hoX.rows.open_
              have HOw125 : Hid (OwnRows w124.heap.size w125 (.slice aw125 Lw125.length cw125) Lw125) := hoX
              have HZw125 : Hid (IsZero nT → IsFacets (joinS p [[0], [1]]) Lw125) := hzX
              have HVw125 : Hid (¬ IsZero nT → Value.slice aw125 Lw125.length cw125 = .slice none 0 0) := heX
              have hltw125 : w103.heap.size < w124.heap.size := HXw124.out.lt
              have HCw125 : Hid (Below w7.heap.size w7 w125) := HCw124.out.trans (hBX.mono HCw124.out.size)
              have HXw125 : Hid (BoxAt w103.heap.size w125 (.slice aw120 Lw120.length cw120)) := HXw124.out.below hBX
              clear HCw124 HXw124
              clear hoX hBX hzX heX
              have hcb := HXw125.out.1
              have hzb := HXw125.out.2
              have HXn : Hid (BoxAt w103.heap.size (w125.setCell ⟨w103.heap.size, 0, none⟩ (.slice aw125 Lw125.length cw125)) (.slice aw125 Lw125.length cw125)) := HXw125.out.set _
              have HCn : Hid (Below w7.heap.size w7 (w125.setCell ⟨w103.heap.size, 0, none⟩ (.slice aw125 Lw125.length cw125))) := HCw125.out.setCell (p := ⟨w103.heap.size, 0, none⟩) hBXB _
              have HRn : Hid (Rows (w125.setCell ⟨w103.heap.size, 0, none⟩ (.slice aw125 Lw125.length cw125)) (.slice aw125 Lw125.length cw125) Lw125) := (HOw125.out.setCell (p := ⟨w103.heap.size, 0, none⟩) hltw125 _).rows
              clear HCw125 HXw125 HOw125 hltw125
              have hBr : Below ((w125.setCell ⟨w103.heap.size, 0, none⟩ (.slice aw125 Lw125.length cw125))).heap.size ((w125.setCell ⟨w103.heap.size, 0, none⟩ (.slice aw125 Lw125.length cw125))) (((((w125.setCell ⟨w103.heap.size, 0, none⟩ (.slice aw125 Lw125.length cw125))).alloc (.cells #[.int .i64 0] 3)).alloc (.cells #[.int .i64 1] 3)).alloc (.cells #[.slice (some ⟨((w125.setCell ⟨w103.heap.size, 0, none⟩ (.slice aw125 Lw125.length cw125))).heap.size, 0, none⟩) 1 1, .slice (some ⟨((w125.setCell ⟨w103.heap.size, 0, none⟩ (.slice aw125 Lw125.length cw125))).heap.size + 1, 0, none⟩) 1 1] 39)) := (two_below ((w125.setCell ⟨w103.heap.size, 0, none⟩ (.slice aw125 Lw125.length cw125))) (.int .i64 0) (.int .i64 1) 3 3).alloc (by simp; omega) _
              have hjo := join_of (.slice ap p.length cp) _ p [[0], [1]] HGP.out good_two _ (HPR.out.below (HCn.out.trans (hBr.mono HCn.out.size))) (rows_two ((w125.setCell ⟨w103.heap.size, 0, none⟩ (.slice aw125 Lw125.length cw125))) 3 39) hpl (by decide)
              simp only [World.size_setCell] at hjo hBr
              go_wp2_with fail
              refine hjo.mono ?_
              clear hjo
              rintro e w126 ⟨vw126, rfl, hrX, hBX⟩
              have hB7 : Below ((w125.setCell ⟨w103.heap.size, 0, none⟩ (.slice aw125 Lw125.length cw125))).heap.size ((w125.setCell ⟨w103.heap.size, 0, none⟩ (.slice aw125 Lw125.length cw125))) w126 := by simp only [World.size_setCell]; exact hBr.trans (hBX.mono (by have h8 := hBr.size; rw [World.size_setCell] at h8; exact h8))
              have HSw126 : Hid (Rows w126 vw126 (joinS p [[0], [1]])) := hrX
              have HRrw126 : Hid (Rows w126 (.slice aw125 Lw125.length cw125) Lw125) := HRn.out.below hB7
              clear HRn
              have HCw126 : Hid (Below w7.heap.size w7 w126) := HCn.out.trans (hB7.mono HCn.out.size)
              have HXw126 : Hid (BoxAt w103.heap.size w126 (.slice aw125 Lw125.length cw125)) := HXn.out.below hB7
              clear HCn HXn
              clear hB7 hBX hrX hBr hcb hzb
              have hst := made_v CL HTT.out (vw126) _ HSw126.out (join_rising HGP.out good_two) (by have := join_length (q := [[0], [1]]) hpl (by decide); omega) (fun x hx => by have := join_short HGP.out good_two x hx; omega)
              go_wp2_with fail
              refine hst.mono ?_
              clear hst
              rintro e w127 ⟨vw127, rfl, hBX, hLX⟩
              have HRrw127 : Hid (Rows w127 (.slice aw125 Lw125.length cw125) Lw125) := HRrw126.out.below hBX
              clear HRrw126
              have HCw127 : Hid (Below w7.heap.size w7 w127) := HCw126.out.trans (hBX.mono HCw126.out.size)
              have HXw127 : Hid (BoxAt w103.heap.size w127 (.slice aw125 Lw125.length cw125)) := HXw126.out.below hBX
              clear HCw126 HXw126
              have HLw127 : Hid (IsZero nT → ∃ L, Rows w127 vw127 L ∧ IsFacets (joinS p [[0], [1]]) L ∧ L.length ≤ 1000000 ∧ ∀ x ∈ L, x.length ≤ 1000000) := hLX
              clear hBX hLX
              have hcb := HXw127.out.1
              have his := is_k (HTT.out.state HGT.out.state) (vc := .slice aw125 Lw125.length cw125) w127 HVw125.out HRrw127.out HZw125.out HLw127.out (hE0.below HCw127.out)
              go_wp2_with fail
              refine his.mono ?_
              clear his hcb
              clear HRrw127 HVw125 HZw125 HLw127
              rintro e w128 ⟨rfl, hBX⟩
              have HCw128 : Hid (Below w7.heap.size w7 w128) := HCw127.out.trans (hBX.mono HCw127.out.size)
              have HXw128 : Hid (BoxAt w103.heap.size w128 (.slice aw125 Lw125.length cw125)) := HXw127.out.below hBX
              clear HCw127 HXw127
              clear hBX
              go_wp2
              go_ret
              exact ⟨rfl, HB7.out.trans (HCw128.out.mono HB7.out.size)⟩

end Go.Proofs.YtopopbhpclhinaaGreatDoor
