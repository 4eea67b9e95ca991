/- The reference's classes of a dimension. -/
import Derived.Test.YtldknhganoiajaaGreatDoorCupRefCocS
import Derived.Test.YtldknhganoiajaaGreatDoorCupRefWithX
namespace Go.Proofs.YtldknhganoiajaaGreatDoor
open Go.RowKit Go.Sort

/-- The classes that the reference finds. -/
def clsR (all : List (List Int)) (d : Nat) : List Nat := selS (allS (rowsD all d)) (cocR all d)
theorem clsR_is {l all : List (List Int)} (hg : Good l all) (h60 : all.length ≤ 60) (d : Nat) : ClsSpec all d (clsR all d) := by
  have h6 := cnt60 h60 d
  have hr := rowsD_lt all d (show nD all d ≤ 64 by omega)
  have hc := cocR_spec hg h60 d
  unfold clsR
  rw [← Alike.sel (alike_fed hr) (fun x hx => lt64 (hc.is x hx).1 (by omega))]
  exact cls_spec h60 hc
theorem SpanIn.x {base P : Nat} {W : World} {v : Value} {rows : List Nat} (h : SpanIn base P W v rows) {X : Nat → Prop} (hX : ∀ b, X b → W.heap.size ≤ b) : SpanX X base P W v rows := by
  obtain ⟨vs, h1, h2⟩ := h.rows
  exact ⟨h.cell, h.free, ⟨vs, h1, fun k u x hu hx => SliceIn.mono (h2 k u x hu hx) (fun b hb hs => ⟨⟨hs.1, fun h => by have := hX b h; omega⟩, hs.2⟩)⟩, h.low, h.size⟩
theorem SpanX.mono {X X' : Nat → Prop} {base P : Nat} {W : World} {v : Value} {rows : List Nat} (h : SpanX X base P W v rows) (hX : ∀ b, b < W.heap.size → X' b → X b) : SpanX X' base P W v rows := by
  obtain ⟨vs, h1, h2⟩ := h.rows
  exact ⟨h.cell, h.free, ⟨vs, h1, fun k u x hu hx => SliceIn.mono (h2 k u x hu hx) (fun b hb hs => ⟨⟨hs.1.1, fun h => hs.1.2 (hX b hb h)⟩, hs.2⟩)⟩, h.low, h.size⟩
theorem SpanX.own_low {X : Nat → Prop} {base P : Nat} {W : World} {v : Value} {rows : List Nat} (h : SpanX X base P W v rows) {b : Nat} (hb : v.ownBlock = some b) : base ≤ b ∧ b < W.heap.size := by
  obtain ⟨vs, h1, -⟩ := h.rows
  exact h1.lt b hb
/-- A block of X alone has changed. -/
theorem SpanX.kept {X : Nat → Prop} {base P : Nat} {W W' : World} {v : Value} {rows : List Nat} {row : Option Nat} (h : SpanX X base P W v rows) (hg : W.grownBy W' row) (hr : ∀ b, row = some b → X b ∧ b ≠ P ∧ v.ownBlock ≠ some b) : SpanX X base P W' v rows := by
  obtain ⟨vs, h1, h2⟩ := h.rows
  have hP := cell_lt h.cell
  have hne : some P ≠ row := fun e => (hr P e.symm).2.1 rfl
  refine ⟨(World.cell?_of_block (hg.block P hP hne)).trans h.cell, (World.frozen?_of_block (hg.block P hP hne)).trans h.free, ⟨vs, h1.kept hg ?_, fun k u x hu hx => SliceIn.keep (h2 k u x hu hx) (fun b hb hs => hg.block b hb (fun e => hs.1.2 (hr b e.symm).1))⟩, h.low, Nat.le_trans h.size hg.size⟩
  cases e : v.ownBlock with
  | none => exact .inl rfl
  | some b => exact .inr (fun e2 => (hr b e2.symm).2.2 e)
theorem ownsRow_block {w w' : World} {base n k : Nat} {t : TypeId} {v : Value} {xs : List Value} (h : w.ownsRow base t k v n xs) (hk : ∀ g, v.ownBlock = some g → w'.heap[g]? = w.heap[g]?) : w'.ownsRow base t k v n xs := by
  obtain ⟨h1, h2 | ⟨g, cap, cur, e, hb, hh, r⟩⟩ := h
  · exact ⟨h1, .inl h2⟩
  · exact ⟨h1, .inr ⟨g, cap, cur, e, hb, by rw [hk g (by rw [e]; rfl)]; exact hh, r⟩⟩
theorem selS_take {S C : List Nat} {k : Nat} (hk : k < C.length) : selS S (C.take (k + 1)) = bif restS ((C.take k).foldl withS S) (C[k]?.getD 0) == 0 then selS S (C.take k) else selS S (C.take k) ++ [C[k]?.getD 0] := by
  have e : C.take (k + 1) = C.take k ++ [C[k]?.getD 0] := by rw [List.take_add_one, List.getElem?_eq_getElem hk]; rfl
  rw [e, selS_snoc]
theorem foldS_take {S C : List Nat} {k : Nat} (hk : k < C.length) : (C.take (k + 1)).foldl withS S = withS ((C.take k).foldl withS S) (C[k]?.getD 0) := by
  have e : C.take (k + 1) = C.take k ++ [C[k]?.getD 0] := by rw [List.take_add_one, List.getElem?_eq_getElem hk]; rfl
  rw [e, List.foldl_append]; rfl
theorem cocR_len {l all : List (List Int)} (_hg : Good l all) (h60 : all.length ≤ 60) (d : Nat) : (cocR all d).length ≤ 60 := by
  unfold cocR
  rw [List.length_map]
  have h1 := List.length_filter_le (fun r => decide (ovr all d ≤ low r)) (allS (boths all d))
  have h2 := allS_len (boths all d) []
  have h3 : (boths all d).length = nD all d := by simp [boths]
  have h4 := cnt60 h60 d
  unfold allS at h1
  simp at h2
  unfold allS
  omega

set_option maxRecDepth 100000 in
set_option maxHeartbeats 8000000 in
theorem classesOf_ {l all : List (List Int)} (hg : Good l all) (va : Value) (d : Nat) (hd : d ≤ 90) (w : World) (ha : Rows w va all) (hl : all.length ≤ 60) (hx : ∀ x ∈ all, x.length ≤ 1000) :
    Calls Tryz.prog 25 #[va, .int .i64 (d : Int)] w fun e w' => ∃ v, e = .returned v ∧ RowsIn (fun b => w.heap.size ≤ b) w' v ((clsR all d).map bitsI) ∧ Below w.heap.size w w' := by
  obtain ⟨i2, hi2, hx0, hx1, hx2⟩ := info_parts Tryz.info39
  have hds := deltasOfP_ va all d hd w ha hl hx
  have hco : ∀ W, Below w.heap.size w W → Calls Tryz.prog 44 #[va, .int .i64 (d : Int)] W fun e w' => ∃ v, e = .returned v ∧ OwnRows W.heap.size w' v ((cocR all d).map bitsI) ∧ Below W.heap.size W w' := fun W hW => cocyclesOf_ hg va d hd W (ha.below hW) hl hx
  have h6 := cnt60 hl d
  have hrl := rowsD_lt all d (show nD all d ≤ 64 by omega)
  have HCL : Hid (∀ x ∈ cocR all d, x < 2 ^ 64) := fun x hx => lt64 ((cocR_spec hg hl d).is x hx).1 (by omega)
  have hm60 := cocR_len hg hl d
  have HOK : Hid (∀ k, SpOk (((cocR all d).take k).foldl withS (allS (rowsD all d))) ∧ (((cocR all d).take k).foldl withS (allS (rowsD all d))).length ≤ 1000) := fun k => by
    refine ⟨(all_span ((cocR all d).take k) _ (allS_ok hrl) (fun r hr => HCL.out r (List.mem_of_mem_take hr))).1, ?_⟩
    have h1 := allS_len ((cocR all d).take k) (allS (rowsD all d))
    have h2 := allS_len (rowsD all d) []
    have h3 : ((cocR all d).take k).length ≤ (cocR all d).length := by rw [List.length_take]; omega
    have h4 : (rowsD all d).length ≤ 60 := by
      cases d with
      | zero => simp [rowsD]
      | succ d => simp [rowsD]; have := cnt60 hl d; unfold nD at this; omega
    unfold allS at h1 h2 ⊢
    simp at h2
    omega
  unfold clsR
  obtain ⟨C, hC⟩ : ∃ C, cocR all d = C := ⟨_, rfl⟩
  rw [hC] at hco HCL HOK hm60 ⊢
  obtain ⟨S, hS⟩ : ∃ S, allS (rowsD all d) = S := ⟨_, rfl⟩
  rw [hS] at hds HOK ⊢
  obtain ⟨aa, ca, rfl, -, -⟩ := ha.open_
  obtain ⟨A0, hA0⟩ : ∃ A0, all.length = A0 := ⟨_, rfl⟩
  rw [hA0] at hds hco ⊢
  clear ha hl hx hA0 hS hC hrl h6 hg
  go_enter Tryz.func25, Tryz.ntmps25
  go_wp2_with fail
  refine hds.mono ?_
  clear hds
  rintro e V1 ⟨P, base, v0, rfl, hs0, hV1, hP⟩
  have hco1 := hco V1 hV1
  have HV1 : Hid (SpanIn base P V1 v0 S ∧ Below w.heap.size w V1 ∧ w.heap.size ≤ P ∧ P < V1.heap.size) := ⟨hs0, hV1, hP, cell_lt (p := ⟨P, 0, none⟩) hs0.cell⟩
  clear hs0 hV1 hP hco
  go_wp2_with fail
  refine hco1.mono ?_
  clear hco1
  rintro e V2 ⟨uC, rfl, hu, hV2⟩
  obtain ⟨m, hm⟩ : ∃ m, C.length = m := ⟨_, rfl⟩
  have HM := Hid.mk' hm
  obtain ⟨vs, o1, o2⟩ := hu
  rw [List.length_map, hm] at o1
  obtain ⟨aC, cC, rfl⟩ := own_form o1
  have HC : Hid (V2.ownsRow V1.heap.size 39 1 (.slice aC m cC) m vs ∧ (∀ (k : Nat) (u : Value) (x : List Int), vs[k]? = some u → (C.map bitsI)[k]? = some x → IntsIn (fun b => V1.heap.size ≤ b ∧ some b ≠ (Value.slice aC m cC).ownBlock) V2 u x) ∧ Below V1.heap.size V1 V2) := ⟨o1, o2, hV2⟩
  rw [hm] at hm60
  have HS2 := Hid.mk' (HV1.out.1.below hV2)
  clear o1 o2 hV2 hm
  go_wp2_with fail
  go_loopw [7, 8] (fun v p W => ∃ (k : Nat) (L : List Nat) (us : List Value) (vS : Value), k ≤ m ∧ p = .int .i64 (k : Int) ∧ Hid (L = selS S (C.take k) ∧ L.length ≤ k ∧ W.ownsRow V2.heap.size 39 1 v L.length us ∧ (∀ (j : Nat) (u : Value) (x : List Int), us[j]? = some u → (L.map bitsI)[j]? = some x → IntsIn (fun b => V1.heap.size ≤ b ∧ b < V2.heap.size) V2 u x) ∧ SpanX (fun b => v.ownBlock = some b) base P W vS ((C.take k).foldl withS S) ∧ (∀ b, vS.ownBlock = some b → (b < V1.heap.size ∨ V2.heap.size ≤ b) ∧ v.ownBlock ≠ some b) ∧ (∀ b, V1.heap.size ≤ b → b < V2.heap.size → W.heap[b]? = V2.heap[b]?) ∧ Below w.heap.size w W ∧ V2.heap.size ≤ W.heap.size)) (fun _ p _ => m - (intOf p).toNat)
  case atStart =>
    refine ⟨0, [], [], v0, by omega, rfl, rfl, by simp, World.ownsRow_nil _ _ _ _, fun j u x hu => by simp at hu, ?_, fun b hb => ⟨.inl ?_, fun h => by cases h⟩, fun _ _ _ => rfl, ?_, Nat.le_refl _⟩
    · simpa using HS2.out.x (X := fun b => (Value.slice none 0 0).ownBlock = some b) (fun b h => by cases h)
    · exact (HV1.out.1.own_low hb).2
    · exact HV1.out.2.1.trans (HC.out.2.2.mono HV1.out.2.1.size)
  case round =>
    obtain ⟨k, L, us, vS, hk, rfl, HK⟩ := hrel
    have o1 := HK.out.2.2.1
    have hLk := HK.out.2.1
    obtain ⟨M, hM⟩ : ∃ M, L.length = M := ⟨_, rfl⟩
    have HLM := Hid.mk' hM
    rw [hM] at o1 hLk
    obtain ⟨aL, cL, rfl⟩ := own_form o1
    have HO := Hid.mk' o1
    clear o1 hM
    by_cases hlt : k < m
    · have hkC : k < C.length := by rw [HM.out]; exact hlt
      obtain ⟨G, cG, hG, hG1, hG2⟩ := HC.out.1.form (by omega)
      cases hG
      have hvl : vs.length = m := by have := HC.out.1.1; simpa using this
      have hvk : vs[k]? = some vs[k] := List.getElem?_eq_getElem (by omega)
      have hck : (C.map bitsI)[k]? = some (bitsI (C[k]?.getD 0)) := by rw [List.getElem?_map, List.getElem?_eq_getElem hkC]; rfl
      have hi2' : IntsIn (fun b => V1.heap.size ≤ b ∧ b < V2.heap.size) V2 vs[k] (bitsI (C[k]?.getD 0)) := SliceIn.mono (S' := fun b => V1.heap.size ≤ b ∧ b < V2.heap.size) (HC.out.2.1 k _ _ hvk hck) (fun b hb hs => ⟨hs.1, hb⟩)
      have hgc : V2.cell? ⟨G, k, none⟩ = some vs[k] := by simpa [hvk] using HC.out.1.cellAt k (by omega)
      obtain ⟨a', c', he, -⟩ := IntsIn.open_ hi2'
      have hxC : C[k]?.getD 0 ∈ C := by rw [List.getElem?_eq_getElem hkC]; exact List.getElem_mem hkC
      have hx64 := HCL.out _ hxC
      have hst := selS_take (S := S) hkC
      have hft := foldS_take (S := S) hkC
      obtain ⟨x, hx⟩ : ∃ x, C[k]?.getD 0 = x := ⟨_, rfl⟩
      rw [hx] at hi2' he hx64 hst hft
      rw [he] at hi2' hgc
      have hl64 := bitsI_len x
      obtain ⟨n, hn⟩ : ∃ n, (bitsI x).length = n := ⟨_, rfl⟩
      rw [hn] at hi2' hgc hl64
      obtain ⟨k1, -, k3, k4, k5, k6, k7, k8, k9⟩ := HK.out
      have g1 := (World.cell?_of_block (k7 G hG1 hG2)).trans hgc
      have hlow : ∀ b, (Value.slice aL M cL).ownBlock = some b → V2.heap.size ≤ b ∧ b < wr.heap.size := fun b hb => HO.out.lt b hb
      have hinw : IntsIn (fun b => V1.heap.size ≤ b ∧ b < V2.heap.size) wr (.slice a' n c') (bitsI x) := SliceIn.keep hi2' (fun b _ hs => k7 b hs.1 hs.2)
      have hwi := withX_ (X := fun b => (Value.slice aL M cL).ownBlock = some b) base P vS (.slice a' n c') _ x wr (fun b hb h => by have := (hlow b h).2; omega) k5 (HOK.out k).2 (HOK.out k).1 hx64 (SliceIn.mono hinw (fun b _ hs => ⟨⟨by have h1 := HV1.out.1.size; have h2 : V1.heap.size ≤ b := hs.1; omega, fun h => by have h2 : b < V2.heap.size := hs.2; have := (hlow b h).1; omega⟩, fun e => by
        have h2 : V1.heap.size ≤ b ∧ b < V2.heap.size := hs
        have h3 := (k6 b e.symm).1
        omega⟩))
      have HI2 : Hid (IntsIn (fun b => V1.heap.size ≤ b ∧ b < V2.heap.size) V2 (.slice a' n c') (bitsI x)) := hi2'
      have HGC : Hid (V2.cell? ⟨G, k, none⟩ = some (.slice a' n c') ∧ V1.heap.size ≤ G ∧ G < V2.heap.size) := ⟨hgc, hG1, hG2⟩
      have HST := Hid.mk' hst
      have HFT := Hid.mk' hft
      rw [← HFT.out] at hwi
      clear hG1 hG2 hvl hvk hck hi2' hgc he hxC hx64 hst hft hx hn k1 k3 k4 k5 k6 k7 k8 k9 hinw hkC
      go_wp2_with fail
      refine hwi.mono ?_
      clear hwi g1
      rintro e W8 ⟨rfl, v8, hs8, hk8, ho8⟩
      have HK8 : Hid (W8.ownsRow V2.heap.size 39 1 (.slice aL M cL) M us ∧ SpanX (fun b => (Value.slice aL M cL).ownBlock = some b ∨ W8.heap.size ≤ b) base P W8 v8 ((C.take (k + 1)).foldl withS S) ∧ (∀ b, v8.ownBlock = some b → (b < V1.heap.size ∨ V2.heap.size ≤ b) ∧ (Value.slice aL M cL).ownBlock ≠ some b) ∧ (∀ b, V1.heap.size ≤ b → b < V2.heap.size → W8.heap[b]? = V2.heap[b]?) ∧ Below w.heap.size w W8 ∧ V2.heap.size ≤ W8.heap.size) := by
        obtain ⟨k1, -, k3, k4, k5, k6, k7, k8, k9⟩ := HK.out
        have hP := HV1.out.2.2
        have hv2 := HC.out.2.2.size
        have hol := fun b (h : vS.ownBlock = some b) => k5.own_low h
        have hlo := k5.low
        refine ⟨ownsRow_block HO.out (fun g hg => hk8.block g (hlow g hg).2 (fun e => by have := (hlow g hg).1; omega) (fun e => (k6 g e).2 hg)), hs8.mono (fun b hb h => by
          rcases h with h | h
          · exact h
          · omega), fun b hb => ?_, fun b h1 h2 => (hk8.block b (by omega) (fun e => by omega) (fun e => by have := (k6 b e).1; omega)).trans (k7 b h1 h2), ⟨hk8.os.trans k8.os, hk8.tape.trans k8.tape, hk8.output.trans k8.output, Nat.le_trans k8.size hk8.size, fun b hb => (hk8.block b (by have := k8.size; omega) (fun e => by omega) (fun e => by have := (hol b e).1; omega)).trans (k8.block b hb)⟩, by have := hk8.size; omega⟩
        rcases ho8 b hb with h | h
        · exact k6 b h
        · exact ⟨.inr (by omega), fun e => by have := (hlow b e).2; omega⟩
      have HL0 : Hid (L = selS S (C.take k)) := HK.out.1
      have HL4 := Hid.mk' HK.out.2.2.2.1
      have HLW : Hid (∀ b, (Value.slice aL M cL).ownBlock = some b → V2.heap.size ≤ b ∧ b < W8.heap.size) := fun b hb => ⟨(hlow b hb).1, by have := (hlow b hb).2; have := hk8.size; omega⟩
      obtain ⟨z, hz⟩ : ∃ z, restS ((C.take k).foldl withS S) x = z := ⟨_, rfl⟩
      rw [hz] at HST ⊢
      clear hs8 hk8 ho8 hz hlow HK
      rcases Nat.eq_zero_or_pos z with h0 | h0
      · have HEC : Hid (selS S (C.take (k + 1)) = L) := by
          show _ = _
          rw [HST.out, h0, HL0.out]; rfl
        rw [nz_false h0]
        clear h0
        go_wp2_with fail
        go_roundw
        case rel => exact ⟨k + 1, L, us, v8, by omega, by go_num, HEC.out.symm, by have := HLM.out; omega, by rw [HLM.out]; exact HK8.out.1, HL4.out, HK8.out.2.1.mono (fun b _ h => .inl h), HK8.out.2.2⟩
        case measure => simp [intOf]; omega
      · have HEC : Hid (selS S (C.take (k + 1)) = L ++ [x]) := by
          show _ = _
          rw [HST.out, beq_eq_false_iff_ne.2 (show z ≠ 0 by omega), cond_false, HL0.out]
        rw [nz_true (show z ≠ 0 by omega)]
        have g2 : W8.cell? ⟨G, k, none⟩ = some (.slice a' n c') := (World.cell?_of_block (HK8.out.2.2.2.1 G HGC.out.2.1 HGC.out.2.2)).trans HGC.out.1
        clear h0
        go_upto_region 6 with (first
          | (at_builtin; refine wpList_append_slice rfl (.tmp 29) (.tmp 34) 22 rfl V2.heap.size 39 i2 (.slice none 0 0) 24 Tryz.underlying22 hi2 hx0 hx1 hx2 rfl _ _ _ rfl (HK8.out.1.alloc _) _ [.slice a' n c'] rfl (slice_one _ _ _) (by simp [Value.oneCell']) (by simp; omega) (by unfold maxLen; simp; omega) (by have := HK8.out.2.2.2.2.2; simp; omega) ?_; intro v6 w6 hown6 hg6 hl6; replace hown6 : w6.ownsRow V2.heap.size 39 1 v6 (M + 1) (us ++ [.slice a' n c']) := hown6; obtain ⟨a6, c6, rfl⟩ := own_form hown6)
          | fail)
        have HE6 : Hid (w6.ownsRow V2.heap.size 39 1 (.slice a6 (M + 1) c6) (L ++ [x]).length (us ++ [.slice a' n c']) ∧ (∀ (j : Nat) (u : Value) (y : List Int), (us ++ [.slice a' n c'])[j]? = some u → ((L ++ [x]).map bitsI)[j]? = some y → IntsIn (fun b => V1.heap.size ≤ b ∧ b < V2.heap.size) V2 u y) ∧ SpanX (fun b => (Value.slice a6 (M + 1) c6).ownBlock = some b) base P w6 v8 ((C.take (k + 1)).foldl withS S) ∧ (∀ b, v8.ownBlock = some b → (b < V1.heap.size ∨ V2.heap.size ≤ b) ∧ (Value.slice a6 (M + 1) c6).ownBlock ≠ some b) ∧ (∀ b, V1.heap.size ≤ b → b < V2.heap.size → w6.heap[b]? = V2.heap[b]?) ∧ Below w.heap.size w w6 ∧ V2.heap.size ≤ w6.heap.size) := by
          obtain ⟨k3, k5, k6, k7, k8, k9⟩ := HK8.out
          have hq : W8.grownBy w6 (Value.slice aL M cL).ownBlock := ((World.grownBy_alloc W8 _ none).but _).trans hg6
          have hP := HV1.out.2.2
          have hw1 := HV1.out.2.1.size
          have hv2 := HC.out.2.2.size
          have hul : us.length = M := by have := k3.1; simpa using this
          have hlm := HLM.out
          refine ⟨by rw [List.length_append, List.length_singleton, hlm]; exact hown6, fun j u y hu hy => ?_, (k5.kept hq (fun b hb => ⟨.inl hb, by have := (HLW.out b hb).1; omega, fun e => (k6 b e).2 hb⟩)).mono (fun b _ h => ?_), fun b hb => ⟨(k6 b hb).1, fun h => ?_⟩, fun b h1 h2 => (hq.block b (by omega) (fun e => by have := (HLW.out b e.symm).1; omega)).trans (k7 b h1 h2), k8.grown hq k8.size (fun b hb => by have := (HLW.out b hb).1; omega), by have := hq.size; omega⟩
          · rw [List.map_append] at hy
            rw [List.getElem?_append] at hu hy
            rw [List.length_map] at hy
            by_cases hj : j < M
            · rw [if_pos (by omega)] at hu hy
              exact HL4.out j u y hu hy
            · rw [if_neg (by omega)] at hu hy
              have h0 : j - us.length = 0 := by
                rcases Nat.eq_zero_or_pos (j - us.length) with h | h
                · exact h
                · rw [List.getElem?_eq_none (by simp; omega)] at hu; cases hu
              rw [h0] at hu
              rw [show j - L.length = 0 by omega] at hy
              simp at hu hy
              subst hu; subst hy
              exact HI2.out
          · rcases hl6 with h2 | h2
            · exact .inl (h2.symm.trans h)
            · rw [h2] at h; simp at h; exact .inr (by omega)
          · rcases hl6 with h2 | h2
            · exact (k6 b hb).2 (h2.symm.trans h)
            · rw [h2] at h; simp at h; have := (k5.own_low hb).2; omega
        clear hown6 hg6 hl6 HK8 HO g2
        go_wp2_with fail
        go_roundw
        case rel => exact ⟨k + 1, L ++ [x], us ++ [.slice a' n c'], v8, by omega, by go_num, HEC.out.symm, by have := HLM.out; simp; omega, HE6.out⟩
        case measure => simp [intOf]; omega
    · have hkm : k = m := by omega
      subst hkm
      have HE : Hid (RowsIn (fun b => w.heap.size ≤ b) wr (.slice aL M cL) ((selS S C).map bitsI) ∧ Below w.heap.size w wr) := by
        obtain ⟨k1, -, -, k4, -, -, k7, k8, k9⟩ := HK.out
        rw [← HM.out, List.take_length] at k1
        rw [← k1]
        have h1 := HV1.out.2.1.size
        have h2 := HC.out.2.2.size
        have hul : us.length = M := by have := HO.out.1; simpa using this
        refine ⟨⟨us, slice_of_owns HO.out (fun b h _ => by show w.heap.size ≤ b; omega), by rw [List.length_map, HLM.out]; exact hul, fun j u x hu hx => ?_⟩, k8⟩
        exact SliceIn.mono (SliceIn.keep (k4 j u x hu hx) (fun b _ hs => k7 b hs.1 hs.2)) (fun b _ hs => by have h3 : V1.heap.size ≤ b ∧ b < V2.heap.size := hs; show w.heap.size ≤ b; omega)
      clear HK HO
      go_wp2_with fail
      go_ret
      exact ⟨_, rfl, HE.out⟩

end Go.Proofs.YtldknhganoiajaaGreatDoor
