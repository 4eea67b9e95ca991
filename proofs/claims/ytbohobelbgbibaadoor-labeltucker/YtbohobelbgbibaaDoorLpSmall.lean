/- The program's small triangles. -/
import Derived.Test.YtbohobelbgbibaaDoorLpSort
import Derived.Test.YtbohobelbgbibaaDoorLpPre
import Derived.Test.YtbohobelbgbibaaDoorLpPoints
import Derived.Test.YtbohobelbgbibaaDoorLpHouse
namespace Go.Proofs.YtbohobelbgbibaaDoor
open Go.RowKit Go.Sort

/-- A slice that reads as these triples, in another block than the one that v owns. -/
def RdX (W : World) (u : Value) (l : List T3) (v : Value) : Prop := ∃ a cap, u = .slice a l.length cap ∧ (0 < l.length → ∃ g, a = some ⟨g, 0, none⟩ ∧ g < W.heap.size ∧ v.ownBlock ≠ some g ∧ ∀ k t, l[k]? = some t → W.cell? ⟨g, k * 3, none⟩ = some (.int .i64 t.1) ∧ W.cell? ⟨g, k * 3 + 1, none⟩ = some (.int .i64 t.2.1) ∧ W.cell? ⟨g, k * 3 + 2, none⟩ = some (.int .i64 t.2.2))
theorem RdX.grown {W W' : World} {u : Value} {l : List T3} {v v' : Value} (h : RdX W u l v) (hg : W.grownBy W' v.ownBlock) (hv : v'.ownBlock = v.ownBlock ∨ ∃ b, W.heap.size ≤ b ∧ v'.ownBlock = some b) : RdX W' u l v' := by
  obtain ⟨a, cap, e, h1⟩ := h
  refine ⟨a, cap, e, fun h0 => ?_⟩
  obtain ⟨g, e1, e2, e3, e4⟩ := h1 h0
  refine ⟨g, e1, Nat.lt_of_lt_of_le e2 hg.size, ?_, fun k t hk => ?_⟩
  · rcases hv with hv | ⟨b, hb, hv⟩
    · rw [hv]; exact e3
    · rw [hv]; intro e; cases e; omega
  · obtain ⟨c1, c2, c3⟩ := e4 k t hk
    exact ⟨(far_c hg ⟨g, k * 3, none⟩ e2 e3.symm).trans c1, (far_c hg ⟨g, k * 3 + 1, none⟩ e2 e3.symm).trans c2, (far_c hg ⟨g, k * 3 + 2, none⟩ e2 e3.symm).trans c3⟩
theorem RdX.below {W W' : World} {u : Value} {l : List T3} {v : Value} (h : RdX W u l v) (hB : Below W.heap.size W W') : RdX W' u l v := by
  obtain ⟨a, cap, e, h1⟩ := h
  refine ⟨a, cap, e, fun h0 => ?_⟩
  obtain ⟨g, e1, e2, e3, e4⟩ := h1 h0
  refine ⟨g, e1, Nat.lt_of_lt_of_le e2 hB.size, e3, fun k t hk => ?_⟩
  obtain ⟨c1, c2, c3⟩ := e4 k t hk
  exact ⟨(hB.cell (p := ⟨g, k * 3, none⟩) (cell_lt c1)).trans c1, (hB.cell (p := ⟨g, k * 3 + 1, none⟩) (cell_lt c2)).trans c2, (hB.cell (p := ⟨g, k * 3 + 2, none⟩) (cell_lt c3)).trans c3⟩
theorem TriRow.rdX {base : Nat} {W : World} {u : Value} {l : List T3} {v : Value} (h : TriRow base W u l) (hv : ∀ b, v.ownBlock = some b → b < base) : RdX W u l v := by
  obtain ⟨a, cap, rfl, h1⟩ := h.reads
  refine ⟨a, cap, rfl, fun h0 => ?_⟩
  obtain ⟨g, rfl, e2⟩ := h1 h0
  have hb : base ≤ g := by
    rcases h.2 with ⟨e, hn⟩ | ⟨g', cap', cur, e, hb, _⟩
    · cases e
    · cases e; exact hb
  obtain ⟨t, ht⟩ : ∃ t, l[0]? = some t := ⟨_, List.getElem?_eq_getElem h0⟩
  exact ⟨g, rfl, cell_lt (e2 0 t ht).1, fun e => by have := hv g e; omega, e2⟩
/-- While small triangles are told: the row that grows, the points, and what was there. -/
structure TellAt (w : World) (W : World) (vo u : Value) (out pts : List T3) : Prop where
  row : TriRow w.heap.size W vo out
  rd : RdX W u pts vo
  bl : Below w.heap.size w W
theorem TellAt.below {w W W' : World} {vo u : Value} {out pts : List T3} (h : TellAt w W vo u out pts) (hB : Below W.heap.size W W') : TellAt w W' vo u out pts := ⟨h.row.below hB, h.rd.below hB, h.bl.trans (hB.mono h.bl.size)⟩
theorem TellAt.more {w W W' : World} {vo vo' u : Value} {out pts : List T3} {t : T3} {M : Nat} (h : TellAt w W vo u out pts) (hM : out.length = M) (h1 : W'.ownsRow w.heap.size 36 3 vo' (M + 1) (t3Cells out ++ encT t)) (hg : W.grownBy W' vo.ownBlock) (hv : vo'.ownBlock = vo.ownBlock ∨ vo'.ownBlock = some W.heap.size) : TellAt w W' vo' u (out ++ [t]) pts := by
  refine ⟨?_, h.rd.grown hg ?_, ?_⟩
  · unfold TriRow
    rw [List.length_append, hM, t3Cells_app]
    exact h1
  · rcases hv with hv | hv
    · exact .inl hv
    · exact .inr ⟨_, Nat.le_refl _, hv⟩
  · exact h.bl.grown hg h.bl.size (fun b e => (World.ownsRow.lt h.row b e).1)

theorem take_more3 {l : List Spt} {f : Spt → T3} {k : Nat} {s : Spt} (h : l[k]? = some s) : (l.take (k + 1)).map f = (l.take k).map f ++ [f s] := by
  rw [List.take_add_one, h, List.map_append]; rfl
theorem pts_in {m : Nat} (hm : m ≤ 13) {k : Nat} {s : Spt} (h : (ptsL m)[k]? = some s) : s.1 + s.2.1 + 1 ≤ m := by
  have hs := List.mem_of_getElem? h
  unfold ptsL allS rowS at hs
  obtain ⟨p, hp, hs⟩ := List.mem_flatMap.1 hs
  obtain ⟨q, hq, rfl⟩ := List.mem_map.1 hs
  have h1 := List.mem_range.1 hp
  have h2 := List.mem_range.1 hq
  show p + q + 1 ≤ m
  omega

set_option maxRecDepth 100000 in
set_option maxHeartbeats 4000000 in
theorem small_ (n : Nat) (h1 : 1 ≤ n) (h2 : n ≤ 12) (w : World) :
    Calls Tryd.prog 26 #[.int .i64 (n : Int)] w fun e w' => ∃ v, e = .returned v ∧ TriRow w.heap.size w' v (triesL n) ∧ Below w.heap.size w w' := by
  obtain ⟨i0, hi0, hz0, hz1, hz2⟩ := info_parts Tryd.infoT3
  have hpt := points_ n (by omega) w
  have HPL : Hid (((ptsL n).map spT).length = (ptsL n).length ∧ ((ptsL (n - 1)).map spT).length = (ptsL (n - 1)).length) := ⟨List.length_map _, List.length_map _⟩
  have l1 : (ptsL n).length ≤ 91 := ptsL_le (by omega) (Nat.le_refl _)
  have l2 : (ptsL (n - 1)).length ≤ 91 := ptsL_le (by omega) (Nat.le_refl _)
  have HP : Hid (∀ k, k < (ptsL n).length → ∃ s : Spt, (ptsL n)[k]? = some s ∧ ((ptsL n).map spT)[k]? = some (spT s) ∧ s.1 + s.2.1 + 1 ≤ n) := fun k hk => ⟨_, List.getElem?_eq_getElem hk, by rw [List.getElem?_map, List.getElem?_eq_getElem hk]; rfl, pts_in (by omega) (List.getElem?_eq_getElem hk)⟩
  have HP2 : Hid (∀ k, k < (ptsL (n - 1)).length → ∃ s : Spt, (ptsL (n - 1))[k]? = some s ∧ ((ptsL (n - 1)).map spT)[k]? = some (spT s) ∧ s.1 + s.2.1 + 1 ≤ n - 1) := fun k hk => ⟨_, List.getElem?_eq_getElem hk, by rw [List.getElem?_map, List.getElem?_eq_getElem hk]; rfl, pts_in (by omega) (List.getElem?_eq_getElem hk)⟩
  have hnum := fun (i j : Int) (h0 : 0 ≤ i) (hi : i ≤ (n : Int) + 1) (h1 : 0 ≤ j) (hj : j ≤ 13) V => numberI_ n i j (by omega) h0 hi h1 hj V
  obtain ⟨L1, hL1⟩ : ∃ L, (ptsL n).length = L := ⟨_, rfl⟩
  obtain ⟨L2, hL2⟩ : ∃ L, (ptsL (n - 1)).length = L := ⟨_, rfl⟩
  have HL : Hid ((ptsL n).length = L1 ∧ (ptsL (n - 1)).length = L2) := ⟨hL1, hL2⟩
  rw [hL1] at l1 HP HPL
  rw [hL2] at l2 HP2 HPL
  clear hL1 hL2
  go_enter Tryd.func26, Tryd.ntmps26
  go_wp2_with (first
    | (go_at_call 29; refine hpt.mono ?_; rintro e W1 ⟨v, rfl, hr, hb⟩; obtain ⟨sa, cs, hv⟩ := hr.form; rw [HPL.out.1] at hv; subst hv; have H1 : Hid (TellAt w W1 (.slice none 0 0) (.slice sa L1 cs) [] ((ptsL n).map spT)) := ⟨TriRow.nil _ _, hr.rdX (fun b e => by cases e), hb⟩; clear hr hb hpt)
    | fail)
  go_loopw [3, 16] (fun po p W => ∃ (vo : Value) (k : Nat), k ≤ L1 ∧ po = vo ∧ p = .int .i64 (k : Int) ∧ Hid (TellAt w W vo (.slice sa L1 cs) (((ptsL n).take k).map (f1 n)) ((ptsL n).map spT))) (fun _ p _ => L1 - (intOf p).toNat)
  case atStart => exact ⟨_, 0, by omega, rfl, rfl, H1.out⟩
  case round =>
    obtain ⟨vo, k, hk, hvo, rfl, HK⟩ := hrel
    obtain ⟨ao, co, hv2⟩ := HK.out.row.form
    obtain ⟨M, hM⟩ : ∃ M, (((ptsL n).take k).map (f1 n)).length = M := ⟨_, rfl⟩
    have HM : Hid ((((ptsL n).take k).map (f1 n)).length = M) := hM
    have hMk : M ≤ k := by rw [← hM, List.length_map, List.length_take]; omega
    rw [hM] at hv2
    subst hv2
    subst hvo
    clear hM
    by_cases hkL : k < L1
    · obtain ⟨s, hs1, hs2, hs3⟩ := HP.out k hkL
      obtain ⟨a1, c1, ea, hx⟩ := HK.out.rd
      rw [HPL.out.1] at ea hx
      cases ea
      obtain ⟨g, rfl, hg1, hg2, hcell⟩ := hx (by omega)
      obtain ⟨d0, d1, d2⟩ := hcell k _ hs2
      have HS : Hid (((ptsL n).take (k + 1)).map (f1 n) = ((ptsL n).take k).map (f1 n) ++ [f1 n s]) := take_more3 hs1
      obtain ⟨s1, s2, s3⟩ := s
      unfold spT at d0 d1 d2
      dsimp only at d0 d1 d2 hs3
      have y0 : (0 : Int) ≤ (k : Int) := by omega
      have y1 : (k : Int) < (L1 : Int) := by omega
      clear hs1 hs2 hx hcell hg1 hg2
      go_upto_region 5 with fail
      obtain ⟨c0, c1, c2, hB2, hsz⟩ := box3 wr (.int .i64 (s1 : Int)) (.int .i64 (s2 : Int)) (.int .i64 (s3 : Int)) 36
      obtain ⟨W2, hW2⟩ : ∃ W2, wr.alloc (.cells #[.int .i64 (s1 : Int), .int .i64 (s2 : Int), .int .i64 (s3 : Int)] 36) = W2 := ⟨_, rfl⟩
      rw [hW2] at c0 c1 c2 hB2 hsz ⊢
      have HT : Hid (∀ q, TellAt w (W2.drewN q) (.slice ao M co) (.slice (some ⟨g, 0, none⟩) L1 cs) (((ptsL n).take k).map (f1 n)) ((ptsL n).map spT)) := fun q => (HK.out.below hB2).below (drewN_below W2 q)
      obtain ⟨rs, hrs⟩ : ∃ rs, wr.heap.size = rs := ⟨_, rfl⟩
      rw [hrs] at c0 c1 c2 ⊢
      clear hW2 hB2 d0 d1 d2 hrs hsz
      go_quiet (fail)
      obtain ⟨W3, hW3⟩ : ∃ W3, W2.drewN nq = W3 := ⟨_, rfl⟩
      have H3 : Hid (TellAt w W3 (.slice ao M co) (.slice (some ⟨g, 0, none⟩) L1 cs) (((ptsL n).take k).map (f1 n)) ((ptsL n).map spT)) := by rw [← hW3]; exact HT.out nq
      rw [hW3]
      have hws : w.heap.size ≤ W3.heap.size := H3.out.bl.size
      have HOW : Hid (W3.ownsRow w.heap.size 36 3 (.slice ao M co) M (t3Cells (((ptsL n).take k).map (f1 n)))) := by
        have := H3.out.row
        unfold TriRow at this
        rw [HM.out] at this
        exact this
      clear hW3 HT c0 c1 c2
      go_wp2_with (first
        | (go_at_call 32; refine (hnum _ _ (by omega) (by omega) (by omega) (by omega) _).mono ?_; rintro e V ⟨rfl, rfl⟩)
        | (at_builtin; refine wpList_append_own_at _ rfl (.tmp 24) (.tmp 40) 28 rfl w.heap.size 36 i0 (.agg #[.int .i64 0, .int .i64 0, .int .i64 0]) 3 24 Tryd.underlying28 hi0 hz0 hz1 hz2 rfl (by decide) _ M _ rfl (HOW.out.alloc _) ⟨_, 0, none⟩ 1 1 [.int .i64 (numI n (s1 : Int) (s2 : Int)), .int .i64 (numI n (s1 : Int) ((s2 : Int) + 1)), .int .i64 (numI n ((s1 : Int) + 1) (s2 : Int))] rfl rfl (cells_new _ _ _) (by simp [Value.oneCell']) (by unfold maxLen; omega) (by omega) (by simp; omega) ?_; intro v5 w5 hown5 hg5 hn5 hl5; have H5 := Hid.mk' (And.intro hown5 (And.intro hg5 hl5)); clear hown5 hg5 hn5 hl5)
        | fail)
      go_roundw
      case rel =>
        refine ⟨_, k + 1, by omega, rfl, by go_num, ?_⟩
        rw [HS.out]
        exact TellAt.more (H3.out.below ((Below.refl _ _).alloc (Nat.le_refl _) _)) HM.out H5.out.1 H5.out.2.1 H5.out.2.2
      case measure => simp [intOf]; omega
    · have HO : Hid (((ptsL n).take k).map (f1 n) = (ptsL n).map (f1 n)) := by
        show _ = _
        rw [List.take_of_length_le (by rw [HL.out.1]; omega)]
      have HR0 : Hid (TriRow w.heap.size wr (.slice ao M co) ((ptsL n).map (f1 n)) ∧ ((ptsL n).map (f1 n)).length = M ∧ Below w.heap.size w wr) := by
        refine ⟨?_, ?_, HK.out.bl⟩
        · rw [← HO.out]; exact HK.out.row
        · rw [← HO.out]; exact HM.out
      have hpt2 := points_ (n - 1) (by omega) wr
      rw [show ((n - 1 : Nat) : Int) - 1 = (n : Int) - 2 by omega] at hpt2
      have hM9 : M ≤ 91 := by omega
      clear HK HM HO hMk
      go_wp2_with (first
        | (go_at_call 29; refine hpt2.mono ?_; rintro e W4 ⟨v, rfl, hr, hb⟩; obtain ⟨sa2, cs2, hv⟩ := hr.form; rw [HPL.out.2] at hv; subst hv; have H4 : Hid (TellAt w W4 (.slice ao M co) (.slice sa2 L2 cs2) ((ptsL n).map (f1 n)) ((ptsL (n - 1)).map spT)) := ⟨HR0.out.1.below hb, hr.rdX (fun b e => (World.ownsRow.lt HR0.out.1 b e).2), HR0.out.2.2.trans (hb.mono HR0.out.2.2.size)⟩; clear hr hb hpt2)
        | fail)
      have HP1 := Hid.mk' HR0.out.2.1
      clear HR0
      go_loopw [3, 47] (fun po p W => ∃ (vo : Value) (k : Nat), k ≤ L2 ∧ po = vo ∧ p = .int .i64 (k : Int) ∧ Hid (TellAt w W vo (.slice sa2 L2 cs2) ((ptsL n).map (f1 n) ++ ((ptsL (n - 1)).take k).map (f2 n)) ((ptsL (n - 1)).map spT))) (fun _ p _ => L2 - (intOf p).toNat)
      case atStart => exact ⟨_, 0, by omega, rfl, rfl, by rw [List.take_zero, List.map_nil, List.append_nil]; exact H4.out⟩
      case round =>
        obtain ⟨vo, k2, hk2, hvo, rfl, HK⟩ := hrel
        obtain ⟨ao2, co2, hv2⟩ := HK.out.row.form
        obtain ⟨M2, hM⟩ : ∃ M, ((ptsL n).map (f1 n) ++ ((ptsL (n - 1)).take k2).map (f2 n)).length = M := ⟨_, rfl⟩
        have HM : Hid (((ptsL n).map (f1 n) ++ ((ptsL (n - 1)).take k2).map (f2 n)).length = M2) := hM
        have hMk : M2 ≤ M + k2 := by rw [← hM, List.length_append, HP1.out, List.length_map, List.length_take]; omega
        have hM1 : M ≤ M2 := by rw [← hM, List.length_append, HP1.out]; omega
        rw [hM] at hv2
        subst hv2
        subst hvo
        clear hM
        by_cases hkL2 : k2 < L2
        · obtain ⟨s, hs1, hs2, hs3⟩ := HP2.out k2 hkL2
          obtain ⟨a1, c1, ea, hx⟩ := HK.out.rd
          rw [HPL.out.2] at ea hx
          cases ea
          obtain ⟨g, rfl, hg1, hg2, hcell⟩ := hx (by omega)
          obtain ⟨d0, d1, d2⟩ := hcell k2 _ hs2
          have HS : Hid ((ptsL n).map (f1 n) ++ ((ptsL (n - 1)).take (k2 + 1)).map (f2 n) = (ptsL n).map (f1 n) ++ ((ptsL (n - 1)).take k2).map (f2 n) ++ [f2 n s]) := by show _ = _; rw [take_more3 hs1, List.append_assoc]
          obtain ⟨s1, s2, s3⟩ := s
          unfold spT at d0 d1 d2
          dsimp only at d0 d1 d2 hs3
          have y0 : (0 : Int) ≤ (k2 : Int) := by omega
          have y1 : (k2 : Int) < (L2 : Int) := by omega
          clear hs1 hs2 hx hcell hg1 hg2
          go_upto_region 11 with fail
          obtain ⟨c0, c1, c2, hB2, hsz⟩ := box3 wr (.int .i64 (s1 : Int)) (.int .i64 (s2 : Int)) (.int .i64 (s3 : Int)) 36
          obtain ⟨W2, hW2⟩ : ∃ W2, wr.alloc (.cells #[.int .i64 (s1 : Int), .int .i64 (s2 : Int), .int .i64 (s3 : Int)] 36) = W2 := ⟨_, rfl⟩
          rw [hW2] at c0 c1 c2 hB2 hsz ⊢
          have HT : Hid (∀ q, TellAt w (W2.drewN q) (.slice ao2 M2 co2) (.slice (some ⟨g, 0, none⟩) L2 cs2) ((ptsL n).map (f1 n) ++ ((ptsL (n - 1)).take k2).map (f2 n)) ((ptsL (n - 1)).map spT)) := fun q => (HK.out.below hB2).below (drewN_below W2 q)
          obtain ⟨rs, hrs⟩ : ∃ rs, wr.heap.size = rs := ⟨_, rfl⟩
          rw [hrs] at c0 c1 c2 ⊢
          clear hW2 hB2 d0 d1 d2 hrs hsz
          go_quiet (fail)
          obtain ⟨W3, hW3⟩ : ∃ W3, W2.drewN nq = W3 := ⟨_, rfl⟩
          have H3 : Hid (TellAt w W3 (.slice ao2 M2 co2) (.slice (some ⟨g, 0, none⟩) L2 cs2) ((ptsL n).map (f1 n) ++ ((ptsL (n - 1)).take k2).map (f2 n)) ((ptsL (n - 1)).map spT)) := by rw [← hW3]; exact HT.out nq
          rw [hW3]
          have hws : w.heap.size ≤ W3.heap.size := H3.out.bl.size
          have HOW : Hid (W3.ownsRow w.heap.size 36 3 (.slice ao2 M2 co2) M2 (t3Cells ((ptsL n).map (f1 n) ++ ((ptsL (n - 1)).take k2).map (f2 n)))) := by
            have := H3.out.row
            unfold TriRow at this
            rw [HM.out] at this
            exact this
          clear hW3 HT c0 c1 c2
          go_wp2_with (first
            | (go_at_call 32; refine (hnum _ _ (by omega) (by omega) (by omega) (by omega) _).mono ?_; rintro e V ⟨rfl, rfl⟩)
            | (at_builtin; refine wpList_append_own_at _ rfl (.tmp 55) (.tmp 73) 28 rfl w.heap.size 36 i0 (.agg #[.int .i64 0, .int .i64 0, .int .i64 0]) 3 24 Tryd.underlying28 hi0 hz0 hz1 hz2 rfl (by decide) _ M2 _ rfl (HOW.out.alloc _) ⟨_, 0, none⟩ 1 1 [.int .i64 (numI n (s1 : Int) ((s2 : Int) + 1)), .int .i64 (numI n ((s1 : Int) + 1) (s2 : Int)), .int .i64 (numI n ((s1 : Int) + 1) ((s2 : Int) + 1))] rfl rfl (cells_new _ _ _) (by simp [Value.oneCell']) (by unfold maxLen; omega) (by omega) (by simp; omega) ?_; intro v5 w5 hown5 hg5 hn5 hl5; have H5 := Hid.mk' (And.intro hown5 (And.intro hg5 hl5)); clear hown5 hg5 hn5 hl5)
            | fail)
          go_roundw
          case rel =>
            refine ⟨_, k2 + 1, by omega, rfl, by go_num, ?_⟩
            rw [HS.out]
            exact TellAt.more (H3.out.below ((Below.refl _ _).alloc (Nat.le_refl _) _)) HM.out H5.out.1 H5.out.2.1 H5.out.2.2
          case measure => simp [intOf]; omega
        · have HO : Hid ((ptsL n).map (f1 n) ++ ((ptsL (n - 1)).take k2).map (f2 n) = preL n) := by
            show _ = _
            rw [List.take_of_length_le (by rw [HL.out.2]; omega)]; rfl
          have HR : Hid (TriRow w.heap.size wr (.slice ao2 M2 co2) (preL n)) := by rw [← HO.out]; exact HK.out.row
          have HBL := Hid.mk' HK.out.bl
          have HPR : Hid ((preL n).length = M2) := by rw [← HO.out]; exact HM.out
          have hM0 : 0 < M2 := by
            have h9 := (tries_is (by omega) h2).1.length_eq
            have h8 : (preL n).length = (ptsL n).length + (ptsL (n - 1)).length := by unfold preL; rw [List.length_append, List.length_map, List.length_map]
            have h7 : 0 < (ptsL n).length := by
              unfold ptsL allS
              obtain ⟨n', rfl⟩ : ∃ n', n = n' + 1 := ⟨n - 1, by omega⟩
              rw [List.range_succ_eq_map, List.flatMap_cons, List.length_append, rowS_len]
              omega
            have := HPR.out
            omega
          have hst := sort3_ wr HR.out (by rw [HPR.out]; exact hM0) (by rw [HPR.out]; omega)
          clear HK HM HO hMk
          go_wp2_with (first
            | (go_at_call 46; refine hst.mono ?_; rintro e W6 ⟨rfl, l', hp, hs, hr, hg⟩; have H6 : Hid (TriRow w.heap.size W6 (.slice ao2 M2 co2) (triesL n) ∧ Below w.heap.size w W6) := ⟨by rw [← sorted_is (by omega) h2 hp hs]; exact hr, HBL.out.grown hg HBL.out.size (fun b e => (World.ownsRow.lt HR.out b e).1)⟩; clear hp hs hr hg hst)
            | fail)
          go_ret
          exact ⟨_, rfl, H6.out⟩

end Go.Proofs.YtbohobelbgbibaaDoor
