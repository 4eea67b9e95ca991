/- What edges answers, of one word: a row of sides for each name that it has. -/
import Derived.Test.YtkaplnjknobdpaaDoorSurfSide
import Derived.Test.YtkaplnjknobdpaaDoorAppendTypes
import Derived.Deep.RegionLaw
import Derived.Deep.Light
namespace Go.Proofs.YtkaplnjknobdpaaDoor
open Go.RowKit Go.Sort

theorem Tryd.infos : (Tryd.prog.info? 90).map (fun i => (i.zero, i.size, i.bytes)) = some (some (.agg #[.int .i64 0, .int .i64 0, .int .i64 0, .int .i64 0]), 4, 32) := by kernel_rfl
theorem Tryd.infoss : (Tryd.prog.info? 87).map (fun i => (i.zero, i.size, i.bytes)) = some (some (.slice none 0 0), 1, 24) := by kernel_rfl

/-- A row that make has laid is the call's own. -/
theorem owns_made {w : World} {base b n : Nat} {t : TypeId} {z : Value} (hb : base ≤ b) (h : w.rowIs b t n (fun _ => z)) (hn : n ≤ maxLen) : w.ownsRow base t 1 (.slice (some ⟨b, 0, none⟩) n n) n (List.replicate n z) := by
  obtain ⟨c, h1, h2, h3⟩ := h
  refine ⟨by simp, .inr ⟨b, n, c, rfl, hb, h1, Nat.le_refl _, hn, by omega, ?_⟩⟩
  refine List.ext_getElem? fun i => ?_
  rw [List.getElem?_replicate, Nat.mul_one]
  by_cases h : i < n
  · rw [if_pos h, List.getElem?_take, if_pos h, Array.getElem?_toList, h3 i h]
  · rw [if_neg h, List.getElem?_take, if_neg h]

/-- The table, so far. -/
def EdgeAt (w : World) (ws : List Int) (m G : Nat) (W : World) : Prop := ∃ vs, TabAt w.heap.size 87 90 4 W (.slice (some ⟨G, 0, none⟩) 61 61) vs (tabE ws m) ∧ Below w.heap.size w W

theorem edge_start (w : World) (ws : List Int) : EdgeAt w ws 0 w.heap.size (w.alloc (.cells (madeCells #[.slice none 0 0] 61) 87)) := by
  have hB : Below w.heap.size w (w.alloc (.cells (madeCells #[.slice none 0 0] 61) 87)) := (Below.refl _ w).alloc (Nat.le_refl _) _
  have hr := World.rowIs_made w (.slice none 0 0) 61 87
  have hown := owns_made (base := w.heap.size) (Nat.le_refl _) hr (by decide)
  have ht := (tabAt_nil w.heap.size 87 90 4 w).more (n := 61) (W' := w.alloc (.cells (madeCells #[.slice none 0 0] 61) 87)) (v' := .slice (some ⟨w.heap.size, 0, none⟩) 61 61) (by simpa using hown) (World.grownBy_alloc w _ _) (fun b e => .inr (by cases e; exact Nat.le_refl _))
  refine ⟨List.replicate 61 (.slice none 0 0), ?_, hB⟩
  rw [tabE_zero]
  simpa using ht

theorem edge_put {w W W' : World} {ws : List Int} {k G m nu : Nat} {u u' : Value} {vs : List Value} {o : Obj} (h : TabAt w.heap.size 87 90 4 W (.slice (some ⟨G, 0, none⟩) 61 61) vs (tabE ws k)) (hB : Below w.heap.size w W) (hu : vs[m]? = some u) (hm : m < 61)
    (he : tabE ws (k + 1) = (tabE ws k).set m (sidesOf ws (placesI ws k m) ++ sideC ws k)) (hown : W'.ownsRow w.heap.size 90 4 u' nu (sidesOf ws (placesI ws k m) ++ sideC ws k)) (hg : (W.alloc o).grownBy W' u.ownBlock) (hl : u'.ownBlock = u.ownBlock ∨ u'.ownBlock = some (W.alloc o).heap.size) :
    EdgeAt w ws (k + 1) G (W'.setCell ⟨G, m, none⟩ u') := by
  have hs := hB.size
  refine ⟨_, by rw [he]; exact (h.put hu (tabE_at hm) (tabE_len _ _).symm hown hg hl).1, ?_⟩
  have h1 : Below w.heap.size w W' := (hB.alloc hs o).grown hg (by simp; omega) (fun b hb => (h.lt (.inr ⟨m, u, hu, hb⟩)).1)
  exact h1.grown (grown_at W' ⟨G, m, none⟩ u') h1.size (fun b e => by cases e; exact (h.lt (.inl rfl)).1)

set_option maxRecDepth 100000 in
set_option maxHeartbeats 4000000 in
theorem edges_tab {ws : List Int} (v : Value) (w : World) (h : Rows w v [ws]) (hok : WordOk ws) (K : Value → World → Ending → World → Prop)
    (hdel : ∀ G W, EdgeAt w ws ws.length G W → w.heap.size ≤ G → Calls Tryd.prog 44 #[.slice (some ⟨G, 0, none⟩) 61 61, .func (.func 45) #[] #[]] W fun e w' => ∃ u, e = .returned u ∧ K u W (.returned u) w') :
    Calls Tryd.prog 34 #[v] w fun e w' => ∃ u W, e = .returned u ∧ K u W e w' := by
  obtain ⟨i0, hi0, hz0, hz1, hz2⟩ := info_parts Tryd.infos
  obtain ⟨g, o, cap, a, c, rfl, hc, hi⟩ := one_word h
  have HI : Hid (Ints w (.slice a ws.length c) ws) := hi
  have HOK : Hid (WordOk ws) := hok
  obtain ⟨n, hn⟩ : ∃ n, ws.length = n := ⟨_, rfl⟩
  have HN : Hid (ws.length = n) := hn
  have hl1 : 0 < n := by rw [← hn]; exact hok.some
  have hl2 : n ≤ 120 := by rw [← hn]; exact hok.few
  rw [hn] at hc hdel
  have HDEL := Hid.mk' hdel
  have hmk := run_make_row' (P := Tryd.prog) 62 87 (.slice none 0 0) 24 Tryd.underlying62 Tryd.infoss rfl .i64 .i64 61 (by omega) (by omega)
  rw [show ((61 : Nat) : Int) = 61 from rfl] at hmk
  have hgl : g < w.heap.size := cell_lt hc
  have HE0 := Hid.mk' (edge_start w ws)
  clear h hi hok hn hdel
  go_enter Tryd.func34, Tryd.ntmps34
  go_wp2_with fail
  have hxc : (w.alloc (.cells (madeCells #[.slice none 0 0] 61) 87)).cell? ⟨g, o, none⟩ = some (.slice a n c) := (World.cell?_alloc_lt _ _ ⟨g, o, none⟩ hgl).trans hc
  obtain ⟨X, hX⟩ : ∃ X, w.alloc (.cells (madeCells #[.slice none 0 0] 61) 87) = X := ⟨_, rfl⟩
  obtain ⟨G, hG⟩ : ∃ G, w.heap.size = G := ⟨_, rfl⟩
  have HG : Hid (w.heap.size = G) := hG
  have HE1 : Hid (EdgeAt w ws 0 G X) := by have := HE0.out; rw [hX] at this; rw [← hG]; exact this
  rw [hX] at hxc
  rw [hX, hG]
  clear hX hG hmk HE0 hc
  go_loopw [4, 13] (fun p q W => (p = .int .i64 0 ∧ q = .int .i64 0 ∧ W = X) ∨ (p = .int .i64 (n : Int) ∧ q = .int .i64 1 ∧ Hid (EdgeAt w ws n G W))) (fun _ q _ => 1 - (intOf q).toNat)
  case atStart => exact .inl ⟨rfl, rfl, rfl⟩
  case round =>
    obtain ⟨rfl, rfl, rfl⟩ | ⟨rfl, rfl, HE⟩ := hrel
    · go_wp2_with fail
      go_loopw [20] (fun q W => ∃ k : Nat, k ≤ n ∧ q = .int .i64 k ∧ Hid (EdgeAt w ws k G W)) (fun q _ => n - (intOf q).toNat)
      case atStart => exact ⟨0, by omega, rfl, HE1.out⟩
      case round =>
        obtain ⟨k, hk, rfl, HK⟩ := hrel
        by_cases hkn : k < n
        · obtain ⟨a', c', ea, -, hx⟩ := HI.out.open_
          rw [HN.out] at ea hx
          cases ea
          obtain ⟨b, off, rfl, -, hbl, hcell⟩ := hx hl1
          have hkl : k < ws.length := by rw [HN.out]; exact hkn
          obtain ⟨l, hl⟩ : ∃ l, ltI ws k = l := ⟨_, rfl⟩
          have hlm : 1 ≤ l.natAbs ∧ l.natAbs ≤ 60 := by rw [← hl]; unfold ltI; rw [List.getElem?_eq_getElem hkl]; exact HOK.out.name _ (List.getElem_mem _)
          have ck1 : w.cell? ⟨b, off + k, none⟩ = some (.int .i64 l) := by rw [← hl]; exact hcell k hkn
          obtain ⟨vs, hT, hB⟩ := HK.out
          have ck := (hB.cell (p := ⟨b, off + k, none⟩) hbl).trans ck1
          obtain ⟨r, hr⟩ : ∃ r, (k + 1) % n = r := ⟨_, rfl⟩
          have hrb : r < n := by rw [← hr]; exact Nat.mod_lt _ hl1
          have hrem : ((k : Int) + 1).tmod (n : Int) = (r : Int) := by rw [← hr]; exact (Int.ofNat_tmod (k + 1) n).symm
          have hn0 : ((n : Int) == 0) = false := beq_false_of_ne (by omega)
          obtain ⟨m, hm⟩ : ∃ m, l.natAbs = m := ⟨_, rfl⟩
          rw [hm] at hlm
          have hlb : -60 ≤ l ∧ l ≤ 60 := by omega
          have HSC : Hid (sideC ws k = [.int .i64 l, .int .i64 0, .int .i64 ((if l < 0 then r else k : Nat) : Int), .int .i64 ((if l < 0 then k else r : Nat) : Int)]) := by
            show sideC ws k = _
            unfold sideC frI toI
            rw [hl, HN.out, hr]
          have HTS : Hid (tabE ws (k + 1) = (tabE ws k).set m (sidesOf ws (placesI ws k m) ++ sideC ws k)) := tabE_succ (by rw [hl]; exact hm)
          have hm61 : m < 61 := by omega
          obtain ⟨u, hu⟩ : ∃ u, vs[m]? = some u := ⟨_, List.getElem?_eq_getElem (by rw [hT.len, tabE_len]; exact hm61)⟩
          obtain ⟨nu, hou⟩ := hT.inner _ _ _ hu (tabE_at hm61)
          have hgc := hT.outer.cells (g := G) rfl m u hu
          rw [Addr.add_lit, Nat.zero_add] at hgc
          have hfz := hT.outer.frozenAt m
          obtain ⟨au, cu, rfl⟩ := own_slice hou
          have hug : some G ≠ (Value.slice au nu cu).ownBlock := fun e => hT.out _ _ hu G e.symm rfl
          have hnu : nu ≤ 120 := by
            have h1 := hou.1
            rw [sidesOf_len] at h1
            have h2 := placesI_len ws k m
            omega
          have hgw : G < wr.heap.size := (hT.lt (.inl rfl)).2
          have HT : Hid (TabAt w.heap.size 87 90 4 wr (.slice (some ⟨G, 0, none⟩) 61 61) vs (tabE ws k) ∧ Below w.heap.size w wr) := ⟨hT, hB⟩
          have HOU : Hid (wr.ownsRow w.heap.size 90 4 (.slice au nu cu) nu (sidesOf ws (placesI ws k m)) ∧ vs[m]? = some (.slice au nu cu)) := ⟨hou, hu⟩
          have HM : Hid (l.natAbs = m) := hm
          have hbw : w.heap.size ≤ wr.heap.size := hB.size
          have z0 : (0 : Int) ≤ (k : Int) := by omega
          have z1 : (k : Int) < (n : Int) := by omega
          clear hx hcell ck1 hT hB hu hou hl hr hm HK
          by_cases hl0 : l < 0
          · rw [if_pos hl0, if_pos hl0] at HSC
            go_upto_region 12 with fail
            have q0 := cells_new wr [.int .i64 l, .int .i64 0, .int .i64 (r : Int), .int .i64 (k : Int)] 90
            have hBa : Below wr.heap.size wr (wr.alloc (.cells #[.int .i64 l, .int .i64 0, .int .i64 (r : Int), .int .i64 (k : Int)] 90)) := (Below.refl _ wr).alloc (Nat.le_refl _) _
            obtain ⟨W1, hW1⟩ : ∃ W1, wr.alloc (.cells #[.int .i64 l, .int .i64 0, .int .i64 (r : Int), .int .i64 (k : Int)] 90) = W1 := ⟨_, rfl⟩
            obtain ⟨b9, hb9⟩ : ∃ b9, wr.heap.size = b9 := ⟨_, rfl⟩
            have q1 : ∀ j u, [Value.int .i64 l, .int .i64 0, .int .i64 (r : Int), .int .i64 (k : Int)][j]? = some u → W1.cell? ⟨b9, j, none⟩ = some u := fun j u hu => by
              have := q0 j u hu
              rw [Addr.add_lit, Nat.zero_add] at this
              rw [← hW1, ← hb9]
              exact this
            rw [hW1] at hBa ⊢
            have k1 := (hBa.cell (p := ⟨G, m, none⟩) hgw).trans hgc
            have k2 := (hBa.frozen (p := ⟨G, m, none⟩) hgw).trans hfz
            have HT1 : Hid (TabAt w.heap.size 87 90 4 W1 (.slice (some ⟨G, 0, none⟩) 61 61) vs (tabE ws k) ∧ Below w.heap.size w W1 ∧ vs[m]? = some (.slice au nu cu)) := ⟨HT.out.1.below hBa, HT.out.2.trans (hBa.mono hbw), HOU.out.2⟩
            have HO1 : Hid (W1.ownsRow w.heap.size 90 4 (.slice au nu cu) nu (sidesOf ws (placesI ws k m))) := HOU.out.1.kept (Below.grownBy hBa) (by cases (Value.slice au nu cu).ownBlock <;> simp)
            have hbw1 : w.heap.size ≤ W1.heap.size := Nat.le_trans hbw hBa.size
            have s0 := q1 0 _ rfl
            have s1 := q1 1 _ rfl
            have s2 := q1 2 _ rfl
            have s3 := q1 3 _ rfl
            rw [hb9]
            have hgw1 : G < W1.heap.size := Nat.lt_of_lt_of_le hgw hBa.size
            have hbl1 : b9 < W1.heap.size := cell_lt s0
            have ka : ∀ o, (W1.alloc o).cell? ⟨G, m, none⟩ = some (.slice au nu cu) := fun o => (World.cell?_alloc_lt W1 o ⟨G, m, none⟩ hgw1).trans k1
            have zm0 : (0 : Int) ≤ (m : Int) := by omega
            have zm1 : (m : Int) < 61 := by omega
            clear q0 q1 hW1 hb9 hBa HT HOU hgc hfz ck hxc hrem hn0
            go_wp2_with fail
            go_region_law (first
              | (refine step_name rfl _ _ rfl l m (by simp [Act.eval, Act.put]) hlb HM.out ?_)
              | (refine step_append_wide (by rfl) (.tmp 53) (.tmp 55) 87 (by rfl) w.heap.size 90 i0 (.agg #[.int .i64 0, .int .i64 0, .int .i64 0, .int .i64 0]) 4 32 Tryd.underlying87 hi0 hz0 hz1 hz2 (by rfl) (by decide) (.slice au nu cu) nu _ (by simp [Act.eval]) (HO1.out.drew.alloc _) ⟨_, 0, none⟩ 1 1 [.int .i64 l, .int .i64 0, .int .i64 (r : Int), .int .i64 (k : Int)] (by simp [Act.eval]) rfl (cells_new _ _ _) (by simp [Value.oneCell']) (by unfold maxLen; omega) (by omega) (by simp; omega) ?_
                 intro v6 w6 hown6 hg60 hl6
                 have hg6 : (W1.alloc (.cells #[.int .i64 l, .int .i64 0, .int .i64 (r : Int), .int .i64 (k : Int)] 90)).grownBy w6 (Value.slice au nu cu).ownBlock := ⟨hg60.os, hg60.tape, hg60.output, hg60.size, hg60.block⟩
                 have g6 := far2_kept hg6 (p := ⟨G, m, none⟩) ⟨k1, k2⟩ hug
                 have g60 := g6.1
                 have g61 := g6.2
                 obtain ⟨a6, c6, rfl⟩ := own_slice hown6
                 have HST : Hid (EdgeAt w ws (k + 1) G (w6.setCell ⟨G, m, none⟩ (.slice a6 (nu + 1) c6))) := edge_put HT1.out.1 HT1.out.2.1 HT1.out.2.2 hm61 HTS.out (by rw [HSC.out]; exact hown6) hg6 hl6
                 clear hown6 hg6 hg60 hl6 g6))
            all_goals go_wp2_with fail
            all_goals go_roundw
            all_goals first
              | (go_light; exact ⟨k + 1, hkn, by go_num, HST.out⟩)
              | (go_light; simp [intOf]; omega)
          · rw [if_neg hl0, if_neg hl0] at HSC
            go_upto_region 12 with fail
            have q0 := cells_new wr [.int .i64 l, .int .i64 0, .int .i64 (k : Int), .int .i64 (r : Int)] 90
            have hBa : Below wr.heap.size wr (wr.alloc (.cells #[.int .i64 l, .int .i64 0, .int .i64 (k : Int), .int .i64 (r : Int)] 90)) := (Below.refl _ wr).alloc (Nat.le_refl _) _
            obtain ⟨W1, hW1⟩ : ∃ W1, wr.alloc (.cells #[.int .i64 l, .int .i64 0, .int .i64 (k : Int), .int .i64 (r : Int)] 90) = W1 := ⟨_, rfl⟩
            obtain ⟨b9, hb9⟩ : ∃ b9, wr.heap.size = b9 := ⟨_, rfl⟩
            have q1 : ∀ j u, [Value.int .i64 l, .int .i64 0, .int .i64 (k : Int), .int .i64 (r : Int)][j]? = some u → W1.cell? ⟨b9, j, none⟩ = some u := fun j u hu => by
              have := q0 j u hu
              rw [Addr.add_lit, Nat.zero_add] at this
              rw [← hW1, ← hb9]
              exact this
            rw [hW1] at hBa ⊢
            have k1 := (hBa.cell (p := ⟨G, m, none⟩) hgw).trans hgc
            have k2 := (hBa.frozen (p := ⟨G, m, none⟩) hgw).trans hfz
            have HT1 : Hid (TabAt w.heap.size 87 90 4 W1 (.slice (some ⟨G, 0, none⟩) 61 61) vs (tabE ws k) ∧ Below w.heap.size w W1 ∧ vs[m]? = some (.slice au nu cu)) := ⟨HT.out.1.below hBa, HT.out.2.trans (hBa.mono hbw), HOU.out.2⟩
            have HO1 : Hid (W1.ownsRow w.heap.size 90 4 (.slice au nu cu) nu (sidesOf ws (placesI ws k m))) := HOU.out.1.kept (Below.grownBy hBa) (by cases (Value.slice au nu cu).ownBlock <;> simp)
            have hbw1 : w.heap.size ≤ W1.heap.size := Nat.le_trans hbw hBa.size
            have s0 := q1 0 _ rfl
            have s1 := q1 1 _ rfl
            have s2 := q1 2 _ rfl
            have s3 := q1 3 _ rfl
            rw [hb9]
            have hgw1 : G < W1.heap.size := Nat.lt_of_lt_of_le hgw hBa.size
            have hbl1 : b9 < W1.heap.size := cell_lt s0
            have ka : ∀ o, (W1.alloc o).cell? ⟨G, m, none⟩ = some (.slice au nu cu) := fun o => (World.cell?_alloc_lt W1 o ⟨G, m, none⟩ hgw1).trans k1
            have zm0 : (0 : Int) ≤ (m : Int) := by omega
            have zm1 : (m : Int) < 61 := by omega
            clear q0 q1 hW1 hb9 hBa HT HOU hgc hfz ck hxc hrem hn0
            go_wp2_with fail
            go_region_law (first
              | (refine step_name rfl _ _ rfl l m (by simp [Act.eval, Act.put]) hlb HM.out ?_)
              | (refine step_append_wide (by rfl) (.tmp 53) (.tmp 55) 87 (by rfl) w.heap.size 90 i0 (.agg #[.int .i64 0, .int .i64 0, .int .i64 0, .int .i64 0]) 4 32 Tryd.underlying87 hi0 hz0 hz1 hz2 (by rfl) (by decide) (.slice au nu cu) nu _ (by simp [Act.eval]) (HO1.out.drew.alloc _) ⟨_, 0, none⟩ 1 1 [.int .i64 l, .int .i64 0, .int .i64 (k : Int), .int .i64 (r : Int)] (by simp [Act.eval]) rfl (cells_new _ _ _) (by simp [Value.oneCell']) (by unfold maxLen; omega) (by omega) (by simp; omega) ?_
                 intro v6 w6 hown6 hg60 hl6
                 have hg6 : (W1.alloc (.cells #[.int .i64 l, .int .i64 0, .int .i64 (k : Int), .int .i64 (r : Int)] 90)).grownBy w6 (Value.slice au nu cu).ownBlock := ⟨hg60.os, hg60.tape, hg60.output, hg60.size, hg60.block⟩
                 have g6 := far2_kept hg6 (p := ⟨G, m, none⟩) ⟨k1, k2⟩ hug
                 have g60 := g6.1
                 have g61 := g6.2
                 obtain ⟨a6, c6, rfl⟩ := own_slice hown6
                 have HST : Hid (EdgeAt w ws (k + 1) G (w6.setCell ⟨G, m, none⟩ (.slice a6 (nu + 1) c6))) := edge_put HT1.out.1 HT1.out.2.1 HT1.out.2.2 hm61 HTS.out (by rw [HSC.out]; exact hown6) hg6 hl6
                 clear hown6 hg6 hg60 hl6 g6))
            all_goals go_wp2_with fail
            all_goals go_roundw
            all_goals first
              | (go_light; exact ⟨k + 1, hkn, by go_num, HST.out⟩)
              | (go_light; simp [intOf]; omega)
        · obtain rfl : k = n := by omega
          go_wp2_with fail
          go_roundw
          case rel => exact .inr ⟨by go_num, by go_num, HK.out⟩
          case measure => simp [intOf]
    · have hd := HDEL.out G wr HE.out (by rw [HG.out]; exact Nat.le_refl _)
      go_wp2_with fail
      refine hd.mono ?_
      rintro e W ⟨u, rfl, hu⟩
      go_wp2_with fail
      go_ret
      exact ⟨_, _, rfl, hu⟩

end Go.Proofs.YtkaplnjknobdpaaDoor
