/- The reference's small triangles. -/
import Derived.Test.YtbohobelbgbibaaDoorLabSpots
namespace Go.Proofs.YtbohobelbgbibaaDoor
open Go.RowKit Go.Sort

/-- A row of numbers that was made of nothing is put behind the others. -/
theorem push_new {base k q : Nat} {wr w5 w6 : World} {vo v6 u5 : Value} {xss : List (List Int)} {l : List Int} {vs : List Value} {o1 o : Obj} (h1 : wr.ownsRow base 22 1 vo k vs) (hk : xss.length = k) (h2 : ∀ (j : Nat) (u : Value) (x : List Int), vs[j]? = some u → xss[j]? = some x → IntsIn (fun b => base ≤ b ∧ some b ≠ vo.ownBlock) wr u x)
    (hb : base ≤ wr.heap.size) (hown5 : w5.ownsRow base 3 1 u5 q (l.map (Value.int .i64))) (hg5 : (wr.alloc o1).grownBy w5 none) (hl5 : u5.ownBlock = none ∨ u5.ownBlock = some (wr.alloc o1).heap.size)
    (hown6 : w6.ownsRow base 22 1 v6 (k + 1) (vs ++ [u5])) (hg6 : (w5.alloc o).grownBy w6 vo.ownBlock) (hl6 : v6.ownBlock = vo.ownBlock ∨ v6.ownBlock = some (w5.alloc o).heap.size) : OwnRows base w6 v6 (xss ++ [l]) ∧ ∀ B a, Below B a wr → B ≤ base → Below B a w6 := by
  have hB : Below wr.heap.size wr w5 := (World.grownBy_alloc wr o1 none |> fun h => (⟨h.os, h.tape, h.output, h.size, fun b hb' => h.block b hb' (by simp)⟩ : Below wr.heap.size wr (wr.alloc o1))).grown hg5 (by simp) (fun b e => by cases e)
  subst hk
  have hu : IntsIn (fun b => base ≤ b ∧ some b ≠ vo.ownBlock) w5 u5 l := by
    refine slice_of_owns hown5 fun b k1 k2 => ⟨k1, fun e => ?_⟩
    rw [World.size_alloc] at hl5
    rcases hl5 with hl | hl
    · rw [hl] at k2; cases k2
    · rw [hl] at k2
      have := Option.some.inj k2
      have := (h1.lt b e.symm).2
      omega
  have hs := hB.size
  refine ⟨OwnRows.push (h1.kept (Below.grownBy hB) (by cases vo.ownBlock <;> simp)) (fun j u x hu hx => (h2 j u x hu hx).below hB) hu hown6 hg6 hl6, fun B a hBa hle => ?_⟩
  have h3 : Below B a w5 := hBa.trans (hB.mono (by omega))
  exact (h3.alloc (by omega) o).grown hg6 (by simp; omega) (fun b e => by have := (h1.lt b e).1; omega)

theorem own_kept9 {W W' : World} {B : Nat} {e : TypeId} {v : Value} {n : Nat} {xs : List Value} (h : W.ownsRow B e 1 v n xs) (hk : ∀ b, v.ownBlock = some b → b < W.heap.size → W'.heap[b]? = W.heap[b]?) : W'.ownsRow B e 1 v n xs := by
  have hl := h.lt
  refine ⟨h.1, h.2.imp id fun ⟨g, cap, cur, e, h1, h2, h3⟩ => ⟨g, cap, cur, e, h1, ?_, h3⟩⟩
  subst e
  exact (hk g rfl (hl g rfl).2).trans h2
theorem own_sl {w : World} {base : Nat} {t : TypeId} {v : Value} {n : Nat} {xs : List Value} (h : w.ownsRow base t 1 v n xs) : ∃ a c, v = .slice a n c := by
  obtain ⟨_, h⟩ := h
  rcases h with ⟨rfl, rfl⟩ | ⟨g, cap, cur, rfl, _⟩
  · exact ⟨_, _, rfl⟩
  · exact ⟨_, _, rfl⟩
theorem flat_few {α : Type} (m k : Nat) (f : Nat → List α) (h : ∀ i, (f i).length ≤ k) : ((List.range m).flatMap f).length ≤ m * k := by
  induction m with
  | zero => simp
  | succ m ih =>
    rw [List.range_succ, List.flatMap_append, List.length_append, Nat.succ_mul]
    have := h m
    have e : (List.flatMap f [m]).length = (f m).length := by simp
    rw [e]
    omega
theorem smallC_few (l : List Spt) (a b c : Nat) : (smallC l a b c).length ≤ c := by
  unfold smallC
  split
  · rw [List.length_map]
    have := List.length_filter_le (fun k => decide (b < k) && (nearN (l[a]?.getD (0, 0, 0)) (l[k]?.getD (0, 0, 0)) && nearN (l[b]?.getD (0, 0, 0)) (l[k]?.getD (0, 0, 0)))) (List.range c)
    rwa [List.length_range] at this
  · simp
theorem small_few {n : Nat} {l : List Spt} (hl : spotsL n = l) (hn : n ≤ 12) {a b c : Nat} (ha : a ≤ l.length) (hb : b ≤ l.length) (hc : c ≤ l.length) : (smallA l a ++ smallB l a b ++ smallC l a b c).length ≤ 200000 * 5 := by
  have h0 := (spots_few n hn)
  rw [hl] at h0
  have h9 : l.length ≤ 91 := by omega
  have hB : ∀ a b, (smallB l a b).length ≤ b * 91 := fun a b => flat_few b 91 _ fun k => by
    split
    · have := smallC_few l a k l.length; omega
    · simp
  have hA : (smallA l a).length ≤ a * 8281 := flat_few a 8281 _ fun k => by have := hB k l.length; omega
  have h1 := hB a b
  have h2 := smallC_few l a b c
  rw [List.length_append, List.length_append]
  omega
theorem own_slice1 {base : Nat} {w : World} {v : Value} {xss : List (List Int)} (h : OwnRows base w v xss) : ∃ a c, v = .slice a xss.length c := by
  obtain ⟨vs, ⟨_, h⟩, _⟩ := h
  rcases h with ⟨rfl, h⟩ | ⟨g, cap, cur, rfl, _⟩
  · rw [h]; exact ⟨_, _, rfl⟩
  · exact ⟨_, _, rfl⟩
theorem Tryd.infoInt : (Tryd.prog.info? 3).map (fun i => (i.zero, i.size, i.bytes)) = some (some (.int .i64 0), 1, 8) := by kernel_rfl
theorem own_lower {base base' : Nat} {w : World} {v : Value} {xss : List (List Int)} (h : OwnRows base w v xss) (hb : base' ≤ base) : OwnRows base' w v xss := by
  obtain ⟨vs, h1, h2⟩ := h
  exact ⟨vs, ⟨h1.1, h1.2.imp id fun ⟨g, cap, cur, e, k1, k2⟩ => ⟨g, cap, cur, e, by omega, k2⟩⟩, fun k u x hu hx => SliceIn.mono (h2 k u x hu hx) fun b _ hS => ⟨by have := hS.1; omega, hS.2⟩⟩

set_option maxRecDepth 100000 in
set_option maxHeartbeats 4000000 in
theorem smallOf_ (n : Nat) (hn : n ≤ 12) (w : World) :
    Calls Tryd.prog 10 #[.int .i64 (n : Int)] w fun e w' => ∃ v, e = .returned v ∧ OwnRows w.heap.size w' v (smallL n) ∧ Below w.heap.size w w' := by
  obtain ⟨i0, hi0, hz0, hz1, hz2⟩ := info_parts Tryd.info22
  obtain ⟨j0, hj0, hy0, hy1, hy2⟩ := info_parts Tryd.infoInt
  have hsp := spots_ n hn w
  have hlen0 := spots_few n hn
  have HLN := Hid.mk' hlen0
  clear hlen0
  go_enter Tryd.func10, Tryd.ntmps10
  go_upto_region 2 with (go_at_call 11; refine hsp.mono ?_; rintro e W1 ⟨v, rfl, hr, hb⟩; have H1 := Hid.mk' (And.intro hr hb); obtain ⟨sa, cs, rfl⟩ := hr.form; clear hr hb hsp)
  obtain ⟨l, hl⟩ : ∃ l, spotsL n = l := ⟨_, rfl⟩
  have HL : Hid (spotsL n = l ∧ ∀ s ∈ l, s.1 ≤ 12 ∧ s.2.1 ≤ 12 ∧ s.2.2 ≤ 12) := ⟨hl, fun s hs => by rw [← hl] at hs; have := spots_in hs; omega⟩
  have hlen := HLN.out
  rw [hl] at H1 hlen ⊢
  obtain ⟨L, hLL⟩ : ∃ L, l.length = L := ⟨_, rfl⟩
  have HLL : Hid (l.length = L) := hLL
  have hL9 : L ≤ 91 := by rw [← hLL]; omega
  have hL0 : 0 < L := by
    have : ∀ n, n ≤ 12 → 0 < ptsN n := by decide
    have := this n hn
    rw [← hLL]; omega
  rw [hLL] at H1 ⊢
  obtain ⟨gs, hgs⟩ : ∃ gs, sa = some ⟨gs, 0, none⟩ := by
    have h9 : W1.ownsRow w.heap.size 48 3 (.slice sa L cs) l.length (spotCells l) := H1.out.1
    obtain ⟨g, c, e, -⟩ := h9.form (by omega)
    cases e
    exact ⟨g, rfl⟩
  subst hgs
  have HC : Hid (∀ V k s, Below W1.heap.size W1 V → l[k]? = some s → V.cell? ⟨gs, k * 3, none⟩ = some (.int .i64 (s.1 : Int)) ∧ V.cell? ⟨gs, k * 3 + 1, none⟩ = some (.int .i64 (s.2.1 : Int)) ∧ V.cell? ⟨gs, k * 3 + 2, none⟩ = some (.int .i64 (s.2.2 : Int))) := fun V k s hV hk => by
    have h9 : SpotRow w.heap.size W1 (.slice (some ⟨gs, 0, none⟩) l.length cs) l := by rw [hLL]; exact H1.out.1
    obtain ⟨c1, c2, c3⟩ := h9.cells hk
    exact ⟨(hV.cell (p := ⟨gs, k * 3, none⟩) (cell_lt c1)).trans c1, (hV.cell (p := ⟨gs, k * 3 + 1, none⟩) (cell_lt c2)).trans c2, (hV.cell (p := ⟨gs, k * 3 + 2, none⟩) (cell_lt c3)).trans c3⟩
  have HNR : Hid (∀ p q (V : World), p ∈ l → q ∈ l → Calls Tryd.prog 28 #[.agg #[.int .i64 (p.1 : Int), .int .i64 (p.2.1 : Int), .int .i64 (p.2.2 : Int)], .agg #[.int .i64 (q.1 : Int), .int .i64 (q.2.1 : Int), .int .i64 (q.2.2 : Int)]] V fun e w' => e = .returned (.bool (nearN p q)) ∧ Below V.heap.size V w') := fun p q V hp hq => near_ p q (HL.out.2 p hp) (HL.out.2 q hq) V
  clear hl hLL hlen
  go_wp2_with fail
  go_loopw [4, 5] (fun po p W => ∃ (vo : Value) (a : Nat), a ≤ L ∧ po = vo ∧ p = .int .i64 (a : Int) ∧ Hid (OwnRows W1.heap.size W vo (smallA l a) ∧ Below W1.heap.size W1 W)) (fun _ p _ => L - (intOf p).toNat)
  case atStart => exact ⟨_, 0, by omega, rfl, rfl, OwnRows.nil _ _, Below.refl _ _⟩
  case round =>
    obtain ⟨vo, a, ha, hvo, rfl, HA⟩ := hrel
    obtain ⟨av, cv, hv2⟩ := own_slice1 HA.out.1
    subst hv2
    subst hvo
    obtain ⟨K, hK⟩ : ∃ K, (smallA l a).length = K := ⟨_, rfl⟩
    rw [hK] at HA ⊢
    clear hK
    by_cases haL : a < L
    · have HB0 : Hid (OwnRows W1.heap.size wr (.slice av K cv) (smallA l a ++ smallB l a (a + 1)) ∧ Below W1.heap.size W1 wr) := by rw [smallB_low l (Nat.le_refl _), List.append_nil]; exact HA.out
      have hal : a < l.length := by rw [HLL.out]; exact haL
      obtain ⟨pa, hpa⟩ : ∃ pa, l[a]? = some pa := ⟨_, List.getElem?_eq_getElem hal⟩
      have HPA : Hid (l[a]? = some pa ∧ pa ∈ l) := ⟨hpa, List.mem_of_getElem? hpa⟩
      clear HA hpa
      go_wp2_with fail
      go_loopw [4, 6] (fun po p W => ∃ (vo : Value) (b : Nat), a < b ∧ b ≤ L ∧ po = vo ∧ p = .int .i64 (b : Int) ∧ Hid (OwnRows W1.heap.size W vo (smallA l a ++ smallB l a b) ∧ Below W1.heap.size W1 W)) (fun _ p _ => L - (intOf p).toNat)
      case atStart => exact ⟨_, a + 1, by omega, by omega, rfl, by go_num, HB0.out⟩
      case round =>
        obtain ⟨vo, b, hab, hb, hvo, rfl, HB⟩ := hrel
        obtain ⟨av, cv, hv2⟩ := own_slice1 HB.out.1
        subst hv2
        subst hvo
        obtain ⟨K, hK⟩ : ∃ K, (smallA l a ++ smallB l a b).length = K := ⟨_, rfl⟩
        rw [hK] at HB ⊢
        clear hK
        by_cases hbL : b < L
        · have hbl : b < l.length := by rw [HLL.out]; exact hbL
          obtain ⟨pb, hpb⟩ : ∃ pb, l[b]? = some pb := ⟨_, List.getElem?_eq_getElem hbl⟩
          have HPB : Hid (l[b]? = some pb ∧ pb ∈ l) := ⟨hpb, List.mem_of_getElem? hpb⟩
          obtain ⟨ca1, ca2, ca3⟩ := HC.out wr a pa HB.out.2 HPA.out.1
          obtain ⟨cb1, cb2, cb3⟩ := HC.out wr b pb HB.out.2 hpb
          have HN1 : Hid (nearN (l[a]?.getD (0, 0, 0)) (l[b]?.getD (0, 0, 0)) = nearN pa pb) := by show _ = _; rw [HPA.out.1, hpb]; rfl
          have hnr := HNR.out pa pb wr.drew HPA.out.2 HPB.out.2
          have z0 : (0 : Int) ≤ (a : Int) := by omega
          have z1 : (a : Int) < (L : Int) := by omega
          have z2 : (0 : Int) ≤ (b : Int) := by omega
          have z3 : (b : Int) < (L : Int) := by omega
          obtain ⟨nr, hnn⟩ : ∃ nr, nearN pa pb = nr := ⟨_, rfl⟩
          have HNN : Hid (nearN pa pb = nr) := hnn
          rw [hnn] at hnr HN1
          clear hpb hnn
          go_upto_region 9 with fail
          go_cut [7] from 28 to 36 (fun c wx => c = .bool nr ∧ Hid (OwnRows W1.heap.size wx (.slice av K cv) (smallA l a ++ smallB l a b) ∧ Below W1.heap.size W1 wx))
          case first =>
            go_wp2_with fail
            go_region_with (go_at_call 28; refine hnr.mono ?_; rintro e V ⟨rfl, hV⟩; have H9 : Hid (OwnRows W1.heap.size V (.slice av K cv) (smallA l a ++ smallB l a b) ∧ Below W1.heap.size W1 V) := ⟨HB.out.1.below ((Below.refl _ wr).drew.trans hV), HB.out.2.trans (((Below.refl _ wr).drew.trans hV).mono HB.out.2.size)⟩; clear hV)
            all_goals go_wp2_with fail
            all_goals go_meet
            all_goals exact ⟨rfl, H9.out⟩
          obtain ⟨rfl, H2⟩ := hcut
          obtain ⟨Wb, hWb⟩ : ∃ W, W = wc := ⟨_, rfl⟩
          subst hWb
          have HC0 : Hid (OwnRows W1.heap.size Wb (.slice av K cv) (smallA l a ++ smallB l a b ++ smallC l a b (b + 1)) ∧ Below W1.heap.size W1 Wb) := by rw [smallC_low l (Nat.le_refl _), List.append_nil]; exact H2.out
          clear ca1 ca2 ca3 cb1 cb2 cb3 hnr H2 HB
          go_wp2_with fail
          go_loopw [4, 8] (fun po p W => ∃ (vo : Value) (c : Nat), b < c ∧ c ≤ L ∧ po = vo ∧ p = .int .i64 (c : Int) ∧ Hid (OwnRows W1.heap.size W vo (smallA l a ++ smallB l a b ++ smallC l a b c) ∧ Below W1.heap.size W1 W)) (fun _ p _ => L - (intOf p).toNat)
          case atStart => exact ⟨_, b + 1, by omega, by omega, rfl, by go_num, HC0.out⟩
          case round =>
            obtain ⟨vo, c, hbc, hc, hvo, rfl, HK⟩ := hrel
            obtain ⟨av, cv, hv2⟩ := own_slice1 HK.out.1
            subst hv2
            subst hvo
            obtain ⟨K, hK⟩ : ∃ K, (smallA l a ++ smallB l a b ++ smallC l a b c).length = K := ⟨_, rfl⟩
            have HKK : Hid ((smallA l a ++ smallB l a b ++ smallC l a b c).length = K) := hK
            rw [hK] at HK ⊢
            clear hK
            have HEX : Hid ((nr = false ∨ c = L) → smallA l a ++ smallB l a b ++ smallC l a b c = smallA l a ++ smallB l a (b + 1)) := fun h => by
              rw [smallB_more l hab, ← List.append_assoc, HLL.out]
              rcases h with h | h
              · rw [smallC_far l c (HN1.out.trans h), smallC_far l L (HN1.out.trans h)]
              · rw [h]
            cases nr with
            | false =>
              have HE : Hid (OwnRows W1.heap.size wr (.slice av K cv) (smallA l a ++ smallB l a (b + 1))) := by
                have := HK.out.1
                rw [HEX.out (.inl rfl)] at this
                exact this
              by_cases hcL : c < L
              · go_wp2_with fail
                go_roundw
                case rel => exact ⟨_, b + 1, by omega, by omega, rfl, by go_num, HE.out, HK.out.2⟩
                case measure => simp [intOf]; omega
              · obtain rfl : c = L := by omega
                go_wp2_with fail
                go_roundw
                case rel => exact ⟨_, b + 1, by omega, by omega, rfl, by go_num, HE.out, HK.out.2⟩
                case measure => simp [intOf]; omega
            | true =>
              by_cases hcL : c < L
              · have hcl : c < l.length := by rw [HLL.out]; exact hcL
                obtain ⟨pc, hpc⟩ : ∃ pc, l[c]? = some pc := ⟨_, List.getElem?_eq_getElem hcl⟩
                have HPC : Hid (l[c]? = some pc ∧ pc ∈ l) := ⟨hpc, List.mem_of_getElem? hpc⟩
                have HMO : Hid (smallC l a b (c + 1) = smallC l a b c ++ if nearN pa pc && nearN pb pc then [[(a : Int), (b : Int), (c : Int)]] else []) := by
                  have := smallC_more l hbc HN1.out
                  rw [HPA.out.1, HPB.out.1, hpc] at this
                  exact this
                obtain ⟨ca1, ca2, ca3⟩ := HC.out wr a pa HK.out.2 HPA.out.1
                obtain ⟨cc1, cc2, cc3⟩ := HC.out wr c pc HK.out.2 hpc
                have hnr := HNR.out pa pc wr.drew HPA.out.2 HPC.out.2
                obtain ⟨x, hx⟩ : ∃ x, nearN pa pc = x := ⟨_, rfl⟩
                obtain ⟨y, hy⟩ : ∃ y, nearN pb pc = y := ⟨_, rfl⟩
                have HXY : Hid (nearN pa pc = x ∧ nearN pb pc = y) := ⟨hx, hy⟩
                rw [hx] at hnr
                rw [hx, hy] at HMO
                have y0 : (0 : Int) ≤ (c : Int) := by omega
                have y1 : (c : Int) < (L : Int) := by omega
                clear hpc hx hy
                go_upto_region 13 with fail
                go_cut [9] from 48 to 56 (fun q wx => q = .bool x ∧ Hid (OwnRows W1.heap.size wx (.slice av K cv) (smallA l a ++ smallB l a b ++ smallC l a b c) ∧ Below W1.heap.size W1 wx))
                case first =>
                  go_wp2_with fail
                  go_region_with (go_at_call 28; refine hnr.mono ?_; rintro e V ⟨rfl, hV⟩; have H9 : Hid (OwnRows W1.heap.size V (.slice av K cv) (smallA l a ++ smallB l a b ++ smallC l a b c) ∧ Below W1.heap.size W1 V) := ⟨HK.out.1.below ((Below.refl _ wr).drew.trans hV), HK.out.2.trans (((Below.refl _ wr).drew.trans hV).mono HK.out.2.size)⟩; clear hV)
                  all_goals go_wp2_with fail
                  all_goals go_meet
                  all_goals exact ⟨rfl, H9.out⟩
                obtain ⟨rfl, H3⟩ := hcut
                obtain ⟨Wc, hWc⟩ : ∃ W, W = wc := ⟨_, rfl⟩
                subst hWc
                clear ca1 ca2 ca3 cc1 cc2 cc3 hnr HK
                obtain ⟨cb1, cb2, cb3⟩ := HC.out Wc b pb H3.out.2 HPB.out.1
                obtain ⟨cc1, cc2, cc3⟩ := HC.out Wc c pc H3.out.2 HPC.out.1
                have hnr := HNR.out pb pc Wc.drew HPB.out.2 HPC.out.2
                rw [HXY.out.2] at hnr
                go_upto_region 14 with fail
                go_cut [10] from 57 to 65 (fun q wx => q = .bool y ∧ Hid (OwnRows W1.heap.size wx (.slice av K cv) (smallA l a ++ smallB l a b ++ smallC l a b c) ∧ Below W1.heap.size W1 wx))
                case first =>
                  go_wp2_with fail
                  go_region_with (go_at_call 28; refine hnr.mono ?_; rintro e V ⟨rfl, hV⟩; have H9 : Hid (OwnRows W1.heap.size V (.slice av K cv) (smallA l a ++ smallB l a b ++ smallC l a b c) ∧ Below W1.heap.size W1 V) := ⟨H3.out.1.below ((Below.refl _ Wc).drew.trans hV), H3.out.2.trans (((Below.refl _ Wc).drew.trans hV).mono H3.out.2.size)⟩; clear hV)
                  all_goals go_wp2_with fail
                  all_goals go_meet
                  all_goals exact ⟨rfl, H9.out⟩
                obtain ⟨rfl, H4⟩ := hcut
                obtain ⟨Wd, hWd⟩ : ∃ W, W = wc := ⟨_, rfl⟩
                subst hWd
                clear cb1 cb2 cb3 cc1 cc2 cc3 hnr H3
                by_cases hxy : x = true ∧ y = true
                · obtain ⟨rfl, rfl⟩ := hxy
                  obtain ⟨vs, hvs1, hvs2⟩ := H4.out.1
                  rw [HKK.out] at hvs1
                  have HVS := Hid.mk' (And.intro hvs1 hvs2)
                  have hws : W1.heap.size ≤ Wd.heap.size := H4.out.2.size
                  clear hvs1 hvs2
                  have HKS : Hid (K ≤ 200000 * 5) := by
                    have h1 := small_few HL.out.1 hn (a := a) (b := b) (c := c) (by rw [HLL.out]; omega) (by rw [HLL.out]; omega) (by rw [HLL.out]; omega)
                    rw [HKK.out] at h1
                    exact h1
                  have hks := HKS.out
                  have HAP : Hid (∀ v5 w5 o, w5.ownsRow W1.heap.size 3 1 v5 (0 + 3) ([] ++ [.int .i64 (a : Int), .int .i64 (b : Int), .int .i64 (c : Int)]) → (Wd.alloc o).grownBy w5 none → (v5.ownBlock = none ∨ v5.ownBlock = some (Wd.alloc o).heap.size) → W1.heap.size ≤ w5.heap.size ∧ w5.ownsRow W1.heap.size 22 1 (.slice av K cv) K vs ∧ ∀ v6 w6 o6, w6.ownsRow W1.heap.size 22 1 v6 (K + 1) (vs ++ [v5]) → (w5.alloc o6).grownBy w6 (Value.slice av K cv).ownBlock → (v6.ownBlock = (Value.slice av K cv).ownBlock ∨ v6.ownBlock = some (w5.alloc o6).heap.size) → OwnRows W1.heap.size w6 v6 (smallA l a ++ smallB l a b ++ smallC l a b (c + 1)) ∧ Below W1.heap.size W1 w6) := fun v5 w5 o h1 h2 h3 => by
                    have hs5 := h2.size
                    rw [World.size_alloc] at hs5
                    refine ⟨by omega, own_kept9 HVS.out.1 fun b' e hb' => (h2.block b' (by rw [World.size_alloc]; omega) (by simp)).trans ((World.grownBy_alloc Wd o none).block b' hb' (by simp)), fun v6 w6 o6 k1 k2 k3 => ?_⟩
                    have hp := push_new (xss := smallA l a ++ smallB l a b ++ smallC l a b c) (l := [(a : Int), (b : Int), (c : Int)]) HVS.out.1 HKK.out HVS.out.2 hws h1 h2 h3 k1 k2 k3
                    refine ⟨?_, hp.2 _ _ H4.out.2 (Nat.le_refl _)⟩
                    have h9 : smallC l a b (c + 1) = smallC l a b c ++ [[(a : Int), (b : Int), (c : Int)]] := HMO.out
                    rw [h9, ← List.append_assoc]
                    exact hp.1
                  go_wp2_with (first
                    | (at_builtin; refine wpList_append_own_at _ rfl (.tmp 71) (.tmp 75) 22 rfl W1.heap.size 3 j0 (.int .i64 0) 1 8 Tryd.underlying22 hj0 hy0 hy1 hy2 rfl (by decide) _ 0 [] rfl (World.ownsRow_nil _ _ _ _) ⟨_, 0, none⟩ 3 3 [.int .i64 (a : Int), .int .i64 (b : Int), .int .i64 (c : Int)] rfl rfl (cells_new _ _ _) (by simp [Value.oneCell']) (by unfold maxLen; omega) (by omega) (by simp; omega) ?_; intro v5 w5 hown5 hg5 hn5 hl5; have H5 := Hid.mk' (HAP.out v5 w5 _ hown5 hg5 hl5); have hw5 := H5.out.1; obtain ⟨a5, c5, rfl⟩ := own_sl hown5; clear hown5 hg5 hn5 hl5)
                    | (at_builtin; refine wpList_append_own_at _ rfl (.tmp 70) (.tmp 77) 32 rfl W1.heap.size 22 i0 (.slice none 0 0) 1 24 Tryd.underlying32 hi0 hz0 hz1 hz2 rfl (by decide) _ K _ rfl (H5.out.2.1.alloc _) ⟨_, 0, none⟩ 1 1 [.slice a5 (0 + 3) c5] rfl rfl (cells_new _ _ _) (by simp [Value.oneCell']) (by unfold maxLen; omega) (by omega) (by simp; omega) ?_; intro v6 w6 hown6 hg6 hn6 hl6; have H6 := Hid.mk' (H5.out.2.2 v6 w6 _ hown6 hg6 hl6); clear hown6 hg6 hn6 hl6)
                    | fail)
                  go_roundw
                  case rel => exact ⟨_, c + 1, by omega, by omega, rfl, by go_num, H6.out⟩
                  case measure => simp [intOf]; omega
                · have HE : Hid (smallA l a ++ smallB l a b ++ smallC l a b (c + 1) = smallA l a ++ smallB l a b ++ smallC l a b c) := by
                    show _ = _
                    rw [HMO.out, if_neg (by rw [Bool.and_eq_true]; exact hxy), List.append_nil]
                  cases x with
                  | false =>
                    go_wp2_with fail
                    go_roundw
                    case rel => exact ⟨_, c + 1, by omega, by omega, rfl, by go_num, by rw [HE.out]; exact H4.out.1, H4.out.2⟩
                    case measure => simp [intOf]; omega
                  | true =>
                    cases y with
                    | true => exact absurd ⟨rfl, rfl⟩ hxy
                    | false =>
                      go_wp2_with fail
                      go_roundw
                      case rel => exact ⟨_, c + 1, by omega, by omega, rfl, by go_num, by rw [HE.out]; exact H4.out.1, H4.out.2⟩
                      case measure => simp [intOf]; omega
              · obtain rfl : c = L := by omega
                have HE : Hid (OwnRows W1.heap.size wr (.slice av K cv) (smallA l a ++ smallB l a (b + 1))) := by
                  have := HK.out.1
                  rw [HEX.out (.inr rfl)] at this
                  exact this
                go_wp2_with fail
                go_roundw
                case rel => exact ⟨_, b + 1, by omega, by omega, rfl, by go_num, HE.out, HK.out.2⟩
                case measure => simp [intOf]; omega
        · obtain rfl : b = L := by omega
          have HE : Hid (smallA l a ++ smallB l a b = smallA l (a + 1)) := by show _ = _; rw [smallA_more, HLL.out]
          go_wp2_with fail
          go_roundw
          case rel => exact ⟨_, a + 1, by omega, rfl, by go_num, by rw [← HE.out]; exact HB.out.1, HB.out.2⟩
          case measure => simp [intOf]; omega
    · obtain rfl : a = L := by omega
      have HE : Hid (smallA l a = smallL n) := by show _ = _; unfold smallL; rw [HL.out.1, HLL.out]
      have HW : Hid (Below w.heap.size w wr) := H1.out.2.trans (HA.out.2.mono H1.out.2.size)
      go_wp2_with fail
      go_ret
      refine ⟨_, rfl, ?_, HW.out⟩
      rw [← HE.out]
      exact own_lower HA.out.1 H1.out.2.size

end Go.Proofs.YtbohobelbgbibaaDoor
