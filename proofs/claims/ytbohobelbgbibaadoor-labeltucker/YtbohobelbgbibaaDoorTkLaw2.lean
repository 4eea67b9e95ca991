/- LabelTucker answers true of labels that may not stand, and of those that may. -/
import Derived.Test.YtbohobelbgbibaaDoorTkLaw
namespace Go.Proofs.YtbohobelbgbibaaDoor
open Go.RowKit Go.Sort

theorem tk_alloc_new (w : World) (o : Obj) : (w.alloc o).heap[w.heap.size]? = some o := by
  rw [alloc_eq_grow]
  show (w.heap ++ #[o])[w.heap.size]? = some o
  rw [Array.getElem?_append_right (Nat.le_refl _), Nat.sub_self]
  rfl
theorem tk_own_empty (w : World) (t : TypeId) (base : Nat) (hb : base ≤ w.heap.size) : (w.alloc (.cells #[] t)).ownsRow base t 1 (.slice (some ⟨w.heap.size, 0, none⟩) 0 0) 0 [] :=
  ⟨rfl, .inr ⟨w.heap.size, 0, #[], rfl, hb, tk_alloc_new w _, Nat.le_refl _, Nat.zero_le _, rfl, rfl⟩⟩

set_option maxRecDepth 100000 in
set_option maxHeartbeats 4000000 in
theorem tucker_bad {a : Nat → Addr} {sx : Nat → ByteArray} {ls : List Int} (n : Int) (vl : Value) (w : World) (hE : Errs a sx w) (hl : Ints w vl ls) (hr : ∀ q, q < ls.length → (-9223372036854775808 ≤ labA ls q ∧ labA ls q ≤ 9223372036854775807)) (h9 : ls.length ≤ 300) (hg : ¬ SqGood n ls) :
    Calls Tryd.prog 5 #[.int .i64 n, vl] w fun e w' => e = .returned (.bool true) ∧ Below w.heap.size w w' := by
  obtain ⟨j0, hj0, hy0, hy1, hy2⟩ := info_parts Tryd.infoInt
  have hco := corner_ w
  have HE : Hid (∀ V, Below w.heap.size w V → Errs a sx V) := fun V hV => hE.below hV
  have HI : Hid (∀ V, Below w.heap.size w V → Ints V vl ls) := fun V hV => hl.below hV
  have HSF : Hid (∀ V, Below w.heap.size w V → Calls Tryd.prog 23 #[.int .i64 n, vl] V fun e w' => ∃ c p, e = .returned (.agg #[.int .i64 c, .int .i64 p]) ∧ SqIs n ls c p ∧ 0 < c ∧ Below V.heap.size V w') := fun V hV => (sq_all n vl V (hl.below hV) hr).mono fun e w' h => by
    obtain ⟨c, p, h1, h2, h3⟩ := h
    exact ⟨c, p, h1, h2, h2.bad hg, h3⟩
  have HOP : Hid (∀ V u, Below w.heap.size w V → Ints V u ls → Calls Tryd.prog 22 #[.int .i64 n, u] V fun e w' => ∃ t q, e = .returned (.tuple #[.slice none 0 0, .iface t (.pointer (some q))]) ∧ SqErr a w' n ls (.iface t (.pointer (some q))) ∧ Below V.heap.size V w') := fun V u hV hu => opp_bad n u V (hE.below hV) hu (by omega) hg
  obtain ⟨al, cl, rfl, -, -⟩ := hl.open_
  obtain ⟨m, hm⟩ : ∃ m, ls.length = m := ⟨_, rfl⟩
  have HM := Hid.mk' hm
  rw [hm] at h9 HI HSF ⊢
  clear hE hl hm hg hr
  go_enter Tryd.func5, Tryd.ntmps5
  go_upto_region 4 with (first
    | (go_at_call 6; refine hco.mono ?_; rintro e V1 ⟨rfl, hb⟩; have HB := Hid.mk' hb; have hic1 : Ints (V1.alloc (.cells #[] 3)) (.slice al m cl) ls := HI.out _ (hb.alloc hb.size _); clear hb hco)
    | fail)
  go_upto_region 5 with (first
    | (at_builtin; refine wpList_append_slice rfl (.tmp 22) (.tmp 23) 22 rfl V1.heap.size 3 j0 (.int .i64 0) 8 Tryd.underlying22 hj0 hy0 hy1 hy2 rfl _ _ _ rfl (tk_own_empty V1 3 V1.heap.size (Nat.le_refl _)) _ (ls.map (Value.int .i64)) rfl hic1 (ints_one ls) (by rw [List.length_map, HM.out]; omega) (by unfold maxLen; rw [List.length_map, HM.out]; omega) (by simp) ?_; intro v1c V1c hown hg hl5; have HC1 : Hid (Ints V1c v1c ls ∧ Below w.heap.size w V1c) := ⟨slice_of_owns hown (fun _ _ _ => trivial), (HB.out.alloc HB.out.size _).grown hg (Nat.le_trans HB.out.size (by simp)) (fun b e => by have := (World.ownsRow.lt (tk_own_empty V1 3 V1.heap.size (Nat.le_refl _)) b e).1; have := HB.out.size; omega)⟩; obtain ⟨ca1, cc1, hcv⟩ := own_sl hown; rw [show 0 + (ls.map (Value.int .i64)).length = m by rw [List.length_map, HM.out, Nat.zero_add]] at hcv; subst hcv; clear hown hg hl5 hic1)
    | (go_at_call 22; refine (HOP.out V1c (.slice ca1 m cc1) HC1.out.2 HC1.out.1).mono ?_; rintro e V2 ⟨t1, q1, rfl, he, hb⟩; have HB2 : Hid (Below w.heap.size w V2) := HC1.out.2.trans (hb.mono HC1.out.2.size); have HX := Hid.mk' he; have hsf := HSF.out V2 HB2.out; clear hb he)
    | fail)
  go_upto_region 6 with (first
    | (go_at_call 23; refine hsf.mono ?_; rintro e V6 ⟨c, p, rfl, hfi, hc0, hb⟩; have H6 : Hid (SqIs n ls c p ∧ 0 < c ∧ Below w.heap.size w V6 ∧ SqErr a V6 n ls (.iface t1 (.pointer (some q1)))) := ⟨hfi, hc0, HB2.out.trans (hb.mono HB2.out.size), HX.out.below hb⟩; clear hfi hc0 hb hsf)
    | fail)
  obtain ⟨k0, k1, hB7⟩ := box2 V6 (.int .i64 c) (.int .i64 p) 38
  obtain ⟨W7, hW7⟩ : ∃ W7, V6.alloc (.cells #[.int .i64 c, .int .i64 p] 38) = W7 := ⟨_, rfl⟩
  rw [hW7] at k0 k1 hB7 ⊢
  obtain ⟨fb, hfb⟩ : ∃ b, V6.heap.size = b := ⟨_, rfl⟩
  rw [hfb] at k0 k1 ⊢
  have HB7 : Hid (Below w.heap.size w W7) := H6.out.2.2.1.trans ((hfb ▸ hB7).mono (hfb ▸ H6.out.2.2.1.size))
  have hfa : Calls Tryd.prog 16 #[.iface t1 (.pointer (some q1)), .agg #[.int .i64 c, .int .i64 p]] W7 fun e w' => e = .returned (.bool true) ∧ Below W7.heap.size W7 w' := sq_faulted W7 (HE.out W7 HB7.out) (H6.out.2.2.2.below (hfb ▸ hB7)) H6.out.1
  have hc0 := H6.out.2.1
  clear hW7 hfb hB7
  go_wp2_with (first
    | (go_at_call 16; refine hfa.mono ?_; rintro e V8 ⟨rfl, hb⟩; have HB8 : Hid (Below w.heap.size w V8) := HB7.out.trans (hb.mono HB7.out.size); clear hb hfa)
    | fail)
  go_ret
  exact ⟨rfl, HB8.out⟩

set_option maxRecDepth 100000 in
set_option maxHeartbeats 4000000 in
theorem tucker_good {kq : Addr} {ls : List Int} (n : Nat) (vl : Value) (w : World) (hE : KindAt kq w) (hl : Ints w vl ls) (hr : ∀ q, q < ls.length → (-9223372036854775808 ≤ labA ls q ∧ labA ls q ≤ 9223372036854775807)) (h9 : ls.length ≤ 300) (hg : SqGood (n : Int) ls) :
    Calls Tryd.prog 5 #[.int .i64 (n : Int), vl] w fun e w' => e = .returned (.bool true) ∧ Below w.heap.size w w' := by
  obtain ⟨j0, hj0, hy0, hy1, hy2⟩ := info_parts Tryd.infoInt
  have hco := corner_ w
  have HI : Hid (∀ V, Below w.heap.size w V → Ints V vl ls) := fun V hV => hl.below hV
  have hn := hg.1
  have HSF : Hid (∀ V, Below w.heap.size w V → Calls Tryd.prog 23 #[.int .i64 (n : Int), vl] V fun e w' => e = .returned (.agg #[.int .i64 0, .int .i64 (-1)]) ∧ Below V.heap.size V w') := fun V hV => sq_good n vl V (hl.below hV) hr hg
  have hL0 := pairs_pos hg
  have hL9 : (pairsA n ls ls.length).length ≤ 90000 := by
    have h1 := pairsA_len n ls ls.length
    have h2 := Nat.mul_le_mul h9 h9
    omega
  obtain ⟨L, hL⟩ : ∃ L, (pairsA n ls ls.length).length = L := ⟨_, rfl⟩
  have HOP : Hid (∀ V u, Below w.heap.size w V → Ints V u ls → Calls Tryd.prog 22 #[.int .i64 (n : Int), u] V fun e w' => ∃ g cap, e = .returned (.tuple #[.slice (some ⟨g, 0, none⟩) L cap, .nilIface]) ∧ (∀ j x, (pairsA n ls ls.length)[j]? = some x → w'.cell? ⟨g, j * 2, none⟩ = some (.int .i64 x.1) ∧ w'.cell? ⟨g, j * 2 + 1, none⟩ = some (.int .i64 x.2)) ∧ Below V.heap.size V w') := fun V u hV hu => by rw [← hL]; exact opp_good n u V (hE.below hV) hu hg
  have HOO : Hid (∀ V, Below w.heap.size w V → Calls Tryd.prog 24 #[.int .i64 (n : Int), vl] V fun e w' => ∃ ra rc, e = .returned (.slice ra L rc) ∧ Rows w' (.slice ra L rc) ((pairsA n ls ls.length).map t2L) ∧ Below V.heap.size V w') := fun V hV => (oppOf_ n (by omega) (by omega) vl V (hl.below hV) hg.2.1 (fun q hq => by
    have := (hg.2.2 q hq).1
    unfold lab4 at this
    omega)).mono fun e w' h => by
      obtain ⟨v, h1, h2, h3⟩ := h
      obtain ⟨ra, rc, hv⟩ := own_slice1 h2
      rw [List.length_map, hL] at hv
      subst hv
      exact ⟨ra, rc, h1, h2.rows, h3⟩
  obtain ⟨P, hP⟩ : ∃ P, pairsA n ls ls.length = P := ⟨_, rfl⟩
  rw [hP] at HOP HOO hL hL0 hL9
  rw [hL] at hL0 hL9
  have HL := Hid.mk' hL
  obtain ⟨al, cl, rfl, -, -⟩ := hl.open_
  obtain ⟨m, hm⟩ : ∃ m, ls.length = m := ⟨_, rfl⟩
  have HM := Hid.mk' hm
  rw [hm] at h9 HI HSF HOO ⊢
  have hLz : ((L : Int) == 0) = false := beq_false_of_ne (by omega)
  clear hE hl hm hg hr hL hP
  go_enter Tryd.func5, Tryd.ntmps5
  go_upto_region 4 with (first
    | (go_at_call 6; refine hco.mono ?_; rintro e V1 ⟨rfl, hb⟩; have HB := Hid.mk' hb; have hic1 : Ints (V1.alloc (.cells #[] 3)) (.slice al m cl) ls := HI.out _ (hb.alloc hb.size _); clear hb hco)
    | fail)
  go_upto_region 5 with (first
    | (at_builtin; refine wpList_append_slice rfl (.tmp 22) (.tmp 23) 22 rfl V1.heap.size 3 j0 (.int .i64 0) 8 Tryd.underlying22 hj0 hy0 hy1 hy2 rfl _ _ _ rfl (tk_own_empty V1 3 V1.heap.size (Nat.le_refl _)) _ (ls.map (Value.int .i64)) rfl hic1 (ints_one ls) (by rw [List.length_map, HM.out]; omega) (by unfold maxLen; rw [List.length_map, HM.out]; omega) (by simp) ?_; intro v1c V1c hown hg hl5; have HC1 : Hid (Ints V1c v1c ls ∧ Below w.heap.size w V1c) := ⟨slice_of_owns hown (fun _ _ _ => trivial), (HB.out.alloc HB.out.size _).grown hg (Nat.le_trans HB.out.size (by simp)) (fun b e => by have := (World.ownsRow.lt (tk_own_empty V1 3 V1.heap.size (Nat.le_refl _)) b e).1; have := HB.out.size; omega)⟩; obtain ⟨ca1, cc1, hcv⟩ := own_sl hown; rw [show 0 + (ls.map (Value.int .i64)).length = m by rw [List.length_map, HM.out, Nat.zero_add]] at hcv; subst hcv; clear hown hg hl5 hic1)
    | (go_at_call 22; refine (HOP.out V1c (.slice ca1 m cc1) HC1.out.2 HC1.out.1).mono ?_; rintro e V2 ⟨g, cap, rfl, he, hb⟩; have HB2 : Hid (Below w.heap.size w V2) := HC1.out.2.trans (hb.mono HC1.out.2.size); have HX := Hid.mk' he; have hsf := HSF.out V2 HB2.out; clear hb he)
    | fail)
  go_upto_region 6 with (first
    | (go_at_call 23; refine hsf.mono ?_; rintro e V6 ⟨rfl, hb⟩; have HB6 : Hid (Below w.heap.size w V6) := HB2.out.trans (hb.mono HB2.out.size); have HS6 := Hid.mk' hb; clear hb hsf)
    | fail)
  obtain ⟨k0, k1, hB7⟩ := box2 V6 (.int .i64 0) (.int .i64 (-1)) 38
  obtain ⟨W7, hW7⟩ : ∃ W7, V6.alloc (.cells #[.int .i64 0, .int .i64 (-1)] 38) = W7 := ⟨_, rfl⟩
  rw [hW7] at k0 k1 hB7 ⊢
  obtain ⟨fb, hfb⟩ : ∃ b, V6.heap.size = b := ⟨_, rfl⟩
  rw [hfb] at k0 k1 ⊢
  have HB7 : Hid (Below w.heap.size w W7) := HB6.out.trans ((hfb ▸ hB7).mono (hfb ▸ HB6.out.size))
  have HS7 : Hid (Below V2.heap.size V2 W7) := HS6.out.trans ((hfb ▸ hB7).mono (hfb ▸ HS6.out.size))
  have hoo := HOO.out W7 HB7.out
  clear hW7 hfb hB7
  go_upto_region 11 with (first
    | (go_at_call 24; refine hoo.mono ?_; rintro e V8 ⟨ra, rc, rfl, hro, hb⟩; have H8 : Hid (Rows V8 (.slice ra L rc) (P.map t2L) ∧ Below w.heap.size w V8 ∧ ∀ j x, P[j]? = some x → V8.cell? ⟨g, j * 2, none⟩ = some (.int .i64 x.1) ∧ V8.cell? ⟨g, j * 2 + 1, none⟩ = some (.int .i64 x.2)) := ⟨hro, HB7.out.trans (hb.mono HB7.out.size), fun j x hx => by
        have hc := HX.out j x hx
        have hB := HS7.out.trans (hb.mono HS7.out.size)
        exact ⟨(hB.cell (p := ⟨g, j * 2, none⟩) (cell_lt hc.1)).trans hc.1, (hB.cell (p := ⟨g, j * 2 + 1, none⟩) (cell_lt hc.2)).trans hc.2⟩⟩; clear hro hb hoo)
    | fail)
  go_wp2_with fail
  go_loopw [10] (fun p W => ∃ k : Nat, k ≤ L ∧ p = .int .i64 (k : Int) ∧ Hid (Below V8.heap.size V8 W)) (fun p _ => L - (intOf p).toNat)
  case atStart => exact ⟨0, by omega, rfl, Below.refl _ _⟩
  case round =>
    obtain ⟨k, hk, rfl, HK⟩ := hrel
    by_cases hkL : k < L
    · obtain ⟨x, hx⟩ : ∃ x, P[k]? = some x := ⟨_, List.getElem?_eq_getElem (by rw [HL.out]; exact hkL)⟩
      obtain ⟨e0, e1⟩ := H8.out.2.2 k x hx
      have d0 := (HK.out.cell (p := ⟨g, k * 2, none⟩) (cell_lt e0)).trans e0
      have d1 := (HK.out.cell (p := ⟨g, k * 2 + 1, none⟩) (cell_lt e1)).trans e1
      obtain ⟨a2, c2, ea2, -, hx2⟩ := (H8.out.1.below HK.out).open_
      rw [List.length_map, HL.out] at ea2 hx2
      cases ea2
      obtain ⟨bb, off, rfl, -, -, hcell2⟩ := hx2 (by omega)
      obtain ⟨a3, c3, ck, hi3⟩ := hcell2 k hkL
      rw [List.getElem?_map, hx, Option.map_some, Option.getD_some] at ck hi3
      obtain ⟨a4, c4, ea4, -, hx4⟩ := hi3.open_
      cases ea4
      obtain ⟨b4, o4, rfl, -, -, hc4⟩ := hx4 (by simp [t2L])
      have r0 := hc4 0 (by simp [t2L])
      have r1 := hc4 1 (by simp [t2L])
      simp only [t2L, List.getElem?_cons_zero, List.getElem?_cons_succ, Option.getD_some, Nat.add_zero] at r0 r1
      rw [show (t2L x).length = 2 from rfl] at ck
      obtain ⟨x0, x1⟩ := x
      dsimp only at d0 d1 r0 r1
      have y0 : (0 : Int) ≤ (k : Int) := by omega
      have y1 : (k : Int) < (L : Int) := by omega
      have HQ : Hid (∀ q, Below V8.heap.size V8 (wr.drewN q)) := fun q => HK.out.trans ((drewN_below wr q).mono HK.out.size)
      clear hx e0 e1 hx2 hcell2 hi3 hx4 hc4
      go_upto_region 14 with fail
      go_quiet (fail)
      go_wp2_with fail
      go_roundw
      case rel => exact ⟨k + 1, by omega, by go_num, HQ.out _⟩
      case measure => simp [intOf]; omega
    · obtain rfl : k = L := by omega
      have HBE : Hid (Below w.heap.size w wr) := H8.out.2.1.trans (HK.out.mono H8.out.2.1.size)
      go_wp2_with fail
      go_ret
      exact ⟨rfl, HBE.out⟩

/-- LabelTucker answers true. -/
theorem tucker_law {a : Nat → Addr} {sx : Nat → ByteArray} {ls : List Int} (n : Int) (vl : Value) (w : World) (hE : Errs a sx w) (hl : Ints w vl ls) (hr : ∀ q, q < ls.length → (-9223372036854775808 ≤ labA ls q ∧ labA ls q ≤ 9223372036854775807)) :
    Calls Tryd.prog 5 #[.int .i64 n, vl] w fun e w' => e = .returned (.bool true) ∧ Below w.heap.size w w' := by
  by_cases h9 : 300 < ls.length
  · exact tucker_big n vl w hl h9
  · by_cases hg : SqGood n ls
    · obtain ⟨m, rfl⟩ : ∃ m : Nat, n = (m : Int) := ⟨n.toNat, by have := hg.1; omega⟩
      exact tucker_good m vl w hE.kind hl hr (by omega) hg
    · exact tucker_bad n vl w hE hl hr (by omega) hg

end Go.Proofs.YtbohobelbgbibaaDoor
