/- The table is told. -/
import Derived.Test.YtmaopnbnbiediaaDoorGrpTold0
namespace Go.Proofs.YtmaopnbnbiediaaDoor
open Go.RowKit Go.Sort

theorem ints_row {S : Nat → Prop} {W : World} {g n : Nat} {r : List Int} (h : W.rowIs g 3 n (fun x => .int .i64 (rowTo r x))) (hr : r.length = n) (hS : S g) : IntsIn S W (.slice (some ⟨g, 0, none⟩) n n) r := by
  subst hr
  refine ⟨some ⟨g, 0, none⟩, r.length, by rw [List.length_map], ⟨by rw [List.length_map]; exact Nat.le_refl _, fun h => by cases h⟩, fun _ => ⟨g, 0, rfl, hS, fun k u hu => ?_⟩⟩
  rw [List.getElem?_map] at hu
  cases hk : r[k]? with
  | none => rw [hk] at hu; cases hu
  | some y =>
    rw [hk] at hu
    obtain rfl := Option.some.inj hu
    have hkl : k < r.length := (List.getElem?_eq_some_iff.1 hk).1
    rw [Nat.zero_add]
    have := h.cell hkl
    rw [this]
    unfold rowTo
    rw [hk]; rfl

theorem rowK_ok {n : Nat} {s : Cos} (hI : CInv n s) (a : Nat) {ord : List Nat} (h : OrdOk s ord) (hF : ∀ x, x < 2 * n → ent s.R a x ≠ -1) : ∀ k, k ≤ 2 * n → OrdOk s (rowK s a k ord).1 ∧ ord <+: (rowK s a k ord).1
  | 0, _ => ⟨h, List.prefix_rfl⟩
  | k + 1, hk => by
    obtain ⟨h1, h2⟩ := rowK_ok hI a h hF k (by omega)
    obtain ⟨t, ht⟩ : ∃ t, s.cls (ent s.R a k).toNat = t := ⟨_, rfl⟩
    by_cases e : t ∈ (rowK s a k ord).1
    · rw [rowK_in ht e]; exact ⟨h1, h2⟩
    · rw [rowK_out ht e]
      have hr := (hI.rng a k).resolve_left (hF k (by omega))
      refine ⟨h1.more e ?_ ?_, h2.trans (List.prefix_append _ _)⟩
      · rw [← ht]; exact hI.cls_lt (by omega)
      · rw [← ht]; exact hI.cls.idem _

theorem toldF_step {n m i a : Nat} {s : Cos} {ord : List Nat} {out : List (List Int)} (h : ord[i]? = some a) : toldF n s (m + 1) i ord out = toldF n s m (i + 1) (rowK s a (2 * n) ord).1 (out ++ [(rowK s a (2 * n) ord).2]) := by
  rw [toldF, h]
theorem toldF_end {n m i : Nat} {s : Cos} {ord : List Nat} {out : List (List Int)} (h : ord.length ≤ i) : toldF n s m i ord out = out := by
  cases m with
  | zero => rfl
  | succ m => rw [toldF, List.getElem?_eq_none h]

/-- While the table is told. -/
structure TellAt (B : Nat) (X : Nat → Prop) (P n : Nat) (s : Cos) (w : World) (OUT : List (List Int)) (g4 : Nat) (W : World) (vo vout : Value) (i m : Nat) (ord : List Nat) (out : List (List Int)) : Prop where
  told : ToldAt w.heap.size s.R.length W vo vout g4 ord ord out (fun _ => False)
  ok : OrdOk s ord
  fin : toldF n s m i ord out = OUT
  op : OpAt B (fun b => X b ∨ w.heap.size ≤ b) P n W s
  kp : Kp B X w W
  len : out.length = i

set_option maxRecDepth 100000 in
set_option maxHeartbeats 4000000 in
theorem told_ {B : Nat} {X : Nat → Prop} {P n : Nat} {s : Cos} (w : World) (h : OpAt B X P n w s) (hI : CInv n s) (hF : ∀ a, a < s.R.length → s.cls a = a → ∀ x, x < 2 * n → ent s.R a x ≠ -1) (hn : n ≤ 12) :
    Calls Tryd.prog 38 #[.pointer (some ⟨P, 0, none⟩)] w fun e w' => ∃ v, e = .returned v ∧ Rows w' v (toldP n s) ∧ Kp B X w w' := by
  obtain ⟨i0, hi0, hz0, hz1, hz2⟩ := info_parts Tryd.info42
  obtain ⟨j0, hj0, hy0, hy1, hy2⟩ := info_parts Tryd.infoi
  have h5 := h.is.2.2.1
  have HO : Hid (OpAt B (fun b => X b ∨ w.heap.size ≤ b) P n w s) := h.turn (fun b hb hy => hy.elim id fun h => by omega)
  have p0 : ∃ G cG, w.cell? ⟨P, 0, none⟩ = some (.slice (some ⟨G, 0, none⟩) s.R.length cG) := by obtain ⟨G, cG, H, cH, rb, c, h⟩ := h; exact ⟨G, cG, h.p0⟩
  obtain ⟨G0, cG0, p0⟩ := p0
  have hPl : P < w.heap.size := cell_lt p0
  have HI := Hid.mk' hI
  have HFF := Hid.mk' hF
  have hpos := hI.pos
  obtain ⟨N, hN⟩ : ∃ N, s.R.length = N := ⟨_, rfl⟩
  have HN : Hid (s.R.length = N) := hN
  rw [hN] at p0 h5 hpos
  have hmk := run_make_row' (P := Tryd.prog) 42 3 (.int .i64 0) 8 Tryd.underlying42 Tryd.infoi rfl .i64 .i64 N (by omega) (by omega)
  obtain ⟨W1, hW1⟩ : ∃ W1, w.alloc (.cells #[.int .i64 0] 3) = W1 := ⟨_, rfl⟩
  have hs1 : W1.heap.size = w.heap.size + 1 := by rw [← hW1]; simp
  have hB1 : Below w.heap.size w W1 := by rw [← hW1]; exact (Below.refl _ w).alloc (Nat.le_refl _) _
  have hr := World.rowIs_made W1 (.int .i64 0) N 3
  obtain ⟨W2, hW2⟩ : ∃ W2, W1.alloc (.cells (madeCells #[.int .i64 0] N) 3) = W2 := ⟨_, rfl⟩
  have hB2 : Below w.heap.size w W2 := by rw [← hW2]; exact hB1.alloc (by omega) _
  obtain ⟨g4, hg4⟩ : ∃ g4, W1.heap.size = g4 := ⟨_, rfl⟩
  have c0 := hr.cell (i := 0) hpos
  have f0 := hr.frozen 0
  rw [hW2, hg4] at hr c0 f0
  have HT0 : Hid (TellAt B X P n s w (toldP n s) g4 (W2.setCell ⟨g4, 0, none⟩ (.int .i64 1)) (.slice (some ⟨w.heap.size, 0, none⟩) 1 1) (.slice none 0 0) 0 (N + 1) [0] []) := by
    have hT : ToldAt w.heap.size s.R.length W2 (.slice (some ⟨w.heap.size, 0, none⟩) 1 1) (.slice none 0 0) g4 [0] [] [] (fun _ => False) := by
      refine ⟨?_, ?_, ⟨[], World.ownsRow_nil _ _ _ _, fun k u x hu => by simp at hu⟩, by omega, fun e => by have h9 : w.heap.size = g4 := Option.some.inj e; omega, fun e => (by cases e), fun b _ e => (by cases e), id, fun _ _ => id, fun _ e => (by cases e)⟩
      · have h1 := World.ownsRow_lit (base := w.heap.size) (e := 3) (size := 1) w #[.int .i64 0] 1 (Nat.le_refl _) (by decide) rfl
        rw [hW1] at h1
        have h2 := h1.alloc (.cells (madeCells #[.int .i64 0] N) 3)
        rw [hW2] at h2
        exact h2
      · rw [hN]; exact hr.congr fun t _ => by unfold numV; rw [if_neg (by simp)]
    have hT2 := hT.number (t := 0) (nm' := [0]) (m := 1) (fun u => by
      have := numV_more (ord := []) (t := 0) (by simp) u
      simpa using this)
    refine ⟨hT2, ⟨by simp, fun a ha => ?_, fun a ha => ?_⟩, ?_, ?_, ?_, rfl⟩
    · rw [List.mem_singleton.1 ha, hN]; exact hpos
    · rw [List.mem_singleton.1 ha]; have := hI.cls.le 0; omega
    · rw [← hN]; rfl
    · exact (HO.out.below (hB2.mono (Nat.le_refl _))).poke (.inr (.inr (by simp only; omega)))
    · exact (Kp.of_below hB2).on (grown_at W2 ⟨g4, 0, none⟩ _) (fun b e => by cases e; exact .inl (show w.heap.size ≤ g4 by omega))
  have HW : Hid (w.alloc (.cells #[.int .i64 0] 3) = W1 ∧ W1.alloc (.cells (madeCells #[.int .i64 0] N) 3) = W2 ∧ W1.heap.size = g4) := ⟨hW1, hW2, hg4⟩
  have p1 : W1.cell? ⟨P, 0, none⟩ = some (.slice (some ⟨G0, 0, none⟩) N cG0) := (hB1.cell (p := ⟨P, 0, none⟩) hPl).trans p0
  obtain ⟨OUT, hOUT⟩ : ∃ OUT, toldP n s = OUT := ⟨_, rfl⟩
  rw [hOUT] at HT0 ⊢
  have z0 : (0 : Int) < (N : Int) := by omega
  clear h hI hF hN hW1 hs1 hB1 hr hW2 hB2 hg4 hOUT HO
  go_enter Tryd.func38, Tryd.ntmps38
  go_upto_region 2 with fail
  rw [HW.out.1]
  go_upto_region 3 with fail
  rw [HW.out.2.1, HW.out.2.2]
  go_wp2_with fail
  obtain ⟨W3, hW3⟩ : ∃ W3, W2.setCell ⟨g4, 0, none⟩ (.int .i64 1) = W3 := ⟨_, rfl⟩
  rw [hW3] at HT0 ⊢
  clear hW3 c0 f0 p0 p1 hmk
  go_loopw [3, 5, 6] (fun po pu p W => ∃ (vo vout : Value) (i m : Nat) (ord : List Nat) (out : List (List Int)), i + m = N + 1 ∧ i ≤ N ∧ po = vo ∧ pu = vout ∧ p = .int .i64 (i : Int) ∧ Hid (TellAt B X P n s w OUT g4 W vo vout i m ord out)) (fun _ _ p _ => N + 1 - (intOf p).toNat)
  case atStart => exact ⟨_, _, 0, N + 1, _, _, by omega, by omega, rfl, rfl, rfl, HT0.out⟩
  case round =>
    obtain ⟨vo, vout, i, m, ord, out, him, hiN, rfl, rfl, rfl, HK⟩ := hrel
    have hL := HK.out.ok.few
    rw [HN.out] at hL
    obtain ⟨L, hLe⟩ : ∃ L, ord.length = L := ⟨_, rfl⟩
    have HL : Hid (ord.length = L) := hLe
    obtain ⟨ao, co, hvo⟩ := own_one HK.out.told.o
    rw [hLe] at hL hvo
    subst hvo
    obtain ⟨au, cu, hvu⟩ : ∃ au cu, _ = Value.slice au i cu := by
      obtain ⟨vs, h1, _⟩ := HK.out.told.outs
      obtain ⟨a, c, e⟩ := own_one h1
      rw [HK.out.len] at e
      exact ⟨a, c, e⟩
    subst hvu
    by_cases hiL : i < L
    · obtain ⟨m', rfl⟩ : ∃ m', m = m' + 1 := ⟨m - 1, by omega⟩
      have hio : i < ord.length := by rw [HL.out]; exact hiL
      obtain ⟨a, ha⟩ : ∃ a, ord[i]? = some a := ⟨_, List.getElem?_eq_getElem hio⟩
      have ham : a ∈ ord := List.mem_of_getElem? ha
      have haN : a < N := by rw [← HN.out]; exact HK.out.ok.lt a ham
      have HFA : Hid (∀ x, x < 2 * n → ent s.R a x ≠ -1) := HFF.out a (HK.out.ok.lt a ham) (HK.out.ok.root a ham)
      have HA : Hid (ord[i]? = some a) := ha
      obtain ⟨G, cG, H, cH, rb, c, h1⟩ := HK.out.op
      have q0 := h1.p0
      have q1 := h1.p1
      have qa := h1.row_at (i := a) (HK.out.ok.lt a ham)
      obtain ⟨m2, hm2⟩ : ∃ m2, 2 * n = m2 := ⟨_, rfl⟩
      have HM : Hid (2 * n = m2) := hm2
      rw [HN.out] at q0
      rw [hm2] at qa
      have hmul : (2 : Int) * (n : Int) = (m2 : Int) := by omega
      have hm24 : m2 ≤ 24 := by omega
      have hmk := run_make_row' (P := Tryd.prog) 42 3 (.int .i64 0) 8 Tryd.underlying42 Tryd.infoi rfl .i64 .i64 m2 (by omega) (by omega)
      obtain ⟨go, e1, -, -⟩ : ∃ go, ao = some ⟨go, 0, none⟩ ∧ True ∧ True := by
        obtain ⟨g, c, e, _⟩ := HK.out.told.o.form (by omega)
        cases e
        exact ⟨g, rfl, trivial, trivial⟩
      subst e1
      have co1 := HK.out.told.o.cells (g := go) rfl i (.int .i64 (a : Int)) (by rw [List.getElem?_map, ha]; rfl)
      rw [Addr.add_lit, Nat.zero_add] at co1
      have HOI := Hid.mk' h1
      have hr7 := World.rowIs_made wr (.int .i64 0) m2 3
      obtain ⟨V1, hV1⟩ : ∃ V1, wr.alloc (.cells (madeCells #[.int .i64 0] m2) 3) = V1 := ⟨_, rfl⟩
      obtain ⟨g7, hg7⟩ : ∃ g7, wr.heap.size = g7 := ⟨_, rfl⟩
      have hBV : Below wr.heap.size wr V1 := by rw [← hV1]; exact (Below.refl _ wr).alloc (Nat.le_refl _) _
      rw [hV1, hg7] at hr7
      have co2 := (hBV.cell (p := ⟨go, i, none⟩) (cell_lt co1)).trans co1
      have r0 := (hBV.cell (p := ⟨P, 0, none⟩) (cell_lt q0)).trans q0
      have ra := (hBV.cell (p := ⟨G, a, none⟩) (cell_lt qa)).trans qa
      have HV : Hid (wr.alloc (.cells (madeCells #[.int .i64 0] m2) 3) = V1 ∧ wr.heap.size = g7) := ⟨hV1, hg7⟩
      have HIN0 : Hid ((ToldAt w.heap.size s.R.length V1 (.slice (some ⟨go, 0, none⟩) L co) (.slice au i cu) g4 (rowK s a 0 ord).1 (rowK s a 0 ord).1 out (fun b => b = g7) ∧ V1.rowIs g7 3 m2 (fun x => .int .i64 (rowTo (rowK s a 0 ord).2 x))) ∧ (∃ c, OpIn B (fun b => X b ∨ w.heap.size ≤ b) P n V1 s G cG H cH rb c) ∧ Kp B X w V1) := by
        refine ⟨⟨(HK.out.told.turn (Y := fun b => b = g7) (fun b hb e => by omega)).below hBV, hr7.congr fun x _ => by rfl⟩, ⟨c, h1.below hBV⟩, HK.out.kp.trans (Kp.of_below hBV)⟩
      have hw7 : w.heap.size ≤ g7 := by rw [← hg7]; exact HK.out.kp.size
      have y0 : (0 : Int) ≤ (i : Int) := by omega
      have y1 : (i : Int) < (L : Int) := by omega
      have y2 : (0 : Int) ≤ (a : Int) := by omega
      have y3 : (a : Int) < (N : Int) := by omega
      clear ha ham h1 hm2 hV1 hg7 hBV hr7 hLe
      go_upto_region 9 with fail
      rw [HV.out.1, HV.out.2]
      clear q0 qa co1 hmk
      go_wp2_with fail
      go_region
      all_goals go_wp2_with fail
      have HIN1 : Hid ((ToldAt w.heap.size s.R.length V1.drew (.slice (some ⟨go, 0, none⟩) L co) (.slice au i cu) g4 (rowK s a 0 ord).1 (rowK s a 0 ord).1 out (fun b => b = g7) ∧ V1.drew.rowIs g7 3 m2 (fun x => .int .i64 (rowTo (rowK s a 0 ord).2 x))) ∧ (∃ c, OpIn B (fun b => X b ∨ w.heap.size ≤ b) P n V1.drew s G cG H cH rb c) ∧ Kp B X w V1.drew) := by
        obtain ⟨c9, h9⟩ := HIN0.out.2.1
        exact ⟨⟨HIN0.out.1.1.below (Below.refl _ _).drew, HIN0.out.1.2.of_block rfl⟩, ⟨c9, h9.below (Below.refl _ _).drew⟩, HIN0.out.2.2.drew⟩
      obtain ⟨V2, hV2⟩ : ∃ V2, V1.drew = V2 := ⟨_, rfl⟩
      rw [hV2] at HIN1 ⊢
      clear hV2 HIN0 co2 r0 ra
      go_loopw [3, 44] (fun po p W => ∃ (vo : Value) (k : Nat), k ≤ m2 ∧ po = vo ∧ p = .int .i64 (k : Int) ∧ Hid ((ToldAt w.heap.size s.R.length W vo (.slice au i cu) g4 (rowK s a k ord).1 (rowK s a k ord).1 out (fun b => b = g7) ∧ W.rowIs g7 3 m2 (fun x => .int .i64 (rowTo (rowK s a k ord).2 x))) ∧ (∃ c, OpIn B (fun b => X b ∨ w.heap.size ≤ b) P n W s G cG H cH rb c) ∧ Kp B X w W)) (fun _ p _ => m2 - (intOf p).toNat)
      case atStart => exact ⟨_, 0, by omega, rfl, rfl, HIN1.out⟩
      case round =>
        obtain ⟨vo, k, hk, rfl, rfl, HR⟩ := hrel
        have hok := rowK_ok HI.out a HK.out.ok HFA.out k (by rw [HM.out]; exact hk)
        have hL2 := hok.1.few
        rw [HN.out] at hL2
        obtain ⟨ord2, ho2⟩ : ∃ ord2, (rowK s a k ord).1 = ord2 := ⟨_, rfl⟩
        obtain ⟨r2, hr2⟩ : ∃ r2, (rowK s a k ord).2 = r2 := ⟨_, rfl⟩
        have HOR : Hid ((rowK s a k ord).1 = ord2 ∧ (rowK s a k ord).2 = r2) := ⟨ho2, hr2⟩
        have HRL : Hid (r2.length = k) := by show r2.length = k; rw [← hr2]; exact rowK_len s a k ord
        rw [ho2] at hok hL2
        rw [ho2, hr2] at HR
        have HOK := Hid.mk' hok
        obtain ⟨L2, hLe2⟩ : ∃ L2, ord2.length = L2 := ⟨_, rfl⟩
        have HL2 : Hid (ord2.length = L2) := hLe2
        have hLL : L ≤ L2 := by rw [← hLe2, ← HL.out]; exact hok.2.length_le
        rw [hLe2] at hL2
        clear hok ho2 hr2 hLe2
        obtain ⟨go2, co2, hvo⟩ : ∃ go2 co2, _ = Value.slice (some ⟨go2, 0, none⟩) L2 co2 := by
          obtain ⟨g, c, e, _⟩ := HR.out.1.1.o.form (by rw [HL2.out]; omega)
          rw [HL2.out] at e
          exact ⟨g, c, e⟩
        subst hvo
        by_cases hkn : k < m2
        · have hk2 : k < 2 * n := by rw [HM.out]; exact hkn
          have hrg := (HI.out.rng a k).resolve_left (HFA.out k hk2)
          rw [HN.out] at hrg
          obtain ⟨tn, htn⟩ : ∃ tn : Nat, ent s.R a k = (tn : Int) := ⟨(ent s.R a k).toNat, by omega⟩
          have htN : tn < N := by omega
          obtain ⟨c9, h9⟩ := HR.out.2.1
          have ek := h9.ent_at (i := a) (x := k) (by rw [HN.out]; exact haN) hk2
          rw [htn] at ek
          have hst := stands_in tn wr h9 (by rw [HN.out]; exact htN)
          have htc := HI.out.cls_lt (i := tn) (by rw [HN.out]; exact htN)
          rw [HN.out] at htc
          obtain ⟨t, ht⟩ : ∃ t, s.cls tn = t := ⟨_, rfl⟩
          have HTT : Hid (s.cls (ent s.R a k).toNat = t) := by show _ = t; rw [htn, Int.toNat_natCast]; exact ht
          have HTR : Hid (s.cls t = t) := by show _ = t; rw [← ht]; exact HI.out.cls.idem tn
          rw [ht] at hst htc
          have HST : Hid (∀ V, (∃ c, OpIn B (fun b => X b ∨ w.heap.size ≤ b) P n V s G cG H cH rb c) → Kp B (fun b => X b ∨ w.heap.size ≤ b) wr V → (ToldAt w.heap.size s.R.length V (.slice (some ⟨go2, 0, none⟩) L2 co2) (.slice au i cu) g4 ord2 ord2 out (fun b => b = g7) ∧ V.rowIs g7 3 m2 (fun x => .int .i64 (rowTo r2 x))) ∧ (∃ c, OpIn B (fun b => X b ∨ w.heap.size ≤ b) P n V s G cG H cH rb c) ∧ Kp B X w V) := fun V hc hk => by
            refine ⟨⟨HR.out.1.1.keep fun b hb h0 _ => hk.block b hb (.inr (.inr h0)), HR.out.1.2.of_block (hk.block g7 HR.out.1.2.lt (.inr (.inr hw7)))⟩, hc, HR.out.2.2.trans (hk.mono fun b hb _ => .inl hb)⟩
          have x0 : (0 : Int) ≤ (k : Int) := by omega
          have x1 : (k : Int) < (m2 : Int) := by omega
          have x2 : (0 : Int) ≤ (t : Int) := by omega
          have x3 : (t : Int) < (N : Int) := by omega
          clear hrg h9 ht htn
          go_upto_region 13 with (go_at_call 52; refine hst.mono ?_; rintro e V ⟨rfl, hc, hkp⟩; have HS := Hid.mk' (HST.out V hc hkp); clear hc hkp hst)
          have n1 := HS.out.1.1.num.cell (i := t) (by rw [HN.out]; exact htc)
          have nf := HS.out.1.1.num.frozen t
          have k1 := HS.out.1.2.cell (i := k) hkn
          have kf := HS.out.1.2.frozen k
          clear ek HST
          by_cases hin : t ∈ ord2
          · rw [numV_in hin] at n1
            have hid : ord2.idxOf t < L2 := by rw [← HL2.out]; exact List.idxOf_lt_length_iff.2 hin
            have HRK : Hid (rowK s a (k + 1) ord = (ord2, r2 ++ [((ord2.idxOf t : Nat) : Int)])) := by
              have := rowK_in (ord := ord) HTT.out (by rw [HOR.out.1]; exact hin)
              rw [HOR.out.1, HOR.out.2] at this
              exact this
            obtain ⟨q, hq⟩ : ∃ q, ord2.idxOf t = q := ⟨_, rfl⟩
            rw [hq] at n1 hid HRK
            obtain ⟨q1, hq1⟩ : ∃ q1, q + 1 = q1 := ⟨_, rfl⟩
            have n1' : V.cell? ⟨g4, t, none⟩ = some (.int .i64 (q1 : Int)) := by rw [n1, ← hq1]; rfl
            have hb0 : ((q1 : Int) == 0) = false := beq_false_of_ne (by omega)
            have hsub : (q1 : Int) - 1 = (q : Int) := by omega
            clear n1 hq hq1 hin
            go_wp2_with fail
            go_roundw
            case rel =>
              refine ⟨_, k + 1, by omega, rfl, by go_num, ?_⟩
              rw [HRK.out]
              obtain ⟨c8, h8⟩ := HS.out.2.1
              have hne : ∀ b, b ≠ g7 → (V.setCell ⟨g7, k, none⟩ (.int .i64 (q : Int))).heap[b]? = V.heap[b]? := fun b hb => Below.heap_setCell V ⟨g7, k, none⟩ _ b hb
              refine ⟨⟨HS.out.1.1.keep fun b _ _ hz => hne b hz, (HS.out.1.2.set k (.int .i64 (q : Int))).congr fun x _ => ?_⟩, ⟨c8, h8.grown (grown_at V ⟨g7, k, none⟩ _) (fun b e => by cases e; exact .inr hw7)⟩, HS.out.2.2.on (grown_at V ⟨g7, k, none⟩ _) (fun b e => by cases e; exact .inl hw7)⟩
              rw [← rowTo_more r2 (q : Int) HRL.out x]
              split <;> rfl
            case measure => simp [intOf]; omega
          · rw [numV_out hin] at n1
            have HIN := Hid.mk' hin
            have HRK : Hid (rowK s a (k + 1) ord = (ord2 ++ [t], r2 ++ [((L2 : Nat) : Int)])) := by
              have := rowK_out (ord := ord) HTT.out (by rw [HOR.out.1]; exact hin)
              rw [HOR.out.1, HOR.out.2, HL2.out] at this
              exact this
            have HOW : Hid (V.ownsRow w.heap.size 3 1 (.slice (some ⟨go2, 0, none⟩) L2 co2) L2 (ord2.map fun (i : Nat) => Value.int .i64 (i : Int))) := by
              have := HS.out.1.1.o
              rw [HL2.out] at this
              exact this
            have hVs : w.heap.size ≤ V.heap.size := HS.out.2.2.size
            have hg7V : g7 < V.heap.size := HS.out.1.2.lt
            obtain ⟨L3, hL3⟩ : ∃ L3, L2 + 1 = L3 := ⟨_, rfl⟩
            have HL3 : Hid (L2 + 1 = L3) := hL3
            have hsub : (L3 : Int) - 1 = (L2 : Int) := by omega
            have hL35 : L3 ≤ 5001 := by omega
            have HAP : Hid (∀ v5 w5, w5.ownsRow w.heap.size 3 1 v5 (L2 + 1) ((ord2.map fun (i : Nat) => Value.int .i64 (i : Int)) ++ [.int .i64 (t : Int)]) → (V.alloc (.cells #[.int .i64 (t : Int)] 3)).grownBy w5 (some go2) → (v5.ownBlock = some go2 ∨ v5.ownBlock = some (V.alloc (.cells #[.int .i64 (t : Int)] 3)).heap.size) →
                (ToldAt w.heap.size s.R.length w5 v5 (.slice au i cu) g4 (ord2 ++ [t]) ord2 out (fun b => b = g7) ∧ w5.rowIs g7 3 m2 (fun x => .int .i64 (rowTo r2 x))) ∧ (∃ c, OpIn B (fun b => X b ∨ w.heap.size ≤ b) P n w5 s G cG H cH rb c) ∧ Kp B X w w5) := fun v5 w5 h1 h2 h3 => by
              have hgo := (HOW.out.lt go2 rfl).1
              obtain ⟨c8, h8⟩ := HS.out.2.1
              refine ⟨⟨HS.out.1.1.order (fun b hb e => by omega) (by rw [HL2.out]; exact h1) h2 h3, HS.out.1.2.of_block ?_⟩, ⟨c8, (h8.below ((Below.refl _ V).alloc (Nat.le_refl _) _)).grown h2 (fun b e => by cases e; exact .inr hgo)⟩, (HS.out.2.2.on (World.grownBy_alloc V _ none) (fun b e => by cases e)).on h2 (fun b e => by cases e; exact .inl hgo)⟩
              exact (h2.block g7 (by rw [World.size_alloc]; omega) fun e => HS.out.1.1.zo go2 rfl (Option.some.inj e).symm).trans (Below.heap_alloc V _ g7 hg7V)
            clear hL3 hin
            go_upto_region 15 with (at_builtin; refine wpList_append_own_at _ rfl (.tmp 57) (.tmp 59) 42 rfl w.heap.size 3 j0 (.int .i64 0) 1 8 Tryd.underlying42 hj0 hy0 hy1 hy2 rfl (by decide) _ L2 _ rfl (HOW.out.alloc _) ⟨_, 0, none⟩ 1 1 [.int .i64 (t : Int)] rfl rfl (cells_new _ _ _) (by simp [Value.oneCell']) (by unfold maxLen; omega) (by omega) (by simp; omega) ?_; intro v5 w5 hown5 hg5 hn5 hl5; have H5 := Hid.mk' (HAP.out v5 w5 hown5 hg5 hl5); obtain ⟨a5, c5, rfl⟩ := own_one hown5; clear hown5 hg5 hn5 hl5)
            rw [HL3.out] at H5 ⊢
            have m1 := H5.out.1.1.num.cell (i := t) (by rw [HN.out]; exact htc)
            have mf := H5.out.1.1.num.frozen t
            have HT6 := Hid.mk' (H5.out.1.1.number (t := t) (nm' := ord2 ++ [t]) (m := (L3 : Int)) (fun u => by have := numV_more HIN.out u; rw [HL2.out, HL3.out] at this; exact this))
            have HR6 : Hid ((w5.setCell ⟨g4, t, none⟩ (.int .i64 (L3 : Int))).rowIs g7 3 m2 (fun x => .int .i64 (rowTo r2 x)) ∧ (∃ c, OpIn B (fun b => X b ∨ w.heap.size ≤ b) P n (w5.setCell ⟨g4, t, none⟩ (.int .i64 (L3 : Int))) s G cG H cH rb c) ∧ Kp B X w (w5.setCell ⟨g4, t, none⟩ (.int .i64 (L3 : Int)))) := by
              obtain ⟨c8, h8⟩ := H5.out.2.1
              have hlo := H5.out.1.1.lo4
              refine ⟨H5.out.1.2.of_block (Below.heap_setCell w5 ⟨g4, t, none⟩ _ g7 fun e => H5.out.1.1.z4 e.symm), ⟨c8, h8.grown (grown_at w5 ⟨g4, t, none⟩ _) (fun b e => by cases e; exact .inr hlo)⟩, H5.out.2.2.on (grown_at w5 ⟨g4, t, none⟩ _) (fun b e => by cases e; exact .inl hlo)⟩
            go_upto_region 16 with fail
            obtain ⟨W6, hW6⟩ : ∃ W6, w5.setCell ⟨g4, t, none⟩ (.int .i64 (L3 : Int)) = W6 := ⟨_, rfl⟩
            rw [hW6] at HT6 HR6 ⊢
            have m2' := HT6.out.num.cell (i := t) (by rw [HN.out]; exact htc)
            rw [numV_in (List.mem_append.2 (.inr (List.mem_singleton.2 rfl))), List.idxOf_append, if_neg HIN.out, HL2.out] at m2'
            have m3 : W6.cell? ⟨g4, t, none⟩ = some (.int .i64 (L3 : Int)) := by
              rw [m2', ← HL3.out]
              simp
            have k6 := HR6.out.1.cell (i := k) hkn
            have kf6 := HR6.out.1.frozen k
            clear hW6 m1 mf n1 nf k1 kf m2'
            go_wp2_with fail
            go_roundw
            case rel =>
              refine ⟨_, k + 1, by omega, rfl, by go_num, ?_⟩
              rw [HRK.out]
              obtain ⟨c8, h8⟩ := HR6.out.2.1
              have hne : ∀ b, b ≠ g7 → (W6.setCell ⟨g7, k, none⟩ (.int .i64 (L2 : Int))).heap[b]? = W6.heap[b]? := fun b hb => Below.heap_setCell W6 ⟨g7, k, none⟩ _ b hb
              refine ⟨⟨HT6.out.keep fun b _ _ hz => hne b hz, (HR6.out.1.set k (.int .i64 (L2 : Int))).congr fun x _ => ?_⟩, ⟨c8, h8.grown (grown_at W6 ⟨g7, k, none⟩ _) (fun b e => by cases e; exact .inr hw7)⟩, HR6.out.2.2.on (grown_at W6 ⟨g7, k, none⟩ _) (fun b e => by cases e; exact .inl hw7)⟩
              rw [← rowTo_more r2 (L2 : Int) HRL.out x]
              split <;> rfl
            case measure => simp [intOf]; omega
        · obtain rfl : k = m2 := by omega
          obtain ⟨vs, hvs⟩ := HR.out.1.1.outs
          have HVS := Hid.mk' hvs
          have HOU : Hid (wr.ownsRow w.heap.size 42 1 (.slice au i cu) i vs) := by
            have := hvs.1
            rw [HK.out.len] at this
            exact this
          have hws : w.heap.size ≤ wr.heap.size := HR.out.2.2.size
          have HFI : Hid (toldF n s m' (i + 1) ord2 (out ++ [r2]) = OUT) := by
            have := HK.out.fin
            rw [toldF_step HA.out, HM.out, HOR.out.1, HOR.out.2] at this
            exact this
          have hi5 : i ≤ 5000 := by omega
          clear hvs
          go_wp2_with (first
            | (at_builtin; refine wpList_append_own_at _ rfl (.tmp 75) (.tmp 77) 22 rfl w.heap.size 42 i0 (.slice none 0 0) 1 24 Tryd.underlying22 hi0 hz0 hz1 hz2 rfl (by decide) _ i _ rfl (HOU.out.alloc _) ⟨_, 0, none⟩ 1 1 [.slice (some ⟨g7, 0, none⟩) k k] rfl rfl (cells_new _ _ _) (by simp [Value.oneCell']) (by unfold maxLen; omega) (by omega) (by simp; omega) ?_; intro v5 w5 hown5 hg5 hn5 hl5; have H5 := Hid.mk' (And.intro hown5 (And.intro hg5 hl5)); clear hown5 hg5 hn5 hl5)
            | fail)
          go_roundw
          case rel =>
            have hT := HR.out.1.1.rowed (ints_row HR.out.1.2 HRL.out ⟨hw7, rfl⟩) vs HVS.out (by rw [HK.out.len]; exact H5.out.1) H5.out.2.1 H5.out.2.2
            obtain ⟨c8, h8⟩ := HR.out.2.1
            have hlo : ∀ b, (Value.slice au i cu).ownBlock = some b → w.heap.size ≤ b := fun b e => (HOU.out.lt b e).1
            refine ⟨_, _, i + 1, m', ord2, out ++ [r2], by omega, by omega, rfl, rfl, by go_num, ⟨hT, HOK.out.1, HFI.out, ⟨_, _, _, _, _, _, (h8.below ((Below.refl _ _).alloc (Nat.le_refl _) _)).grown H5.out.2.1 (fun b e => .inr (hlo b e))⟩, (HR.out.2.2.on (World.grownBy_alloc _ _ none) (fun b e => by cases e)).on H5.out.2.1 (fun b e => .inl (hlo b e)), by rw [List.length_append, HK.out.len]; rfl⟩⟩
          case measure => simp [intOf]; omega
    · have HO : Hid (out = OUT) := by rw [← HK.out.fin]; exact (toldF_end (by rw [HL.out]; omega)).symm
      go_wp2_with fail
      go_ret
      exact ⟨_, rfl, by rw [← HO.out]; exact HK.out.told.rows, HK.out.kp⟩

end Go.Proofs.YtmaopnbnbiediaaDoor
