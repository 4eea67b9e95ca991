/- What Free answers. -/
import Derived.Test.YthdmfeidcldafaaGreatDoorMorseSeq
import Derived.Test.YthdmfeidcldafaaGreatDoorFault0
import Derived.Test.YthdmfeidcldafaaGreatDoorMorseNumber2
import Derived.Test.YthdmfeidcldafaaGreatDoorMorseCollapse
import Derived.Maps.OwnIn
namespace Go.Proofs.YthdmfeidcldafaaGreatDoor
open Go.RowKit Go.Shelf Go.Sort Go.Maps

attribute [local go_sem] Oper.semAt_some

/-- What Free answers. -/
def FreeSays (a : Nat → Addr) (l : List (List Int)) (w : World) (e : Ending) (w' : World) : Prop :=
  Below w.heap.size w w' ∧ ((∃ i, BadAt l i ∧ e = .returned (.tuple #[.slice none 0 0, .iface 176 (.pointer (some (a i)))])) ∨
    ∃ all v, Good l all ∧ e = .returned (.tuple #[v, .nilIface]) ∧ DuoRow w.heap.size 52 w' v (freeTo (numL all) allL (numL all).length))

theorem below_put1 {B r : Nat} {W : World} {o o' : Obj} (h : W.heap[r]? = some o) (hr : B ≤ r) : Below B W (W.putObj r o') :=
  (Below.refl B W).grown (grownBy_putObj' W r o') (by have := (Array.getElem?_eq_some_iff.1 h).1; omega) (fun k e => by cases e; exact hr)
theorem owns_down {w : World} {base base' n sz : Nat} {e : TypeId} {v : Value} {xs : List Value} (h : w.ownsRow base e sz v n xs) (hb : base' ≤ base) : w.ownsRow base' e sz v n xs :=
  ⟨h.1, h.2.imp id (fun ⟨g, cap, cur, h1, h2, h3⟩ => ⟨g, cap, cur, h1, Nat.le_trans hb h2, h3⟩)⟩

/-- The variable out, and the row that it holds. -/
def OutI (w : World) (xb ob base : Nat) (pre : List Duo) (W : World) : Prop := ∃ v, (W.cell? ⟨ob, 0, none⟩ = some v ∧ W.frozen? ⟨ob, 0, none⟩ = false) ∧ DuoRow base 52 W v pre ∧ Below xb w W
def OutM (ob : Nat) (_pre : List Duo) (W : World) (b : Nat) : Prop := b = ob ∨ ∃ v, W.cell? ⟨ob, 0, none⟩ = some v ∧ v.ownBlock = some b

theorem outI_keep {w : World} {xb ob D : Nat} (h1 : xb ≤ ob) (h2 : ob < D) : ∀ s A C, OutI w xb ob (D + 2) s A → KeepBut A C D (D + 1) → OutI w xb ob (D + 2) s C ∧ ∀ b, OutM ob s C b → OutM ob s A b := fun s A C h hk => by
  obtain ⟨v, ⟨c, f⟩, hd, hB⟩ := h
  have hob : ob < A.heap.size := cell_lt c
  have eb := hk.block ob hob (by omega) (by omega)
  have ec : C.cell? ⟨ob, 0, none⟩ = A.cell? ⟨ob, 0, none⟩ := World.cell?_of_block eb
  refine ⟨⟨v, ⟨ec.trans c, (World.frozen?_of_block eb).trans f⟩, ownsRow_of_block hd (fun b hb => ?_), ?_⟩, fun b hb => ?_⟩
  · have := hd.lt b hb
    exact hk.block b this.2 (by omega) (by omega)
  · exact ⟨hk.os.trans hB.os, hk.tape.trans hB.tape, hk.output.trans hB.output, Nat.le_trans hB.size hk.size, fun b hb => (hk.block b (by omega) (by omega) (by omega)).trans (hB.block b hb)⟩
  · rcases hb with hb | ⟨u, hu, hb⟩
    · exact .inl hb
    · exact .inr ⟨u, by rw [← ec]; exact hu, hb⟩
theorem outM_lt {w : World} {xb ob D : Nat} {S : Nat → Prop} (h2 : ob < D) (hS : ¬ S ob) (hS2 : ∀ b, S b → b < D) : ∀ s A b, OutI w xb ob (D + 2) s A → OutM ob s A b → (¬ S b ∧ b < A.heap.size) ∧ b ≠ D ∧ b ≠ D + 1 := fun s A b h hb => by
  obtain ⟨v, ⟨c, f⟩, hd, hB⟩ := h
  rcases hb with rfl | ⟨u, hu, hb⟩
  · exact ⟨⟨hS, cell_lt c⟩, by omega, by omega⟩
  · rw [c] at hu
    cases hu
    have := hd.lt b hb
    exact ⟨⟨fun h => by have := hS2 b h; omega, this.2⟩, by omega, by omega⟩

set_option maxRecDepth 100000 in
set_option maxHeartbeats 8000000 in
theorem free_ {a : Nat → Addr} {s : Nat → ByteArray} (vl : Value) (l : List (List Int)) (w : World) (hE : Errs a s w) (hl : Rows w vl l) (hll : l.length ≤ 100000) (hle : ∀ x ∈ l, x.length ≤ 1000) :
    Calls Tryz.prog 7 #[.agg #[vl]] w fun e w' => FreeSays a l w e w' := by
  obtain ⟨i0, hi0, hz0, hz1, hz2⟩ := info_parts Tryz.infop
  obtain ⟨al, cl, rfl, -, -⟩ := hl.open_
  have hBa : Below w.heap.size w (w.alloc (.cells #[.slice al l.length cl] 32)) := (Below.refl _ w).alloc (Nat.le_refl _) _
  have hnu := number_ (.slice al l.length cl) l _ (hE.below hBa) (hl.below hBa) hll hle
  have hcb := (box_new w (.slice al l.length cl) 32).1
  unfold NumSays noShape shapeV at hnu
  clear hE hl hll hle
  refine (callsIn_wide (n := 10)).1 ?_
  refine callsIn_of_wp_marks Tryz.func7 rfl trivial ?_ rfl
  simp only [Tryz.ntmps7, List.size_toArray, List.length_cons, List.length_nil, Nat.reduceAdd, Nat.reduceSub, Array.replicate_succ, Array.replicate_zero, List.push_toArray, List.append_toArray, List.nil_append, List.cons_append]
  gi_wp2
  refine ⟨trivial, ?_⟩
  refine (callsIn_wide.2 hnu).mono ?_
  clear hnu
  rintro e w2 ⟨hB2, ⟨i, hbad, rfl⟩ | ⟨all, ad, aS, ao, cd, cs, co, hg, rfl, hsh⟩⟩
  · have hs3 := three_at w2 (.slice none 0 0) (.slice none 0 0) (.slice none 0 0) 56
    have s0 := hs3 0 _ rfl
    have s1 := hs3 1 _ rfl
    have s2 := hs3 2 _ rfl
    have HBD : Hid (BadAt l i ∧ Below w.heap.size w w2) := ⟨hbad, hBa.trans (hB2.mono (by simp))⟩
    clear hbad hB2 hs3
    gi_wp2
    refine ⟨.tuple #[.slice none 0 0, .iface 176 (.pointer (some (a i)))], ?_, HBD.out.2.alloc HBD.out.2.size _, .inl ⟨i, HBD.out.1, rfl⟩⟩
    simp [results, Tryz.f7, go_sem]
  · obtain ⟨L, hL⟩ : ∃ L, numL all = L := ⟨_, rfl⟩
    obtain ⟨n, hn⟩ : ∃ n, L.length = n := ⟨_, rfl⟩
    have HG : Hid (Good l all ∧ numL all = L ∧ L.length = n) := ⟨hg, hL, hn⟩
    have hL6 : n ≤ 600 := by rw [← hn, ← hL]; exact Nat.le_trans (num_len (order_nodup hg.isAll.order) _) hg.length
    have HFL : Hid (FaceList L) := by rw [← hL]; exact good_faces hg
    rw [hL] at hsh ⊢
    rw [hn]
    have HBW : Hid (Below w.heap.size w w2) := hBa.trans (hB2.mono (by simp))
    have HSH : Hid (ShapeIn (fun b => b < w2.heap.size) w2 L ad aS ao cd cs co) := hsh.mono (fun b hb _ => hb)
    have hs3 := three_at w2 (.slice none 0 0) (.slice none 0 0) (.slice none 0 0) 56
    have s0 := hs3 0 _ rfl
    have s1 := hs3 1 _ rfl
    have s2 := hs3 2 _ rfl
    have hs4 := three_at w2 (.slice ad n cd) (.slice aS n cs) (.slice ao n co) 56
    have t0 := (World.cell?_alloc_lt _ (.cells #[.slice none 0 0] 23) ⟨w2.heap.size, 0, none⟩ (by simp)).trans (hs4 0 _ rfl).1
    have t1 := (World.cell?_alloc_lt _ (.cells #[.slice none 0 0] 23) ⟨w2.heap.size, 1, none⟩ (by simp)).trans (hs4 1 _ rfl).1
    have t2 := (World.cell?_alloc_lt _ (.cells #[.slice none 0 0] 23) ⟨w2.heap.size, 2, none⟩ (by simp)).trans (hs4 2 _ rfl).1
    have hob := box_new (w2.alloc (.cells #[.slice ad n cd, .slice aS n cs, .slice ao n co] 56)) (.slice none 0 0) 23
    rw [World.size_alloc] at hob
    have hBV : Below w2.heap.size w2 ((w2.alloc (.cells #[.slice ad n cd, .slice aS n cs, .slice ao n co] 56)).alloc (.cells #[.slice none 0 0] 23)) := ((Below.refl _ w2).alloc (Nat.le_refl _) _).alloc (by simp) _
    have hun := uncut_ _ ((HSH.out.below hBV).mono (fun b hb _ => hb)) (by rw [hn]; exact hL6)
    rw [hn] at hun
    unfold shapeV restV at hun
    clear hg hsh hL hn hB2 hs3 hs4 hBa
    gi_wp2
    refine ⟨trivial, ?_⟩
    refine (callsIn_wide.2 hun).mono ?_
    clear hun
    rintro e w4 ⟨gl, gc, rfl, hra, hB4⟩
    gi_wp2
    obtain ⟨V, hV⟩ : ∃ V, (w2.alloc (.cells #[.slice ad n cd, .slice aS n cs, .slice ao n co] 56)).alloc (.cells #[.slice none 0 0] 23) = V := ⟨_, rfl⟩
    rw [hV] at hra hB4 hBV hob
    obtain ⟨sb, hsb⟩ : ∃ sb, w2.heap.size = sb := ⟨_, rfl⟩
    have hVs : V.heap.size = sb + 1 + 1 := by rw [← hV, ← hsb]; simp
    rw [hsb] at hob hBV HSH
    try rw [hsb]
    obtain ⟨xb, hxb⟩ : ∃ xb, w.heap.size = xb := ⟨_, rfl⟩
    rw [hxb] at HBW
    try rw [hxb]
    obtain ⟨D, hD⟩ : ∃ D, w4.heap.size = D := ⟨_, rfl⟩
    have hs4 := hB4.size
    have hx2 : xb ≤ sb := by have := HBW.out.size; omega
    have HRE : Hid (RestAt sb w4 L ad aS ao cd cs co gl gc allL) := ⟨by
      have h1 := HSH.out.below (by rw [hsb]; exact hBV)
      exact h1.below hB4, hra.lefts, hra.counts, by have := hra.bl; omega, by have := hra.bc; omega, hra.ne⟩
    have HB4w : Hid (Below xb w w4) := HBW.out.trans ((hBV.mono (by omega)).trans (hB4.mono (by omega)))
    have hseq := free_seq w4 HRE.out (by rw [HG.out.2.2]; exact hL6) HFL.out (cplx_all L)
    rw [HG.out.2.2] at hseq
    unfold restV at hseq
    have hXS : (freeTo L allL n).length ≤ 600 := Nat.le_trans (freeTo_len _ _ _) hL6
    obtain ⟨XS, hXe⟩ : ∃ XS, freeTo L allL n = XS := ⟨_, rfl⟩
    have HXE : Hid (freeTo L allL n = XS) := hXe
    rw [hXe] at hXS hseq
    have HI0 : Hid (OutI w xb (sb + 1) (D + 2) [] w4) := ⟨.slice none 0 0, ⟨(hB4.cell (p := ⟨sb + 1, 0, none⟩) (by simp only; omega)).trans hob.1, (hB4.frozen (p := ⟨sb + 1, 0, none⟩) (by simp only; omega)).trans hob.2⟩, World.ownsRow_nil _ _ _ _, HB4w.out⟩
    have hgg := hra.bl
    have hgh := hra.bc
    have hSlt := HRE.out.lt
    have hkI := outI_keep (w := w) (xb := xb) (ob := sb + 1) (D := D) (by omega) (by omega)
    have hkM := outM_lt (w := w) (xb := xb) (ob := sb + 1) (D := D) (S := restS sb gl gc) (by omega) (fun h => by rcases h with h | h | h <;> omega) (fun b hb => by have := hSlt b hb; omega)
    have HXB : Hid (w.heap.size = xb ∧ w4.heap.size = D) := ⟨hxb, hD⟩
    have hDs : sb + 1 < D := by omega
    clear hV hsb hob hBV hra hB4 s0 s1 s2 t0 t1 t2 hXe hgg hgh
    refine range_a (w0 := w4) (xs := XS) (enc := duoV) rfl (enters_of Tryz.func24 (by kernel_rfl) rfl) hseq hSlt (Below.refl _ _) rfl
      (OutI w xb (sb + 1) (D + 2)) (OutM (sb + 1)) (by rw [hD]; exact hkI) (by rw [hD]; exact hkM) HI0.out
      (fun x W => { tmps := #[.agg #[.slice al l.length cl], .pointer (some ⟨xb, 0, none⟩), .slice none 0 0, .nilIface, .pointer (some ⟨sb, 0, none⟩), .nilIface, .pointer (some ⟨sb + 1, 0, none⟩), .pointer (some ⟨W.heap.size, 0, none⟩), .tuple #[.agg #[.slice ad n cd, .slice aS n cs, .slice ao n co], .nilIface], .agg #[.slice al l.length cl], .tuple #[.agg #[.slice ad n cd, .slice aS n cs, .slice ao n co], .nilIface], .agg #[.slice ad n cd, .slice aS n cs, .slice ao n co], .nilIface, .nilIface, .bool false, undef, .agg #[.slice ad n cd, .slice aS n cs, .slice ao n co], .agg #[.slice ad n cd, .slice aS n cs, .slice ao n co, .slice (some ⟨gl, 0, none⟩) n n, .slice (some ⟨gc, 0, none⟩) n n], .func (.func 24) #[.agg #[.slice ad n cd, .slice aS n cs, .slice ao n co, .slice (some ⟨gl, 0, none⟩) n n, .slice (some ⟨gc, 0, none⟩) n n]] #[], duoV x, undef, undef, undef, undef, undef], defers := [] })
      (fun x W => W.alloc (.cells #[.int .i64 x.1, .int .i64 x.2] 52)) (fun x W => (Below.refl _ W).alloc (Nat.le_refl _) _) ?assign ?body ?done
    case assign =>
      intro lp x W K hK
      have hp2 := two_box W (.int .i64 0) (.int .i64 0) 52
      unfold duoV at hK ⊢
      gi_wp2
      exact hK
    case body =>
      rintro lp pre x W Wb hIb hKb hWs hpl
      obtain ⟨v, hc, hd, hB⟩ := hIb
      obtain ⟨av, cv, rfl⟩ := own_slice hd
      have hpx := two_box W (.int .i64 x.1) (.int .i64 x.2) 52
      rw [hD] at hWs hKb
      have eb := hKb.block W.heap.size (by simp) (by omega) (by omega)
      have p0 := (World.cell?_of_block (a := ⟨W.heap.size, 0, none⟩) eb).trans hpx.1
      have p1 := (World.cell?_of_block (a := ⟨W.heap.size, 1, none⟩) eb).trans hpx.2
      have hWb := hKb.size
      rw [World.size_alloc] at hWb
      have hdd : Wb.ownsRow (D + 2) 52 2 (.slice av pre.length cv) pre.length (duoCells pre) := hd
      obtain ⟨pl, hple⟩ : ∃ pl, pre.length = pl := ⟨_, rfl⟩
      rw [hple] at hdd hc hpl
      have hplb : pl ≤ 600 := by omega
      have HPL : Hid (pre.length = pl) := hple
      have hne : some (sb + 1) ≠ (Value.slice av pl cv).ownBlock := fun e => by have := (hdd.lt (sb + 1) e.symm).1; omega
      have HC := Hid.mk' hc
      obtain ⟨c0, f0⟩ := hc
      have HBW2 : Hid (Below xb w Wb) := hB
      have hob : sb + 1 < Wb.heap.size := cell_lt c0
      clear hd hB hple hpx eb hKb HI0 HRE hkI hkM hseq
      gi_wp2_with (first
        | (gi_at_builtin; refine wpListIn_append_own_at _ rfl (.tmp 20) (.tmp 22) 23 rfl (D + 2) 52 i0 (.agg #[.int .i64 0, .int .i64 0]) 2 16 Tryz.underlying23 hi0 hz0 hz1 hz2 rfl (by decide) _ pl _ rfl (hdd.alloc _) ⟨_, 0, none⟩ 1 1 [.int .i64 x.1, .int .i64 x.2] rfl rfl (cells_new _ _ _) (by simp [Value.oneCell']) (by unfold maxLen; omega) (by omega) (by simp; omega) ?_; intro v5 w5 hown5 hg5 hn5 hl5; have hf := far_kept hg5 (p := ⟨sb + 1, 0, none⟩) HC.out hne; obtain ⟨a5, c5, rfl⟩ := own_slice hown5; have f1 := hf.1; have f2 := hf.2)
        | fail)
      show OutI w xb (sb + 1) (D + 2) (pre ++ [x]) _ ∧ RoundKept (OutM (sb + 1)) pre x Wb _
      have hg6 : (Wb.alloc (.cells #[.int .i64 x.1, .int .i64 x.2] 52)).grownBy w5 (Value.slice av pl cv).ownBlock := hg5
      have hl6 : (Value.slice a5 (pl + 1) c5).ownBlock = (Value.slice av pl cv).ownBlock ∨ (Value.slice a5 (pl + 1) c5).ownBlock = some (Wb.alloc (.cells #[.int .i64 x.1, .int .i64 x.2] 52)).heap.size := hl5
      have hs5 := hg6.size
      rw [World.size_alloc] at hs5 hl6
      have hB5 := (((HBW2.out.alloc (by omega) (.cells #[.int .i64 x.1, .int .i64 x.2] 52)).grown hg6 (by simp; omega) (fun b hb => by have := (hdd.lt b hb).1; omega)).setCell (p := ⟨sb + 1, 0, none⟩) (by simp only; omega) (.slice a5 (pl + 1) c5))
      have hc5 := World.cell?_setCell_same' w5 ⟨sb + 1, 0, none⟩ (.slice a5 (pl + 1) c5) (by rw [f1]; rfl)
      refine ⟨⟨_, ⟨hc5, by rw [World.frozen?_setCell]; exact f2⟩, ?_, hB5⟩, ?_, fun b hb hnm => ?_, ?_⟩
      · unfold DuoRow
        rw [duoCells_snoc, List.length_append, HPL.out]
        exact ownsRow_of_block hown5 (fun b hb => Below.heap_setCell w5 _ _ b (fun e => by have := (hown5.lt b hb).1; simp only at e; omega))
      · simp; omega
      · have h1 : b ≠ sb + 1 := fun e => hnm (.inl e)
        have h2 : some b ≠ (Value.slice av pl cv).ownBlock := fun e => hnm (.inr ⟨_, c0, e.symm⟩)
        exact (Below.heap_setCell w5 _ _ b (fun e => by simp only at e; omega)).trans ((hg6.block b (by simp; omega) h2).trans (Below.heap_alloc Wb _ b hb))
      · rintro b (rfl | ⟨u, hu, hb⟩)
        · exact .inl (.inl rfl)
        · rw [hc5] at hu
          cases hu
          rcases hl6 with e | e
          · exact .inl (.inr ⟨_, c0, e.symm.trans hb⟩)
          · rw [e] at hb
            cases hb
            exact .inr (by omega)
    case done =>
      rintro W hIx hK
      obtain ⟨v, ⟨c0, f0⟩, hd, hB⟩ := hIx
      obtain ⟨av, cv, rfl⟩ := own_slice hd
      have HD1 : Hid (DuoRow (D + 2) 52 W (.slice av XS.length cv) XS ∧ Below xb w W) := ⟨hd, hB⟩
      have hW : D < W.heap.size := by have := (Array.getElem?_eq_some_iff.1 hK).1; omega
      clear hd hB hkI hkM hseq
      gi_wp2
      refine ⟨by simp, .inl ⟨_, _, rfl, run_takeDeferred hK, ?_⟩⟩
      refine ⟨.tuple #[.slice av XS.length cv, .nilIface], ?_, ?_⟩
      · simp [results, Tryz.f7, go_sem]
      · unfold FreeSays
        rw [HXB.out.1]
        refine ⟨HD1.out.2.trans (below_put1 hK (by omega)), .inr ⟨all, _, HG.out.1, rfl, ?_⟩⟩
        rw [HG.out.2.1, HG.out.2.2, HXE.out]
        have h1 : DuoRow (D + 2) 52 (W.putObj w4.heap.size (.deferred none)) (.slice av XS.length cv) XS := ownsRow_of_block HD1.out.1 (fun b hb => World.putObj_heap_other (by have := (HD1.out.1.lt b hb).1; omega))
        exact owns_down h1 (by omega)

end Go.Proofs.YthdmfeidcldafaaGreatDoor
