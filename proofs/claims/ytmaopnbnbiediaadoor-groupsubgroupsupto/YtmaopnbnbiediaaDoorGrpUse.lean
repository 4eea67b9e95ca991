/- What is done with a full table: it is copied behind the others, if the relators hold in it. -/
import Derived.Test.YtmaopnbnbiediaaDoorGrpCopied
namespace Go.Proofs.YtmaopnbnbiediaaDoor
open Go.RowKit Go.Sort

theorem Tryd.infoRows : (Tryd.prog.info? 22).map (fun i => (i.zero, i.size, i.bytes)) = some (some (.slice none 0 0), 1, 24) := by kernel_rfl

/-- The table, and what has been told so far, behind the captured pointers. -/
structure CIn (B n gb O : Nat) (vr : Value) (rels : List (List Int)) (G cG : Nat) (rb : Nat → Nat) (W : World) (R : List (List Int)) (L : List (List (List Int))) (vo : Value) (us : List Value) : Prop where
  tb : TbIn B n W R G cG rb
  g1 : W.cell? ⟨gb, 1, none⟩ = some vr
  rl : RowsIn (fun b => b < B) W vr rels
  oc : W.cell? ⟨O, 0, none⟩ = some vo
  oz : W.frozen? ⟨O, 0, none⟩ = false
  out : W.ownsRow B 22 1 vo L.length us
  each : ∀ (j : Nat) (u : Value) (T : List (List Int)), us[j]? = some u → L[j]? = some T → RowsIn (fun b => B ≤ b ∧ b ≠ G ∧ (∀ k, k < R.length → b ≠ rb k) ∧ b ≠ O ∧ some b ≠ vo.ownBlock) W u T
  ob : B ≤ O
  d1 : G ≠ O ∧ gb ≠ O ∧ vo.ownBlock ≠ some G ∧ vo.ownBlock ≠ some O ∧ vo.ownBlock ≠ some gb
  d2 : ∀ k, k < R.length → rb k ≠ O ∧ rb k ≠ gb ∧ vo.ownBlock ≠ some (rb k)

/-- What a call leaves as it is. -/
structure Fr (N O : Nat) (rb : Nat → Nat) (w : World) (vo : Value) (w' : World) (vo' : Value) : Prop where
  os : w'.os = w.os
  tape : w'.tape = w.tape
  output : w'.output = w.output
  size : w.heap.size ≤ w'.heap.size
  keep : ∀ b, b < w.heap.size → b ≠ O → (∀ k, k < N → b ≠ rb k) → some b ≠ vo.ownBlock → w'.heap[b]? = w.heap[b]?
  nb : vo'.ownBlock = vo.ownBlock ∨ ∃ b, vo'.ownBlock = some b ∧ w.heap.size ≤ b
theorem Fr.refl (N O : Nat) (rb : Nat → Nat) (w : World) (vo : Value) : Fr N O rb w vo w vo := ⟨rfl, rfl, rfl, Nat.le_refl _, fun _ _ _ _ _ => rfl, .inl rfl⟩
theorem Fr.trans {N O : Nat} {rb : Nat → Nat} {w w1 w2 : World} {vo v1 v2 : Value} (h : Fr N O rb w vo w1 v1) (k : Fr N O rb w1 v1 w2 v2) : Fr N O rb w vo w2 v2 := by
  refine ⟨k.os.trans h.os, k.tape.trans h.tape, k.output.trans h.output, Nat.le_trans h.size k.size, fun b hb h1 h2 h3 => ?_, ?_⟩
  · refine (k.keep b (Nat.lt_of_lt_of_le hb h.size) h1 h2 fun e => ?_).trans (h.keep b hb h1 h2 h3)
    rcases h.nb with h4 | ⟨b', h4, h5⟩
    · exact h3 (e.trans h4)
    · rw [h4] at e; have := Option.some.inj e; omega
  · rcases k.nb with h4 | ⟨b, h4, h5⟩
    · rcases h.nb with h6 | ⟨b, h6, h7⟩
      · exact .inl (h4.trans h6)
      · exact .inr ⟨b, h4.trans h6, h7⟩
    · exact .inr ⟨b, h4, Nat.le_trans h.size h5⟩
theorem Fr.of_below {N O : Nat} {rb : Nat → Nat} {w w' : World} (vo : Value) (h : Below w.heap.size w w') : Fr N O rb w vo w' vo := ⟨h.os, h.tape, h.output, h.size, fun b hb _ _ _ => h.block b hb, .inl rfl⟩
theorem Fr.of_kp {N O B : Nat} {rb : Nat → Nat} {w w' : World} (vo : Value) (h : Kp B (fun b => ∀ k, k < N → b ≠ rb k) w w') : Fr N O rb w vo w' vo := ⟨h.os, h.tape, h.output, h.size, fun b hb _ h2 _ => h.block b hb (.inr h2), .inl rfl⟩

section
variable {B n gb O : Nat} {vr : Value} {rels : List (List Int)} {G cG : Nat} {rb : Nat → Nat} {W W' : World} {R : List (List Int)} {L : List (List (List Int))} {vo : Value} {us : List Value}
theorem CIn.below (h : CIn B n gb O vr rels G cG rb W R L vo us) (hB : Below W.heap.size W W') : CIn B n gb O vr rels G cG rb W' R L vo us :=
  ⟨h.tb.below hB, (hB.cell (p := ⟨gb, 1, none⟩) (cell_lt h.g1)).trans h.g1, h.rl.below hB, (hB.cell (p := ⟨O, 0, none⟩) (cell_lt h.oc)).trans h.oc, (World.frozen?_of_block (a := ⟨O, 0, none⟩) (hB.block O (cell_lt h.oc))).trans h.oz, h.out.kept (Below.grownBy hB) (no_row vo), fun j u T hu hT => (h.each j u T hu hT).below hB, h.ob, h.d1, h.d2⟩
theorem Fr.below (h : Fr R.length O rb W vo W' vo) (hC : CIn B n gb O vr rels G cG rb W R L vo us) : Below B W W' := ⟨h.os, h.tape, h.output, h.size, fun b hb => h.keep b (by have := hC.ob; have := cell_lt hC.oc; simp only at *; omega) (by have := hC.ob; omega) (fun k hk => by have := hC.tb.own k hk; omega) fun e => by have := (hC.out.lt b e.symm).1; omega⟩
theorem Fr.below' {vo' : Value} (h : Fr R.length O rb W vo W' vo') (hC : CIn B n gb O vr rels G cG rb W R L vo us) : Below B W W' := ⟨h.os, h.tape, h.output, h.size, fun b hb => h.keep b (by have := hC.ob; have := cell_lt hC.oc; simp only at *; omega) (by have := hC.ob; omega) (fun k hk => by have := hC.tb.own k hk; omega) fun e => by have := (hC.out.lt b e.symm).1; omega⟩
/-- The table is written. -/
theorem CIn.set {R' : List (List Int)} (h : CIn B n gb O vr rels G cG rb W R L vo us) (hl : R'.length = R.length) (hT : TbIn B n W' R' G cG rb) (hK : Kp B (fun b => ∀ k, k < R.length → b ≠ rb k) W W') : CIn B n gb O vr rels G cG rb W' R' L vo us := by
  refine ⟨hT, hK.cell h.g1 (.inr fun k hk => (h.d2 k hk).2.1.symm), h.rl.keep fun b hb hs => hK.block b hb (.inl hs), hK.cell h.oc (.inr fun k hk => (h.d2 k hk).1.symm), (hK.frozen (p := ⟨O, 0, none⟩) (cell_lt h.oc) (.inr fun k hk => (h.d2 k hk).1.symm)).trans h.oz, ?_, fun j u T hu hT => ?_, h.ob, h.d1, by rw [hl]; exact h.d2⟩
  · refine ⟨h.out.1, h.out.2.imp id fun ⟨g, cap, cur, e, h1, h2, h3⟩ => ⟨g, cap, cur, e, h1, ?_, h3⟩⟩
    have hg : vo.ownBlock = some g := by rw [e]; rfl
    exact (hK.block g (h.out.lt g hg).2 (.inr fun k hk e' => (h.d2 k hk).2.2 (by rw [hg, e']))).trans h2
  · have h9 := h.each j u T hu hT
    rw [hl]
    exact h9.keep fun b hb hs => hK.block b hb (.inr hs.2.2.1)
/-- A table more is told. -/
theorem CIn.more {V w6 : World} {u v6 : Value} {o : Obj} (h : CIn B n gb O vr rels G cG rb W R L vo us) (hB : Below W.heap.size W V) (hu : RowsIn (fun b => W.heap.size ≤ b) V u R)
    (hown : w6.ownsRow B 22 1 v6 (L.length + 1) (us ++ [u])) (hg : (V.alloc o).grownBy w6 vo.ownBlock) (hl : v6.ownBlock = vo.ownBlock ∨ v6.ownBlock = some (V.alloc o).heap.size) :
    (w6.cell? ⟨O, 0, none⟩ = some vo ∧ w6.frozen? ⟨O, 0, none⟩ = false) ∧ CIn B n gb O vr rels G cG rb (w6.setCell ⟨O, 0, none⟩ v6) R (L ++ [R]) v6 (us ++ [u]) ∧ Fr R.length O rb W vo (w6.setCell ⟨O, 0, none⟩ v6) v6 := by
  have hs6 := hg.size
  rw [World.size_alloc] at hs6 hl
  have hsV := hB.size
  have hOl : O < W.heap.size := cell_lt h.oc
  have hgl : gb < W.heap.size := cell_lt h.g1
  have hGl := (h.tb.outer.lt G rfl).2
  have key : ∀ b, b < V.heap.size → some b ≠ vo.ownBlock → w6.heap[b]? = V.heap[b]? := fun b h1 h2 => (hg.block b (by rw [World.size_alloc]; omega) h2).trans (Below.heap_alloc V o b h1)
  have keyW : ∀ b, b < W.heap.size → some b ≠ vo.ownBlock → w6.heap[b]? = W.heap[b]? := fun b h1 h2 => (key b (by omega) h2).trans (hB.block b h1)
  have set6 : ∀ b, b ≠ O → (w6.setCell ⟨O, 0, none⟩ v6).heap[b]? = w6.heap[b]? := fun b e => Below.heap_setCell w6 ⟨O, 0, none⟩ v6 b e
  have nO : some O ≠ vo.ownBlock := fun e => h.d1.2.2.2.1 e.symm
  have cO : w6.cell? ⟨O, 0, none⟩ = some vo := (World.cell?_of_block (a := ⟨O, 0, none⟩) (keyW O hOl nO)).trans h.oc
  have fO : w6.frozen? ⟨O, 0, none⟩ = false := (World.frozen?_of_block (a := ⟨O, 0, none⟩) (keyW O hOl nO)).trans h.oz
  have n6 : ∀ b, b < W.heap.size → some b ≠ vo.ownBlock → v6.ownBlock ≠ some b := fun b h1 h2 e => by
    rcases hl with h3 | h3
    · exact h2 (e.symm.trans h3)
    · rw [h3] at e; have := Option.some.inj e; omega
  have nG : some G ≠ vo.ownBlock := fun e => h.d1.2.2.1 e.symm
  have ng : some gb ≠ vo.ownBlock := fun e => h.d1.2.2.2.2 e.symm
  refine ⟨⟨cO, fO⟩, ⟨?_, ?_, ?_, World.cell?_setCell_same' w6 _ v6 (by rw [cO]; rfl), by rw [World.frozen?_setCell]; exact fO, ?_, fun j u' T hu' hT => ?_, h.ob, ⟨h.d1.1, h.d1.2.1, n6 G hGl nG, n6 O hOl nO, n6 gb hgl ng⟩, fun k hk => ⟨(h.d2 k hk).1, (h.d2 k hk).2.1, n6 _ (h.tb.inner k hk).lt fun e => (h.d2 k hk).2.2 e.symm⟩⟩, ⟨?_, ?_, ?_, ?_, ?_, ?_⟩⟩
  · refine h.tb.keep fun b hb hx => ?_
    rcases hx with rfl | ⟨k, hk, rfl⟩
    · rw [set6 b h.d1.1]; exact keyW b hb nG
    · rw [set6 _ (h.d2 k hk).1]; exact keyW _ hb fun e => (h.d2 k hk).2.2 e.symm
  · have e1 : (w6.setCell ⟨O, 0, none⟩ v6).heap[gb]? = W.heap[gb]? := by rw [set6 gb h.d1.2.1]; exact keyW gb hgl ng
    exact (World.cell?_of_block (a := ⟨gb, 1, none⟩) e1).trans h.g1
  · refine h.rl.keep fun b hb hs => ?_
    rw [set6 b (by have := h.ob; omega)]
    exact keyW b hb fun e => by have := (h.out.lt b e.symm).1; omega
  · have h9 := hown.kept (grown_at w6 ⟨O, 0, none⟩ v6) (.inr (n6 O hOl nO))
    rw [List.length_append]
    exact h9
  · have fin : ∀ {S : Nat → Prop} {X : World} {x : Value} {T : List (List Int)}, RowsIn S X x T → (∀ b, b < X.heap.size → S b → (B ≤ b ∧ b ≠ G ∧ (∀ k, k < R.length → b ≠ rb k) ∧ b ≠ O ∧ some b ≠ v6.ownBlock) ∧ (w6.setCell ⟨O, 0, none⟩ v6).heap[b]? = X.heap[b]?) → RowsIn (fun b => B ≤ b ∧ b ≠ G ∧ (∀ k, k < R.length → b ≠ rb k) ∧ b ≠ O ∧ some b ≠ v6.ownBlock) (w6.setCell ⟨O, 0, none⟩ v6) x T := fun {S X x T} hx hS => by
      have h1 : RowsIn (fun b => (B ≤ b ∧ b ≠ G ∧ (∀ k, k < R.length → b ≠ rb k) ∧ b ≠ O ∧ some b ≠ v6.ownBlock) ∧ (w6.setCell ⟨O, 0, none⟩ v6).heap[b]? = X.heap[b]?) X x T := hx.mono fun b hb hs => hS b hb hs
      have h2 := h1.keep (w' := w6.setCell ⟨O, 0, none⟩ v6) fun b _ hs => hs.2
      exact h2.mono fun b _ hs => hs.1
    have hlen : us.length = L.length := by have := h.out.1; omega
    rw [List.getElem?_append] at hu' hT
    rw [hlen] at hu'
    by_cases hj : j < L.length
    · rw [if_pos hj] at hu' hT
      refine fin (h.each j u' T hu' hT) fun b hb hs => ⟨⟨hs.1, hs.2.1, hs.2.2.1, hs.2.2.2.1, fun e => n6 b hb hs.2.2.2.2 e.symm⟩, ?_⟩
      rw [set6 b hs.2.2.2.1]
      exact keyW b hb hs.2.2.2.2
    · rw [if_neg hj] at hu' hT
      have h0 : j - L.length = 0 := by
        rcases Nat.eq_zero_or_pos (j - L.length) with h | h
        · exact h
        · rw [List.getElem?_eq_none (by simp; omega)] at hu'; cases hu'
      rw [h0] at hu' hT
      simp at hu' hT
      subst hu' hT
      refine fin hu fun b hb hs => ?_
      have hbo : some b ≠ vo.ownBlock := fun e => by have := (h.out.lt b e.symm).2; omega
      refine ⟨⟨by have := h.ob; omega, by omega, fun k hk => by have := (h.tb.inner k hk).lt; omega, by omega, fun e => ?_⟩, ?_⟩
      · rcases hl with h3 | h3
        · exact hbo (e.trans h3)
        · rw [h3] at e; have := Option.some.inj e; omega
      · rw [set6 b (by omega)]
        exact key b hb hbo
  · exact hg.os.trans hB.os
  · exact hg.tape.trans hB.tape
  · exact hg.output.trans hB.output
  · simp; omega
  · intro b hb h1 _ h3
    rw [set6 b h1]
    exact keyW b hb h3
  · rcases hl with h3 | h3
    · exact .inl h3
    · exact .inr ⟨_, h3, by omega⟩
end

/-- The copying call, as one step of a region that draws. -/
theorem step_copied {ops : Array Oper} {o : Oper} {a : Act} {w : World} {K : Act → World → Prop} {Q : Exit → Act → World → Prop} {E : Prop} (hgd : o.guard = none) (t : Tmp) (ats : Array TypeId)
    (ho : o.op = .call { callee := .value (.func 24), args := #[.tmp t], argTypes := ats }) (v : Value) (he : a.eval (.tmp t) = v) (S : Value → World → Prop)
    (hc : Calls Tryd.prog 24 #[v] w fun e w' => ∃ u, e = .returned u ∧ S u w') (h : ∀ u w', S u w' → K (a.put o.dst u) w') :
    if Region.wanted o (yielded ops a.tmps) = true then Oper.wp Tryd.prog o a w K Q else E := by
  have hw : Region.wanted o (yielded ops a.tmps) = true := by simp [Region.wanted, hgd]
  rw [if_pos hw]
  have hr : (execOp a.eval o).run Tryd.prog w = .ok (.enter 24 #[v]) w := by
    have he' : a.tmps[t]?.getD undef = v := by simpa [Act.eval] using he
    unfold execOp
    simp [ho, he', go_sem]
  unfold Oper.wp
  rw [hr]
  refine Calls.mono hc fun e w' hw' => ?_
  obtain ⟨u, rfl, h1⟩ := hw'
  exact h u w' h1

set_option maxRecDepth 100000 in
set_option maxHeartbeats 4000000 in
theorem use_ {B n gb O : Nat} {vr : Value} {rels : List (List Int)} {G cG : Nat} {rb : Nat → Nat} {R : List (List Int)} {L : List (List (List Int))} {vo : Value} {us : List Value} (w : World) (h : CIn B n gb O vr rels G cG rb w R L vo us) (hF : FullR n R) (hr1 : rels.length ≤ 400) (hr2 : rels.flatten.length ≤ 400) (hl : ∀ ws ∈ rels, LettersIn n ws) (hL : L.length ≤ 100000) (hn : n ≤ 12) :
    Calls Tryd.prog 22 #[.agg #[.slice (some ⟨G, 0, none⟩) R.length cG], .pointer (some ⟨gb, 0, none⟩), .pointer (some ⟨O, 0, none⟩)] w fun e w' => e = .returned (.tuple #[]) ∧ ∃ vo' us', CIn B n gb O vr rels G cG rb w' R (L ++ [R].filter (keepsB rels)) vo' us' ∧ Fr R.length O rb w vo w' vo' := by
  obtain ⟨i0, hi0, hz0, hz1, hz2⟩ := info_parts Tryd.infoRows
  have hBa : Below w.heap.size w (w.alloc (.cells #[.slice (some ⟨G, 0, none⟩) R.length cG] 49)) := (Below.refl _ w).alloc (Nat.le_refl _) _
  have q0 := cells_new w [.slice (some ⟨G, 0, none⟩) R.length cG] 49 0 _ rfl
  rw [Addr.add_lit, Nat.zero_add] at q0
  obtain ⟨W0, hW0⟩ : ∃ W0, w.alloc (.cells #[.slice (some ⟨G, 0, none⟩) R.length cG] 49) = W0 := ⟨_, rfl⟩
  obtain ⟨bx, hbx⟩ : ∃ bx, w.heap.size = bx := ⟨_, rfl⟩
  rw [show (List.toArray [Value.slice (some ⟨G, 0, none⟩) R.length cG]) = #[.slice (some ⟨G, 0, none⟩) R.length cG] from rfl, hW0, hbx] at q0
  have hC0 := h.below hBa
  rw [hW0] at hC0
  have HB0 : Hid (Below w.heap.size w W0) := by rw [← hW0]; exact hBa
  have HG : Hid (w.alloc (.cells #[.slice (some ⟨G, 0, none⟩) R.length cG] 49) = W0 ∧ w.heap.size = bx) := ⟨hW0, hbx⟩
  have hke := keeps_ vr rels W0 hC0.tb hF ⟨hC0.rl.any, hr1, hr2⟩ hl hn
  have HC := Hid.mk' hC0
  have HCO : Hid (∀ V, Below W0.heap.size W0 V → Calls Tryd.prog 24 #[.agg #[.slice (some ⟨G, 0, none⟩) R.length cG]] V fun e w' => ∃ u, e = .returned u ∧ (RowsIn (fun b => V.heap.size ≤ b) w' u R ∧ Below V.heap.size V w')) := fun V hV => copied_ V (HC.out.tb.below hV) hn
  have g1 := hC0.g1
  obtain ⟨ar, cr, hvr, -, -⟩ := hC0.rl.open_
  subst hvr
  obtain ⟨ao, co, hvo⟩ := own_one hC0.out
  have hN := hC0.tb.few
  obtain ⟨K, hK⟩ : ∃ K, keepsB rels R = K := ⟨_, rfl⟩
  have HK := Hid.mk' hK
  rw [hK] at hke
  obtain ⟨N, hNe⟩ : ∃ N, R.length = N := ⟨_, rfl⟩
  have HN : Hid (R.length = N) := hNe
  obtain ⟨M, hMe⟩ : ∃ M, L.length = M := ⟨_, rfl⟩
  have HM : Hid (L.length = M) := hMe
  subst hvo
  rw [hMe] at hL HC ⊢
  rw [hNe] at hke q0 HG HCO hN ⊢
  clear h hBa hC0 hF hr1 hr2 hl hW0 hbx hK hNe hMe
  cases K with
  | false =>
    have HE : Hid ([R].filter (keepsB rels) = []) := by show _ = _; simp [List.filter, HK.out]
    go_enter Tryd.func22, Tryd.ntmps22
    go_upto_region 1 with fail
    rw [HG.out.1, HG.out.2]
    go_wp2_with (first
      | (go_at_call 23; refine hke.mono ?_; rintro e V ⟨rfl, hV⟩; have HV := Hid.mk' hV; clear hke hV)
      | fail)
    refine bodyPost_end (v := .tuple #[]) ?_ rfl ⟨rfl, _, us, by rw [HE.out, List.append_nil]; exact HC.out.below HV.out, Fr.of_below _ (HB0.out.trans (HV.out.mono HB0.out.size))⟩
    simp [results, Tryd.f22, go_sem]
  | true =>
    have HE : Hid ([R].filter (keepsB rels) = [R]) := by show _ = _; simp [List.filter, HK.out]
    go_enter Tryd.func22, Tryd.ntmps22
    go_upto_region 1 with fail
    rw [HG.out.1, HG.out.2]
    go_wp2_with (first
      | (go_at_call 23; refine hke.mono ?_; rintro e V ⟨rfl, hV⟩; have HV := Hid.mk' hV; have HC1 := Hid.mk' (HC.out.below hV); have p0 := (hV.cell (p := ⟨bx, 0, none⟩) (cell_lt q0)).trans q0; have oc := HC1.out.oc; have hco := HCO.out V.drew hV.drew; clear hke hV)
      | fail)
    have HMO : Hid (∀ (u : Value) (V2 : World), RowsIn (fun b => V.drew.heap.size ≤ b) V2 u R ∧ Below V.drew.heap.size V.drew V2 → (V2.cell? ⟨O, 0, none⟩ = some (.slice ao M co) ∧ V2.cell? ⟨bx, 0, none⟩ = some (.slice (some ⟨G, 0, none⟩) N cG)) ∧ V2.ownsRow B 22 1 (.slice ao M co) M us ∧ B ≤ V2.heap.size ∧ ∀ (v6 : Value) (w6 : World) (o : Obj), w6.ownsRow B 22 1 v6 (M + 1) (us ++ [u]) → (V2.alloc o).grownBy w6 (Value.slice ao M co).ownBlock → (v6.ownBlock = (Value.slice ao M co).ownBlock ∨ v6.ownBlock = some (V2.alloc o).heap.size) → (w6.cell? ⟨O, 0, none⟩ = some (.slice ao M co) ∧ w6.frozen? ⟨O, 0, none⟩ = false) ∧ CIn B n gb O (.slice ar rels.length cr) rels G cG rb (w6.setCell ⟨O, 0, none⟩ v6) R (L ++ [R]) v6 (us ++ [u]) ∧ Fr N O rb w (.slice ao M co) (w6.setCell ⟨O, 0, none⟩ v6) v6) := fun u V2 hu => by
      have hB2 : Below V.heap.size V V2 := ((Below.refl _ V).drew).trans hu.2
      have hC2 := HC1.out.below hB2
      refine ⟨⟨hC2.oc, (hB2.cell (p := ⟨bx, 0, none⟩) (cell_lt p0)).trans p0⟩, by have h9 := hC2.out; rw [HM.out] at h9; exact h9, ?_, fun v6 w6 o k1 k2 k3 => ?_⟩
      · have h1 := hC2.ob
        have h2 := cell_lt hC2.oc
        simp only at h2
        omega
      · have h9 := HC1.out.more hB2 hu.1 (by rw [HM.out]; exact k1) k2 k3
        refine ⟨h9.1, h9.2.1, ?_⟩
        have h8 := (Fr.of_below (N := N) (O := O) (rb := rb) (Value.slice ao M co) (HB0.out.trans (HV.out.mono HB0.out.size)))
        have h7 := h9.2.2
        rw [HN.out] at h7
        exact h8.trans h7
    have z0 := p0
    go_region_law (first
      | (refine step_copied rfl _ _ rfl (.agg #[.slice (some ⟨G, 0, none⟩) N cG]) (by simp [Act.eval]) _ hco ?_; intro u V2 hu; have HU := Hid.mk' (HMO.out u V2 hu); have oc2 := HU.out.1.1; have bx2 := HU.out.1.2; have kV : ∀ o, (V2.alloc o).cell? ⟨O, 0, none⟩ = some (.slice ao M co) := fun o => (World.cell?_alloc_lt V2 o ⟨O, 0, none⟩ (cell_lt oc2)).trans oc2; obtain ⟨au, cu, rfl, -, -⟩ := hu.1.open_; clear hu)
      | (refine step_append_wide (by rfl) (.tmp 8) (.tmp 11) 29 (by rfl) B 22 i0 (.slice none 0 0) 1 24 Tryd.underlying29 hi0 hz0 hz1 hz2 (by rfl) (by decide) (.slice ao M co) M us (by simp [Act.eval]) (HU.out.2.1.alloc _) ⟨V2.heap.size, 0, none⟩ 1 1 [_] (by simp [Act.eval]) rfl (cells_new _ _ _) (by simp [Value.oneCell']) (by unfold maxLen; omega) (by omega) (Nat.le_trans HU.out.2.2.1 (by simp)) ?_; intro v6 w6 hown6 hg6 hl6; have H6 := Hid.mk' (HU.out.2.2.2 v6 w6 _ (by first | exact hown6 | (rw [HN.out]; exact hown6)) hg6 hl6); have q6 := H6.out.1.1; have f6 := H6.out.1.2; obtain ⟨a6, c6, rfl⟩ := own_one hown6; clear hown6 hg6 hl6)
      | fail)
    all_goals go_wp2_with fail
    all_goals (refine bodyPost_end (v := .tuple #[]) ?_ rfl ⟨rfl, _, _, by rw [HE.out]; exact H6.out.2.1, H6.out.2.2⟩)
    all_goals simp [results, Tryd.f22, go_sem]

end Go.Proofs.YtmaopnbnbiediaaDoor
