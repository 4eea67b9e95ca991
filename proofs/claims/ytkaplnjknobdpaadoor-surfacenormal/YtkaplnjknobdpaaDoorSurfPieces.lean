/- What pieces answers, of one good word: one piece. -/
import Derived.Test.YtkaplnjknobdpaaDoorSurfSort
namespace Go.Proofs.YtkaplnjknobdpaaDoor
open Go.RowKit Go.Sort

/-- The classes of one word, glued. -/
def cornI (ws : List Int) : Nat → Nat := joinAll (upJ (cornJ ws) (namesI ws).length)
def rimI (ws : List Int) : Nat → Nat := joinAll (upJ (rimJ ws) (namesI ws).length)
def faceI (ws : List Int) : Nat → Nat := joinAll (upJ (faceJ ws) (namesI ws).length)
/-- The piece that it is. -/
def turnI (ws : List Int) : Bool := decide (faceI ws 0 ≠ faceI ws 1)
def eulI (ws : List Int) : Int := 1 + (leastN (cornI ws) ws.length : Int) - ((namesI ws).length : Int)
def rimsI (ws : List Int) : Int := (rimsN (rimI ws) ws (namesI ws).length : Int)

theorem names_le (ws : List Int) : (namesI ws).length ≤ 61 := by
  unfold namesI kpS
  refine Nat.le_trans (List.length_filter_le _ _) ?_
  rw [List.length_range]; exact Nat.le_refl _

/-- ByEuler, as one step of a region that draws. -/
theorem step_euler {ops : Array Oper} {o : Oper} {a : Act} {w : World} {K : Act → World → Prop} {Q : Exit → Act → World → Prop} {E : Prop} (hgd : o.guard = none) (t0 t1 t2 : Tmp) (ats : Array TypeId)
    (ho : o.op = .call { callee := .value (.func 25), args := #[.tmp t0, .tmp t1, .tmp t2], argTypes := ats }) (t : Bool) (e r : Int) (he0 : a.eval (.tmp t0) = .bool t) (he1 : a.eval (.tmp t1) = .int .i64 e) (he2 : a.eval (.tmp t2) = .int .i64 r) (he : -1000 ≤ e ∧ e ≤ 1000) (hr : -1000 ≤ r ∧ r ≤ 1000)
    (h : ∀ w', Below w.heap.size w w' → K (a.put o.dst (.agg #[.bool t, .int .i64 (genusI t e r), .int .i64 r])) w') :
    if Region.wanted o (yielded ops a.tmps) = true then Oper.wp Tryd.prog o a w K Q else E := by
  have hw : Region.wanted o (yielded ops a.tmps) = true := by simp [Region.wanted, hgd]
  rw [if_pos hw]
  have hrun : (execOp a.eval o).run Tryd.prog w = .ok (.enter 25 #[.bool t, .int .i64 e, .int .i64 r]) w := by
    have e0 : a.tmps[t0]?.getD undef = .bool t := by simpa [Act.eval] using he0
    have e1 : a.tmps[t1]?.getD undef = .int .i64 e := by simpa [Act.eval] using he1
    have e2 : a.tmps[t2]?.getD undef = .int .i64 r := by simpa [Act.eval] using he2
    unfold execOp
    simp [ho, e0, e1, e2, go_sem]
  unfold Oper.wp
  rw [hrun]
  refine Calls.mono (by_euler t e r he hr w) fun x w' hw' => ?_
  obtain ⟨rfl, hB⟩ := hw'
  exact h w' hB

theorem piece_made {w V wE w6 : World} {o : Obj} {x0 x1 x2 v6 : Value} {t : TypeId} (hB : Below w.heap.size w V) (hBE : Below V.heap.size V wE) (hown : w6.ownsRow wE.heap.size t 3 v6 (0 + 1) ([] ++ [x0, x1, x2])) (hg : (wE.alloc o).grownBy w6 (Value.slice none 0 0).ownBlock) :
    ∃ gg cc, v6 = .slice (some ⟨gg, 0, none⟩) 1 cc ∧ (w6.cell? ⟨gg, 0, none⟩ = some x0 ∧ w6.cell? ⟨gg, 1, none⟩ = some x1 ∧ w6.cell? ⟨gg, 2, none⟩ = some x2) ∧ Below w.heap.size w w6 := by
  have h0 := hown
  rcases hown.2 with ⟨_, h⟩ | ⟨g, cap, cur, rfl, _⟩
  · omega
  · have hc : ∀ j u, [x0, x1, x2][j]? = some u → w6.cell? ⟨g, j, none⟩ = some u := fun j u hu => by
      have := h0.cells (g := g) rfl j u hu
      rwa [Addr.add_lit, Nat.zero_add] at this
    have h1 : Below w.heap.size w wE := hB.trans (hBE.mono hB.size)
    exact ⟨g, cap, rfl, ⟨hc 0 _ rfl, hc 1 _ rfl, hc 2 _ rfl⟩, (h1.alloc h1.size o).grown hg (h1.alloc h1.size o).size (fun b e => by cases e)⟩

theorem Tryd.infopc : (Tryd.prog.info? 30).map (fun i => (i.zero, i.size, i.bytes)) = some (some (.agg #[.bool false, .int .i64 0, .int .i64 0]), 3, 24) := by kernel_rfl

set_option maxRecDepth 100000 in
set_option maxHeartbeats 4000000 in
theorem pieces_ {ws : List Int} (v : Value) (w : World) (h : Rows w v [ws]) (hok : WordOk ws) :
    Calls Tryd.prog 15 #[v] w fun e w' => ∃ g c, e = .returned (.slice (some ⟨g, 0, none⟩) 1 c) ∧ (w'.cell? ⟨g, 0, none⟩ = some (.bool (turnI ws)) ∧ w'.cell? ⟨g, 1, none⟩ = some (.int .i64 (genusI (turnI ws) (eulI ws) (rimsI ws))) ∧ w'.cell? ⟨g, 2, none⟩ = some (.int .i64 (rimsI ws))) ∧ Below w.heap.size w w' := by
  obtain ⟨i0, hi0, hz0, hz1, hz2⟩ := info_parts Tryd.infopc
  have hgl := glued_ v w h hok
  have HH : Hid (Rows w v [ws] ∧ WordOk ws) := ⟨h, hok⟩
  have hel := fun (S : Nat → Prop) cw cf cc cr ge gw gf gc gr V (h' : Rows V v [ws]) => eulers_ (S := S) (cw := cw) (cf := cf) (cc := cc) (cr := cr) ge gw gf gc gr v V h' hok
  have hri := fun (S : Nat → Prop) cw cf cc cr ge gw gf gc gr V (h' : Rows V v [ws]) => rims_ (S := S) (cw := cw) (cf := cf) (cc := cc) (cr := cr) ge gw gf gc gr v V h' hok
  have HEL := Hid.mk' hel
  have HRI := Hid.mk' hri
  have hbe : -1000 ≤ eulI ws ∧ eulI ws ≤ 1000 := by
    have h1 := leastN_le (cornI ws) ws.length
    have h2 := names_le ws
    have h3 := hok.few
    unfold eulI
    omega
  have hbr : -1000 ≤ rimsI ws ∧ rimsI ws ≤ 1000 := by
    have h1 := rimsN_le (rimI ws) ws (namesI ws).length
    have h2 := names_le ws
    unfold rimsI
    omega
  obtain ⟨g, o, cap, a, c, rfl, hc, -⟩ := one_word h
  obtain ⟨eu, heu⟩ : ∃ eu, eulI ws = eu := ⟨_, rfl⟩
  obtain ⟨ri, hri3⟩ : ∃ ri, rimsI ws = ri := ⟨_, rfl⟩
  obtain ⟨tt, htt⟩ : ∃ tt, turnI ws = tt := ⟨_, rfl⟩
  have HTT : Hid (eulI ws = eu ∧ rimsI ws = ri ∧ turnI ws = tt) := ⟨heu, hri3, htt⟩
  rw [heu] at hbe
  rw [hri3] at hbr
  rw [heu, hri3, htt]
  clear h hok hel hri hc heu hri3 htt
  go_enter Tryd.func15, Tryd.ntmps15
  go_wp2_with fail
  refine hgl.mono ?_
  clear hgl
  rintro e V0 ⟨ge, gw, gf, gc, gr, rfl, hG, hB0⟩
  have HG : Hid (GluedAt w.heap.size V0 ws ge gw gf gc gr ∧ Below w.heap.size w V0) := ⟨hG, hB0⟩
  obtain ⟨n, hn⟩ : ∃ n, ws.length = n := ⟨_, rfl⟩
  obtain ⟨E, hE⟩ : ∃ E, (namesI ws).length = E := ⟨_, rfl⟩
  have HN : Hid (ws.length = n ∧ (namesI ws).length = E) := ⟨hn, hE⟩
  unfold planV
  rw [hn, hE]
  clear hG hB0 hn hE
  go_upto_region 2 with fail
  have hBb : Below V0.heap.size V0 (V0.alloc (.cells #[.slice (some ⟨ge, 0, none⟩) E 61, .slice (some ⟨gw, 0, none⟩) 1 1, .slice (some ⟨gf, 0, none⟩) 2 2, .slice (some ⟨gc, 0, none⟩) n n, .slice (some ⟨gr, 0, none⟩) n n] 65)) := (Below.refl _ V0).alloc (Nat.le_refl _) _
  have q5 := cells_new V0 [.slice (some ⟨ge, 0, none⟩) E 61, .slice (some ⟨gw, 0, none⟩) 1 1, .slice (some ⟨gf, 0, none⟩) 2 2, .slice (some ⟨gc, 0, none⟩) n n, .slice (some ⟨gr, 0, none⟩) n n] 65
  obtain ⟨Y, hY⟩ : ∃ Y, V0.alloc (.cells #[.slice (some ⟨ge, 0, none⟩) E 61, .slice (some ⟨gw, 0, none⟩) 1 1, .slice (some ⟨gf, 0, none⟩) 2 2, .slice (some ⟨gc, 0, none⟩) n n, .slice (some ⟨gr, 0, none⟩) n n] 65) = Y := ⟨_, rfl⟩
  obtain ⟨p, hp⟩ : ∃ p, V0.heap.size = p := ⟨_, rfl⟩
  have HP : Hid ((∀ j u, [Value.slice (some ⟨ge, 0, none⟩) E 61, .slice (some ⟨gw, 0, none⟩) 1 1, .slice (some ⟨gf, 0, none⟩) 2 2, .slice (some ⟨gc, 0, none⟩) n n, .slice (some ⟨gr, 0, none⟩) n n][j]? = some u → Y.cell? ⟨p, j, none⟩ = some u) ∧ Below V0.heap.size V0 Y) := ⟨fun j u hu => by
    have := q5 j u hu
    rw [Addr.add_lit, Nat.zero_add] at this
    rw [← hY, ← hp]
    exact this, by rw [← hY]; exact hBb⟩
  rw [hY, hp]
  clear hY hp q5 hBb
  have HW : Hid (∀ V, Below Y.heap.size Y V → Rows V (.slice (some ⟨g, o, none⟩) 1 cap) [ws] ∧ FourJ V gw gf gc gr ws (namesI ws).length ∧ EdgesIn (fun b => w.heap.size ≤ b ∧ b < V0.heap.size ∧ ¬ fourS gw gf gc gr b) V ge ws ∧ Below w.heap.size w V) := fun V hV => by
    have h1 : Below V0.heap.size V0 V := HP.out.2.trans (hV.mono HP.out.2.size)
    have h2 := HG.out.1.four
    exact ⟨HH.out.1.below (HG.out.2.trans (h1.mono HG.out.2.size)), h2.below h1, HG.out.1.edges.keep (fun b hb => h1.block b hb.2.1), HG.out.2.trans (h1.mono HG.out.2.size)⟩
  have hel2 : ∀ V, Below Y.heap.size Y V → Calls Tryd.prog 22 #[.agg #[.slice (some ⟨ge, 0, none⟩) E 61, .slice (some ⟨gw, 0, none⟩) 1 1, .slice (some ⟨gf, 0, none⟩) 2 2, .slice (some ⟨gc, 0, none⟩) n n, .slice (some ⟨gr, 0, none⟩) n n], .slice (some ⟨g, o, none⟩) 1 cap] V fun e w' => ∃ go, e = .returned (.slice (some ⟨go, 0, none⟩) 1 1) ∧ w'.cell? ⟨go, 0, none⟩ = some (.int .i64 (eulI ws)) ∧ Below V.heap.size V w' := fun V hV => by
    obtain ⟨h1, h2, h3, h4⟩ := HW.out V hV
    have h5 := HP.out.2.size
    have h6 := hV.size
    have h7 := HEL.out _ _ _ _ _ ge gw gf gc gr V h1 h2 h3 (fun b hb => by omega)
    unfold planV at h7
    rw [HN.out.1, HN.out.2] at h7
    unfold eulI
    rw [HN.out.1, HN.out.2]
    unfold cornI
    rw [HN.out.2]
    exact h7
  have hri2 : ∀ V, Below Y.heap.size Y V → Calls Tryd.prog 23 #[.agg #[.slice (some ⟨ge, 0, none⟩) E 61, .slice (some ⟨gw, 0, none⟩) 1 1, .slice (some ⟨gf, 0, none⟩) 2 2, .slice (some ⟨gc, 0, none⟩) n n, .slice (some ⟨gr, 0, none⟩) n n], .slice (some ⟨g, o, none⟩) 1 cap] V fun e w' => ∃ go, e = .returned (.slice (some ⟨go, 0, none⟩) 1 1) ∧ w'.cell? ⟨go, 0, none⟩ = some (.int .i64 (rimsI ws)) ∧ Below V.heap.size V w' := fun V hV => by
    obtain ⟨h1, h2, h3, h4⟩ := HW.out V hV
    have h5 := HP.out.2.size
    have h6 := hV.size
    have h7 := HRI.out _ _ _ _ _ ge gw gf gc gr V h1 h2 h3 (fun b hb => by omega)
    unfold planV at h7
    rw [HN.out.1, HN.out.2] at h7
    unfold rimsI rimI
    rw [HN.out.2]
    exact h7
  rw [HTT.out.1] at hel2
  rw [HTT.out.2.1] at hri2
  have p0 := HP.out.1 0 _ rfl
  have p1 := HP.out.1 1 _ rfl
  have p2 := HP.out.1 2 _ rfl
  have p3 := HP.out.1 3 _ rfl
  have p4 := HP.out.1 4 _ rfl
  clear HEL HRI
  go_cut [4, 5] from 11 to 16 (fun x y wx => ∃ g1 g2, x = .slice (some ⟨g1, 0, none⟩) 1 1 ∧ y = .slice (some ⟨g2, 0, none⟩) 1 1 ∧ Hid (wx.cell? ⟨g1, 0, none⟩ = some (.int .i64 eu) ∧ wx.cell? ⟨g2, 0, none⟩ = some (.int .i64 ri) ∧ Below Y.heap.size Y wx))
  case first =>
    have HD : Hid (Below Y.heap.size Y Y.drew) := (Below.refl _ Y).drew
    go_wp2_with fail
    go_region_with (first
      | (go_at_call 22; refine (hel2 _ HD.out).mono ?_; rintro e V1 ⟨g1, rfl, hg1, hV⟩; replace HD : Hid (Below Y.heap.size Y V1) := HD.out.trans (hV.mono HD.out.size); have q0 := (hV.cell (p := ⟨p, 0, none⟩) (cell_lt p0)).trans p0; have q1 := (hV.cell (p := ⟨p, 1, none⟩) (cell_lt p1)).trans p1; have q2 := (hV.cell (p := ⟨p, 2, none⟩) (cell_lt p2)).trans p2; have q3 := (hV.cell (p := ⟨p, 3, none⟩) (cell_lt p3)).trans p3; have q4 := (hV.cell (p := ⟨p, 4, none⟩) (cell_lt p4)).trans p4; clear hV)
      | (go_at_call 23; refine (hri2 _ HD.out).mono ?_; rintro e V2 ⟨g2, rfl, hg2, hV⟩; replace HD : Hid (Below Y.heap.size Y V2) := HD.out.trans (hV.mono HD.out.size); have hg1' := (hV.cell (p := ⟨g1, 0, none⟩) (cell_lt hg1)).trans hg1; clear hV))
    all_goals go_wp2_with fail
    all_goals go_meet
    all_goals exact ⟨g1, g2, rfl, rfl, hg1', hg2, HD.out⟩
  obtain ⟨g1, g2, rfl, rfl, HC⟩ := hcut
  obtain ⟨Z, hZ⟩ : ∃ Z, Z = wc := ⟨_, rfl⟩
  subst hZ
  have HZ := Hid.mk' (HW.out Z HC.out.2.2)
  have r1 := (HC.out.2.2.cell (p := ⟨p, 1, none⟩) (cell_lt p1)).trans p1
  have r2 := (HC.out.2.2.cell (p := ⟨p, 2, none⟩) (cell_lt p2)).trans p2
  have c1 := HC.out.1
  have c2 := HC.out.2.1
  have hw1 := of_ gw 1 1 0 Z HZ.out.2.1.words (by omega) (by omega)
  have hf0 := of_ gf 2 2 0 Z.drew (HZ.out.2.1.faces.of_block rfl) (by omega) (by omega)
  have hf1 := of_ gf 2 2 1 Z.drew (HZ.out.2.1.faces.of_block rfl) (by omega) (by omega)
  have hcw0 : joinAll (upJ (wordJ ws) (namesI ws).length) 0 = 0 := by
    have := (cls_all (upJ (wordJ ws) (namesI ws).length)).le 0
    omega
  rw [hcw0, show ((0 : Nat) : Int) = 0 from rfl] at hw1
  rw [show ((0 : Nat) : Int) = 0 from rfl] at hf0
  rw [show ((1 : Nat) : Int) = 1 from rfl] at hf1
  obtain ⟨fz0, hfz0⟩ : ∃ fz0, joinAll (upJ (faceJ ws) (namesI ws).length) 0 = fz0 := ⟨_, rfl⟩
  obtain ⟨fz1, hfz1⟩ : ∃ fz1, joinAll (upJ (faceJ ws) (namesI ws).length) 1 = fz1 := ⟨_, rfl⟩
  rw [hfz0] at hf0
  rw [hfz1] at hf1
  have htu : tt = decide (fz0 ≠ fz1) := by rw [← HTT.out.2.2, ← hfz0, ← hfz1]; rfl
  have HTU : Hid (tt = decide (fz0 ≠ fz1)) := htu
  clear p0 p1 p2 p3 p4 hcw0 hfz0 hfz1 hel2 hri2 htu
  go_wp2_with fail
  go_loopw [6, 19] (fun x q W => (x = .slice none 0 0 ∧ q = .int .i64 0 ∧ W = Z) ∨ (∃ gg cc, x = .slice (some ⟨gg, 0, none⟩) 1 cc ∧ q = .int .i64 1 ∧ Hid ((W.cell? ⟨gg, 0, none⟩ = some (.bool tt) ∧ W.cell? ⟨gg, 1, none⟩ = some (.int .i64 (genusI tt eu ri)) ∧ W.cell? ⟨gg, 2, none⟩ = some (.int .i64 ri)) ∧ Below w.heap.size w W))) (fun _ q _ => 1 - (intOf q).toNat)
  case atStart => exact .inl ⟨rfl, rfl, rfl⟩
  case round =>
    obtain ⟨rfl, rfl, rfl⟩ | ⟨gg, cc, rfl, rfl, HK⟩ := hrel
    · go_upto_region 8 with (go_at_call 24; refine hw1.mono ?_; rintro e V1 ⟨rfl, rfl⟩; clear hw1)
      go_cut [8] from 28 to 39 (fun x wx => x = .bool tt ∧ wx = V1.drew)
      case first =>
        have hwz : IntKind.i64.wrap 0 = 0 := by decide
        have hwo : IntKind.i64.wrap 1 = 1 := by decide
        by_cases hff : fz0 = fz1
        · have htf : tt = false := by rw [HTU.out, decide_eq_false (fun h => h hff)]
          subst hff
          subst htf
          go_wp2_with fail
          go_region_with (first
            | (go_at_call_of 24 (Value.int IntKind.i64 0); refine hf0.mono ?_; rintro e V2 ⟨rfl, rfl⟩)
            | (go_at_call_of 24 (Value.int IntKind.i64 1); refine hf1.mono ?_; rintro e V2 ⟨rfl, rfl⟩))
          all_goals go_wp2_with fail
          all_goals go_meet
          all_goals exact ⟨rfl, rfl⟩
        · have htf : tt = true := by rw [HTU.out, decide_eq_true hff]
          have hbf : ((fz0 : Int) == (fz1 : Int)) = false := beq_false_of_ne (by omega)
          subst htf
          go_wp2_with fail
          go_region_with (first
            | (go_at_call_of 24 (Value.int IntKind.i64 0); refine hf0.mono ?_; rintro e V2 ⟨rfl, rfl⟩)
            | (go_at_call_of 24 (Value.int IntKind.i64 1); refine hf1.mono ?_; rintro e V2 ⟨rfl, rfl⟩))
          all_goals go_wp2_with fail
          all_goals go_meet
          all_goals exact ⟨by simp [bne, hbf], rfl⟩
      obtain ⟨rfl, rfl⟩ := hcut
      go_upto_region 9 with fail
      have HBZ : Hid (Below w.heap.size w V1.drew) := HZ.out.2.2.2.drew
      go_wp2_with fail
      go_region_law (first
        | (refine step_euler rfl _ _ _ _ rfl tt eu ri (by simp [Act.eval]) (by simp [Act.eval]) (by simp [Act.eval]) hbe hbr ?_; intro wE hBE)
        | (refine step_append_wide (by rfl) (.tmp 40) (.tmp 51) 35 (by rfl) wE.heap.size 30 i0 (.agg #[.bool false, .int .i64 0, .int .i64 0]) 3 24 Tryd.underlying35 hi0 hz0 hz1 hz2 (by rfl) (by decide) (.slice none 0 0) 0 [] (by simp [Act.eval]) (World.ownsRow_nil _ _ _ _) ⟨_, 0, none⟩ 1 1 [.bool tt, .int .i64 (genusI tt eu ri), .int .i64 ri] (by simp [Act.eval]) rfl (cells_new _ _ _) (by simp [Value.oneCell']) (by unfold maxLen; omega) (by omega) (by simp) ?_
           intro v6 w6 hown6 hg6 hl6))
      all_goals go_wp2_with fail
      all_goals go_roundw
      all_goals first
        | (obtain ⟨gg, cc, h1, h2, h3⟩ := piece_made HBZ.out.drew hBE hown6 hg6; exact .inr ⟨gg, cc, h1, rfl, h2, h3⟩)
        | simp [intOf]
    · have hso := sort_one (some ⟨gg, 0, none⟩) cc (.func (.func 27) #[] #[]) wr
      go_wp2_with (first
        | (go_at_call 26; refine hso.mono ?_; rintro e V1 ⟨rfl, rfl⟩; clear hso)
        | fail)
      go_ret
      exact ⟨gg, cc, rfl, HK.out.1, HK.out.2⟩

end Go.Proofs.YtkaplnjknobdpaaDoor
