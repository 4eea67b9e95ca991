/- A row more of a table of cosets. -/
import Derived.Test.YthcgabghkbgccaaDoorAppendStep
namespace Go.Proofs.YthcgabghkbgccaaDoor
open Go.RowKit Go.Sort

/-- slices.Repeat, as one step of a region that draws. -/
theorem step_repeat {ops : Array Oper} {o : Oper} {a : Act} {w : World} {K : Act → World → Prop} {Q : Exit → Act → World → Prop} {E : Prop} (hgd : o.guard = none) (t u : Tmp) (ats : Array TypeId)
    (ho : o.op = .call { callee := .value (.func 48), args := #[.tmp t, .tmp u], argTypes := ats }) (bx k : Nat) (he : a.eval (.tmp t) = .slice (some ⟨bx, 0, none⟩) 1 1) (hf : a.eval (.tmp u) = .int .i64 (k : Int))
    (hx : w.cell? ⟨bx, 0, none⟩ = some (.int .i64 (-1))) (hk : k ≤ 24)
    (h : ∀ g w', w.heap.size ≤ g → w'.rowIs g 3 k (fun _ => .int .i64 (-1)) → Below w.heap.size w w' → K (a.put o.dst (.slice (some ⟨g, 0, none⟩) k k)) w') :
    if Region.wanted o (yielded ops a.tmps) = true then Oper.wp Tryd.prog o a w K Q else E := by
  have hw : Region.wanted o (yielded ops a.tmps) = true := by simp [Region.wanted, hgd]
  rw [if_pos hw]
  have hr : (execOp a.eval o).run Tryd.prog w = .ok (.enter 48 #[.slice (some ⟨bx, 0, none⟩) 1 1, .int .i64 (k : Int)]) w := by
    have he' : a.tmps[t]?.getD undef = .slice (some ⟨bx, 0, none⟩) 1 1 := by simpa [Act.eval] using he
    have hf' : a.tmps[u]?.getD undef = .int .i64 (k : Int) := by simpa [Act.eval] using hf
    unfold execOp
    simp [ho, he', hf', go_sem]
  unfold Oper.wp
  rw [hr]
  refine Calls.mono (repeat_ bx k w hx hk) fun e w' hw' => ?_
  obtain ⟨g, rfl, h1, h2, h3⟩ := hw'
  exact h g w' h1 h2 h3

theorem own_one {w : World} {base : Nat} {t : TypeId} {v : Value} {n : Nat} {xs : List Value} (h : w.ownsRow base t 1 v n xs) : ∃ a c, v = .slice a n c := by
  obtain ⟨_, h⟩ := h
  rcases h with ⟨rfl, rfl⟩ | ⟨g, cap, cur, rfl, _⟩
  · exact ⟨_, _, rfl⟩
  · exact ⟨_, _, rfl⟩

/-- What a row more does. -/
structure RowMore (B Q n N : Nat) (v : Value) (vs : List Value) (w w' : World) (v' : Value) (g : Nat) : Prop where
  cell : w'.cell? ⟨Q, 0, none⟩ = some v'
  froz : w'.frozen? ⟨Q, 0, none⟩ = false
  own : w'.ownsRow B 27 1 v' (N + 1) (vs ++ [.slice (some ⟨g, 0, none⟩) (2 * n) (2 * n)])
  new : w.heap.size ≤ g
  row : w'.rowIs g 3 (2 * n) (fun _ => .int .i64 (-1))
  blk : v'.ownBlock = v.ownBlock ∨ ∃ b, v'.ownBlock = some b ∧ w.heap.size ≤ b ∧ b ≠ g
  os : w'.os = w.os
  tape : w'.tape = w.tape
  output : w'.output = w.output
  size : w.heap.size ≤ w'.heap.size
  keep : ∀ b, b < w.heap.size → b ≠ Q → some b ≠ v.ownBlock → w'.heap[b]? = w.heap[b]?
  rest : ∀ k, k ≠ 0 → w'.cell? ⟨Q, k, none⟩ = w.cell? ⟨Q, k, none⟩ ∧ w'.frozen? ⟨Q, k, none⟩ = w.frozen? ⟨Q, k, none⟩

theorem row_more {B Q n N g : Nat} {v v6 : Value} {vs : List Value} {w V w6 : World} {o : Obj} (hq : w.cell? ⟨Q, 0, none⟩ = some v) (hz : w.frozen? ⟨Q, 0, none⟩ = false) (hv : w.ownsRow B 27 1 v N vs) (hQ : some Q ≠ v.ownBlock)
    (hg : w.heap.size ≤ g) (hrow : V.rowIs g 3 (2 * n) (fun _ => .int .i64 (-1))) (hB : Below w.heap.size w V)
    (hown : w6.ownsRow B 27 1 v6 (N + 1) (vs ++ [.slice (some ⟨g, 0, none⟩) (2 * n) (2 * n)])) (h6 : (V.alloc o).grownBy w6 v.ownBlock) (hl : v6.ownBlock = v.ownBlock ∨ v6.ownBlock = some (V.alloc o).heap.size) :
    (w6.cell? ⟨Q, 0, none⟩ = some v ∧ w6.frozen? ⟨Q, 0, none⟩ = false) ∧ RowMore B Q n N v vs w (w6.setCell ⟨Q, 0, none⟩ v6) v6 g := by
  have hQl : Q < w.heap.size := cell_lt hq
  have hVs := hB.size
  have h6s := h6.size
  rw [World.size_alloc] at h6s hl
  have hgV : g < V.heap.size := hrow.lt
  have hvg : some g ≠ v.ownBlock := fun e => by have := (hv.lt g e.symm).2; omega
  have hb : ∀ b, b < V.heap.size → some b ≠ v.ownBlock → w6.heap[b]? = V.heap[b]? := fun b hb1 hb2 => (h6.block b (by rw [World.size_alloc]; omega) hb2).trans (Below.heap_alloc V o b hb1)
  have eQ : w6.heap[Q]? = w.heap[Q]? := (hb Q (by omega) hQ).trans (hB.block Q hQl)
  have cQ : w6.cell? ⟨Q, 0, none⟩ = some v := (World.cell?_of_block (a := ⟨Q, 0, none⟩) eQ).trans hq
  have fQ : w6.frozen? ⟨Q, 0, none⟩ = false := (World.frozen?_of_block (a := ⟨Q, 0, none⟩) eQ).trans hz
  have hQ6 : v6.ownBlock ≠ some Q := fun e => by
    rcases hl with h | h
    · exact hQ (e.symm.trans h)
    · rw [h] at e; have := Option.some.inj e; omega
  refine ⟨⟨cQ, fQ⟩, ⟨?_, ?_, ?_, hg, ?_, ?_, (h6.os).trans hB.os, (h6.tape).trans hB.tape, (h6.output).trans hB.output, by simp; omega, fun b h1 h2 h3 => ?_, fun k hk => ?_⟩⟩
  · exact World.cell?_setCell_same' w6 _ v6 (by rw [cQ]; rfl)
  · rw [World.frozen?_setCell]; exact fQ
  · exact hown.kept (grown_at w6 ⟨Q, 0, none⟩ v6) (.inr hQ6)
  · exact (hrow.of_block (hb g hgV hvg)).of_block (Below.heap_setCell w6 ⟨Q, 0, none⟩ v6 g (by simp only; omega))
  · rcases hl with h | h
    · exact .inl h
    · exact .inr ⟨_, h, by omega, by omega⟩
  · rw [Below.heap_setCell w6 ⟨Q, 0, none⟩ v6 b h2, hb b (by omega) h3, hB.block b h1]
  · refine ⟨?_, ?_⟩
    · have h9 : (w6.setCell ⟨Q, 0, none⟩ v6).cell? ⟨Q, k, none⟩ = w6.cell? ⟨Q, k, none⟩ := by
        apply World.cell?_setCell_other
        intro e
        exact hk (Addr.mk.inj e).2.1.symm
      exact h9.trans (World.cell?_of_block (a := ⟨Q, k, none⟩) eQ)
    · rw [World.frozen?_setCell]
      exact World.frozen?_of_block (a := ⟨Q, k, none⟩) eQ

set_option maxRecDepth 100000 in
set_option maxHeartbeats 2000000 in
theorem addRow_ (B Q n N : Nat) (v : Value) (vs : List Value) (w : World) (hq : w.cell? ⟨Q, 0, none⟩ = some v) (hz : w.frozen? ⟨Q, 0, none⟩ = false) (hv : w.ownsRow B 27 1 v N vs) (hQ : some Q ≠ v.ownBlock) (hB : B ≤ w.heap.size) (hN : N ≤ 5000) (hn : n ≤ 12) :
    Calls Tryd.prog 38 #[.pointer (some ⟨Q, 0, none⟩), .int .i64 (n : Int)] w fun e w' => e = .returned (.tuple #[]) ∧ ∃ v' g, RowMore B Q n N v vs w w' v' g := by
  obtain ⟨i0, hi0, hz0, hz1, hz2⟩ := info_parts Tryd.info27
  obtain ⟨av, cv, rfl⟩ : ∃ a c, v = .slice a N c := by
    obtain ⟨_, hr⟩ := hv
    rcases hr with ⟨rfl, rfl⟩ | ⟨g, cap, cur, rfl, _⟩
    · exact ⟨_, _, rfl⟩
    · exact ⟨_, _, rfl⟩
  obtain ⟨m2, hm2⟩ : ∃ m2, 2 * n = m2 := ⟨_, rfl⟩
  have HM : Hid (2 * n = m2) := hm2
  have hmul : (2 : Int) * (n : Int) = (m2 : Int) := by omega
  have hm24 : m2 ≤ 24 := by omega
  have hwr : IntKind.i64.wrap ((m2 : Int)) = (m2 : Int) := wrapI (by omega) (by omega)
  have HV : Hid (w.cell? ⟨Q, 0, none⟩ = some (.slice av N cv) ∧ w.frozen? ⟨Q, 0, none⟩ = false ∧ w.ownsRow B 27 1 (.slice av N cv) N vs ∧ some Q ≠ (Value.slice av N cv).ownBlock) := ⟨hq, hz, hv, hQ⟩
  have hx1 := cells_new w [.int .i64 (-1)] 3 0 _ rfl
  rw [Addr.add_lit, Nat.zero_add] at hx1
  have hQl : Q < w.heap.size := cell_lt hq
  have ka : ∀ o, (w.alloc o).cell? ⟨Q, 0, none⟩ = some (.slice av N cv) := fun o => (World.cell?_alloc_lt w o ⟨Q, 0, none⟩ hQl).trans hq
  have HSTEP : Hid (∀ g V, (w.alloc (.cells #[.int .i64 (-1)] 3)).drew.heap.size ≤ g → V.rowIs g 3 m2 (fun _ => .int .i64 (-1)) → Below (w.alloc (.cells #[.int .i64 (-1)] 3)).drew.heap.size (w.alloc (.cells #[.int .i64 (-1)] 3)).drew V → Below w.heap.size w V ∧ w.heap.size ≤ g ∧ V.rowIs g 3 m2 (fun _ => .int .i64 (-1)) ∧ V.ownsRow B 27 1 (.slice av N cv) N vs) := fun g V h1 h2 h3 => by
    have h0 : Below w.heap.size w (w.alloc (.cells #[.int .i64 (-1)] 3)).drew := ((Below.refl _ w).alloc (Nat.le_refl _) _).drew
    have hs : w.heap.size ≤ (w.alloc (.cells #[.int .i64 (-1)] 3)).drew.heap.size := h0.size
    have h4 := h0.trans (h3.mono hs)
    exact ⟨h4, Nat.le_trans hs h1, h2, HV.out.2.2.1.kept (Below.grownBy h4) (by cases (Value.slice av N cv).ownBlock <;> simp)⟩
  clear hm2 hv
  go_enter Tryd.func38, Tryd.ntmps38
  go_wp2_with fail
  go_region_law (first
    | (refine step_repeat rfl _ _ _ rfl w.heap.size m2 (by simp [Act.eval]) (by simp [Act.eval]) hx1 hm24 ?_; intro g V hgV hrow hBV; have HBV : Hid (Below w.heap.size w V ∧ w.heap.size ≤ g ∧ V.rowIs g 3 m2 (fun _ => .int .i64 (-1)) ∧ V.ownsRow B 27 1 (.slice av N cv) N vs) := HSTEP.out g V hgV hrow hBV; have qV := (HBV.out.1.cell (p := ⟨Q, 0, none⟩) hQl).trans HV.out.1; have kV : ∀ o, (V.alloc o).cell? ⟨Q, 0, none⟩ = some (.slice av N cv) := fun o => (World.cell?_alloc_lt V o ⟨Q, 0, none⟩ (cell_lt qV)).trans qV; have hBs : B ≤ V.heap.size := Nat.le_trans hB HBV.out.1.size; clear hgV hrow hBV)
    | (refine step_append_wide (by rfl) (.tmp 8) (.tmp 13) 22 (by rfl) B 27 i0 (.slice none 0 0) 1 24 Tryd.underlying22 hi0 hz0 hz1 hz2 (by rfl) (by decide) (.slice av N cv) N vs (by simp [Act.eval]) (HBV.out.2.2.2.alloc _) ⟨V.heap.size, 0, none⟩ 1 1 [.slice (some ⟨g, 0, none⟩) m2 m2] (by simp [Act.eval]) rfl (cells_new _ _ _) (by simp [Value.oneCell']) (by unfold maxLen; omega) (by omega) (by simp; omega) ?_; intro v6 w6 hown6 hg6 hl6; have H6 := Hid.mk' (row_more (n := n) (g := g) HV.out.1 HV.out.2.1 HV.out.2.2.1 HV.out.2.2.2 HBV.out.2.1 (by rw [HM.out]; exact HBV.out.2.2.1) HBV.out.1 (by rw [HM.out]; exact hown6) hg6 hl6); have q6 := H6.out.1.1; have f6 := H6.out.1.2; obtain ⟨a6, c6, rfl⟩ := own_one hown6; clear hown6 hg6 hl6)
    | fail)
  all_goals go_wp2_with fail
  all_goals (refine bodyPost_end (v := .tuple #[]) ?_ rfl ⟨rfl, _, _, H6.out.2⟩)
  all_goals simp [results, Tryd.f38, go_sem]

end Go.Proofs.YthcgabghkbgccaaDoor
