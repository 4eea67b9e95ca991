/- Words of which there are not too many. Rows are copied: what a copy lies in; the program's group. -/
import Derived.Test.YtmaopnbnbiediaaDoorGrpCosets
import Derived.Test.YtmaopnbnbiediaaDoorGrpRef2
import Derived.Test.YtmaopnbnbiediaaDoorGrpAddRow
namespace Go.Proofs.YtmaopnbnbiediaaDoor
open Go.RowKit Go.Sort

/-- Words of which there are at most a thousand, with as many letters. -/
structure ThouAt (w : World) (v : Value) (wss : List (List Int)) : Prop where
  rows : Rows w v wss
  few : wss.length ≤ 1000
  short : wss.flatten.length ≤ 1000
theorem ThouAt.below {w w' : World} {v : Value} {wss : List (List Int)} (h : ThouAt w v wss) (hB : Below w.heap.size w w') : ThouAt w' v wss := ⟨h.rows.below hB, h.few, h.short⟩
theorem FewAt.thou {w : World} {v : Value} {wss : List (List Int)} (h : FewAt w v wss) : ThouAt w v wss := ⟨h.rows, by have := h.few; omega, by have := h.short; omega⟩

end Go.Proofs.YtmaopnbnbiediaaDoor

namespace Go.Proofs.YtmaopnbnbiediaaDoor
open Go.RowKit Go.Sort

/-- A copy of a row onto nothing: it lies in new memory. -/
theorem copy_new {base : Nat} {w w5 : World} {v' : Value} {l : List Int} {k : Nat} {vo : Value} (hown : w5.ownsRow base 3 1 v' k (l.map (Value.int .i64))) (hl : v'.ownBlock = none ∨ v'.ownBlock = some w.heap.size) (_hb : base ≤ w.heap.size) (ho : ∀ b, vo.ownBlock = some b → b < w.heap.size) : IntsIn (fun b => base ≤ b ∧ some b ≠ vo.ownBlock) w5 v' l := by
  refine slice_of_owns hown fun b h1 h2 => ⟨h1, fun e => ?_⟩
  rcases hl with hl | hl
  · rw [hl] at h2; cases h2
  · rw [hl] at h2
    have := Option.some.inj h2
    have := ho b e.symm
    omega

theorem no_row (v : Value) : v.ownBlock = none ∨ v.ownBlock ≠ none := by cases v.ownBlock <;> simp
theorem below_none {w w' : World} (h : w.grownBy w' none) : Below w.heap.size w w' := ⟨h.os, h.tape, h.output, h.size, fun b hb => h.block b hb (by simp)⟩
/-- A copied row is put behind the others. -/
theorem copy_push {base k : Nat} {wr w5 w6 : World} {vo v6 u5 : Value} {xss : List (List Int)} {l : List Int} {vs : List Value} {o : Obj} {q : Nat} (h1 : wr.ownsRow base 42 1 vo k vs) (hk : xss.length = k) (h2 : ∀ (j : Nat) (u : Value) (x : List Int), vs[j]? = some u → xss[j]? = some x → IntsIn (fun b => base ≤ b ∧ some b ≠ vo.ownBlock) wr u x)
    (hb : base ≤ wr.heap.size) (hown5 : w5.ownsRow base 3 1 u5 q ([] ++ l.map (Value.int .i64))) (hg5 : wr.grownBy w5 none) (hl5 : u5.ownBlock = none ∨ u5.ownBlock = some wr.heap.size)
    (hown6 : w6.ownsRow base 42 1 v6 (k + 1) (vs ++ [u5])) (hg6 : (w5.alloc o).grownBy w6 vo.ownBlock) (hl6 : v6.ownBlock = vo.ownBlock ∨ v6.ownBlock = some (w5.alloc o).heap.size) : OwnRows base w6 v6 (xss ++ [l]) ∧ ∀ b, b < wr.heap.size → some b ≠ vo.ownBlock → w6.heap[b]? = wr.heap[b]? := by
  have hB := below_none hg5
  subst hk
  refine ⟨OwnRows.push (h1.kept hg5 (no_row vo)) (fun j u x hu hx => (h2 j u x hu hx).below hB) (copy_new (w := wr) hown5 hl5 hb (fun b e => (h1.lt b e).2)) hown6 hg6 hl6, fun b k1 k2 => ?_⟩
  have hs := hg5.size
  rw [hg6.block b (by rw [World.size_alloc]; omega) k2, Below.heap_alloc w5 o b (by omega), hB.block b k1]

/-- A struct's cell is written behind a copied row. -/
theorem prog_put {base k ob : Nat} {n : Int} {wr w5 w6 : World} {vo v6 u5 : Value} {xss : List (List Int)} {l : List Int} {vs : List Value} {o : Obj} {q : Nat} (h1 : wr.ownsRow base 42 1 vo k vs) (hk : xss.length = k) (h2 : ∀ (j : Nat) (u : Value) (x : List Int), vs[j]? = some u → xss[j]? = some x → IntsIn (fun b => base ≤ b ∧ some b ≠ vo.ownBlock) wr u x)
    (hb : base ≤ wr.heap.size) (hown5 : w5.ownsRow base 3 1 u5 q ([] ++ l.map (Value.int .i64))) (hg5 : wr.grownBy w5 none) (hl5 : u5.ownBlock = none ∨ u5.ownBlock = some wr.heap.size)
    (hown6 : w6.ownsRow base 42 1 v6 (k + 1) (vs ++ [u5])) (hg6 : (w5.alloc o).grownBy w6 vo.ownBlock) (hl6 : v6.ownBlock = vo.ownBlock ∨ v6.ownBlock = some (w5.alloc o).heap.size)
    (ho : ob < base) (c0 : wr.cell? ⟨ob, 0, none⟩ = some (.int .i64 (n : Int))) (c1 : wr.cell? ⟨ob, 1, none⟩ = some vo) (f1 : wr.frozen? ⟨ob, 1, none⟩ = false) :
    (w6.cell? ⟨ob, 1, none⟩ = some vo ∧ w6.frozen? ⟨ob, 1, none⟩ = false) ∧ OwnRows base (w6.setCell ⟨ob, 1, none⟩ v6) v6 (xss ++ [l]) ∧ (w6.setCell ⟨ob, 1, none⟩ v6).cell? ⟨ob, 0, none⟩ = some (.int .i64 (n : Int)) ∧ (w6.setCell ⟨ob, 1, none⟩ v6).cell? ⟨ob, 1, none⟩ = some v6 ∧ (w6.setCell ⟨ob, 1, none⟩ v6).frozen? ⟨ob, 1, none⟩ = false ∧ (wr.heap.size ≤ (w6.setCell ⟨ob, 1, none⟩ v6).heap.size) ∧ ∀ b, b < base → b ≠ ob → (w6.setCell ⟨ob, 1, none⟩ v6).heap[b]? = wr.heap[b]? := by
  obtain ⟨hO, hK⟩ := copy_push h1 hk h2 hb hown5 hg5 hl5 hown6 hg6 hl6
  have hvo : ∀ b, b < base → some b ≠ vo.ownBlock := fun b hb e => by have := (h1.lt b e.symm).1; omega
  have eo : w6.heap[ob]? = wr.heap[ob]? := hK ob (by omega) (hvo ob ho)
  have d0 := (World.cell?_of_block (a := ⟨ob, 0, none⟩) eo).trans c0
  have d1 := (World.cell?_of_block (a := ⟨ob, 1, none⟩) eo).trans c1
  have e1 := (World.frozen?_of_block (a := ⟨ob, 1, none⟩) eo).trans f1
  have h0 : (w6.setCell ⟨ob, 1, none⟩ v6).cell? ⟨ob, 0, none⟩ = w6.cell? ⟨ob, 0, none⟩ := by
    apply World.cell?_setCell_other
    intro e
    exact absurd (Addr.mk.inj e).2.1 (by decide)
  have hs5 := hg5.size
  have hs6 := hg6.size
  rw [World.size_alloc] at hs6
  refine ⟨⟨d1, e1⟩, ?_, h0.trans d0, World.cell?_setCell_same' w6 _ v6 (by rw [d1]; rfl), by rw [World.frozen?_setCell]; exact e1, by simp; omega, fun b hb hne => (Below.heap_setCell w6 ⟨ob, 1, none⟩ v6 b hne).trans (hK b (by omega) (hvo b hb))⟩
  obtain ⟨vs', k1, k2⟩ := hO
  refine ⟨vs', k1.kept (grown_at w6 ⟨ob, 1, none⟩ v6) (.inr fun e => ?_), fun j u x hu hx => SliceIn.keep (k2 j u x hu hx) fun b _ hS => Below.heap_setCell w6 ⟨ob, 1, none⟩ v6 b fun e => ?_⟩
  · have := (k1.lt ob e).1
    omega
  · have h9 : b = ob := e
    have := hS.1
    omega

/-- The program's group while its relators are copied. -/
structure ProgAt (p : Nat) (n : Int) (A W : World) (u : Value) (xss : List (List Int)) : Prop where
  own : OwnRows (p + 3) W u xss
  c0 : W.cell? ⟨p + 2, 0, none⟩ = some (.int .i64 (n : Int))
  c1 : W.cell? ⟨p + 2, 1, none⟩ = some u
  f1 : W.frozen? ⟨p + 2, 1, none⟩ = false
  os : W.os = A.os
  tape : W.tape = A.tape
  output : W.output = A.output
  size : p + 3 ≤ W.heap.size
  keep : ∀ b, b < p + 3 → b ≠ p + 2 → W.heap[b]? = A.heap[b]?

set_option maxRecDepth 100000 in
set_option maxHeartbeats 4000000 in
theorem programT_ (n : Int) (vr : Value) (rels : List (List Int)) (w : World) (h : ThouAt w vr rels) :
    Calls Tryd.prog 8 #[.agg #[.int .i64 (n : Int), vr]] w fun e w' => ∃ u, e = .returned (.agg #[.int .i64 (n : Int), u]) ∧ Rows w' u rels ∧ Below w.heap.size w w' := by
  obtain ⟨i0, hi0, hz0, hz1, hz2⟩ := info_parts Tryd.info42
  obtain ⟨j0, hj0, hy0, hy1, hy2⟩ := info_parts Tryd.infoi
  have h4 := h.few
  have hsh := h.short
  obtain ⟨ar, cr, rfl, -, -⟩ := h.rows.open_
  obtain ⟨A0, hA0⟩ : ∃ A0, w.alloc (.cells #[.int .i64 (n : Int), .slice ar rels.length cr] 24) = A0 := ⟨_, rfl⟩
  obtain ⟨A1, hA1⟩ : ∃ A1, A0.alloc (.cells #[.int .i64 0, .slice none 0 0] 33) = A1 := ⟨_, rfl⟩
  obtain ⟨A2, hA2⟩ : ∃ A2, A1.alloc (.cells #[.int .i64 (n : Int), .slice none 0 0] 33) = A2 := ⟨_, rfl⟩
  obtain ⟨p, hp⟩ : ∃ p, w.heap.size = p := ⟨_, rfl⟩
  have hs0 : A0.heap.size = p + 1 := by rw [← hA0, World.size_alloc, hp]
  have hs1 : A1.heap.size = p + 2 := by rw [← hA1, World.size_alloc, hs0]
  have hs2 : A2.heap.size = p + 3 := by rw [← hA2, World.size_alloc, hs1]
  have hB0 : Below p w A0 := by rw [← hA0, ← hp]; exact (Below.refl _ w).alloc (Nat.le_refl _) _
  have hB1 : Below p w A1 := by rw [← hA1]; exact hB0.alloc (by omega) _
  have hB2 : Below p w A2 := by rw [← hA2]; exact hB1.alloc (by omega) _
  have k0 := cells_new w [.int .i64 (n : Int), .slice ar rels.length cr] 24
  have k1 := cells_new A0 [.int .i64 0, .slice none 0 0] 33
  have k2 := cells_new A1 [.int .i64 (n : Int), .slice none 0 0] 33
  have q0 := k0 0 _ rfl
  have q1 := k0 1 _ rfl
  have r0 := k1 0 _ rfl
  have r1 := k1 1 _ rfl
  have s0 := k2 0 _ rfl
  have s1 := k2 1 _ rfl
  have fr := froz_new A0 #[.int .i64 0, .slice none 0 0] 33
  have fs := froz_new A1 #[.int .i64 (n : Int), .slice none 0 0] 33
  rw [Addr.add_lit, Nat.zero_add] at q0 q1 r0 r1 s0 s1
  rw [show (List.toArray [Value.int .i64 (n : Int), .slice ar rels.length cr]) = #[.int .i64 (n : Int), .slice ar rels.length cr] from rfl, hA0, hp] at q0 q1
  rw [show (List.toArray [Value.int .i64 0, .slice none 0 0]) = #[.int .i64 0, .slice none 0 0] from rfl, hA1, hs0] at r0 r1
  rw [show (List.toArray [Value.int .i64 (n : Int), .slice none 0 0]) = #[.int .i64 (n : Int), .slice none 0 0] from rfl, hA2, hs1] at s0 s1
  rw [hA1, hs0] at fr
  rw [hA2, hs1] at fs
  have HP0 : Hid (ProgAt p n A2 A2 (.slice none 0 0) (rels.take 0)) := ⟨OwnRows.nil _ _, s0, s1, fs 1, rfl, rfl, rfl, by omega, fun _ _ _ => rfl⟩
  have e1 : A2.heap[p + 1]? = A1.heap[p + 1]? := by rw [← hA2]; exact Below.heap_alloc A1 _ (p + 1) (by omega)
  have e0 : A2.heap[p]? = A0.heap[p]? := by
    rw [← hA2, Below.heap_alloc A1 _ p (by omega), ← hA1]
    exact Below.heap_alloc A0 _ p (by omega)
  have t0 := (World.cell?_of_block (a := ⟨p, 0, none⟩) e0).trans q0
  have t1 := (World.cell?_of_block (a := ⟨p, 1, none⟩) e0).trans q1
  have u0 := (World.cell?_of_block (a := ⟨p + 1, 0, none⟩) e1).trans r0
  have u1 := (World.cell?_of_block (a := ⟨p + 1, 1, none⟩) e1).trans r1
  have fu : ∀ j, A2.frozen? ⟨p + 1, j, none⟩ = false := fun j => (World.frozen?_of_block (a := ⟨p + 1, j, none⟩) e1).trans (fr j)
  have HRW : Hid (Rows A2 (.slice ar rels.length cr) rels ∧ RowsIn (fun b => b < p) A2 (.slice ar rels.length cr) rels) := by
    have h1 : RowsIn (fun b => b < p) A2 (.slice ar rels.length cr) rels := (h.rows.mono (S' := fun b => b < p) fun b hb _ => by omega).keep (fun b _ hb => hB2.block b hb)
    exact ⟨h1.any, h1⟩
  have HB2 := Hid.mk' hB2
  obtain ⟨m, hm⟩ : ∃ m, rels.length = m := ⟨_, rfl⟩
  have HM : Hid (rels.length = m) := hm
  have HA : Hid (w.alloc (.cells #[.int .i64 (n : Int), .slice ar rels.length cr] 24) = A0 ∧ A0.alloc (.cells #[.int .i64 0, .slice none 0 0] 33) = A1 ∧ A1.alloc (.cells #[.int .i64 (n : Int), .slice none 0 0] 33) = A2 ∧ w.heap.size = p ∧ A0.heap.size = p + 1 ∧ A1.heap.size = p + 2) := ⟨hA0, hA1, hA2, hp, hs0, hs1⟩
  have q0' : A1.cell? ⟨p, 0, none⟩ = some (.int .i64 (n : Int)) := by rw [← hA1, World.cell?_alloc_lt A0 _ ⟨p, 0, none⟩ (by simp only; omega)]; exact q0
  rw [hm] at h4 t1 HRW HA ⊢
  clear h hA0 hA1 hA2 hp hs0 hs1 hs2 hB0 hB1 hB2 k0 k1 k2 q0 q1 r0 r1 s0 s1 fr fs e0 e1 hm
  go_enter Tryd.func8, Tryd.ntmps8
  go_upto_region 1 with fail
  rw [HA.out.1, HA.out.2.2.2.1]
  rw [HA.out.2.1]
  go_upto_region 2 with fail
  rw [HA.out.2.2.1]
  try rw [HA.out.2.2.2.2.2]
  go_wp2_with fail
  go_loopw [4] (fun pk W => ∃ (k : Nat) (u : Value), k ≤ m ∧ pk = .int .i64 (k : Int) ∧ Hid (ProgAt p n A2 W u (rels.take k))) (fun pk _ => m - (intOf pk).toNat)
  case atStart => exact ⟨0, _, by omega, rfl, HP0.out⟩
  case round =>
    obtain ⟨k, u, hk, rfl, HK⟩ := hrel
    have v1 := (World.cell?_of_block (a := ⟨p, 1, none⟩) (HK.out.keep p (by omega) (by omega))).trans t1
    have hwp := HK.out.size
    by_cases hkn : k < m
    · have hkl : k < rels.length := by rw [HM.out]; exact hkn
      obtain ⟨l, hl⟩ : ∃ l, rels[k]? = some l := ⟨_, List.getElem?_eq_getElem hkl⟩
      have hlm : l ∈ rels := List.mem_of_getElem? hl
      have htk : rels.take (k + 1) = rels.take k ++ [l] := by rw [List.take_add_one, hl]; rfl
      have htl : (rels.take k).length = k := by rw [List.length_take]; omega
      obtain ⟨vs, ho1, ho2⟩ := HK.out.own
      obtain ⟨au, cu, hu⟩ := own_one ho1
      rw [htl] at ho1 hu
      subst hu
      have hRW : RowsIn (fun b => b < p) wr (.slice ar m cr) rels := HRW.out.2.keep (fun b _ hb => HK.out.keep b (by omega) (by omega))
      obtain ⟨a', c', ea, -, hx⟩ := hRW.open_
      rw [HM.out] at ea hx
      cases ea
      obtain ⟨b, off, rfl, -, -, hcell⟩ := hx (by omega)
      obtain ⟨a2, c2, ck, hi2⟩ := hcell k hkn
      rw [hl, Option.getD_some] at ck hi2
      have hl4 := Nat.le_trans (len_flat hlm) hsh
      have HI2 := Hid.mk' hi2
      have HO1 := Hid.mk' ho1
      have HO2 := Hid.mk' ho2
      have HTK := Hid.mk' htk
      have HTL := Hid.mk' htl
      have d1 := HK.out.c1
      have fd := HK.out.f1
      obtain ⟨ll, hll⟩ : ∃ ll, l.length = ll := ⟨_, rfl⟩
      have HLL : Hid (l.length = ll) := hll
      have HML : Hid ((l.map (Value.int .i64)).length = ll) := by show _ = _; rw [List.length_map]; exact hll
      rw [hll] at ck hl4 HI2
      have z0 : (0 : Int) ≤ (k : Int) := by omega
      have z1 : (k : Int) < (m : Int) := by omega
      clear hl hlm hx hcell hi2 hll ho1 ho2 htk htl hRW t0 t1 u0 u1 fu HP0
      go_wp2_with fail
      go_region_law (first
        | (refine step_append_slice (by rfl) (.tmp 18) (.tmp 23) 42 (by rfl) (p + 3) 3 j0 (.int .i64 0) 8 Tryd.underlying42 hj0 hy0 hy1 hy2 (by rfl) (.slice none 0 0) 0 [] (by simp [Act.eval]) (World.ownsRow_nil _ _ _ _) (.slice a2 ll c2) (l.map (Value.int .i64)) (by simp [Act.eval]) HI2.out (ints_one l) (by rw [HML.out]; omega) (by rw [HML.out]; unfold maxLen; omega) hwp ?_; intro v5 w5 hown5 hg50 hl5; have hg5 : wr.grownBy w5 none := ⟨hg50.os, hg50.tape, hg50.output, hg50.size, hg50.block⟩; have hd5 := (World.cell?_of_block (a := ⟨p + 2, 1, none⟩) (hg5.block (p + 2) (by omega) (by simp))).trans d1; have hd5a : ∀ o, (w5.alloc o).cell? ⟨p + 2, 1, none⟩ = some (.slice au k cu) := fun o => (World.cell?_alloc_lt w5 o ⟨p + 2, 1, none⟩ (cell_lt hd5)).trans hd5; have H5 := Hid.mk' (And.intro hown5 (And.intro hg5 hl5)); have hw5 := hg5.size; rw [HML.out, Nat.zero_add] at H5 hown5; obtain ⟨a5, c5, rfl⟩ := own_one hown5; clear hown5 hg5 hg50 hl5)
        | (refine step_append_wide (by rfl) (.tmp 17) (.tmp 25) 22 (by rfl) (p + 3) 42 i0 (.slice none 0 0) 1 24 Tryd.underlying22 hi0 hz0 hz1 hz2 (by rfl) (by decide) (.slice au k cu) k vs (by simp [Act.eval]) ((HO1.out.kept H5.out.2.1 (no_row _)).alloc _) ⟨w5.heap.size, 0, none⟩ 1 1 [.slice a5 ll c5] (by simp [Act.eval]) rfl (cells_new _ _ _) (by simp [Value.oneCell']) (by unfold maxLen; omega) (by omega) (by simp; omega) ?_; intro v6 w6 hown6 hg6 hl6; have H6 := Hid.mk' (prog_put (n := n) (ob := p + 2) HO1.out HTL.out HO2.out hwp H5.out.1 H5.out.2.1 H5.out.2.2 hown6 hg6 hl6 (by omega) HK.out.c0 HK.out.c1 HK.out.f1); have HO6 : Hid (w6.os = A2.os ∧ w6.tape = A2.tape ∧ w6.output = A2.output) := ⟨hg6.os.trans (H5.out.2.1.os.trans HK.out.os), hg6.tape.trans (H5.out.2.1.tape.trans HK.out.tape), hg6.output.trans (H5.out.2.1.output.trans HK.out.output)⟩; have g1 := H6.out.1.1; have g2 := H6.out.1.2; obtain ⟨a6, c6, rfl⟩ := own_one hown6; clear hown6 hg6 hl6)
        | fail)
      all_goals go_wp2_with fail
      all_goals go_roundw
      all_goals first
        | (simp [intOf]; omega; done)
        | (refine ⟨k + 1, .slice a6 (k + 1) c6, by omega, by go_num, ?_⟩; rw [HTK.out]; exact ⟨H6.out.2.1, H6.out.2.2.1, H6.out.2.2.2.1, H6.out.2.2.2.2.1, HO6.out.1, HO6.out.2.1, HO6.out.2.2, Nat.le_trans hwp H6.out.2.2.2.2.2.1, fun b hb hne => (H6.out.2.2.2.2.2.2 b hb hne).trans (HK.out.keep b hb hne)⟩)
    · obtain rfl : k = m := by omega
      have HE : Hid ((rels.take k) = rels) := List.take_of_length_le (by rw [HM.out]; exact Nat.le_refl _)
      obtain ⟨au, cu, hu⟩ := own_one (HK.out.own.choose_spec).1
      rw [HE.out, HM.out] at hu
      subst hu
      have d0 := HK.out.c0
      have d1 := HK.out.c1
      have eb := HK.out.keep (p + 1) (by omega) (by omega)
      have x0 := (World.cell?_of_block (a := ⟨p + 1, 0, none⟩) eb).trans u0
      have x1 := (World.cell?_of_block (a := ⟨p + 1, 1, none⟩) eb).trans u1
      have y0 := (World.frozen?_of_block (a := ⟨p + 1, 0, none⟩) eb).trans (fu 0)
      have y1 := (World.frozen?_of_block (a := ⟨p + 1, 1, none⟩) eb).trans (fu 1)
      go_wp2_with fail
      have g0 : (wr.setCell ⟨p + 1, 0, none⟩ (.int .i64 (n : Int))).cell? ⟨p + 1, 0, none⟩ = some (.int .i64 (n : Int)) := World.cell?_setCell_same' wr _ _ (by rw [x0]; rfl)
      have g1 : (wr.setCell ⟨p + 1, 0, none⟩ (.int .i64 (n : Int))).cell? ⟨p + 1, 1, none⟩ = some (.slice none 0 0) := by
        have h9 : (wr.setCell ⟨p + 1, 0, none⟩ (.int .i64 (n : Int))).cell? ⟨p + 1, 1, none⟩ = wr.cell? ⟨p + 1, 1, none⟩ := by
          apply World.cell?_setCell_other
          intro e
          exact absurd (Addr.mk.inj e).2.1 (by decide)
        exact h9.trans x1
      have cA : ((wr.setCell ⟨p + 1, 0, none⟩ (.int .i64 (n : Int))).setCell ⟨p + 1, 1, none⟩ (.slice au k cu)).cell? ⟨p + 1, 0, none⟩ = some (.int .i64 (n : Int)) := by
        have h9 : ((wr.setCell ⟨p + 1, 0, none⟩ (.int .i64 (n : Int))).setCell ⟨p + 1, 1, none⟩ (.slice au k cu)).cell? ⟨p + 1, 0, none⟩ = (wr.setCell ⟨p + 1, 0, none⟩ (.int .i64 (n : Int))).cell? ⟨p + 1, 0, none⟩ := by
          apply World.cell?_setCell_other
          intro e
          exact absurd (Addr.mk.inj e).2.1 (by decide)
        exact h9.trans g0
      have cB : ((wr.setCell ⟨p + 1, 0, none⟩ (.int .i64 (n : Int))).setCell ⟨p + 1, 1, none⟩ (.slice au k cu)).cell? ⟨p + 1, 1, none⟩ = some (.slice au k cu) := World.cell?_setCell_same' _ _ _ (by rw [g1]; rfl)
      have hk9 : ∀ b, b ≠ p + 1 → ((wr.setCell ⟨p + 1, 0, none⟩ (.int .i64 (n : Int))).setCell ⟨p + 1, 1, none⟩ (.slice au k cu)).heap[b]? = wr.heap[b]? := fun b hb => (Below.heap_setCell _ ⟨p + 1, 1, none⟩ _ b hb).trans (Below.heap_setCell wr ⟨p + 1, 0, none⟩ _ b hb)
      obtain ⟨WF, hWF⟩ : ∃ WF, (wr.setCell ⟨p + 1, 0, none⟩ (.int .i64 (n : Int))).setCell ⟨p + 1, 1, none⟩ (.slice au k cu) = WF := ⟨_, rfl⟩
      have hsz : WF.heap.size = wr.heap.size := by rw [← hWF]; simp
      have hos : WF.os = wr.os ∧ WF.tape = wr.tape ∧ WF.output = wr.output := by rw [← hWF]; exact ⟨rfl, rfl, rfl⟩
      rw [hWF] at cA cB hk9 ⊢
      refine bodyPost_ret (v := .agg #[.int .i64 (n : Int), .slice au k cu]) ?_ rfl ⟨_, rfl, ?_, ?_⟩
      · simp [results, Tryd.f8, go_sem, cA, cB]
      · have hO := HK.out.own
        rw [HE.out] at hO
        obtain ⟨vs, k1, k2⟩ := hO
        have h1 := own_keep k1 (W' := WF) (fun b e => hk9 b (by have := (k1.lt b e).1; omega))
        have h2 : OwnRows (p + 3) WF (.slice au k cu) rels := ⟨vs, h1, fun j u x hu hx => SliceIn.keep (k2 j u x hu hx) fun b _ hS => hk9 b (by have := hS.1; omega)⟩
        exact h2.rows
      · rw [HA.out.2.2.2.1]
        exact ⟨hos.1.trans (HK.out.os.trans HB2.out.os), hos.2.1.trans (HK.out.tape.trans HB2.out.tape), hos.2.2.trans (HK.out.output.trans HB2.out.output), by rw [hsz, HA.out.2.2.2.1]; omega, fun b hb => (hk9 b (by omega)).trans ((HK.out.keep b (by omega) (by omega)).trans (HB2.out.block b hb))⟩

end Go.Proofs.YtmaopnbnbiediaaDoor
