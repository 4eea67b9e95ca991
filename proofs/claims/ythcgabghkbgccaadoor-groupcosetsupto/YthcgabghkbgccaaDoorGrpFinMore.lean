/- The reference's cosets with one more. -/
import Derived.Test.YthcgabghkbgccaaDoorGrpFin
import Derived.Test.YthcgabghkbgccaaDoorGrpMore
namespace Go.Proofs.YthcgabghkbgccaaDoor
open Go.RowKit Go.Sort

section
variable {B : Nat} {X : Nat → Prop} {P n : Nat} {w V1 w2 : World} {t : Cos} {v0 v1 : Value} {rb cp : Nat → Nat}

/-- What the rows' append leaves. -/
theorem fin_mid (h : FinIn B X P n w t v0 v1 rb cp) (hB : Below w.heap.size w V1) (hg : V1.grownBy w2 v0.ownBlock) (v0' : Value) :
    (w2.cell? ⟨P, 0, none⟩ = some v0 ∧ w2.frozen? ⟨P, 0, none⟩ = false) ∧ (w2.setCell ⟨P, 0, none⟩ v0').cell? ⟨P, 0, none⟩ = some v0' ∧ (w2.setCell ⟨P, 0, none⟩ v0').cell? ⟨P, 1, none⟩ = some v1 ∧ (w2.setCell ⟨P, 0, none⟩ v0').cell? ⟨P, 2, none⟩ = some (.bool false) ∧ (w2.setCell ⟨P, 0, none⟩ v0').frozen? ⟨P, 0, none⟩ = false ∧ (w2.setCell ⟨P, 0, none⟩ v0').frozen? ⟨P, 1, none⟩ = false ∧
    (w2.setCell ⟨P, 0, none⟩ v0').ownsRow B 3 1 v1 t.R.length ((List.range t.R.length).map fun i => .int .i64 (t.cls i : Int)) ∧
    (∀ b, b < w.heap.size → b ≠ P → some b ≠ v0.ownBlock → (w2.setCell ⟨P, 0, none⟩ v0').heap[b]? = w.heap[b]?) ∧ (∀ b, b < V1.heap.size → w.heap.size ≤ b → (w2.setCell ⟨P, 0, none⟩ v0').heap[b]? = V1.heap[b]?) := by
  have hP : P < w.heap.size := cell_lt h.p0
  have hVs := hB.size
  have b2 : ∀ b, b < w.heap.size → some b ≠ v0.ownBlock → w2.heap[b]? = w.heap[b]? := fun b k1 k2 => (hg.block b (by omega) k2).trans (hB.block b k1)
  have eP := b2 P hP h.ab.1
  have c0 : w2.cell? ⟨P, 0, none⟩ = some v0 := (World.cell?_of_block (a := ⟨P, 0, none⟩) eP).trans h.p0
  have f0 : w2.frozen? ⟨P, 0, none⟩ = false := (World.frozen?_of_block (a := ⟨P, 0, none⟩) eP).trans h.z0
  have s0 : ∀ k, k ≠ 0 → (w2.setCell ⟨P, 0, none⟩ v0').cell? ⟨P, k, none⟩ = w2.cell? ⟨P, k, none⟩ := fun k hk => by
    apply World.cell?_setCell_other
    intro e
    exact hk (Addr.mk.inj e).2.1.symm
  refine ⟨⟨c0, f0⟩, World.cell?_setCell_same' w2 _ v0' (by rw [c0]; rfl), (s0 1 (by decide)).trans ((World.cell?_of_block (a := ⟨P, 1, none⟩) eP).trans h.p1), (s0 2 (by decide)).trans ((World.cell?_of_block (a := ⟨P, 2, none⟩) eP).trans h.p2), by rw [World.frozen?_setCell]; exact f0, by rw [World.frozen?_setCell]; exact (World.frozen?_of_block (a := ⟨P, 1, none⟩) eP).trans h.z1, ?_, ?_, ?_⟩
  · refine own_kept h.of fun b e hb => ?_
    rw [Below.heap_setCell w2 ⟨P, 0, none⟩ v0' b fun e' => h.ab.2.1 (by rw [e]; exact congrArg some e'.symm)]
    exact b2 b hb fun e' => h.ab.2.2 b e'.symm e
  · intro b k1 k2 k3
    rw [Below.heap_setCell w2 ⟨P, 0, none⟩ v0' b k2]
    exact b2 b k1 k3
  · intro b k1 k2
    rw [Below.heap_setCell w2 ⟨P, 0, none⟩ v0' b (by show b ≠ P; omega)]
    exact hg.block b k1 fun e => by have := (h.outer.lt b e.symm).2; omega

theorem fin_more {v0' v1' vr : Value} {W3 V3 w4 : World} (h : FinIn B X P n w t v0 v1 rb cp) (hX : ∀ b, X b → b < w.heap.size) (hf : t.cls t.R.length = t.R.length) (hB : Below w.heap.size w V1) (hg : V1.grownBy w2 v0.ownBlock)
    (hrow : V1.ownsRow w.heap.size 3 1 vr (2 * n) (List.replicate (2 * n) (.int .i64 (-1)))) (hr0 : n = 0 → vr = .slice none 0 0)
    (hown : w2.ownsRow B 27 1 v0' (t.R.length + 1) (((List.range t.R.length).map fun k => rowV n (rb k) (cp k)) ++ [vr])) (hl : v0'.ownBlock = v0.ownBlock ∨ v0'.ownBlock = some V1.heap.size)
    (hW3 : w2.setCell ⟨P, 0, none⟩ v0' = W3) (hB3 : Below W3.heap.size W3 V3) (hg4 : V3.grownBy w4 v1.ownBlock)
    (hown4 : w4.ownsRow B 3 1 v1' (t.R.length + 1) (((List.range t.R.length).map fun i => .int .i64 (t.cls i : Int)) ++ [.int .i64 (t.R.length : Int)])) (hl4 : v1'.ownBlock = v1.ownBlock ∨ v1'.ownBlock = some V3.heap.size) :
    (w4.cell? ⟨P, 1, none⟩ = some v1 ∧ w4.frozen? ⟨P, 1, none⟩ = false) ∧ (w4.setCell ⟨P, 1, none⟩ v1').cell? ⟨P, 0, none⟩ = some v0' ∧ FinAt B X P n (w4.setCell ⟨P, 1, none⟩ v1') ⟨t.R ++ [newRow n], t.cls⟩ ∧ Kp B X w (w4.setCell ⟨P, 1, none⟩ v1') := by
  obtain ⟨-, m1, m2, m3, m4, m5, m6, m7, m8⟩ := fin_mid h hB hg v0'
  rw [hW3] at m1 m2 m3 m4 m5 m6 m7 m8
  have hP : P < w.heap.size := cell_lt h.p0
  have hVs := hB.size
  have hgs := hg.size
  have h3s : W3.heap.size = w2.heap.size := by rw [← hW3]; simp
  have h3V := hB3.size
  have h4s := hg4.size
  have hxn : ∀ b, w.heap.size ≤ b → ¬ X b := fun b hb hx => by have := hX b hx; omega
  have hBw : B ≤ w.heap.size := by have := h.own.1; omega
  have hv0 := h.outer.lt
  have hv1 := h.of.lt
  -- blocks behind the second append
  have b4 : ∀ b, b < W3.heap.size → some b ≠ v1.ownBlock → b ≠ P → (w4.setCell ⟨P, 1, none⟩ v1').heap[b]? = W3.heap[b]? := fun b k1 k2 k3 => by
    rw [Below.heap_setCell w4 ⟨P, 1, none⟩ v1' b k3]
    exact (hg4.block b (by omega) k2).trans (hB3.block b k1)
  have eP : w4.heap[P]? = W3.heap[P]? := (hg4.block P (by omega) h.ab.2.1).trans (hB3.block P (by omega))
  have c1 : w4.cell? ⟨P, 1, none⟩ = some v1 := (World.cell?_of_block (a := ⟨P, 1, none⟩) eP).trans m2
  have f1 : w4.frozen? ⟨P, 1, none⟩ = false := (World.frozen?_of_block (a := ⟨P, 1, none⟩) eP).trans m5
  have s1 : ∀ k, k ≠ 1 → (w4.setCell ⟨P, 1, none⟩ v1').cell? ⟨P, k, none⟩ = w4.cell? ⟨P, k, none⟩ := fun k hk => by
    apply World.cell?_setCell_other
    intro e
    exact hk (Addr.mk.inj e).2.1.symm
  have q0 : (w4.setCell ⟨P, 1, none⟩ v1').cell? ⟨P, 0, none⟩ = some v0' := (s1 0 (by decide)).trans ((World.cell?_of_block (a := ⟨P, 0, none⟩) eP).trans m1)
  -- where the new blocks lie
  have n0 : ∀ b, v0'.ownBlock = some b → v0.ownBlock = some b ∨ b = V1.heap.size := fun b e => by
    rcases hl with k | k
    · exact .inl (k.symm.trans e)
    · exact .inr (Option.some.inj (e.symm.trans k))
  have n1 : ∀ b, v1'.ownBlock = some b → v1.ownBlock = some b ∨ b = V3.heap.size := fun b e => by
    rcases hl4 with k | k
    · exact .inl (k.symm.trans e)
    · exact .inr (Option.some.inj (e.symm.trans k))
  have l0 : ∀ b, v0'.ownBlock = some b → b < W3.heap.size := fun b e => by rw [h3s]; exact (hown.lt b e).2
  -- the new row
  obtain ⟨gr, cr, hvr, hgr, hlr⟩ : ∃ gr cr, vr = rowV n gr cr ∧ (0 < n → w.heap.size ≤ gr ∧ gr < V1.heap.size) ∧ (0 < n → LeastRow V1 gr (2 * n) cr (fun _ => -1)) := by
    rcases Nat.eq_zero_or_pos n with hn | hn
    · exact ⟨0, 0, by rw [hr0 hn]; exact (if_pos hn).symm, fun h => by omega, fun h => by omega⟩
    · obtain ⟨gr, cr, e, -⟩ := hrow.form (by omega)
      subst e
      have hls : List.replicate (2 * n) (Value.int .i64 (-1)) = (List.range (2 * n)).map fun _ => Value.int .i64 (-1) := by
        rw [List.map_const', List.length_range]
      rw [hls] at hrow
      exact ⟨gr, cr, (rowV_pos hn).symm, fun _ => hrow.lt gr rfl, fun _ => (own_least hrow).1⟩
  subst hvr
  have hlen : (Cos.R ⟨t.R ++ [newRow n], t.cls⟩).length = t.R.length + 1 := by show (t.R ++ [newRow n]).length = _; simp
  refine ⟨⟨c1, f1⟩, q0, ⟨v0', v1', fun k => if k = t.R.length then gr else rb k, fun k => if k = t.R.length then cr else cp k, ?_⟩, ?_⟩
  · refine ⟨q0, World.cell?_setCell_same' w4 _ v1' (by rw [c1]; rfl), (s1 2 (by decide)).trans ((World.cell?_of_block (a := ⟨P, 2, none⟩) eP).trans m3), ?_, ?_, ?_, ?_, ?_, ?_, ?_, ?_, ?_, ?_, wide_app h.wide⟩
    · rw [World.frozen?_setCell]; exact (World.frozen?_of_block (a := ⟨P, 0, none⟩) eP).trans m4
    · rw [World.frozen?_setCell]; exact f1
    · rw [hlen, ← range_more t.R.length (fun k => rowV n (rb k) (cp k)) _ (rowV n gr cr) (fun k hk => by simp only [if_neg (show k ≠ t.R.length by omega)]) (by simp only [if_true])]
      refine own_kept (W := W3) ?_ fun b e hb => b4 b hb (fun e' => ?_) fun e' => ?_
      · rw [← hW3]
        refine own_kept hown fun b e hb => Below.heap_setCell w2 ⟨P, 0, none⟩ v0' b fun e' => ?_
        rcases n0 b e with k | k
        · exact h.ab.1 (by rw [k]; exact congrArg some e'.symm)
        · have : b = P := e'; omega
      · rcases n0 b e with k | k
        · exact h.ab.2.2 b k e'.symm
        · have := (hv1 b e'.symm).2; omega
      · rcases n0 b e with k | k
        · exact h.ab.1 (by rw [k]; exact congrArg some e'.symm)
        · omega
    · intro hn k hk
      rw [hlen] at hk
      by_cases e : k = t.R.length
      · subst e
        simp only [if_true]
        have k1 := hgr hn
        refine ((hlr hn).of_block ((b4 gr (by omega) (fun e => by have := (hv1 gr e.symm).2; omega) (by omega)).trans (m8 gr k1.2 k1.1))).congr fun x hx => ?_
        show -1 = ent (t.R ++ [newRow n]) t.R.length x
        rw [ent_app, if_neg (by omega), if_pos rfl, ent_new]
      · simp only [if_neg e]
        have k1 : k < t.R.length := by omega
        have k2 := (h.inner hn k k1).lt
        have k3 := h.rg hn k k1
        refine ((h.inner hn k k1).of_block ((b4 _ (by omega) k3.2.1 k3.2.2).trans (m7 _ k2 k3.2.2 k3.1))).congr fun x hx => ?_
        show ent t.R k x = ent (t.R ++ [newRow n]) k x
        rw [ent_app, if_pos k1]
    · rw [hlen, ← range_more t.R.length (fun i => Value.int .i64 (t.cls i : Int)) _ (.int .i64 (t.R.length : Int)) (fun k hk => rfl) (by show Value.int .i64 (t.cls t.R.length : Int) = _; rw [hf])]
      refine own_kept hown4 fun b e hb => Below.heap_setCell w4 ⟨P, 1, none⟩ v1' b fun e' => ?_
      rcases n1 b e with k | k
      · exact h.ab.2.1 (by rw [k]; exact congrArg some e'.symm)
      · have : b = P := e'; omega
    · intro hn j k hj hk e
      rw [hlen] at hj hk
      have k1 := hgr hn
      by_cases e1 : j = t.R.length
      · by_cases e2 : k = t.R.length
        · omega
        · simp only [if_pos e1, if_neg e2] at e
          have := (h.inner hn k (by omega)).lt; omega
      · by_cases e2 : k = t.R.length
        · simp only [if_neg e1, if_pos e2] at e
          have := (h.inner hn j (by omega)).lt; omega
        · simp only [if_neg e1, if_neg e2] at e
          exact h.inj hn j k (by omega) (by omega) e
    · refine ⟨fun e => ?_, fun e => ?_, fun b e e' => ?_⟩
      · rcases n0 P e.symm with k | k
        · exact h.ab.1 k.symm
        · omega
      · rcases n1 P e.symm with k | k
        · exact h.ab.2.1 k.symm
        · omega
      · have l := l0 b e
        rcases n1 b e' with k | k
        · rcases n0 b e with k' | k'
          · exact h.ab.2.2 b k' k
          · have := (hv1 b k).2; omega
        · omega
    · intro hn k hk
      rw [hlen] at hk
      by_cases e : k = t.R.length
      · simp only [if_pos e]
        have k1 := hgr hn
        refine ⟨fun e' => ?_, fun e' => ?_, by omega⟩
        · rcases n0 gr e'.symm with k | k
          · have := (hv0 gr k).2; omega
          · omega
        · rcases n1 gr e'.symm with k | k
          · have := (hv1 gr k).2; omega
          · omega
      · simp only [if_neg e]
        have k1 := h.rg hn k (by omega)
        have k2 := (h.inner hn k (by omega)).lt
        refine ⟨fun e' => ?_, fun e' => ?_, k1.2.2⟩
        · rcases n0 _ e'.symm with k | k
          · exact k1.1 k.symm
          · omega
        · rcases n1 _ e'.symm with k | k
          · exact k1.2.1 k.symm
          · omega
    · refine ⟨h.own.1, fun hn k hk => ?_⟩
      rw [hlen] at hk
      by_cases e : k = t.R.length
      · simp only [if_pos e]; have := hgr hn; omega
      · simp only [if_neg e]; exact h.own.2 hn k (by omega)
    · refine ⟨h.notX.1, fun b e => ?_, fun b e => ?_, fun hn k hk => ?_⟩
      · rcases n0 b e with k | k
        · exact h.notX.2.1 b k
        · exact hxn b (by omega)
      · rcases n1 b e with k | k
        · exact h.notX.2.2.1 b k
        · exact hxn b (by omega)
      · rw [hlen] at hk
        by_cases e : k = t.R.length
        · simp only [if_pos e]; exact hxn gr (hgr hn).1
        · simp only [if_neg e]; exact h.notX.2.2.2 hn k (by omega)
  · refine ⟨(hg4.os.trans hB3.os).trans (by rw [← hW3]; exact hg.os.trans hB.os), (hg4.tape.trans hB3.tape).trans (by rw [← hW3]; exact hg.tape.trans hB.tape), (hg4.output.trans hB3.output).trans (by rw [← hW3]; exact hg.output.trans hB.output), by simp; omega, fun b hb hx => ?_⟩
    have a1 : b ≠ P := fun e => by
      subst e
      rcases hx with hx | hx
      · have := h.own.1; omega
      · exact h.notX.1 hx
    have a2 : some b ≠ v0.ownBlock := fun e => by
      rcases hx with hx | hx
      · have := (hv0 b e.symm).1; omega
      · exact h.notX.2.1 b e.symm hx
    have a3 : some b ≠ v1.ownBlock := fun e => by
      rcases hx with hx | hx
      · have := (hv1 b e.symm).1; omega
      · exact h.notX.2.2.1 b e.symm hx
    exact (b4 b (by omega) a3 a1).trans (m7 b hb a1 a2)
end

end Go.Proofs.YthcgabghkbgccaaDoor
