/- What glue does: two sides of one word, arrows on each other. -/
import Derived.Test.YtkaplnjknobdpaaDoorSurfEdges2
namespace Go.Proofs.YtkaplnjknobdpaaDoor
open Go.RowKit Go.Sort

/-- A later world, but for the blocks of S. -/
structure KeepS (S : Nat → Prop) (W0 W : World) : Prop where
  os : W.os = W0.os
  tape : W.tape = W0.tape
  output : W.output = W0.output
  size : W0.heap.size ≤ W.heap.size
  block : ∀ b, b < W0.heap.size → ¬ S b → W.heap[b]? = W0.heap[b]?
theorem KeepS.refl (S : Nat → Prop) (W : World) : KeepS S W W := ⟨rfl, rfl, rfl, Nat.le_refl _, fun _ _ _ => rfl⟩
theorem KeepS.but {S : Nat → Prop} {W0 W W' : World} {g : Nat} (h : KeepS S W0 W) (hg : KeepBut W W' g g) (hs : S g) : KeepS S W0 W' :=
  ⟨hg.os.trans h.os, hg.tape.trans h.tape, hg.output.trans h.output, Nat.le_trans h.size hg.size, fun b hb hn => (hg.block b (Nat.lt_of_lt_of_le hb h.size) (fun e => hn (by rw [e]; exact hs)) (fun e => hn (by rw [e]; exact hs))).trans (h.block b hb hn)⟩
theorem KeepS.below {S : Nat → Prop} {W0 W W' : World} (h : KeepS S W0 W) (hB : Below W.heap.size W W') : KeepS S W0 W' :=
  ⟨hB.os.trans h.os, hB.tape.trans h.tape, hB.output.trans h.output, Nat.le_trans h.size hB.size, fun b hb hn => (hB.block b (Nat.lt_of_lt_of_le hb h.size)).trans (h.block b hb hn)⟩
theorem KeepS.trans {S : Nat → Prop} {W0 W W' : World} (h : KeepS S W0 W) (h2 : KeepS S W W') : KeepS S W0 W' :=
  ⟨h2.os.trans h.os, h2.tape.trans h.tape, h2.output.trans h.output, Nat.le_trans h.size h2.size, fun b hb hn => (h2.block b (Nat.lt_of_lt_of_le hb h.size) hn).trans (h.block b hb hn)⟩
theorem KeepS.cell {S : Nat → Prop} {W0 W : World} (h : KeepS S W0 W) {p : Addr} (hp : p.block < W0.heap.size) (hn : ¬ S p.block) : W.cell? p = W0.cell? p := World.cell?_of_block (h.block p.block hp hn)
theorem ClsAt.but {W W' : World} {g g' n : Nat} {cls : Nat → Nat} (h : ClsAt W g n cls) (hk : KeepBut W W' g' g') (hne : g ≠ g') : ClsAt W' g n cls := h.of_block (hk.block g h.lt hne hne)
theorem ClsAt.below {W W' : World} {g n : Nat} {cls : Nat → Nat} (h : ClsAt W g n cls) (hB : Below W.heap.size W W') : ClsAt W' g n cls := h.of_block (hB.block g h.lt)

/-- The four rows of classes, in blocks of their own. -/
structure Four (W : World) (gw gf gc gr n : Nat) (cw cf cc cr : Nat → Nat) : Prop where
  words : ClsAt W gw 1 cw
  faces : ClsAt W gf 2 cf
  corners : ClsAt W gc n cc
  rims : ClsAt W gr n cr
theorem Four.below {W W' : World} {gw gf gc gr n : Nat} {cw cf cc cr : Nat → Nat} (h : Four W gw gf gc gr n cw cf cc cr) (hB : Below W.heap.size W W') : Four W' gw gf gc gr n cw cf cc cr := ⟨h.words.below hB, h.faces.below hB, h.corners.below hB, h.rims.below hB⟩

def fourS (gw gf gc gr : Nat) (b : Nat) : Prop := b = gw ∨ b = gf ∨ b = gc ∨ b = gr
theorem boxes3 (w : World) (L0 L1 L2 : List Value) (t0 t1 t2 : TypeId) :
    (∀ j u, L0[j]? = some u → (((w.alloc (.cells L0.toArray t0)).alloc (.cells L1.toArray t1)).alloc (.cells L2.toArray t2)).cell? ⟨w.heap.size, j, none⟩ = some u) ∧ (∀ j u, L1[j]? = some u → (((w.alloc (.cells L0.toArray t0)).alloc (.cells L1.toArray t1)).alloc (.cells L2.toArray t2)).cell? ⟨w.heap.size + 1, j, none⟩ = some u) ∧ (∀ j u, L2[j]? = some u → (((w.alloc (.cells L0.toArray t0)).alloc (.cells L1.toArray t1)).alloc (.cells L2.toArray t2)).cell? ⟨w.heap.size + 1 + 1, j, none⟩ = some u) := by
  refine ⟨fun j u hu => ?_, fun j u hu => ?_, fun j u hu => ?_⟩
  · have h := cells_new w L0 t0 j u hu
    rw [Addr.add_lit, Nat.zero_add] at h
    exact ((World.cell?_alloc_lt _ _ ⟨w.heap.size, j, none⟩ (by simp; omega)).trans (World.cell?_alloc_lt _ _ ⟨w.heap.size, j, none⟩ (by simp))).trans h
  · have h := cells_new (w.alloc (.cells L0.toArray t0)) L1 t1 j u hu
    rw [Addr.add_lit, Nat.zero_add, World.size_alloc] at h
    exact (World.cell?_alloc_lt _ _ ⟨w.heap.size + 1, j, none⟩ (by simp)).trans h
  · have h := cells_new ((w.alloc (.cells L0.toArray t0)).alloc (.cells L1.toArray t1)) L2 t2 j u hu
    rw [Addr.add_lit, Nat.zero_add, World.size_alloc, World.size_alloc] at h
    exact h

/-- What lies in the boxes of glue. -/
structure GlueBox (W : World) (p ge E gw gf gc gr n : Nat) (la lb : Int) (fa ta fb tb : Nat) : Prop where
  p1 : W.cell? ⟨p, 1, none⟩ = some (.slice (some ⟨gw, 0, none⟩) 1 1)
  p2 : W.cell? ⟨p, 2, none⟩ = some (.slice (some ⟨gf, 0, none⟩) 2 2)
  p3 : W.cell? ⟨p, 3, none⟩ = some (.slice (some ⟨gc, 0, none⟩) n n)
  p4 : W.cell? ⟨p, 4, none⟩ = some (.slice (some ⟨gr, 0, none⟩) n n)
  a0 : W.cell? ⟨p + 1, 0, none⟩ = some (.int .i64 la)
  a1 : W.cell? ⟨p + 1, 1, none⟩ = some (.int .i64 0)
  a2 : W.cell? ⟨p + 1, 2, none⟩ = some (.int .i64 (fa : Int))
  a3 : W.cell? ⟨p + 1, 3, none⟩ = some (.int .i64 (ta : Int))
  b0 : W.cell? ⟨p + 1 + 1, 0, none⟩ = some (.int .i64 lb)
  b1 : W.cell? ⟨p + 1 + 1, 1, none⟩ = some (.int .i64 0)
  b2 : W.cell? ⟨p + 1 + 1, 2, none⟩ = some (.int .i64 (fb : Int))
  b3 : W.cell? ⟨p + 1 + 1, 3, none⟩ = some (.int .i64 (tb : Int))
theorem GlueBox.keep {S : Nat → Prop} {W W' : World} {p ge E gw gf gc gr n : Nat} {la lb : Int} {fa ta fb tb : Nat} (h : GlueBox W p ge E gw gf gc gr n la lb fa ta fb tb) (hk : KeepS S W W') (h0 : ¬ S p) (h1 : ¬ S (p + 1)) (h2 : ¬ S (p + 1 + 1)) : GlueBox W' p ge E gw gf gc gr n la lb fa ta fb tb :=
  ⟨(hk.cell (cell_lt h.p1) h0).trans h.p1, (hk.cell (cell_lt h.p2) h0).trans h.p2, (hk.cell (cell_lt h.p3) h0).trans h.p3, (hk.cell (cell_lt h.p4) h0).trans h.p4,
   (hk.cell (cell_lt h.a0) h1).trans h.a0, (hk.cell (cell_lt h.a1) h1).trans h.a1, (hk.cell (cell_lt h.a2) h1).trans h.a2, (hk.cell (cell_lt h.a3) h1).trans h.a3,
   (hk.cell (cell_lt h.b0) h2).trans h.b0, (hk.cell (cell_lt h.b1) h2).trans h.b1, (hk.cell (cell_lt h.b2) h2).trans h.b2, (hk.cell (cell_lt h.b3) h2).trans h.b3⟩

/-- A plan's value. -/
def planV (ge E gw gf gc gr n : Nat) : Value := .agg #[.slice (some ⟨ge, 0, none⟩) E 61, .slice (some ⟨gw, 0, none⟩) 1 1, .slice (some ⟨gf, 0, none⟩) 2 2, .slice (some ⟨gc, 0, none⟩) n n, .slice (some ⟨gr, 0, none⟩) n n]
def sideV (l : Int) (f t : Nat) : Value := .agg #[.int .i64 l, .int .i64 0, .int .i64 (f : Int), .int .i64 (t : Int)]

set_option maxRecDepth 100000 in
set_option maxHeartbeats 4000000 in
theorem glue_ {cw cf cc cr : Nat → Nat} (ge E gw gf gc gr n : Nat) (la lb : Int) (fa ta fb tb : Nat) (w : World) (h : Four w gw gf gc gr n cw cf cc cr) (hne : gw ≠ gf ∧ gw ≠ gc ∧ gw ≠ gr ∧ gf ≠ gc ∧ gf ≠ gr ∧ gc ≠ gr) (hn : n ≤ 1000) (hb : fa < n ∧ ta < n ∧ fb < n ∧ tb < n) :
    Calls Tryd.prog 36 #[planV ge E gw gf gc gr n, sideV la fa ta, sideV lb fb tb] w fun e w' => e = .returned (.tuple #[]) ∧
      Four w' gw gf gc gr n (joinC cw (0, 0)) (joinC (joinC cf (0, if la = lb then 1 else 0)) (1, if la = lb then 0 else 1)) (joinC (joinC cc (fa, fb)) (ta, tb)) (joinC (joinC cr (fa, fb)) (ta, tb)) ∧ KeepS (fourS gw gf gc gr) w w' := by
  have HF : Hid (Four w gw gf gc gr n cw cf cc cr) := h
  have HNE : Hid (gw ≠ gf ∧ gw ≠ gc ∧ gw ≠ gr ∧ gf ≠ gc ∧ gf ≠ gr ∧ gc ≠ gr) := hne
  have hlt : gw < w.heap.size ∧ gf < w.heap.size ∧ gc < w.heap.size ∧ gr < w.heap.size := ⟨h.words.lt, h.faces.lt, h.corners.lt, h.rims.lt⟩
  have HLT := Hid.mk' hlt
  have q0 := boxes3 w [.slice (some ⟨ge, 0, none⟩) E 61, .slice (some ⟨gw, 0, none⟩) 1 1, .slice (some ⟨gf, 0, none⟩) 2 2, .slice (some ⟨gc, 0, none⟩) n n, .slice (some ⟨gr, 0, none⟩) n n] [.int .i64 la, .int .i64 0, .int .i64 (fa : Int), .int .i64 (ta : Int)] [.int .i64 lb, .int .i64 0, .int .i64 (fb : Int), .int .i64 (tb : Int)] 65 90 90
  unfold planV sideV
  clear h hne hlt
  go_enter Tryd.func36, Tryd.ntmps36
  go_upto_region 1 with fail
  have hBx : Below w.heap.size w (((w.alloc (.cells #[.slice (some ⟨ge, 0, none⟩) E 61, .slice (some ⟨gw, 0, none⟩) 1 1, .slice (some ⟨gf, 0, none⟩) 2 2, .slice (some ⟨gc, 0, none⟩) n n, .slice (some ⟨gr, 0, none⟩) n n] 65)).alloc (.cells #[.int .i64 la, .int .i64 0, .int .i64 (fa : Int), .int .i64 (ta : Int)] 90)).alloc (.cells #[.int .i64 lb, .int .i64 0, .int .i64 (fb : Int), .int .i64 (tb : Int)] 90)) := (((Below.refl _ w).alloc (Nat.le_refl _) _).alloc (by simp) _).alloc (by simp; omega) _
  obtain ⟨X, hX⟩ : ∃ X, ((w.alloc (.cells #[.slice (some ⟨ge, 0, none⟩) E 61, .slice (some ⟨gw, 0, none⟩) 1 1, .slice (some ⟨gf, 0, none⟩) 2 2, .slice (some ⟨gc, 0, none⟩) n n, .slice (some ⟨gr, 0, none⟩) n n] 65)).alloc (.cells #[.int .i64 la, .int .i64 0, .int .i64 (fa : Int), .int .i64 (ta : Int)] 90)).alloc (.cells #[.int .i64 lb, .int .i64 0, .int .i64 (fb : Int), .int .i64 (tb : Int)] 90) = X := ⟨_, rfl⟩
  obtain ⟨p, hp⟩ : ∃ p, w.heap.size = p := ⟨_, rfl⟩
  have HG : Hid (GlueBox X p ge E gw gf gc gr n la lb fa ta fb tb) := by
    rw [← hX, ← hp]
    exact ⟨q0.1 1 _ rfl, q0.1 2 _ rfl, q0.1 3 _ rfl, q0.1 4 _ rfl, q0.2.1 0 _ rfl, q0.2.1 1 _ rfl, q0.2.1 2 _ rfl, q0.2.1 3 _ rfl, q0.2.2 0 _ rfl, q0.2.2 1 _ rfl, q0.2.2 2 _ rfl, q0.2.2 3 _ rfl⟩
  rw [hX] at hBx ⊢
  rw [hp]
  have HB : Hid (Below w.heap.size w X) := hBx
  have HS : Hid (¬ fourS gw gf gc gr p ∧ ¬ fourS gw gf gc gr (p + 1) ∧ ¬ fourS gw gf gc gr (p + 1 + 1)) := by
    have := HLT.out
    show ¬ fourS gw gf gc gr p ∧ ¬ fourS gw gf gc gr (p + 1) ∧ ¬ fourS gw gf gc gr (p + 1 + 1)
    unfold fourS
    omega
  have HX : Hid (Four X gw gf gc gr n cw cf cc cr) := HF.out.below hBx
  have hj1 := join_ gw 1 1 0 0 X HX.out.words (by omega) (by omega) (by omega)
  rw [show ((0 : Nat) : Int) = 0 from rfl] at hj1
  clear hX hp q0 hBx HF
  obtain ⟨p1, p2, p3, p4, a0, a1, a2, a3, b0, b1, b2, b3⟩ := HG.out
  go_upto_region 2 with (go_at_call 37; refine hj1.mono ?_; rintro e V1 ⟨rfl, hc1, hk1⟩; clear hj1)
  have HK1 : Hid (KeepS (fourS gw gf gc gr) X V1) := (KeepS.refl _ X).but hk1 (.inl rfl)
  have HF1 : Hid (Four V1 gw gf gc gr n (joinC cw (0, 0)) cf cc cr) := ⟨hc1, HX.out.faces.but hk1 HNE.out.1.symm, HX.out.corners.but hk1 HNE.out.2.1.symm, HX.out.rims.but hk1 HNE.out.2.2.1.symm⟩
  have HG1 : Hid (GlueBox V1 p ge E gw gf gc gr n la lb fa ta fb tb) := HG.out.keep HK1.out HS.out.1 HS.out.2.1 HS.out.2.2
  clear p1 p2 p3 p4 a0 a1 a2 a3 b0 b1 b2 b3 hc1 hk1 HG HX
  obtain ⟨p1, p2, p3, p4, a0, a1, a2, a3, b0, b1, b2, b3⟩ := HG1.out
  go_upto_region 3 with fail
  have hB2 : Below V1.heap.size V1 (V1.alloc (.cells #[.slice (some ⟨gc, 0, none⟩) n n, .slice (some ⟨gr, 0, none⟩) n n] 63)) := (Below.refl _ V1).alloc (Nat.le_refl _) _
  have q2 := cells_new V1 [.slice (some ⟨gc, 0, none⟩) n n, .slice (some ⟨gr, 0, none⟩) n n] 63
  obtain ⟨X2, hX2⟩ : ∃ X2, V1.alloc (.cells #[.slice (some ⟨gc, 0, none⟩) n n, .slice (some ⟨gr, 0, none⟩) n n] 63) = X2 := ⟨_, rfl⟩
  obtain ⟨q, hq⟩ : ∃ q, V1.heap.size = q := ⟨_, rfl⟩
  have d : ∀ j u, [Value.slice (some ⟨gc, 0, none⟩) n n, .slice (some ⟨gr, 0, none⟩) n n][j]? = some u → X2.cell? ⟨q, j, none⟩ = some u := fun j u hu => by
    have := q2 j u hu
    rw [Addr.add_lit, Nat.zero_add] at this
    rw [← hX2, ← hq]
    exact this
  rw [hX2] at hB2 ⊢
  have HSq : Hid (¬ fourS gw gf gc gr q) := by
    have h1 := HLT.out
    have h2 := HB.out.size
    have h3 := HK1.out.size
    show ¬ fourS gw gf gc gr q
    unfold fourS
    omega
  rw [hq]
  have HF2 := Hid.mk' (HF1.out.below hB2)
  have HK2 := Hid.mk' (HK1.out.below hB2)
  have HG2 : Hid (GlueBox X2 p ge E gw gf gc gr n la lb fa ta fb tb) := HG1.out.keep ((KeepS.refl (fourS gw gf gc gr) V1).below hB2) HS.out.1 HS.out.2.1 HS.out.2.2
  have HD : Hid (X2.cell? ⟨q, 0, none⟩ = some (.slice (some ⟨gc, 0, none⟩) n n) ∧ X2.cell? ⟨q, 1, none⟩ = some (.slice (some ⟨gr, 0, none⟩) n n)) := ⟨d 0 _ rfl, d 1 _ rfl⟩
  clear p1 p2 p3 p4 a0 a1 a2 a3 b0 b1 b2 b3 hX2 hq q2 d hB2 HF1 HG1
  go_loopw [22] (fun x W => ∃ j : Nat, j ≤ 2 ∧ x = .int .i64 j ∧ Hid (KeepS (fourS gw gf gc gr) X2 W ∧ Four W gw gf gc gr n (joinC cw (0, 0)) cf (if 1 ≤ j then joinC (joinC cc (fa, fb)) (ta, tb) else cc) (if 2 ≤ j then joinC (joinC cr (fa, fb)) (ta, tb) else cr))) (fun x _ => 2 - (intOf x).toNat)
  case atStart => exact ⟨0, by omega, rfl, KeepS.refl _ _, HF2.out⟩
  case round =>
    obtain ⟨j, hj, rfl, HJ⟩ := hrel
    obtain ⟨p1, p2, p3, p4, a0, a1, a2, a3, b0, b1, b2, b3⟩ := HG2.out.keep HJ.out.1 HS.out.1 HS.out.2.1 HS.out.2.2
    have d0 := (HJ.out.1.cell (p := ⟨q, 0, none⟩) (cell_lt HD.out.1) HSq.out).trans HD.out.1
    have d1 := (HJ.out.1.cell (p := ⟨q, 1, none⟩) (cell_lt HD.out.2) HSq.out).trans HD.out.2
    obtain rfl | rfl | rfl : j = 0 ∨ j = 1 ∨ j = 2 := by omega
    · have hjA := join_ gc n n fa fb wr HJ.out.2.corners hb.1 hb.2.2.1 hn
      go_upto_region 6 with (go_at_call 37; refine hjA.mono ?_; rintro e V2 ⟨rfl, hc2, hk2⟩; clear hjA)
      have hjB := join_ gc n n ta tb V2 hc2 hb.2.1 hb.2.2.2 hn
      have HK3 : Hid (KeepS (fourS gw gf gc gr) X2 V2) := HJ.out.1.but hk2 (.inr (.inr (.inl rfl)))
      clear p1 p2 p3 p4 a0 a1 a2 a3 b0 b1 b2 b3 d0 d1
      obtain ⟨p1, p2, p3, p4, a0, a1, a2, a3, b0, b1, b2, b3⟩ := HG2.out.keep HK3.out HS.out.1 HS.out.2.1 HS.out.2.2
      have HC2 := Hid.mk' hc2
      have HKK := Hid.mk' hk2
      clear hc2 hk2
      go_wp2_with (first
        | (go_at_call 37; refine hjB.mono ?_; rintro e V3 ⟨rfl, hc3, hk3⟩; clear hjB)
        | fail)
      go_roundw
      case rel =>
        have hw := HJ.out.2
        refine ⟨1, by omega, by go_num, HK3.out.but hk3 (.inr (.inr (.inl rfl))), ⟨(hw.words.but HKK.out HNE.out.2.1).but hk3 HNE.out.2.1, (hw.faces.but HKK.out HNE.out.2.2.2.1).but hk3 HNE.out.2.2.2.1, by rw [if_pos (by omega)]; exact hc3, ?_⟩⟩
        have := (hw.rims.but HKK.out HNE.out.2.2.2.2.2.symm).but hk3 HNE.out.2.2.2.2.2.symm
        rw [if_neg (by omega)] at this ⊢
        exact this
      case measure => simp [intOf]
    · have hjA := join_ gr n n fa fb wr HJ.out.2.rims hb.1 hb.2.2.1 hn
      rw [if_neg (by omega)] at hjA
      go_upto_region 6 with (go_at_call 37; refine hjA.mono ?_; rintro e V2 ⟨rfl, hc2, hk2⟩; clear hjA)
      have hjB := join_ gr n n ta tb V2 hc2 hb.2.1 hb.2.2.2 hn
      have HK3 : Hid (KeepS (fourS gw gf gc gr) X2 V2) := HJ.out.1.but hk2 (.inr (.inr (.inr rfl)))
      clear p1 p2 p3 p4 a0 a1 a2 a3 b0 b1 b2 b3 d0 d1
      obtain ⟨p1, p2, p3, p4, a0, a1, a2, a3, b0, b1, b2, b3⟩ := HG2.out.keep HK3.out HS.out.1 HS.out.2.1 HS.out.2.2
      have HC2 := Hid.mk' hc2
      have HKK := Hid.mk' hk2
      clear hc2 hk2
      go_wp2_with (first
        | (go_at_call 37; refine hjB.mono ?_; rintro e V3 ⟨rfl, hc3, hk3⟩; clear hjB)
        | fail)
      go_roundw
      case rel =>
        have hw := HJ.out.2
        refine ⟨2, by omega, by go_num, HK3.out.but hk3 (.inr (.inr (.inr rfl))), ⟨(hw.words.but HKK.out HNE.out.2.2.1).but hk3 HNE.out.2.2.1, (hw.faces.but HKK.out HNE.out.2.2.2.2.1).but hk3 HNE.out.2.2.2.2.1, ?_, by rw [if_pos (by omega)]; exact hc3⟩⟩
        have := (hw.corners.but HKK.out HNE.out.2.2.2.2.2).but hk3 HNE.out.2.2.2.2.2
        rw [if_pos (by omega)] at this ⊢
        exact this
      case measure => simp [intOf]
    · have HJ2 := HJ.out.2
      rw [if_pos (by omega), if_pos (by omega)] at HJ2
      have HJF : Hid (Four wr gw gf gc gr n (joinC cw (0, 0)) cf (joinC (joinC cc (fa, fb)) (ta, tb)) (joinC (joinC cr (fa, fb)) (ta, tb))) := HJ2
      have HEND : ∀ V T1 T2, KeepS (fourS gw gf gc gr) wr V → ClsAt V gf 2 (joinC (joinC cf (0, T1)) (1, T2)) → (∀ g, g ≠ gf → g < wr.heap.size → V.heap[g]? = wr.heap[g]?) → Four V gw gf gc gr n (joinC cw (0, 0)) (joinC (joinC cf (0, T1)) (1, T2)) (joinC (joinC cc (fa, fb)) (ta, tb)) (joinC (joinC cr (fa, fb)) (ta, tb)) ∧ KeepS (fourS gw gf gc gr) w V := fun V T1 T2 hk hc hg => by
        refine ⟨⟨HJF.out.words.of_block (hg _ HNE.out.1 HJF.out.words.lt), hc, HJF.out.corners.of_block (hg _ HNE.out.2.2.2.1.symm HJF.out.corners.lt), HJF.out.rims.of_block (hg _ HNE.out.2.2.2.2.1.symm HJF.out.rims.lt)⟩, ?_⟩
        exact (((KeepS.refl _ w).below HB.out).trans HK2.out).trans (HJ.out.1.trans hk)
      have HEND := Hid.mk' HEND
      clear HJ2
      by_cases hll : la = lb
      · subst hll
        have hjA := join_ gf 2 2 0 1 wr HJF.out.faces (by omega) (by omega) (by omega)
        rw [show ((0 : Nat) : Int) = 0 from rfl, show ((1 : Nat) : Int) = 1 from rfl] at hjA
        go_upto_region 12 with (go_at_call 37; refine hjA.mono ?_; rintro e V2 ⟨rfl, hc2, hk2⟩; clear hjA)
        have hjB := join_ gf 2 2 1 0 V2 hc2 (by omega) (by omega) (by omega)
        rw [show ((0 : Nat) : Int) = 0 from rfl, show ((1 : Nat) : Int) = 1 from rfl] at hjB
        have HK3 : Hid (KeepS (fourS gw gf gc gr) wr V2) := (KeepS.refl _ _).but hk2 (.inr (.inl rfl))
        have HK4 : Hid (KeepS (fourS gw gf gc gr) X2 V2) := HJ.out.1.trans HK3.out
        clear p1 p2 p3 p4 a0 a1 a2 a3 b0 b1 b2 b3 d0 d1
        obtain ⟨p1, p2, p3, p4, a0, a1, a2, a3, b0, b1, b2, b3⟩ := HG2.out.keep HK4.out HS.out.1 HS.out.2.1 HS.out.2.2
        have HKK := Hid.mk' hk2
        clear hc2 hk2
        go_wp2_with (first
          | (go_at_call 37; refine hjB.mono ?_; rintro e V3 ⟨rfl, hc3, hk3⟩; clear hjB)
          | fail)
        refine bodyPost_end (v := .tuple #[]) ?_ rfl ⟨rfl, HEND.out V3 1 0 (HK3.out.but hk3 (.inr (.inl rfl))) hc3 (fun g hg hl => (hk3.block g (Nat.lt_of_lt_of_le hl HKK.out.size) hg hg).trans (HKK.out.block g hl hg hg))⟩
        simp [results, Tryd.f36, go_sem]
      · have hbf : (la == lb) = false := beq_false_of_ne hll
        have hjA := join_ gf 2 2 0 0 wr HJF.out.faces (by omega) (by omega) (by omega)
        rw [show ((0 : Nat) : Int) = 0 from rfl] at hjA
        go_upto_region 12 with (go_at_call 37; refine hjA.mono ?_; rintro e V2 ⟨rfl, hc2, hk2⟩; clear hjA)
        have hjB := join_ gf 2 2 1 1 V2 hc2 (by omega) (by omega) (by omega)
        rw [show ((1 : Nat) : Int) = 1 from rfl] at hjB
        have HK3 : Hid (KeepS (fourS gw gf gc gr) wr V2) := (KeepS.refl _ _).but hk2 (.inr (.inl rfl))
        have HK4 : Hid (KeepS (fourS gw gf gc gr) X2 V2) := HJ.out.1.trans HK3.out
        clear p1 p2 p3 p4 a0 a1 a2 a3 b0 b1 b2 b3 d0 d1
        obtain ⟨p1, p2, p3, p4, a0, a1, a2, a3, b0, b1, b2, b3⟩ := HG2.out.keep HK4.out HS.out.1 HS.out.2.1 HS.out.2.2
        have HKK := Hid.mk' hk2
        clear hc2 hk2
        go_wp2_with (first
          | (go_at_call 37; refine hjB.mono ?_; rintro e V3 ⟨rfl, hc3, hk3⟩; clear hjB)
          | fail)
        refine bodyPost_end (v := .tuple #[]) ?_ rfl ⟨rfl, HEND.out V3 0 1 (HK3.out.but hk3 (.inr (.inl rfl))) hc3 (fun g hg hl => (hk3.block g (Nat.lt_of_lt_of_le hl HKK.out.size) hg hg).trans (HKK.out.block g hl hg hg))⟩
        simp [results, Tryd.f36, go_sem]

end Go.Proofs.YtkaplnjknobdpaaDoor
