/- The walk of squareSides. -/
import Derived.Test.YtbmojlnkjeapkaaGreatDoorCubeSides
namespace Go.Proofs.YtbmojlnkjeapkaaGreatDoor
open Go.RowKit Go.Sort Go.Maps

set_option maxRecDepth 100000 in
set_option maxHeartbeats 4000000 in
theorem sides_ (b1 b2 : Nat) (v : Value) (E : List (Sq × Sq)) (S : List Sq) (w : World) (h2 : MapIx w 96 b2 (E.map keyD)) (hS : SqIn (fun _ => True) w v S) (hE : E.Nodup)
    (hEs : ∀ e ∈ E, Small e.1 ∧ Small e.2) (hSs : ∀ s ∈ S, (-1000 ≤ s.1 ∧ s.1 ≤ 1000) ∧ (-1000 ≤ s.2 ∧ s.2 ≤ 1000)) (hSE : ∀ s ∈ S, (s, (s.1 + 1, s.2)) ∈ E ∧ ((s.1 + 1, s.2), (s.1 + 1, s.2 + 1)) ∈ E ∧ ((s.1, s.2 + 1), (s.1 + 1, s.2 + 1)) ∈ E ∧ (s, (s.1, s.2 + 1)) ∈ E) (hEl : E.length ≤ 2000) (hSl : S.length ≤ 2000) :
    Calls Tryz.prog 31 #[.agg #[.map (some b1), .map (some b2), v]] w fun e w' => ∃ g, e = .returned (matV g E.length S.length) ∧ w.heap.size ≤ g ∧ g < w'.heap.size ∧ w'.rowIs g 3 (E.length * S.length) (fun j => .int .i64 (sideF E S S.length j)) ∧ Below w.heap.size w w' := by
  have hz := fun V => zeros_ E.length S.length hEl hSl V
  obtain ⟨aS, cS, rfl, hcell⟩ := hS
  obtain ⟨D2, hD2, hD2h, hD2s, hD2v⟩ := h2
  rw [List.length_map] at hD2s
  have hb2 := hD2.lt
  have HX : Hid (E.Nodup ∧ (∀ e ∈ E, Small e.1 ∧ Small e.2) ∧ (∀ s ∈ S, (-1000 ≤ s.1 ∧ s.1 ≤ 1000) ∧ (-1000 ≤ s.2 ∧ s.2 ≤ 1000)) ∧ ∀ s ∈ S, (s, (s.1 + 1, s.2)) ∈ E ∧ ((s.1 + 1, s.2), (s.1 + 1, s.2 + 1)) ∈ E ∧ ((s.1, s.2 + 1), (s.1 + 1, s.2 + 1)) ∈ E ∧ (s, (s.1, s.2 + 1)) ∈ E) := ⟨hE, hEs, hSs, hSE⟩
  have HV2 : Hid ((∀ x : List UInt8, Maps.has D2 (.string x) = true ↔ Lit.string x ∈ E.map keyD) ∧ (∀ (k : Nat) (x : List UInt8), (E.map keyD)[k]? = some (.string x) → D2.atKey (.string x) (.lit (.int .i64 0)) = .lit (.int .i64 (k : Int)))) := ⟨hD2h, hD2v⟩
  have HCL : Hid (0 < S.length → ∃ g, aS = some ⟨g, 0, none⟩ ∧ True ∧ g < w.heap.size ∧ ∀ k (hk : k < S.length), w.cell? ⟨g, k * 2, none⟩ = some (.int .i64 S[k].1) ∧ w.cell? ⟨g, k * 2 + 1, none⟩ = some (.int .i64 S[k].2)) := hcell
  clear hD2h hD2v hE hEs hSs hSE hcell
  unfold matV at hz
  go_enter Tryz.func31, Tryz.ntmps31
  go_upto_region 1 with fail
  have q : ∀ j u, [Value.map (some b1), .map (some b2), .slice aS S.length cS][j]? = some u → ((w.alloc (.cells #[.map (some b1), .map (some b2), .slice aS S.length cS] 56)).alloc (.cells #[.int .i64 0, .int .i64 0, .slice none 0 0] 42)).cell? ⟨w.heap.size, j, none⟩ = some u := fun j u hu => by
    have := cells_new w [.map (some b1), .map (some b2), .slice aS S.length cS] 56 j u hu
    rw [Addr.add_lit, Nat.zero_add] at this
    exact (World.cell?_alloc_lt _ _ ⟨w.heap.size, j, none⟩ (by simp)).trans this
  have z : ∀ j u, [Value.int .i64 0, .int .i64 0, .slice none 0 0][j]? = some u → ((w.alloc (.cells #[.map (some b1), .map (some b2), .slice aS S.length cS] 56)).alloc (.cells #[.int .i64 0, .int .i64 0, .slice none 0 0] 42)).cell? ⟨w.heap.size + 1, j, none⟩ = some u := fun j u hu => by
    have := cells_new (w.alloc (.cells #[.map (some b1), .map (some b2), .slice aS S.length cS] 56)) [.int .i64 0, .int .i64 0, .slice none 0 0] 42 j u hu
    rw [Addr.add_lit, Nat.zero_add, World.size_alloc] at this
    exact this
  have zf : ∀ j, ((w.alloc (.cells #[.map (some b1), .map (some b2), .slice aS S.length cS] 56)).alloc (.cells #[.int .i64 0, .int .i64 0, .slice none 0 0] 42)).frozen? ⟨w.heap.size + 1, j, none⟩ = false := fun j => by
    have := frozen_new (w.alloc (.cells #[.map (some b1), .map (some b2), .slice aS S.length cS] 56)) #[.int .i64 0, .int .i64 0, .slice none 0 0] 42 j
    rw [World.size_alloc] at this
    exact this
  have hB1 : Below w.heap.size w ((w.alloc (.cells #[.map (some b1), .map (some b2), .slice aS S.length cS] 56)).alloc (.cells #[.int .i64 0, .int .i64 0, .slice none 0 0] 42)) := ((Below.refl _ w).alloc (Nat.le_refl _) _).alloc (by simp) _
  obtain ⟨W1, hW1⟩ : ∃ W1, (w.alloc (.cells #[.map (some b1), .map (some b2), .slice aS S.length cS] 56)).alloc (.cells #[.int .i64 0, .int .i64 0, .slice none 0 0] 42) = W1 := ⟨_, rfl⟩
  obtain ⟨pb, hpb⟩ : ∃ pb, w.heap.size = pb := ⟨_, rfl⟩
  have hsz1 : pb + 2 ≤ W1.heap.size := by rw [← hW1, ← hpb]; simp
  have hD2' : W1.ownsMap Tryz.prog 96 (plainElem Tryz.prog 3) b2 (E.map keyD).length D2 := by rw [← hW1]; exact (hD2.alloc _).alloc _
  have q1 := q 1 _ rfl
  have q2 := q 2 _ rfl
  have HZ : Hid ((W1.cell? ⟨pb + 1, 0, none⟩ = some (.int .i64 0) ∧ W1.cell? ⟨pb + 1, 1, none⟩ = some (.int .i64 0) ∧ W1.cell? ⟨pb + 1, 2, none⟩ = some (.slice none 0 0)) ∧ ∀ j, W1.frozen? ⟨pb + 1, j, none⟩ = false) := by
    rw [← hW1, ← hpb]
    exact ⟨⟨z 0 _ rfl, z 1 _ rfl, z 2 _ rfl⟩, zf⟩
  rw [hpb] at hb2
  rw [hW1, hpb] at q1 q2 hB1
  rw [hW1, hpb]
  have HPB : Hid (w.heap.size = pb) := hpb
  clear q z zf hW1 hD2 hpb
  go_wp2_with (first
    | (at_len; refine wpList_len_own _ rfl (.tmp 10) 53 rfl 96 3 Tryz.underlying53 _ b2 _ D2 rfl hD2' ?_; rw [hD2s])
    | (go_at_call 29; refine (hz _).mono ?_; rintro e w2 ⟨g, rfl, hg1, hg2, hrow, hB2⟩; have q2' := (hB2.cell (p := ⟨pb, 2, none⟩) (by simp only; omega)).trans q2; have q2a : ∀ o, (w2.alloc o).cell? ⟨pb, 2, none⟩ = some (.slice aS S.length cS) := (fun o => (World.cell?_alloc_lt w2 o ⟨pb, 2, none⟩ (by have := hB2.size; simp only; omega)).trans q2'))
    | fail)
  have hsw := hB2.size
  obtain ⟨mb, hmb⟩ : ∃ mb, w2.heap.size = mb := ⟨_, rfl⟩
  obtain ⟨w0, hw0⟩ : ∃ w0, w2.alloc (.cells #[.int .i64 (E.length : Int), .int .i64 (S.length : Int), .slice (some ⟨g, 0, none⟩) (E.length * S.length) (E.length * S.length)] 42) = w0 := ⟨_, rfl⟩
  have mq : ∀ j u, [Value.int .i64 (E.length : Int), .int .i64 (S.length : Int), .slice (some ⟨g, 0, none⟩) (E.length * S.length) (E.length * S.length)][j]? = some u → w0.cell? ⟨mb, j, none⟩ = some u := fun j u hu => by
    have h3 := cells_new w2 [.int .i64 (E.length : Int), .int .i64 (S.length : Int), .slice (some ⟨g, 0, none⟩) (E.length * S.length) (E.length * S.length)] 42 j u hu
    rw [Addr.add_lit, Nat.zero_add, hmb] at h3
    rw [← hw0]
    exact h3
  have hrow0 : w0.rowIs g 3 (E.length * S.length) (fun _ => .int .i64 0) := by rw [← hw0]; exact hrow.alloc _
  have hold : ∀ b, b < w2.heap.size → w0.heap[b]? = w2.heap[b]? := fun b hb => by rw [← hw0]; exact Below.heap_alloc w2 _ b hb
  have hold1 : ∀ b, b < W1.heap.size → w0.heap[b]? = W1.heap[b]? := fun b hb => (hold b (by omega)).trans (hB2.block b hb)
  have n1 := mq 1 _ rfl
  have n2 := mq 2 _ rfl
  have n0 := mq 0 _ rfl
  have hp1 : w0.cell? ⟨pb, 1, none⟩ = some (.map (some b2)) := (World.cell?_of_block (hold1 pb (by omega))).trans q1
  have hD2w : w0.ownsMap Tryz.prog 96 (plainElem Tryz.prog 3) b2 (E.map keyD).length D2 := by rw [← hw0]; exact ((hD2'.kept (Below.grownBy hB2) (by simp)).alloc _)
  have hsz0 : w0.heap.size = mb + 1 := by rw [← hw0, ← hmb]; simp
  have HR0 : Hid (Below pb w w0 ∧ (w0.cell? ⟨pb + 1, 0, none⟩ = some (.int .i64 0) ∧ w0.cell? ⟨pb + 1, 1, none⟩ = some (.int .i64 0) ∧ w0.cell? ⟨pb + 1, 2, none⟩ = some (.slice none 0 0)) ∧ ∀ j, w0.frozen? ⟨pb + 1, j, none⟩ = false) := by
    refine ⟨⟨?_, ?_, ?_, ?_, fun b hb => ?_⟩, ⟨?_, ?_, ?_⟩, fun j => ?_⟩
    · rw [← hw0]; exact hB2.os.trans hB1.os
    · rw [← hw0]; exact hB2.tape.trans hB1.tape
    · rw [← hw0]; exact hB2.output.trans hB1.output
    · have := hB1.size; omega
    · exact (hold1 b (by omega)).trans (hB1.block b hb)
    · exact (World.cell?_of_block (hold1 (pb + 1) (by omega))).trans HZ.out.1.1
    · exact (World.cell?_of_block (hold1 (pb + 1) (by omega))).trans HZ.out.1.2.1
    · exact (World.cell?_of_block (hold1 (pb + 1) (by omega))).trans HZ.out.1.2.2
    · exact (World.frozen?_of_block (hold1 (pb + 1) (by omega))).trans (HZ.out.2 j)
  have hgm : g < mb := by omega
  have hgp : pb + 2 ≤ g := by omega
  obtain ⟨N, hN⟩ : ∃ N, E.length * S.length = N := ⟨_, rfl⟩
  have HNN : Hid (E.length * S.length = N) := hN
  have hNl : N ≤ 4000000 := by rw [← hN]; exact Nat.mul_le_mul hEl hSl
  rw [hw0, hmb]
  rw [hN] at hrow0 n2
  rw [hN]
  have HE0 : Hid (w0.rowIs g 3 N (fun j => .int .i64 (sideF E S 0 j))) := by
    refine hrow0.congr (fun j hj => ?_)
    unfold sideF
    rw [if_neg (by omega)]
  have hml : mb < w0.heap.size := by omega
  clear hN hrow0 hw0 mq hold hold1 hmb q2' q2a hrow hB2 hD2' q1 q2 hsz0 hg2 hz
  go_loopw [19] (fun p W => ∃ k : Nat, k ≤ S.length ∧ p = .int .i64 (k : Int) ∧ Hid (W.rowIs g 3 N (fun j => .int .i64 (sideF E S k j))) ∧ Hid (KeepBut w0 W g g)) (fun p _ => S.length - (intOf p).toNat)
  case atStart => exact ⟨0, by omega, rfl, HE0.out, KeepBut.refl _ _ _⟩
  case round =>
    obtain ⟨k, hk, rfl, HRW, HKB⟩ := hrel
    clear HE0
    have hwz := HKB.out.size
    by_cases hlt : k < S.length
    · obtain ⟨gs, rfl, -, hgs, hcells⟩ := HCL.out (by omega)
      have HSM : Hid (S[k] ∈ S) := List.getElem_mem hlt
      have HSK : Hid (S[k]? = some S[k]) := List.getElem?_eq_getElem hlt
      obtain ⟨sq, hsq⟩ : ∃ sq, S[k] = sq := ⟨_, rfl⟩
      have hc := hcells k hlt
      have hgsw : gs < w0.heap.size := by have := HR0.out.1.size; have := HPB.out; omega
      have c0 := (HKB.out.cell (p := ⟨gs, k * 2, none⟩) hgsw (by have := HPB.out; simp only; omega) (by have := HPB.out; simp only; omega)).trans ((HR0.out.1.cell (p := ⟨gs, k * 2, none⟩) (by have := HPB.out; simp only; omega)).trans hc.1)
      have c1 := (HKB.out.cell (p := ⟨gs, k * 2 + 1, none⟩) hgsw (by have := HPB.out; simp only; omega) (by have := HPB.out; simp only; omega)).trans ((HR0.out.1.cell (p := ⟨gs, k * 2 + 1, none⟩) (by have := HPB.out; simp only; omega)).trans hc.2)
      rw [hsq] at HSM HSK c0 c1
      obtain ⟨x, y⟩ := sq
      simp only at c0 c1
      have HSB := HX.out.2.2.1 _ HSM.out
      have hx := HSB.1
      have hy := HSB.2
      simp only at hx hy
      have hplus : ∀ (dx dy : Int) (V : World), (-1 ≤ dx ∧ dx ≤ 1) → (-1 ≤ dy ∧ dy ≤ 1) → Calls Tryz.prog 45 #[cornerV (x, y), .int .i64 dx, .int .i64 dy] V fun e w' => e = .returned (cornerV (x + dx, y + dy)) ∧ Below V.heap.size V w' := fun dx dy V h1 h2 => plus_ x y dx dy (by omega) (by omega) h1 h2 V
      unfold cornerV at hplus
      have HSBB : Hid ((-1000 ≤ x ∧ x ≤ 1000) ∧ (-1000 ≤ y ∧ y ≤ 1000)) := ⟨hx, hy⟩
      clear hcells hc hsq HSB
      go_wp2_with fail
      obtain ⟨X, hX⟩ : ∃ X, wr.alloc (.cells #[.int .i64 x, .int .i64 y] 59) = X := ⟨_, rfl⟩
      obtain ⟨B, hB⟩ : ∃ B, wr.heap.size = B := ⟨_, rfl⟩
      have e0 : X.cell? ⟨B, 0, none⟩ = some (.int .i64 x) := by
        have := cells_new wr [.int .i64 x, .int .i64 y] 59 0 _ rfl
        rw [Addr.add_lit, Nat.zero_add, hB] at this
        rw [← hX]; exact this
      have e1 : X.cell? ⟨B, 1, none⟩ = some (.int .i64 y) := by
        have := cells_new wr [.int .i64 x, .int .i64 y] 59 1 _ rfl
        rw [Addr.add_lit, Nat.zero_add, hB] at this
        rw [← hX]; exact this
      have hBX : X.heap.size = B + 1 := by rw [← hX, World.size_alloc, hB]
      have hgX : wr.grownBy X none := by rw [← hX]; exact World.grownBy_alloc wr _ none
      have hBl : w0.heap.size ≤ B := by omega
      rw [hX, hB]
      refine three_region (B := B) (x := x) (y := y) (by rfl) (by kernel_rfl) (by kernel_rfl) (by rfl) (by rfl) (by omega) e0 e1 hx hy ?_
      intro p6 p7 p8 W5 hW5 l6 l7 l8 f60 f61 f70 f71 f80 f81
      unfold cornerV
      have hne : mb ≠ g ∧ pb ≠ g ∧ B ≠ g ∧ p6 ≠ g ∧ p7 ≠ g ∧ p8 ≠ g ∧ b2 ≠ g := by refine ⟨?_, ?_, ?_, ?_, ?_, ?_, ?_⟩ <;> omega
      have hk5 : KeepBut w0 W5 g g := (HKB.out.on hgX (fun b hb => by cases hb)).on (Below.grownBy hW5) (fun b hb => by cases hb)
      have S0 : Hid (SidesAt w0 g N mb pb B p6 p7 p8 b2 (E.map keyD).length S.length D2 x y W5 (fun j => sideF E S k j)) := by
        refine ⟨?_, hk5, ?_, ?_, ?_, ?_, (hW5.cell (p := ⟨B, 0, none⟩) (by simp only; omega)).trans e0, (hW5.cell (p := ⟨B, 1, none⟩) (by simp only; omega)).trans e1, f60, f61, f70, f71, f80, f81⟩
        · exact (HRW.out.of_block (hgX.block g (by omega) (by simp))).of_block (hW5.block g (by omega))
        · exact own_block hD2w (hk5.block b2 (by omega) (by omega) (by omega))
        · exact (hk5.cell (p := ⟨mb, 1, none⟩) (by simp only; omega) (by simp only; omega) (by simp only; omega)).trans n1
        · exact (hk5.cell (p := ⟨mb, 2, none⟩) (by simp only; omega) (by simp only; omega) (by simp only; omega)).trans n2
        · exact (hk5.cell (p := ⟨pb, 1, none⟩) (by simp only; omega) (by simp only; omega) (by simp only; omega)).trans hp1
      have HIN := HX.out.2.2.2 _ HSM.out
      simp only at HIN
      obtain ⟨i1, hi1⟩ := List.mem_iff_getElem?.1 HIN.1
      obtain ⟨i2, hi2⟩ := List.mem_iff_getElem?.1 HIN.2.1
      obtain ⟨i3, hi3⟩ := List.mem_iff_getElem?.1 HIN.2.2.1
      obtain ⟨i4, hi4⟩ := List.mem_iff_getElem?.1 HIN.2.2.2
      have HEE1 := HX.out.2.1 _ HIN.1
      have HEE2 := HX.out.2.1 _ HIN.2.1
      have HEE3 := HX.out.2.1 _ HIN.2.2.1
      have HEE4 := HX.out.2.1 _ HIN.2.2.2
      have hin : ∀ i e, E[i]? = some e → ∃ mm, i * S.length = mm ∧ mm + k < N ∧ IntKind.i64.wrap ((i : Int) * (S.length : Int)) = (mm : Int) ∧ IntKind.i64.wrap ((mm : Int) + (k : Int)) = ((mm + k : Nat) : Int) := fun i e he => by
        have hil : i < E.length := (List.getElem?_eq_some_iff.1 he).1
        have hmN : i * S.length + k < N := by
          rw [← HNN.out]
          have := Nat.mul_le_mul_right S.length (show i + 1 ≤ E.length from hil)
          rw [Nat.succ_mul] at this; omega
        refine ⟨i * S.length, rfl, hmN, ?_, ?_⟩
        · rw [← Int.natCast_mul]; exact wrapI (by omega) (by omega)
        · rw [← Int.natCast_add]; exact wrapI (by omega) (by omega)
      obtain ⟨m1, hm1, hmN1, V1⟩ := hin i1 _ hi1
      have V1 := Hid.mk' V1
      obtain ⟨m2, hm2, hmN2, V2⟩ := hin i2 _ hi2
      have V2 := Hid.mk' V2
      obtain ⟨m3, hm3, hmN3, V3⟩ := hin i3 _ hi3
      have V3 := Hid.mk' V3
      obtain ⟨m4, hm4, hmN4, V4⟩ := hin i4 _ hi4
      have V4 := Hid.mk' V4
      have HM : Hid ((i1 * S.length = m1 ∧ i2 * S.length = m2) ∧ i3 * S.length = m3 ∧ i4 * S.length = m4) := ⟨⟨hm1, hm2⟩, hm3, hm4⟩
      have HII : Hid ((E[i1]? = some ((x, y), (x + 1, y)) ∧ E[i2]? = some ((x + 1, y), (x + 1, y + 1))) ∧ E[i3]? = some ((x, y + 1), (x + 1, y + 1)) ∧ E[i4]? = some ((x, y), (x, y + 1))) := ⟨⟨hi1, hi2⟩, hi3, hi4⟩
      have HLU : Hid (∀ W : World, W.ownsMap Tryz.prog 96 (plainElem Tryz.prog 3) b2 (E.map keyD).length D2 → ((Instr.lookup 53 (.map (some b2)) (.agg #[.int .i64 x, .int .i64 y, .int .i64 (x + 1), .int .i64 y]) false).run Tryz.prog W = .ok (.int .i64 (i1 : Int)) W ∧ (Instr.lookup 53 (.map (some b2)) (.agg #[.int .i64 (x + 1), .int .i64 y, .int .i64 (x + 1), .int .i64 (y + 1)]) false).run Tryz.prog W = .ok (.int .i64 (i2 : Int)) W) ∧
          (Instr.lookup 53 (.map (some b2)) (.agg #[.int .i64 x, .int .i64 (y + 1), .int .i64 (x + 1), .int .i64 (y + 1)]) false).run Tryz.prog W = .ok (.int .i64 (i3 : Int)) W ∧ (Instr.lookup 53 (.map (some b2)) (.agg #[.int .i64 x, .int .i64 y, .int .i64 x, .int .i64 (y + 1)]) false).run Tryz.prog W = .ok (.int .i64 (i4 : Int)) W) := fun W hW =>
        ⟨⟨look_e hW HV2.out.2 HEE1.1 HEE1.2 hi1, look_e hW HV2.out.2 HEE2.1 HEE2.2 hi2⟩, look_e hW HV2.out.2 HEE3.1 HEE3.2 hi3, look_e hW HV2.out.2 HEE4.1 HEE4.2 hi4⟩
      have HBE : Hid (wr.heap.size = B) := hB
      have HNE : Hid (mb ≠ g ∧ pb ≠ g ∧ B ≠ g ∧ p6 ≠ g ∧ p7 ≠ g ∧ p8 ≠ g ∧ b2 ≠ g) := hne
      clear hin hm1 hm2 hm3 hm4 hB hX hne hk5 hW5 f60 f61 f70 f71 f80 f81 e0 e1 hgX hwz hBX hBl l6 l7 l8 n0 n1 n2 hp1 c0 c1 hplus hi1 hi2 hi3 hi4
      go_upto_region 6 with fail
      go_frame
      go_cut [] from 30 to 43 (fun wx => Hid (SidesAt w0 g N mb pb B p6 p7 p8 b2 (E.map keyD).length S.length D2 x y wx (fun j => if j = m1 + k then 1 else sideF E S k j)))
      case first =>
        go_wp2_with fail
        have lu := (HLU.out _ S0.out.map.drew |>.1.1)
        obtain ⟨v, v'⟩ := V1.out
        obtain ⟨q, R1⟩ : ∃ q : Int, _ = some (Value.int .i64 q) := ⟨_, S0.out.row.cell hmN1⟩
        have F1 := S0.out.row.frozen (m1 + k)
        have k1 := S0.out.cols
        have k2 := S0.out.data
        have k3 := S0.out.edges
        have za0 := S0.out.a0
        have za1 := S0.out.a1
        have zr0 := S0.out.r0
        have zr1 := S0.out.r1
        go_big_region
        all_goals go_wp2_with fail
        all_goals go_meet
        all_goals exact S0.out.set HNE.out (m1 + k) (1)
      have S1 := hcut
      clear hcut S0
      obtain ⟨Y1, hY1⟩ : ∃ Y, Y = wc := ⟨_, rfl⟩
      subst hY1
      go_upto_region 7 with fail
      go_cut [] from 44 to 57 (fun wx => Hid (SidesAt w0 g N mb pb B p6 p7 p8 b2 (E.map keyD).length S.length D2 x y wx (fun j => if j = m2 + k then 1 else if j = m1 + k then 1 else sideF E S k j)))
      case first =>
        go_wp2_with fail
        have lu := (HLU.out _ S1.out.map.drew |>.1.2)
        obtain ⟨v, v'⟩ := V2.out
        obtain ⟨q, R1⟩ : ∃ q : Int, _ = some (Value.int .i64 q) := ⟨_, S1.out.row.cell hmN2⟩
        have F1 := S1.out.row.frozen (m2 + k)
        have k1 := S1.out.cols
        have k2 := S1.out.data
        have k3 := S1.out.edges
        have zr0 := S1.out.r0
        have zr1 := S1.out.r1
        have zc0 := S1.out.c0
        have zc1 := S1.out.c1
        go_big_region
        all_goals go_wp2_with fail
        all_goals go_meet
        all_goals exact S1.out.set HNE.out (m2 + k) (1)
      have S2 := hcut
      clear hcut S1
      obtain ⟨Y2, hY2⟩ : ∃ Y, Y = wc := ⟨_, rfl⟩
      subst hY2
      go_upto_region 8 with fail
      go_cut [] from 58 to 71 (fun wx => Hid (SidesAt w0 g N mb pb B p6 p7 p8 b2 (E.map keyD).length S.length D2 x y wx (fun j => if j = m3 + k then -1 else if j = m2 + k then 1 else if j = m1 + k then 1 else sideF E S k j)))
      case first =>
        go_wp2_with fail
        have lu := (HLU.out _ S2.out.map.drew |>.2.1)
        obtain ⟨v, v'⟩ := V3.out
        obtain ⟨q, R1⟩ : ∃ q : Int, _ = some (Value.int .i64 q) := ⟨_, S2.out.row.cell hmN3⟩
        have F1 := S2.out.row.frozen (m3 + k)
        have k1 := S2.out.cols
        have k2 := S2.out.data
        have k3 := S2.out.edges
        have zd0 := S2.out.d0
        have zd1 := S2.out.d1
        have zc0 := S2.out.c0
        have zc1 := S2.out.c1
        go_big_region
        all_goals go_wp2_with fail
        all_goals go_meet
        all_goals exact S2.out.set HNE.out (m3 + k) (-1)
      have S3 := hcut
      clear hcut S2
      obtain ⟨Y3, hY3⟩ : ∃ Y, Y = wc := ⟨_, rfl⟩
      subst hY3
      go_upto_region 9 with fail
      go_wp2_with fail
      have lu := (HLU.out _ S3.out.map.drew |>.2.2)
      obtain ⟨v, v'⟩ := V4.out
      obtain ⟨q, R1⟩ : ∃ q : Int, _ = some (Value.int .i64 q) := ⟨_, S3.out.row.cell hmN4⟩
      have F1 := S3.out.row.frozen (m4 + k)
      have k1 := S3.out.cols
      have k2 := S3.out.data
      have k3 := S3.out.edges
      have za0 := S3.out.a0
      have za1 := S3.out.a1
      have zd0 := S3.out.d0
      have zd1 := S3.out.d1
      go_big_region
      all_goals go_wp2_with fail
      have S4 := Hid.mk' (S3.out.set HNE.out (m4 + k) (-1))
      go_roundw
      case rel =>
        refine ⟨k + 1, by omega, by go_num, ?_, S4.out.keep⟩
        refine S4.out.row.congr (fun j hj => ?_)
        have h1 := side_step HX.out.1 HSK.out HII.out.1.1 HII.out.1.2 HII.out.2.1 HII.out.2.2 j (by rw [HNN.out]; exact hj)
        rw [HM.out.1.1, HM.out.1.2, HM.out.2.1, HM.out.2.2] at h1
        rw [← h1]
      case measure => simp [intOf]; omega
    · obtain rfl : k = S.length := by omega
      have x0 := (HKB.out.cell (p := ⟨pb + 1, 0, none⟩) (by simp only; omega) (by simp only; omega) (by simp only; omega)).trans HR0.out.2.1.1
      have x1 := (HKB.out.cell (p := ⟨pb + 1, 1, none⟩) (by simp only; omega) (by simp only; omega) (by simp only; omega)).trans HR0.out.2.1.2.1
      have x2 := (HKB.out.cell (p := ⟨pb + 1, 2, none⟩) (by simp only; omega) (by simp only; omega) (by simp only; omega)).trans HR0.out.2.1.2.2
      have y0 := (HKB.out.frozen (p := ⟨pb + 1, 0, none⟩) (by simp only; omega) (by simp only; omega) (by simp only; omega)).trans (HR0.out.2.2 0)
      have y1 := (HKB.out.frozen (p := ⟨pb + 1, 1, none⟩) (by simp only; omega) (by simp only; omega) (by simp only; omega)).trans (HR0.out.2.2 1)
      have y2 := (HKB.out.frozen (p := ⟨pb + 1, 2, none⟩) (by simp only; omega) (by simp only; omega) (by simp only; omega)).trans (HR0.out.2.2 2)
      have o0 := (HKB.out.cell (p := ⟨mb, 0, none⟩) (by simp only; omega) (by simp only; omega) (by simp only; omega)).trans n0
      have o1 := (HKB.out.cell (p := ⟨mb, 1, none⟩) (by simp only; omega) (by simp only; omega) (by simp only; omega)).trans n1
      have o2 := (HKB.out.cell (p := ⟨mb, 2, none⟩) (by simp only; omega) (by simp only; omega) (by simp only; omega)).trans n2
      go_wp2_with fail
      have t0 : (wr.setCell ⟨pb + 1, 0, none⟩ (.int .i64 (E.length : Int))).cell? ⟨pb + 1, 0, none⟩ = some (.int .i64 (E.length : Int)) := World.cell?_setCell_same' _ _ _ (by rw [x0]; rfl)
      have t1 : ((wr.setCell ⟨pb + 1, 0, none⟩ (.int .i64 (E.length : Int))).setCell ⟨pb + 1, 1, none⟩ (.int .i64 (S.length : Int))).cell? ⟨pb + 1, 1, none⟩ = some (.int .i64 (S.length : Int)) := World.cell?_setCell_same' _ _ _ (by rw [World.cell?_setCell_other _ _ _ _ (by simp), x1]; rfl)
      have t2 : (((wr.setCell ⟨pb + 1, 0, none⟩ (.int .i64 (E.length : Int))).setCell ⟨pb + 1, 1, none⟩ (.int .i64 (S.length : Int))).setCell ⟨pb + 1, 2, none⟩ (.slice (some ⟨g, 0, none⟩) N N)).cell? ⟨pb + 1, 2, none⟩ = some (.slice (some ⟨g, 0, none⟩) N N) := World.cell?_setCell_same' _ _ _ (by rw [World.cell?_setCell_other _ _ _ _ (by simp), World.cell?_setCell_other _ _ _ _ (by simp), x2]; rfl)
      refine bodyPost_ret (v := .agg #[.int .i64 (E.length : Int), .int .i64 (S.length : Int), .slice (some ⟨g, 0, none⟩) N N]) ?_ rfl ⟨g, by unfold matV; rw [HNN.out], ?_, ?_, ?_, ?_⟩
      · simp [results, Tryz.f31, go_sem, t0, t1, t2]
      · rw [HPB.out]; omega
      · simp; omega
      · rw [HNN.out]
        exact ((HRW.out.setOther (by simp; omega) _).setOther (by simp; omega) _).setOther (by simp; omega) _
      · rw [HPB.out]
        have hB : Below pb w wr := by
          refine ⟨HKB.out.os.trans HR0.out.1.os, HKB.out.tape.trans HR0.out.1.tape, HKB.out.output.trans HR0.out.1.output, Nat.le_trans HR0.out.1.size HKB.out.size, fun b hb => (HKB.out.block b ?_ ?_ ?_).trans (HR0.out.1.block b hb)⟩
          all_goals omega
        exact ((hB.setCell (p := ⟨pb + 1, 0, none⟩) (by simp) _).setCell (p := ⟨pb + 1, 1, none⟩) (by simp) _).setCell (p := ⟨pb + 1, 2, none⟩) (by simp) _

end Go.Proofs.YtbmojlnkjeapkaaGreatDoor
