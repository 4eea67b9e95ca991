/- What eulers answers, of one good word: vertices less edges and the polygon. -/
import Derived.Test.YtkaplnjknobdpaaDoorSurfGlued
namespace Go.Proofs.YtkaplnjknobdpaaDoor
open Go.RowKit Go.Sort

/-- How many of the first m corners are the least of their class. -/
def leastN (cls : Nat → Nat) (m : Nat) : Nat := ((List.range m).filter fun k => decide (cls k = k)).length
theorem leastN_yes {cls : Nat → Nat} {m : Nat} (h : cls m = m) : leastN cls (m + 1) = leastN cls m + 1 := by unfold leastN; rw [List.range_succ, List.filter_append]; simp [h]
theorem leastN_no {cls : Nat → Nat} {m : Nat} (h : cls m ≠ m) : leastN cls (m + 1) = leastN cls m := by unfold leastN; rw [List.range_succ, List.filter_append]; simp [h]
theorem leastN_le (cls : Nat → Nat) (m : Nat) : leastN cls m ≤ m := by
  unfold leastN
  refine Nat.le_trans (List.length_filter_le _ _) ?_
  rw [List.length_range]; exact Nat.le_refl _

theorem keepBut_drew {W0 W : World} {r g : Nat} (h : KeepBut W0 W r g) : KeepBut W0 W.drew r g := ⟨h.os, h.tape, h.output, h.size, h.block⟩

theorem boxes2 (w : World) (L0 : List Value) (t0 t : TypeId) (z : Value) (m : Nat) :
    (∀ j u, L0[j]? = some u → ((w.alloc (.cells L0.toArray t0)).alloc (.cells (madeCells #[z] m) t)).cell? ⟨w.heap.size, j, none⟩ = some u) ∧ ((w.alloc (.cells L0.toArray t0)).alloc (.cells (madeCells #[z] m) t)).rowIs (w.heap.size + 1) t m (fun _ => z) := by
  refine ⟨fun j u hu => ?_, ?_⟩
  · have h := cells_new w L0 t0 j u hu
    rw [Addr.add_lit, Nat.zero_add] at h
    exact (World.cell?_alloc_lt _ _ ⟨w.heap.size, j, none⟩ (by simp)).trans h
  · have h := World.rowIs_made (w.alloc (.cells L0.toArray t0)) z m t
    rw [World.size_alloc] at h
    exact h

set_option maxRecDepth 100000 in
set_option maxHeartbeats 4000000 in
theorem eulers_ {ws : List Int} {S : Nat → Prop} {cw cf cc cr : Nat → Nat} (ge gw gf gc gr : Nat) (v : Value) (w : World) (h : Rows w v [ws]) (hok : WordOk ws) (hF : Four w gw gf gc gr ws.length cw cf cc cr) (hE : EdgesIn S w ge ws) (hS : ∀ b, S b → b < w.heap.size) :
    Calls Tryd.prog 22 #[planV ge (namesI ws).length gw gf gc gr ws.length, v] w fun e w' => ∃ go, e = .returned (.slice (some ⟨go, 0, none⟩) 1 1) ∧ w'.cell? ⟨go, 0, none⟩ = some (.int .i64 (1 + (leastN cc ws.length : Int) - ((namesI ws).length : Int))) ∧ Below w.heap.size w w' := by
  obtain ⟨g, o, cap, a, c, rfl, hc, -⟩ := one_word h
  obtain ⟨n, hn⟩ : ∃ n, ws.length = n := ⟨_, rfl⟩
  obtain ⟨E, hEn⟩ : ∃ E, (namesI ws).length = E := ⟨_, rfl⟩
  have hn1 : n ≤ 120 := by rw [← hn]; exact hok.few
  have hE1 : E ≤ 61 := by
    rw [← hEn]
    unfold namesI kpS
    refine Nat.le_trans (List.length_filter_le _ _) ?_
    rw [List.length_range]; exact Nat.le_refl _
  have HE : Hid (EdgesIn S w ge ws ∧ (∀ b, S b → b < w.heap.size) ∧ (namesI ws).length = E) := ⟨hE, hS, hEn⟩
  rw [hn] at hF hc ⊢
  rw [hEn]
  have hcw : cw 0 = 0 := by
    obtain ⟨_, _, hl⟩ := hF.words
    have := hl.is.le 0
    omega
  have HF : Hid (Four w gw gf gc gr n cw cf cc cr ∧ cw 0 = 0) := ⟨hF, hcw⟩
  have hgl : g < w.heap.size := cell_lt hc
  have hmk := run_make_row' (P := Tryd.prog) 25 3 (.int .i64 0) 8 Tryd.underlying25 Tryd.infoi rfl .i64 .i64 1 (by omega) (by omega)
  rw [show ((1 : Nat) : Int) = 1 from rfl] at hmk
  have hB0 := boxes2 w [.slice (some ⟨ge, 0, none⟩) E 61, .slice (some ⟨gw, 0, none⟩) 1 1, .slice (some ⟨gf, 0, none⟩) 2 2, .slice (some ⟨gc, 0, none⟩) n n, .slice (some ⟨gr, 0, none⟩) n n] 65 3 (.int .i64 0) 1
  have hBx : Below w.heap.size w ((w.alloc (.cells #[.slice (some ⟨ge, 0, none⟩) E 61, .slice (some ⟨gw, 0, none⟩) 1 1, .slice (some ⟨gf, 0, none⟩) 2 2, .slice (some ⟨gc, 0, none⟩) n n, .slice (some ⟨gr, 0, none⟩) n n] 65)).alloc (.cells (madeCells #[.int .i64 0] 1) 3)) := ((Below.refl _ w).alloc (Nat.le_refl _) _).alloc (by simp) _
  unfold planV
  clear h hok hF hE hS hn hEn hcw
  go_enter Tryd.func22, Tryd.ntmps22
  go_upto_region 3 with fail
  obtain ⟨X, hX⟩ : ∃ X, (w.alloc (.cells #[.slice (some ⟨ge, 0, none⟩) E 61, .slice (some ⟨gw, 0, none⟩) 1 1, .slice (some ⟨gf, 0, none⟩) 2 2, .slice (some ⟨gc, 0, none⟩) n n, .slice (some ⟨gr, 0, none⟩) n n] 65)).alloc (.cells (madeCells #[.int .i64 0] 1) 3) = X := ⟨_, rfl⟩
  obtain ⟨p, hp⟩ : ∃ p, w.heap.size = p := ⟨_, rfl⟩
  have HX : Hid ((∀ j u, [Value.slice (some ⟨ge, 0, none⟩) E 61, .slice (some ⟨gw, 0, none⟩) 1 1, .slice (some ⟨gf, 0, none⟩) 2 2, .slice (some ⟨gc, 0, none⟩) n n, .slice (some ⟨gr, 0, none⟩) n n][j]? = some u → X.cell? ⟨p, j, none⟩ = some u) ∧ X.rowIs (p + 1) 3 1 (fun _ => .int .i64 0) ∧ Below w.heap.size w X ∧ w.heap.size = p) := by
    rw [← hX, ← hp]
    exact ⟨hB0.1, hB0.2, hBx, rfl⟩
  rw [hX, hp]
  clear hX hp hB0 hBx hmk
  -- what is kept while the row of one number is written
  have HW : Hid (∀ W, KeepBut X W (p + 1) (p + 1) → W.cell? ⟨g, o, none⟩ = some (.slice a n c) ∧ ClsAt W gw 1 cw ∧ ClsAt W gc n cc ∧ EdgesIn S W ge ws ∧ W.cell? ⟨p, 0, none⟩ = some (.slice (some ⟨ge, 0, none⟩) E 61) ∧ W.cell? ⟨p, 1, none⟩ = some (.slice (some ⟨gw, 0, none⟩) 1 1) ∧ W.cell? ⟨p, 3, none⟩ = some (.slice (some ⟨gc, 0, none⟩) n n)) := fun W hk => by
    have hz := HX.out.2.2.2
    have hB := HX.out.2.2.1
    have old : ∀ b, b < w.heap.size → W.heap[b]? = w.heap[b]? := fun b hb => (hk.block b (Nat.lt_of_lt_of_le hb hB.size) (by omega) (by omega)).trans (hB.block b hb)
    have pl : ∀ j u, [Value.slice (some ⟨ge, 0, none⟩) E 61, .slice (some ⟨gw, 0, none⟩) 1 1, .slice (some ⟨gf, 0, none⟩) 2 2, .slice (some ⟨gc, 0, none⟩) n n, .slice (some ⟨gr, 0, none⟩) n n][j]? = some u → W.cell? ⟨p, j, none⟩ = some u := fun j u hu => (hk.cell (p := ⟨p, j, none⟩) (cell_lt (HX.out.1 j u hu)) (by simp) (by simp)).trans (HX.out.1 j u hu)
    exact ⟨(World.cell?_of_block (old g hgl)).trans hc, HF.out.1.words.of_block (old _ HF.out.1.words.lt), HF.out.1.corners.of_block (old _ HF.out.1.corners.lt), HE.out.1.keep (fun b hb => old b (HE.out.2.1 b hb)), pl 0 _ rfl, pl 1 _ rfl, pl 3 _ rfl⟩
  have HC : Hid (w.cell? ⟨g, o, none⟩ = some (.slice a n c)) := hc
  clear hc
  go_wp2_with fail
  go_loopw [6, 17] (fun k q W => (k = .int .i64 0 ∧ q = .int .i64 0 ∧ W = X) ∨ (k = .int .i64 (n : Int) ∧ q = .int .i64 1 ∧ Hid (W.rowIs (p + 1) 3 1 (fun _ => .int .i64 (1 + (leastN cc n : Int))) ∧ KeepBut X W (p + 1) (p + 1)))) (fun _ q _ => 1 - (intOf q).toNat)
  case atStart => exact .inl ⟨rfl, rfl, rfl⟩
  case round =>
    obtain ⟨rfl, rfl, rfl⟩ | ⟨rfl, rfl, HK⟩ := hrel
    · obtain ⟨c0, k1, -, -, -, d1, -⟩ := HW.out wr (KeepBut.refl _ _ _)
      have hof := of_ gw 1 1 0 wr k1 (by omega) (by omega)
      rw [HF.out.2, show ((0 : Nat) : Int) = 0 from rfl] at hof
      have x0 := HX.out.2.1.cell (i := 0) (by omega)
      have x1 := HX.out.2.1.frozen 0
      clear k1
      go_upto_region 8 with (go_at_call 24; refine hof.mono ?_; rintro e V ⟨rfl, rfl⟩; clear hof)
      have HY : Hid ((V.setCell ⟨p + 1, 0, none⟩ (.int .i64 1)).rowIs (p + 1) 3 1 (fun _ => .int .i64 (1 + (leastN cc 0 : Int))) ∧ KeepBut V (V.setCell ⟨p + 1, 0, none⟩ (.int .i64 1)) (p + 1) (p + 1)) := ⟨(HX.out.2.1.set 0 _).congr (fun i hi => by rw [if_pos (by omega)]; rfl), (KeepBut.refl _ _ _).on (grown_at _ _ _) (fun b e => by cases e; exact .inl rfl)⟩
      obtain ⟨Y, hY⟩ : ∃ Y, V.setCell ⟨p + 1, 0, none⟩ (.int .i64 1) = Y := ⟨_, rfl⟩
      rw [hY] at HY ⊢
      clear hY c0 d1 x0 x1
      go_wp2_with fail
      go_loopw [6, 34] (fun k q W => ∃ m : Nat, m ≤ n ∧ k = .int .i64 m ∧ q = .int .i64 m ∧ Hid (W.rowIs (p + 1) 3 1 (fun _ => .int .i64 (1 + (leastN cc m : Int))) ∧ KeepBut V W (p + 1) (p + 1))) (fun _ q _ => n - (intOf q).toNat)
      case atStart => exact ⟨0, by omega, rfl, rfl, HY.out⟩
      case round =>
        obtain ⟨m, hm, rfl, rfl, HM⟩ := hrel
        by_cases hmn : m < n
        · obtain ⟨-, -, k3, -, -, -, d3⟩ := HW.out wr HM.out.2
          have hof := of_ gc n n m wr k3 hmn (by omega)
          have x0 := HM.out.1.cell (i := 0) (by omega)
          have x1 := HM.out.1.frozen 0
          have hle := leastN_le cc m
          by_cases hcm : cc m = m
          · rw [hcm] at hof
            have HL : Hid (leastN cc (m + 1) = leastN cc m + 1) := leastN_yes hcm
            obtain ⟨y, hy⟩ : ∃ y, leastN cc m = y := ⟨_, rfl⟩
            rw [hy] at x0 hle HL
            clear hy hcm k3
            go_wp2_with (first
              | (go_at_call 24; refine hof.mono ?_; rintro e V2 ⟨rfl, rfl⟩; clear hof)
              | fail)
            go_roundw
            case rel =>
              refine ⟨m + 1, by omega, by go_num, by go_num, (HM.out.1.set 0 _).congr (fun i hi => ?_), HM.out.2.on (grown_at _ _ _) (fun b e => by cases e; exact .inl rfl)⟩
              rw [if_pos (by omega), HL.out]
              go_num
            case measure => simp [intOf]; omega
          · have HL : Hid (leastN cc (m + 1) = leastN cc m) := leastN_no hcm
            obtain ⟨y, hy⟩ : ∃ y, cc m = y := ⟨_, rfl⟩
            rw [hy] at hof hcm
            have hb : ((y : Int) == (m : Int)) = false := beq_false_of_ne (by omega)
            clear hy k3
            go_wp2_with (first
              | (go_at_call 24; refine hof.mono ?_; rintro e V2 ⟨rfl, rfl⟩; clear hof)
              | fail)
            go_roundw
            case rel => exact ⟨m + 1, by omega, by go_num, by go_num, by rw [HL.out]; exact HM.out⟩
            case measure => simp [intOf]; omega
        · obtain rfl : m = n := by omega
          go_wp2_with fail
          go_roundw
          case rel => exact .inr ⟨rfl, by go_num, HM.out⟩
          case measure => simp [intOf]
    · obtain ⟨-, -, -, -, d0, -, -⟩ := HW.out wr HK.out.2
      go_wp2_with fail
      clear d0
      have HK0 : Hid (wr.rowIs (p + 1) 3 1 (fun _ => .int .i64 (1 + (leastN cc n : Int) - ((0 : Nat) : Int))) ∧ KeepBut X wr (p + 1) (p + 1)) := ⟨HK.out.1.congr (fun i _ => by simp), HK.out.2⟩
      go_loopw [55] (fun q W => ∃ x : Nat, x ≤ E ∧ q = .int .i64 x ∧ Hid (W.rowIs (p + 1) 3 1 (fun _ => .int .i64 (1 + (leastN cc n : Int) - (x : Int))) ∧ KeepBut X W (p + 1) (p + 1))) (fun q _ => E - (intOf q).toNat)
      case atStart => exact ⟨0, by omega, rfl, HK0.out⟩
      case round =>
        obtain ⟨x, hx, rfl, HM⟩ := hrel
        by_cases hxe : x < E
        · obtain ⟨-, k1, -, ke, -, d1, -⟩ := HW.out wr HM.out.2
          have hxe' : x < (namesI ws).length := by rw [HE.out.2.2]; exact hxe
          obtain ⟨b, c', hSb, hcell, hs⟩ := ke.2 x hxe'
          obtain ⟨-, s1, -, -⟩ := hs 0 (rowN_pos hxe')
          rw [Nat.zero_mul, Nat.zero_add] at s1
          have hrp := rowN_pos hxe'
          obtain ⟨rl, hrl⟩ : ∃ rl, (rowN ws x).length = rl := ⟨_, rfl⟩
          rw [hrl] at hcell hrp
          have zr : (0 : Int) < (rl : Int) := by omega
          have hof := of_ gw 1 1 0 wr.drew (k1.of_block rfl) (by omega) (by omega)
          rw [HF.out.2, show ((0 : Nat) : Int) = 0 from rfl] at hof
          have x0 := HM.out.1.cell (i := 0) (by omega)
          have x1 := HM.out.1.frozen 0
          have hle := leastN_le cc n
          obtain ⟨y, hy⟩ : ∃ y, leastN cc n = y := ⟨_, rfl⟩
          have HY : Hid (leastN cc n = y) := hy
          rw [hy] at x0 hle
          have z0 : (0 : Int) ≤ (x : Int) := by omega
          have z1 : (x : Int) < (E : Int) := by omega
          clear hs hSb hrl ke k1 hy
          go_wp2_with fail
          go_region_with (go_at_call 24; refine hof.mono ?_; rintro e V2 ⟨rfl, rfl⟩)
          all_goals go_wp2_with fail
          all_goals go_roundw
          all_goals first
            | (refine ⟨x + 1, by omega, by go_num, (HM.out.1.drew.set 0 _).congr (fun i hi => ?_), ?_⟩
               · rw [if_pos (by omega), HY.out]
                 go_num
               · exact (keepBut_drew HM.out.2).on (grown_at _ _ _) (fun b e => by cases e; exact .inl rfl))
            | (simp [intOf]; omega)
        · obtain rfl : x = E := by omega
          go_wp2_with fail
          go_ret
          have hz := HX.out.2.2.2
          have hB := HX.out.2.2.1
          exact ⟨p + 1, rfl, HM.out.1.cell (i := 0) (by omega), ⟨HM.out.2.os.trans hB.os, HM.out.2.tape.trans hB.tape, HM.out.2.output.trans hB.output, Nat.le_trans hB.size HM.out.2.size, fun b hb => (HM.out.2.block b (Nat.lt_of_lt_of_le hb hB.size) (by omega) (by omega)).trans (hB.block b hb)⟩⟩

end Go.Proofs.YtkaplnjknobdpaaDoor
