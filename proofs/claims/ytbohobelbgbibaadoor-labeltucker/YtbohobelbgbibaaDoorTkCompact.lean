/- slices.Compact at pairs of numbers. -/
import Derived.Test.YtbohobelbgbibaaDoorLpHas
import Derived.Lib.SliceRun
namespace Go.Proofs.YtbohobelbgbibaaDoor
open Go.RowKit Go.Sort
attribute [local go_sem] side_equal

theorem zero_two (n : Nat) : (Builtin.zeroCells (Value.agg #[.int .i64 0, .int .i64 0]).cells n).toList = List.replicate (n * 2) (.int .i64 0) := by
  show (Builtin.zeroCells #[.int .i64 0, .int .i64 0] n).toList = _
  unfold Builtin.zeroCells
  apply List.ext_getElem
  · simp
  · intro i h1 h2
    have h3 : i % 2 = 0 ∨ i % 2 = 1 := by omega
    rcases h3 with h3 | h3 <;> simp [h3]
theorem clear_two (w : World) (ty : TypeId) (b o n c : Nat) (hn : 0 < n) (hc : ∀ j, j < n * 2 → (w.cell? ⟨b, o + j, none⟩).isSome = true) (hf : ∀ j, j < n * 2 → w.frozen? ⟨b, o + j, none⟩ = false) :
    (Builtin.clear_ #[51] ty #[.slice (some ⟨b, o, none⟩) n c]).run Tryd.prog w = .ok (.tuple #[]) (w.setCells b o (List.replicate (n * 2) (.int .i64 0))) := by
  have hst := run_storeCells_cells (P := Tryd.prog) b o (List.replicate (n * 2) (.int .i64 0)) 0 w (by simpa using hc) (by simpa using hf) (by intro v hv'; rw [List.eq_of_mem_replicate hv']; rfl)
  simp only [Nat.add_zero] at hst
  obtain ⟨m, rfl⟩ : ∃ m, n = m + 1 := ⟨n - 1, by omega⟩
  have hz := zero_two (m + 1)
  simp [Builtin.clear_, run_underlying Tryd.underlying51, Tryd.zeroValue55, hz, hst]

/-- Runs of equal ones told once. -/
def dedTo (F : Nat → T2) : Nat → List T2
  | 0 => []
  | 1 => [F 0]
  | k + 2 => if F (k + 1) = F k then dedTo F (k + 1) else dedTo F (k + 1) ++ [F (k + 1)]
theorem dedTo_same {F : Nat → T2} {k : Nat} (h : F (k + 1) = F k) : dedTo F (k + 2) = dedTo F (k + 1) := by rw [dedTo, if_pos h]
theorem dedTo_new {F : Nat → T2} {k : Nat} (h : F (k + 1) ≠ F k) : dedTo F (k + 2) = dedTo F (k + 1) ++ [F (k + 1)] := by rw [dedTo, if_neg h]
/-- A row of pairs in a block, cell by cell. -/
def DuoAt (W : World) (g m : Nat) (F : Nat → T2) : Prop := ∀ j, j < m → W.cell? ⟨g, j * 2, none⟩ = some (.int .i64 (F j).1) ∧ W.cell? ⟨g, j * 2 + 1, none⟩ = some (.int .i64 (F j).2) ∧ W.frozen? ⟨g, j * 2, none⟩ = false ∧ W.frozen? ⟨g, j * 2 + 1, none⟩ = false
theorem DuoAt.drewN {W : World} {g m : Nat} {F : Nat → T2} (h : DuoAt W g m F) (q : Nat) : DuoAt (W.drewN q) g m F := fun j hj => h j hj
theorem DuoAt.set {W : World} {g m : Nat} {F : Nat → T2} (h : DuoAt W g m F) (k : Nat) (hk : k < m) (x : T2) : DuoAt ((W.setCell ⟨g, k * 2, none⟩ (.int .i64 x.1)).setCell ⟨g, k * 2 + 1, none⟩ (.int .i64 x.2)) g m (fun j => if j = k then x else F j) := fun j hj => by
  obtain ⟨a, b, c, d⟩ := h j hj
  have ne1 : ∀ {p q : Nat}, p ≠ q → (⟨g, p, none⟩ : Addr) ≠ ⟨g, q, none⟩ := fun h e => h (by injection e)
  refine ⟨?_, ?_, ?_, ?_⟩
  · by_cases e : j = k
    · subst e
      rw [World.cell?_setCell_other _ ⟨g, j * 2 + 1, none⟩ ⟨g, j * 2, none⟩ _ (ne1 (by omega)), World.cell?_setCell_same' _ ⟨g, j * 2, none⟩ _ (by rw [a]; rfl)]
      simp
    · rw [World.cell?_setCell_other _ ⟨g, k * 2 + 1, none⟩ ⟨g, j * 2, none⟩ _ (ne1 (by omega)), World.cell?_setCell_other _ ⟨g, k * 2, none⟩ ⟨g, j * 2, none⟩ _ (ne1 (by omega)), a]
      simp [e]
  · by_cases e : j = k
    · subst e
      have b' : (W.setCell ⟨g, j * 2, none⟩ (.int .i64 x.1)).cell? ⟨g, j * 2 + 1, none⟩ = some (.int .i64 (F j).2) := by rw [World.cell?_setCell_other _ ⟨g, j * 2, none⟩ ⟨g, j * 2 + 1, none⟩ _ (ne1 (by omega))]; exact b
      rw [World.cell?_setCell_same' _ ⟨g, j * 2 + 1, none⟩ _ (by rw [b']; rfl)]
      simp
    · rw [World.cell?_setCell_other _ ⟨g, k * 2 + 1, none⟩ ⟨g, j * 2 + 1, none⟩ _ (ne1 (by omega)), World.cell?_setCell_other _ ⟨g, k * 2, none⟩ ⟨g, j * 2 + 1, none⟩ _ (ne1 (by omega)), b]
      simp [e]
  · rw [World.frozen?_setCell, World.frozen?_setCell]; exact c
  · rw [World.frozen?_setCell, World.frozen?_setCell]; exact d
theorem dedTo_le (F : Nat → T2) : ∀ k, (dedTo F k).length ≤ k
  | 0 => by simp [dedTo]
  | 1 => by simp [dedTo]
  | k + 2 => by
    have := dedTo_le F (k + 1)
    rw [dedTo]
    split
    · omega
    · rw [List.length_append]; simp; omega
theorem grown_cell2 (W : World) (p : Addr) (v : Value) : W.grownBy (W.setCell p v) (some p.block) := ⟨rfl, rfl, rfl, by simp, fun k _ hk => Below.heap_setCell W p v k (fun e => hk (by rw [e]))⟩
theorem grown_cells2 (w : World) (b : Nat) : ∀ (vs : List Value) (o : Nat), w.grownBy (w.setCells b o vs) (some b)
  | [], _ => World.grownBy.refl _ _
  | v :: vs, o => (grown_cell2 w ⟨b, o, none⟩ v).trans (grown_cells2 _ b vs (o + 1))
/-- From there on nothing has changed. -/
def KeptF (F G : Nat → T2) (k : Nat) : Prop := ∀ j, k ≤ j → G j = F j
/-- What Compact answers of pairs in a row of its own block. -/
structure CompSays (w : World) (g cap : Nat) (D : List T2) (e : Ending) (w' : World) : Prop where
  ans : e = .returned (.slice (some ⟨g, 0, none⟩) D.length cap)
  cells : ∀ j x, D[j]? = some x → w'.cell? ⟨g, j * 2, none⟩ = some (.int .i64 x.1) ∧ w'.cell? ⟨g, j * 2 + 1, none⟩ = some (.int .i64 x.2)
  grown : w.grownBy w' (some g)

set_option maxRecDepth 100000 in
set_option maxHeartbeats 4000000 in
theorem compact_ {F : Nat → T2} {g m cap : Nat} (w : World) (h : DuoAt w g m F) (hm : 1 ≤ m) (h9 : m ≤ 100000) (hcap : m ≤ cap) :
    Calls Tryd.prog 44 #[.slice (some ⟨g, 0, none⟩) m cap] w fun e w' => CompSays w g cap (dedTo F m) e w' := by
  have HD := Hid.mk' h
  clear h
  by_cases h2 : m < 2
  · obtain rfl : m = 1 := by omega
    go_enter Tryd.func44, Tryd.ntmps44
    go_wp2_with fail
    go_ret
    refine ⟨rfl, fun j x hj => ?_, World.grownBy.refl w (some g)⟩
    cases j with
    | zero =>
      obtain rfl : F 0 = x := by simpa [dedTo] using hj
      exact ⟨(HD.out 0 (by omega)).1, (HD.out 0 (by omega)).2.1⟩
    | succ j => simp [dedTo] at hj
  · go_enter Tryd.func44, Tryd.ntmps44
    go_wp2_with fail
    go_loopw [3] (fun p W => ∃ k : Nat, 1 ≤ k ∧ k ≤ m ∧ p = .int .i64 (k : Int) ∧ Hid ((∃ q, W = w.drewN q) ∧ (dedTo F k).length = k ∧ ∀ j, j < k → (dedTo F k)[j]? = some (F j))) (fun p _ => m - (intOf p).toNat)
    case atStart => exact ⟨1, by omega, by omega, rfl, ⟨0, rfl⟩, rfl, fun j hj => by obtain rfl : j = 0 := (by omega); rfl⟩
    case round =>
      obtain ⟨k, hk1, hk, rfl, HK⟩ := hrel
      obtain ⟨⟨q0, hq0⟩, -, -⟩ := HK.out
      by_cases hkm : k < m
      · obtain ⟨i, rfl⟩ : ∃ i, k = i + 1 := ⟨k - 1, by omega⟩
        have hdu : DuoAt wr g m F := by rw [hq0]; exact HD.out.drewN q0
        obtain ⟨a0, a1, -, -⟩ := hdu (i + 1) hkm
        obtain ⟨b0, b1, -, -⟩ := hdu i (by omega)
        have HDU := Hid.mk' hdu
        have HQ0 := Hid.mk' hq0
        have ei : ((i + 1 : Nat) : Int) = (i : Int) + 1 := by omega
        have z0 : (0 : Int) ≤ (i : Int) := by omega
        have z1 : (i : Int) < (m : Int) := by omega
        have z2 : (i : Int) + 1 < (m : Int) := by omega
        obtain ⟨x, hx⟩ : ∃ x, F (i + 1) = x := ⟨_, rfl⟩
        obtain ⟨y, hy⟩ : ∃ y, F i = y := ⟨_, rfl⟩
        have HXY : Hid (F (i + 1) = x ∧ F i = y) := ⟨hx, hy⟩
        rw [hx] at a0 a1
        rw [hy] at b0 b1
        obtain ⟨x1, x2⟩ := x
        obtain ⟨y1, y2⟩ := y
        dsimp only at a0 a1 b0 b1
        clear hx hy hdu hq0
        go_upto_region 6 with fail
        go_quiet (fail)
        obtain ⟨W2, hW2⟩ : ∃ W2, wr.drewN nq = W2 := ⟨_, rfl⟩
        have HW2 : Hid (DuoAt W2 g m F ∧ (∃ q, W2 = w.drewN q) ∧ w.grownBy W2 (some g)) := by
          have e2 : W2 = w.drewN (q0 + nq) := by rw [← hW2, HQ0.out]; simp [World.drewN, Nat.add_assoc]
          rw [e2]
          exact ⟨HD.out.drewN _, ⟨_, rfl⟩, ⟨rfl, rfl, rfl, Nat.le_refl _, fun _ _ _ => rfl⟩⟩
        rw [hW2]
        clear hW2 a0 a1 b0 b1
        by_cases hsame : F (i + 1) = F i
        · have hb : ((x1 == y1) && (x2 == y2)) = true := by
            have h := hsame
            rw [HXY.out.1, HXY.out.2] at h
            injection h with h1 h2
            rw [h1, h2]; simp
          rw [hb]
          have HI0 : Hid (DuoAt W2 g m F ∧ (dedTo F (i + 1 + 1)).length = i + 1 ∧ (∀ j, j < i + 1 → (dedTo F (i + 1 + 1))[j]? = some (F j)) ∧ KeptF F F (i + 1 + 1 - 1) ∧ w.grownBy W2 (some g)) := by
            refine ⟨HW2.out.1, ?_, ?_, fun _ _ => rfl, HW2.out.2.2⟩
            · rw [dedTo_same hsame]; exact HK.out.2.1
            · rw [dedTo_same hsame]; exact HK.out.2.2
          have ek : ((m - (i + 1) : Nat) : Int) = (m : Int) - ((i : Int) + 1) := by omega
          have hc2 : (i : Int) + 1 ≤ (cap : Int) := by omega
          have hc3 : (i : Int) + 1 ≤ (m : Int) := by omega
          clear HK HXY
          go_wp2_with fail
          go_loopw [3, 5] (fun p3 p5 W => ∃ (kk k2 : Nat) (G : Nat → T2), 1 ≤ k2 ∧ k2 ≤ m - (i + 1) ∧ kk < i + 1 + k2 ∧ p3 = .int .i64 (kk : Int) ∧ p5 = .int .i64 (k2 : Int) ∧ Hid (DuoAt W g m G ∧ (dedTo F (i + 1 + k2)).length = kk ∧ (∀ j, j < kk → (dedTo F (i + 1 + k2))[j]? = some (G j)) ∧ KeptF F G (i + 1 + k2 - 1) ∧ w.grownBy W (some g))) (fun _ p5 _ => m - (intOf p5).toNat)
          case atStart => exact ⟨i + 1, 1, F, by omega, by omega, by omega, by go_num, rfl, HI0.out⟩
          case round =>
            obtain ⟨kk, k2, G, hk21, hk2, hkk, rfl, rfl, HR⟩ := hrel
            by_cases hk2m : k2 < m - (i + 1)
            · obtain ⟨a0, a1, -, -⟩ := HR.out.1 (i + 1 + k2) (by omega)
              obtain ⟨b0, b1, -, -⟩ := HR.out.1 (i + 1 + (k2 - 1)) (by omega)
              obtain ⟨s0, s1, f0, f1⟩ := HR.out.1 kk (by omega)
              rw [HR.out.2.2.2.1 (i + 1 + k2) (by omega)] at a0 a1
              rw [HR.out.2.2.2.1 (i + 1 + (k2 - 1)) (by omega)] at b0 b1
              rw [Nat.add_mul] at a0 a1 b0 b1
              obtain ⟨l, hl⟩ : ∃ l, k2 = l + 1 := ⟨k2 - 1, by omega⟩
              subst hl
              rw [Nat.add_sub_cancel] at b0 b1
              have hneq : i + 1 + (l + 1) = (i + 1 + l) + 1 := by omega
              obtain ⟨x, hx⟩ : ∃ x, F (i + 1 + (l + 1)) = x := ⟨_, rfl⟩
              obtain ⟨y, hy⟩ : ∃ y, F (i + 1 + l) = y := ⟨_, rfl⟩
              rw [hx] at a0 a1
              rw [hy] at b0 b1
              have HXY : Hid (F (i + 1 + l + 1) = x ∧ F (i + 1 + l) = y) := ⟨hx, hy⟩
              obtain ⟨x1, x2⟩ := x
              obtain ⟨y1, y2⟩ := y
              dsimp only at a0 a1 b0 b1
              have el : ((l + 1 : Nat) : Int) = (l : Int) + 1 := by omega
              have w0 : (0 : Int) ≤ (l : Int) := by omega
              have w1 : (l : Int) < ((m - (i + 1) : Nat) : Int) := by omega
              have w2 : (l : Int) + 1 < ((m - (i + 1) : Nat) : Int) := by omega
              have w3 : (0 : Int) ≤ (kk : Int) := by omega
              have w4 : (kk : Int) < (m : Int) := by omega
              obtain ⟨R, hR⟩ : ∃ R, m - (i + 1) = R := ⟨_, rfl⟩
              rw [hR] at w1 w2 hk2m hk2 ⊢
              have HRR := Hid.mk' hR
              have hR9 : R ≤ 100000 := by omega
              clear hx hy hR ek
              go_upto_region 11 with fail
              go_quiet (fail)
              obtain ⟨W3, hW3⟩ : ∃ W3, wr.drewN nq = W3 := ⟨_, rfl⟩
              have HW3 : Hid (DuoAt W3 g m G ∧ w.grownBy W3 (some g)) := by
                rw [← hW3]
                exact ⟨HR.out.1.drewN _, ⟨HR.out.2.2.2.2.os, HR.out.2.2.2.2.tape, HR.out.2.2.2.2.output, HR.out.2.2.2.2.size, HR.out.2.2.2.2.block⟩⟩
              obtain ⟨c0, c1, -, -⟩ := HW3.out.1 (i + 1 + (l + 1)) (by have := HRR.out; omega)
              rw [HR.out.2.2.2.1 (i + 1 + (l + 1)) (by omega), hneq, HXY.out.1, ← hneq, Nat.add_mul] at c0 c1
              obtain ⟨s0, s1, f0, f1⟩ := HW3.out.1 kk (by have := HRR.out; omega)
              rw [hW3]
              dsimp only at c0 c1
              clear hW3 a0 a1 b0 b1
              by_cases hsm : F (i + 1 + l + 1) = F (i + 1 + l)
              · have hb2 : ((x1 == y1) && (x2 == y2)) = true := by
                  have h := hsm
                  rw [HXY.out.1, HXY.out.2] at h
                  injection h with h1 h2
                  rw [h1, h2]; simp
                have hb3 : (!(x1 == y1) || !(x2 == y2)) = false := by rw [← Bool.not_and, hb2]; rfl
                rw [hb3]
                have HN : Hid (dedTo F (i + 1 + (l + 1 + 1)) = dedTo F (i + 1 + (l + 1))) := by
                  show _ = _
                  rw [show i + 1 + (l + 1 + 1) = (i + 1 + l) + 2 by omega, hneq]; exact dedTo_same hsm
                go_wp2_with fail
                go_roundw
                case rel => exact ⟨kk, l + 1 + 1, G, by omega, by have := HRR.out; omega, by omega, rfl, by go_num, HW3.out.1, by rw [HN.out]; exact HR.out.2.1, by rw [HN.out]; exact HR.out.2.2.1, fun j hj => HR.out.2.2.2.1 j (by omega), HW3.out.2⟩
                case measure => have := HRR.out; show m - (((l : Int) + 1 + 1)).toNat < m - (((l + 1 : Nat) : Int)).toNat; omega
              · have hb2 : ((x1 == y1) && (x2 == y2)) = false := by
                  rw [Bool.eq_false_iff]
                  intro h
                  rw [Bool.and_eq_true, beq_iff_eq, beq_iff_eq] at h
                  exact hsm (by rw [HXY.out.1, HXY.out.2, h.1, h.2])
                have hb3 : (!(x1 == y1) || !(x2 == y2)) = true := by rw [← Bool.not_and, hb2]; rfl
                rw [hb3]
                have HN : Hid (dedTo F (i + 1 + (l + 1 + 1)) = dedTo F (i + 1 + (l + 1)) ++ [(x1, x2)]) := by
                  show _ = _
                  rw [show i + 1 + (l + 1 + 1) = (i + 1 + l) + 2 by omega, hneq, dedTo_new hsm, HXY.out.1]
                have HG : Hid (DuoAt ((W3.setCell ⟨g, kk * 2, none⟩ (.int .i64 x1)).setCell ⟨g, kk * 2 + 1, none⟩ (.int .i64 x2)) g m (fun j => if j = kk then (x1, x2) else G j) ∧ (dedTo F (i + 1 + (l + 1 + 1))).length = kk + 1 ∧ (∀ j, j < kk + 1 → (dedTo F (i + 1 + (l + 1 + 1)))[j]? = some ((fun j => if j = kk then (x1, x2) else G j) j)) ∧ KeptF F (fun j => if j = kk then (x1, x2) else G j) (i + 1 + (l + 1 + 1) - 1) ∧ w.grownBy ((W3.setCell ⟨g, kk * 2, none⟩ (.int .i64 x1)).setCell ⟨g, kk * 2 + 1, none⟩ (.int .i64 x2)) (some g)) := by
                  have hl := HR.out.2.1
                  refine ⟨HW3.out.1.set kk (by have := HRR.out; omega) (x1, x2), by rw [HN.out, List.length_append, hl]; rfl, fun j hj => ?_, fun j hj => ?_, (HW3.out.2.trans (grown_cell2 W3 ⟨g, kk * 2, none⟩ _)).trans (grown_cell2 _ ⟨g, kk * 2 + 1, none⟩ _)⟩
                  · rw [HN.out]
                    rcases Nat.lt_or_ge j kk with gj | gj
                    · rw [List.getElem?_append_left (by omega)]
                      show _ = some (if j = kk then (x1, x2) else G j)
                      rw [if_neg (by omega)]
                      exact HR.out.2.2.1 j gj
                    · obtain rfl : j = kk := by omega
                      rw [List.getElem?_append_right (by omega), hl, Nat.sub_self]
                      show _ = some (if j = j then (x1, x2) else G j)
                      rw [if_pos rfl]; rfl
                  · show (if j = kk then (x1, x2) else G j) = F j
                    rw [if_neg (by omega)]
                    exact HR.out.2.2.2.1 j (by omega)
                go_wp2_with fail
                go_roundw
                case rel => exact ⟨kk + 1, l + 1 + 1, _, by omega, by have := HRR.out; omega, by omega, by go_num, by go_num, HG.out⟩
                case measure => have := HRR.out; show m - (((l : Int) + 1 + 1)).toNat < m - (((l + 1 : Nat) : Int)).toNat; omega
            · obtain rfl : k2 = m - (i + 1) := by omega
              have em : i + 1 + (m - (i + 1)) = m := by omega
              have w3 : (0 : Int) ≤ (kk : Int) := by omega
              have w4 : (kk : Int) < (m : Int) := by omega
              have w5 : (kk : Int) ≤ (m : Int) := by omega
              have w6 : (kk : Int) ≤ (cap : Int) := by omega
              have hpos : 0 < m - kk := by omega
              have hcl : ∀ ty, (Builtin.clear_ #[51] ty #[.slice (some ⟨g, kk * 2, none⟩) (m - kk) (cap - kk)]).run Tryd.prog wr = .ok (.tuple #[]) (wr.setCells g (kk * 2) (List.replicate ((m - kk) * 2) (.int .i64 0))) := fun ty => by
                have hall : ∀ j, j < (m - kk) * 2 → (wr.cell? ⟨g, kk * 2 + j, none⟩).isSome = true ∧ wr.frozen? ⟨g, kk * 2 + j, none⟩ = false := fun j hj => by
                  obtain ⟨a, b, c, d⟩ := HR.out.1 (kk + j / 2) (by omega)
                  rcases (by omega : j % 2 = 0 ∨ j % 2 = 1) with e | e
                  · rw [show kk * 2 + j = (kk + j / 2) * 2 by omega]; exact ⟨by rw [a]; rfl, c⟩
                  · rw [show kk * 2 + j = (kk + j / 2) * 2 + 1 by omega]; exact ⟨by rw [b]; rfl, d⟩
                exact clear_two wr ty g (kk * 2) (m - kk) (cap - kk) hpos (fun j hj => (hall j hj).1) (fun j hj => (hall j hj).2)
              have HE : Hid (CompSays w g cap (dedTo F m) (.returned (.slice (some ⟨g, 0, none⟩) kk cap)) (wr.setCells g (kk * 2) (List.replicate ((m - kk) * 2) (.int .i64 0)))) := by
                have hl := HR.out.2.1
                have hg := HR.out.2.2.1
                rw [em] at hl hg
                refine ⟨by rw [hl], fun j x hj => ?_, HR.out.2.2.2.2.trans (grown_cells2 _ _ _ _)⟩
                have hjl : j < kk := by have := (List.getElem?_eq_some_iff.1 hj).1; rw [hl] at this; exact this
                have e := hg j hjl
                rw [hj] at e
                rw [Option.some.inj e, World.cell?_setCells_out _ _ _ _ _ (fun _ _ => by left; show j * 2 < kk * 2; omega), World.cell?_setCells_out _ _ _ _ _ (fun _ _ => by left; show j * 2 + 1 < kk * 2; omega)]
                obtain ⟨a, b, -, -⟩ := HR.out.1 j (by omega)
                exact ⟨a, b⟩
              clear HR
              go_wp2_with fail
              go_ret
              exact HE.out
        · have hb : ((x1 == y1) && (x2 == y2)) = false := by
            rw [Bool.eq_false_iff]
            intro h
            rw [Bool.and_eq_true, beq_iff_eq, beq_iff_eq] at h
            exact hsame (by rw [HXY.out.1, HXY.out.2, h.1, h.2])
          rw [hb]
          have HN : Hid ((∃ q, W2 = w.drewN q) ∧ (dedTo F (i + 1 + 1)).length = i + 1 + 1 ∧ ∀ j, j < i + 1 + 1 → (dedTo F (i + 1 + 1))[j]? = some (F j)) := by
            have hl := HK.out.2.1
            refine ⟨HW2.out.2.1, ?_, fun j hj => ?_⟩
            · rw [dedTo_new hsame, List.length_append, hl]; rfl
            · rw [dedTo_new hsame]
              rcases Nat.lt_or_ge j (i + 1) with gj | gj
              · rw [List.getElem?_append_left (by omega)]; exact HK.out.2.2 j gj
              · obtain rfl : j = i + 1 := by omega
                rw [List.getElem?_append_right (by omega), hl, Nat.sub_self]; rfl
          go_wp2_with fail
          go_roundw
          case rel => exact ⟨i + 1 + 1, by omega, by omega, by go_num, HN.out⟩
          case measure => simp [intOf]; omega
      · obtain rfl : k = m := by omega
        have HE : Hid (CompSays w g cap (dedTo F k) (.returned (.slice (some ⟨g, 0, none⟩) k cap)) wr) := by
          refine ⟨by rw [HK.out.2.1], fun j x hj => ?_, by rw [hq0]; exact ⟨rfl, rfl, rfl, Nat.le_refl _, fun _ _ _ => rfl⟩⟩
          have hjl : j < k := by have := (List.getElem?_eq_some_iff.1 hj).1; rw [HK.out.2.1] at this; exact this
          have e := HK.out.2.2 j hjl
          rw [hj] at e
          rw [Option.some.inj e, hq0]
          exact ⟨(HD.out j hjl).1, (HD.out j hjl).2.1⟩
        clear hq0
        go_wp2_with fail
        go_ret
        exact HE.out

end Go.Proofs.YtbohobelbgbibaaDoor
