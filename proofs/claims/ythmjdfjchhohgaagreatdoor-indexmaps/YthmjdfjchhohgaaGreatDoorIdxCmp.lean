/- What shapeOf answers. What shapeOf answers of what is no complex. Two lists of numbers are compared: cmp.Compare, slices.Compare. -/
import Derived.Test.YthmjdfjchhohgaaGreatDoorGather
import Derived.Test.YthmjdfjchhohgaaGreatDoorFacesOwn
import Derived.Test.YthmjdfjchhohgaaGreatDoorIdxRowBox
import Derived.Test.YthmjdfjchhohgaaGreatDoorFaces
import Derived.Sort.Grow
import Derived.BigQuiet
namespace Go.Proofs.YthmjdfjchhohgaaGreatDoor
open Go.RowKit Go.Sort

theorem own_rows {base : Nat} {w : World} {v : Value} {xss : List (List Int)} (h : OwnRows base w v xss) : RowsIn (fun b => base ≤ b) w v xss := by
  obtain ⟨vs, h1, h2⟩ := h
  exact ⟨vs, slice_of_owns h1 (fun _ h _ => h), by have := h1.1; simpa using this, fun k u x hu hx => SliceIn.mono (h2 k u x hu hx) (fun _ _ h => h.1)⟩
/-- Three blocks that shapeOf lays: the complex, what it answers, the shape. -/
theorem shape_start (w : World) (v : Value) : ∃ w1, ((w.alloc (.cells #[v] 33)).alloc (.cells #[.slice none 0 0, .slice none 0 0, .slice none 0 0, .slice none 0 0, .slice none 0 0, .slice none 0 0, .slice none 0 0] 63)).alloc (.cells #[.slice none 0 0, .slice none 0 0, .slice none 0 0, .slice none 0 0, .slice none 0 0, .slice none 0 0, .slice none 0 0] 63) = w1 ∧ Below w.heap.size w w1 ∧ w1.cell? ⟨w.heap.size, 0, none⟩ = some v ∧ VecAt 63 7 (w.heap.size + 1) w1 (fun _ => .slice none 0 0) ∧ VecAt 63 7 (w.heap.size + 1 + 1) w1 (fun _ => .slice none 0 0) := by
  obtain ⟨A, hA⟩ : ∃ A, w.alloc (.cells #[v] 33) = A := ⟨_, rfl⟩
  obtain ⟨o, ho⟩ : ∃ o, Obj.cells #[.slice none 0 0, .slice none 0 0, .slice none 0 0, .slice none 0 0, .slice none 0 0, .slice none 0 0, .slice none 0 0] 63 (0, 0) = o := ⟨_, rfl⟩
  have hsA : A.heap.size = w.heap.size + 1 := by rw [← hA]; simp
  have hcA : A.cell? ⟨w.heap.size, 0, none⟩ = some v := by rw [← hA]; exact (box_new w v _).1
  have hBA : Below w.heap.size w A := by rw [← hA]; exact (Below.refl _ w).alloc (Nat.le_refl _) _
  rw [hA, ho]
  have hAB : Below A.heap.size A (A.alloc o) := (Below.refl _ A).alloc (Nat.le_refl _) _
  have hBC : Below (A.alloc o).heap.size (A.alloc o) ((A.alloc o).alloc o) := (Below.refl _ _).alloc (Nat.le_refl _) _
  have hsB : (A.alloc o).heap.size = w.heap.size + 1 + 1 := by simp [hsA]
  refine ⟨_, rfl, (hBA.trans (hAB.mono (by omega))).trans (hBC.mono (by omega)), ?_, ?_, ?_⟩
  · exact (hBC.cell (p := ⟨w.heap.size, 0, none⟩) (by show w.heap.size < _; omega)).trans ((hAB.cell (p := ⟨w.heap.size, 0, none⟩) (by show w.heap.size < _; omega)).trans hcA)
  · have h1 := (Go.MapKept.heap_alloc A o).1
    rw [hsA, ← ho] at h1
    exact (hBC.block _ (by omega)).trans (by rw [← ho]; exact h1)
  · have h1 := (Go.MapKept.heap_alloc (A.alloc o) o).1
    rw [hsB] at h1
    unfold VecAt
    rw [h1, ← ho]
    rfl

theorem VecAt.load {P : Program} {t : TypeId} {n b : Nat} {W : World} {g : Nat → Value} {m : Nat} {e : TypeId} (h : VecAt t n b W g) (hu : P.underlying t = some (.array m e)) (hi : (P.info? t).map (·.size) = some n) : (loadVar t ⟨b, 0, none⟩).run P W = .ok (.agg ((List.range n).map g).toArray) W :=
  run_loadVar_row W b t t _ (0, 0) _ h hu rfl (by rw [hi]; simp)
/-- Seven cells of one block are written. -/
theorem seven_put {t : TypeId} {b : Nat} {W : World} {g0 : Nat → Value} (h : VecAt t 7 b W g0) (g : Nat → Value) : ∃ W9, ((((((W.setCell ⟨b, 0, none⟩ (g 0)).setCell ⟨b, 1, none⟩ (g 1)).setCell ⟨b, 2, none⟩ (g 2)).setCell ⟨b, 3, none⟩ (g 3)).setCell ⟨b, 4, none⟩ (g 4)).setCell ⟨b, 5, none⟩ (g 5)).setCell ⟨b, 6, none⟩ (g 6) = W9 ∧ VecAt t 7 b W9 g ∧ (∀ k, k ≠ b → W9.heap[k]? = W.heap[k]?) ∧ ∀ w : World, Below w.heap.size w W → w.heap.size ≤ b → Below w.heap.size w W9 := by
  refine ⟨_, rfl, ?_, ?_, ?_⟩
  · refine VecAt.conv (((((((h.put 0 (g 0)).put 1 (g 1)).put 2 (g 2)).put 3 (g 3)).put 4 (g 4)).put 5 (g 5)).put 6 (g 6)) fun k hk => ?_
    rcases (show k = 0 ∨ k = 1 ∨ k = 2 ∨ k = 3 ∨ k = 4 ∨ k = 5 ∨ k = 6 by omega) with rfl | rfl | rfl | rfl | rfl | rfl | rfl <;> rfl
  · intro k hk
    have hs : ∀ (V : World) (j : Nat) (x : Value), (V.setCell ⟨b, j, none⟩ x).heap[k]? = V.heap[k]? := fun V j x => Below.heap_setCell _ _ _ k (fun e => hk e)
    rw [hs, hs, hs, hs, hs, hs, hs]
  · intro w hB hb
    exact ((((((hB.setCell hb _).setCell hb _).setCell hb _).setCell hb _).setCell hb _).setCell hb _).setCell hb _

theorem shape_own {a : Nat → Addr} {s : Nat → ByteArray} (vl : Value) (l all : List (List Int)) (w : World) (hE : Errs a s w) (hl : Rows w vl l) (hll : l.length ≤ 100000) (hle : ∀ x ∈ l, x.length ≤ 1000) (hg : Good l all) :
    Calls Tryz.prog 29 #[.agg #[vl]] w fun e w' => ∃ v, e = .returned (.tuple #[v, .nilIface]) ∧ ShpIn (fun b => w.heap.size ≤ b) w' v all ∧ Below w.heap.size w w' := by
  have hl0 := hl
  obtain ⟨al, cl, rfl, -, -⟩ := hl.open_
  have HF : Hid (∀ (W : World) (d : Nat), Below w.heap.size w W → Calls Tryz.prog 55 #[.agg #[.slice al l.length cl], .int .i64 d] W fun e w' => ∃ a c, e = .returned (.tuple #[.slice a (ofDim all (d : Int)).length c, .nilIface]) ∧ RowsIn (fun b => W.heap.size ≤ b) w' (.slice a (ofDim all (d : Int)).length c) (ofDim all (d : Int)) ∧ Below W.heap.size W w') := fun W d hB =>
    (faces_own _ l d W (hE.below hB) (hl0.below hB) hll hle).mono fun e w' ⟨h1, h2⟩ => by
      rcases h2 with ⟨i, hb, -⟩ | ⟨all', v, hg', he, hr⟩
      · exact (bad_good hb hg).elim
      · obtain rfl := good_one hg hg'
        have hr0 := own_rows hr
        obtain ⟨av, cv, rfl, -, -⟩ := hr.rows.open_
        exact ⟨av, cv, he, hr0, h1⟩
  obtain ⟨w1, hw1, hB1, hc1, hv1, hv2⟩ := shape_start w (.slice al l.length cl)
  have HB1 : Hid (Below w.heap.size w w1) := hB1
  have HC1 : Hid (w1.cell? ⟨w.heap.size, 0, none⟩ = some (.slice al l.length cl)) := hc1
  have HV1 : Hid (VecAt 63 7 (w.heap.size + 1) w1 (fun _ => .slice none 0 0)) := hv1
  have HV2 : Hid (VecAt 63 7 (w.heap.size + 1 + 1) w1 (fun _ => .slice none 0 0)) := hv2
  clear hE hl hl0 hll hle hg hB1 hc1 hv1 hv2
  go_enter Tryz.func29, Tryz.ntmps29
  go_wp2_with fail
  go_loopw [8] (fun p W => ∃ (k : Nat) (a : Nat → Option Addr) (c : Nat → Nat), k ≤ 7 ∧ p = .int .i64 k ∧ Below w.heap.size w W ∧ W.cell? ⟨w.heap.size, 0, none⟩ = some (.slice al l.length cl) ∧ VecAt 63 7 (w.heap.size + 1) W (fun _ => .slice none 0 0) ∧
    VecAt 63 7 (w.heap.size + 1 + 1) W (fun d => if d < k then .slice (a d) (ofDim all (d : Int)).length (c d) else .slice none 0 0) ∧ ∀ d : Nat, d < k → RowsIn (fun b => w.heap.size + 3 ≤ b) W (.slice (a d) (ofDim all (d : Int)).length (c d)) (ofDim all (d : Int))) (fun p _ => 7 - (intOf p).toNat)
  case atStart => exact ⟨0, fun _ => none, fun _ => 0, by omega, rfl, HB1.out, HC1.out, HV1.out, HV2.out.conv (fun k _ => by simp), fun d hd => by omega⟩
  case round =>
    obtain ⟨k, a, c, hk, rfl, hB, g0, h1, h2, h3⟩ := hrel
    have HB : Hid (Below w.heap.size w wr) := hB
    have H1 : Hid (VecAt 63 7 (w.heap.size + 1) wr (fun _ => .slice none 0 0)) := h1
    have H2 : Hid (VecAt 63 7 (w.heap.size + 1 + 1) wr (fun d => if d < k then .slice (a d) (ofDim all (d : Int)).length (c d) else .slice none 0 0)) := h2
    have H3 : Hid (∀ d : Nat, d < k → RowsIn (fun b => w.heap.size + 3 ≤ b) wr (.slice (a d) (ofDim all (d : Int)).length (c d)) (ofDim all (d : Int))) := h3
    clear hB h1 h2 h3
    by_cases hlt : k < 7
    · have hcl := HF.out wr k HB.out
      obtain ⟨X, hX⟩ : ∃ X, ofDim all (k : Int) = X := ⟨_, rfl⟩
      rw [hX] at hcl
      have HX : Hid (ofDim all (k : Int) = X) := hX
      clear hX
      go_wp2_with fail
      refine hcl.mono ?_
      clear hcl
      rintro e V ⟨a1, c1, rfl, hr, hV⟩
      have hcV := (hV.cell (p := ⟨w.heap.size, 0, none⟩) (cell_lt g0)).trans g0
      have H2V : Hid (VecAt 63 7 (w.heap.size + 1 + 1) V (fun d => if d < k then .slice (a d) (ofDim all (d : Int)).length (c d) else .slice none 0 0)) := H2.out.below hV
      have H1V : Hid (VecAt 63 7 (w.heap.size + 1) V (fun _ => .slice none 0 0)) := H1.out.below hV
      have HR : Hid (RowsIn (fun b => w.heap.size + 3 ≤ b) V (.slice a1 X.length c1) X) := hr.mono (fun b _ hb => by have := H2.out.lt; omega)
      have HBV : Hid (Below w.heap.size w V) := HB.out.trans (hV.mono HB.out.size)
      have H3V : Hid (∀ d : Nat, d < k → RowsIn (fun b => w.heap.size + 3 ≤ b) V (.slice (a d) (ofDim all (d : Int)).length (c d)) (ofDim all (d : Int))) := fun d hd => (H3.out d hd).below hV
      have f1 := (H2V.out.cell hlt).1
      have f2 := (H2V.out.cell hlt).2
      rw [if_neg (by omega)] at f1
      have hlb : w.heap.size + 1 + 1 < V.heap.size := H2V.out.lt
      clear hV hr g0 HB H1 H2 H3
      go_wp2_with fail
      go_roundw
      case rel =>
        have hk2 : ∀ b, b ≠ w.heap.size + 1 + 1 → (V.setCell ⟨w.heap.size + 1 + 1, k, none⟩ (.slice a1 X.length c1)).heap[b]? = V.heap[b]? := fun b hb => Below.heap_setCell _ _ _ b (fun e => hb e)
        refine ⟨k + 1, fun d => if d = k then a1 else a d, fun d => if d = k then c1 else c d, by omega, by go_num, HBV.out.setCell (by show w.heap.size ≤ w.heap.size + 1 + 1; omega) _, ?_, H1V.out.keep (hk2 _ (by omega)), ?_, ?_⟩
        · exact (World.cell?_setCell_other _ _ _ _ (fun e => by simp at e)).trans hcV
        · refine (H2V.out.put k _).conv fun d hd => ?_
          dsimp only
          by_cases e : d = k
          · subst e; rw [if_pos rfl, if_pos (by omega), if_pos rfl, if_pos rfl, HX.out]
          · rw [if_neg e, if_neg e, if_neg e]
            by_cases e2 : d < k
            · rw [if_pos e2, if_pos (by omega)]
            · rw [if_neg e2, if_neg (by omega)]
        · intro d hd
          refine RowsIn.keep ?_ (fun b _ hb => hk2 b (by omega))
          dsimp only
          by_cases e : d = k
          · subst e; rw [if_pos rfl, if_pos rfl, HX.out]; exact HR.out
          · rw [if_neg e, if_neg e]; exact H3V.out d (by omega)
      case measure => simp [intOf]; omega
    · obtain rfl : k = 7 := by omega
      have f0 := (H2.out.cell (k := 0) (by omega))
      have f1 := (H2.out.cell (k := 1) (by omega))
      have f2 := (H2.out.cell (k := 2) (by omega))
      have f3 := (H2.out.cell (k := 3) (by omega))
      have f4 := (H2.out.cell (k := 4) (by omega))
      have f5 := (H2.out.cell (k := 5) (by omega))
      have f6 := (H2.out.cell (k := 6) (by omega))
      have e0 := (H1.out.cell (k := 0) (by omega))
      have e1 := (H1.out.cell (k := 1) (by omega))
      have e2 := (H1.out.cell (k := 2) (by omega))
      have e3 := (H1.out.cell (k := 3) (by omega))
      have e4 := (H1.out.cell (k := 4) (by omega))
      have e5 := (H1.out.cell (k := 5) (by omega))
      have e6 := (H1.out.cell (k := 6) (by omega))
      simp only [Nat.reduceLT, if_true] at f0 f1 f2 f3 f4 f5 f6
      obtain ⟨f0, -⟩ := f0
      obtain ⟨e0, d0⟩ := e0
      obtain ⟨f1, -⟩ := f1
      obtain ⟨e1, d1⟩ := e1
      obtain ⟨f2, -⟩ := f2
      obtain ⟨e2, d2⟩ := e2
      obtain ⟨f3, -⟩ := f3
      obtain ⟨e3, d3⟩ := e3
      obtain ⟨f4, -⟩ := f4
      obtain ⟨e4, d4⟩ := e4
      obtain ⟨f5, -⟩ := f5
      obtain ⟨e5, d5⟩ := e5
      obtain ⟨f6, -⟩ := f6
      obtain ⟨e6, d6⟩ := e6
      have hsz : w.heap.size + 1 < wr.heap.size := H1.out.lt
      go_wp2_with fail
      obtain ⟨W9, hW9, hv9, hk9, hb9⟩ := seven_put H1.out (fun d => .slice (a d) (ofDim all (d : Int)).length (c d))
      simp only [Int.cast_ofNat_Int] at hW9
      rw [hW9]
      have hl2 := hv9.load (P := Tryz.prog) Tryz.underlying63 (by kernel_rfl)
      refine bodyPost_ret (v := .tuple #[.agg #[.slice (a 0) (ofDim all 0).length (c 0), .slice (a 1) (ofDim all 1).length (c 1), .slice (a 2) (ofDim all 2).length (c 2), .slice (a 3) (ofDim all 3).length (c 3), .slice (a 4) (ofDim all 4).length (c 4), .slice (a 5) (ofDim all 5).length (c 5), .slice (a 6) (ofDim all 6).length (c 6)], .nilIface]) ?_ rfl ⟨_, rfl, ⟨a, c, rfl, fun d hd => ((H3.out d hd).keep fun b _ hb => hk9 b (by omega)).mono fun b _ hb => by omega⟩, hb9 w HB.out (by omega)⟩
      rw [results_cell_tmp rfl]
      simp [asAddr, Result.andThen, hl2, List.range, List.range.loop]
theorem shape_good {a : Nat → Addr} {s : Nat → ByteArray} (vl : Value) (l all : List (List Int)) (w : World) (hE : Errs a s w) (hl : Rows w vl l) (hll : l.length ≤ 100000) (hle : ∀ x ∈ l, x.length ≤ 1000) (hg : Good l all) :
    Calls Tryz.prog 29 #[.agg #[vl]] w fun e w' => ∃ v, e = .returned (.tuple #[v, .nilIface]) ∧ ShpIn anyBlock w' v all ∧ Below w.heap.size w w' :=
  (shape_own vl l all w hE hl hll hle hg).mono fun _e _w' ⟨v, h1, h2, h3⟩ => ⟨v, h1, h2.mono fun _ _ _ => trivial, h3⟩

end Go.Proofs.YthmjdfjchhohgaaGreatDoor

namespace Go.Proofs.YthmjdfjchhohgaaGreatDoor
open Go.RowKit Go.Sort

set_option maxRecDepth 100000 in
set_option maxHeartbeats 4000000 in
theorem shape_bad {a : Nat → Addr} {s : Nat → ByteArray} (vl : Value) (l : List (List Int)) (i : Nat) (w : World) (hE : Errs a s w) (hl : Rows w vl l) (hll : l.length ≤ 100000) (hle : ∀ x ∈ l, x.length ≤ 1000) (hb : BadAt l i) :
    Calls Tryz.prog 29 #[.agg #[vl]] w fun e w' => e = .returned (.tuple #[.agg #[.slice none 0 0, .slice none 0 0, .slice none 0 0, .slice none 0 0, .slice none 0 0, .slice none 0 0, .slice none 0 0], .iface 233 (.pointer (some (a i)))]) ∧ Below w.heap.size w w' := by
  have hl0 := hl
  obtain ⟨al, cl, rfl, -, -⟩ := hl.open_
  have HF : Hid (∀ (W : World), Below w.heap.size w W → Calls Tryz.prog 55 #[.agg #[.slice al l.length cl], .int .i64 0] W fun e w' => e = .returned (.tuple #[.slice none 0 0, .iface 233 (.pointer (some (a i)))]) ∧ Below W.heap.size W w') := fun W hB =>
    (faces_call _ l 0 W (hE.below hB) (hl0.below hB) hll hle).mono fun e w' ⟨h1, h2⟩ => by
      rcases h2 with ⟨j, hb', he⟩ | ⟨all', v, hg', he, hr⟩
      · rw [bad_one hb hb']; exact ⟨he, h1⟩
      · exact (bad_good hb hg').elim
  obtain ⟨w1, hw1, hB1, hc1, hv1, hv2⟩ := shape_start w (.slice al l.length cl)
  have HB1 : Hid (Below w.heap.size w w1) := hB1
  have HV1 : Hid (VecAt 63 7 (w.heap.size + 1) w1 (fun _ => .slice none 0 0)) := hv1
  have HC1 : Hid (w1.cell? ⟨w.heap.size, 0, none⟩ = some (.slice al l.length cl)) := hc1
  clear hE hl hl0 hll hle hb hB1 hv1 hv2 hc1
  go_enter Tryz.func29, Tryz.ntmps29
  go_wp2_with fail
  go_loopw [8] (fun p W => p = .int .i64 0 ∧ W = w1) (fun _ _ => 0)
  case atStart => exact ⟨rfl, rfl⟩
  case round =>
    obtain ⟨rfl, hW⟩ := hrel
    obtain rfl : w1 = wr := hW.symm
    clear hW
    have c1 := HC1.out
    go_wp2_with fail
    refine (HF.out _ HB1.out).mono ?_
    rintro e V ⟨rfl, hV⟩
    have HV2 : Hid (VecAt 63 7 (w.heap.size + 1) V (fun _ => .slice none 0 0)) := HV1.out.below hV
    have HB2 : Hid (Below w.heap.size w V) := HB1.out.trans (hV.mono HB1.out.size)
    obtain ⟨e0, d0⟩ := HV2.out.cell (k := 0) (by omega)
    obtain ⟨e1, d1⟩ := HV2.out.cell (k := 1) (by omega)
    obtain ⟨e2, d2⟩ := HV2.out.cell (k := 2) (by omega)
    obtain ⟨e3, d3⟩ := HV2.out.cell (k := 3) (by omega)
    obtain ⟨e4, d4⟩ := HV2.out.cell (k := 4) (by omega)
    obtain ⟨e5, d5⟩ := HV2.out.cell (k := 5) (by omega)
    obtain ⟨e6, d6⟩ := HV2.out.cell (k := 6) (by omega)
    have hsz : w.heap.size + 1 < V.heap.size := HV2.out.lt
    clear hV HB1 HV1 HF HC1 c1
    go_wp2_with fail
    obtain ⟨W9, hW9, hv9, hk9, hb9⟩ := seven_put HV2.out (fun _ => .slice none 0 0)
    rw [hW9]
    have hl2 := hv9.load (P := Tryz.prog) Tryz.underlying63 (by kernel_rfl)
    refine bodyPost_ret (v := .tuple #[.agg #[.slice none 0 0, .slice none 0 0, .slice none 0 0, .slice none 0 0, .slice none 0 0, .slice none 0 0, .slice none 0 0], .iface 233 (.pointer (some (a i)))]) ?_ rfl ⟨rfl, hb9 w HB2.out (by omega)⟩
    rw [results_cell_tmp rfl]
    simp [asAddr, Result.andThen, hl2, List.range, List.range.loop]

end Go.Proofs.YthmjdfjchhohgaaGreatDoor

namespace Go.Proofs.YthmjdfjchhohgaaGreatDoor
open Go.RowKit Go.Sort

def cmpI (x y : Int) : Int := if x < y then -1 else if y < x then 1 else 0
def cmpL : List Int → List Int → Int
  | x :: xs, y :: ys => if cmpI x y = 0 then cmpL xs ys else cmpI x y
  | _, _ => 0
set_option maxRecDepth 100000 in
theorem isNaN_ (x : Int) (w : World) : Calls Tryz.prog 126 #[.int .i64 x] w fun e w' => e = .returned (.bool false) ∧ w' = w := by
  go_enter Tryz.func126, Tryz.ntmps126
  go_wp2_with fail
  go_ret
  exact ⟨rfl, rfl⟩

set_option maxRecDepth 100000 in
theorem compareI_ (x y : Int) (w : World) : Calls Tryz.prog 110 #[.int .i64 x, .int .i64 y] w fun e w' => e = .returned (.int .i64 (cmpI x y)) ∧ w' = w := by
  have h1 := isNaN_ x w
  have h2 := isNaN_ y w
  unfold cmpI
  by_cases a : x < y
  · rw [if_pos a]
    go_enter Tryz.func110, Tryz.ntmps110
    go_wp2_with (first
      | (go_at_call 126; first | (refine h1.mono ?_; rintro e V ⟨rfl, rfl⟩; clear h1) | (refine h2.mono ?_; rintro e V ⟨rfl, rfl⟩; clear h2))
      | fail)
    go_ret
    exact ⟨rfl, rfl⟩
  · rw [if_neg a]
    by_cases b : y < x
    · rw [if_pos b]
      go_enter Tryz.func110, Tryz.ntmps110
      go_wp2_with (first
        | (go_at_call 126; first | (refine h1.mono ?_; rintro e V ⟨rfl, rfl⟩; clear h1) | (refine h2.mono ?_; rintro e V ⟨rfl, rfl⟩; clear h2))
        | fail)
      go_ret
      exact ⟨rfl, rfl⟩
    · rw [if_neg b]
      obtain rfl : x = y := by omega
      go_enter Tryz.func110, Tryz.ntmps110
      go_wp2_with (first
        | (go_at_call 126; first | (refine h1.mono ?_; rintro e V ⟨rfl, rfl⟩) | (refine h2.mono ?_; rintro e V ⟨rfl, rfl⟩))
        | fail)
      go_ret
      exact ⟨rfl, rfl⟩

theorem cmpL_at {xs ys : List Int} {k : Nat} (h1 : k < xs.length) (h2 : k < ys.length) : cmpL (xs.drop k) (ys.drop k) = if cmpI (xs[k]?.getD 0) (ys[k]?.getD 0) = 0 then cmpL (xs.drop (k + 1)) (ys.drop (k + 1)) else cmpI (xs[k]?.getD 0) (ys[k]?.getD 0) := by
  rw [List.drop_eq_getElem_cons h1, List.drop_eq_getElem_cons h2, List.getElem?_eq_getElem h1, List.getElem?_eq_getElem h2]
  rfl

set_option maxRecDepth 100000 in
set_option maxHeartbeats 1000000 in
theorem compare_ {xs ys : List Int} (vx vy : Value) (w : World) (hx : Ints w vx xs) (hy : Ints w vy ys) (he : ys.length = xs.length) (h0 : 0 < xs.length) (h9 : xs.length ≤ 1000) :
    Calls Tryz.prog 102 #[vx, vy] w fun e w' => e = .returned (.int .i64 (cmpL xs ys)) ∧ w' = w := by
  obtain ⟨ax, cx, rfl, -, hx1⟩ := hx.open_
  obtain ⟨ay, cy, rfl, -, hy1⟩ := hy.open_
  obtain ⟨bx, ox, rfl, -, -, hcx⟩ := hx1 h0
  obtain ⟨bY, oy, rfl, -, -, hcy⟩ := hy1 (by omega)
  have HA : Hid (∀ k, k < xs.length → cmpL (xs.drop k) (ys.drop k) = if cmpI (xs[k]?.getD 0) (ys[k]?.getD 0) = 0 then cmpL (xs.drop (k + 1)) (ys.drop (k + 1)) else cmpI (xs[k]?.getD 0) (ys[k]?.getD 0)) := fun k hk => cmpL_at hk (by omega)
  have HZ : Hid (cmpL (xs.drop xs.length) (ys.drop xs.length) = 0) := by show _ = _; rw [List.drop_eq_nil_of_le (Nat.le_refl _)]; rfl
  have HC : Hid (∀ k, k < xs.length → w.cell? ⟨bx, ox + k, none⟩ = some (.int .i64 (xs[k]?.getD 0)) ∧ w.cell? ⟨bY, oy + k, none⟩ = some (.int .i64 (ys[k]?.getD 0))) := fun k hk => ⟨hcx k hk, hcy k (by omega)⟩
  rw [he]
  obtain ⟨m, hm⟩ : ∃ m, xs.length = m := ⟨_, rfl⟩
  rw [hm] at h0 h9 HA HZ HC ⊢
  obtain ⟨R, hR⟩ : ∃ R, cmpL xs ys = R := ⟨_, rfl⟩
  have HR : Hid (cmpL (xs.drop 0) (ys.drop 0) = R) := hR
  rw [hR]
  clear hx hy hx1 hy1 hcx hcy he hm hR
  go_enter Tryz.func102, Tryz.ntmps102
  go_wp2_with fail
  go_loopw [11] (fun p W => ∃ k : Nat, k ≤ m ∧ p = .int .i64 (k : Int) ∧ W = w ∧ Hid (cmpL (xs.drop k) (ys.drop k) = R)) (fun p _ => m - (intOf p).toNat)
  case atStart => exact ⟨0, by omega, rfl, rfl, HR.out⟩
  case round =>
    obtain ⟨k, hk, rfl, rfl, HK⟩ := hrel
    by_cases hkm : k < m
    · obtain ⟨c1, c2⟩ := HC.out k hkm
      have H2 := Hid.mk' ((HA.out k hkm).symm.trans HK.out)
      obtain ⟨x, ex⟩ : ∃ x, xs[k]?.getD 0 = x := ⟨_, rfl⟩
      obtain ⟨y, ey⟩ : ∃ y, ys[k]?.getD 0 = y := ⟨_, rfl⟩
      rw [ex, ey] at H2
      rw [ex] at c1
      rw [ey] at c2
      have hci := compareI_ x y wr
      obtain ⟨c, hc⟩ : ∃ c, cmpI x y = c := ⟨_, rfl⟩
      rw [hc] at hci H2
      have y0 : (0 : Int) ≤ (k : Int) := by omega
      have y1 : (k : Int) < (m : Int) := by omega
      clear hc ex ey
      by_cases hc0 : c = 0
      · subst hc0
        have H3 : Hid (cmpL (xs.drop (k + 1)) (ys.drop (k + 1)) = R) := by
          have := H2.out
          rw [if_pos rfl] at this
          exact this
        go_wp2_with (first
          | (go_at_call 110; refine hci.mono ?_; rintro e V ⟨rfl, rfl⟩; clear hci)
          | fail)
        go_roundw
        case rel => exact ⟨k + 1, by omega, by go_num, trivial, H3.out⟩
        case measure => simp [intOf]; omega
      · have H3 : Hid (c = R) := by
          have := H2.out
          rw [if_neg hc0] at this
          exact this
        go_wp2_with (first
          | (go_at_call 110; refine hci.mono ?_; rintro e V ⟨rfl, rfl⟩; clear hci)
          | fail)
        go_ret
        exact ⟨by have := H3.out; subst this; rfl, rfl⟩
    · obtain rfl : k = m := by omega
      have H3 : Hid (0 = R) := HZ.out.symm.trans HK.out
      go_wp2_with fail
      go_ret
      exact ⟨by have := H3.out; subst this; rfl, rfl⟩


end Go.Proofs.YthmjdfjchhohgaaGreatDoor
