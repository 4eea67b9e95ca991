/- Marks of squares in rows: how they read, one more mark, and what grid lays. -/
import Derived.Test.YtjaoiaajplgboaaDoorCubeMaps
import Derived.Test.YtjaoiaajplgboaaDoorCubeErr
import Derived.Test.YtjaoiaajplgboaaDoorAppendTypes
import Derived.Deep.OwnRows
namespace Go.Proofs.YtjaoiaajplgboaaDoor
open Go.RowKit Go.Sort

/-- Rows of marks: g holds the rows' places, rb k is row k. -/
structure GridAt (B : Nat) (W : World) (g : Nat) (rb : Nat → Nat) (w h : Nat) (f : Sq → Int) : Prop where
  head : ∀ k, k < h → W.cell? ⟨g, k, none⟩ = some (.slice (some ⟨rb k, 0, none⟩) w w)
  row : ∀ k, k < h → W.rowIs (rb k) 3 w (fun x => .int .i64 (f ((x : Int), (k : Int))))
  apart : ∀ j k, j < h → k < h → rb j = rb k → j = k
  off : ∀ k, k < h → rb k ≠ g ∧ B ≤ rb k ∧ rb k < W.heap.size ∧ B ≤ g ∧ g < W.heap.size

theorem GridAt.keep {B : Nat} {W W' : World} {g : Nat} {rb : Nat → Nat} {w h : Nat} {f : Sq → Int} (H : GridAt B W g rb w h f) (hB : Below W.heap.size W W') : GridAt B W' g rb w h f :=
  ⟨fun k hk => (hB.cell (p := ⟨g, k, none⟩) (H.off k hk).2.2.2.2).trans (H.head k hk), fun k hk => (H.row k hk).of_block (hB.block _ (H.off k hk).2.2.1), H.apart, fun k hk => by have := H.off k hk; have := hB.size; omega⟩

theorem GridAt.put {B : Nat} {W : World} {g : Nat} {rb : Nat → Nat} {w h : Nat} {f : Sq → Int} (H : GridAt B W g rb w h f) {x y : Nat} (hx : x < w) (hy : y < h) (n : Int) : GridAt B (W.setCell ⟨rb y, x, none⟩ (.int .i64 n)) g rb w h (putM f ((x : Int), (y : Int)) n) := by
  refine ⟨fun k hk => ?_, fun k hk => ?_, H.apart, fun k hk => by have := H.off k hk; rw [World.size_setCell]; exact this⟩
  · rw [World.cell?_setCell_other _ _ _ _ (fun e => (H.off y hy).1 (by have h := congrArg Addr.block e; simp only at h; first | exact h | exact h.symm))]
    exact H.head k hk
  · by_cases e : k = y
    · subst e
      refine ((H.row k hk).set x _).congr (fun i hi => ?_)
      by_cases ei : i = x
      · subst ei; simp [putM]
      · have : ¬ ((i : Int), (k : Int)) = ((x : Int), (k : Int)) := by simp; omega
        rw [if_neg ei]
        simp only [putM, if_neg this]
    · refine ((H.row k hk).of_block (Below.heap_setCell W ⟨rb y, x, none⟩ _ (rb k) (fun e' => e (H.apart k y hk hy e')))).congr (fun i hi => ?_)
      have : ¬ ((i : Int), (k : Int)) = ((x : Int), (y : Int)) := by simp; intro _; omega
      simp only [putM, if_neg this]

theorem GridAt.mark {B : Nat} {W : World} {g : Nat} {rb : Nat → Nat} {w h : Nat} {f : Sq → Int} (H : GridAt B W g rb w h f) {x y : Nat} (hx : x < w) (hy : y < h) : W.cell? ⟨rb y, x, none⟩ = some (.int .i64 (f ((x : Int), (y : Int)))) ∧ W.frozen? ⟨rb y, x, none⟩ = false :=
  ⟨(H.row y hy).cell hx, (H.row y hy).frozen x⟩

theorem GridAt.congr {B : Nat} {W : World} {g : Nat} {rb : Nat → Nat} {w h : Nat} {f f' : Sq → Int} (H : GridAt B W g rb w h f) (he : ∀ a, f a = f' a) : GridAt B W g rb w h f' := by
  have : f = f' := funext he
  rw [← this]; exact H

/-- grid under way. -/
structure GridMid (B : Nat) (W : World) (v : Value) (rb : Nat → Nat) (w k : Nat) : Prop where
  own : W.ownsRow B 71 1 v k ((List.range k).map fun i => .slice (some ⟨rb i, 0, none⟩) w w)
  row : ∀ i, i < k → W.rowIs (rb i) 3 w (fun _ => .int .i64 0)
  apart : ∀ i j, i < k → j < k → rb i = rb j → i = j
  off : ∀ i, i < k → v.ownBlock ≠ some (rb i) ∧ B ≤ rb i ∧ rb i < W.heap.size

/-- What grid answers. -/
def GridSays (m : List (List UInt8)) (w : World) (e : Ending) (w' : World) : Prop :=
  ∃ ag cap g rb, e = .returned (.slice ag m.length cap) ∧ (0 < m.length → ag = some ⟨g, 0, none⟩) ∧ GridAt w.heap.size w' g rb (wide m) m.length (fun _ => 0) ∧ Below w.heap.size w w'

set_option maxRecDepth 100000 in
set_option maxHeartbeats 4000000 in
theorem grid_ (vm : Value) (m : List (List UInt8)) (w : World) (hm : Strs w vm m) (hi : Img m) :
    Calls Tryd.prog 30 #[vm] w fun e w' => GridSays m w e w' := by
  obtain ⟨i0, hi0, hz0, hz1, hz2⟩ := info_parts Tryd.info71
  have hrows := hi.rows
  have hcols := hi.cols
  have HI : Hid (Img m) := hi
  obtain ⟨a, ca, rfl, -, ha⟩ := hm.open_
  clear hm hi
  go_enter Tryd.func30, Tryd.ntmps30
  go_wp2_with fail
  go_loopw [3, 4] (fun v p W => ∃ (k : Nat) (rb : Nat → Nat), k ≤ m.length ∧ p = .int .i64 k ∧ Hid (GridMid w.heap.size W v rb (wide m) k) ∧ Hid (Below w.heap.size w W)) (fun _ p _ => m.length - (intOf p).toNat)
  case atStart => exact ⟨0, fun _ => 0, by omega, rfl, ⟨World.ownsRow_nil _ _ _ _, fun i hi => absurd hi (Nat.not_lt_zero i), fun i j hi => absurd hi (Nat.not_lt_zero i), fun i hi => absurd hi (Nat.not_lt_zero i)⟩, Below.refl _ _⟩
  case round =>
    obtain ⟨k, rb, hk, rfl, HG, HB⟩ := hrel
    by_cases hlt : k < m.length
    · obtain ⟨b, o, rfl, -, hb, c⟩ := ha (by omega)
      obtain ⟨s, hs⟩ : ∃ s, (⟨(m[k]?.getD []).toArray⟩ : ByteArray) = s := ⟨_, rfl⟩
      have cj : wr.cell? ⟨b, o + k, none⟩ = some (.string s) := (HB.out.cell (p := ⟨b, o + k, none⟩) hb).trans ((c k hlt).trans (by rw [← hs]))
      have hsz : s.size = wide m := (text_size hs).trans (row_of HI.out hlt)
      have HSZ : Hid (s.size = wide m) := hsz
      have hsl : s.size ≤ 1000 := by omega
      have hmk := run_make_row' (P := Tryd.prog) 71 3 (.int .i64 0) 8 Tryd.underlying71 Tryd.info3 rfl .i64 .i64 s.size (by omega) (by omega)
      have hcn := cells_new (wr.alloc (.cells (madeCells #[.int .i64 0] s.size) 3)) [.slice (some ⟨wr.heap.size, 0, none⟩) s.size s.size] 71
      rw [World.size_alloc] at hcn
      have hown := HG.out.own
      have hbw : w.heap.size ≤ wr.heap.size := HB.out.size
      clear c hs hsz
      go_wp2_with (first
        | (at_builtin; refine wpList_append_own_at _ rfl (.tmp 11) (.tmp 18) 69 rfl w.heap.size 71 i0 (.slice none 0 0) 1 24 Tryd.underlying69 hi0 hz0 hz1 hz2 rfl (by decide) _ k _ rfl ((hown.alloc _).alloc _) ⟨wr.heap.size + 1, 0, none⟩ 1 1 [.slice (some ⟨wr.heap.size, 0, none⟩) s.size s.size] rfl rfl hcn (by simp [Value.oneCell']) (by unfold maxLen; omega) (by omega) (by simp; omega) ?_; intro v5 w5 hown5 hg5 hnil5 hl5)
        | fail)
      go_roundw
      case rel =>
        have hlt5 := hg5.size
        simp only [World.size_alloc] at hlt5 hl5
        have hblk : ∀ b, b < wr.heap.size → some b ≠ u3.ownBlock → w5.heap[b]? = wr.heap[b]? := fun b hb hne => by
          rw [hg5.block b (by simp; omega) hne, Below.heap_alloc _ _ _ (by simp; omega), Below.heap_alloc _ _ _ hb]
        have hnewb : some wr.heap.size ≠ u3.ownBlock := fun e => by have := (hown.lt _ e.symm).2; omega
        have hnew : w5.rowIs wr.heap.size 3 (wide m) (fun _ => .int .i64 0) := by
          rw [← HSZ.out]
          refine (World.rowIs_made wr (.int .i64 0) s.size 3).of_block ?_
          rw [hg5.block _ (by simp; omega) hnewb, Below.heap_alloc _ _ _ (by simp)]
        refine ⟨k + 1, fun i => if i = k then wr.heap.size else rb i, by omega, by go_num, ⟨?_, fun i hi => ?_, fun i j hi hj e => ?_, fun i hi => ?_⟩, ?_⟩
        · have e1 : (List.range (k + 1)).map (fun i => Value.slice (some ⟨if i = k then wr.heap.size else rb i, 0, none⟩) (wide m) (wide m)) = (List.range k).map (fun i => Value.slice (some ⟨rb i, 0, none⟩) (wide m) (wide m)) ++ [.slice (some ⟨wr.heap.size, 0, none⟩) s.size s.size] := by
            rw [List.range_succ, List.map_append, HSZ.out]
            congr 1
            · refine List.map_congr_left fun i hi => ?_
              rw [if_neg (by have := List.mem_range.1 hi; omega)]
            · simp
          rw [e1]
          exact hown5
        · by_cases e : i = k
          · simp only [if_pos e]; exact hnew
          · simp only [if_neg e]
            have ho := HG.out.off i (by omega)
            exact (HG.out.row i (by omega)).of_block (hblk _ ho.2.2 (fun e' => ho.1 e'.symm))
        · by_cases e1 : i = k <;> by_cases e2 : j = k
          · omega
          · simp only [if_pos e1, if_neg e2] at e
            have := (HG.out.off j (by omega)).2.2
            omega
          · simp only [if_neg e1, if_pos e2] at e
            have := (HG.out.off i (by omega)).2.2
            omega
          · simp only [if_neg e1, if_neg e2] at e
            exact HG.out.apart i j (by omega) (by omega) e
        · by_cases e : i = k
          · simp only [if_pos e]
            refine ⟨fun h => ?_, hbw, by omega⟩
            rcases hl5 with h5 | h5
            · exact hnewb (h.symm.trans h5)
            · have h6 := h5.symm.trans h; simp only [Option.some.injEq] at h6; omega
          · simp only [if_neg e]
            have ho := HG.out.off i (by omega)
            refine ⟨fun h => ?_, ho.2.1, by omega⟩
            rcases hl5 with h5 | h5
            · exact ho.1 (h5.symm.trans h)
            · have h6 := h5.symm.trans h; simp only [Option.some.injEq] at h6; omega
        · exact ((HB.out.alloc hbw _).alloc (by simp; omega) _).grown hg5 (by simp; omega) (fun b hb => (hown.lt b hb).1)
      case measure => simp [intOf]; omega
    · obtain rfl : k = m.length := by omega
      have hown := HG.out.own
      obtain ⟨av, cv, rfl⟩ := own_slice hown
      have HO : Hid (wr.ownsRow w.heap.size 71 1 (.slice av m.length cv) m.length ((List.range m.length).map fun i => .slice (some ⟨rb i, 0, none⟩) (wide m) (wide m))) := hown
      clear hown
      go_wp2_with fail
      go_ret
      rcases HO.out.2 with ⟨e1, e2⟩ | ⟨g, cap, cur, e1, hg1, hg2, -⟩
      · refine ⟨av, cv, 0, rb, rfl, fun h => by omega, ⟨fun k hk => by omega, fun k hk => by omega, fun j k hj => by omega, fun k hk => by omega⟩, HB.out⟩
      · cases e1
        refine ⟨_, _, g, rb, rfl, fun _ => rfl, ⟨fun k hk => ?_, fun k hk => HG.out.row k hk, HG.out.apart, fun k hk => ?_⟩, HB.out⟩
        · have hc := HO.out.cells (g := g) rfl k (.slice (some ⟨rb k, 0, none⟩) (wide m) (wide m)) (by rw [List.getElem?_map, List.getElem?_range hk]; rfl)
          rw [Addr.add_lit, Nat.zero_add] at hc
          exact hc
        · have ho := HG.out.off k hk
          refine ⟨fun e => ho.1 (by rw [e]; rfl), ho.2.1, ho.2.2, hg1, (Array.getElem?_eq_some_iff.1 hg2).1⟩

end Go.Proofs.YtjaoiaajplgboaaDoor
