/- What partsOf, Counts and Euler answer: how many corners, edges and squares an image has. -/
import Derived.Test.YtbmojlnkjeapkaaGreatDoorCubeTake
import Derived.Test.YtbmojlnkjeapkaaGreatDoorCubeValid
namespace Go.Proofs.YtbmojlnkjeapkaaGreatDoor
open Go.RowKit Go.Sort Go.Maps

theorem near_sq {w h : Nat} (hw : w ≤ 100) (hh : h ≤ 100) {a : Sq} (ha : a ∈ sqTo w h) : Near a := by
  have := mem_sqTo.1 ha
  unfold InSq at this
  unfold Near
  omega

theorem near_to {w y x : Nat} (hw : w ≤ 100) (hy : y ≤ 100) (hx : x ≤ 100) {a : Sq} (ha : a ∈ sqTo w y ++ rowTo y x) : Near a := by
  rcases List.mem_append.1 ha with h | h
  · exact near_sq hw hy h
  · have := mem_rowTo.1 h
    unfold Near
    omega

theorem not_yet {w y x : Nat} : (((x : Int), (y : Int)) : Sq) ∉ sqTo w y ++ rowTo y x := fun h => by
  rcases List.mem_append.1 h with h | h
  · have := mem_sqTo.1 h
    unfold InSq at this
    simp only at this
    omega
  · have := mem_rowTo.1 h
    simp only at this
    omega

/-- The parts as they are answered. -/
def PartsSay (f : Int → Int → Bool) (l : List Sq) (w w' : World) (e : Ending) : Prop :=
  ∃ b1 b2 a cap, e = .returned (.agg #[.map (some b1), .map (some b2), .slice a (squaresL f l).length cap]) ∧ MapIx w' 59 b1 ((cornersL f l).map keyC) ∧ MapIx w' 96 b2 ((edgesL f l).map keyD) ∧ SqIn (fun b => b1 < b) w' (.slice a (squaresL f l).length cap) (squaresL f l) ∧ b1 ≠ b2 ∧ Below w.heap.size w w'

theorem frozen_new (W : World) (A : Array Value) (t : TypeId) (k : Nat) : (W.alloc (.cells A t)).frozen? ⟨W.heap.size, k, none⟩ = false := by
  have hg : (W.alloc (.cells A t)).heap[W.heap.size]? = some (.cells A t) := (Go.MapKept.heap_alloc W _).1
  simp only [World.frozen?, hg]
  simp

/-- What partsOf lays ahead of its loops. -/
def partsW (w : World) : World := (((w.alloc (.cells #[.map none, .map none, .slice none 0 0] 56)).alloc (.map #[] 0)).alloc (.map #[] 0)).alloc (.cells #[.map (some (w.heap.size + 1)), .map (some (w.heap.size + 1 + 1)), .slice none 0 0] 56)

theorem partsW_mid (w : World) (f : Int → Int → Bool) : PartsMid (partsW w) w.heap.size (cornersL f []) (edgesL f []) (squaresL f []) (.slice none 0 0) := by
  unfold partsW
  have m1 := World.ownsMap_made (H := Unit) (w.alloc (.cells #[.map none, .map none, .slice none 0 0] 56)) Tryz.prog 59 (plainElem Tryz.prog 3)
  have m2 := World.ownsMap_made (H := Unit) ((w.alloc (.cells #[.map none, .map none, .slice none 0 0] 56)).alloc (.map #[] 0)) Tryz.prog 96 (plainElem Tryz.prog 3)
  simp only [World.size_alloc] at m1 m2
  refine ⟨?_, ?_, ?_, ?_, ⟨.map [], (m1.alloc _).alloc _, fun x => by simp [Maps.has, cornersL], rfl, fun k x hk => by simp [cornersL] at hk⟩, ⟨.map [], m2.alloc _, fun x => by simp [Maps.has, edgesL], rfl, fun k x hk => by simp [edgesL] at hk⟩, SqRow.nil _ _⟩
  · have := cells_new (((w.alloc (.cells #[.map none, .map none, .slice none 0 0] 56)).alloc (.map #[] 0)).alloc (.map #[] 0)) [.map (some (w.heap.size + 1)), .map (some (w.heap.size + 1 + 1)), .slice none 0 0] 56 0 _ rfl
    rw [Addr.add_lit] at this
    simpa using this
  · have := cells_new (((w.alloc (.cells #[.map none, .map none, .slice none 0 0] 56)).alloc (.map #[] 0)).alloc (.map #[] 0)) [.map (some (w.heap.size + 1)), .map (some (w.heap.size + 1 + 1)), .slice none 0 0] 56 1 _ rfl
    rw [Addr.add_lit] at this
    simpa using this
  · have := cells_new (((w.alloc (.cells #[.map none, .map none, .slice none 0 0] 56)).alloc (.map #[] 0)).alloc (.map #[] 0)) [.map (some (w.heap.size + 1)), .map (some (w.heap.size + 1 + 1)), .slice none 0 0] 56 2 _ rfl
    rw [Addr.add_lit] at this
    simpa using this
  · have := frozen_new (((w.alloc (.cells #[.map none, .map none, .slice none 0 0] 56)).alloc (.map #[] 0)).alloc (.map #[] 0)) #[.map (some (w.heap.size + 1)), .map (some (w.heap.size + 1 + 1)), .slice none 0 0] 56 2
    simpa using this

theorem partsW_res (w : World) : ((partsW w).cell? ⟨w.heap.size, 0, none⟩ = some (.map none) ∧ (partsW w).cell? ⟨w.heap.size, 1, none⟩ = some (.map none) ∧ (partsW w).cell? ⟨w.heap.size, 2, none⟩ = some (.slice none 0 0)) ∧ (partsW w).frozen? ⟨w.heap.size, 0, none⟩ = false ∧ (partsW w).frozen? ⟨w.heap.size, 1, none⟩ = false ∧ (partsW w).frozen? ⟨w.heap.size, 2, none⟩ = false := by
  have hb : (partsW w).heap[w.heap.size]? = (w.alloc (.cells #[.map none, .map none, .slice none 0 0] 56)).heap[w.heap.size]? := by
    unfold partsW
    rw [Below.heap_alloc _ _ _ (by simp; omega), Below.heap_alloc _ _ _ (by simp; omega), Below.heap_alloc _ _ _ (by simp)]
  refine ⟨⟨?_, ?_, ?_⟩, ?_, ?_, ?_⟩
  · rw [World.cell?_of_block (a := ⟨w.heap.size, 0, none⟩) hb]; simp
  · rw [World.cell?_of_block (a := ⟨w.heap.size, 1, none⟩) hb]; simp
  · rw [World.cell?_of_block (a := ⟨w.heap.size, 2, none⟩) hb]; simp
  · rw [World.frozen?_of_block (a := ⟨w.heap.size, 0, none⟩) hb]; exact frozen_new w _ _ _
  · rw [World.frozen?_of_block (a := ⟨w.heap.size, 1, none⟩) hb]; exact frozen_new w _ _ _
  · rw [World.frozen?_of_block (a := ⟨w.heap.size, 2, none⟩) hb]; exact frozen_new w _ _ _

theorem partsW_below (w : World) : Below w.heap.size w (partsW w) := ((((Below.refl _ w).alloc (Nat.le_refl _) _).alloc (by simp) _).alloc (by simp; omega) _).alloc (by simp; omega) _

set_option maxRecDepth 100000 in
set_option maxHeartbeats 4000000 in
theorem parts_of (vm : Value) (m : List (List UInt8)) (w : World) (hm : Strs w vm m) (hi : Img m) (hr : m.length ≤ 24) (hc : wide m ≤ 24) :
    Calls Tryz.prog 21 #[vm] w fun e w' => PartsSay (fullAt m (wide m) m.length) (sqTo (wide m + 1) (m.length + 1)) w w' e := by
  have hmm := @run_makeMap Tryz.prog
  have HTK : Hid (∀ (W : World), Below w.heap.size w W → ∀ (done : List Sq), done.length ≤ 10000 → (∀ a ∈ done, Near a) → ∀ (x y : Int), Near (x, y) → (x, y) ∉ done → ∀ v, PartsMid W w.heap.size (cornersL (fullAt m (wide m) m.length) done) (edgesL (fullAt m (wide m) m.length) done) (squaresL (fullAt m (wide m) m.length) done) v →
      Calls Tryz.prog 37 #[.pointer (some ⟨w.heap.size + 3, 0, none⟩), vm, cornerV (x, y)] W fun e W' => e = .returned (.tuple #[]) ∧ Below (w.heap.size + 1) W W' ∧ ∃ v', PartsMid W' w.heap.size (cornersL (fullAt m (wide m) m.length) (done ++ [(x, y)])) (edgesL (fullAt m (wide m) m.length) (done ++ [(x, y)])) (squaresL (fullAt m (wide m) m.length) (done ++ [(x, y)])) v') :=
    fun W hW done h1 h2 x y h3 h4 v h5 => take_ vm m w hm hi w.heap.size rfl W hW done h1 h2 x y h3 h4 v h5
  have hwd : ∀ W, Below w.heap.size w W → _ := fun W hW => width_ vm m W (hm.below hW) hi.rows
  obtain ⟨f, hf⟩ : ∃ f, fullAt m (wide m) m.length = f := ⟨_, rfl⟩
  rw [hf] at HTK ⊢
  obtain ⟨a, ca, rfl, -, -⟩ := hm.open_
  clear hm hi hf
  go_enter Tryz.func21, Tryz.ntmps21
  go_upto_region 2 with fail
  have hres := partsW_res w
  have HP0 : Hid (PartsMid (partsW w) w.heap.size (cornersL f []) (edgesL f []) (squaresL f []) (.slice none 0 0)) := partsW_mid w f
  have HB0 : Hid (Below w.heap.size w (partsW w)) := partsW_below w
  have hsz : w.heap.size + 4 ≤ (partsW w).heap.size := by unfold partsW; simp
  rw [show w.heap.size + 1 + 1 + 1 = w.heap.size + 3 from rfl]
  change Code.wp _ _ _ _ (partsW w)
  obtain ⟨W0, hW0⟩ : ∃ W0, partsW w = W0 := ⟨_, rfl⟩
  rw [hW0] at hres HP0 HB0 hsz
  rw [hW0]
  obtain ⟨B, hB⟩ : ∃ B, w.heap.size = B := ⟨_, rfl⟩
  rw [hB] at hres HP0 HB0 HTK hwd hsz
  rw [hB]
  have HBB : Hid (w.heap.size = B) := hB
  clear hW0 hmm hB
  go_wp2_with fail
  go_loopw [12] (fun p W => ∃ k : Nat, k ≤ m.length + 1 ∧ p = .int .i64 k ∧ Hid (∃ v, PartsMid W B (cornersL f (sqTo (wide m + 1) k)) (edgesL f (sqTo (wide m + 1) k)) (squaresL f (sqTo (wide m + 1) k)) v) ∧ Hid (Below (B + 1) W0 W)) (fun p _ => m.length + 1 - (intOf p).toNat)
  case atStart => exact ⟨0, by omega, rfl, ⟨_, HP0.out⟩, Below.refl _ _⟩
  case round =>
    obtain ⟨k, hk, rfl, HP, HW⟩ := hrel
    by_cases hlt : k < m.length + 1
    · have hwk := hwd wr (HB0.out.trans (HW.out.mono (by omega)))
      go_wp2_with (first
        | (go_at_call 22; refine hwk.mono ?_; rintro e w2 ⟨rfl, rfl⟩)
        | fail)
      go_loopw [18] (fun p W => ∃ j : Nat, j ≤ wide m + 1 ∧ p = .int .i64 j ∧ Hid (∃ v, PartsMid W B (cornersL f (sqTo (wide m + 1) k ++ rowTo k j)) (edgesL f (sqTo (wide m + 1) k ++ rowTo k j)) (squaresL f (sqTo (wide m + 1) k ++ rowTo k j)) v) ∧ Hid (Below (B + 1) W0 W)) (fun p _ => wide m + 1 - (intOf p).toNat)
      case atStart => exact ⟨0, by omega, rfl, by rw [rowTo_zero, List.append_nil]; exact HP.out, HW.out⟩
      case round =>
        obtain ⟨j, hj, rfl, HPx, HWx⟩ := hrel
        clear HP HW hwk
        by_cases hjt : j < wide m + 1
        · obtain ⟨v, hv⟩ := HPx.out
          have htk := HTK.out wr (HB0.out.trans (HWx.out.mono (by omega))) (sqTo (wide m + 1) k ++ rowTo k j) (by
            rw [List.length_append, sqTo_len, rowTo_len]
            have h3 : k * (wide m + 1) ≤ 25 * 25 := Nat.mul_le_mul (by omega) (by omega)
            omega) (fun a ha => near_to (by omega) (by omega) (by omega) ha) (j : Int) (k : Int) (by unfold Near; simp only; omega) not_yet v hv
          unfold cornerV at htk
          clear hv
          go_wp2_with (first
            | (go_at_call 37; refine htk.mono ?_; rintro e w3 ⟨rfl, hB3, hP3⟩; have HP3 : Hid (∃ v', PartsMid w3 B (cornersL f (sqTo (wide m + 1) k ++ rowTo k j ++ [((j : Int), (k : Int))])) (edgesL f (sqTo (wide m + 1) k ++ rowTo k j ++ [((j : Int), (k : Int))])) (squaresL f (sqTo (wide m + 1) k ++ rowTo k j ++ [((j : Int), (k : Int))])) v') := hP3; have HB3 : Hid (Below (B + 1) W0 w3) := HWx.out.trans hB3; clear hP3 hB3)
            | fail)
          go_roundw
          case rel => exact ⟨j + 1, by omega, by go_num, by rw [rowTo_succ, ← List.append_assoc]; exact HP3.out, HB3.out⟩
          case measure => simp [intOf]; omega
        · obtain rfl : j = wide m + 1 := by omega
          go_wp2_with fail
          go_roundw
          case rel => exact ⟨k + 1, by omega, by go_num, by rw [sqTo_succ]; exact HPx.out, HWx.out⟩
          case measure => simp [intOf]; omega
    · obtain rfl : k = m.length + 1 := by omega
      obtain ⟨v, hv⟩ := HP.out
      have hrow := hv.squares
      obtain ⟨av, cv, rfl⟩ := own_slice hrow
      have k0 := hv.c0
      have k1 := hv.c1
      have k2 := hv.c2
      have r0 := (HW.out.cell (p := ⟨B, 0, none⟩) (by simp)).trans hres.1.1
      have r1 := (HW.out.cell (p := ⟨B, 1, none⟩) (by simp)).trans hres.1.2.1
      have r2 := (HW.out.cell (p := ⟨B, 2, none⟩) (by simp)).trans hres.1.2.2
      have f0 := (HW.out.frozen (p := ⟨B, 0, none⟩) (by simp)).trans hres.2.1
      have f1 := (HW.out.frozen (p := ⟨B, 1, none⟩) (by simp)).trans hres.2.2.1
      have f2 := (HW.out.frozen (p := ⟨B, 2, none⟩) (by simp)).trans hres.2.2.2
      have HV : Hid (PartsMid wr B (cornersL f (sqTo (wide m + 1) (m.length + 1))) (edgesL f (sqTo (wide m + 1) (m.length + 1))) (squaresL f (sqTo (wide m + 1) (m.length + 1))) (.slice av (squaresL f (sqTo (wide m + 1) (m.length + 1))).length cv)) := hv
      clear hv hrow hres
      go_wp2_with fail
      obtain ⟨SL, hSL⟩ : ∃ SL, squaresL f (sqTo (wide m + 1) (m.length + 1)) = SL := ⟨_, rfl⟩
      rw [hSL] at HV
      rw [hSL]
      have HQ : Hid (SqIn (fun b => B + 1 < b) wr (.slice av SL.length cv) SL) := HV.out.squares.reads (fun b hb _ => by omega)
      obtain ⟨n, hn⟩ : ∃ n, SL.length = n := ⟨_, rfl⟩
      rw [hn]
      have t0 : (wr.setCell ⟨B, 0, none⟩ (.map (some (B + 1)))).cell? ⟨B, 0, none⟩ = some (.map (some (B + 1))) := World.cell?_setCell_same' _ _ _ (by rw [r0]; rfl)
      have t1 : ((wr.setCell ⟨B, 0, none⟩ (.map (some (B + 1)))).setCell ⟨B, 1, none⟩ (.map (some (B + 2)))).cell? ⟨B, 1, none⟩ = some (.map (some (B + 2))) := World.cell?_setCell_same' _ _ _ (by rw [World.cell?_setCell_other _ _ _ _ (by simp), r1]; rfl)
      have t2 : (((wr.setCell ⟨B, 0, none⟩ (.map (some (B + 1)))).setCell ⟨B, 1, none⟩ (.map (some (B + 2)))).setCell ⟨B, 2, none⟩ (.slice av n cv)).cell? ⟨B, 2, none⟩ = some (.slice av n cv) := World.cell?_setCell_same' _ _ _ (by rw [World.cell?_setCell_other _ _ _ _ (by simp), World.cell?_setCell_other _ _ _ _ (by simp), r2]; rfl)
      refine bodyPost_ret (v := .agg #[.map (some (B + 1)), .map (some (B + 2)), .slice av n cv]) ?_ rfl ?_
      · simp [results, Tryz.f21, go_sem, t0, t1, t2]
      · refine ⟨B + 1, B + 2, av, cv, by rw [hSL, hn], ((HV.out.corners.setCell (by simp) _).setCell (by simp) _).setCell (by simp) _, ((HV.out.edges.setCell (by simp) _).setCell (by simp) _).setCell (by simp) _, ?_, by omega, ?_⟩
        · rw [hSL]
          refine HQ.out.keep (by simp) (fun b _ hb => ?_)
          rw [Below.heap_setCell _ _ _ _ (by simp only; omega), Below.heap_setCell _ _ _ _ (by simp only; omega), Below.heap_setCell _ _ _ _ (by simp only; omega)]
        · have hh := HBB.out
          have h1 : Below B w wr := HB0.out.trans (HW.out.mono (by omega))
          rw [hh]
          exact ((h1.setCell (p := ⟨B, 0, none⟩) (Nat.le_refl _) _).setCell (p := ⟨B, 1, none⟩) (Nat.le_refl _) _).setCell (p := ⟨B, 2, none⟩) (Nat.le_refl _) _

end Go.Proofs.YtbmojlnkjeapkaaGreatDoor
