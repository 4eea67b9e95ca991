/- What indices answers: of each vertex, what the faces count whose highest vertex it is. -/
import Derived.Test.YtmndhclmhjmbpaaGreatDoorIdxMaxF
import Derived.Test.YtmndhclmhjmbpaaGreatDoorIdxShape
namespace Go.Proofs.YtmndhclmhjmbpaaGreatDoor
open Go.RowKit Go.Sort

theorem ofDim_zero (all : List (List Int)) : ofDim all 0 = (vertI all).map fun v => [v] := by
  induction all with
  | nil => rfl
  | cons x l ih =>
    unfold ofDim vertI at ih ⊢
    rw [List.flatMap_cons, List.map_append]
    by_cases h : x.length = 1
    · obtain ⟨v, rfl⟩ := List.length_eq_one_iff.1 h
      rw [List.filter_cons_of_pos (by simp), ih]; rfl
    · rw [List.filter_cons_of_neg (by simp; omega), ih, if_neg h]; rfl
/-- A vertex' height. -/
def hgt (V h : List Int) (v : Int) : Int := hiF V h (v.toNat : Int)
theorem hiF_small {V h : List Int} (hb : ∀ x ∈ h, -1048576 ≤ x ∧ x ≤ 1048576) (v : Int) : -2000000 ≤ hiF V h v ∧ hiF V h v ≤ 2000000 := by
  unfold hiF
  split
  · rcases Nat.lt_or_ge (V.idxOf v) h.length with hl | hl
    · rw [List.getElem?_eq_getElem hl, Option.getD_some]
      have := hb _ (List.getElem_mem hl)
      omega
    · rw [List.getElem?_eq_none hl, Option.getD_none]; omega
  · omega

set_option maxRecDepth 100000 in
theorem evenness_ (n : Nat) (hn : 1 ≤ n) (hn2 : n ≤ 1000) (w : World) :
    Calls Tryz.prog 46 #[.int .i64 ((n : Int) - 1)] w fun e w' => e = .returned (.int .i64 (if n % 2 = 1 then 1 else -1)) ∧ w' = w := by
  obtain ⟨m, rfl⟩ : ∃ m, n = m + 1 := ⟨n - 1, by omega⟩
  have e1 : ((m + 1 : Nat) : Int) - 1 = (m : Int) := by omega
  rw [e1]
  have h2 : (m : Int).tmod 2 = ((m % 2 : Nat) : Int) := by rw [Int.tmod_eq_emod_of_nonneg (by omega)]; rfl
  rcases (show m % 2 = 0 ∨ m % 2 = 1 by omega) with h | h
  · have h3 : (m + 1) % 2 = 1 := by omega
    rw [h] at h2
    rw [if_pos h3]
    clear h3 h
    go_enter Tryz.func46, Tryz.ntmps46
    go_wp2
    go_ret
    exact ⟨rfl, rfl⟩
  · have h3 : ¬ (m + 1) % 2 = 1 := by omega
    rw [h] at h2
    rw [if_neg h3]
    clear h3 h
    go_enter Tryz.func46, Tryz.ntmps46
    go_wp2
    go_ret
    exact ⟨rfl, rfl⟩

set_option maxRecDepth 100000 in
set_option maxHeartbeats 4000000 in
theorem indices_ {l all : List (List Int)} (vs vh : Value) (V h : List Int) (w : World) (hg : Good l all) (hV : vertI all = V) (hv : ∀ v ∈ V, 0 ≤ v ∧ v ≤ 99) (hV1 : V.length ≤ 100) (hS : ShpIn anyBlock w vs all) (hh : Ints w vh h) (hl : h.length = V.length) (hb : ∀ x ∈ h, -1048576 ≤ x ∧ x ≤ 1048576) :
    Calls Tryz.prog 30 #[vs, vh] w fun e w' => ∃ v, e = .returned v ∧ Ints w' v (V.map fun v => idxN (allD all) (hgt V h) v) ∧ Below w.heap.size w w' := by
  obtain ⟨j0, hj0, hy0, hy1, hy2⟩ := info_parts Tryz.info3
  obtain ⟨hz, hsz⟩ := zero_of_info (P := Tryz.prog) (t := 81) (v := .agg (numC fun _ => 0).toArray) (n := 100) (by kernel_rfl)
  have hVn : V.Nodup := by rw [← hV]; exact rising_nodup (vertI_rising hg.isAll.order)
  have hL : (allD all).Perm all := allD_perm fun x hx => ⟨by have := (face_ok_of hg hx).1.1; exact List.length_pos_iff.2 this, hg.short x hx⟩
  have hLl : (allD all).length ≤ 600 := by rw [hL.length_eq]; exact hg.length
  have hS2 := hS.mono (S' := fun b => b < w.heap.size) (fun b hb _ => hb)
  obtain ⟨ai, ci, rfl, -, -⟩ := hh.open_
  obtain ⟨a, c, rfl, hr⟩ := hS2
  have h0l : (ofDim all 0).length = V.length := by rw [ofDim_zero, hV, List.length_map]
  have HA : Hid (∀ W, Below w.heap.size w W → Calls Tryz.prog 57 #[.agg #[.slice (a 0) (ofDim all 0).length (c 0), .slice (a 1) (ofDim all 1).length (c 1), .slice (a 2) (ofDim all 2).length (c 2), .slice (a 3) (ofDim all 3).length (c 3), .slice (a 4) (ofDim all 4).length (c 4), .slice (a 5) (ofDim all 5).length (c 5), .slice (a 6) (ofDim all 6).length (c 6)]] W fun e w' => ∃ av cv, e = .returned (.slice av (allD all).length cv) ∧ RowsIn (fun b => b < w.heap.size ∨ W.heap.size ≤ b) w' (.slice av (allD all).length cv) (allD all) ∧ Below W.heap.size W w') := fun W hB =>
    (all_of_shape (S := fun b => b < w.heap.size ∨ W.heap.size ≤ b) _ all W (fun b hb => .inr hb) ((ShpIn.below (S := fun b => b < w.heap.size) ⟨a, c, rfl, hr⟩ hB).mono fun b _ hb => .inl hb) (by omega)).mono fun e w' ⟨v, h1, h2, h3⟩ => by
      have h4 := h2
      obtain ⟨av, cv, rfl, -, -⟩ := h2.open_
      exact ⟨av, cv, h1, h4, h3⟩
  have HN : Hid (∀ W, Below w.heap.size w W → Calls Tryz.prog 56 #[.agg #[.slice (a 0) (ofDim all 0).length (c 0), .slice (a 1) (ofDim all 1).length (c 1), .slice (a 2) (ofDim all 2).length (c 2), .slice (a 3) (ofDim all 3).length (c 3), .slice (a 4) (ofDim all 4).length (c 4), .slice (a 5) (ofDim all 5).length (c 5), .slice (a 6) (ofDim all 6).length (c 6)], .slice ai h.length ci] W fun e w' => e = .returned (.agg (numC fun k => hiF V h (k : Int)).toArray) ∧ Below W.heap.size W w') := fun W hB => by
    rw [h0l]
    refine numbered_arr _ _ _ _ _ _ _ _ _ _ _ _ _ _ _ _ _ _ _ _ _ _ V h W ?_ (hh.below hB) hVn hv hl hV1
    have := (hr 0 (by omega)).any.below hB
    rw [show ((0 : Nat) : Int) = 0 from rfl, h0l, ofDim_zero, hV] at this
    exact this
  have HVs : Hid (∀ W, Calls Tryz.prog 60 #[.agg #[.slice (a 0) (ofDim all 0).length (c 0), .slice (a 1) (ofDim all 1).length (c 1), .slice (a 2) (ofDim all 2).length (c 2), .slice (a 3) (ofDim all 3).length (c 3), .slice (a 4) (ofDim all 4).length (c 4), .slice (a 5) (ofDim all 5).length (c 5), .slice (a 6) (ofDim all 6).length (c 6)]] W fun e w' => e = .returned (.slice (a 0) V.length (c 0)) ∧ Below W.heap.size W w') := fun W => by
    rw [h0l]
    exact verts_ _ _ _ _ _ _ _ _ _ _ _ _ _ _ _ _ _ _ _ _ _ W
  have HR0 : Hid (Rows w (.slice (a 0) V.length (c 0)) (V.map fun v => [v])) := by
    have := (hr 0 (by omega)).any
    rw [show ((0 : Nat) : Int) = 0 from rfl, h0l, ofDim_zero, hV] at this
    exact this
  obtain ⟨L, hLe⟩ : ∃ L, allD all = L := ⟨_, rfl⟩
  rw [hLe] at HA hL hLl ⊢
  have HF : Hid (∀ x ∈ L, x ≠ [] ∧ x.length ≤ 7 ∧ ∀ v ∈ x, 0 ≤ v ∧ v ≤ 99) := fun x hx => by
    have hx' := (hL.mem_iff).1 hx
    refine ⟨(face_ok_of hg hx').1.1, hg.short x hx', fun v hv' => hv v ?_⟩
    rw [← hV]
    exact vertI_mem.2 (hg.sub hx' (List.singleton_sublist.2 hv') (by simp))
  have HFB : Hid (∀ k : Nat, k < 100 → -2000000 ≤ hiF V h (k : Int) ∧ hiF V h (k : Int) ≤ 2000000) := fun k _ => hiF_small hb _
  obtain ⟨R, hR⟩ : ∃ R, (V.map fun v => idxN L (hgt V h) v) = R := ⟨_, rfl⟩
  rw [hR]
  have HR : Hid ((V.map fun v => idxN L (hgt V h) v) = R) := hR
  have HVV : Hid (∀ v ∈ V, 0 ≤ v ∧ v ≤ 99) := hv
  clear hR hLe hg hS hr hh hb hV hL hVn hv h0l hl
  generalize h.length = hn at HN ⊢
  generalize (ofDim all 0).length = n0 at HA HN HVs ⊢
  generalize (ofDim all 1).length = n1 at HA HN HVs ⊢
  generalize (ofDim all 2).length = n2 at HA HN HVs ⊢
  generalize (ofDim all 3).length = n3 at HA HN HVs ⊢
  generalize (ofDim all 4).length = n4 at HA HN HVs ⊢
  generalize (ofDim all 5).length = n5 at HA HN HVs ⊢
  generalize (ofDim all 6).length = n6 at HA HN HVs ⊢
  generalize a 1 = a1 at HA HN HVs ⊢
  generalize a 2 = a2 at HA HN HVs ⊢
  generalize a 3 = a3 at HA HN HVs ⊢
  generalize a 4 = a4 at HA HN HVs ⊢
  generalize a 5 = a5 at HA HN HVs ⊢
  generalize a 6 = a6 at HA HN HVs ⊢
  generalize c 1 = c1 at HA HN HVs ⊢
  generalize c 2 = c2 at HA HN HVs ⊢
  generalize c 3 = c3 at HA HN HVs ⊢
  generalize c 4 = c4 at HA HN HVs ⊢
  generalize c 5 = c5 at HA HN HVs ⊢
  generalize c 6 = c6 at HA HN HVs ⊢
  generalize a 0 = a0 at HA HN HVs HR0 ⊢
  generalize c 0 = c0 at HA HN HVs HR0 ⊢
  have HB0 : Hid (Below w.heap.size w (w.alloc (.cells #[.slice a0 n0 c0, .slice a1 n1 c1, .slice a2 n2 c2, .slice a3 n3 c3, .slice a4 n4 c4, .slice a5 n5 c5, .slice a6 n6 c6] 63))) := (Below.refl _ w).alloc (Nat.le_refl _) _
  have hv0 : VecAt 63 7 w.heap.size (w.alloc (.cells #[.slice a0 n0 c0, .slice a1 n1 c1, .slice a2 n2 c2, .slice a3 n3 c3, .slice a4 n4 c4, .slice a5 n5 c5, .slice a6 n6 c6] 63)) (fun k => match k with | 0 => .slice a0 n0 c0 | 1 => .slice a1 n1 c1 | 2 => .slice a2 n2 c2 | 3 => .slice a3 n3 c3 | 4 => .slice a4 n4 c4 | 5 => .slice a5 n5 c5 | _ => .slice a6 n6 c6) := (Go.MapKept.heap_alloc w _).1
  have HV0 : Hid (VecAt 63 7 w.heap.size (w.alloc (.cells #[.slice a0 n0 c0, .slice a1 n1 c1, .slice a2 n2 c2, .slice a3 n3 c3, .slice a4 n4 c4, .slice a5 n5 c5, .slice a6 n6 c6] 63)) (fun k => match k with | 0 => .slice a0 n0 c0 | 1 => .slice a1 n1 c1 | 2 => .slice a2 n2 c2 | 3 => .slice a3 n3 c3 | 4 => .slice a4 n4 c4 | 5 => .slice a5 n5 c5 | _ => .slice a6 n6 c6)) := hv0
  clear hv0
  go_enter Tryz.func30, Tryz.ntmps30
  go_wp2_with fail
  refine (HN.out _ HB0.out).mono ?_
  rintro e W1 ⟨rfl, hV1⟩
  have HB1 : Hid (Below w.heap.size w W1) := HB0.out.trans (hV1.mono HB0.out.size)
  have HV1 : Hid (VecAt 63 7 w.heap.size W1 (fun k => match k with | 0 => .slice a0 n0 c0 | 1 => .slice a1 n1 c1 | 2 => .slice a2 n2 c2 | 3 => .slice a3 n3 c3 | 4 => .slice a4 n4 c4 | 5 => .slice a5 n5 c5 | _ => .slice a6 n6 c6)) := HV0.out.below hV1
  clear hV1 HB0 HV0 HN
  have hn0 := numsAt_new W1 (fun _ => 0) 81
  have hsc := hn0.storeCells (P := Tryz.prog) (fun k => hiF V h (k : Int))
  have hn1 := hn0.setRow (fun k => hiF V h (k : Int))
  have hB3 : Below w.heap.size w ((W1.alloc (.cells (numC fun _ => 0).toArray 81)).setRow W1.heap.size (numC fun k => hiF V h (k : Int)).toArray) := below_setRow (HB1.out.alloc HB1.out.size _) HB1.out.size
  have hs3 : ((W1.alloc (.cells (numC fun _ => 0).toArray 81)).setRow W1.heap.size (numC fun k => hiF V h (k : Int)).toArray).heap.size = W1.heap.size + 1 := by rw [setRow_size]; simp
  have hk3 : ∀ b, b < W1.heap.size → ((W1.alloc (.cells (numC fun _ => 0).toArray 81)).setRow W1.heap.size (numC fun k => hiF V h (k : Int)).toArray).heap[b]? = W1.heap[b]? := fun b hb => by
    rw [setRow_other _ _ _ _ (by omega)]
    exact ((Below.refl W1.heap.size W1).alloc (Nat.le_refl _) _).block b hb
  obtain ⟨W3, hW3⟩ : ∃ W3, (W1.alloc (.cells (numC fun _ => 0).toArray 81)).setRow W1.heap.size (numC fun k => hiF V h (k : Int)).toArray = W3 := ⟨_, rfl⟩
  rw [hW3] at hsc hn1 hB3 hs3 hk3
  have HV3 : Hid (VecAt 63 7 w.heap.size W3 (fun k => match k with | 0 => .slice a0 n0 c0 | 1 => .slice a1 n1 c1 | 2 => .slice a2 n2 c2 | 3 => .slice a3 n3 c3 | 4 => .slice a4 n4 c4 | 5 => .slice a5 n5 c5 | _ => .slice a6 n6 c6)) := HV1.out.keep (hk3 _ HV1.out.lt)
  obtain ⟨G, hG⟩ : ∃ G, W1.heap.size = G := ⟨_, rfl⟩
  rw [hG] at hsc hn1 hs3 
  have hwG : w.heap.size < G := by rw [← hG]; exact HV1.out.lt
  have hn2 := numsAt_new W3 (fun _ => 0) 81
  have hB34 : Below W3.heap.size W3 (W3.alloc (.cells (numC fun _ => 0).toArray 81)) := (Below.refl _ W3).alloc (Nat.le_refl _) _
  obtain ⟨W4, hW4⟩ : ∃ W4, W3.alloc (.cells (numC fun _ => 0).toArray 81) = W4 := ⟨_, rfl⟩
  rw [hW4] at hn2 hB34
  have HN4 : Hid (NumsAt 81 G W4 fun k => hiF V h (k : Int)) := hn1.below hB34
  have HN5 : Hid (NumsAt 81 (G + 1) W4 fun _ => 0) := by rw [← hs3]; exact hn2
  have HV4 : Hid (VecAt 63 7 w.heap.size W4 (fun k => match k with | 0 => .slice a0 n0 c0 | 1 => .slice a1 n1 c1 | 2 => .slice a2 n2 c2 | 3 => .slice a3 n3 c3 | 4 => .slice a4 n4 c4 | 5 => .slice a5 n5 c5 | _ => .slice a6 n6 c6)) := HV3.out.below hB34
  have HB4 : Hid (Below w.heap.size w W4) := hB3.trans (hB34.mono hB3.size)
  clear hn0 hn1 hn2 hB3 hB34 HB1 HV1 HV3 hk3
  have f0 := (HV4.out.cell (k := 0) (by omega)).1
  have f1 := (HV4.out.cell (k := 1) (by omega)).1
  have f2 := (HV4.out.cell (k := 2) (by omega)).1
  have f3 := (HV4.out.cell (k := 3) (by omega)).1
  have f4 := (HV4.out.cell (k := 4) (by omega)).1
  have f5 := (HV4.out.cell (k := 5) (by omega)).1
  have f6 := (HV4.out.cell (k := 6) (by omega)).1
  go_wp2_with fail
  refine (HA.out W4 HB4.out).mono ?_
  rintro e W5 ⟨av, cv, rfl, hr5, hV5⟩
  have HR5 : Hid (RowsIn (fun b => b < w.heap.size ∨ W4.heap.size ≤ b) W5 (.slice av L.length cv) L) := hr5
  have H5 : Hid (NumsAt 81 G W5 fun k => hiF V h (k : Int)) := HN4.out.below hV5
  have H6 : Hid (NumsAt 81 (G + 1) W5 fun _ => 0) := HN5.out.below hV5
  have HV5 : Hid (VecAt 63 7 w.heap.size W5 (fun k => match k with | 0 => .slice a0 n0 c0 | 1 => .slice a1 n1 c1 | 2 => .slice a2 n2 c2 | 3 => .slice a3 n3 c3 | 4 => .slice a4 n4 c4 | 5 => .slice a5 n5 c5 | _ => .slice a6 n6 c6)) := HV4.out.below hV5
  have HB5 : Hid (Below w.heap.size w W5) := HB4.out.trans (hV5.mono HB4.out.size)
  have hG5 : G + 1 < W4.heap.size := HN5.out.lt
  have HG5 : Hid (G + 1 < W4.heap.size) := hG5
  have h45 : W4.heap.size ≤ W5.heap.size := hV5.size
  have HM : Hid (∀ (W : World) (vf : Value) (f : List Int), NumsAt 81 G W (fun k => hiF V h (k : Int)) → Ints W vf f → f ∈ L → Calls Tryz.prog 58 #[vf, .func (.func 59) #[] #[.pointer (some ⟨G, 0, none⟩)]] W fun e w' => e = .returned (.int .i64 (topOf (hgt V h) f)) ∧ Below W.heap.size W w') := fun W vf f hN hi hf =>
    max_func 81 G (fun k => hiF V h (k : Int)) vf f W hN HFB.out hi (HF.out f hf).1 (by have := (HF.out f hf).2.1; omega) (HF.out f hf).2.2
  clear hr5 hV5 HN4 HN5 HV4 HB4 f0 f1 f2 f3 f4 f5 f6 HA hW3 hW4 hsc hs3 hG5 hz HFB
  go_wp2_with fail
  go_loopw [19] (fun p W => ∃ k : Nat, k ≤ L.length ∧ p = .int .i64 k ∧ Below w.heap.size w W ∧ NumsAt 81 G W (fun k => hiF V h (k : Int)) ∧ NumsAt 81 (G + 1) W (fun v => idxN (L.take k) (hgt V h) (v : Int)) ∧ VecAt 63 7 w.heap.size W (fun k => match k with | 0 => .slice a0 n0 c0 | 1 => .slice a1 n1 c1 | 2 => .slice a2 n2 c2 | 3 => .slice a3 n3 c3 | 4 => .slice a4 n4 c4 | 5 => .slice a5 n5 c5 | _ => .slice a6 n6 c6) ∧ RowsIn (fun b => b < w.heap.size ∨ W4.heap.size ≤ b) W (.slice av L.length cv) L) (fun p _ => L.length - (intOf p).toNat)
  case atStart => exact ⟨0, by omega, rfl, HB5.out, H5.out, H6.out, HV5.out, HR5.out⟩
  case round =>
    obtain ⟨k, hk, rfl, hB, h5, h6, hv7, hr7⟩ := hrel
    have HB : Hid (Below w.heap.size w wr) := hB
    have H5' : Hid (NumsAt 81 G wr (fun k => hiF V h (k : Int))) := h5
    have H6' : Hid (NumsAt 81 (G + 1) wr (fun v => idxN (L.take k) (hgt V h) (v : Int))) := h6
    have HV7 : Hid (VecAt 63 7 w.heap.size wr (fun k => match k with | 0 => .slice a0 n0 c0 | 1 => .slice a1 n1 c1 | 2 => .slice a2 n2 c2 | 3 => .slice a3 n3 c3 | 4 => .slice a4 n4 c4 | 5 => .slice a5 n5 c5 | _ => .slice a6 n6 c6)) := hv7
    have HR7 : Hid (RowsIn (fun b => b < w.heap.size ∨ W4.heap.size ≤ b) wr (.slice av L.length cv) L) := hr7
    clear hB h5 h6 hv7 hr7 H5 H6 HV5 HB5 HR5
    by_cases hlt : k < L.length
    · obtain ⟨ar, cr, e1, -, hc⟩ := HR7.out.open_
      obtain ⟨rfl, rfl⟩ : av = ar ∧ cv = cr := by simpa using e1
      obtain ⟨b, o, rfl, -, hb, hc⟩ := hc (by omega)
      obtain ⟨a1', p1', g1, i1⟩ := hc k hlt
      obtain ⟨x, hx⟩ : ∃ x, L[k]?.getD [] = x := ⟨_, rfl⟩
      have hxL : x ∈ L := by rw [← hx, List.getElem?_eq_getElem hlt]; exact List.getElem_mem hlt
      rw [hx] at g1 i1
      have hcl := HM.out wr _ x H5'.out i1.any hxL
      obtain ⟨T, hT⟩ : ∃ T, topOf (hgt V h) x = T := ⟨_, rfl⟩
      rw [hT] at hcl
      have hTv := (HF.out x hxL).2.2 T (by rw [← hT]; exact (topOf_mem _ (HF.out x hxL).1).1)
      obtain ⟨m, rfl⟩ : ∃ m : Nat, T = (m : Int) := ⟨T.toNat, by omega⟩
      have hst := fun v => idxN_snoc (L.take k) x (hgt V h) v
      have htk : L.take (k + 1) = L.take k ++ [x] := by rw [List.take_add_one, List.getElem?_eq_getElem hlt]; rw [List.getElem?_eq_getElem hlt] at hx; simp at hx; rw [hx]; rfl
      rw [← htk, hT] at hst
      have HST : Hid (∀ v, idxN (L.take (k + 1)) (hgt V h) v = idxN (L.take k) (hgt V h) v + if (m : Int) = v then (if x.length % 2 = 1 then (1 : Int) else -1) else 0) := hst
      have hxl := (HF.out x hxL).2.1
      have hxn := (HF.out x hxL).1
      have hx1 : 1 ≤ x.length := List.length_pos_iff.2 hxn
      have hev := fun W => evenness_ x.length hx1 (by omega) W
      obtain ⟨xn, hxn2⟩ : ∃ n, x.length = n := ⟨_, rfl⟩
      rw [hxn2] at hev g1 hcl hx1 hxl
      obtain ⟨ev, hev2⟩ : ∃ ev : Int, (if xn % 2 = 1 then (1 : Int) else -1) = ev := ⟨_, rfl⟩
      rw [hev2] at hev
      have hevb : -1 ≤ ev ∧ ev ≤ 1 := by rw [← hev2]; split <;> omega
      have hm100 : m < 100 := by omega
      have HST2 : Hid (∀ v : Nat, idxN (L.take (k + 1)) (hgt V h) (v : Int) = if v = m then idxN (L.take k) (hgt V h) (m : Int) + ev else idxN (L.take k) (hgt V h) (v : Int)) := fun v => by
        rw [HST.out, hxn2, hev2]
        by_cases e : v = m
        · subst e; rw [if_pos rfl, if_pos rfl]
        · rw [if_neg (show ¬ (m : Int) = (v : Int) by omega), if_neg e]; omega
      obtain ⟨q, hq⟩ : ∃ q, idxN (L.take k) (hgt V h) (m : Int) = q := ⟨_, rfl⟩
      have hqb : -600 ≤ q ∧ q ≤ 600 := by
        have := idxN_small (L.take k) (hgt V h) (m : Int)
        rw [hq, List.length_take] at this
        omega
      have HQ : Hid (idxN (L.take k) (hgt V h) (m : Int) = q) := hq
      have hw := wrapI (x := (xn : Int) - 1) (by omega) (by omega)
      have hw2 := wrapI (x := q + ev) (by omega) (by omega)
      clear hx hT hTv hst htk HST hxn hxn2 hev2 hq hc e1 i1
      go_wp2_with fail
      refine hcl.mono ?_
      clear hcl
      rintro e V1 ⟨rfl, hV⟩
      have HBV : Hid (Below w.heap.size w V1) := HB.out.trans (hV.mono HB.out.size)
      have H5V : Hid (NumsAt 81 G V1 (fun k => hiF V h (k : Int))) := H5'.out.below hV
      have H6V : Hid (NumsAt 81 (G + 1) V1 (fun v => idxN (L.take k) (hgt V h) (v : Int))) := H6'.out.below hV
      have HVV7 : Hid (VecAt 63 7 w.heap.size V1 (fun k => match k with | 0 => .slice a0 n0 c0 | 1 => .slice a1 n1 c1 | 2 => .slice a2 n2 c2 | 3 => .slice a3 n3 c3 | 4 => .slice a4 n4 c4 | 5 => .slice a5 n5 c5 | _ => .slice a6 n6 c6)) := HV7.out.below hV
      have HRV : Hid (RowsIn (fun b => b < w.heap.size ∨ W4.heap.size ≤ b) V1 (.slice (some ⟨b, o, none⟩) L.length cv) L) := HR7.out.below hV
      obtain ⟨k1, k2⟩ := H6V.out.cell hm100
      rw [HQ.out] at k1
      clear hV H5' H6' HV7 HR7 HB g1
      go_wp2_with fail
      go_region_with (first
        | (go_at_call 46; refine (hev _).mono ?_; rintro e V2 ⟨rfl, rfl⟩)
        | fail)
      all_goals
        go_wp2_with fail
        go_roundw
        case rel =>
          have hkk : ∀ b, b ≠ G + 1 → ((V1.setCell ⟨G + 1, m, none⟩ (.int .i64 (q + ev))).drew).heap[b]? = V1.heap[b]? := fun b hb => Below.heap_setCell _ _ _ b (fun e => hb e)
          refine ⟨k + 1, by omega, by go_num, (HBV.out.setCell (by show w.heap.size ≤ G + 1; omega) _).drew, H5V.out.keep (hkk _ (by omega)), ?_, HVV7.out.keep (hkk _ (by omega)), HRV.out.keep (fun b _ hb => hkk b (by have := HG5.out; omega))⟩
          have h1 := H6V.out.put m (q + ev)
          have hf : (fun v : Nat => if v = m then q + ev else idxN (L.take k) (hgt V h) (v : Int)) = fun v : Nat => idxN (L.take (k + 1)) (hgt V h) (v : Int) := funext fun v => by rw [HST2.out, HQ.out]
          rw [hf] at h1
          exact h1
        case measure => simp [intOf]; omega
    · obtain rfl : k = L.length := by omega
      have f0 := (HV7.out.cell (k := 0) (by omega)).1
      have f1 := (HV7.out.cell (k := 1) (by omega)).1
      have f2 := (HV7.out.cell (k := 2) (by omega)).1
      have f3 := (HV7.out.cell (k := 3) (by omega)).1
      have f4 := (HV7.out.cell (k := 4) (by omega)).1
      have f5 := (HV7.out.cell (k := 5) (by omega)).1
      have f6 := (HV7.out.cell (k := 6) (by omega)).1
      have H8 : Hid (NumsAt 81 (G + 1) wr (fun v => idxN L (hgt V h) (v : Int))) := by have := H6'.out; rw [List.take_length] at this; exact this
      clear HR7 H5' H6' HV7 HM HF
      go_wp2_with fail
      refine (HVs.out _).mono ?_
      rintro e V8 ⟨rfl, hV⟩
      have H9 : Hid (NumsAt 81 (G + 1) V8 (fun v => idxN L (hgt V h) (v : Int))) := H8.out.below hV
      have HB9 : Hid (Below w.heap.size w V8) := HB.out.trans (hV.mono HB.out.size)
      clear hV H8 HB HVs f0 f1 f2 f3 f4 f5 f6
      go_wp2_with fail
      go_loopw [10, 39] (fun vo p W => ∃ k : Nat, k ≤ V.length ∧ p = .int .i64 k ∧ W.ownsRow V8.heap.size 3 1 vo (R.take k).length ((R.take k).map (Value.int .i64)) ∧ Below V8.heap.size V8 W) (fun _ p _ => V.length - (intOf p).toNat)
      case atStart => exact ⟨0, by omega, rfl, by simp; exact World.ownsRow_nil _ _ _ _, Below.refl _ _⟩
      case round =>
        obtain ⟨k, hk, rfl, hown, hB⟩ := hrel
        have HBk : Hid (Below w.heap.size w wr) := HB9.out.trans (hB.mono HB9.out.size)
        have H9k : Hid (NumsAt 81 (G + 1) wr (fun v => idxN L (hgt V h) (v : Int))) := H9.out.below hB
        have hRl : R.length = V.length := by rw [← HR.out, List.length_map]
        have hml : (R.take k).length ≤ 100 := by rw [List.length_take]; omega
        obtain ⟨t, ht⟩ : ∃ t, R.take k = t := ⟨_, rfl⟩
        rw [ht] at hown hml
        have HT : Hid (R.take k = t) := ht
        have hbs := hB.size
        by_cases hlt : k < V.length
        · obtain ⟨ar, cr, e1, -, hc⟩ := HR0.out.open_
          obtain ⟨rfl, -, rfl⟩ : a0 = ar ∧ V.length = (V.map fun v => [v]).length ∧ c0 = cr := by simpa using e1
          obtain ⟨b, o, rfl, -, hb, hc⟩ := hc (by rw [List.length_map]; omega)
          obtain ⟨a1', p1', g1, i1⟩ := hc k (by rw [List.length_map]; omega)
          have hrow : (V.map fun v => [v])[k]?.getD [] = [V[k]] := by simp [hlt]
          rw [hrow] at g1 i1
          obtain ⟨m, hm⟩ : ∃ m : Nat, V[k] = (m : Int) := ⟨V[k].toNat, by have := (HVV.out _ (List.getElem_mem hlt)).1; omega⟩
          have hm100 : m < 100 := by have := (HVV.out _ (List.getElem_mem hlt)).2; omega
          have hRk : R[k]? = some (idxN L (hgt V h) (m : Int)) := by rw [← HR.out, List.getElem?_map, List.getElem?_eq_getElem hlt, hm]; rfl
          have htk : R.take (k + 1) = t ++ [idxN L (hgt V h) (m : Int)] := by rw [List.take_add_one, hRk, ht]; rfl
          obtain ⟨y, hy⟩ : ∃ y, idxN L (hgt V h) (m : Int) = y := ⟨_, rfl⟩
          have k1 := (H9k.out.cell hm100).1
          rw [hy] at htk k1
          have HTK : Hid (R.take (k + 1) = t ++ [y]) := htk
          rw [hm] at i1
          obtain ⟨a1'', p1'', e2, -, hx1⟩ := i1.open_
          obtain ⟨rfl, rfl⟩ : a1' = a1'' ∧ p1' = p1'' := by simpa using e2
          obtain ⟨b1, o1, rfl, -, hb1, hc1⟩ := hx1 (by simp)
          have g3 := (HBk.out.cell (p := ⟨b1, o1 + 0, none⟩) hb1).trans (hc1 0 (by simp))
          have g4 := (HBk.out.cell (p := ⟨b, o + k, none⟩) hb).trans g1
          simp only [List.length_cons, List.length_nil, Nat.zero_add, Nat.add_zero, List.getElem?_cons_zero, Option.getD_some] at g3 g4
          clear ht hRl hRk htk hy hrow hm g1 i1 e1 e2 hx1 hc1 hc
          go_wp2_with (first
            | (at_builtin; refine wpList_append_slice rfl (.tmp 43) (.tmp 49) 23 rfl V8.heap.size 3 j0 (.int .i64 0) 8 Tryz.underlying23 hj0 hy0 hy1 hy2 rfl _ _ _ rfl (hown.alloc _) _ [.int .i64 y] rfl (slice_one _ _ _) (by simp [Value.oneCell']) (by simp; omega) (by unfold maxLen; simp; omega) (by simp; omega) ?_; intro v3 w4 hown3 hg3 hl3)
            | go_in)
          (try go_frame)
          go_roundw
          case rel => exact ⟨k + 1, by omega, by go_num, by rw [HTK.out]; simpa using hown3, (hB.alloc hbs _).grown hg3 (by simp; omega) (fun j hj => (hown.lt j hj).1)⟩
          case measure => simp [intOf]; omega
        · obtain rfl : k = V.length := by omega
          have HRT : Hid (R = t) := by have := HT.out; rw [← hRl, List.take_length] at this; exact this
          have HI : Hid (Ints wr _ t) := slice_of_owns hown (fun b hb _ => trivial)
          clear ht hRl hown
          go_wp2_with fail
          go_ret
          exact ⟨_, rfl, by rw [HRT.out]; exact HI.out, HBk.out⟩

end Go.Proofs.YtmndhclmhjmbpaaGreatDoor
