/- What Faces answers, in memory of the caller's own. What complex answers: what is left, made into a complex. What has, onlyOver, cut and cutPair answer and do. -/
import Derived.Test.YthdmfeidcldafaaGreatDoorReadsFV
import Derived.Test.YthdmfeidcldafaaGreatDoorMorseNumber2
import Derived.Test.YthdmfeidcldafaaGreatDoorMorseColl
import Derived.Test.YthdmfeidcldafaaGreatDoorOpen
import Derived.Test.YthdmfeidcldafaaGreatDoorMorseShape
import Derived.Deep.DeepCutAuto
namespace Go.Proofs.YthdmfeidcldafaaGreatDoor
open Go.RowKit Go.Sort Go.Maps Go.Deep

/-- What Faces answers of a complex. -/
def FacesH (a : Nat → Addr) (l : List (List Int)) (dim : Int) (w : World) (e : Ending) (w' : World) : Prop :=
  Below w.heap.size w w' ∧ ((∃ i, BadAt l i ∧ e = .returned (.tuple #[.slice none 0 0, .iface 176 (.pointer (some (a i)))])) ∨
    ∃ all v, Good l all ∧ e = .returned (.tuple #[v, .nilIface]) ∧ OwnRows w.heap.size w' v (ofDim all dim))

set_option maxRecDepth 100000 in
set_option maxHeartbeats 1000000 in
theorem faces_own {a : Nat → Addr} {s : Nat → ByteArray} (vl : Value) (l : List (List Int)) (dim : Int) (w : World) (hE : Errs a s w) (hl : Rows w vl l) (hll : l.length ≤ 100000) (hle : ∀ x ∈ l, x.length ≤ 1000) :
    Calls Tryz.prog 41 #[.agg #[vl], .int .i64 dim] w fun e w' => FacesH a l dim w e w' := by
  obtain ⟨al, cl, rfl, -, -⟩ := hl.open_
  have hBa : Below w.heap.size w (w.alloc (.cells #[.slice al l.length cl] 32)) := (Below.refl _ w).alloc (Nat.le_refl _) _
  have hop := open_g _ l (w.alloc (.cells #[.slice al l.length cl] 32)) (hE.below hBa) (hl.below hBa) hll hle
  have hbc := (box_new w (.slice al l.length cl) 32).1
  clear hl
  go_enter Tryz.func41, Tryz.ntmps41
  go_wp2_with fail
  refine hop.mono ?_
  clear hop
  rintro e w2 ⟨hB2, ⟨i, hbad, rfl⟩ | ⟨all, b, F, G, hg, ht, rfl, hP, -⟩⟩
  · have HBD : Hid (BadAt l i) := hbad
    clear hbad
    go_wp2
    go_ret2
    exact ⟨below_out (below_after hB2 (Below.refl _ w2)), .inl ⟨i, HBD.out, rfl⟩⟩
  · have hfa := faces_ b F G dim w2 hP (by have := ht.few; omega) (fun x hx => by have := ht.short x hx; omega)
    have HG : Hid (Good l all ∧ Told F all) := ⟨hg, ht⟩
    clear hg ht hP
    go_wp2_with fail
    refine hfa.mono ?_
    clear hfa
    rintro e w3 ⟨v3, ss, rfl, h1, h2, h3, h4⟩
    have hsm := told_small_dim HG.out.2 h2 h3
    have hli := lists_ v3 (srtS ss) w3 (SliceIn.mono h1 (fun _ _ _ => trivial)) hsm.1 hsm.2
    have HD : Hid ((srtS ss).map ints = ofDim all dim) := told_dim HG.out.2 h2 h3
    have HB3 : Hid (Below w.heap.size w w3) := below_out (below_after hB2 h4)
    clear h1 h2 h3 h4 hsm
    go_wp2_with fail
    refine hli.mono ?_
    clear hli
    rintro e w4 ⟨v4, rfl, h5, h6⟩
    rw [HD.out] at h5
    have HR : Hid (OwnRows w.heap.size w4 v4 (ofDim all dim)) := h5.lower HB3.out.size
    clear h5
    go_wp2
    go_ret2
    exact ⟨HB3.out.trans (h6.mono HB3.out.size), .inr ⟨all, v4, HG.out.1, rfl, HR.out⟩⟩

end Go.Proofs.YthdmfeidcldafaaGreatDoor

namespace Go.Proofs.YthdmfeidcldafaaGreatDoor
open Go.RowKit Go.Sort

theorem numTo_more (all : List (List Int)) (d : Nat) : ∀ k, ∃ R, numTo all (d + k) = numTo all d ++ R
  | 0 => ⟨[], by simp⟩
  | k + 1 => by
    obtain ⟨R, h⟩ := numTo_more all d k
    exact ⟨R ++ ofDim all ((d + k : Nat) : Int), by rw [← Nat.add_assoc, numTo_succ, h, List.append_assoc]⟩
theorem len_topN {l : List (List Int)} {x : List Int} (h : x ∈ l) : x.length ≤ topN l := by
  induction l with
  | nil => cases h
  | cons y l ih =>
    simp only [topN]
    rcases List.mem_cons.1 h with rfl | h
    · omega
    · have := ih h; omega
theorem numTo_top (all : List (List Int)) (k : Nat) : numTo all (topN all + k) = numL all := by
  induction k with
  | zero => rfl
  | succ k ih =>
    rw [← Nat.add_assoc, numTo_succ, ih]
    have : ofDim all ((topN all + k : Nat) : Int) = [] := List.eq_nil_iff_forall_not_mem.2 fun x hx => by
      have h1 := ofDim_len x hx
      have h2 := len_topN (List.mem_filter.1 hx).1
      omega
    rw [this, List.append_nil]
theorem numTo_seven {l all : List (List Int)} (g : Good l all) : numTo all 7 = numL all := by
  have h := top_short g
  obtain ⟨k, hk⟩ : ∃ k, 7 = topN all + k := ⟨7 - topN all, by omega⟩
  rw [hk]
  exact numTo_top all k
theorem face_in {l all : List (List Int)} (g : Good l all) {d j : Nat} (hd : d < 7) (hj : j < (ofDim all (d : Int)).length) :
    (numTo all d).length + j < (numL all).length ∧ faceAt (numL all) ((numTo all d).length + j) = (ofDim all (d : Int))[j]?.getD [] := by
  obtain ⟨k, hk⟩ : ∃ k, 7 = (d + 1) + k := ⟨7 - (d + 1), by omega⟩
  obtain ⟨R, hR⟩ := numTo_more all (d + 1) k
  rw [← hk, numTo_seven g] at hR
  have hl : (numTo all (d + 1)).length = (numTo all d).length + (ofDim all (d : Int)).length := by rw [numTo_succ, List.length_append]
  refine ⟨by rw [hR, List.length_append]; omega, ?_⟩
  rw [hR, at_left (by omega), numTo_succ, at_right (by omega), Nat.add_sub_cancel_left]

theorem OwnRows.rowsIn' {base : Nat} {w : World} {v : Value} {xss : List (List Int)} (h : OwnRows base w v xss) : RowsIn (fun bl => base ≤ bl ∧ bl < w.heap.size) w v xss := by
  obtain ⟨vs, h1, h2⟩ := h
  exact ⟨vs, slice_of_owns h1 (fun b h hb => ⟨h, (h1.lt b hb).2⟩), by have := h1.1; simpa using this, fun k u x hu hx => SliceIn.mono (h2 k u x hu hx) (fun _ hb h => ⟨h.1, hb⟩)⟩

end Go.Proofs.YthdmfeidcldafaaGreatDoor

namespace Go.Proofs.YthdmfeidcldafaaGreatDoor
open Go.RowKit Go.Sort

/-- The five cells of a rest in a variable. -/
theorem rest_cells (w : World) (a b c d e : Value) (t : TypeId) : ∀ j u, [a, b, c, d, e][j]? = some u → (w.alloc (.cells #[a, b, c, d, e] t)).cell? ⟨w.heap.size, j, none⟩ = some u := fun j u hu => by
  have := cells_new w [a, b, c, d, e] t j u hu
  rwa [Addr.add_lit, Nat.zero_add] at this

set_option maxRecDepth 100000 in
theorem has_ (f : Int) (n : Nat) (_hn : n ≤ 600) (ad aS ao : Option Addr) (cd cs co : Nat) (w : World) :
    Calls Tryz.prog 39 #[shapeV n ad aS ao cd cs co, .int .i64 f] w fun e w' => e = .returned (.bool (decide (0 ≤ f ∧ f < (n : Int)))) ∧ Below w.heap.size w w' := by
  have hBa : Below w.heap.size w (w.alloc (.cells #[.slice ad n cd, .slice aS n cs, .slice ao n co] 56)) := (Below.refl _ w).alloc (Nat.le_refl _) _
  have c0 : (w.alloc (.cells #[.slice ad n cd, .slice aS n cs, .slice ao n co] 56)).cell? ⟨w.heap.size, 0, none⟩ = some (.slice ad n cd) := by
    have := cells_new w [.slice ad n cd, .slice aS n cs, .slice ao n co] 56 0 _ rfl
    rwa [Addr.add_lit, Nat.zero_add] at this
  unfold shapeV
  by_cases h0 : 0 ≤ f
  · by_cases h1 : f < (n : Int)
    · rw [decide_eq_true ⟨h0, h1⟩]
      go_enter Tryz.func39, Tryz.ntmps39
      go_wp2
      go_ret
      exact ⟨rfl, hBa⟩
    · rw [decide_eq_false fun h => h1 h.2]
      go_enter Tryz.func39, Tryz.ntmps39
      go_wp2
      go_ret
      exact ⟨rfl, hBa⟩
  · rw [decide_eq_false fun h => h0 h.1]
    go_enter Tryz.func39, Tryz.ntmps39
    go_wp2
    go_ret
    exact ⟨rfl, hBa⟩

/-- What onlyOver answers. -/
def OnlySays (L : List (List Int)) (left : Nat → Bool) (f : Int) (w : World) (e : Ending) (w' : World) : Prop :=
  Below w.heap.size w w' ∧ ((∃ i k : Nat, f = (i : Int) ∧ i < L.length ∧ ovL L left i = [k] ∧ e = .returned (.tuple #[.int .i64 (k : Int), .bool true])) ∨
    ((∀ i : Nat, f = (i : Int) → i < L.length → ∀ k, ovL L left i ≠ [k]) ∧ e = .returned (.tuple #[.int .i64 0, .bool false])))

theorem overI_get {L : List (List Int)} {i j : Nat} (h : j < (ovD L allD i).length) : (overI L i)[j]? = some (((ovD L allD i)[j] : Nat) : Int) := by
  unfold overI
  rw [List.getElem?_map, List.getElem?_eq_getElem h]; rfl

set_option maxRecDepth 100000 in
set_option maxHeartbeats 2000000 in
theorem only_over {B : Nat} {L : List (List Int)} {ad aS ao : Option Addr} {cd cs co gl gc : Nat} {left : Nat → Bool} (f : Int) (w : World) (h : RestAt B w L ad aS ao cd cs co gl gc left) (hL6 : L.length ≤ 600) :
    Calls Tryz.prog 25 #[restV L.length ad aS ao cd cs co gl gc, .int .i64 f] w fun e w' => OnlySays L left f w e w' := by
  have HR : Hid (RestAt B w L ad aS ao cd cs co gl gc left) := h
  obtain ⟨n, hn⟩ : ∃ n, L.length = n := ⟨_, rfl⟩
  have HNN : Hid (L.length = n) := hn
  have hBa : Below w.heap.size w (w.alloc (.cells #[.slice ad n cd, .slice aS n cs, .slice ao n co, .slice (some ⟨gl, 0, none⟩) n n, .slice (some ⟨gc, 0, none⟩) n n] 61)) := (Below.refl _ w).alloc (Nat.le_refl _) _
  have hce := rest_cells w (.slice ad n cd) (.slice aS n cs) (.slice ao n co) (.slice (some ⟨gl, 0, none⟩) n n) (.slice (some ⟨gc, 0, none⟩) n n) 61
  have c0 := hce 0 _ rfl
  have c1 := hce 1 _ rfl
  have c2 := hce 2 _ rfl
  have c3 := hce 3 _ rfl
  have c4 := hce 4 _ rfl
  have hha := has_ f n (by omega) ad aS ao cd cs co (w.alloc (.cells #[.slice ad n cd, .slice aS n cs, .slice ao n co, .slice (some ⟨gl, 0, none⟩) n n, .slice (some ⟨gc, 0, none⟩) n n] 61))
  unfold restV
  unfold shapeV at hha
  rw [hn] at hL6 ⊢
  clear h hce hn
  go_enter Tryz.func25, Tryz.ntmps25
  go_upto_region 1 with fail
  obtain ⟨X, hX⟩ : ∃ X, w.alloc (.cells #[.slice ad n cd, .slice aS n cs, .slice ao n co, .slice (some ⟨gl, 0, none⟩) n n, .slice (some ⟨gc, 0, none⟩) n n] 61) = X := ⟨_, rfl⟩
  obtain ⟨xb, hxb⟩ : ∃ xb, w.heap.size = xb := ⟨_, rfl⟩
  have hxl : xb < X.heap.size := by rw [← hX, ← hxb]; simp
  rw [hX] at hha
  rw [hX, hxb] at c0 c1 c2 c3 c4 hBa
  try rw [hX]
  try rw [hxb]
  have HXB : Hid (w.heap.size = xb) := hxb
  have HRX : Hid (RestAt B X L ad aS ao cd cs co gl gc left) := HR.out.below (by rw [hxb]; exact hBa)
  clear hX hxb HR
  by_cases hin : 0 ≤ f ∧ f < (n : Int)
  · rw [decide_eq_true hin] at hha
    obtain ⟨i, rfl⟩ : ∃ i : Nat, f = (i : Int) := ⟨f.toNat, by omega⟩
    have hi : i < n := by omega
    clear hin
    by_cases hone : ∃ k, ovL L left i = [k]
    · have hcn : ((ovL L left i).length : Int) = 1 := int_one.2 hone
      have HON : Hid (∃ k, ovL L left i = [k]) := hone
      obtain ⟨ao', co', eo, -, hov⟩ := HRX.out.shape.over.open_
      rw [oversI_len, HNN.out] at eo hov
      cases eo
      obtain ⟨bo, oo, rfl, hbB, hbl, hrows⟩ := hov (by omega)
      obtain ⟨a1, p1, g1, i1⟩ := hrows i hi
      rw [oversI_at (by rw [HNN.out]; exact hi)] at g1 i1
      obtain ⟨m, hm⟩ : ∃ m, (overI L i).length = m := ⟨_, rfl⟩
      have hmL : (ovD L allD i).length = m := by rw [← hm]; simp [overI]
      have HML : Hid ((ovD L allD i).length = m) := hmL
      have hm6 : m ≤ 600 := by rw [← hmL]; refine Nat.le_trans (List.length_filter_le _ _) ?_; rw [List.length_range, HNN.out]; exact hL6
      rw [hm] at g1 i1
      have HI1 : Hid (IntsIn (fun b => b < B) X (.slice a1 m p1) (overI L i)) := i1
      clear hov hrows i1 hm hmL hone
      go_upto_region 4 with (go_at_call 39; refine hha.mono ?_; rintro e V ⟨rfl, hV⟩; have HV : Hid (Below X.heap.size X V) := hV; have HRV := Hid.mk' (HRX.out.below hV); have d2 := (hV.cell (p := ⟨xb, 2, none⟩) hxl).trans c2; have d3 := (hV.cell (p := ⟨xb, 3, none⟩) hxl).trans c3; have d4 := (hV.cell (p := ⟨xb, 4, none⟩) hxl).trans c4; have dc := HRV.out.counts.cell (i := i) (by rw [HNN.out]; exact hi); rw [hcn] at dc; have e1 := (hV.cell (p := ⟨bo, oo + i, none⟩) hbl).trans g1; clear hV hha)
      go_wp2_with fail
      go_loopw [28] (fun p W => ∃ j : Nat, j ≤ m ∧ p = .int .i64 j ∧ W = V ∧ Hid (∀ q x, q < j → (ovD L allD i)[q]? = some x → left x = false)) (fun p _ => m - (intOf p).toNat)
      case atStart => exact ⟨0, by omega, rfl, rfl, fun q x hq => by omega⟩
      case round =>
        obtain ⟨j, hj, rfl, rfl, HNL⟩ := hrel
        by_cases hjm : j < m
        · obtain ⟨x, hx⟩ : ∃ x, (ovD L allD i)[j]? = some x := ⟨_, List.getElem?_eq_getElem (by rw [HML.out]; exact hjm)⟩
          obtain ⟨a', c', ea, -, hax⟩ := HI1.out.open_
          have hol : (overI L i).length = m := by rw [← HML.out]; simp [overI]
          rw [hol] at ea hax
          cases ea
          obtain ⟨bx, ox, rfl, -, hbx, hxc⟩ := hax (by omega)
          have k1 := (HV.out.cell (p := ⟨bx, ox + j, none⟩) hbx).trans (hxc j hjm)
          have hxe : (overI L i)[j]?.getD 0 = (x : Int) := by unfold overI; rw [List.getElem?_map, hx]; rfl
          rw [hxe] at k1
          have hxm : x ∈ ovD L allD i := List.mem_iff_getElem?.2 ⟨j, hx⟩
          have hxn : x < n := by
            have := (List.mem_filter.1 hxm).1
            rw [List.mem_range, HNN.out] at this; exact this
          have hxu := (List.mem_filter.1 hxm).2
          have k2 := HRV.out.lefts.cell (i := x) (by rw [HNN.out]; exact hxn)
          have HXU : Hid (underB (faceAt L i) (faceAt L x) = true) := by
            rw [Bool.and_eq_true] at hxu; exact hxu.1
          have HXJ : Hid ((ovD L allD i)[j]? = some x) := hx
          have z0 : (0 : Int) ≤ (x : Int) := by omega
          have z1 : (x : Int) < (n : Int) := by omega
          have z2 : (j : Int) < (m : Int) := by omega
          clear hax hxc hxe hxm hxu hx
          cases hlx : left x with
          | true =>
            rw [hlx] at k2
            have HLX : Hid (left x = true) := hlx
            clear hlx
            go_wp2_with fail
            go_ret2
            unfold OnlySays
            rw [HXB.out]
            refine ⟨hBa.trans (HV.out.mono (by omega)), .inl ⟨i, x, rfl, by rw [HNN.out]; exact hi, ?_, rfl⟩⟩
            obtain ⟨k, hk⟩ := HON.out
            have hxo : x ∈ ovL L left i := by
              unfold ovL
              rw [List.mem_filter, List.mem_range, Bool.and_eq_true]
              exact ⟨by rw [HNN.out]; exact hxn, HXU.out, HLX.out⟩
            rw [hk] at hxo
            rw [hk, List.mem_singleton.1 hxo]
          | false =>
            rw [hlx] at k2
            have HN2 : Hid (∀ q y, q < j + 1 → (ovD L allD i)[q]? = some y → left y = false) := fun q y hq hy => by
              rcases Nat.lt_or_ge q j with h | h
              · exact HNL.out q y h hy
              · obtain rfl : q = j := by omega
                rw [HXJ.out] at hy; cases hy; exact hlx
            clear hlx
            go_wp2_with fail
            go_roundw
            case rel => exact ⟨j + 1, by omega, by go_num, (by first | trivial | rfl), HN2.out⟩
            case measure => simp [intOf]; omega
        · exfalso
          obtain rfl : j = m := by omega
          obtain ⟨k, hk⟩ := HON.out
          have hkm : k ∈ ovL L left i := by rw [hk]; exact .head _
          obtain ⟨h1, h2⟩ := List.mem_filter.1 hkm
          rw [Bool.and_eq_true] at h2
          have hkd : k ∈ ovD L allD i := List.mem_filter.2 ⟨h1, by rw [h2.1]; rfl⟩
          obtain ⟨q, hq⟩ := List.mem_iff_getElem?.1 hkd
          have hql : q < j := by rw [← HML.out]; exact (List.getElem?_eq_some_iff.1 hq).1
          have := HNL.out q k hql hq
          rw [h2.2] at this; cases this
    · obtain ⟨cn, hcn⟩ : ∃ cn : Int, ((ovL L left i).length : Int) = cn := ⟨_, rfl⟩
      have hc1 : (cn != 1) = true := by
        rw [bne_iff_ne, ← hcn]
        exact fun e => hone (int_one.1 e)
      have HNO : Hid (∀ j : Nat, ((i : Nat) : Int) = (j : Int) → j < L.length → ∀ k, ovL L left j ≠ [k]) := fun j e _ k hk => by
        obtain rfl : i = j := by omega
        exact hone ⟨k, hk⟩
      clear hone
      go_wp2_with (first
        | (go_at_call 39; refine hha.mono ?_; rintro e V ⟨rfl, hV⟩; have HV : Hid (Below X.heap.size X V) := hV; have HRV := Hid.mk' (HRX.out.below hV); have d2 := (hV.cell (p := ⟨xb, 2, none⟩) hxl).trans c2; have d3 := (hV.cell (p := ⟨xb, 3, none⟩) hxl).trans c3; have d4 := (hV.cell (p := ⟨xb, 4, none⟩) hxl).trans c4; have dc := HRV.out.counts.cell (i := i) (by rw [HNN.out]; exact hi); rw [hcn] at dc; clear hV hha)
        | fail)
      go_ret2
      unfold OnlySays
      rw [HXB.out]
      exact ⟨hBa.trans (HV.out.mono (by omega)), .inr ⟨HNO.out, rfl⟩⟩
  · rw [decide_eq_false hin] at hha
    have HNO : Hid (∀ i : Nat, f = (i : Int) → i < L.length → ∀ k, ovL L left i ≠ [k]) := fun i e hi => by rw [HNN.out] at hi; exact absurd (by omega) hin
    clear hin
    go_wp2_with (first
      | (go_at_call 39; refine hha.mono ?_; rintro e V ⟨rfl, hV⟩; have HV : Hid (Below xb w V) := hBa.trans (hV.mono (by omega)); clear hV)
      | fail)
    go_ret2
    unfold OnlySays
    rw [HXB.out]
    exact ⟨HV.out, .inr ⟨HNO.out, rfl⟩⟩

end Go.Proofs.YthdmfeidcldafaaGreatDoor
