/- The shelf's contracts of math/bits.Mul64 and Mul, laid over this program. A row that leads nowhere: slices.Repeat of one number. The tables of the faces up to a dimension, and of one dimension more; no program is spoken of but the cells' values. A slice appended onto a row of another slice type with the same elements: as onto one of its own type. -/
import Derived.Shelf.Bits.Mul64
import Derived.Test.YtnnkmkhamipfiaaGreatDoorProg
import Derived.Test.YtnnkmkhamipfiaaGreatDoorMorseSums
import Derived.Laws.CopyOwn
import Derived.Deep.RegionLaw
import Derived.Deep.DeepCutAuto
import Derived.Test.YtnnkmkhamipfiaaGreatDoorMorseUnder
import Derived.Test.YtnnkmkhamipfiaaGreatDoorBase
import Derived.Laws.OwnMore
namespace Go.Proofs
open Go.Shelf
def Tryz.lays264_ren : Go.Shelf.Ren := ⟨fun | 264 => 121 | n => n, fun | 53 => 128 | 46 => 158 | n => n, fun | n => n⟩
theorem Tryz.lays264 : Go.Proofs.Lays.n264 Tryz.prog Tryz.lays264_ren := {
  mixed := by kernel_rfl
  f264 := Tryz.func121.trans (congrArg some (by kernel_rfl))
  t46 := Tryz.underlying158
  a46 := Tryz.isAgg158
  z46 := Tryz.sizeOf158
  v46 := Tryz.zeroValue158
  t53 := Tryz.underlying128
  a53 := Tryz.isAgg128
  z53 := Tryz.sizeOf128
  v53 := Tryz.zeroValue128 }
open Go.RowKit Go.Lib in
theorem Tryz.bits_Mul64 (x y : Nat) (hx : x < 18446744073709551616) (hy : y < 18446744073709551616) (w : World) :
    Calls Tryz.prog 121 #[.int .u64 x, .int .u64 y] w fun e w' => e = .returned (.tuple #[.int .u64 ((x * y / 18446744073709551616 : Nat) : Int), .int .u64 ((x * y % 18446744073709551616 : Nat) : Int)]) ∧ w' = w := Any.bits_Mul64 Tryz.lays264 x y hx hy w
def Tryz.lays212_ren : Go.Shelf.Ren := ⟨fun | 212 => 94 | 263 => 120 | 264 => 121 | n => n, fun | 46 => 158 | 51 => 191 | 146 => 192 | 53 => 128 | 148 => 194 | n => n, fun | n => n⟩
theorem Tryz.lays212 : Go.Proofs.Lays.n212 Tryz.prog Tryz.lays212_ren := {
  mixed := by kernel_rfl
  f212 := Tryz.func94.trans (congrArg some (by kernel_rfl))
  f263 := Tryz.func120.trans (congrArg some (by kernel_rfl))
  f264 := Tryz.func121.trans (congrArg some (by kernel_rfl))
  t46 := Tryz.underlying158
  a46 := Tryz.isAgg158
  z46 := Tryz.sizeOf158
  v46 := Tryz.zeroValue158
  t51 := Tryz.underlying191
  a51 := Tryz.isAgg191
  z51 := Tryz.sizeOf191
  v51 := Tryz.zeroValue191
  t53 := Tryz.underlying128
  a53 := Tryz.isAgg128
  z53 := Tryz.sizeOf128
  v53 := Tryz.zeroValue128
  t146 := Tryz.underlying192
  a146 := Tryz.isAgg192
  z146 := Tryz.sizeOf192
  v146 := Tryz.zeroValue192
  t148 := Tryz.underlying194
  a148 := Tryz.isAgg194
  z148 := Tryz.sizeOf194
  v148 := Tryz.zeroValue194 }
open Go.RowKit Go.Lib in
theorem Tryz.bits_Mul (x y : Nat) (hx : x < 18446744073709551616) (hy : y < 18446744073709551616) (w : World) :
    Calls Tryz.prog 94 #[.int .u64 x, .int .u64 y] w fun e w' => e = .returned (.tuple #[.int .u64 ((x * y / 18446744073709551616 : Nat) : Int), .int .u64 ((x * y % 18446744073709551616 : Nat) : Int)]) ∧ w' = w := Any.bits_Mul Tryz.lays212 x y hx hy w
end Go.Proofs

namespace Go.Proofs.YtnnkmkhamipfiaaGreatDoor
open Go.RowKit Go.Sort

theorem Tryz.infoi : (Tryz.prog.info? 3).map (fun i => (i.zero, i.size, i.bytes)) = some (some (.int .i64 0), 1, 8) := by kernel_rfl
theorem Tryz.sizei : (Tryz.prog.info? 3).map (·.size) = some 1 := by kernel_rfl

def fillAt (W : World) (w : World) (g k m : Nat) : Prop := ∃ cur : List Value, W.heap[g]? = some (.cells cur.toArray 3 (0, 0)) ∧ cur.length = k ∧ (∀ j, j < m → cur[j]? = some (.int .i64 (-1))) ∧ Below w.heap.size w W

theorem splice_at {cur cs : List Value} {m k : Nat} (hk : cur.length = k) (h : ∀ j, j < m → cur[j]? = some (.int .i64 (-1))) (hc : ∀ v ∈ cs, v = .int .i64 (-1)) (hf : m + cs.length ≤ k) : (splice cur m cs).length = k ∧ ∀ j, j < m + cs.length → (splice cur m cs)[j]? = some (.int .i64 (-1)) := by
  unfold splice
  refine ⟨by simp; omega, fun j hj => ?_⟩
  by_cases e : j < m
  · rw [List.getElem?_append_left (by simp; omega), List.getElem?_take, if_pos e]
    exact h j e
  · rw [List.getElem?_append_right (by simp; omega), List.getElem?_append_left (by simp; omega)]
    have hl : (cur.take m).length = m := by simp; omega
    rw [hl, List.getElem?_eq_getElem (by omega)]
    exact congrArg some (hc _ (List.getElem_mem _))

set_option maxRecDepth 100000 in
set_option maxHeartbeats 2000000 in
theorem repeat_ (bx k : Nat) (w : World) (hx : w.cell? ⟨bx, 0, none⟩ = some (.int .i64 (-1))) (hk : k ≤ 1000) :
    Calls Tryz.prog 61 #[.slice (some ⟨bx, 0, none⟩) 1 1, .int .i64 (k : Int)] w fun e w' => ∃ g, e = .returned (.slice (some ⟨g, 0, none⟩) k k) ∧ w.heap.size ≤ g ∧ w'.rowIs g 3 k (fun _ => .int .i64 (-1)) ∧ Below w.heap.size w w' := by
  have hmk := run_make_row' (P := Tryz.prog) 29 3 (.int .i64 0) 8 Tryz.underlying29 Tryz.infoi rfl .i64 .i64 k (by omega) (by omega)
  have hmul := Tryz.bits_Mul 1 k (by omega) (by omega) w
  have e1 : 1 * k / 18446744073709551616 = 0 := by omega
  have e2 : 1 * k % 18446744073709551616 = k := by omega
  rw [e1, e2] at hmul
  have hbx : bx < w.heap.size := cell_lt hx
  have hx1 : (w.alloc (.cells (madeCells #[.int .i64 0] k) 3)).cell? ⟨bx, 0, none⟩ = some (.int .i64 (-1)) := (World.cell?_alloc_lt _ _ ⟨bx, 0, none⟩ hbx).trans hx
  have HM : Hid ((w.alloc (.cells (madeCells #[.int .i64 0] k) 3)).heap[w.heap.size]? = some (.cells (List.replicate k (.int .i64 0)).toArray 3 (0, 0)) ∧ Below w.heap.size w (w.alloc (.cells (madeCells #[.int .i64 0] k) 3))) := by
    refine ⟨?_, (Below.refl _ w).alloc (Nat.le_refl _) _⟩
    have h1 : (madeCells #[.int .i64 0] k) = (List.replicate k (Value.int .i64 0)).toArray := by rw [← toList_madeCells_one]
    rw [h1]
    exact Array.getElem?_push_size
  have hone : ∀ c, ∀ v ∈ List.replicate c (Value.int .i64 (-1)), v.oneCell' = true := fun c v hv => by rw [List.eq_of_mem_replicate hv]; rfl
  obtain ⟨c, hc⟩ : ∃ c, Nat.min 1 k = c := ⟨_, rfl⟩
  have HC : Hid (Nat.min 1 k = c) := hc
  have hcb : c ≤ k ∧ c ≤ 1 ∧ (k = 0 ∨ c = 1) := by
    have h1 : Nat.min 1 k = min 1 k := rfl
    omega
  have HOK : Hid (∀ V, Hid (V.heap[w.heap.size]? = some (.cells (splice (List.replicate k (.int .i64 0)) 0 (List.replicate c (.int .i64 (-1)))).toArray 3 (0, 0))) → Below w.heap.size w V → fillAt V w w.heap.size k c) := fun V h1 h2 => by
    have h3 := splice_at (cur := List.replicate k (.int .i64 0)) (cs := List.replicate c (.int .i64 (-1))) (m := 0) (k := k) (by simp) (fun j hj => by omega) (fun v hv => List.eq_of_mem_replicate hv) (by simp; omega)
    refine ⟨_, h1.out, h3.1, fun j hj => h3.2 j (by simp; omega), h2⟩
  have HSRC : Hid (∀ j v, (List.replicate c (Value.int .i64 (-1)))[j]? = some v → (w.alloc (.cells (madeCells #[.int .i64 0] k) 3)).cell? ((⟨bx, 0, none⟩ : Addr).add j) = some v) := fun j v hj => by
    have h1 := (List.getElem?_eq_some_iff.1 hj)
    obtain ⟨h1, h2⟩ := h1
    rw [List.length_replicate] at h1
    obtain rfl : j = 0 := by omega
    rw [List.getElem_replicate] at h2
    rw [← h2, Addr.add_lit]
    exact hx1
  clear e1 e2 hc
  go_enter Tryz.func61, Tryz.ntmps61
  go_wp2_with (first
    | (refine hmul.mono ?_; rintro e V ⟨rfl, rfl⟩; clear hmul)
    | (refine wpList_copy_splice rfl (.tmp 31) (.tmp 32) 29 29 rfl 3 Tryz.underlying29 Tryz.sizei _ _ k k 1 1 rfl rfl V.heap.size 0 (List.replicate k (.int .i64 0)) 3 HM.out.1 (List.replicate c (.int .i64 (-1))) (by rw [List.length_replicate]; exact HC.out.symm) (fun _ => ⟨rfl, ⟨bx, 0, none⟩, rfl, HSRC.out⟩) (by simp; omega) (hone c) V.heap.size V HM.out.2 (Nat.le_refl _) ?_; intro W1 hW1 hB1; have HF := Hid.mk' (HOK.out W1 hW1 hB1); clear hW1 hB1 HOK HM HSRC)
    | fail)
  obtain ⟨g, hg⟩ : ∃ g, V.heap.size = g := ⟨_, rfl⟩
  have HG : Hid (V.heap.size = g) := hg
  rw [hg] at HF ⊢
  go_loopw [8] (fun p W => ∃ m : Nat, m ≤ k ∧ (k = 0 ∨ 1 ≤ m) ∧ p = .int .i64 m ∧ Hid (fillAt W V g k m)) (fun p _ => k - (intOf p).toNat)
  case atStart => exact ⟨c, by omega, by omega, rfl, HF.out⟩
  case round =>
    obtain ⟨m, hm, hm0, rfl, HK⟩ := hrel
    by_cases hmk2 : m < k
    · obtain ⟨d, hd⟩ : ∃ d, Nat.min m (k - m) = d := ⟨_, rfl⟩
      have HD : Hid (Nat.min m (k - m) = d) := hd
      have hdb : d ≤ m ∧ d ≤ k - m ∧ 1 ≤ d := by
        have h1 : Nat.min m (k - m) = min m (k - m) := rfl
        omega
      clear hd
      obtain ⟨cur, hcur, hcl, hcv, hcb2⟩ := HK.out
      have HCU : Hid (wr.heap[g]? = some (.cells cur.toArray 3 (0, 0)) ∧ cur.length = k ∧ (∀ j, j < m → cur[j]? = some (.int .i64 (-1))) ∧ Below V.heap.size V wr) := ⟨hcur, hcl, hcv, hcb2⟩
      have HSR : Hid (∀ j v, (List.replicate d (Value.int .i64 (-1)))[j]? = some v → wr.drew.cell? ((⟨g, 0, none⟩ : Addr).add j) = some v) := fun j v hj => by
        obtain ⟨h1, h2⟩ := (List.getElem?_eq_some_iff.1 hj)
        rw [List.length_replicate] at h1
        rw [List.getElem_replicate] at h2
        rw [← h2, Addr.add_lit, Nat.zero_add]
        show wr.cell? ⟨g, j, none⟩ = _
        simp only [World.cell?, hcur]
        simpa using hcv j (by omega)
      have HNX : Hid (∀ V', Hid (V'.heap[g]? = some (.cells (splice cur m (List.replicate d (.int .i64 (-1)))).toArray 3 (0, 0))) → Below V.heap.size V V' → fillAt V' V g k (m + d)) := fun V' h1 h2 => by
        have h3 := splice_at (cur := cur) (cs := List.replicate d (.int .i64 (-1))) (m := m) (k := k) hcl hcv (fun v hv => List.eq_of_mem_replicate hv) (by simp; omega)
        exact ⟨_, h1.out, h3.1, fun j hj => h3.2 j (by simp; omega), h2⟩
      have hne : ¬ k = m := by omega
      have z0 : (0 : Int) ≤ (m : Int) := by omega
      have z1 : (m : Int) ≤ (k : Int) := by omega
      have hwr : IntKind.i64.wrap ((m : Int) + (d : Int)) = ((m + d : Nat) : Int) := by rw [wrapI (by omega) (by omega)]; omega
      clear hcur hcl hcv hcb2 hmk hx hx1 HF
      go_wp2_with fail
      go_region_law (refine step_copy_splice (by rfl) (.tmp 41) (.tmp 44) 29 29 (by rfl) 3 Tryz.underlying29 Tryz.sizei (some ⟨g, m, none⟩) (some ⟨g, 0, none⟩) (k - m) (k - m) m k (by simp [Act.eval, Act.put]) (by simp [Act.eval, Act.put]) g m cur 3 HCU.out.1 (List.replicate d (.int .i64 (-1))) (by rw [List.length_replicate]; exact HD.out.symm) (fun _ => ⟨rfl, ⟨g, 0, none⟩, rfl, HSR.out⟩) (by simp; have := HCU.out.2.1; omega) (hone d) V.heap.size V HCU.out.2.2.2.drew (by rw [HG.out]; exact Nat.le_refl _) ?_; intro W4 hg4 hb4; have H4 := Hid.mk' (HNX.out W4 hg4 hb4); clear hg4 hb4)
      all_goals go_wp2_with fail
      all_goals go_simp
      all_goals go_roundw
      · exact ⟨m + d, by omega, by omega, by go_num, H4.out⟩
      · simp [intOf]; omega
    · obtain rfl : m = k := by omega
      go_wp2_with fail
      go_ret
      obtain ⟨cur, hcur, hcl, hcv, hcb2⟩ := HK.out
      refine ⟨g, rfl, by rw [HG.out]; exact Nat.le_refl _, ⟨cur.toArray, hcur, by simpa using hcl, fun i hi => by simpa using hcv i hi⟩, hcb2⟩

end Go.Proofs.YtnnkmkhamipfiaaGreatDoor

namespace Go.Proofs.YtnnkmkhamipfiaaGreatDoor
open Go.RowKit Go.Sort

theorem at_left {P C : List (List Int)} {i : Nat} (h : i < P.length) : faceAt (P ++ C) i = faceAt P i := by unfold faceAt; rw [List.getElem?_append_left h]
theorem at_right {P C : List (List Int)} {i : Nat} (h : P.length ≤ i) : faceAt (P ++ C) i = faceAt C (i - P.length) := by unfold faceAt; rw [List.getElem?_append_right h]
theorem at_len {C : List (List Int)} {n : Nat} (hC : ∀ x ∈ C, x.length = n) {i : Nat} (h : i < C.length) : (faceAt C i).length = n := hC _ (faceAt_mem h)

theorem under_len {r c : List Int} (h : underB r c = true) : r.length + 1 = c.length := (underB_iff.1 h).1

theorem filter_none {n : Nat} {p : Nat → Bool} (h : ∀ i, i < n → p i = false) : (List.range n).filter p = [] := List.filter_eq_nil_iff.2 fun i hi => by rw [h i (List.mem_range.1 hi)]; simp
theorem filter_front {n m : Nat} {p : Nat → Bool} (h : ∀ i, n ≤ i → i < n + m → p i = false) : (List.range (n + m)).filter p = (List.range n).filter p := by
  induction m with
  | zero => rfl
  | succ m ih =>
    rw [← Nat.add_assoc, List.range_succ, List.filter_append, ih (fun i h1 h2 => h i h1 (by omega))]
    have := h (n + m) (by omega) (by omega)
    simp [this]

/-- One dimension more, and no pair of it done. -/
theorem tables_more {P C : List (List Int)} {d lo : Nat} (hP : ∀ x ∈ P, x.length ≤ d) (hC : ∀ x ∈ C, x.length = d + 1) (hlo : ∀ i, i < lo → (faceAt P i).length < d) (hll : lo ≤ P.length) :
    sidesC (P ++ C) (doneP P.length lo 0 0) = sidesC P allD ++ List.replicate C.length [] ∧ oversC (P ++ C) (doneP P.length lo 0 0) = oversC P allD ++ List.replicate C.length [] := by
  have hlen : (P ++ C).length = P.length + C.length := List.length_append
  have hPl : ∀ i, i < P.length → (faceAt (P ++ C) i).length ≤ d := fun i h => by rw [at_left h]; exact hP _ (faceAt_mem h)
  have hCl : ∀ i, P.length ≤ i → i < P.length + C.length → (faceAt (P ++ C) i).length = d + 1 := fun i h h2 => by rw [at_right h]; exact at_len hC (by omega)
  -- a pair that is under each other and done
  have key : ∀ i k, i < P.length + C.length → k < P.length + C.length → (underB (faceAt (P ++ C) i) (faceAt (P ++ C) k) && doneP P.length lo 0 0 i k) = (decide (i < P.length) && decide (k < P.length) && underB (faceAt (P ++ C) i) (faceAt (P ++ C) k)) := fun i k hi hk => by
    cases hu : underB (faceAt (P ++ C) i) (faceAt (P ++ C) k) with
    | false => simp
    | true =>
      have h1 := under_len hu
      rw [Bool.true_and, Bool.and_true, Bool.eq_iff_iff]
      unfold doneP
      simp only [Bool.or_eq_true, Bool.and_eq_true, decide_eq_true_eq]
      constructor
      · intro h
        by_cases hkP : k < P.length
        · refine ⟨?_, hkP⟩
          rcases Nat.lt_or_ge i P.length with h2 | h2
          · exact h2
          · have := hCl i h2 hi
            have := hPl k hkP
            omega
        · exfalso
          have h3 := hCl k (by omega) hk
          have h4 : i < lo := by omega
          have h5 := hlo i h4
          rw [at_left (by omega)] at h1
          omega
      · intro h; exact .inl h.2
  constructor
  · refine List.ext_getElem? fun k => ?_
    by_cases hk : k < P.length + C.length
    · rw [sidesC_at (by rw [hlen]; exact hk)]
      by_cases hkP : k < P.length
      · rw [List.getElem?_append_left (by rw [sidesC_len]; exact hkP), sidesC_at hkP]
        unfold sidC
        have e1 : sidD (P ++ C) (doneP P.length lo 0 0) k = sidD P allD k := by
          unfold sidD
          rw [hlen, filter_front (fun i h1 h2 => by rw [key i k h2 hk, decide_eq_false (by omega)]; rfl)]
          refine List.filter_congr fun i hi => ?_
          have hi := List.mem_range.1 hi
          rw [key i k (by omega) hk, decide_eq_true hi, decide_eq_true hkP, at_left hi, at_left hkP]
          simp [allD]
        rw [e1]
        congr 2
        refine List.map_congr_left fun i hi => ?_
        have hi := List.mem_range.1 (List.mem_filter.1 hi).1
        unfold sideP
        rw [at_left hi, at_left hkP]
      · rw [List.getElem?_append_right (by rw [sidesC_len]; omega), sidesC_len, List.getElem?_replicate, if_pos (by omega)]
        unfold sidC sidD
        rw [hlen, filter_none (fun i hi => by rw [key i k hi hk, decide_eq_false hkP]; simp)]
        rfl
    · rw [List.getElem?_eq_none (by rw [sidesC_len, hlen]; omega), List.getElem?_eq_none (by rw [List.length_append, sidesC_len, List.length_replicate]; omega)]
  · refine List.ext_getElem? fun i => ?_
    by_cases hi : i < P.length + C.length
    · rw [oversC_at (by rw [hlen]; exact hi)]
      by_cases hiP : i < P.length
      · rw [List.getElem?_append_left (by rw [oversC_len]; exact hiP), oversC_at hiP]
        unfold ovC
        have e1 : ovD (P ++ C) (doneP P.length lo 0 0) i = ovD P allD i := by
          unfold ovD
          rw [hlen, filter_front (fun k h1 h2 => by rw [key i k hi h2, decide_eq_false (show ¬ k < P.length by omega)]; simp)]
          refine List.filter_congr fun k hk => ?_
          have hk := List.mem_range.1 hk
          rw [key i k hi (by omega), decide_eq_true hiP, decide_eq_true hk, at_left hiP, at_left hk]
          simp [allD]
        rw [e1]
      · rw [List.getElem?_append_right (by rw [oversC_len]; omega), oversC_len, List.getElem?_replicate, if_pos (by omega)]
        unfold ovC ovD
        rw [hlen, filter_none (fun k hk => by rw [key i k hi hk, decide_eq_false hiP]; simp)]
        rfl
    · rw [List.getElem?_eq_none (by rw [oversC_len, hlen]; omega), List.getElem?_eq_none (by rw [List.length_append, oversC_len, List.length_replicate]; omega)]

/-- All pairs of it done. -/
theorem tables_done {P C : List (List Int)} {d lo Rn : Nat} (hC : ∀ x ∈ C, x.length = d + 1) (hlo : lo + Rn = P.length) :
    sidesC (P ++ C) (doneP P.length lo Rn 0) = sidesC (P ++ C) allD ∧ oversC (P ++ C) (doneP P.length lo Rn 0) = oversC (P ++ C) allD := by
  have key : ∀ i k, i < (P ++ C).length → k < (P ++ C).length → underB (faceAt (P ++ C) i) (faceAt (P ++ C) k) = true → doneP P.length lo Rn 0 i k = allD i k := fun i k hi hk hu => by
    rw [List.length_append] at hi hk
    have h1 := under_len hu
    unfold doneP allD
    rw [Bool.or_eq_true, Bool.or_eq_true]
    rcases Nat.lt_or_ge k P.length with h | h
    · exact .inl (decide_eq_true h)
    · rcases Nat.lt_or_ge i P.length with h2 | h2
      · exact .inr (.inl (decide_eq_true (by omega)))
      · exfalso
        have e1 := at_len hC (i := i - P.length) (by omega)
        have e2 := at_len hC (i := k - P.length) (by omega)
        rw [at_right h2, at_right h] at h1
        omega
  exact ⟨sidesC_congr key, oversC_congr key⟩

/-- The parts of the list up to a dimension. -/
theorem numTo_len_le {all : List (List Int)} {d : Nat} : ∀ x ∈ numTo all d, x.length ≤ d := fun _ h => (numTo_mem.1 h).2.2
theorem ofDim_len {all : List (List Int)} {d : Nat} : ∀ x ∈ ofDim all (d : Int), x.length = d + 1 := fun x h => by
  have := (List.mem_filter.1 h).2
  rw [decide_eq_true_eq] at this
  omega
theorem ofDim_below {all : List (List Int)} (hs : ∀ x ∈ all, x ≠ []) : ofDim all (-1) = [] := List.filter_eq_nil_iff.2 fun x hx h => by
  rw [decide_eq_true_eq] at h
  exact hs x hx (List.eq_nil_of_length_eq_zero (by omega))

/-- Where the dimension before begins. -/
def loOf (all : List (List Int)) (d : Nat) : Nat := (numTo all d).length - (ofDim all ((d : Int) - 1)).length
theorem lo_facts {all : List (List Int)} (hs : ∀ x ∈ all, x ≠ []) (d : Nat) : loOf all d + (ofDim all ((d : Int) - 1)).length = (numTo all d).length ∧ (∀ i, i < loOf all d → (faceAt (numTo all d) i).length < d) ∧ ∀ r, r < (ofDim all ((d : Int) - 1)).length → faceAt (numTo all d) (loOf all d + r) = faceAt (ofDim all ((d : Int) - 1)) r := by
  cases d with
  | zero =>
    have e : ofDim all (((0 : Nat) : Int) - 1) = [] := ofDim_below hs
    have e2 : numTo all 0 = [] := rfl
    unfold loOf
    rw [e, e2]
    refine ⟨rfl, fun i hi => ?_, fun r hr => ?_⟩
    · simp at hi
    · simp at hr
  | succ d =>
    have e : (((d + 1 : Nat) : Int) - 1) = (d : Int) := by omega
    unfold loOf
    rw [e, numTo_succ, List.length_append]
    refine ⟨by omega, fun i hi => ?_, fun r hr => ?_⟩
    · rw [at_left (by omega)]
      have := numTo_len_le _ (faceAt_mem (L := numTo all d) (i := i) (by omega))
      omega
    · rw [at_right (by omega)]
      congr 1
      omega

end Go.Proofs.YtnnkmkhamipfiaaGreatDoor

namespace Go.Proofs.YtnnkmkhamipfiaaGreatDoor
open Go.RowKit Go.Sort

theorem append_types {P : Program} {t u ty e e' : TypeId} (ht : P.underlying t = some (.slice e)) (hu : P.underlying u = some (.slice e')) (a : Option Addr) (n c : Nat) (x : Value) (w : World) : (Builtin.append_ #[t, u] ty #[.slice a n c, x]).run P w = (Builtin.append_ #[t, t] ty #[.slice a n c, x]).run P w := by
  unfold Builtin.append_
  simp [go_sem, run_underlying ht, run_underlying hu, sizeOf]

theorem own_slice {W : World} {base : Nat} {t : TypeId} {k : Nat} {v : Value} {n : Nat} {xs : List Value} (h : W.ownsRow base t k v n xs) : ∃ a cap, v = .slice a n cap := by
  rcases h.2 with ⟨rfl, rfl⟩ | ⟨g, cap, cur, rfl, _⟩
  · exact ⟨_, _, rfl⟩
  · exact ⟨_, _, rfl⟩

/-- As wpList_append_slice, of two types. -/
theorem wpList_append_slice2 {P : Program} {w : World} {ops : Array Oper} {rest : List Oper} {o : Oper} {a : Act} {Q : Exit → Act → World → Prop} (hgd : o.guard = none) (s x : Operand) (t u' e' : TypeId) (hu' : P.underlying u' = some (.slice e'))
    (ho : o.op = .call { callee := .builtin .append, args := #[s, x], argTypes := #[t, u'] })
    (base : Nat) (e : TypeId) (i : TypeInfo) (z : Value) (bytes : Nat) (ht : P.underlying t = some (.slice e)) (hi : P.info? e = some i) (hz : i.zero = some z)
    (hsize : i.size = 1) (hby : i.bytes = bytes) (hzs : z.cells.size = 1)
    (v : Value) (n : Nat) (xs : List Value) (hs : a.eval s = v) (hown : w.ownsRow base e 1 v n xs)
    {S : Nat → Prop} (u : Value) (news : List Value) (hx : a.eval x = u) (hu : SliceIn S w u news) (h1 : ∀ c ∈ news, c.oneCell' = true)
    (hbytes : (n + news.length) * bytes ≤ 140737488355328) (h63 : n + news.length ≤ maxLen) (hbase : base ≤ w.heap.size)
    (h : ∀ v' w', w'.ownsRow base e 1 v' (n + news.length) (xs ++ news) → w.grownBy w' v.ownBlock → (v'.ownBlock = v.ownBlock ∨ v'.ownBlock = some w.heap.size) → wpList P ops Q rest (a.put o.dst v') w') : wpList P ops Q (o :: rest) a w := by
  obtain ⟨av, cv, rfl⟩ := own_slice hown
  obtain ⟨ao, cap, rfl, ⟨hc, hn⟩, hcs⟩ := hu
  refine wpList_plain hgd fun K hK => ?_
  cases ao with
  | none =>
    obtain rfl := hn rfl
    have hnil : news = [] := List.eq_nil_of_length_eq_zero (by omega)
    subst hnil
    have hr := run_append_owned_none (P := P) (w := w) base t o.type e i 1 ht hi _ n xs hown
    rw [← append_types (u := u') ht hu'] at hr
    unfold Oper.wp execOp
    simp only [ho, resolve, invoke, builtin, Sem.run_bind, Sem.run_pure, Result.andThen_ok, List.map_toArray, List.map_cons, List.map_nil, hs, hx, List.length_nil, hr]
    exact hK _ _ (h _ w (by simpa using hown) ⟨rfl, rfl, rfl, Nat.le_refl _, fun _ _ _ => rfl⟩ (.inl rfl))
  | some ad =>
    obtain ⟨v', w', hr, h2, h3, h4, h5⟩ := run_append_own_at (P := P) w base t o.type e i z 1 bytes ht hi hz hsize hby hzs (by decide) _ n xs hown ad news.length cap news (by simp) (fun j c hj => by
      have hl : 0 < news.length := by
        have := (List.getElem?_eq_some_iff.1 hj).1
        omega
      obtain ⟨b, off, e1, _, e3⟩ := hcs hl
      cases e1
      rw [Addr.add_lit]
      exact e3 j c hj) h1 h63 hbytes hbase
    rw [← append_types (u := u') ht hu'] at hr
    unfold Oper.wp execOp
    simp only [ho, resolve, invoke, builtin, Sem.run_bind, Sem.run_pure, Result.andThen_ok, List.map_toArray, List.map_cons, List.map_nil, hs, hx, hr]
    exact hK _ _ (h v' w' h2 h3 h5)

end Go.Proofs.YtnnkmkhamipfiaaGreatDoor
