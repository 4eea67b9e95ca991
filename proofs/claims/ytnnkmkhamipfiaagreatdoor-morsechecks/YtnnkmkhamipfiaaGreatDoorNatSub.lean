/- Words copied into a block that was just made. whole.Nat's Plus: the sum. whole.subtractInto: a multiple taken away in place. -/
import Derived.Test.YtnnkmkhamipfiaaGreatDoorNatAdd
import Derived.Test.YtnnkmkhamipfiaaGreatDoorAppendTypes
namespace Go.Proofs.YtnnkmkhamipfiaaGreatDoor
open Go.RowKit Go.Sort

theorem Tryz.infow : (Tryz.prog.info? 128).map (fun i => (i.zero, i.size, i.bytes)) = some (some (.int .u64 0), 1, 8) := by kernel_rfl
theorem Tryz.sizew : (Tryz.prog.info? 128).map (·.size) = some 1 := by kernel_rfl
def csF (F : Nat → Nat) (n : Nat) : List Value := (List.range n).map fun k => Value.int .u64 (F k : Int)
theorem csF_len (F : Nat → Nat) (n : Nat) : (csF F n).length = n := by unfold csF; rw [List.length_map, List.length_range]
theorem csF_at {F : Nat → Nat} {n k : Nat} {v : Value} (h : (csF F n)[k]? = some v) : k < n ∧ v = .int .u64 (F k : Int) := by
  unfold csF at h
  rw [List.getElem?_map] at h
  rcases Nat.lt_or_ge k n with h1 | h1
  · rw [List.getElem?_range h1] at h
    exact ⟨h1, (Option.some.inj h).symm⟩
  · rw [List.getElem?_eq_none (by simpa using h1)] at h
    cases h
theorem csF_one (F : Nat → Nat) (n : Nat) : ∀ v ∈ csF F n, v.oneCell' = true := fun v hv => by
  unfold csF at hv
  obtain ⟨k, -, rfl⟩ := List.mem_map.1 hv
  rfl
/-- What stands in the block behind the copy. -/
def padF (F : Nat → Nat) (n k : Nat) : Nat := if k < n then F k else 0
theorem padF_digs {F : Nat → Nat} {n : Nat} (h : digs F n) (N : Nat) : digs (padF F n) N := fun k _ => by
  unfold padF
  by_cases e : k < n
  · rw [if_pos e]; exact h k e
  · rw [if_neg e]; decide
theorem vF_padF (F : Nat → Nat) {n N : Nat} (h : n ≤ N) : vF (padF F n) N = vF F n := vF_upTo0 F h
theorem made_heap (w : World) (N : Nat) : (w.alloc (.cells (madeCells #[.int .u64 0] N) 128)).heap[w.heap.size]? = some (.cells (List.replicate N (.int .u64 0)).toArray 128 (0, 0)) := by
  have h1 : (madeCells #[.int .u64 0] N) = (List.replicate N (Value.int .u64 0)).toArray := by rw [← toList_madeCells_one]
  rw [h1]
  exact Array.getElem?_push_size
theorem row_spliced {W : World} {g N n : Nat} {F : Nat → Nat} (hn : n ≤ N) (h : W.heap[g]? = some (.cells (splice (List.replicate N (.int .u64 0)) 0 (csF F n)).toArray 128 (0, 0))) : W.rowIs g 128 N (fun j => .int .u64 (padF F n j : Int)) := by
  have hl : (splice (List.replicate N (Value.int .u64 0)) 0 (csF F n)).length = N := by
    unfold splice
    simp only [List.length_append, List.length_take, List.length_drop, List.length_replicate, csF_len]
    omega
  refine ⟨_, h, by simpa using hl, fun i hi => ?_⟩
  have e : (splice (List.replicate N (Value.int .u64 0)) 0 (csF F n))[i]? = some (.int .u64 (padF F n i : Int)) := by
    unfold splice padF
    rw [List.take_zero, List.nil_append]
    by_cases hin : i < n
    · rw [List.getElem?_append_left (by rw [csF_len]; exact hin), if_pos hin]
      unfold csF
      rw [List.getElem?_map, List.getElem?_range hin]
      rfl
    · rw [List.getElem?_append_right (by rw [csF_len]; omega), if_neg hin, List.getElem?_drop, List.getElem?_replicate, csF_len, if_pos (by omega)]
      rfl
  simpa using e
/-- The source's cells, for the copy. -/
theorem copy_src {w W : World} {a : Option Addr} {n : Nat} {F : Nat → Nat} (h : 0 < n → ∃ b o, a = some ⟨b, o, none⟩ ∧ ∀ k, k < n → w.cell? ⟨b, o + k, none⟩ = some (.int .u64 (F k : Int))) (hB : Below w.heap.size w W) :
    0 < (csF F n).length → ∃ ad, a = some ad ∧ ∀ j v, (csF F n)[j]? = some v → W.cell? (ad.add j) = some v := fun h0 => by
  rw [csF_len] at h0
  obtain ⟨b, o, e1, e2⟩ := h h0
  refine ⟨_, e1, fun j v hj => ?_⟩
  obtain ⟨h1, rfl⟩ := csF_at hj
  rw [Addr.add_lit]
  exact (hB.cell (p := ⟨b, o + j, none⟩) (cell_lt (e2 j h1))).trans (e2 j h1)

end Go.Proofs.YtnnkmkhamipfiaaGreatDoor

namespace Go.Proofs.YtnnkmkhamipfiaaGreatDoor
open Go.RowKit Go.Sort

set_option maxRecDepth 100000 in
set_option maxHeartbeats 1000000 in
theorem plus_t {va vb : Value} {x y : Nat} (w : World) (ha : NatAt w va x) (hb : NatAt w vb y) (hx : x < NatTop) (hy : y < NatTop) :
    Calls Tryz.prog 73 #[va, vb] w fun e w' => ∃ v, e = .returned v ∧ NatAt w' v (x + y) ∧ Below w.heap.size w w' ∧ ∀ b, v.ownBlock = some b → ∃ cur, w'.heap[b]? = some (.cells cur 128 (0, 0)) := by
  obtain ⟨n1, F1, ⟨a1, c1, rfl, hc1, hx1⟩, hd1, hl1, rfl⟩ := ha
  obtain ⟨n2, G2, ⟨a2, c2, rfl, hc2, hx2⟩, hd2, hl2, rfl⟩ := hb
  have hn1 := NatAt.len hl1 hx
  have hn2 := NatAt.len hl2 hy
  clear hx hy
  by_cases hnm : n1 < n2
  · rw [Nat.add_comm]
    have hlt : (n1 : Int) < (n2 : Int) := by omega
    have hmk : ∀ V, (Instr.makeSlice 90 (.int .i64 ((n2 : Int) + 1)) (.int .i64 ((n2 : Int) + 1))).run Tryz.prog V = .ok (.slice (some ⟨V.heap.size, 0, none⟩) (n2 + 1) (n2 + 1)) (V.alloc (.cells (madeCells #[.int .u64 0] (n2 + 1)) 128)) := fun V => run_make_row' (P := Tryz.prog) 90 128 (.int .u64 0) 8 Tryz.underlying90 Tryz.infow rfl .i64 .i64 (n2 + 1) (by omega) (by omega) V
    have hB1 : Below w.heap.size w (w.alloc (.cells (madeCells #[.int .u64 0] (n2 + 1)) 128)) := (Below.refl _ w).alloc (Nat.le_refl _) _
    have HM : Hid ((w.alloc (.cells (madeCells #[.int .u64 0] (n2 + 1)) 128)).heap[w.heap.size]? = some (.cells (List.replicate (n2 + 1) (.int .u64 0)).toArray 128 (0, 0)) ∧ Below w.heap.size w (w.alloc (.cells (madeCells #[.int .u64 0] (n2 + 1)) 128))) := ⟨made_heap w _, hB1⟩
    have HSRC : Hid (0 < (csF G2 n2).length → ∃ ad, a2 = some ad ∧ ∀ j v, (csF G2 n2)[j]? = some v → (w.alloc (.cells (madeCells #[.int .u64 0] (n2 + 1)) 128)).cell? (ad.add j) = some v) := copy_src hx2 hB1
    have HS : Hid (∀ V, Below w.heap.size w V → V.rowIs w.heap.size 128 (n2 + 1) (fun j => .int .u64 (padF G2 n2 j : Int)) → Calls Tryz.prog 101 #[.slice (some ⟨w.heap.size, 0, none⟩) (n2 + 1) (n2 + 1), .slice a1 n1 c1] V fun e V' => e = .returned (.int .u64 0) ∧ ∃ F' : Nat → Nat, V'.rowIs w.heap.size 128 (n2 + 1) (fun j => .int .u64 (F' j : Int)) ∧ digs F' (n2 + 1) ∧ vF F' (n2 + 1) = vF G2 n2 + vF F1 n1 ∧ Below w.heap.size w V') := fun V hV hrow => by
      have hbut : WordsBut w.heap.size V (.slice a1 n1 c1) n1 F1 := (WordsAt.but ⟨a1, c1, rfl, hc1, hx1⟩ (Nat.le_refl _)).below hV
      refine (addInto_ V hrow (Nat.le_refl _) (by omega) hbut (padF_digs hd2 _) hd1 (by omega)).mono fun e V' h => ?_
      obtain ⟨F', c, h1, h2, h3, h4, h5, h6⟩ := h
      rw [vF_padF G2 (by omega)] at h5
      have b1 := vF_lt hd2
      have b2 := vF_lt hd1
      have b3 : WB ^ n1 ≤ WB ^ n2 := Nat.pow_le_pow_right (by decide) (by omega)
      obtain rfl : c = 0 := by
        refine Nat.eq_zero_of_not_pos fun hc0 => ?_
        have hc1 : c = 1 := by omega
        rw [hc1, Nat.mul_one, Nat.pow_succ] at h5
        have b4 := Nat.mul_le_mul_left (WB ^ n2) (show 2 ≤ WB by decide)
        omega
      rw [Nat.mul_zero, Nat.add_zero] at h5
      exact ⟨h1, F', h3, h4, h5, hV.grown h6 hV.size (fun b e => by cases e; exact Nat.le_refl _)⟩
    clear hx2 hx1 hd2 hd1 hl2 hl1
    go_enter Tryz.func73, Tryz.ntmps73
    go_wp2_with (first
      | (refine wpList_copy_splice rfl (.tmp 17) (.tmp 18) 90 90 rfl 128 Tryz.underlying90 Tryz.sizew _ _ (n2 + 1) (n2 + 1) n2 c2 rfl rfl w.heap.size 0 (List.replicate (n2 + 1) (.int .u64 0)) 128 HM.out.1 (csF G2 n2) (by rw [csF_len]; exact (Nat.min_eq_left (Nat.le_succ n2)).symm) (fun h => ⟨rfl, HSRC.out h⟩) (by rw [csF_len, List.length_replicate]; omega) (csF_one _ _) w.heap.size w HM.out.2 (Nat.le_refl _) ?_; intro W1 hW1 hB2; have hadd := HS.out W1 hB2 (row_spliced (Nat.le_succ n2) hW1.out); clear hW1 hB2 HM HSRC HS)
      | (go_at_call 101; refine hadd.mono ?_; rintro e W2 ⟨rfl, F2, r1, r2, r3, r4⟩; have H2 : Hid (W2.rowIs w.heap.size 128 (n2 + 1) (fun j => .int .u64 (F2 j : Int)) ∧ digs F2 (n2 + 1) ∧ vF F2 (n2 + 1) = vF G2 n2 + vF F1 n1 ∧ Below w.heap.size w W2) := ⟨r1, r2, r3, r4⟩; have htr := trim_ (g := w.heap.size) (o := 0) (N := n2 + 1) (cap := n2 + 1) (F := F2) W2 (fun k hk => by rw [Nat.zero_add]; exact r1.cell hk) (Nat.le_refl _) (by omega); clear r1 r2 r3 r4 hadd)
      | (go_at_call 100; refine htr.mono ?_; rintro e W3 ⟨rfl, n3, hn3, rfl, hz3, hl3⟩; have H3 : Hid (NatAt W3 (.slice (some ⟨w.heap.size, 0, none⟩) n3 (n2 + 1)) (vF G2 n2 + vF F1 n1)) := (by rw [← H2.out.2.2.1, vF_zeros hn3 hz3]; exact NatAt.row H2.out.1 hn3 hn3 (fun k hk => H2.out.2.1 k (by omega)) hl3); clear hn3 hz3 hl3 htr)
      | fail)
    go_ret
    exact ⟨_, rfl, H3.out, H2.out.2.2.2, fun b e => by cases e; obtain ⟨cur, hc, _⟩ := H2.out.1; exact ⟨cur, hc⟩⟩
  · have hlt : ¬ ((n1 : Int) < (n2 : Int)) := by omega
    have hmk : ∀ V, (Instr.makeSlice 90 (.int .i64 ((n1 : Int) + 1)) (.int .i64 ((n1 : Int) + 1))).run Tryz.prog V = .ok (.slice (some ⟨V.heap.size, 0, none⟩) (n1 + 1) (n1 + 1)) (V.alloc (.cells (madeCells #[.int .u64 0] (n1 + 1)) 128)) := fun V => run_make_row' (P := Tryz.prog) 90 128 (.int .u64 0) 8 Tryz.underlying90 Tryz.infow rfl .i64 .i64 (n1 + 1) (by omega) (by omega) V
    have hB1 : Below w.heap.size w (w.alloc (.cells (madeCells #[.int .u64 0] (n1 + 1)) 128)) := (Below.refl _ w).alloc (Nat.le_refl _) _
    have HM : Hid ((w.alloc (.cells (madeCells #[.int .u64 0] (n1 + 1)) 128)).heap[w.heap.size]? = some (.cells (List.replicate (n1 + 1) (.int .u64 0)).toArray 128 (0, 0)) ∧ Below w.heap.size w (w.alloc (.cells (madeCells #[.int .u64 0] (n1 + 1)) 128))) := ⟨made_heap w _, hB1⟩
    have HSRC : Hid (0 < (csF F1 n1).length → ∃ ad, a1 = some ad ∧ ∀ j v, (csF F1 n1)[j]? = some v → (w.alloc (.cells (madeCells #[.int .u64 0] (n1 + 1)) 128)).cell? (ad.add j) = some v) := copy_src hx1 hB1
    have HS : Hid (∀ V, Below w.heap.size w V → V.rowIs w.heap.size 128 (n1 + 1) (fun j => .int .u64 (padF F1 n1 j : Int)) → Calls Tryz.prog 101 #[.slice (some ⟨w.heap.size, 0, none⟩) (n1 + 1) (n1 + 1), .slice a2 n2 c2] V fun e V' => e = .returned (.int .u64 0) ∧ ∃ F' : Nat → Nat, V'.rowIs w.heap.size 128 (n1 + 1) (fun j => .int .u64 (F' j : Int)) ∧ digs F' (n1 + 1) ∧ vF F' (n1 + 1) = vF F1 n1 + vF G2 n2 ∧ Below w.heap.size w V') := fun V hV hrow => by
      have hbut : WordsBut w.heap.size V (.slice a2 n2 c2) n2 G2 := (WordsAt.but ⟨a2, c2, rfl, hc2, hx2⟩ (Nat.le_refl _)).below hV
      refine (addInto_ V hrow (Nat.le_refl _) (by omega) hbut (padF_digs hd1 _) hd2 (by omega)).mono fun e V' h => ?_
      obtain ⟨F', c, h1, h2, h3, h4, h5, h6⟩ := h
      rw [vF_padF F1 (by omega)] at h5
      have b1 := vF_lt hd1
      have b2 := vF_lt hd2
      have b3 : WB ^ n2 ≤ WB ^ n1 := Nat.pow_le_pow_right (by decide) (by omega)
      obtain rfl : c = 0 := by
        refine Nat.eq_zero_of_not_pos fun hc0 => ?_
        have hc1 : c = 1 := by omega
        rw [hc1, Nat.mul_one, Nat.pow_succ] at h5
        have b4 := Nat.mul_le_mul_left (WB ^ n1) (show 2 ≤ WB by decide)
        omega
      rw [Nat.mul_zero, Nat.add_zero] at h5
      exact ⟨h1, F', h3, h4, h5, hV.grown h6 hV.size (fun b e => by cases e; exact Nat.le_refl _)⟩
    clear hx1 hx2 hd1 hd2 hl1 hl2
    go_enter Tryz.func73, Tryz.ntmps73
    go_wp2_with (first
      | (refine wpList_copy_splice rfl (.tmp 17) (.tmp 18) 90 90 rfl 128 Tryz.underlying90 Tryz.sizew _ _ (n1 + 1) (n1 + 1) n1 c1 rfl rfl w.heap.size 0 (List.replicate (n1 + 1) (.int .u64 0)) 128 HM.out.1 (csF F1 n1) (by rw [csF_len]; exact (Nat.min_eq_left (Nat.le_succ n1)).symm) (fun h => ⟨rfl, HSRC.out h⟩) (by rw [csF_len, List.length_replicate]; omega) (csF_one _ _) w.heap.size w HM.out.2 (Nat.le_refl _) ?_; intro W1 hW1 hB2; have hadd := HS.out W1 hB2 (row_spliced (Nat.le_succ n1) hW1.out); clear hW1 hB2 HM HSRC HS)
      | (go_at_call 101; refine hadd.mono ?_; rintro e W2 ⟨rfl, F2, r1, r2, r3, r4⟩; have H2 : Hid (W2.rowIs w.heap.size 128 (n1 + 1) (fun j => .int .u64 (F2 j : Int)) ∧ digs F2 (n1 + 1) ∧ vF F2 (n1 + 1) = vF F1 n1 + vF G2 n2 ∧ Below w.heap.size w W2) := ⟨r1, r2, r3, r4⟩; have htr := trim_ (g := w.heap.size) (o := 0) (N := n1 + 1) (cap := n1 + 1) (F := F2) W2 (fun k hk => by rw [Nat.zero_add]; exact r1.cell hk) (Nat.le_refl _) (by omega); clear r1 r2 r3 r4 hadd)
      | (go_at_call 100; refine htr.mono ?_; rintro e W3 ⟨rfl, n3, hn3, rfl, hz3, hl3⟩; have H3 : Hid (NatAt W3 (.slice (some ⟨w.heap.size, 0, none⟩) n3 (n1 + 1)) (vF F1 n1 + vF G2 n2)) := (by rw [← H2.out.2.2.1, vF_zeros hn3 hz3]; exact NatAt.row H2.out.1 hn3 hn3 (fun k hk => H2.out.2.1 k (by omega)) hl3); clear hn3 hz3 hl3 htr)
      | fail)
    go_ret
    exact ⟨_, rfl, H3.out, H2.out.2.2.2, fun b e => by cases e; obtain ⟨cur, hc, _⟩ := H2.out.1; exact ⟨cur, hc⟩⟩
theorem plus_ {va vb : Value} {x y : Nat} (w : World) (ha : NatAt w va x) (hb : NatAt w vb y) (hx : x < NatTop) (hy : y < NatTop) :
    Calls Tryz.prog 73 #[va, vb] w fun e w' => ∃ v, e = .returned v ∧ NatAt w' v (x + y) ∧ Below w.heap.size w w' := (plus_t w ha hb hx hy).mono fun _ _ h => by
  obtain ⟨v, h1, h2, h3, _⟩ := h
  exact ⟨v, h1, h2, h3⟩

end Go.Proofs.YtnnkmkhamipfiaaGreatDoor

namespace Go.Proofs.YtnnkmkhamipfiaaGreatDoor
open Go.RowKit Go.Sort

theorem mul_le_wb {a b : Nat} (ha : a < WB) (hb : b < WB) : a * b ≤ 340282366920938463426481119284349108225 :=
  Nat.mul_le_mul (show a ≤ 18446744073709551615 by unfold WB at ha; omega) (show b ≤ 18446744073709551615 by unfold WB at hb; omega)
/-- The words of one step. -/
theorem sub_words {x p c : Nat} (hx : x < WB) (hp : p ≤ 340282366920938463426481119284349108225) (hc : c < WB) :
    p / WB + (p % WB + c) / WB = (p + c) / WB ∧ (p % WB + c) % WB = (p + c) % WB ∧ p / WB < WB ∧ (p % WB + c) / WB ≤ 1 ∧ (p + c) / WB + (if x < (p + c) % WB then 1 else 0) < WB ∧ (x + WB - (p + c) % WB) % WB + (p + c) = x + WB * ((p + c) / WB + (if x < (p + c) % WB then 1 else 0)) ∧ (p + c) / WB < WB := by
  unfold WB at *
  by_cases h : x < (p + c) % 18446744073709551616
  · rw [if_pos h]; omega
  · rw [if_neg h]; omega
theorem sub_sum {P U T c x' x p c' : Nat} (h : U = T + P * c) (e : x' + (p + c) = x + WB * c') : U + P * x' + P * p = T + P * x + P * WB * c' := by
  have e2 : P * (x' + (p + c)) = P * (x + WB * c') := by rw [e]
  rw [Nat.mul_add, Nat.mul_add, Nat.mul_add, ← Nat.mul_assoc] at e2
  omega
/-- How far a difference in place has come. -/
structure SubAt (w : World) (g N : Nat) (F G : Nat → Nat) (m t i c : Nat) (W : World) (F' : Nat → Nat) : Prop where
  row : W.rowIs g 128 N (fun j => .int .u64 (F' j : Int))
  digs : digs F' N
  rest : ∀ k, i ≤ k → k < N → F' k = F k
  sum : vF F' i + t * vF (upTo0 G m) i = vF F i + WB ^ i * c
  kept : w.grownBy W (some g)
theorem SubAt.step {w : World} {g N : Nat} {F G : Nat → Nat} {m t i c : Nat} {W : World} {F' : Nat → Nat} (h : SubAt w g N F G m t i c W F') (_hi : i < N) {x' c' : Nat} (hx' : x' < WB) (hs : x' + (upTo0 G m i * t + c) = F i + WB * c') :
    SubAt w g N F G m t (i + 1) c' (W.setCell ⟨g, i, none⟩ (.int .u64 (x' : Int))) (fun j => if j = i then x' else F' j) where
  row := by
    refine (h.row.set i _).congr fun j _ => ?_
    by_cases e : j = i <;> simp [e]
  digs := fun k hk => by
    show (if k = i then x' else F' k) < WB
    by_cases e : k = i
    · rw [if_pos e]; exact hx'
    · rw [if_neg e]; exact h.digs k hk
  rest := fun k h1 h2 => by
    show (if k = i then x' else F' k) = F k
    rw [if_neg (by omega)]; exact h.rest k (by omega) h2
  sum := by
    have e : vF (fun j => if j = i then x' else F' j) i = vF F' i := vF_congr fun k hk => by rw [if_neg (by omega)]
    rw [vF, vF, vF, e, if_pos rfl, Nat.pow_succ, Nat.mul_add]
    have := sub_sum h.sum hs
    have e2 : t * (WB ^ i * upTo0 G m i) = WB ^ i * (upTo0 G m i * t) := by rw [Nat.mul_comm t, Nat.mul_assoc]
    omega
  kept := h.kept.trans ⟨rfl, rfl, rfl, by simp, fun k _ hk => Below.heap_setCell W ⟨g, i, none⟩ _ k (fun e => hk (by rw [e]))⟩

set_option maxRecDepth 100000 in
set_option maxHeartbeats 1000000 in
theorem subInto_ {g N cap m t : Nat} {F G : Nat → Nat} {vb : Value} (w : World) (hr : w.rowIs g 128 N (fun j => .int .u64 (F j : Int))) (hcap : N ≤ cap) (hm : m ≤ N) (hb : WordsBut g w vb m G) (hF : digs F N) (hG : digs G m) (ht : t < WB) (h9 : N ≤ 100000) :
    Calls Tryz.prog 99 #[.slice (some ⟨g, 0, none⟩) N cap, vb, .int .u64 (t : Int)] w fun e w' => ∃ (F' : Nat → Nat) (c : Nat), e = .returned (.int .u64 (c : Int)) ∧ c < WB ∧ w'.rowIs g 128 N (fun j => .int .u64 (F' j : Int)) ∧ digs F' N ∧ vF F' N + t * vF G m = vF F N + WB ^ N * c ∧ w.grownBy w' (some g) := by
  obtain ⟨ab, cb, rfl, hmb, hx⟩ := hb
  have HX : Hid (∀ W k, w.grownBy W (some g) → k < m → ∃ b o, ab = some ⟨b, o, none⟩ ∧ W.cell? ⟨b, o + k, none⟩ = some (.int .u64 (G k : Int))) := fun W k hW hk => by
    obtain ⟨b, o, e1, e2, e3⟩ := hx (by omega)
    refine ⟨b, o, e1, ?_⟩
    rw [World.cell?_of_block (hW.block b (cell_lt (e3 k hk)) (fun e => e2 (Option.some.inj e)))]
    exact e3 k hk
  have HS : Hid (SubAt w g N F G m t 0 0 w F) := ⟨hr, hF, fun _ _ _ => rfl, by simp [vF], World.grownBy.refl _ _⟩
  have HG := Hid.mk' hG
  have HT := Hid.mk' ht
  clear hx hr hF hG ht
  go_enter Tryz.func99, Tryz.ntmps99
  go_wp2_with fail
  go_loopw [7, 14] (fun pc p W => ∃ i c : Nat, i ≤ N ∧ c < WB ∧ pc = .int .u64 (c : Int) ∧ p = .int .i64 (i : Int) ∧ Hid (∃ F', SubAt w g N F G m t i c W F')) (fun _ p _ => N - (intOf p).toNat)
  case atStart => exact ⟨0, 0, by omega, by decide, rfl, rfl, F, HS.out⟩
  case round =>
    obtain ⟨i, c, hi, hc, rfl, rfl, HA⟩ := hrel
    obtain ⟨F', hA⟩ := HA.out
    have HA' := Hid.mk' hA
    have HC := Hid.mk' hc
    clear hc
    by_cases hiN : i < N
    · have y0 : (0 : Int) ≤ (i : Int) := by omega
      have y1 : (i : Int) < (N : Int) := by omega
      have ca := hA.row.cell hiN
      have fz := hA.row.frozen i
      rw [hA.rest i (Nat.le_refl _) hiN] at ca
      clear hA HA
      have hxl : F i < WB := by
        have := HA'.out.digs i hiN
        rwa [HA'.out.rest i (Nat.le_refl _) hiN] at this
      obtain ⟨x, hx1⟩ : ∃ x, F i = x := ⟨_, rfl⟩
      rw [hx1] at ca hxl
      by_cases him : i < m
      · obtain ⟨b, o, rfl, cb2⟩ := HX.out wr i HA'.out.kept him
        have hyl := HG.out i him
        obtain ⟨y, hy1⟩ : ∃ y, G i = y := ⟨_, rfl⟩
        rw [hy1] at cb2 hyl
        have hmul := fun V => Tryz.bits_Mul64 y t hyl HT.out V
        have hw := sub_words hxl (mul_le_wb hyl HT.out) HC.out
        have HST := Hid.mk' (fun x' c' (h1 : x' < WB) (h2 : x' + (y * t + c) = x + WB * c') => HA'.out.step hiN h1 (by unfold upTo0; rw [if_pos him, hy1, hx1]; exact h2))
        obtain ⟨p, hp⟩ : ∃ p, y * t = p := ⟨_, rfl⟩
        rw [hp] at hw HST
        simp only [hp] at hmul
        have hadd : ∀ V, (callFunc 123 #[.int .u64 ((p % WB : Nat) : Int), .int .u64 (c : Int), .int .u64 0]).run Tryz.prog V = .ok (.value (.tuple #[.int .u64 (((p % WB + c + 0) % WB : Nat) : Int), .int .u64 (((p % WB + c + 0) / WB : Nat) : Int)])) V := add64_ (p % WB) c 0 (by omega)
        rw [Nat.add_zero] at hadd
        obtain ⟨w1, w2, w3, w4, w5, w6, w7⟩ := hw
        have hsub : ∀ V, (callFunc 124 #[.int .u64 (x : Int), .int .u64 (((p + c) % WB : Nat) : Int), .int .u64 0]).run Tryz.prog V = .ok (.value (.tuple #[.int .u64 (((x + WB - (p + c) % WB - 0) % WB : Nat) : Int), .int .u64 ((if x < (p + c) % WB + 0 then 1 else 0 : Nat) : Int)])) V := sub64_ x ((p + c) % WB) 0 (by omega)
        rw [Nat.add_zero, Nat.sub_zero] at hsub
        rw [w2] at hadd
        obtain ⟨h0, e0⟩ : ∃ h0, p / WB = h0 := ⟨_, rfl⟩
        obtain ⟨l0, e1⟩ : ∃ l0, p % WB = l0 := ⟨_, rfl⟩
        obtain ⟨c1, e2⟩ : ∃ c1, (p % WB + c) / WB = c1 := ⟨_, rfl⟩
        obtain ⟨l1, e3⟩ : ∃ l1, (p + c) % WB = l1 := ⟨_, rfl⟩
        obtain ⟨h1, e4⟩ : ∃ h1, (p + c) / WB = h1 := ⟨_, rfl⟩
        obtain ⟨bb, e5⟩ : ∃ bb, (if x < (p + c) % WB then 1 else 0) = bb := ⟨_, rfl⟩
        obtain ⟨x', e6⟩ : ∃ x', (x + WB - (p + c) % WB) % WB = x' := ⟨_, rfl⟩
        have hx' : x' < WB := by rw [← e6]; exact Nat.mod_lt _ (by decide)
        rw [e0, e2, e4] at w1
        rw [e0] at w3
        rw [e2] at w4
        rw [e4, e5] at w5
        rw [e6, e4, e5] at w6
        rw [e4] at w7
        have HST2 := Hid.mk' (HST.out x' (h1 + bb) hx' w6)
        rw [e2, e3, e1] at hadd
        rw [e5, e6, e3] at hsub
        have hm2 : ∀ V, Calls Tryz.prog 121 #[.int .u64 (y : Int), .int .u64 (t : Int)] V fun e w' => e = .returned (.tuple #[.int .u64 (h0 : Int), .int .u64 (l0 : Int)]) ∧ w' = V := fun V => by rw [← e0, ← e1]; exact hmul V
        have z1 : (h0 : Int) + (c1 : Int) = (h1 : Int) := by omega
        have z2 : (h1 : Int) + (bb : Int) = ((h1 + bb : Nat) : Int) := by omega
        have z3 : (h1 : Int) ≤ 18446744073709551615 := by unfold WB at w7; omega
        have z4 : ((h1 + bb : Nat) : Int) ≤ 18446744073709551615 := by unfold WB at w5; omega
        have HW5 := Hid.mk' w5
        have him2 : (i : Int) < (m : Int) := by omega
        clear hx1 hy1 hp hmul e0 e1 e2 e3 e4 e5 e6 w1 w2 w3 w4 w5 w6 w7 HA' hxl hyl HST
        obtain ⟨c2, hc2⟩ : ∃ c2, h1 + bb = c2 := ⟨_, rfl⟩
        rw [hc2] at z2 z4 HST2 HW5
        clear hc2
        go_upto_region 9 with fail
        go_upto_region 10 with (go_at_call 121; refine (hm2 _).mono ?_; rintro e V ⟨rfl, hv⟩; subst hv)
        go_upto_region 11 with (simp only [hadd])
        go_upto_region 12 with fail
        go_upto_region 13 with (simp only [hsub])
        go_wp2_with fail
        go_roundw
        case rel => exact ⟨i + 1, c2, by omega, HW5.out, by go_num, by go_num, _, HST2.out⟩
        case measure => simp [intOf]; omega
      · have him2 : ¬ ((i : Int) < (m : Int)) := by omega
        have him3 : (m : Int) ≤ (i : Int) := by omega
        rcases Nat.eq_zero_or_pos c with h0 | h0
        · subst h0
          have HE : Hid (vF F' N + t * vF G m = vF F N + WB ^ N * 0) := by
            have h1 := vF_tail hi HA'.out.rest
            have h2 := HA'.out.sum
            rw [vF_upTo0 G (by omega), Nat.mul_zero] at h2
            show _ = _
            rw [Nat.mul_zero]
            omega
          clear hx1 hxl ca fz
          go_wp2_with fail
          go_ret
          exact ⟨F', 0, rfl, by decide, HA'.out.row, HA'.out.digs, HE.out, HA'.out.kept⟩
        · have hw := sub_words (p := 0) hxl (by omega) HC.out
          rw [Nat.zero_add, Nat.mod_eq_of_lt HC.out, Nat.div_eq_of_lt HC.out, Nat.zero_add] at hw
          obtain ⟨-, -, -, -, w5, w6, -⟩ := hw
          have HST := Hid.mk' (fun x' c' (h1 : x' < WB) (h2 : x' + c = x + WB * c') => HA'.out.step hiN h1 (by unfold upTo0; rw [if_neg him, hx1, Nat.zero_mul, Nat.zero_add]; exact h2))
          have hadd : ∀ V, (callFunc 123 #[.int .u64 0, .int .u64 (c : Int), .int .u64 0]).run Tryz.prog V = .ok (.value (.tuple #[.int .u64 (c : Int), .int .u64 0])) V := fun V => by
            have h := add64_ 0 c 0 (by omega) V
            rw [Nat.add_zero, Nat.zero_add, Nat.mod_eq_of_lt HC.out, Nat.div_eq_of_lt HC.out] at h
            exact h
          have hsub : ∀ V, (callFunc 124 #[.int .u64 (x : Int), .int .u64 (c : Int), .int .u64 0]).run Tryz.prog V = .ok (.value (.tuple #[.int .u64 (((x + WB - c - 0) % WB : Nat) : Int), .int .u64 ((if x < c + 0 then 1 else 0 : Nat) : Int)])) V := sub64_ x c 0 (by omega)
          rw [Nat.add_zero, Nat.sub_zero] at hsub
          obtain ⟨bb, e5⟩ : ∃ bb, (if x < c then 1 else 0) = bb := ⟨_, rfl⟩
          obtain ⟨x', e6⟩ : ∃ x', (x + WB - c) % WB = x' := ⟨_, rfl⟩
          have hx' : x' < WB := by rw [← e6]; exact Nat.mod_lt _ (by decide)
          rw [e5] at w5
          rw [e6, e5] at w6
          rw [e5, e6] at hsub
          have HST2 := Hid.mk' (HST.out x' bb hx' w6)
          have HW5 := Hid.mk' w5
          have z4 : (bb : Int) ≤ 18446744073709551615 := by unfold WB at w5; omega
          have hcz : ((c : Int) == 0) = false := beq_false_of_ne (by omega)
          clear hx1 e5 e6 w5 w6 HA' hxl HST
          go_upto_region 10 with fail
          go_upto_region 11 with (simp only [hadd])
          go_upto_region 12 with fail
          go_upto_region 13 with (simp only [hsub])
          go_wp2_with fail
          go_roundw
          case rel => exact ⟨i + 1, bb, by omega, HW5.out, by go_num, by go_num, _, HST2.out⟩
          case measure => simp [intOf]; omega
    · obtain rfl : i = N := by omega
      have HE : Hid (vF F' i + t * vF G m = vF F i + WB ^ i * c) := by
        have h2 := HA'.out.sum
        rw [vF_upTo0 G hm] at h2
        exact h2
      clear hA HA
      go_wp2_with fail
      go_ret
      exact ⟨F', c, rfl, HC.out, HA'.out.row, HA'.out.digs, HE.out, HA'.out.kept⟩

end Go.Proofs.YtnnkmkhamipfiaaGreatDoor
