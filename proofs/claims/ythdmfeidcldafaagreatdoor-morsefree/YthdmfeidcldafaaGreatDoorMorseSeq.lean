/- What freePairs hands on. -/
import Derived.Test.YthdmfeidcldafaaGreatDoorRangeA
import Derived.Test.YthdmfeidcldafaaGreatDoorMorseColl
import Derived.Test.YthdmfeidcldafaaGreatDoorMorseRest
namespace Go.Proofs.YthdmfeidcldafaaGreatDoor
open Go.RowKit Go.Shelf Go.Sort Go.Maps

def duoV (p : Duo) : Value := .agg #[.int .i64 p.1, .int .i64 p.2]

/-- The blocks that hold a rest. -/
def restS (B gl gc : Nat) (b : Nat) : Prop := b < B ∨ b = gl ∨ b = gc
theorem RestAt.keepB {B : Nat} {W W' : World} {L : List (List Int)} {ad aS ao : Option Addr} {cd cs co gl gc : Nat} {left : Nat → Bool} (h : RestAt B W L ad aS ao cd cs co gl gc left) (hs : W.heap.size ≤ W'.heap.size) (hk : ∀ b, restS B gl gc b → W'.heap[b]? = W.heap[b]?) : RestAt B W' L ad aS ao cd cs co gl gc left :=
  ⟨h.shape.keep hs (fun b _ hb => hk b (.inl hb)), h.lefts.of_block (hk gl (.inr (.inl rfl))), h.counts.of_block (hk gc (.inr (.inr rfl))), h.bl, h.bc, h.ne⟩
theorem RestAt.lt {B : Nat} {W : World} {L : List (List Int)} {ad aS ao : Option Addr} {cd cs co gl gc : Nat} {left : Nat → Bool} (h : RestAt B W L ad aS ao cd cs co gl gc left) : ∀ b, restS B gl gc b → b < W.heap.size := fun b hb => by
  have h1 := h.lefts.lt
  have h2 := h.counts.lt
  have h3 := h.bl
  rcases hb with h | h | h <;> omega

theorem freeP_ov {L : List (List Int)} (hL : FaceList L) {left : Nat → Bool} (hc : Cplx L left) {i q : Nat} (hi : i < L.length) (h : ovL L left i = [q]) : freeP L left i = [((i : Int), (q : Int))] := freeP_one ((free_iff hL hc hi).2 h)
theorem freeP_ovno {L : List (List Int)} (hL : FaceList L) {left : Nat → Bool} (hc : Cplx L left) {i : Nat} (hi : i < L.length) (h : ∀ q, ovL L left i ≠ [q]) : freeP L left i = [] := freeP_no fun e => by
  obtain ⟨q, hq⟩ := one_ex e
  exact h q ((free_iff hL hc hi).1 hq)
theorem freeTo_short {L : List (List Int)} {left : Nat → Bool} {k n : Nat} {x : Duo} (hk : k < n) (h : freeP L left k = [x]) : (freeTo L left k).length < (freeTo L left n).length := by
  obtain ⟨d, rfl⟩ : ∃ d, n = (k + 1) + d := ⟨n - (k + 1), by omega⟩
  have : ∀ d, (freeTo L left k).length < (freeTo L left (k + 1 + d)).length := fun d => by
    induction d with
    | zero => rw [Nat.add_zero, freeTo_succ, List.length_append, h]; simp
    | succ d ih => rw [← Nat.add_assoc, freeTo_succ, List.length_append]; omega
  exact this d

set_option maxRecDepth 100000 in
set_option maxHeartbeats 4000000 in
theorem free_seq {B : Nat} {L : List (List Int)} {ad aS ao : Option Addr} {cd cs co gl gc : Nat} {left : Nat → Bool} (w : World) (h : RestAt B w L ad aS ao cd cs co gl gc left) (hL6 : L.length ≤ 600) (hF : FaceList L) (hC : Cplx L left) :
    SeqA Tryz.prog 24 #[restV L.length ad aS ao cd cs co gl gc] #[] duoV (freeTo L left L.length) (restS B gl gc) w := by
  intro l J M W hW hJ hM hY h0
  have HJ : Hid (∀ s A C, J s A → Below A.heap.size A C → J s C ∧ ∀ b, M s C b → M s A b) := hJ
  have HM : Hid (∀ s A b, J s A → M s A b → ¬ restS B gl gc b ∧ b < A.heap.size) := hM
  have HLT : Hid (∀ b, restS B gl gc b → b < w.heap.size) := h.lt
  have HY : Hid (∀ pre x W1, J pre W1 → pre.length < (freeTo L left L.length).length → YieldAt Fence.wide 8 Tryz.prog l #[duoV x] W1 fun e W' => e = .returned (.bool true) ∧ J (pre ++ [x]) W' ∧ RoundKept M pre x W1 W') := hY
  have HFC : Hid (FaceList L ∧ Cplx L left) := ⟨hF, hC⟩
  have HOO : Hid (∀ (i : Nat) (V : World), w.heap.size ≤ V.heap.size → (∀ b, restS B gl gc b → V.heap[b]? = w.heap[b]?) → Calls Tryz.prog 25 #[restV L.length ad aS ao cd cs co gl gc, .int .i64 (i : Int)] V fun e w' => OnlySays L left (i : Int) V e w') := fun i V h1 h2 => only_over (i : Int) V (h.keepB h1 h2) hL6
  have hJ0 : J [] (W.alloc (.cells #[.slice ad L.length cd, .slice aS L.length cs, .slice ao L.length co, .slice (some ⟨gl, 0, none⟩) L.length L.length, .slice (some ⟨gc, 0, none⟩) L.length L.length] 61)) ∧ ¬ M [] (W.alloc (.cells #[.slice ad L.length cd, .slice aS L.length cs, .slice ao L.length co, .slice (some ⟨gl, 0, none⟩) L.length L.length, .slice (some ⟨gc, 0, none⟩) L.length L.length] 61)) W.heap.size := by
    have h1 := hJ [] W _ h0 ((Below.refl _ W).alloc (Nat.le_refl _) (.cells #[.slice ad L.length cd, .slice aS L.length cs, .slice ao L.length co, .slice (some ⟨gl, 0, none⟩) L.length L.length, .slice (some ⟨gc, 0, none⟩) L.length L.length] 61))
    exact ⟨h1.1, fun hm => by have := (hM [] W _ h0 (h1.2 _ hm)).2; omega⟩
  have HWB : Hid (∀ b, restS B gl gc b → (W.alloc (.cells #[.slice ad L.length cd, .slice aS L.length cs, .slice ao L.length co, .slice (some ⟨gl, 0, none⟩) L.length L.length, .slice (some ⟨gc, 0, none⟩) L.length L.length] 61)).heap[b]? = w.heap[b]?) := fun b hb => (Below.heap_alloc W _ b (by have := hW.size; have := h.lt b hb; omega)).trans (hW.block b (h.lt b hb))
  have hce := rest_cells W (.slice ad L.length cd) (.slice aS L.length cs) (.slice ao L.length co) (.slice (some ⟨gl, 0, none⟩) L.length L.length) (.slice (some ⟨gc, 0, none⟩) L.length L.length) 61
  have hws := hW.size
  unfold restV at HOO ⊢
  obtain ⟨n, hn⟩ : ∃ n, L.length = n := ⟨_, rfl⟩
  have HNN : Hid (L.length = n) := hn
  rw [hn] at HOO hJ0 hce HWB hL6 HY ⊢
  clear h hF hC hJ hM hY hW hn h0
  refine callsIn_of_wp Tryz.func24 rfl trivial ?_ rfl
  simp only [Tryz.ntmps24, List.size_toArray, List.length_cons, List.length_nil, Nat.reduceAdd, Nat.reduceSub, Array.replicate_succ, Array.replicate_zero, List.push_toArray, List.append_toArray, List.nil_append, List.cons_append]
  have c0 := hce 0 _ rfl
  gi_wp2
  obtain ⟨X, hX⟩ : ∃ X, W.alloc (.cells #[.slice ad n cd, .slice aS n cs, .slice ao n co, .slice (some ⟨gl, 0, none⟩) n n, .slice (some ⟨gc, 0, none⟩) n n] 61) = X := ⟨_, rfl⟩
  obtain ⟨xb, hxb⟩ : ∃ xb, W.heap.size = xb := ⟨_, rfl⟩
  have hxl : X.heap.size = xb + 1 := by rw [← hX, ← hxb]; simp
  rw [hX] at hJ0 HWB hce
  rw [hxb] at hJ0 hce hws
  try rw [hX]
  try rw [hxb]
  have HCE : Hid (∀ j u, [Value.slice ad n cd, .slice aS n cs, .slice ao n co, .slice (some ⟨gl, 0, none⟩) n n, .slice (some ⟨gc, 0, none⟩) n n][j]? = some u → X.cell? ⟨xb, j, none⟩ = some u) := hce
  have HJ0 := Hid.mk' hJ0
  have HXL : Hid (X.heap.size = xb + 1) := hxl
  clear hX hxb hce c0 hJ0 hxl
  gi_loopw [11] (fun p wr => ∃ k : Nat, k ≤ n ∧ p = .int .i64 k ∧ Hid (J (freeTo L left k) wr ∧ ¬ M (freeTo L left k) wr xb ∧ wr.heap[xb]? = X.heap[xb]? ∧ xb < wr.heap.size ∧ ∀ b, restS B gl gc b → wr.heap[b]? = w.heap[b]?)) (fun p _ => n - (intOf p).toNat)
  case atStart => exact ⟨0, by omega, rfl, HJ0.out.1, HJ0.out.2, rfl, by rw [HXL.out]; omega, HWB.out⟩
  case round =>
    obtain ⟨k, hk, rfl, HK⟩ := hrel
    by_cases hkn : k < n
    · have hoo := HOO.out k wr (by have := HK.out.2.2.2.1; omega) HK.out.2.2.2.2
      have r0 := (World.cell?_of_block (a := ⟨xb, 0, none⟩) HK.out.2.2.1).trans (HCE.out 0 _ rfl)
      have r1 := (World.cell?_of_block (a := ⟨xb, 1, none⟩) HK.out.2.2.1).trans (HCE.out 1 _ rfl)
      have r2 := (World.cell?_of_block (a := ⟨xb, 2, none⟩) HK.out.2.2.1).trans (HCE.out 2 _ rfl)
      have r3 := (World.cell?_of_block (a := ⟨xb, 3, none⟩) HK.out.2.2.1).trans (HCE.out 3 _ rfl)
      have r4 := (World.cell?_of_block (a := ⟨xb, 4, none⟩) HK.out.2.2.1).trans (HCE.out 4 _ rfl)
      gi_wp2
      refine ⟨trivial, ?_⟩
      refine (callsIn_wide.2 hoo).mono ?_
      clear hoo
      rintro e V ⟨hB, ⟨i, q, hik, hi, hov, rfl⟩ | ⟨hno, rfl⟩⟩
      · obtain rfl : i = k := by omega
        have hj5 := HJ.out _ _ _ HK.out.1 hB
        have hfp := freeP_ov HFC.out.1 HFC.out.2 hi hov
        have HFS : Hid (freeTo L left (i + 1) = freeTo L left i ++ [((i : Int), (q : Int))]) := by show _ = _; rw [freeTo_succ, hfp]
        obtain ⟨fn, tmps, assign, body, hy, hR⟩ := HY.out _ ((i : Int), (q : Int)) V hj5.1 (freeTo_short hkn hfp)
        have HNM : Hid (¬ M (freeTo L left i) V xb ∧ V.heap[xb]? = X.heap[xb]? ∧ xb < V.heap.size ∧ (∀ b, restS B gl gc b → V.heap[b]? = w.heap[b]?) ∧ ∀ b, restS B gl gc b → ¬ M (freeTo L left i) V b) := ⟨fun hm => HK.out.2.1 (hj5.2 _ hm), (hB.block _ HK.out.2.2.2.1).trans HK.out.2.2.1, Nat.lt_of_lt_of_le HK.out.2.2.2.1 hB.size, fun b hb => (hB.block b (by have := HK.out.2.2.2.1; have := HLT.out b hb; omega)).trans (HK.out.2.2.2.2 b hb), fun b hb hm => (HM.out _ _ _ hj5.1 hm).1 hb⟩
        unfold duoV at hy
        clear hj5 hfp hov hi hik hB
        gi_wp2
        refine hR.mono ?_
        clear hR
        rintro e W3 ⟨rfl, hJ3, hK3⟩
        have HK3 : Hid (J (freeTo L left i ++ [((i : Int), (q : Int))]) W3 ∧ RoundKept M (freeTo L left i) ((i : Int), (q : Int)) V W3) := ⟨hJ3, hK3⟩
        clear hJ3 hK3
        gi_wp2
        go_roundw
        case rel =>
          refine ⟨i + 1, by omega, by go_num, ?_⟩
          rw [HFS.out]
          refine ⟨HK3.out.1, fun hm => ?_, (HK3.out.2.block xb HNM.out.2.2.1 HNM.out.1).trans HNM.out.2.1, Nat.lt_of_lt_of_le HNM.out.2.2.1 HK3.out.2.size, fun b hb => (HK3.out.2.block b (by have := HNM.out.2.2.1; have := HLT.out b hb; omega) (HNM.out.2.2.2.2 b hb)).trans (HNM.out.2.2.2.1 b hb)⟩
          rcases HK3.out.2.fresh _ hm with h | h
          · exact HNM.out.1 h
          · have := HNM.out.2.2.1; omega
        case measure => simp [intOf]; omega
      · have hj5 := HJ.out _ _ _ HK.out.1 hB
        have HFS : Hid (freeTo L left (k + 1) = freeTo L left k) := by
          show _ = _
          rw [freeTo_succ, freeP_ovno HFC.out.1 HFC.out.2 (by rw [HNN.out]; exact hkn) (fun q => hno k rfl (by rw [HNN.out]; exact hkn) q), List.append_nil]
        have HNX : Hid (J (freeTo L left k) V ∧ ¬ M (freeTo L left k) V xb ∧ V.heap[xb]? = X.heap[xb]? ∧ xb < V.heap.size ∧ ∀ b, restS B gl gc b → V.heap[b]? = w.heap[b]?) := ⟨hj5.1, fun hm => HK.out.2.1 (hj5.2 _ hm), (hB.block _ HK.out.2.2.2.1).trans HK.out.2.2.1, Nat.lt_of_lt_of_le HK.out.2.2.2.1 hB.size, fun b hb => (hB.block b (by have := HK.out.2.2.2.1; have := HLT.out b hb; omega)).trans (HK.out.2.2.2.2 b hb)⟩
        clear hj5 hno hB
        gi_wp2
        refine ⟨fun _ h => (by cases h), ?_⟩
        gi_wp2
        go_roundw
        case rel => exact ⟨k + 1, by omega, by go_num, by rw [HFS.out]; exact HNX.out⟩
        case measure => simp [intOf]; omega
    · obtain rfl : k = n := by omega
      gi_wp2
      go_end0
      exact ⟨⟨_, rfl⟩, HK.out.1⟩

end Go.Proofs.YthdmfeidcldafaaGreatDoor
