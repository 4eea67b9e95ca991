/- How many ways there are; a blank table. -/
import Derived.Test.YtmaopnbnbiediaaDoorGrpComplete
namespace Go.Proofs.YtmaopnbnbiediaaDoor
open Go.RowKit Go.Sort

def facN : Nat → Nat
  | 0 => 1
  | k + 1 => facN k * (k + 1)
theorem facN_le {k : Nat} (h : k ≤ 4) : facN k ≤ 24 := by
  match k, h with
  | 0, _ => decide
  | 1, _ => decide
  | 2, _ => decide
  | 3, _ => decide
  | 4, _ => decide
theorem pow_small {P j : Nat} (hP : P ≤ 24) (hj : j ≤ 5) : P ^ j ≤ 7962624 := by
  have h1 : P ^ j ≤ 24 ^ j := Nat.pow_le_pow_left hP j
  have h2 : 24 ^ j ≤ 24 ^ 5 := Nat.pow_le_pow_right (by decide) hj
  have h3 : 24 ^ 5 = 7962624 := by decide
  omega

set_option maxRecDepth 100000 in
set_option maxHeartbeats 1000000 in
theorem ways_ (N n : Nat) (w : World) (hN : N ≤ 4) (hn : n ≤ 5) :
    Calls Tryd.prog 19 #[.int .i64 (N : Int), .int .i64 (n : Int)] w fun e w' => e = .returned (.int .i64 ((facN N ^ n : Nat) : Int)) ∧ w' = w := by
  go_enter Tryd.func19, Tryd.ntmps19
  go_wp2_with fail
  go_loopw [5, 9] (fun pp p W => ∃ (k f : Nat), k ≤ N ∧ f ≤ 24 ∧ pp = .int .i64 (f : Int) ∧ p = .int .i64 (k : Int) ∧ W = w ∧ Hid (facN k = f)) (fun _ p _ => N - (intOf p).toNat)
  case atStart => exact ⟨0, 1, by omega, by omega, rfl, rfl, rfl, rfl⟩
  case round =>
    obtain ⟨k, f, hk, hf, rfl, rfl, rfl, HF⟩ := hrel
    by_cases hkN : k < N
    · obtain ⟨f2, hf2⟩ : ∃ f2, f * (k + 1) = f2 := ⟨_, rfl⟩
      have HF2 : Hid (facN (k + 1) = f2) := by show _ = _; rw [facN, HF.out, hf2]
      have hle : f2 ≤ 24 := by rw [← HF2.out]; exact facN_le (by omega)
      have hm : (f : Int) * ((k : Int) + 1) = (f2 : Int) := by rw [← hf2]; simp
      clear hf2
      go_wp2_with fail
      go_roundw
      case rel => exact ⟨k + 1, f2, by omega, hle, by first | rfl | go_num, by go_num, by first | rfl | trivial, HF2.out⟩
      case measure => simp [intOf]; omega
    · obtain rfl : k = N := by omega
      go_wp2_with fail
      go_loopw [7, 18] (fun pp p W => ∃ (j f2 : Nat), j ≤ n ∧ f2 ≤ 7962624 ∧ pp = .int .i64 (f2 : Int) ∧ p = .int .i64 (j : Int) ∧ W = wr ∧ Hid (f ^ j = f2)) (fun _ p _ => n - (intOf p).toNat)
      case atStart => exact ⟨0, 1, by omega, by omega, rfl, rfl, rfl, rfl⟩
      case round =>
        obtain ⟨j, f2, hj, hf2, rfl, rfl, rfl, HJ⟩ := hrel
        by_cases hjn : j < n
        · obtain ⟨f3, hf3⟩ : ∃ f3, f2 * f = f3 := ⟨_, rfl⟩
          have HF3 : Hid (f ^ (j + 1) = f3) := by show _ = _; rw [Nat.pow_succ, HJ.out, hf3]
          have hle : f3 ≤ 7962624 := by rw [← HF3.out]; exact pow_small hf (by omega)
          have hm : (f2 : Int) * (f : Int) = (f3 : Int) := by rw [← hf3]; simp
          clear hf3
          go_wp2_with fail
          go_roundw
          case rel => exact ⟨j + 1, f3, by omega, hle, by first | rfl | go_num, by go_num, by first | rfl | trivial, HF3.out⟩
          case measure => simp [intOf]; omega
        · obtain rfl : j = n := by omega
          have HE : Hid (facN k ^ j = f2) := by show _ = _; rw [HF.out, HJ.out]
          go_wp2_with fail
          go_ret
          exact ⟨by rw [HE.out]; rfl, rfl⟩

theorem own_down {w : World} {base base' : Nat} {e : TypeId} {v : Value} {n : Nat} {xs : List Value} (h : w.ownsRow base e 1 v n xs) (hb : base' ≤ base) : w.ownsRow base' e 1 v n xs := ⟨h.1, h.2.imp id fun ⟨g, cap, cur, e, h1, h2⟩ => ⟨g, cap, cur, e, Nat.le_trans hb h1, h2⟩⟩
/-- A table while its rows are laid. -/
structure BkAt (p n : Nat) (A W : World) (v : Value) (k : Nat) (rb : Nat → Nat) : Prop where
  c : W.cell? ⟨p + 1, 0, none⟩ = some v
  z : W.frozen? ⟨p + 1, 0, none⟩ = false
  own : W.ownsRow (p + 2) 42 1 v k ((List.range k).map fun j => .slice (some ⟨rb j, 0, none⟩) (2 * n) (2 * n))
  row : ∀ j, j < k → W.rowIs (rb j) 3 (2 * n) (fun _ => .int .i64 (-1))
  inj : ∀ i j, i < k → j < k → rb i = rb j → i = j
  ge : ∀ j, j < k → p + 2 ≤ rb j
  vb : ∀ j, j < k → v.ownBlock ≠ some (rb j)
  os : W.os = A.os
  tape : W.tape = A.tape
  output : W.output = A.output
  size : A.heap.size ≤ W.heap.size
  keep : ∀ b, b < p + 2 → b ≠ p + 1 → W.heap[b]? = A.heap[b]?

theorem BkAt.more {p n k g : Nat} {A W W' : World} {v v' : Value} {rb : Nat → Nat} (hA : A.heap.size = p + 2) (h : BkAt p n A W v k rb) (hm : RowMore (p + 2) (p + 1) n k v ((List.range k).map fun j => .slice (some ⟨rb j, 0, none⟩) (2 * n) (2 * n)) W W' v' g) : BkAt p n A W' v' (k + 1) (fun j => if j = k then g else rb j) := by
  have hs := h.size
  have hnew := hm.new
  have hne : ∀ j, j < k → rb j ≠ g := fun j hj e => by have := (h.row j hj).lt; omega
  have hvg : v'.ownBlock ≠ some g := fun e => by
    rcases hm.blk with h1 | ⟨b, h1, _, h2⟩
    · rw [h1] at e
      have := (h.own.lt g e).2
      omega
    · rw [h1] at e
      exact h2 (Option.some.inj e)
  have hkeep : ∀ j, j < k → W'.heap[rb j]? = W.heap[rb j]? := fun j hj => hm.keep _ (h.row j hj).lt (by have := h.ge j hj; omega) fun e => h.vb j hj e.symm
  refine ⟨hm.cell, hm.froz, ?_, fun j hj => ?_, fun i j hi hj e => ?_, fun j hj => ?_, fun j hj e => ?_, hm.os.trans h.os, hm.tape.trans h.tape, hm.output.trans h.output, Nat.le_trans h.size hm.size, fun b hb hb2 => ?_⟩
  · have h9 := hm.own
    rw [List.range_succ, List.map_append]
    refine cast (congrArg _ ?_) h9
    congr 1
    · refine List.map_congr_left fun j hj => ?_
      rw [if_neg (by have := List.mem_range.1 hj; omega)]
    · simp
  · by_cases e : j = k
    · simp only [if_pos e]; exact hm.row
    · simp only [if_neg e]; exact (h.row j (by omega)).of_block (hkeep j (by omega))
  · by_cases e1 : i = k
    · by_cases e2 : j = k
      · omega
      · simp only [if_pos e1, if_neg e2] at e
        exact absurd e.symm (hne j (by omega))
    · by_cases e2 : j = k
      · simp only [if_neg e1, if_pos e2] at e
        exact absurd e (hne i (by omega))
      · simp only [if_neg e1, if_neg e2] at e
        exact h.inj i j (by omega) (by omega) e
  · by_cases e : j = k
    · simp only [if_pos e]; omega
    · simp only [if_neg e]; exact h.ge j (by omega)
  · by_cases e1 : j = k
    · simp only [if_pos e1] at e; exact hvg e
    · simp only [if_neg e1] at e
      rcases hm.blk with h1 | ⟨b, h1, h3, _⟩
      · rw [h1] at e; exact h.vb j (by omega) e
      · rw [h1] at e
        have := Option.some.inj e
        have := (h.row j (by omega)).lt
        omega
  · rw [hm.keep b (by omega) hb2 fun e => by have := (h.own.lt b e.symm).1; omega]
    exact h.keep b hb hb2

set_option maxRecDepth 100000 in
set_option maxHeartbeats 2000000 in
theorem blank_ (N n : Nat) (w : World) (h0 : 0 < N) (hN : N ≤ 4) (hn : n ≤ 12) :
    Calls Tryd.prog 20 #[.int .i64 (N : Int), .int .i64 (n : Int)] w fun e w' => ∃ G cG rb, e = .returned (.agg #[.slice (some ⟨G, 0, none⟩) N cG]) ∧ TbIn w.heap.size n w' (blankP N n) G cG rb ∧ Below w.heap.size w w' := by
  obtain ⟨A0, hA0⟩ : ∃ A0, w.alloc (.cells #[.slice none 0 0] 49) = A0 := ⟨_, rfl⟩
  obtain ⟨A1, hA1⟩ : ∃ A1, A0.alloc (.cells #[.slice none 0 0] 49) = A1 := ⟨_, rfl⟩
  obtain ⟨p, hp⟩ : ∃ p, w.heap.size = p := ⟨_, rfl⟩
  have hs0 : A0.heap.size = p + 1 := by rw [← hA0, World.size_alloc, hp]
  have hs1 : A1.heap.size = p + 2 := by rw [← hA1, World.size_alloc, hs0]
  have k0 := cells_new w [.slice none 0 0] 49 0 _ rfl
  have k1 := cells_new A0 [.slice none 0 0] 49 0 _ rfl
  have f0 := froz_new w #[.slice none 0 0] 49
  have f1 := froz_new A0 #[.slice none 0 0] 49
  rw [Addr.add_lit, Nat.zero_add] at k0 k1
  rw [show (List.toArray [Value.slice none 0 0]) = #[.slice none 0 0] from rfl, hA0, hp] at k0
  rw [show (List.toArray [Value.slice none 0 0]) = #[.slice none 0 0] from rfl, hA1, hs0] at k1
  rw [hA0, hp] at f0
  rw [hA1, hs0] at f1
  have hB1 : Below p w A1 := by
    rw [← hA1, ← hA0, ← hp]
    exact ((Below.refl _ w).alloc (Nat.le_refl _) _).alloc (by simp) _
  have e0 : A1.heap[p]? = A0.heap[p]? := by rw [← hA1]; exact Below.heap_alloc A0 _ p (by omega)
  have HP0 : Hid (BkAt p n A1 A1 (.slice none 0 0) 0 (fun _ => 0)) := ⟨k1, f1 0, World.ownsRow_nil _ _ _ _, fun j hj => (by omega), fun i j hi => (by omega), fun j hj => (by omega), fun j hj => (by omega), rfl, rfl, rfl, Nat.le_refl _, fun _ _ _ => rfl⟩
  have HR : Hid (A1.cell? ⟨p, 0, none⟩ = some (.slice none 0 0) ∧ A1.frozen? ⟨p, 0, none⟩ = false) := ⟨(World.cell?_of_block (a := ⟨p, 0, none⟩) e0).trans k0, (World.frozen?_of_block (a := ⟨p, 0, none⟩) e0).trans (f0 0)⟩
  have HA : Hid (w.alloc (.cells #[.slice none 0 0] 49) = A0 ∧ A0.alloc (.cells #[.slice none 0 0] 49) = A1 ∧ w.heap.size = p ∧ A0.heap.size = p + 1 ∧ A1.heap.size = p + 2 ∧ Below p w A1) := ⟨hA0, hA1, hp, hs0, hs1, hB1⟩
  clear hA0 hA1 hp hs0 hs1 k0 k1 f0 f1 e0 hB1
  go_enter Tryd.func20, Tryd.ntmps20
  go_upto_region 1 with fail
  rw [HA.out.1, HA.out.2.2.1]
  go_upto_region 2 with fail
  try rw [HA.out.2.1]
  try rw [HA.out.2.2.2.1]
  go_wp2_with fail
  go_loopw [7] (fun pk W => ∃ (k : Nat) (v : Value) (rb : Nat → Nat), k ≤ N ∧ pk = .int .i64 (k : Int) ∧ Hid (BkAt p n A1 W v k rb)) (fun pk _ => N - (intOf pk).toNat)
  case atStart => exact ⟨0, _, _, by omega, rfl, HP0.out⟩
  case round =>
    obtain ⟨k, v, rb, hk, rfl, HK⟩ := hrel
    by_cases hkN : k < N
    · have har := addRow_ (p + 2) (p + 1) n k v _ wr HK.out.c HK.out.z HK.out.own (fun e => by have := (HK.out.own.lt (p + 1) e.symm).1; omega) (by have := HK.out.size; rw [HA.out.2.2.2.2.1] at this; exact this) (by omega) hn
      go_wp2_with (first
        | (go_at_call 40; refine har.mono ?_; rintro e V ⟨rfl, v', g, hm⟩; have HM := Hid.mk' hm; clear har hm)
        | fail)
      go_roundw
      case rel => exact ⟨k + 1, _, _, by omega, by go_num, HK.out.more HA.out.2.2.2.2.1 HM.out⟩
      case measure => simp [intOf]; omega
    · obtain rfl : k = N := by omega
      have c1 := HK.out.c
      obtain ⟨G, cG, hv⟩ : ∃ G cG, v = .slice (some ⟨G, 0, none⟩) k cG := by
        obtain ⟨_, h9⟩ := HK.out.own
        rcases h9 with ⟨_, h9⟩ | ⟨g, cap, cur, e, _⟩
        · omega
        · exact ⟨g, cap, e⟩
      subst hv
      have eb : wr.heap[p]? = A1.heap[p]? := HK.out.keep p (by omega) (by omega)
      have c0 := (World.cell?_of_block (a := ⟨p, 0, none⟩) eb).trans HR.out.1
      have f0 := (World.frozen?_of_block (a := ⟨p, 0, none⟩) eb).trans HR.out.2
      clear eb
      have HT : Hid (TbIn p n (wr.setCell ⟨p, 0, none⟩ (.slice (some ⟨G, 0, none⟩) k cG)) (blankP k n) G cG rb ∧ Below p w (wr.setCell ⟨p, 0, none⟩ (.slice (some ⟨G, 0, none⟩) k cG)) ∧ (wr.setCell ⟨p, 0, none⟩ (.slice (some ⟨G, 0, none⟩) k cG)).cell? ⟨p, 0, none⟩ = some (.slice (some ⟨G, 0, none⟩) k cG)) := by
        have hlen : (blankP k n).length = k := by rw [blankP, List.length_replicate]
        have hset : ∀ b, b ≠ p → (wr.setCell ⟨p, 0, none⟩ (.slice (some ⟨G, 0, none⟩) k cG)).heap[b]? = wr.heap[b]? := fun b e => Below.heap_setCell wr ⟨p, 0, none⟩ _ b e
        have hG := HK.out.own.lt G rfl
        refine ⟨⟨?_, fun j hj => ?_, ?_, fun j hj e => ?_, fun j hj => ?_, blank_wide k n, by rw [hlen]; exact hN⟩, ?_, World.cell?_setCell_same' wr _ _ (by rw [c0]; rfl)⟩
        · rw [hlen]
          exact own_down (HK.out.own.kept (grown_at wr ⟨p, 0, none⟩ _) (.inr fun e => by have h8 : G = p := Option.some.inj e; omega)) (by omega)
        · rw [hlen] at hj
          refine ((HK.out.row j hj).of_block (hset _ (by have := HK.out.ge j hj; omega))).congr fun x _ => ?_
          rw [blank_ent]
        · rw [hlen]; exact HK.out.inj
        · rw [hlen] at hj
          exact HK.out.vb j hj (by rw [e]; rfl)
        · rw [hlen] at hj
          have := HK.out.ge j hj
          omega
        · refine ⟨HK.out.os.trans HA.out.2.2.2.2.2.os, HK.out.tape.trans HA.out.2.2.2.2.2.tape, HK.out.output.trans HA.out.2.2.2.2.2.output, ?_, fun b hb => ?_⟩
          · have := HK.out.size
            have := HA.out.2.2.2.2.2.size
            simp
            omega
          · rw [hset b (by omega), HK.out.keep b (by omega) (by omega)]
            exact HA.out.2.2.2.2.2.block b hb
      have c9 := HT.out.2.2
      go_wp2_with fail
      refine bodyPost_ret (v := .agg #[.slice (some ⟨G, 0, none⟩) k cG]) ?_ rfl ⟨G, cG, rb, rfl, by rw [HA.out.2.2.1]; exact HT.out.1, by rw [HA.out.2.2.1]; exact HT.out.2.1⟩
      simp [results, Tryd.f20, go_sem, c9]

end Go.Proofs.YtmaopnbnbiediaaDoor
