/- whole.Nat's Compare, IsZero, IsOne, Word, Of. whole.Nat's Minus: the difference, or 0. Sums of signs: those above 0 and those below, as numbers of any size; times, plus. A number keeps, when another block is written. -/
import Derived.Test.YtnnkmkhamipfiaaGreatDoorNatAdd
import Derived.BigQuiet
import Derived.Deep.DeepCutAuto
import Derived.Test.YtnnkmkhamipfiaaGreatDoorNatSub
import Derived.Test.YtnnkmkhamipfiaaGreatDoorMorseSums
namespace Go.Proofs.YtnnkmkhamipfiaaGreatDoor
open Go.RowKit Go.Sort

theorem drewN_add (w : World) (q r : Nat) : (w.drewN q).drewN r = w.drewN (q + r) := by simp [World.drewN, Nat.add_assoc]

set_option maxRecDepth 100000 in
theorem compare_ {va vb : Value} {x y : Nat} (w : World) (ha : NatAt w va x) (hb : NatAt w vb y) (hx : x < NatTop) (hy : y < NatTop) :
    Calls Tryz.prog 98 #[va, vb] w fun e w' => ∃ c : Int, e = .returned (.int .i64 c) ∧ (c < 0 ↔ x < y) ∧ (0 < c ↔ y < x) ∧ ∃ q, w' = w.drewN q := by
  obtain ⟨n, F, ⟨aa, ca, rfl, hca, hxa⟩, hdF, hlF, rfl⟩ := ha
  obtain ⟨m, G, ⟨ab, cb, rfl, hcb, hxb⟩, hdG, hlG, rfl⟩ := hb
  have hn9 := NatAt.len hlF hx
  have hm9 := NatAt.len hlG hy
  by_cases hnm : n = m
  · subst hnm
    have HF := Hid.mk' hdF
    have HG := Hid.mk' hdG
    have HXA := Hid.mk' hxa
    have HXB := Hid.mk' hxb
    have hbe : ((n : Int) != (n : Int)) = false := by simp
    have hw1 : -9223372036854775808 ≤ (n : Int) - 1 := by omega
    clear hdF hdG hlF hlG hx hy hxa hxb
    go_enter Tryz.func98, Tryz.ntmps98
    go_wp2_with fail
    go_loopw [5] (fun p W => ∃ k q : Nat, k ≤ n ∧ p = .int .i64 ((k : Int) - 1) ∧ W = w.drewN q ∧ Hid (∀ j, k ≤ j → j < n → F j = G j)) (fun p _ => (intOf p + 1).toNat)
    case atStart => exact ⟨n, 0, Nat.le_refl _, by go_num, rfl, fun j h1 h2 => by omega⟩
    case round =>
      obtain ⟨k, q, hk, rfl, rfl, HE⟩ := hrel
      rcases Nat.eq_zero_or_pos k with h0 | h0
      · subst h0
        have HV : Hid (vF F n = vF G n) := vF_congr fun j hj => HE.out j (by omega) hj
        have c1 : ¬ ((0 : Int) ≤ ((0 : Nat) : Int) - 1) := by omega
        go_wp2_with fail
        go_ret
        have h := HV.out
        exact ⟨0, rfl, by omega, by omega, q, rfl⟩
      · obtain ⟨i, rfl⟩ : ∃ i, k = i + 1 := ⟨k - 1, by omega⟩
        have e1 : ((i + 1 : Nat) : Int) - 1 = (i : Int) := by omega
        obtain ⟨b1, o1, rfl, c1⟩ := HXA.out (by omega)
        obtain ⟨b2, o2, rfl, c2⟩ := HXB.out (by omega)
        have d1 := c1 i (by omega)
        have d2 := c2 i (by omega)
        have HT1 : Hid (F i < G i → vF F n < vF G n) := fun h => vF_top HF.out (by omega) h fun j h1 h2 => HE.out j (by omega) h2
        have HT2 : Hid (G i < F i → vF G n < vF F n) := fun h => vF_top HG.out (by omega) h fun j h1 h2 => (HE.out j (by omega) h2).symm
        have HE2 : Hid (F i = G i → ∀ j, i ≤ j → j < n → F j = G j) := fun h j h1 h2 => by
          rcases Nat.lt_or_ge i j with h3 | h3
          · exact HE.out j h3 h2
          · rw [show j = i by omega]; exact h
        obtain ⟨u, hu⟩ : ∃ u, F i = u := ⟨_, rfl⟩
        obtain ⟨v, hv⟩ : ∃ v, G i = v := ⟨_, rfl⟩
        rw [hu] at d1 HT1 HT2 HE2
        rw [hv] at d2 HT1 HT2 HE2
        have y0 : (0 : Int) ≤ (i : Int) := by omega
        have y1 : (i : Int) < (n : Int) := by omega
        rw [e1]
        clear hu hv c1 c2 e1 HE
        rcases Nat.lt_trichotomy u v with h | h | h
        · have z1 : (u : Int) < (v : Int) := by omega
          have HV := Hid.mk' (HT1.out h)
          clear HT1 HT2 HE2 h
          go_upto_region 6 with fail
          go_quiet (fail)
          go_wp2_with fail
          go_ret
          have h := HV.out
          exact ⟨-1, rfl, by omega, by omega, by first | exact ⟨_, rfl⟩ | exact ⟨_, drewN_add _ _ _⟩⟩
        · have z1 : ¬ ((u : Int) < (v : Int)) := by omega
          have z2 : ¬ ((v : Int) < (u : Int)) := by omega
          have HV := Hid.mk' (HE2.out h)
          clear HT1 HT2 HE2 h
          go_upto_region 6 with fail
          go_quiet (fail)
          go_upto_region 8 with fail
          go_quiet (fail)
          go_wp2_with fail
          go_roundw
          case rel => exact ⟨i, _, by omega, by go_num, by first | exact rfl | exact drewN_add _ _ _ | (rw [drewN_add, drewN_add]), HV.out⟩
          case measure => first | (simp [intOf]; done) | (simp [intOf]; omega)
        · have z1 : ¬ ((u : Int) < (v : Int)) := by omega
          have z2 : (v : Int) < (u : Int) := by omega
          have HV := Hid.mk' (HT2.out h)
          clear HT1 HT2 HE2 h
          go_upto_region 6 with fail
          go_quiet (fail)
          go_upto_region 8 with fail
          go_quiet (fail)
          go_wp2_with fail
          go_ret
          have h := HV.out
          exact ⟨1, rfl, by omega, by omega, by first | exact ⟨_, rfl⟩ | exact ⟨_, drewN_add _ _ _⟩ | exact ⟨_, by rw [drewN_add, drewN_add]⟩⟩
  · have HV : Hid ((((n : Int) - (m : Int)) < 0 ↔ vF F n < vF G m) ∧ (0 < ((n : Int) - (m : Int)) ↔ vF G m < vF F n)) := by
      rcases Nat.lt_or_ge n m with h | h
      · have := vF_fewer hdF (hlG (by omega)) h
        exact ⟨by omega, by omega⟩
      · have := vF_fewer hdG (hlF (by omega)) (show m < n by omega)
        exact ⟨by omega, by omega⟩
    have hbe : ((n : Int) != (m : Int)) = true := by rw [bne_iff_ne]; omega
    clear hdF hdG hlF hlG hx hy hxa hxb
    go_enter Tryz.func98, Tryz.ntmps98
    go_wp2_with fail
    go_ret
    exact ⟨_, rfl, HV.out.1, HV.out.2, 0, rfl⟩

set_option maxRecDepth 100000 in
theorem isZero_ {va : Value} {x : Nat} (w : World) (ha : NatAt w va x) :
    Calls Tryz.prog 75 #[va] w fun e w' => e = .returned (.bool (x == 0)) ∧ w' = w := by
  obtain ⟨n, F, ⟨aa, ca, rfl, hca, hxa⟩, hdF, hlF, rfl⟩ := ha
  have e : (vF F n == 0) = ((n : Int) == 0) := by
    rcases Nat.eq_zero_or_pos n with h | h
    · subst h; simp [vF]
    · have h1 := vF_pos h (hlF h)
      rw [beq_false_of_ne (by omega), beq_false_of_ne (by omega)]
  rw [e]
  clear hdF hlF e hxa
  go_enter Tryz.func75, Tryz.ntmps75
  go_wp2_with fail
  go_ret
  exact ⟨rfl, rfl⟩

set_option maxRecDepth 100000 in
theorem word_ {va : Value} {x : Nat} (w : World) (ha : NatAt w va x) (hx : x < WB) :
    Calls Tryz.prog 74 #[va] w fun e w' => e = .returned (.tuple #[.int .u64 (x : Int), .bool true]) ∧ w' = w := by
  obtain ⟨n, F, ⟨aa, ca, rfl, hca, hxa⟩, hdF, hlF, rfl⟩ := ha
  have h1 := vF_one hlF hx
  rcases Nat.eq_zero_or_pos n with h | h
  · subst h
    clear hdF hlF hxa hx h1
    go_enter Tryz.func74, Tryz.ntmps74
    go_wp2_with fail
    go_ret2
    exact ⟨rfl, rfl⟩
  · obtain rfl : n = 1 := by omega
    obtain ⟨b, o, rfl, hc⟩ := hxa (by omega)
    have c0 := hc 0 (by omega)
    have e : vF F 1 = F 0 := by simp [vF]
    rw [Nat.add_zero] at c0
    rw [e]
    obtain ⟨u, hu⟩ : ∃ u, F 0 = u := ⟨_, rfl⟩
    rw [hu] at c0 ⊢
    clear hdF hlF hxa hx h1 hc e hu
    go_enter Tryz.func74, Tryz.ntmps74
    go_wp2_with fail
    go_ret2
    exact ⟨rfl, rfl⟩

set_option maxRecDepth 100000 in
theorem of_t (x : Nat) (w : World) (hx : x < WB) :
    Calls Tryz.prog 68 #[.int .u64 (x : Int)] w fun e w' => ∃ v, e = .returned v ∧ NatAt w' v x ∧ Below w.heap.size w w' ∧ ∀ b, v.ownBlock = some b → ∃ cur, w'.heap[b]? = some (.cells cur 128 (0, 0)) := by
  rcases Nat.eq_zero_or_pos x with h | h
  · subst h
    go_enter Tryz.func68, Tryz.ntmps68
    go_wp2_with fail
    go_ret
    exact ⟨_, rfl, NatAt.nil _, Below.refl _ _, fun b e => by cases e⟩
  · have hb : ((x : Int) == 0) = false := beq_false_of_ne (by omega)
    have HN : Hid (NatAt (w.alloc (.cells #[.int .u64 (x : Int)] 128)) (.slice (some ⟨w.heap.size, 0, none⟩) 1 1) x) := by
      refine ⟨1, fun _ => x, ⟨_, 1, rfl, Nat.le_refl _, fun _ => ⟨w.heap.size, 0, rfl, fun k hk => ?_⟩⟩, fun k _ => hx, fun _ => Nat.pos_iff_ne_zero.1 h, by simp [vF]⟩
      obtain rfl : k = 0 := by omega
      have := cells_new w [.int .u64 (x : Int)] 128 0 _ rfl
      rw [Addr.add_lit] at this
      exact this
    clear hx
    go_enter Tryz.func68, Tryz.ntmps68
    go_wp2_with fail
    go_ret
    exact ⟨_, rfl, HN.out, (Below.refl _ w).alloc (Nat.le_refl _) _, fun b e => by cases e; exact ⟨_, (Go.MapKept.heap_alloc w _).1⟩⟩
theorem of_ (x : Nat) (w : World) (hx : x < WB) :
    Calls Tryz.prog 68 #[.int .u64 (x : Int)] w fun e w' => ∃ v, e = .returned v ∧ NatAt w' v x ∧ Below w.heap.size w w' := (of_t x w hx).mono fun _ _ h => by
  obtain ⟨v, h1, h2, h3, _⟩ := h
  exact ⟨v, h1, h2, h3⟩

end Go.Proofs.YtnnkmkhamipfiaaGreatDoor

namespace Go.Proofs.YtnnkmkhamipfiaaGreatDoor
open Go.RowKit Go.Sort

theorem drewN_b (w : World) (q : Nat) : Below w.heap.size w (w.drewN q) := ⟨rfl, rfl, rfl, Nat.le_refl _, fun _ _ => rfl⟩

set_option maxRecDepth 100000 in
set_option maxHeartbeats 1000000 in
theorem minus_ {va vb : Value} {x y : Nat} (w : World) (ha : NatAt w va x) (hb : NatAt w vb y) (hx : x < NatTop) (hy : y < NatTop) :
    Calls Tryz.prog 72 #[va, vb] w fun e w' => ∃ v, e = .returned v ∧ NatAt w' v (x - y) ∧ Below w.heap.size w w' := by
  have hcm := compare_ w ha hb hx hy
  have HAB := Hid.mk' (And.intro ha hb)
  obtain ⟨n1, F1, ⟨a1, c1, rfl, hc1, hx1⟩, hd1, hl1, rfl⟩ := ha
  obtain ⟨n2, G2, ⟨a2, c2, rfl, hc2, hx2⟩, hd2, hl2, rfl⟩ := hb
  have hn1 := NatAt.len hl1 hx
  have hn2 := NatAt.len hl2 hy
  clear hx hy
  by_cases hle : vF F1 n1 ≤ vF G2 n2
  · have HZ : Hid (vF F1 n1 - vF G2 n2 = 0) := Nat.sub_eq_zero_of_le hle
    go_enter Tryz.func72, Tryz.ntmps72
    go_wp2_with (first
      | (go_at_call 98; refine hcm.mono ?_; rintro e w1 ⟨c, rfl, hc, hc', hw1⟩; have hc0 : c ≤ 0 := (by omega); have HB1 : Hid (Below w.heap.size w w1) := (by obtain ⟨q, rfl⟩ := hw1; exact drewN_b w q); clear hc hc' hw1 hcm)
      | fail)
    go_ret
    exact ⟨_, rfl, by rw [HZ.out]; exact NatAt.nil _, HB1.out⟩
  · have hgt : vF G2 n2 < vF F1 n1 := by omega
    have hnn : n2 ≤ n1 := by
      refine Nat.le_of_not_lt fun h => ?_
      have := vF_fewer hd1 (hl2 (by omega)) h
      omega
    have hmk : ∀ V, (Instr.makeSlice 90 (.int .i64 (n1 : Int)) (.int .i64 (n1 : Int))).run Tryz.prog V = .ok (.slice (some ⟨V.heap.size, 0, none⟩) n1 n1) (V.alloc (.cells (madeCells #[.int .u64 0] n1) 128)) := fun V => run_make_row' (P := Tryz.prog) 90 128 (.int .u64 0) 8 Tryz.underlying90 Tryz.infow rfl .i64 .i64 n1 (by omega) (by omega) V
    have HS : Hid (∀ w1, Below w.heap.size w w1 → ((w1.alloc (.cells (madeCells #[.int .u64 0] n1) 128)).heap[w1.heap.size]? = some (.cells (List.replicate n1 (.int .u64 0)).toArray 128 (0, 0)) ∧ Below w1.heap.size w1 (w1.alloc (.cells (madeCells #[.int .u64 0] n1) 128)) ∧ (0 < (csF F1 n1).length → ∃ ad, a1 = some ad ∧ ∀ j v, (csF F1 n1)[j]? = some v → (w1.alloc (.cells (madeCells #[.int .u64 0] n1) 128)).cell? (ad.add j) = some v)) ∧ ∀ V, Below w1.heap.size w1 V → V.rowIs w1.heap.size 128 n1 (fun j => .int .u64 (padF F1 n1 j : Int)) → Calls Tryz.prog 99 #[.slice (some ⟨w1.heap.size, 0, none⟩) n1 n1, .slice a2 n2 c2, .int .u64 1] V fun e V' => (∃ c : Nat, e = .returned (.int .u64 (c : Int))) ∧ ∃ F' : Nat → Nat, V'.rowIs w1.heap.size 128 n1 (fun j => .int .u64 (F' j : Int)) ∧ digs F' n1 ∧ vF F' n1 = vF F1 n1 - vF G2 n2 ∧ Below w.heap.size w V') := fun w1 h1 => by
      have hB1 : Below w1.heap.size w1 (w1.alloc (.cells (madeCells #[.int .u64 0] n1) 128)) := (Below.refl _ w1).alloc (Nat.le_refl _) _
      have hwa : WordsAt w1 (.slice a1 n1 c1) n1 F1 := WordsAt.below ⟨a1, c1, rfl, hc1, hx1⟩ h1
      have hwb : WordsAt w1 (.slice a2 n2 c2) n2 G2 := WordsAt.below ⟨a2, c2, rfl, hc2, hx2⟩ h1
      obtain ⟨a', c', e', hc', hx'⟩ := hwa
      cases e'
      refine ⟨⟨made_heap w1 _, hB1, copy_src hx' hB1⟩, fun V hV hrow => ?_⟩
      have hbut := (WordsAt.but hwb (Nat.le_refl _)).below hV
      refine (subInto_ (t := 1) V hrow (Nat.le_refl _) hnn hbut (padF_digs hd1 _) hd2 (by decide) (by omega)).mono fun e V' h => ?_
      obtain ⟨F', c, k1, k2, k3, k4, k5, k6⟩ := h
      rw [vF_padF F1 (Nat.le_refl _), Nat.one_mul] at k5
      have b1 := vF_lt k4
      have hc0 : c = 0 := by
        refine Nat.eq_zero_of_not_pos fun hc0 => ?_
        have b4 := Nat.mul_le_mul_left (WB ^ n1) (show 1 ≤ c by omega)
        rw [Nat.mul_one] at b4
        omega
      subst hc0
      rw [Nat.mul_zero, Nat.add_zero] at k5
      have k7 := hV.grown k6 hV.size (fun b e => by cases e; exact Nat.le_refl _)
      exact ⟨⟨0, k1⟩, F', k3, k4, by omega, h1.trans (k7.mono h1.size)⟩
    clear hx1 hx2 hd1 hd2 hl1 hl2 HAB
    have HV : Hid (vF G2 n2 < vF F1 n1) := hgt
    obtain ⟨X, hX⟩ : ∃ X, vF F1 n1 = X := ⟨_, rfl⟩
    obtain ⟨Y, hY⟩ : ∃ Y, vF G2 n2 = Y := ⟨_, rfl⟩
    rw [hX, hY] at hcm hgt HS ⊢
    clear hX hY hle HV
    go_enter Tryz.func72, Tryz.ntmps72
    go_upto_region 3 with (go_at_call 98; refine hcm.mono ?_; rintro e w1 ⟨c, rfl, hc, hc', hw1⟩; have hc0 : ¬ (c ≤ 0) := (by omega); have HB1 : Hid (Below w.heap.size w w1) := (by obtain ⟨q, rfl⟩ := hw1; exact drewN_b w q); have HM := Hid.mk' (HS.out w1 HB1.out); clear hc hc' hw1 hcm HS)
    go_wp2_with (first
      | (refine wpList_copy_splice rfl (.tmp 13) (.tmp 14) 90 90 rfl 128 Tryz.underlying90 Tryz.sizew _ _ n1 n1 n1 c1 rfl rfl w1.heap.size 0 (List.replicate n1 (.int .u64 0)) 128 HM.out.1.1 (csF F1 n1) (by rw [csF_len]; exact (Nat.min_self n1).symm) (fun h => ⟨rfl, HM.out.1.2.2 h⟩) (by rw [csF_len, List.length_replicate]; omega) (csF_one _ _) w1.heap.size w1 HM.out.1.2.1 (Nat.le_refl _) ?_; intro W1 hW1 hB2; have hsub := HM.out.2 W1 hB2 (row_spliced (Nat.le_refl n1) hW1.out); clear hW1 hB2 HM)
      | (go_at_call 99; refine hsub.mono ?_; rintro e W2 ⟨⟨cc, rfl⟩, F2, r1, r2, r3, r4⟩; have H2 : Hid (W2.rowIs w1.heap.size 128 n1 (fun j => .int .u64 (F2 j : Int)) ∧ digs F2 n1 ∧ vF F2 n1 = X - Y ∧ Below w.heap.size w W2) := ⟨r1, r2, r3, r4⟩; have htr := trim_ (g := w1.heap.size) (o := 0) (N := n1) (cap := n1) (F := F2) W2 (fun k hk => by rw [Nat.zero_add]; exact r1.cell hk) (Nat.le_refl _) (by omega); clear r1 r2 r3 r4 hsub)
      | (go_at_call 100; refine htr.mono ?_; rintro e W3 ⟨rfl, n3, hn3, rfl, hz3, hl3⟩; have H3 : Hid (NatAt W3 (.slice (some ⟨w1.heap.size, 0, none⟩) n3 n1) (X - Y)) := (by rw [← H2.out.2.2.1, vF_zeros hn3 hz3]; exact NatAt.row H2.out.1 hn3 hn3 (fun k hk => H2.out.2.1 k (by omega)) hl3); clear hn3 hz3 hl3 htr)
      | fail)
    go_ret
    exact ⟨_, rfl, H3.out, H2.out.2.2.2⟩

end Go.Proofs.YtnnkmkhamipfiaaGreatDoor

namespace Go.Proofs.YtnnkmkhamipfiaaGreatDoor
open Go.RowKit Go.Sort

theorem two_cells (W : World) (x y : Value) (t : TypeId) : (W.alloc (.cells #[x, y] t)).cell? ⟨W.heap.size, 0, none⟩ = some x ∧ (W.alloc (.cells #[x, y] t)).cell? ⟨W.heap.size, 1, none⟩ = some y := by
  constructor <;> simp
/-- A number whose block is one of words. -/
def NatT (W : World) (v : Value) (x : Nat) : Prop := NatAt W v x ∧ ∀ b, v.ownBlock = some b → ∃ cur, W.heap[b]? = some (.cells cur 128 (0, 0))
theorem NatT.below {W W' : World} {v : Value} {x : Nat} (h : NatT W v x) (hB : Below W.heap.size W W') : NatT W' v x :=
  ⟨h.1.below hB, fun b e => by
    obtain ⟨cur, hc⟩ := h.2 b e
    exact ⟨cur, (hB.block b (Array.getElem?_eq_some_iff.1 hc).1).trans hc⟩⟩
theorem NatT.nil (W : World) : NatT W (.slice none 0 0) 0 := ⟨NatAt.nil W, fun b e => by cases e⟩
theorem NatT.form {W : World} {v : Value} {x : Nat} (h : NatT W v x) : ∃ a n c, v = .slice a n c := h.1.form
/-- A number stays, when a block that is none of words is written. -/
theorem NatT.poke {V W' : World} {v : Value} {x p : Nat} (h : NatT V v x) (hp : ∀ cur, V.heap[p]? ≠ some (.cells cur 128 (0, 0))) (hk : ∀ b, b < V.heap.size → b ≠ p → W'.heap[b]? = V.heap[b]?) : NatT W' v x := by
  obtain ⟨⟨n, F, ⟨a, cap, e, hc, hx⟩, h2⟩, h3⟩ := h
  subst e
  have hb : ∀ b, Value.ownBlock (.slice a n cap) = some b → b ≠ p ∧ W'.heap[b]? = V.heap[b]? := fun b e => by
    obtain ⟨cur, h4⟩ := h3 b e
    have hne : b ≠ p := fun e2 => hp cur (e2 ▸ h4)
    exact ⟨hne, hk b (Array.getElem?_eq_some_iff.1 h4).1 hne⟩
  refine ⟨⟨n, F, ⟨a, cap, rfl, hc, fun h0 => ?_⟩, h2⟩, fun b e => ?_⟩
  · obtain ⟨b, o, e1, e2⟩ := hx h0
    refine ⟨b, o, e1, fun k hk' => ?_⟩
    have hbb := hb b (by rw [e1]; rfl)
    exact (World.cell?_of_block (a := ⟨b, o + k, none⟩) hbb.2).trans (e2 k hk')
  · obtain ⟨cur, h4⟩ := h3 b e
    exact ⟨cur, (hb b e).2.trans h4⟩
/-- A sum in memory. -/
def SumAt (W : World) (v : Value) (p : Nat × Nat) : Prop := ∃ v1 v2, v = .agg #[v1, v2] ∧ NatT W v1 p.1 ∧ NatT W v2 p.2
theorem SumAt.below {W W' : World} {v : Value} {p : Nat × Nat} (h : SumAt W v p) (hB : Below W.heap.size W W') : SumAt W' v p := by
  obtain ⟨v1, v2, e, h1, h2⟩ := h
  exact ⟨v1, v2, e, h1.below hB, h2.below hB⟩
theorem SumAt.nil (W : World) : SumAt W (.agg #[.slice none 0 0, .slice none 0 0]) (0, 0) := ⟨_, _, rfl, NatT.nil W, NatT.nil W⟩

set_option maxRecDepth 100000 in
theorem sum_times {v : Value} {p : Nat × Nat} (w : World) (h : SumAt w v p) (s : Int) :
    Calls Tryz.prog 66 #[v, .int .i64 s] w fun e w' => ∃ u, e = .returned u ∧ SumAt w' u (swp s p) ∧ Below w.heap.size w w' := by
  obtain ⟨v1, v2, rfl, h1, h2⟩ := h
  have hBa : Below w.heap.size w (w.alloc (.cells #[v1, v2] 92)) := (Below.refl _ w).alloc (Nat.le_refl _) _
  have HB := Hid.mk' hBa
  obtain ⟨a1, n1, c1, rfl⟩ := h1.form
  obtain ⟨a2, n2, c2, rfl⟩ := h2.form
  have HS : Hid (NatT w (.slice a1 n1 c1) p.1 ∧ NatT w (.slice a2 n2 c2) p.2) := ⟨h1, h2⟩
  obtain ⟨q0, q1⟩ := two_cells w (.slice a1 n1 c1) (.slice a2 n2 c2) 92
  clear h1 h2 hBa
  by_cases e : s < 0
  · have e' := e
    obtain ⟨r0, r1⟩ := two_cells (w.alloc (.cells #[.slice a1 n1 c1, .slice a2 n2 c2] 92)) (.slice a2 n2 c2) (.slice a1 n1 c1) 92
    rw [World.size_alloc] at r0 r1
    go_enter Tryz.func66, Tryz.ntmps66
    go_wp2_with fail
    refine bodyPost_ret (v := .agg #[.slice a2 n2 c2, .slice a1 n1 c1]) ?_ rfl ?_
    · simp [results, Tryz.f66, go_sem, r0, r1]
    · have h2 : Below w.heap.size w ((w.alloc (.cells #[.slice a1 n1 c1, .slice a2 n2 c2] 92)).alloc (.cells #[.slice a2 n2 c2, .slice a1 n1 c1] 92)) := HB.out.alloc HB.out.size _
      exact ⟨_, rfl, ⟨_, _, rfl, by rw [show swp s p = (p.2, p.1) from if_pos e]; exact ⟨HS.out.2.below h2, HS.out.1.below h2⟩⟩, h2⟩
  · have e' := e
    obtain ⟨r0, r1⟩ := two_cells (w.alloc (.cells #[.slice a1 n1 c1, .slice a2 n2 c2] 92)) (.slice a1 n1 c1) (.slice a2 n2 c2) 92
    rw [World.size_alloc] at r0 r1
    go_enter Tryz.func66, Tryz.ntmps66
    go_wp2_with fail
    refine bodyPost_ret (v := .agg #[.slice a1 n1 c1, .slice a2 n2 c2]) ?_ rfl ?_
    · simp [results, Tryz.f66, go_sem, r0, r1]
    · have h2 : Below w.heap.size w ((w.alloc (.cells #[.slice a1 n1 c1, .slice a2 n2 c2] 92)).alloc (.cells #[.slice a1 n1 c1, .slice a2 n2 c2] 92)) := HB.out.alloc HB.out.size _
      exact ⟨_, rfl, ⟨_, _, rfl, by rw [show swp s p = p from if_neg (by omega)]; exact ⟨HS.out.1.below h2, HS.out.2.below h2⟩⟩, h2⟩

end Go.Proofs.YtnnkmkhamipfiaaGreatDoor

namespace Go.Proofs.YtnnkmkhamipfiaaGreatDoor
open Go.RowKit Go.Sort

/-- A number that lies elsewhere is kept. -/
theorem NatAt.poke {V W' : World} {v : Value} {x p : Nat} (h : NatAt V v x) (hp : ∀ (o : Nat) (y : Int), V.cell? ⟨p, o, none⟩ ≠ some (.int .u64 y)) (hk : ∀ b, b < V.heap.size → b ≠ p → W'.heap[b]? = V.heap[b]?) : NatAt W' v x := by
  obtain ⟨n, F, ⟨a, cap, e, hc, hx⟩, h2⟩ := h
  refine ⟨n, F, ⟨a, cap, e, hc, fun h0 => ?_⟩, h2⟩
  obtain ⟨b, o, e1, e2⟩ := hx h0
  have hb : b ≠ p := fun eb => by
    have h9 := e2 0 h0
    rw [eb] at h9
    exact hp _ _ h9
  exact ⟨b, o, e1, fun k hk' => (World.cell?_of_block (a := ⟨b, o + k, none⟩) (hk b (cell_lt (e2 k hk')) hb)).trans (e2 k hk')⟩

end Go.Proofs.YtnnkmkhamipfiaaGreatDoor
