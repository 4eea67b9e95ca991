/- One coset takes over what leads from another one. -/
import Derived.Test.YthcgabghkbgccaaDoorDuos
namespace Go.Proofs.YthcgabghkbgccaaDoor
open Go.RowKit Go.Sort

theorem takeP_len (a b k : Nat) (R : List (List Int)) : (takeP a b k R).1.length = R.length := by
  induction k with
  | zero => rfl
  | succ k ih =>
    unfold takeP
    dsimp only
    split
    · exact ih
    · split
      · exact ih
      · rw [putE_len]; exact ih
theorem takeP_wide {n : Nat} {R : List (List Int)} (h : Wide n R) (a b k : Nat) : Wide n (takeP a b k R).1 := by
  induction k with
  | zero => exact h
  | succ k ih =>
    unfold takeP
    dsimp only
    split
    · exact ih
    · split
      · exact ih
      · exact putE_wide ih _ _ _
theorem takeP_skip {a b k : Nat} {R : List (List Int)} (e1 : ent R b k = -1) : takeP a b (k + 1) R = takeP a b k R := by
  rw [takeP]
  rw [if_pos e1]
theorem takeP_pair {a b k : Nat} {R : List (List Int)} (e1 : ent R b k ≠ -1) (e2 : ent R a k ≠ -1) : takeP a b (k + 1) R = ((takeP a b k R).1, (takeP a b k R).2 ++ [(ent R a k, ent R b k)]) := by
  rw [takeP]
  rw [if_neg e1, if_pos e2]
theorem takeP_put {a b k : Nat} {R : List (List Int)} (e1 : ent R b k ≠ -1) (e2 : ent R a k = -1) : takeP a b (k + 1) R = (putE (takeP a b k R).1 a k (ent R b k), (takeP a b k R).2) := by
  rw [takeP]
  rw [if_neg e1, if_neg (fun h => h e2)]
/-- What stands in the rows behind some columns. -/
theorem takeP_ent {n : Nat} {R : List (List Int)} (h : Wide n R) {a b : Nat} (ha : a < R.length) : ∀ k, k ≤ 2 * n → ∀ c x, ent (takeP a b k R).1 c x = if c = a ∧ x < k ∧ ent R a x = -1 then ent R b x else ent R c x
  | 0, _, c, x => by rw [if_neg (by omega)]; rfl
  | k + 1, hk, c, x => by
    have ih := takeP_ent (b := b) h ha k (by omega)
    by_cases e1 : ent R b k = -1
    · have et : takeP a b (k + 1) R = takeP a b k R := takeP_skip e1
      rw [et, ih]
      by_cases e2 : c = a ∧ x < k ∧ ent R a x = -1
      · rw [if_pos e2, if_pos ⟨e2.1, by omega, e2.2.2⟩]
      · rw [if_neg e2]
        by_cases e3 : c = a ∧ x < k + 1 ∧ ent R a x = -1
        · rw [if_pos e3]
          have : x = k := by
            rcases Nat.lt_or_ge x k with hl | hl
            · exact absurd ⟨e3.1, hl, e3.2.2⟩ e2
            · omega
          subst this
          rw [e1, e3.1, e3.2.2]
        · rw [if_neg e3]
    · by_cases e2 : ent R a k ≠ -1
      · have et : (takeP a b (k + 1) R).1 = (takeP a b k R).1 := by rw [takeP_pair e1 e2]
        rw [et, ih]
        by_cases e3 : c = a ∧ x < k ∧ ent R a x = -1
        · rw [if_pos e3, if_pos ⟨e3.1, by omega, e3.2.2⟩]
        · rw [if_neg e3, if_neg fun e4 => ?_]
          have : x = k := by
            rcases Nat.lt_or_ge x k with hl | hl
            · exact absurd ⟨e4.1, hl, e4.2.2⟩ e3
            · omega
          subst this
          exact e2 e4.2.2
      · have et : (takeP a b (k + 1) R).1 = putE (takeP a b k R).1 a k (ent R b k) := by rw [takeP_put e1 (Classical.not_not.1 e2)]
        rw [et, ent_put (takeP_wide h a b k) (by rw [takeP_len]; exact ha) (by omega), ih]
        have e2' : ent R a k = -1 := Classical.not_not.1 e2
        by_cases e3 : c = a ∧ x = k
        · rw [if_pos e3, if_pos ⟨e3.1, by omega, by rw [e3.2]; exact e2'⟩, e3.2]
        · rw [if_neg e3]
          by_cases e4 : c = a ∧ x < k ∧ ent R a x = -1
          · rw [if_pos e4, if_pos ⟨e4.1, by omega, e4.2.2⟩]
          · rw [if_neg e4, if_neg fun e5 => ?_]
            rcases Nat.lt_or_ge x k with hl | hl
            · exact e4 ⟨e5.1, hl, e5.2.2⟩
            · exact e3 ⟨e5.1, by omega⟩
theorem takeP_more (a b k : Nat) (R : List (List Int)) : (takeP a b k R).2.length ≤ k := by
  induction k with
  | zero => exact Nat.le_refl _
  | succ k ih =>
    unfold takeP
    dsimp only
    split
    · omega
    · split
      · simp; omega
      · show (takeP a b k R).2.length ≤ k + 1; omega
theorem Tryd.infop : (Tryd.prog.info? 97).map (fun i => (i.zero, i.size, i.bytes)) = some (some (.agg #[.int .i64 0, .int .i64 0]), 2, 16) := by kernel_rfl

theorem join_far {N : Nat} {cls : Nat → Nat} (hc : Cls cls) (hf : ∀ i, N ≤ i → cls i = i) {p : Nat × Nat} (h1 : p.1 < N) (h2 : p.2 < N) (i : Nat) (hi : N ≤ i) : joinC cls p i = i := by
  have := hc.le p.1
  have := hc.le p.2
  rw [joinC_eq i (by rw [hf i hi]; omega)]
  exact hf i hi

theorem own_two {w : World} {base : Nat} {t : TypeId} {v : Value} {n : Nat} {xs : List Value} (h : w.ownsRow base t 2 v n xs) : ∃ a c, v = .slice a n c := by
  obtain ⟨_, h⟩ := h
  rcases h with ⟨rfl, rfl⟩ | ⟨g, cap, cur, rfl, _⟩
  · exact ⟨_, _, rfl⟩
  · exact ⟨_, _, rfl⟩

set_option maxRecDepth 100000 in
set_option maxHeartbeats 4000000 in
theorem take_ {B : Nat} {X : Nat → Prop} {P n : Nat} {s : Cos} (a b : Nat) (p : Nat × Nat) (w : World) (h : OpAt B X P n w s) (hp1 : p.1 < s.R.length) (hp2 : p.2 < s.R.length) (ha : a = min (s.cls p.1) (s.cls p.2)) (hb : b = max (s.cls p.1) (s.cls p.2)) (hab : a ≠ b) (hn : n ≤ 12) :
    Calls Tryd.prog 49 #[.pointer (some ⟨P, 0, none⟩), .int .i64 (a : Int), .int .i64 (b : Int)] w fun e w' => ∃ v, e = .returned v ∧ DuoRow w.heap.size 97 w' v (takeP a b (2 * n) s.R).2 ∧ OpAt B (fun b => X b ∨ w.heap.size ≤ b) P n w' ⟨(takeP a b (2 * n) s.R).1, joinC s.cls p⟩ ∧ Kp B X w w' := by
  obtain ⟨i0, hi0, hz0, hz1, hz2⟩ := info_parts Tryd.infop
  have hB0 : B ≤ w.heap.size := by obtain ⟨G, cG, H, cH, rb, c, h⟩ := h; have := h.own.1; have := cell_lt h.p0; simp only at this; omega
  obtain ⟨G, cG, H, cH, rb, c, h⟩ := h.turn (Y := fun b => X b ∨ w.heap.size ≤ b) (fun b hb hy => hy.elim id fun h => by omega)
  have hN5 := h.few
  have haN : a < s.R.length := by have := h.lead.is.le p.1; omega
  have hbN : b < s.R.length := by have := h.lead.is.le p.1; have := h.lead.is.le p.2; omega
  have hL := h.lead.join (p := p) hp1 hp2
  rw [← ha, ← hb] at hL
  have HS := Hid.mk' (h.set_same hbN a hL (fun i hi => join_far h.lead.is h.far hp1 hp2 i hi))
  have p2 := h.p2
  have cb := h.same_at hbN
  have fb := h.sm.frozenAt b
  have HW := Hid.mk' h.wide
  obtain ⟨R, hR⟩ : ∃ R, s.R = R := ⟨_, rfl⟩
  obtain ⟨cls2, hcls⟩ : ∃ cls2, joinC s.cls p = cls2 := ⟨_, rfl⟩
  rw [hcls]
  rw [hR] at HS p2 haN hbN hN5 HW ⊢
  rw [hcls] at HS
  obtain ⟨N, hN⟩ : ∃ N, R.length = N := ⟨_, rfl⟩
  have HN : Hid (R.length = N) := hN
  obtain ⟨m2, hm2⟩ : ∃ m2, 2 * n = m2 := ⟨_, rfl⟩
  have HM : Hid (2 * n = m2) := hm2
  rw [hN] at p2 haN hbN hN5
  have hm24 : m2 ≤ 24 := by omega
  have x0 : (0 : Int) ≤ (a : Int) := by omega
  have x1 : (a : Int) < (N : Int) := by omega
  have y0 : (0 : Int) ≤ (b : Int) := by omega
  have y1 : (b : Int) < (N : Int) := by omega
  rw [hm2]
  clear h ha hb hp1 hp2 hL hR hcls hN hm2 hn
  go_enter Tryd.func49, Tryd.ntmps49
  go_upto_region 2 with fail
  obtain ⟨W1, hW1⟩ : ∃ W1, w.setCell ⟨H, b, none⟩ (.int .i64 (a : Int)) = W1 := ⟨_, rfl⟩
  rw [hW1] at HS ⊢
  have q0 := HS.out.1.p0
  have qb := HS.out.1.row_at (i := b) (by rw [show (Cos.R ⟨R, cls2⟩) = R from rfl, HN.out]; exact hbN)
  rw [show (Cos.R ⟨R, cls2⟩) = R from rfl, HN.out] at q0
  rw [HM.out] at qb
  clear hW1 cb fb p2
  go_wp2_with fail
  go_loopw [7, 27] (fun pv q W => ∃ (k : Nat) (v : Value), k ≤ m2 ∧ pv = v ∧ q = .int .i64 k ∧ Hid (DuoRow w.heap.size 97 W v (takeP a b k R).2 ∧ OpIn B (fun b => X b ∨ w.heap.size ≤ b) P n W ⟨(takeP a b k R).1, cls2⟩ G cG H cH rb (fun j => if j = b then a else c j) ∧ Kp B X w W)) (fun _ q _ => m2 - (intOf q).toNat)
  case atStart => exact ⟨0, _, by omega, rfl, rfl, World.ownsRow_nil _ _ _ _, HS.out.1, HS.out.2.mono fun b hb _ => .inl hb⟩
  case round =>
    obtain ⟨k, v, hk, rfl, rfl, HK⟩ := hrel
    have HLEN : Hid ((Cos.R ⟨(takeP a b k R).1, cls2⟩).length = N) := (takeP_len a b k R).trans HN.out
    by_cases hkn : k < m2
    · have hk2 : k < 2 * n := by rw [HM.out]; exact hkn
      have z0 : (0 : Int) ≤ (k : Int) := by omega
      have z1 : (k : Int) < (m2 : Int) := by omega
      have eb := HK.out.2.1.ent_at (i := b) (x := k) (by rw [HLEN.out]; exact hbN) hk2
      have ea := HK.out.2.1.ent_at (i := a) (x := k) (by rw [HLEN.out]; exact haN) hk2
      rw [show Cos.R ⟨(takeP a b k R).1, cls2⟩ = (takeP a b k R).1 from rfl, takeP_ent HW.out (by rw [HN.out]; exact haN) k (Nat.le_of_lt hk2)] at eb ea
      rw [if_neg (fun h => hab h.1.symm)] at eb
      rw [if_neg (by omega)] at ea
      have r0 := HK.out.2.1.p0
      have ra := HK.out.2.1.row_at (i := a) (by rw [HLEN.out]; exact haN)
      rw [HLEN.out] at r0
      rw [HM.out] at ra
      have fa := (HK.out.2.1.inner a (by rw [HLEN.out]; exact haN)).frozen k
      obtain ⟨tw, hto⟩ : ∃ tw, ent R b k = tw := ⟨_, rfl⟩
      obtain ⟨kept, hkept⟩ : ∃ kept, ent R a k = kept := ⟨_, rfl⟩
      have HT : Hid (ent R b k = tw ∧ ent R a k = kept) := ⟨hto, hkept⟩
      rw [hto] at eb
      rw [hkept] at ea
      obtain ⟨av, cv, hv⟩ := own_two HK.out.1
      obtain ⟨nv, hnv⟩ : ∃ nv, (takeP a b k R).2.length = nv := ⟨_, rfl⟩
      have HNV : Hid ((takeP a b k R).2.length = nv) := hnv
      have hnk : nv ≤ k := by rw [← hnv]; exact takeP_more a b k R
      rw [hnv] at hv
      subst hv
      clear hto hkept hnv
      by_cases e1 : tw = -1
      · subst e1
        go_wp2_with fail
        go_roundw
        case rel => exact ⟨k + 1, _, by omega, rfl, by go_num, by rw [takeP_skip HT.out.1]; exact HK.out⟩
        case measure => simp [intOf]; omega
      · have hb1 : (tw == -1) = false := beq_false_of_ne e1
        by_cases e2 : kept = -1
        · subst e2
          have HS2 := Hid.mk' (HK.out.2.1.set_ent (i := a) (x := k) (by rw [HLEN.out]; exact haN) hk2 tw)
          go_wp2_with fail
          go_roundw
          case rel =>
            refine ⟨k + 1, _, by omega, rfl, by go_num, ?_⟩
            rw [takeP_put (by rw [HT.out.1]; exact e1) HT.out.2, HT.out.1]
            refine ⟨World.ownsRow.kept HK.out.1 (grown_at _ _ _) ?_, HS2.out.1, HK.out.2.2.trans (HS2.out.2.mono fun b hb _ => .inl hb)⟩
            cases e : (Value.slice av nv cv).ownBlock with
            | none => exact .inl rfl
            | some q =>
              refine .inr fun e' => ?_
              have h1 := (World.ownsRow.lt HK.out.1 q e).1
              have h2 := HK.out.2.1.notX.2.2.2 a (by rw [HLEN.out]; exact haN)
              have h3 : q = rb a := Option.some.inj e'
              exact h2 (.inr (by rw [← h3]; exact h1))
          case measure => simp [intOf]; omega
        · have hb2 : (kept == -1) = false := beq_false_of_ne e2
          have hBw := HK.out.2.2.size
          go_wp2_with (first
            | (at_builtin; refine wpList_append_own_at _ rfl (.tmp 47) (.tmp 51) 98 rfl w.heap.size 97 i0 (.agg #[.int .i64 0, .int .i64 0]) 2 16 Tryd.underlying98 hi0 hz0 hz1 hz2 rfl (by decide) _ nv (duoCells (takeP a b k R).2) rfl (by have := HK.out.1; unfold DuoRow at this; rw [HNV.out] at this; exact this.alloc _) ⟨_, 0, none⟩ 1 1 [.int .i64 kept, .int .i64 tw] rfl rfl (cells_new _ _ _) (by simp [Value.oneCell']) (by unfold maxLen; omega) (by omega) (by simp; omega) ?_; intro v5 w5 hown5 hg5 hn5 hl5; have HG5 := Hid.mk' (And.intro hown5 (And.intro hg5 hl5)); clear hown5 hg5 hn5 hl5)
            | fail)
          go_roundw
          case rel =>
            refine ⟨k + 1, _, by omega, rfl, by go_num, ?_⟩
            rw [takeP_pair (by rw [HT.out.1]; exact e1) (by rw [HT.out.2]; exact e2), HT.out.1, HT.out.2]
            have hlb : ∀ b, (Value.slice av nv cv).ownBlock = some b → w.heap.size ≤ b := fun b e => (World.ownsRow.lt HK.out.1 b e).1
            refine ⟨?_, (HK.out.2.1.below ((Below.refl _ _).alloc (Nat.le_refl _) _)).grown HG5.out.2.1 (fun b e => .inr (hlb b e)), (HK.out.2.2.on (World.grownBy_alloc _ _ none) (fun b e => by cases e)).on HG5.out.2.1 (fun b e => .inl (hlb b e))⟩
            unfold DuoRow
            rw [List.length_append, duoCells_snoc, HNV.out]
            exact HG5.out.1
          case measure => simp [intOf]; omega
    · obtain rfl : k = m2 := by omega
      go_wp2_with fail
      go_ret
      exact ⟨_, rfl, HK.out.1, ⟨_, _, _, _, _, _, HK.out.2.1⟩, HK.out.2.2⟩

end Go.Proofs.YthcgabghkbgccaaDoor
