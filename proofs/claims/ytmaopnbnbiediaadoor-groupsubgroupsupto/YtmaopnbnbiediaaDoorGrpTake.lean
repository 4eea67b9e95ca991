/- What stands for a coset. Slices of pairs of numbers, as they read. One coset takes over what leads from another one. -/
import Derived.Test.YtmaopnbnbiediaaDoorGrpMem
import Derived.BigRegion
import Derived.Deep.DeepCutAuto
import Derived.Test.YtmaopnbnbiediaaDoorWrapI
import Derived.Laws.OwnMore
namespace Go.Proofs.YtmaopnbnbiediaaDoor
open Go.RowKit Go.Sort

/-- The way becomes shorter. -/
theorem Leads.short {n : Nat} {c cls : Nat → Nat} (h : Leads n c cls) {i : Nat} (hi : i < n) : Leads n (fun j => if j = i then c (c i) else c j) cls := by
  have h1 := h.le i hi
  have h2 := h.le (c i) (by omega)
  refine ⟨h.is, fun j hj => ?_, fun j hj => ?_, fun j hj e => ?_, fun j hj e => ?_⟩
  · have := h.le j hj
    skip
    split <;> omega
  · skip
    split
    · rename_i e
      rw [h.one (c i) (by omega), h.one i hi, e]
    · exact h.one j hj
  · skip
    split at e
    · rename_i e1
      subst e1
      have : c j = j := by omega
      exact h.top j hj this
    · exact h.top j hj e
  · skip
    split
    · rename_i e1
      subst e1
      rw [h.self j hj e, h.self j hj e]
    · exact h.self j hj e

set_option maxRecDepth 100000 in
set_option maxHeartbeats 2000000 in
theorem stands_in {B : Nat} {X : Nat → Prop} {P n : Nat} {s : Cos} {G cG H cH : Nat} {rb c0 : Nat → Nat} (i : Nat) (w : World) (h : OpIn B X P n w s G cG H cH rb c0) (hi : i < s.R.length) :
    Calls Tryd.prog 52 #[.pointer (some ⟨P, 0, none⟩), .int .i64 (i : Int)] w fun e w' => e = .returned (.int .i64 (s.cls i : Int)) ∧ (∃ c, OpIn B X P n w' s G cG H cH rb c) ∧ Kp B X w w' := by
  have h5 : s.R.length ≤ 5000 := h.few
  have HO : Hid (∃ c, OpIn B X P n w s G cG H cH rb c) := ⟨c0, h⟩
  clear h
  go_enter Tryd.func52, Tryd.ntmps52
  go_wp2_with fail
  go_loopw [1] (fun p W => ∃ j : Nat, j < s.R.length ∧ p = .int .i64 j ∧ Hid (s.cls j = s.cls i ∧ (∃ c, OpIn B X P n W s G cG H cH rb c) ∧ Kp B X w W)) (fun p _ => (intOf p).toNat)
  case atStart => exact ⟨i, hi, rfl, rfl, HO.out, Kp.refl _ _ _⟩
  case round =>
    obtain ⟨j, hj, rfl, HC⟩ := hrel
    obtain ⟨c, h⟩ := HC.out.2.1
    have p2 := h.p2
    have cj := h.same_at hj
    have HL : Hid (OpIn B X P n wr s G cG H cH rb c) := h
    obtain ⟨N, hN⟩ : ∃ N, s.R.length = N := ⟨_, rfl⟩
    have HN : Hid (s.R.length = N) := hN
    rw [hN] at p2 hj h5
    have z0 : (0 : Int) ≤ (j : Int) := by omega
    have z1 : (j : Int) < (N : Int) := by omega
    clear h hN hi
    by_cases e : c j = j
    · have HE : Hid (s.cls j = j) := HL.out.lead.top j (by rw [HN.out]; exact hj) e
      rw [e] at cj
      go_wp2_with fail
      go_ret
      exact ⟨by rw [← HC.out.1, HE.out]; rfl, HC.out.2⟩
    · have hle := HL.out.lead.le j (by rw [HN.out]; exact hj)
      have hlt : c j < N := by omega
      have ck := HL.out.same_at (i := c j) (by rw [HN.out]; exact hlt)
      have hle2 := HL.out.lead.le (c j) (by rw [HN.out]; exact hlt)
      have hfz := HL.out.sm.frozenAt j
      have HS := Hid.mk' (HL.out.set_same (i := j) (by rw [HN.out]; exact hj) (c (c j)) (HL.out.lead.short (by rw [HN.out]; exact hj)) HL.out.far)
      have HO1 : Hid (s.cls (c (c j)) = s.cls i) := by
        show _ = _
        rw [HL.out.lead.one (c j) (by rw [HN.out]; exact hlt), HL.out.lead.one j (by rw [HN.out]; exact hj)]
        exact HC.out.1
      obtain ⟨k, hk⟩ : ∃ k, c j = k := ⟨_, rfl⟩
      obtain ⟨m, hm⟩ : ∃ m, c k = m := ⟨_, rfl⟩
      rw [hk] at cj e hle hlt ck hle2 HS HO1
      rw [hm] at ck hle2 HS HO1
      have hb : ((k : Int) == (j : Int)) = false := beq_false_of_ne (by omega)
      have y0 : (0 : Int) ≤ (k : Int) := by omega
      have y1 : (k : Int) < (N : Int) := by omega
      have q2 := HS.out.1.p2
      have qj := HS.out.1.same_at (i := j) (by rw [HN.out]; exact hj)
      rw [if_pos rfl] at qj
      rw [show (Cos.R ⟨s.R, s.cls⟩).length = N from HN.out] at q2
      clear hk hm HL
      go_upto_region 2 with fail
      go_big_region
      obtain ⟨W1, hW1⟩ : ∃ W1, wr.setCell ⟨H, j, none⟩ (.int .i64 (m : Int)) = W1 := ⟨_, rfl⟩
      rw [hW1] at HS q2 qj ⊢
      clear hW1 hfz cj ck p2
      go_wp2_with fail
      go_roundw
      case rel => exact ⟨m, by rw [HN.out]; omega, rfl, HO1.out, ⟨_, HS.out.1.below (Below.refl _ _).drew⟩, (HC.out.2.2.trans HS.out.2).drew⟩
      case measure => simp [intOf]; omega

theorem stands_ {B : Nat} {X : Nat → Prop} {P n : Nat} {s : Cos} (i : Nat) (w : World) (h : OpAt B X P n w s) (hi : i < s.R.length) :
    Calls Tryd.prog 52 #[.pointer (some ⟨P, 0, none⟩), .int .i64 (i : Int)] w fun e w' => e = .returned (.int .i64 (s.cls i : Int)) ∧ OpAt B X P n w' s ∧ Kp B X w w' := by
  obtain ⟨G, cG, H, cH, rb, c, h⟩ := h
  exact (stands_in i w h hi).mono fun e w' h => ⟨h.1, ⟨_, _, _, _, _, h.2.1⟩, h.2.2⟩

end Go.Proofs.YtmaopnbnbiediaaDoor

namespace Go.Proofs.YtmaopnbnbiediaaDoor
open Go.RowKit Go.Sort

abbrev Duo := Int × Int

/-- Their cells. -/
def duoCells (l : List Duo) : List Value := l.flatMap fun a => [.int .i64 a.1, .int .i64 a.2]
theorem duoCells_snoc (l : List Duo) (a : Duo) : duoCells (l ++ [a]) = duoCells l ++ [.int .i64 a.1, .int .i64 a.2] := by simp [duoCells]
theorem duoCells_len (l : List Duo) : (duoCells l).length = l.length * 2 := by
  induction l with
  | nil => rfl
  | cons a l ih => unfold duoCells at ih ⊢; rw [List.flatMap_cons, List.length_append, ih]; simp; omega
theorem duoCells_at : ∀ {l : List Duo} {k : Nat} (hk : k < l.length), (duoCells l)[k * 2]? = some (.int .i64 l[k].1) ∧ (duoCells l)[k * 2 + 1]? = some (.int .i64 l[k].2)
  | a :: l, 0, _ => by constructor <;> rfl
  | a :: l, k + 1, hk => by
    have h := duoCells_at (l := l) (k := k) (by simpa using hk)
    have e : duoCells (a :: l) = .int .i64 a.1 :: .int .i64 a.2 :: duoCells l := rfl
    rw [e, show (k + 1) * 2 = k * 2 + 2 by omega]
    simpa using h

/-- A row of the call's own that holds these pairs. -/
def DuoRow (base : Nat) (t : TypeId) (W : World) (v : Value) (l : List Duo) : Prop := W.ownsRow base t 2 v l.length (duoCells l)

/-- A slice that reads as these pairs, in a block of S. -/
def DuoIn (S : Nat → Prop) (W : World) (v : Value) (l : List Duo) : Prop :=
  ∃ a cap, v = .slice a l.length cap ∧ (0 < l.length → ∃ g o, a = some ⟨g, o, none⟩ ∧ S g ∧ g < W.heap.size ∧ ∀ k (hk : k < l.length), W.cell? ⟨g, o + k * 2, none⟩ = some (.int .i64 l[k].1) ∧ W.cell? ⟨g, o + (k * 2 + 1), none⟩ = some (.int .i64 l[k].2))

theorem DuoIn.nil (S : Nat → Prop) (W : World) : DuoIn S W (.slice none 0 0) [] := ⟨none, 0, rfl, fun h => by cases h⟩
theorem DuoRow.reads {base : Nat} {t : TypeId} {W : World} {v : Value} {l : List Duo} {S : Nat → Prop} (h : DuoRow base t W v l) (hS : ∀ b, base ≤ b → v.ownBlock = some b → S b) : DuoIn S W v l := by
  rcases h.2 with ⟨rfl, hn⟩ | ⟨g, cap, cur, rfl, hb, hg, _⟩
  · exact ⟨none, 0, by rw [hn], fun h0 => by omega⟩
  · refine ⟨some ⟨g, 0, none⟩, cap, rfl, fun _ => ⟨g, 0, rfl, hS g hb rfl, (Array.getElem?_eq_some_iff.1 hg).1, fun k hk => ?_⟩⟩
    have h1 := duoCells_at hk
    have h2 := World.ownsRow.cells h (g := g) rfl _ _ h1.1
    have h3 := World.ownsRow.cells h (g := g) rfl _ _ h1.2
    rw [Addr.add_lit] at h2 h3
    exact ⟨h2, h3⟩
theorem DuoIn.keep {S : Nat → Prop} {W W' : World} {v : Value} {l : List Duo} (h : DuoIn S W v l) (hs : W.heap.size ≤ W'.heap.size) (hk : ∀ b, b < W.heap.size → S b → W'.heap[b]? = W.heap[b]?) : DuoIn S W' v l := by
  obtain ⟨a, cap, e, h1⟩ := h
  refine ⟨a, cap, e, fun h0 => ?_⟩
  obtain ⟨g, o, e1, e2, e3, e4⟩ := h1 h0
  refine ⟨g, o, e1, e2, by omega, fun k hk' => ?_⟩
  have hb := hk g e3 e2
  exact ⟨(World.cell?_of_block hb).trans (e4 k hk').1, (World.cell?_of_block hb).trans (e4 k hk').2⟩
theorem DuoIn.below {S : Nat → Prop} {W W' : World} {v : Value} {l : List Duo} (h : DuoIn S W v l) (hB : Below W.heap.size W W') : DuoIn S W' v l := h.keep hB.size (fun b hb _ => hB.block b hb)
theorem DuoIn.mono {S S' : Nat → Prop} {W : World} {v : Value} {l : List Duo} (h : DuoIn S W v l) (hs : ∀ b, b < W.heap.size → S b → S' b) : DuoIn S' W v l := by
  obtain ⟨a, cap, e, h1⟩ := h
  refine ⟨a, cap, e, fun h0 => ?_⟩
  obtain ⟨g, o, e1, e2, e3, e4⟩ := h1 h0
  exact ⟨g, o, e1, hs g e3 e2, e3, e4⟩
theorem DuoRow.below {base : Nat} {t : TypeId} {W W' : World} {v : Value} {l : List Duo} (h : DuoRow base t W v l) (hB : Below W.heap.size W W') : DuoRow base t W' v l := World.ownsRow.kept h (Below.grownBy hB) (by cases v.ownBlock <;> simp)

end Go.Proofs.YtmaopnbnbiediaaDoor

namespace Go.Proofs.YtmaopnbnbiediaaDoor
open Go.RowKit Go.Sort

theorem takeP_len (a b k : Nat) (R : List (List Int)) : (takeP a b k R).1.length = R.length := by
  induction k with
  | zero => rfl
  | succ k ih =>
    unfold takeP
    dsimp only
    split
    · exact ih
    · split
      · exact ih
      · rw [putE_len]; exact ih
theorem takeP_wide {n : Nat} {R : List (List Int)} (h : Wide n R) (a b k : Nat) : Wide n (takeP a b k R).1 := by
  induction k with
  | zero => exact h
  | succ k ih =>
    unfold takeP
    dsimp only
    split
    · exact ih
    · split
      · exact ih
      · exact putE_wide ih _ _ _
theorem takeP_skip {a b k : Nat} {R : List (List Int)} (e1 : ent R b k = -1) : takeP a b (k + 1) R = takeP a b k R := by
  rw [takeP]
  rw [if_pos e1]
theorem takeP_pair {a b k : Nat} {R : List (List Int)} (e1 : ent R b k ≠ -1) (e2 : ent R a k ≠ -1) : takeP a b (k + 1) R = ((takeP a b k R).1, (takeP a b k R).2 ++ [(ent R a k, ent R b k)]) := by
  rw [takeP]
  rw [if_neg e1, if_pos e2]
theorem takeP_put {a b k : Nat} {R : List (List Int)} (e1 : ent R b k ≠ -1) (e2 : ent R a k = -1) : takeP a b (k + 1) R = (putE (takeP a b k R).1 a k (ent R b k), (takeP a b k R).2) := by
  rw [takeP]
  rw [if_neg e1, if_neg (fun h => h e2)]
/-- What stands in the rows behind some columns. -/
theorem takeP_ent {n : Nat} {R : List (List Int)} (h : Wide n R) {a b : Nat} (ha : a < R.length) : ∀ k, k ≤ 2 * n → ∀ c x, ent (takeP a b k R).1 c x = if c = a ∧ x < k ∧ ent R a x = -1 then ent R b x else ent R c x
  | 0, _, c, x => by rw [if_neg (by omega)]; rfl
  | k + 1, hk, c, x => by
    have ih := takeP_ent (b := b) h ha k (by omega)
    by_cases e1 : ent R b k = -1
    · have et : takeP a b (k + 1) R = takeP a b k R := takeP_skip e1
      rw [et, ih]
      by_cases e2 : c = a ∧ x < k ∧ ent R a x = -1
      · rw [if_pos e2, if_pos ⟨e2.1, by omega, e2.2.2⟩]
      · rw [if_neg e2]
        by_cases e3 : c = a ∧ x < k + 1 ∧ ent R a x = -1
        · rw [if_pos e3]
          have : x = k := by
            rcases Nat.lt_or_ge x k with hl | hl
            · exact absurd ⟨e3.1, hl, e3.2.2⟩ e2
            · omega
          subst this
          rw [e1, e3.1, e3.2.2]
        · rw [if_neg e3]
    · by_cases e2 : ent R a k ≠ -1
      · have et : (takeP a b (k + 1) R).1 = (takeP a b k R).1 := by rw [takeP_pair e1 e2]
        rw [et, ih]
        by_cases e3 : c = a ∧ x < k ∧ ent R a x = -1
        · rw [if_pos e3, if_pos ⟨e3.1, by omega, e3.2.2⟩]
        · rw [if_neg e3, if_neg fun e4 => ?_]
          have : x = k := by
            rcases Nat.lt_or_ge x k with hl | hl
            · exact absurd ⟨e4.1, hl, e4.2.2⟩ e3
            · omega
          subst this
          exact e2 e4.2.2
      · have et : (takeP a b (k + 1) R).1 = putE (takeP a b k R).1 a k (ent R b k) := by rw [takeP_put e1 (Classical.not_not.1 e2)]
        rw [et, ent_put (takeP_wide h a b k) (by rw [takeP_len]; exact ha) (by omega), ih]
        have e2' : ent R a k = -1 := Classical.not_not.1 e2
        by_cases e3 : c = a ∧ x = k
        · rw [if_pos e3, if_pos ⟨e3.1, by omega, by rw [e3.2]; exact e2'⟩, e3.2]
        · rw [if_neg e3]
          by_cases e4 : c = a ∧ x < k ∧ ent R a x = -1
          · rw [if_pos e4, if_pos ⟨e4.1, by omega, e4.2.2⟩]
          · rw [if_neg e4, if_neg fun e5 => ?_]
            rcases Nat.lt_or_ge x k with hl | hl
            · exact e4 ⟨e5.1, hl, e5.2.2⟩
            · exact e3 ⟨e5.1, by omega⟩
theorem takeP_more (a b k : Nat) (R : List (List Int)) : (takeP a b k R).2.length ≤ k := by
  induction k with
  | zero => exact Nat.le_refl _
  | succ k ih =>
    unfold takeP
    dsimp only
    split
    · omega
    · split
      · simp; omega
      · show (takeP a b k R).2.length ≤ k + 1; omega
theorem Tryd.infop : (Tryd.prog.info? 123).map (fun i => (i.zero, i.size, i.bytes)) = some (some (.agg #[.int .i64 0, .int .i64 0]), 2, 16) := by kernel_rfl

theorem join_far {N : Nat} {cls : Nat → Nat} (hc : Cls cls) (hf : ∀ i, N ≤ i → cls i = i) {p : Nat × Nat} (h1 : p.1 < N) (h2 : p.2 < N) (i : Nat) (hi : N ≤ i) : joinC cls p i = i := by
  have := hc.le p.1
  have := hc.le p.2
  rw [joinC_eq i (by rw [hf i hi]; omega)]
  exact hf i hi

theorem own_two {w : World} {base : Nat} {t : TypeId} {v : Value} {n : Nat} {xs : List Value} (h : w.ownsRow base t 2 v n xs) : ∃ a c, v = .slice a n c := by
  obtain ⟨_, h⟩ := h
  rcases h with ⟨rfl, rfl⟩ | ⟨g, cap, cur, rfl, _⟩
  · exact ⟨_, _, rfl⟩
  · exact ⟨_, _, rfl⟩

set_option maxRecDepth 100000 in
set_option maxHeartbeats 4000000 in
theorem take_ {B : Nat} {X : Nat → Prop} {P n : Nat} {s : Cos} (a b : Nat) (p : Nat × Nat) (w : World) (h : OpAt B X P n w s) (hp1 : p.1 < s.R.length) (hp2 : p.2 < s.R.length) (ha : a = min (s.cls p.1) (s.cls p.2)) (hb : b = max (s.cls p.1) (s.cls p.2)) (hab : a ≠ b) (hn : n ≤ 12) :
    Calls Tryd.prog 69 #[.pointer (some ⟨P, 0, none⟩), .int .i64 (a : Int), .int .i64 (b : Int)] w fun e w' => ∃ v, e = .returned v ∧ DuoRow w.heap.size 123 w' v (takeP a b (2 * n) s.R).2 ∧ OpAt B (fun b => X b ∨ w.heap.size ≤ b) P n w' ⟨(takeP a b (2 * n) s.R).1, joinC s.cls p⟩ ∧ Kp B X w w' := by
  obtain ⟨i0, hi0, hz0, hz1, hz2⟩ := info_parts Tryd.infop
  have hB0 : B ≤ w.heap.size := by obtain ⟨G, cG, H, cH, rb, c, h⟩ := h; have := h.own.1; have := cell_lt h.p0; simp only at this; omega
  obtain ⟨G, cG, H, cH, rb, c, h⟩ := h.turn (Y := fun b => X b ∨ w.heap.size ≤ b) (fun b hb hy => hy.elim id fun h => by omega)
  have hN5 := h.few
  have haN : a < s.R.length := by have := h.lead.is.le p.1; omega
  have hbN : b < s.R.length := by have := h.lead.is.le p.1; have := h.lead.is.le p.2; omega
  have hL := h.lead.join (p := p) hp1 hp2
  rw [← ha, ← hb] at hL
  have HS := Hid.mk' (h.set_same hbN a hL (fun i hi => join_far h.lead.is h.far hp1 hp2 i hi))
  have p2 := h.p2
  have cb := h.same_at hbN
  have fb := h.sm.frozenAt b
  have HW := Hid.mk' h.wide
  obtain ⟨R, hR⟩ : ∃ R, s.R = R := ⟨_, rfl⟩
  obtain ⟨cls2, hcls⟩ : ∃ cls2, joinC s.cls p = cls2 := ⟨_, rfl⟩
  rw [hcls]
  rw [hR] at HS p2 haN hbN hN5 HW ⊢
  rw [hcls] at HS
  obtain ⟨N, hN⟩ : ∃ N, R.length = N := ⟨_, rfl⟩
  have HN : Hid (R.length = N) := hN
  obtain ⟨m2, hm2⟩ : ∃ m2, 2 * n = m2 := ⟨_, rfl⟩
  have HM : Hid (2 * n = m2) := hm2
  rw [hN] at p2 haN hbN hN5
  have hm24 : m2 ≤ 24 := by omega
  have x0 : (0 : Int) ≤ (a : Int) := by omega
  have x1 : (a : Int) < (N : Int) := by omega
  have y0 : (0 : Int) ≤ (b : Int) := by omega
  have y1 : (b : Int) < (N : Int) := by omega
  rw [hm2]
  clear h ha hb hp1 hp2 hL hR hcls hN hm2 hn
  go_enter Tryd.func69, Tryd.ntmps69
  go_upto_region 2 with fail
  obtain ⟨W1, hW1⟩ : ∃ W1, w.setCell ⟨H, b, none⟩ (.int .i64 (a : Int)) = W1 := ⟨_, rfl⟩
  rw [hW1] at HS ⊢
  have q0 := HS.out.1.p0
  have qb := HS.out.1.row_at (i := b) (by rw [show (Cos.R ⟨R, cls2⟩) = R from rfl, HN.out]; exact hbN)
  rw [show (Cos.R ⟨R, cls2⟩) = R from rfl, HN.out] at q0
  rw [HM.out] at qb
  clear hW1 cb fb p2
  go_wp2_with fail
  go_loopw [7, 27] (fun pv q W => ∃ (k : Nat) (v : Value), k ≤ m2 ∧ pv = v ∧ q = .int .i64 k ∧ Hid (DuoRow w.heap.size 123 W v (takeP a b k R).2 ∧ OpIn B (fun b => X b ∨ w.heap.size ≤ b) P n W ⟨(takeP a b k R).1, cls2⟩ G cG H cH rb (fun j => if j = b then a else c j) ∧ Kp B X w W)) (fun _ q _ => m2 - (intOf q).toNat)
  case atStart => exact ⟨0, _, by omega, rfl, rfl, World.ownsRow_nil _ _ _ _, HS.out.1, HS.out.2.mono fun b hb _ => .inl hb⟩
  case round =>
    obtain ⟨k, v, hk, rfl, rfl, HK⟩ := hrel
    have HLEN : Hid ((Cos.R ⟨(takeP a b k R).1, cls2⟩).length = N) := (takeP_len a b k R).trans HN.out
    by_cases hkn : k < m2
    · have hk2 : k < 2 * n := by rw [HM.out]; exact hkn
      have z0 : (0 : Int) ≤ (k : Int) := by omega
      have z1 : (k : Int) < (m2 : Int) := by omega
      have eb := HK.out.2.1.ent_at (i := b) (x := k) (by rw [HLEN.out]; exact hbN) hk2
      have ea := HK.out.2.1.ent_at (i := a) (x := k) (by rw [HLEN.out]; exact haN) hk2
      rw [show Cos.R ⟨(takeP a b k R).1, cls2⟩ = (takeP a b k R).1 from rfl, takeP_ent HW.out (by rw [HN.out]; exact haN) k (Nat.le_of_lt hk2)] at eb ea
      rw [if_neg (fun h => hab h.1.symm)] at eb
      rw [if_neg (by omega)] at ea
      have r0 := HK.out.2.1.p0
      have ra := HK.out.2.1.row_at (i := a) (by rw [HLEN.out]; exact haN)
      rw [HLEN.out] at r0
      rw [HM.out] at ra
      have fa := (HK.out.2.1.inner a (by rw [HLEN.out]; exact haN)).frozen k
      obtain ⟨tw, hto⟩ : ∃ tw, ent R b k = tw := ⟨_, rfl⟩
      obtain ⟨kept, hkept⟩ : ∃ kept, ent R a k = kept := ⟨_, rfl⟩
      have HT : Hid (ent R b k = tw ∧ ent R a k = kept) := ⟨hto, hkept⟩
      rw [hto] at eb
      rw [hkept] at ea
      obtain ⟨av, cv, hv⟩ := own_two HK.out.1
      obtain ⟨nv, hnv⟩ : ∃ nv, (takeP a b k R).2.length = nv := ⟨_, rfl⟩
      have HNV : Hid ((takeP a b k R).2.length = nv) := hnv
      have hnk : nv ≤ k := by rw [← hnv]; exact takeP_more a b k R
      rw [hnv] at hv
      subst hv
      clear hto hkept hnv
      by_cases e1 : tw = -1
      · subst e1
        go_wp2_with fail
        go_roundw
        case rel => exact ⟨k + 1, _, by omega, rfl, by go_num, by rw [takeP_skip HT.out.1]; exact HK.out⟩
        case measure => simp [intOf]; omega
      · have hb1 : (tw == -1) = false := beq_false_of_ne e1
        by_cases e2 : kept = -1
        · subst e2
          have HS2 := Hid.mk' (HK.out.2.1.set_ent (i := a) (x := k) (by rw [HLEN.out]; exact haN) hk2 tw)
          go_wp2_with fail
          go_roundw
          case rel =>
            refine ⟨k + 1, _, by omega, rfl, by go_num, ?_⟩
            rw [takeP_put (by rw [HT.out.1]; exact e1) HT.out.2, HT.out.1]
            refine ⟨World.ownsRow.kept HK.out.1 (grown_at _ _ _) ?_, HS2.out.1, HK.out.2.2.trans (HS2.out.2.mono fun b hb _ => .inl hb)⟩
            cases e : (Value.slice av nv cv).ownBlock with
            | none => exact .inl rfl
            | some q =>
              refine .inr fun e' => ?_
              have h1 := (World.ownsRow.lt HK.out.1 q e).1
              have h2 := HK.out.2.1.notX.2.2.2 a (by rw [HLEN.out]; exact haN)
              have h3 : q = rb a := Option.some.inj e'
              exact h2 (.inr (by rw [← h3]; exact h1))
          case measure => simp [intOf]; omega
        · have hb2 : (kept == -1) = false := beq_false_of_ne e2
          have hBw := HK.out.2.2.size
          go_wp2_with (first
            | (at_builtin; refine wpList_append_own_at _ rfl (.tmp 47) (.tmp 51) 124 rfl w.heap.size 123 i0 (.agg #[.int .i64 0, .int .i64 0]) 2 16 Tryd.underlying124 hi0 hz0 hz1 hz2 rfl (by decide) _ nv (duoCells (takeP a b k R).2) rfl (by have := HK.out.1; unfold DuoRow at this; rw [HNV.out] at this; exact this.alloc _) ⟨_, 0, none⟩ 1 1 [.int .i64 kept, .int .i64 tw] rfl rfl (cells_new _ _ _) (by simp [Value.oneCell']) (by unfold maxLen; omega) (by omega) (by simp; omega) ?_; intro v5 w5 hown5 hg5 hn5 hl5; have HG5 := Hid.mk' (And.intro hown5 (And.intro hg5 hl5)); clear hown5 hg5 hn5 hl5)
            | fail)
          go_roundw
          case rel =>
            refine ⟨k + 1, _, by omega, rfl, by go_num, ?_⟩
            rw [takeP_pair (by rw [HT.out.1]; exact e1) (by rw [HT.out.2]; exact e2), HT.out.1, HT.out.2]
            have hlb : ∀ b, (Value.slice av nv cv).ownBlock = some b → w.heap.size ≤ b := fun b e => (World.ownsRow.lt HK.out.1 b e).1
            refine ⟨?_, (HK.out.2.1.below ((Below.refl _ _).alloc (Nat.le_refl _) _)).grown HG5.out.2.1 (fun b e => .inr (hlb b e)), (HK.out.2.2.on (World.grownBy_alloc _ _ none) (fun b e => by cases e)).on HG5.out.2.1 (fun b e => .inl (hlb b e))⟩
            unfold DuoRow
            rw [List.length_append, duoCells_snoc, HNV.out]
            exact HG5.out.1
          case measure => simp [intOf]; omega
    · obtain rfl : k = m2 := by omega
      go_wp2_with fail
      go_ret
      exact ⟨_, rfl, HK.out.1, ⟨_, _, _, _, _, _, HK.out.2.1⟩, HK.out.2.2⟩

end Go.Proofs.YtmaopnbnbiediaaDoor
