/- The reference's Orders and Ways. A table that is made of orders, as it lies in memory; the table of a number. -/
import Derived.Test.YtmaopnbnbiediaaDoorGrpPut
import Derived.Test.YtmaopnbnbiediaaDoorGrpHoldsB
namespace Go.Proofs.YtmaopnbnbiediaaDoor
open Go.RowKit Go.Sort

set_option maxRecDepth 100000 in
theorem orders_len' : ∀ N, N < 5 → (ordersP N).length = facN N := by decide +kernel
theorem orders_len {N : Nat} (h : N ≤ 4) : (ordersP N).length = facN N := orders_len' N (by omega)
set_option maxRecDepth 100000 in
theorem orders_in' : ∀ N, N < 5 → ∀ p ∈ ordersP N, p.length = N ∧ ∀ v ∈ p, 0 ≤ v ∧ v < (N : Int) := by decide +kernel
theorem orders_in {N : Nat} (h : N ≤ 4) {p : List Int} (hp : p ∈ ordersP N) : p.length = N ∧ ∀ v ∈ p, 0 ≤ v ∧ v < (N : Int) := orders_in' N (by omega) p hp
theorem facN_pos : ∀ k, 0 < facN k
  | 0 => by decide
  | k + 1 => Nat.mul_pos (facN_pos k) (by omega)

set_option maxRecDepth 100000 in
theorem orders_ (N : Nat) (w : World) (hN : N ≤ 4) : Calls Tryd.prog 17 #[.int .i64 (N : Int)] w fun e w' => ∃ au cu, e = .returned (.slice au (facN N) cu) ∧ Rows w' (.slice au (facN N) cu) (ordersP N) ∧ Below w.heap.size w w' := by
  have ho := ordersFrom_ N hN N [] anyBlock (.slice none 0 0) w (by simp) (SliceIn.nil _ _) (fun _ _ => trivial)
  have hlen := orders_len hN
  go_enter Tryd.func17, Tryd.ntmps17
  go_wp2_with (go_at_call 39; refine ho.mono ?_; rintro e V ⟨u, rfl, hu, hb⟩; have HU : Hid (Rows V u (ordersP N) ∧ Below w.heap.size w V) := ⟨hu.rows, hb⟩; clear ho hu hb)
  go_ret
  obtain ⟨au, cu, hu, -, -⟩ := HU.out.1.open_
  rw [hlen] at hu
  subst hu
  exact ⟨au, cu, rfl, HU.out.1, HU.out.2⟩

def waysP (N n : Nat) : Nat := if 20000 < facN N ^ n then 0 else facN N ^ n
theorem pow_mono {F j n : Nat} (hF : 0 < F) (h : j ≤ n) : F ^ j ≤ F ^ n := Nat.pow_le_pow_right hF h

set_option maxRecDepth 100000 in
set_option maxHeartbeats 2000000 in
theorem waysR_ (N n : Nat) (vr : Value) (w : World) (hN : N ≤ 4) (hn : n ≤ 5) :
    Calls Tryd.prog 7 #[.agg #[.int .i64 (n : Int), vr], .int .i64 (N : Int)] w fun e w' => e = .returned (.int .i64 (waysP N n : Int)) ∧ Below w.heap.size w w' := by
  have hBa : Below w.heap.size w (w.alloc (.cells #[.int .i64 (n : Int), vr] 24)) := (Below.refl _ w).alloc (Nat.le_refl _) _
  have q0 := cells_new w [.int .i64 (n : Int), vr] 24 0 _ rfl
  rw [Addr.add_lit, Nat.zero_add] at q0
  obtain ⟨W0, hW0⟩ : ∃ W0, w.alloc (.cells #[.int .i64 (n : Int), vr] 24) = W0 := ⟨_, rfl⟩
  obtain ⟨gb, hgb⟩ : ∃ gb, w.heap.size = gb := ⟨_, rfl⟩
  rw [show (List.toArray [Value.int .i64 (n : Int), vr]) = #[.int .i64 (n : Int), vr] from rfl, hW0, hgb] at q0
  have HG : Hid (w.alloc (.cells #[.int .i64 (n : Int), vr] 24) = W0 ∧ w.heap.size = gb ∧ Below w.heap.size w W0) := ⟨hW0, hgb, by rw [← hW0]; exact hBa⟩
  have hF0 := facN_pos N
  have hF1 := facN_le hN
  have hor : ∀ V, Calls Tryd.prog 17 #[.int .i64 (N : Int)] V fun e w' => ∃ au cu, e = .returned (.slice au (facN N) cu) ∧ Rows w' (.slice au (facN N) cu) (ordersP N) ∧ Below V.heap.size V w' := fun V => orders_ N V hN
  obtain ⟨F, hF⟩ : ∃ F, facN N = F := ⟨_, rfl⟩
  have HF : Hid (facN N = F) := hF
  rw [hF] at hF0 hF1
  have HOR : Hid (∀ V, Calls Tryd.prog 17 #[.int .i64 (N : Int)] V fun e w' => ∃ au cu, e = .returned (.slice au F cu) ∧ Below V.heap.size V w') := fun V => (hor V).mono fun e w' ⟨au, cu, h1, _, h3⟩ => ⟨au, cu, by rw [← hF]; exact h1, h3⟩
  obtain ⟨Wn, hWn⟩ : ∃ Wn, waysP N n = Wn := ⟨_, rfl⟩
  have HWN : Hid ((if 20000 < F ^ n then 0 else F ^ n) = Wn) := by show _ = _; rw [← hWn, ← hF]; rfl
  rw [hWn]
  clear hBa hW0 hgb hor hF hWn
  go_enter Tryd.func7, Tryd.ntmps7
  go_upto_region 1 with fail
  rw [HG.out.1, HG.out.2.1]
  go_wp2_with fail
  go_loopw [5, 6] (fun pp p W => ∃ (j f2 : Nat), j ≤ n ∧ f2 ≤ 20000 ∧ pp = .int .i64 (f2 : Int) ∧ p = .int .i64 (j : Int) ∧ Hid (Below W0.heap.size W0 W ∧ F ^ j = f2)) (fun _ p _ => n - (intOf p).toNat)
  case atStart => exact ⟨0, 1, by omega, by omega, rfl, rfl, Below.refl _ _, rfl⟩
  case round =>
    obtain ⟨j, f2, hj, hf2, rfl, rfl, HJ⟩ := hrel
    have r0 := (HJ.out.1.cell (p := ⟨gb, 0, none⟩) (cell_lt q0)).trans q0
    by_cases hjn : j < n
    · obtain ⟨f3, hf3⟩ : ∃ f3, f2 * F = f3 := ⟨_, rfl⟩
      have HF3 : Hid (F ^ (j + 1) = f3) := by show _ = _; rw [Nat.pow_succ, HJ.out.2, hf3]
      have hle : f3 ≤ 7962624 := by rw [← HF3.out]; exact pow_small hF1 (by omega)
      have hm : (f2 : Int) * (F : Int) = (f3 : Int) := by rw [← hf3]; simp
      have hor := HOR.out wr
      clear hf3
      by_cases hbig : 20000 < f3
      · have HE : Hid (Wn = 0) := by
          show _ = _
          rw [← HWN.out, if_pos]
          have := pow_mono hF0 (show j + 1 ≤ n by omega)
          rw [HF3.out] at this
          omega
        have y1 : (20000 : Int) < (f3 : Int) := by omega
        go_wp2_with (first
          | (go_at_call 17; refine hor.mono ?_; rintro e V ⟨au, cu, rfl, hb⟩; have H2 : Hid (Below W0.heap.size W0 V) := HJ.out.1.trans (hb.mono HJ.out.1.size); clear hor hb)
          | fail)
        go_ret
        exact ⟨by rw [HE.out]; rfl, HG.out.2.2.trans (H2.out.mono HG.out.2.2.size)⟩
      · have y1 : ¬ ((20000 : Int) < (f3 : Int)) := by omega
        go_wp2_with (first
          | (go_at_call 17; refine hor.mono ?_; rintro e V ⟨au, cu, rfl, hb⟩; have H2 : Hid (Below W0.heap.size W0 V) := HJ.out.1.trans (hb.mono HJ.out.1.size); clear hor hb)
          | fail)
        go_roundw
        case rel => exact ⟨j + 1, f3, by omega, by omega, by first | rfl | go_num, by go_num, H2.out, HF3.out⟩
        case measure => simp [intOf]; omega
    · obtain rfl : j = n := by omega
      have HE : Hid (Wn = f2) := by
        show _ = _
        rw [← HWN.out, HJ.out.2, if_neg (by omega)]
      go_wp2_with fail
      go_ret
      exact ⟨by rw [HE.out]; rfl, HG.out.2.2.trans (HJ.out.1.mono HG.out.2.2.size)⟩

end Go.Proofs.YtmaopnbnbiediaaDoor

namespace Go.Proofs.YtmaopnbnbiediaaDoor
open Go.RowKit Go.Sort

def zerosT (N n : Nat) : List (List Int) := List.replicate N (List.replicate (2 * n) 0)
/-- One letter's columns, for the first rows. -/
def fillI (p : List Int) (x : Nat) : Nat → List (List Int) → List (List Int)
  | 0, T => T
  | i + 1, T => putE (putE (fillI p x i T) i (2 * x) (p[i]?.getD 0)) (p[i]?.getD 0).toNat (2 * x + 1) (i : Int)
def fillX (ords : List (List Int)) (N : Nat) : Nat → List (List Int) × Nat → List (List Int) × Nat
  | 0, s => s
  | x + 1, s => (fillI (ords[(fillX ords N x s).2 % ords.length]?.getD []) x N (fillX ords N x s).1, (fillX ords N x s).2 / ords.length)
def tabK (N n k : Nat) : List (List Int) := (fillX (ordersP N) N n (zerosT N n, k)).1

/-- What each table on the way is like. -/
structure Tame (N n : Nat) (T : List (List Int)) : Prop where
  len : T.length = N
  wide : Wide n T
  rng : ∀ i x, i < N → x < 2 * n → ∃ q : Nat, tAt T i x = (q : Int) ∧ q < N
theorem Tame.put {N n : Nat} {T : List (List Int)} (h : Tame N n T) {c x q : Nat} (hc : c < N) (hx : x < 2 * n) (hq : q < N) : Tame N n (putE T c x (q : Int)) := by
  have hl : (putE T c x (q : Int)).length = N := by rw [putE_len]; exact h.len
  have hW := putE_wide h.wide c x (q : Int)
  refine ⟨hl, hW, fun i y hi hy => ?_⟩
  rw [ent_tAt hW (by omega) hy, ent_put h.wide (by rw [h.len]; exact hc) hx]
  split
  · exact ⟨q, rfl, hq⟩
  · rw [← ent_tAt h.wide (by rw [h.len]; exact hi) hy]
    exact h.rng i y hi hy
theorem zeros_tame {N n : Nat} (h0 : 0 < N) : Tame N n (zerosT N n) := by
  refine ⟨by rw [zerosT, List.length_replicate], fun r hr => by rw [List.eq_of_mem_replicate hr, List.length_replicate], fun i x hi hx => ⟨0, ?_, h0⟩⟩
  unfold tAt zerosT
  rw [List.getElem?_replicate, if_pos hi, Option.getD_some, List.getElem?_replicate, if_pos hx]
  rfl
theorem order_at_ {N : Nat} {p : List Int} (hp : p.length = N ∧ ∀ v ∈ p, 0 ≤ v ∧ v < (N : Int)) {i : Nat} (hi : i < N) : ∃ q : Nat, p[i]? = some (q : Int) ∧ q < N := by
  have hl : i < p.length := by rw [hp.1]; exact hi
  have h1 := hp.2 p[i] (List.getElem_mem _)
  exact ⟨p[i].toNat, by rw [List.getElem?_eq_getElem hl]; congr 1; omega, by omega⟩
theorem fillI_tame {N n : Nat} {p : List Int} {x : Nat} (hp : p.length = N ∧ ∀ v ∈ p, 0 ≤ v ∧ v < (N : Int)) (hx : x < n) : ∀ {i : Nat} {T : List (List Int)}, i ≤ N → Tame N n T → Tame N n (fillI p x i T)
  | 0, T, _, h => h
  | i + 1, T, hi, h => by
    have ih := fillI_tame (i := i) hp hx (by omega) h
    obtain ⟨q, hq, hq2⟩ := order_at_ hp (show i < N by omega)
    rw [fillI, hq, Option.getD_some, Int.toNat_natCast]
    exact (ih.put (by omega) (by omega) hq2).put hq2 (by omega) (by omega)
theorem order_pick {N r : Nat} (hN : N ≤ 4) : ∃ p, (ordersP N)[r % (ordersP N).length]? = some p ∧ p.length = N ∧ ∀ v ∈ p, 0 ≤ v ∧ v < (N : Int) := by
  have h1 : 0 < (ordersP N).length := by rw [orders_len hN]; exact facN_pos N
  have h2 := Nat.mod_lt r h1
  exact ⟨_, List.getElem?_eq_getElem h2, orders_in hN (List.getElem_mem _)⟩
theorem fillX_tame {N n : Nat} (hN : N ≤ 4) : ∀ {x : Nat} {s : List (List Int) × Nat}, x ≤ n → Tame N n s.1 → Tame N n (fillX (ordersP N) N x s).1
  | 0, s, _, h => h
  | x + 1, s, hx, h => by
    have ih := fillX_tame (n := n) hN (x := x) (s := s) (by omega) h
    obtain ⟨p, h1, h2⟩ := order_pick (r := (fillX (ordersP N) N x s).2) hN
    rw [fillX, h1, Option.getD_some]
    exact fillI_tame h2 (by omega) (Nat.le_refl _) ih
theorem tabK_tame {N n k : Nat} (h0 : 0 < N) (hN : N ≤ 4) : Tame N n (tabK N n k) := fillX_tame hN (Nat.le_refl _) (zeros_tame h0)

/-- The table's rows, each in a block of its own. -/
structure TaIn (B m2 : Nat) (W : World) (T : List (List Int)) (v : Value) (vs : List Value) : Prop where
  outer : W.ownsRow B 42 1 v T.length vs
  inner : ∀ (k : Nat) (u : Value) (r : List Int), vs[k]? = some u → T[k]? = some r → W.ownsRow B 3 1 u m2 (r.map (Value.int .i64))
  apart : ∀ (k : Nat) (u : Value) (b : Nat), vs[k]? = some u → u.ownBlock = some b → v.ownBlock ≠ some b
  inj : ∀ (j k : Nat) (u u' : Value) (b : Nat), vs[j]? = some u → vs[k]? = some u' → u.ownBlock = some b → u'.ownBlock = some b → j = k

section
variable {B m2 : Nat} {W W' : World} {T : List (List Int)} {v : Value} {vs : List Value}
theorem TaIn.nil (B m2 : Nat) (W : World) : TaIn B m2 W [] (.slice none 0 0) [] := ⟨World.ownsRow_nil _ _ _ _, fun k u r hu => by simp at hu, fun k u b hu => by simp at hu, fun j k u u' b hu => by simp at hu⟩
theorem TaIn.len (h : TaIn B m2 W T v vs) : vs.length = T.length := by have := h.outer.1; omega
theorem TaIn.below (h : TaIn B m2 W T v vs) (hB : Below W.heap.size W W') : TaIn B m2 W' T v vs := ⟨h.outer.kept (Below.grownBy hB) (no_row _), fun k u r hu hr => (h.inner k u r hu hr).kept (Below.grownBy hB) (no_row _), h.apart, h.inj⟩
theorem TaIn.rows (h : TaIn B m2 W T v vs) : Rows W v T := ⟨vs, slice_of_owns h.outer (fun _ _ _ => trivial), h.len, fun k u r hu hr => slice_of_owns (h.inner k u r hu hr) (fun _ _ _ => trivial)⟩
/-- A row more. -/
theorem TaIn.push {u v' : Value} {r : List Int} {w6 : World} {o : Obj} (h : TaIn B m2 W T v vs) (hu : W.ownsRow B 3 1 u m2 (r.map (Value.int .i64))) (hun : ∀ b, u.ownBlock = some b → v.ownBlock ≠ some b ∧ ∀ (k : Nat) (u' : Value), vs[k]? = some u' → u'.ownBlock ≠ some b)
    (hown : w6.ownsRow B 42 1 v' (T.length + 1) (vs ++ [u])) (hg : (W.alloc o).grownBy w6 v.ownBlock) (hl : v'.ownBlock = v.ownBlock ∨ v'.ownBlock = some (W.alloc o).heap.size) : TaIn B m2 w6 (T ++ [r]) v' (vs ++ [u]) := by
  rw [World.size_alloc] at hl
  have hkeep : ∀ {y : Value} {ys : List Value}, W.ownsRow B 3 1 y m2 ys → (∀ b, y.ownBlock = some b → v.ownBlock ≠ some b) → w6.ownsRow B 3 1 y m2 ys := fun {y ys} h1 h2 => (h1.alloc o).kept hg (by
    cases e : y.ownBlock with
    | none => exact .inl rfl
    | some b => exact .inr fun e2 => h2 b e e2.symm)
  have hnew : ∀ {y : Value} {ys : List Value} {b : Nat}, W.ownsRow B 3 1 y m2 ys → y.ownBlock = some b → v.ownBlock ≠ some b → v'.ownBlock ≠ some b := fun {y ys b} h1 h2 h3 e => by
    rcases hl with h4 | h4
    · exact h3 (h4.symm.trans e)
    · rw [h4] at e
      have := Option.some.inj e
      have := (h1.lt b h2).2
      omega
  have hcase : ∀ (k : Nat) (y : Value), (vs ++ [u])[k]? = some y → (k < T.length ∧ vs[k]? = some y) ∨ (k = T.length ∧ y = u) := fun k y hy => by
    rw [List.getElem?_append, h.len] at hy
    by_cases hk : k < T.length
    · rw [if_pos hk] at hy; exact .inl ⟨hk, hy⟩
    · rw [if_neg hk] at hy
      have h0 : k - T.length = 0 := by
        rcases Nat.eq_zero_or_pos (k - T.length) with h | h
        · exact h
        · rw [List.getElem?_eq_none (by simp; omega)] at hy; cases hy
      rw [h0] at hy
      simp at hy
      exact .inr ⟨by omega, hy.symm⟩
  refine ⟨by rw [List.length_append]; exact hown, fun k y q hy hq => ?_, fun k y b hy hb => ?_, fun j k y y' b hy hy' hb hb' => ?_⟩
  · rcases hcase k y hy with ⟨hk, h1⟩ | ⟨rfl, rfl⟩
    · rw [List.getElem?_append_left hk] at hq
      exact hkeep (h.inner k y q h1 hq) fun b hb => h.apart k y b h1 hb
    · rw [List.getElem?_append_right (Nat.le_refl _), Nat.sub_self] at hq
      simp at hq
      subst hq
      exact hkeep hu fun b hb => (hun b hb).1
  · rcases hcase k y hy with ⟨hk, h1⟩ | ⟨rfl, rfl⟩
    · obtain ⟨q, hq⟩ : ∃ q, T[k]? = some q := ⟨_, List.getElem?_eq_getElem hk⟩
      exact hnew (h.inner k y q h1 hq) hb (h.apart k y b h1 hb)
    · exact hnew hu hb (hun b hb).1
  · rcases hcase j y hy with ⟨hj, h1⟩ | ⟨rfl, rfl⟩
    · rcases hcase k y' hy' with ⟨hk, h2⟩ | ⟨rfl, rfl⟩
      · exact h.inj j k y y' b h1 h2 hb hb'
      · exact absurd hb ((hun b hb').2 j y h1)
    · rcases hcase k y' hy' with ⟨hk, h2⟩ | ⟨rfl, rfl⟩
      · exact absurd hb' ((hun b hb).2 k y' h2)
      · rfl
/-- A row's block. -/
theorem TaIn.at_ (h : TaIn B m2 W T v vs) (hm : 0 < m2) {i : Nat} (hi : i < T.length) : ∃ b off cv g c r, v = .slice (some ⟨b, off, none⟩) T.length cv ∧ vs[i]? = some (.slice (some ⟨g, 0, none⟩) m2 c) ∧ T[i]? = some r ∧ W.cell? ⟨b, off + i, none⟩ = some (.slice (some ⟨g, 0, none⟩) m2 c) ∧ r.length = m2 ∧ (∀ x, x < m2 → W.cell? ⟨g, x, none⟩ = some (.int .i64 (r[x]?.getD 0))) ∧ (∀ x, W.frozen? ⟨g, x, none⟩ = false) ∧ W.ownsRow B 3 1 (.slice (some ⟨g, 0, none⟩) m2 c) m2 (r.map (Value.int .i64)) := by
  obtain ⟨r, hr⟩ : ∃ r, T[i]? = some r := ⟨_, List.getElem?_eq_getElem hi⟩
  obtain ⟨u, hu⟩ : ∃ u, vs[i]? = some u := ⟨_, List.getElem?_eq_getElem (by rw [h.len]; exact hi)⟩
  have h1 := h.inner i u r hu hr
  obtain ⟨g, c, hg⟩ : ∃ g c, u = .slice (some ⟨g, 0, none⟩) m2 c := by
    obtain ⟨_, h9⟩ := h1
    rcases h9 with ⟨_, h9⟩ | ⟨g, cap, cur, e, _⟩
    · omega
    · exact ⟨g, cap, e⟩
  subst hg
  obtain ⟨b, cv, hv⟩ : ∃ b cv, v = .slice (some ⟨b, 0, none⟩) T.length cv := by
    obtain ⟨_, h9⟩ := h.outer
    rcases h9 with ⟨_, h9⟩ | ⟨g, cap, cur, e, _⟩
    · omega
    · exact ⟨g, cap, e⟩
  subst hv
  have hl : r.length = m2 := by have := h1.1; rw [List.length_map] at this; omega
  refine ⟨b, 0, cv, g, c, r, rfl, hu, hr, ?_, hl, fun x hx => ?_, fun x => h1.frozenAt x, h1⟩
  · have := h.outer.cellAt i (by omega)
    rw [Nat.zero_add, this, hu]
  · rw [h1.cellAt x (by omega), List.getElem?_map, List.getElem?_eq_getElem (by omega)]
    rfl
/-- A number of a row is written. -/
theorem TaIn.set {n : Nat} {i x : Nat} {g c : Nat} {val : Int} (h : TaIn B (2 * n) W T v vs) (_hW : Wide n T) (hi : i < T.length) (_hx : x < 2 * n) (hu : vs[i]? = some (.slice (some ⟨g, 0, none⟩) (2 * n) c)) : TaIn B (2 * n) (W.setCell ⟨g, x, none⟩ (.int .i64 val)) (putE T i x val) v vs ∧ Below B W (W.setCell ⟨g, x, none⟩ (.int .i64 val)) := by
  obtain ⟨r, hr⟩ : ∃ r, T[i]? = some r := ⟨_, List.getElem?_eq_getElem hi⟩
  have h1 := h.inner i _ r hu hr
  have hst := h1.stored x (.int .i64 val)
  have hgb := h1.lt g rfl
  refine ⟨⟨by rw [putE_len]; exact h.outer.kept hst.2 (.inr (h.apart i _ g hu rfl)), fun k u q hk hq => ?_, h.apart, h.inj⟩, ⟨hst.2.os, hst.2.tape, hst.2.output, hst.2.size, fun b hb => hst.2.block b (by omega) fun e => by have := Option.some.inj e; omega⟩⟩
  unfold putE at hq
  by_cases e : k = i
  · subst e
    rw [List.getElem?_set_self hi, hr, Option.getD_some] at hq
    rw [hu] at hk
    cases hk
    cases hq
    rw [List.map_set]
    exact hst.1
  · rw [List.getElem?_set_ne (fun e' => e e'.symm)] at hq
    refine (h.inner k u q hk hq).kept hst.2 ?_
    cases e2 : u.ownBlock with
    | none => exact .inl rfl
    | some b => exact .inr fun e3 => e (h.inj k i u _ b hk hu e2 (by rw [e3]; rfl))
end
theorem TaIn.tab {B n N : Nat} {W : World} {T : List (List Int)} {v : Value} {vs : List Value} (h : TaIn B (2 * n) W T v vs) (hT : Tame N n T) (hN : N ≤ 4) : TabIn n W v T := ⟨h.rows, by rw [hT.len]; omega, hT.wide, fun i x hi hx => by rw [hT.len] at hi ⊢; exact hT.rng i x hi hx⟩

end Go.Proofs.YtmaopnbnbiediaaDoor
