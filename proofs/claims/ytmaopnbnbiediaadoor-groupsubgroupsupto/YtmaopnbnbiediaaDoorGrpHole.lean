/- Subgroups of an index: tables that are completed hole by hole. No Go here. A table that is completed, as it lies in memory: its first hole; where a letter leads is written, and taken back. The first hole of a table; where a letter leads is written, and taken back. -/
import Derived.Test.YtmaopnbnbiediaaDoorGrpTable
import Derived.Test.YtmaopnbnbiediaaDoorGrpMore
namespace Go.Proofs.YtmaopnbnbiediaaDoor

/-- The first place of a row that leads nowhere. -/
def holeR : Nat → List Int → Option Nat
  | _, [] => none
  | x, v :: vs => if v = -1 then some x else holeR (x + 1) vs
/-- The first place of a table that leads nowhere. -/
def holeT : Nat → List (List Int) → Option (Nat × Nat)
  | _, [] => none
  | c, r :: rs => match holeR 0 r with
    | some x => some (c, x)
    | none => holeT (c + 1) rs
def setP (R : List (List Int)) (c x t : Nat) : List (List Int) := putE (putE R c x (t : Int)) t (backN x) (c : Int)
/-- All ways of completing a table. -/
def compF : Nat → List (List Int) → Nat → List (List (List Int))
  | 0, _, _ => []
  | m + 1, R, led => match holeT 0 R with
    | none => if led = R.length then [R] else []
    | some (c, x) => if led ≤ c then [] else
      (List.range (min (led + 1) R.length)).flatMap fun t => if ent R t (backN x) = -1 then compF m (setP R c x t) (max led (t + 1)) else []
def blankP (N n : Nat) : List (List Int) := List.replicate N (newRow n)
def subP (N n : Nat) : List (List (List Int)) := compF (N * (2 * n) + 1) (blankP N n) 1
/-- Does each word lead from each row back to it? -/
def keepsB (rels : List (List Int)) (T : List (List Int)) : Bool := rels.all fun r => (List.range T.length).all fun i => leadsP T i r == i

theorem holeR_some : ∀ {r : List Int} {x0 x : Nat}, holeR x0 r = some x → x0 ≤ x ∧ r[x - x0]? = some (-1) ∧ ∀ y, x0 ≤ y → y < x → r[y - x0]?.getD (-1) ≠ -1
  | [], x0, x, h => by cases h
  | v :: vs, x0, x, h => by
    unfold holeR at h
    split at h
    · cases h
      rename_i hv
      refine ⟨Nat.le_refl _, ?_, fun y h1 h2 => by omega⟩
      rw [Nat.sub_self, hv]; rfl
    · rename_i hv
      obtain ⟨h1, h2, h3⟩ := holeR_some h
      refine ⟨by omega, ?_, fun y h4 h5 => ?_⟩
      · rw [show x - x0 = (x - (x0 + 1)) + 1 by omega, List.getElem?_cons_succ]; exact h2
      · by_cases e : y = x0
        · subst e
          rw [Nat.sub_self]; exact hv
        · rw [show y - x0 = (y - (x0 + 1)) + 1 by omega, List.getElem?_cons_succ]
          exact h3 y (by omega) h5
theorem holeR_none : ∀ {r : List Int} {x0 : Nat}, holeR x0 r = none → ∀ y, y < r.length → r[y]?.getD (-1) ≠ -1
  | [], x0, h, y, hy => by simp at hy
  | v :: vs, x0, h, y, hy => by
    unfold holeR at h
    split at h
    · cases h
    · rename_i hv
      cases y with
      | zero => exact hv
      | succ y => rw [List.getElem?_cons_succ]; exact holeR_none h y (by simpa using hy)
theorem holeT_some : ∀ {R : List (List Int)} {c0 c x : Nat}, holeT c0 R = some (c, x) → c0 ≤ c ∧ (∃ r, R[c - c0]? = some r ∧ holeR 0 r = some x) ∧ ∀ d, c0 ≤ d → d < c → ∃ r, R[d - c0]? = some r ∧ holeR 0 r = none
  | [], c0, c, x, h => by cases h
  | r :: rs, c0, c, x, h => by
    unfold holeT at h
    cases e : holeR 0 r with
    | some y =>
      rw [e] at h
      cases h
      refine ⟨Nat.le_refl _, ⟨r, by rw [Nat.sub_self]; rfl, e⟩, fun d h1 h2 => by omega⟩
    | none =>
      rw [e] at h
      obtain ⟨h1, ⟨q, h2, h3⟩, h4⟩ := holeT_some h
      refine ⟨by omega, ⟨q, by rw [show c - c0 = (c - (c0 + 1)) + 1 by omega, List.getElem?_cons_succ]; exact h2, h3⟩, fun d h5 h6 => ?_⟩
      by_cases e2 : d = c0
      · subst e2
        exact ⟨r, by rw [Nat.sub_self]; rfl, e⟩
      · obtain ⟨q2, h7, h8⟩ := h4 d (by omega) h6
        exact ⟨q2, by rw [show d - c0 = (d - (c0 + 1)) + 1 by omega, List.getElem?_cons_succ]; exact h7, h8⟩
theorem holeT_none : ∀ {R : List (List Int)} {c0 : Nat}, holeT c0 R = none → ∀ (d : Nat) (r : List Int), R[d]? = some r → holeR 0 r = none
  | [], c0, h, d, r, hr => by simp at hr
  | q :: rs, c0, h, d, r, hr => by
    unfold holeT at h
    cases e : holeR 0 q with
    | some y => rw [e] at h; cases h
    | none =>
      rw [e] at h
      cases d with
      | zero => cases hr; exact e
      | succ d => exact holeT_none h d r hr

/-- What a hole is. -/
structure HoleAt (n : Nat) (R : List (List Int)) (c x : Nat) : Prop where
  hc : c < R.length
  hx : x < 2 * n
  at_ : ent R c x = -1
  ahead : ∀ d y, (d < c ∧ y < 2 * n) ∨ (d = c ∧ y < x) → ent R d y ≠ -1
theorem hole_at {n : Nat} {R : List (List Int)} {c x : Nat} (hW : Wide n R) (h : holeT 0 R = some (c, x)) : HoleAt n R c x := by
  obtain ⟨_, ⟨r, h1, h2⟩, h3⟩ := holeT_some h
  rw [Nat.sub_zero] at h1
  obtain ⟨hc, hr⟩ := List.getElem?_eq_some_iff.1 h1
  have hl : r.length = 2 * n := hW r (List.mem_of_getElem? h1)
  obtain ⟨_, k1, k2⟩ := holeR_some h2
  rw [Nat.sub_zero] at k1
  have hx : x < r.length := (List.getElem?_eq_some_iff.1 k1).1
  refine ⟨hc, by omega, ?_, fun d y hd => ?_⟩
  · unfold ent; rw [h1, Option.getD_some, k1]; rfl
  · rcases hd with ⟨hd, hy⟩ | ⟨rfl, hy⟩
    · obtain ⟨q, h5, h6⟩ := h3 d (Nat.zero_le _) hd
      rw [Nat.sub_zero] at h5
      have hq : q.length = 2 * n := hW q (List.mem_of_getElem? h5)
      unfold ent
      rw [h5, Option.getD_some]
      exact holeR_none h6 y (by omega)
    · unfold ent
      rw [h1, Option.getD_some]
      have := k2 y (Nat.zero_le _) hy
      rwa [Nat.sub_zero] at this
theorem hole_none {n : Nat} {R : List (List Int)} (hW : Wide n R) (h : holeT 0 R = none) {c x : Nat} (hc : c < R.length) (hx : x < 2 * n) : ent R c x ≠ -1 := by
  have h1 := holeT_none h c R[c] (List.getElem?_eq_getElem hc)
  have h2 : (R[c]).length = 2 * n := hW _ (List.getElem_mem _)
  have := holeR_none h1 x (by omega)
  unfold ent
  rw [List.getElem?_eq_getElem hc, Option.getD_some]
  exact this
theorem ext_ent {n : Nat} {R R' : List (List Int)} (hl : R.length = R'.length) (h1 : Wide n R) (h2 : Wide n R') (h : ∀ c x, c < R.length → x < 2 * n → ent R c x = ent R' c x) : R = R' := by
  refine List.ext_getElem hl fun c hc hc' => ?_
  have l1 : (R[c]).length = 2 * n := h1 _ (List.getElem_mem _)
  have l2 : (R'[c]).length = 2 * n := h2 _ (List.getElem_mem _)
  refine List.ext_getElem (by omega) fun x hx hx' => ?_
  have := h c x hc (by omega)
  unfold ent at this
  rw [List.getElem?_eq_getElem hc, List.getElem?_eq_getElem hc', Option.getD_some, Option.getD_some, List.getElem?_eq_getElem hx, List.getElem?_eq_getElem hx'] at this
  exact this
theorem back_ne (x : Nat) : backN x ≠ x := by unfold backN; split <;> omega
theorem setP_len (R : List (List Int)) (c x t : Nat) : (setP R c x t).length = R.length := by unfold setP; rw [putE_len, putE_len]
theorem setP_wide {n : Nat} {R : List (List Int)} (h : Wide n R) (c x t : Nat) : Wide n (setP R c x t) := putE_wide (putE_wide h _ _ _) _ _ _
theorem ent_setP {n : Nat} {R : List (List Int)} (h : Wide n R) {c x t : Nat} (hc : c < R.length) (hx : x < 2 * n) (ht : t < R.length) (a y : Nat) : ent (setP R c x t) a y = if a = t ∧ y = backN x then (c : Int) else if a = c ∧ y = x then (t : Int) else ent R a y := by
  unfold setP
  rw [ent_put (putE_wide h _ _ _) (by rw [putE_len]; exact ht) (back_lt hx), ent_put h hc hx]
/-- What has been written is taken back. -/
theorem unsetP {n : Nat} {R : List (List Int)} (h : Wide n R) {c x t : Nat} (hc : c < R.length) (hx : x < 2 * n) (ht : t < R.length) (e1 : ent R c x = -1) (e2 : ent R t (backN x) = -1) : putE (putE (setP R c x t) c x (-1)) t (backN x) (-1) = R := by
  refine ext_ent (n := n) (by rw [putE_len, putE_len, setP_len]) (putE_wide (putE_wide (setP_wide h _ _ _) _ _ _) _ _ _) h fun a y ha hy => ?_
  have w1 := setP_wide h c x t
  rw [ent_put (putE_wide w1 _ _ _) (by rw [putE_len, setP_len]; exact ht) (back_lt hx), ent_put w1 (by rw [setP_len]; exact hc) hx, ent_setP h hc hx ht]
  by_cases k1 : a = t ∧ y = backN x
  · rw [if_pos k1, k1.1, k1.2, e2]
  · rw [if_neg k1, if_neg k1]
    by_cases k2 : a = c ∧ y = x
    · rw [if_pos k2, k2.1, k2.2, e1]
    · rw [if_neg k2, if_neg k2]

/-- There is fuel enough. -/
def Fuel (n : Nat) (m : Nat) (R : List (List Int)) : Prop := 1 ≤ m ∧ ∀ c x, holeT 0 R = some (c, x) → R.length * (2 * n) < m + (c * (2 * n) + x)
theorem fuel_start (N n : Nat) : Fuel n (N * (2 * n) + 1) (blankP N n) := ⟨by omega, fun c x _ => by rw [blankP, List.length_replicate]; omega⟩
theorem pos_lt {N n c x : Nat} (hc : c < N) (hx : x < 2 * n) : c * (2 * n) + x < N * (2 * n) := by
  have : (c + 1) * (2 * n) ≤ N * (2 * n) := Nat.mul_le_mul_right _ (by omega)
  rw [Nat.succ_mul] at this
  omega
theorem Fuel.step {n m : Nat} {R : List (List Int)} {c x t : Nat} (hF : Fuel n (m + 1) R) (hW : Wide n R) (h : holeT 0 R = some (c, x)) (ht : t < R.length) : Fuel n m (setP R c x t) := by
  have hA := hole_at hW h
  have h1 := hF.2 c x h
  have h2 := pos_lt hA.hc hA.hx
  refine ⟨by omega, fun d y hd => ?_⟩
  rw [setP_len]
  have hB := hole_at (setP_wide hW c x t) hd
  have e := hB.at_
  rw [ent_setP hW hA.hc hA.hx ht] at e
  have hlen := hB.hc
  rw [setP_len] at hlen
  have hne : ¬ (d = t ∧ y = backN x) := fun k => by rw [if_pos k] at e; omega
  rw [if_neg hne] at e
  have hne2 : ¬ (d = c ∧ y = x) := fun k => by rw [if_pos k] at e; omega
  rw [if_neg hne2] at e
  have hne3 : ¬ (d < c ∨ (d = c ∧ y < x)) := fun k => hA.ahead d y (k.imp (fun k => ⟨k, hB.hx⟩) id) e
  have hpos : c * (2 * n) + x < d * (2 * n) + y := by
    by_cases k : d = c
    · subst k; omega
    · have : (c + 1) * (2 * n) ≤ d * (2 * n) := Nat.mul_le_mul_right _ (by omega)
      rw [Nat.succ_mul] at this
      have := hA.hx
      omega
  omega
/-- Numbers of rows, or nowhere. -/
def InRng (n : Nat) (R : List (List Int)) : Prop := ∀ c x, c < R.length → x < 2 * n → ent R c x = -1 ∨ ∃ q : Nat, ent R c x = (q : Int) ∧ q < R.length
theorem InRng.set {n : Nat} {R : List (List Int)} (h : InRng n R) (hW : Wide n R) {c x t : Nat} (hc : c < R.length) (hx : x < 2 * n) (ht : t < R.length) : InRng n (setP R c x t) := fun a y ha hy => by
  rw [setP_len] at ha ⊢
  rw [ent_setP hW hc hx ht]
  split
  · exact .inr ⟨c, rfl, hc⟩
  · split
    · exact .inr ⟨t, rfl, ht⟩
    · exact h a y ha hy
theorem blank_wide (N n : Nat) : Wide n (blankP N n) := fun r hr => by
  rw [blankP] at hr
  rw [List.eq_of_mem_replicate hr, newRow, List.length_replicate]
theorem blank_ent {N n : Nat} (c x : Nat) : ent (blankP N n) c x = -1 := by
  unfold ent blankP
  rw [List.getElem?_replicate]
  split
  · rw [Option.getD_some]; exact ent_new n x
  · rfl
/-- All that comes is full, wide and as long. -/
theorem compF_all {n N : Nat} : ∀ {m : Nat} {R : List (List Int)} {led : Nat}, Wide n R → R.length = N → ∀ T ∈ compF m R led, Wide n T ∧ T.length = N
  | 0, R, led, _, _, T, hT => by cases hT
  | m + 1, R, led, hW, hN, T, hT => by
    rw [compF] at hT
    split at hT
    · split at hT
      · rw [List.mem_singleton.1 hT]; exact ⟨hW, hN⟩
      · cases hT
    · split at hT
      · cases hT
      · obtain ⟨t, _, ht⟩ := List.mem_flatMap.1 hT
        split at ht
        · exact compF_all (setP_wide hW _ _ _) (by rw [setP_len]; exact hN) T ht
        · cases ht

end Go.Proofs.YtmaopnbnbiediaaDoor

namespace Go.Proofs.YtmaopnbnbiediaaDoor
open Go.RowKit Go.Sort

/-- The table's blocks and what they hold. -/
structure TbIn (B n : Nat) (W : World) (R : List (List Int)) (G cG : Nat) (rb : Nat → Nat) : Prop where
  outer : W.ownsRow B 42 1 (.slice (some ⟨G, 0, none⟩) R.length cG) R.length ((List.range R.length).map fun k => .slice (some ⟨rb k, 0, none⟩) (2 * n) (2 * n))
  inner : ∀ k, k < R.length → W.rowIs (rb k) 3 (2 * n) (fun x => .int .i64 (ent R k x))
  inj : ∀ j k, j < R.length → k < R.length → rb j = rb k → j = k
  rg : ∀ k, k < R.length → rb k ≠ G
  own : ∀ k, k < R.length → B ≤ rb k
  wide : Wide n R
  few : R.length ≤ 4

section
variable {B n : Nat} {W W' : World} {R : List (List Int)} {G cG : Nat} {rb : Nat → Nat}
theorem TbIn.keep (h : TbIn B n W R G cG rb) (hs : ∀ b, b < W.heap.size → (b = G ∨ ∃ k, k < R.length ∧ b = rb k) → W'.heap[b]? = W.heap[b]?) : TbIn B n W' R G cG rb := by
  have hG := (h.outer.lt G rfl).2
  refine ⟨?_, fun k hk => (h.inner k hk).of_block (hs _ (h.inner k hk).lt (.inr ⟨k, hk, rfl⟩)), h.inj, h.rg, h.own, h.wide, h.few⟩
  refine ⟨h.outer.1, h.outer.2.imp id fun ⟨g, cap, cur, e, h1, h2, h3⟩ => ⟨g, cap, cur, e, h1, ?_, h3⟩⟩
  cases e
  exact (hs G hG (.inl rfl)).trans h2
theorem TbIn.below (h : TbIn B n W R G cG rb) (hB : Below W.heap.size W W') : TbIn B n W' R G cG rb := h.keep (fun b hb _ => hB.block b hb)
theorem TbIn.row_at (h : TbIn B n W R G cG rb) {i : Nat} (hi : i < R.length) : W.cell? ⟨G, i, none⟩ = some (.slice (some ⟨rb i, 0, none⟩) (2 * n) (2 * n)) := by
  have := h.outer.cells (g := G) rfl i (.slice (some ⟨rb i, 0, none⟩) (2 * n) (2 * n)) (by rw [List.getElem?_map, List.getElem?_range hi]; rfl)
  rwa [Addr.add_lit, Nat.zero_add] at this
theorem TbIn.ent_at (h : TbIn B n W R G cG rb) {i x : Nat} (hi : i < R.length) (hx : x < 2 * n) : W.cell? ⟨rb i, x, none⟩ = some (.int .i64 (ent R i x)) := (h.inner i hi).cell hx
theorem TbIn.set_ent (h : TbIn B n W R G cG rb) {i x : Nat} (hi : i < R.length) (hx : x < 2 * n) (v : Int) :
    TbIn B n (W.setCell ⟨rb i, x, none⟩ (.int .i64 v)) (putE R i x v) G cG rb ∧ Kp B (fun b => ∀ k, k < R.length → b ≠ rb k) W (W.setCell ⟨rb i, x, none⟩ (.int .i64 v)) := by
  have hne : ∀ b, b ≠ rb i → (W.setCell ⟨rb i, x, none⟩ (.int .i64 v)).heap[b]? = W.heap[b]? := fun b e => Below.heap_setCell W ⟨rb i, x, none⟩ _ b e
  have el := putE_len R i x v
  refine ⟨⟨?_, fun k hk => ?_, by rw [el]; exact h.inj, by rw [el]; exact h.rg, by rw [el]; exact h.own, putE_wide h.wide _ _ _, by rw [el]; exact h.few⟩, Kp.grown (grown_at _ _ _) (fun b e => by cases e; exact ⟨h.own i hi, fun k => k i hi rfl⟩)⟩
  · rw [el]
    exact h.outer.kept (grown_at W ⟨rb i, x, none⟩ _) (.inr fun e => (h.rg i hi) (Option.some.inj e).symm)
  · rw [el] at hk
    by_cases e : k = i
    · subst e
      refine ((h.inner k hk).set x (.int .i64 v)).congr fun y hy => ?_
      rw [ent_put h.wide hk hx]
      by_cases e2 : y = x
      · rw [if_pos e2, if_pos ⟨rfl, e2⟩]
      · rw [if_neg e2, if_neg fun h => e2 h.2]
    · refine ((h.inner k hk).of_block (hne _ fun e' => e (h.inj _ _ hk hi e'))).congr fun y hy => ?_
      rw [ent_put h.wide hi hx, if_neg fun h => e h.1]
end

theorem holeR_shift : ∀ (r : List Int) (x0 : Nat), holeR x0 r = (holeR 0 r).map (· + x0)
  | [], _ => rfl
  | v :: vs, x0 => by
    unfold holeR
    split
    · simp
    · rw [holeR_shift vs (x0 + 1), holeR_shift vs (0 + 1)]
      cases holeR 0 vs with
      | none => rfl
      | some y => simp; omega
def idxV (o : Option Nat) : Int := match o with
  | none => -1
  | some x => (x : Int)

set_option maxRecDepth 100000 in
set_option maxHeartbeats 1000000 in
theorem index_ (g m : Nat) (r : List Int) (w : World) (hr : w.rowIs g 3 m (fun x => .int .i64 (r[x]?.getD (-1)))) (hl : r.length = m) (hm : m ≤ 24) :
    Calls Tryd.prog 56 #[.slice (some ⟨g, 0, none⟩) m m, .int .i64 (-1)] w fun e w' => e = .returned (.int .i64 (idxV (holeR 0 r))) ∧ w' = w := by
  have HR := Hid.mk' hr
  have HL := Hid.mk' hl
  obtain ⟨I, hI⟩ : ∃ I, idxV (holeR 0 r) = I := ⟨_, rfl⟩
  have HI := Hid.mk' hI
  rw [hI]
  clear hr hl hI
  go_enter Tryd.func56, Tryd.ntmps56
  go_wp2_with fail
  go_loopw [8] (fun p W => ∃ k : Nat, k ≤ m ∧ p = .int .i64 (k : Int) ∧ W = w ∧ Hid (holeR 0 r = holeR k (r.drop k))) (fun p _ => m - (intOf p).toNat)
  case atStart => exact ⟨0, by omega, rfl, rfl, rfl⟩
  case round =>
    obtain ⟨k, hk, rfl, rfl, HK⟩ := hrel
    by_cases hkm : k < m
    · have hkl : k < r.length := by rw [HL.out]; exact hkm
      have hc := HR.out.cell hkm
      obtain ⟨v, hv⟩ : ∃ v, r[k] = v := ⟨_, rfl⟩
      rw [List.getElem?_eq_getElem hkl, Option.getD_some, hv] at hc
      have hd : r.drop k = v :: r.drop (k + 1) := by rw [List.drop_eq_getElem_cons hkl, hv]
      have HD := Hid.mk' hd
      have z0 : (0 : Int) ≤ (k : Int) := by omega
      have z1 : (k : Int) < (m : Int) := by omega
      clear hv hd hkl
      by_cases e : v = -1
      · have HE : Hid (I = (k : Int)) := by
          have h1 := HK.out
          rw [HD.out, holeR, if_pos e] at h1
          rw [← HI.out, h1]; rfl
        subst e
        go_wp2_with fail
        go_ret
        exact ⟨by rw [HE.out]; rfl, rfl⟩
      · have hb : ((-1 : Int) == v) = false := beq_false_of_ne (fun h => e h.symm)
        have HK2 : Hid (holeR 0 r = holeR (k + 1) (r.drop (k + 1))) := by
          have h1 := HK.out
          rw [HD.out, holeR, if_neg e] at h1
          exact h1
        go_wp2_with fail
        go_roundw
        case rel => exact ⟨k + 1, by omega, by go_num, by first | rfl | trivial, HK2.out⟩
        case measure => simp [intOf]; omega
    · obtain rfl : k = m := by omega
      have HE : Hid (I = -1) := by
        have h1 := HK.out
        rw [List.drop_eq_nil_of_le (by rw [HL.out]; exact Nat.le_refl _)] at h1
        rw [← HI.out, h1]; rfl
      go_wp2_with fail
      go_ret
      exact ⟨by rw [HE.out]; rfl, rfl⟩

end Go.Proofs.YtmaopnbnbiediaaDoor

namespace Go.Proofs.YtmaopnbnbiediaaDoor
open Go.RowKit Go.Sort

def holeV (o : Option (Nat × Nat)) : Value := match o with
  | none => .tuple #[.int .i64 0, .int .i64 0, .bool false]
  | some p => .tuple #[.int .i64 (p.1 : Int), .int .i64 (p.2 : Int), .bool true]

set_option maxRecDepth 100000 in
set_option maxHeartbeats 2000000 in
theorem hole_ {B n : Nat} {R : List (List Int)} {G cG : Nat} {rb : Nat → Nat} (w : World) (h : TbIn B n w R G cG rb) (hn : n ≤ 12) :
    Calls Tryd.prog 41 #[.agg #[.slice (some ⟨G, 0, none⟩) R.length cG]] w fun e w' => e = .returned (holeV (holeT 0 R)) ∧ Below w.heap.size w w' := by
  have hBa : Below w.heap.size w (w.alloc (.cells #[.slice (some ⟨G, 0, none⟩) R.length cG] 49)) := (Below.refl _ w).alloc (Nat.le_refl _) _
  have q0 := cells_new w [.slice (some ⟨G, 0, none⟩) R.length cG] 49 0 _ rfl
  rw [Addr.add_lit, Nat.zero_add] at q0
  have HT := Hid.mk' (h.below hBa)
  have h4 := h.few
  obtain ⟨W0, hW0⟩ : ∃ W0, w.alloc (.cells #[.slice (some ⟨G, 0, none⟩) R.length cG] 49) = W0 := ⟨_, rfl⟩
  obtain ⟨gb, hgb⟩ : ∃ gb, w.heap.size = gb := ⟨_, rfl⟩
  rw [show (List.toArray [Value.slice (some ⟨G, 0, none⟩) R.length cG]) = #[.slice (some ⟨G, 0, none⟩) R.length cG] from rfl, hW0, hgb] at q0
  rw [hW0] at HT
  obtain ⟨N, hN⟩ : ∃ N, R.length = N := ⟨_, rfl⟩
  have HN : Hid (R.length = N) := hN
  obtain ⟨m2, hm2⟩ : ∃ m2, 2 * n = m2 := ⟨_, rfl⟩
  have HM : Hid (2 * n = m2) := hm2
  have hm24 : m2 ≤ 24 := by omega
  obtain ⟨I, hI⟩ : ∃ I, holeV (holeT 0 R) = I := ⟨_, rfl⟩
  have HI := Hid.mk' hI
  have HG : Hid (w.alloc (.cells #[.slice (some ⟨G, 0, none⟩) N cG] 49) = W0 ∧ w.heap.size = gb ∧ Below w.heap.size w W0) := ⟨by rw [← hN]; exact hW0, hgb, by rw [← hW0]; exact hBa⟩
  rw [hI]
  rw [hN] at h4 q0 ⊢
  have HIX : Hid (∀ k r, R[k]? = some r → Calls Tryd.prog 56 #[.slice (some ⟨rb k, 0, none⟩) m2 m2, .int .i64 (-1)] W0 fun e w' => e = .returned (.int .i64 (idxV (holeR 0 r))) ∧ w' = W0) := fun k r hr => by
    obtain ⟨hk, hr2⟩ := List.getElem?_eq_some_iff.1 hr
    have hl : r.length = 2 * n := by rw [← hr2]; exact HT.out.wide _ (List.getElem_mem _)
    refine index_ (rb k) m2 r W0 ?_ (by omega) hm24
    rw [← HM.out]
    refine (HT.out.inner k hk).congr fun x hx => ?_
    unfold ent
    rw [hr, Option.getD_some]
  clear hBa h hW0 hgb hN hm2 hI
  go_enter Tryd.func41, Tryd.ntmps41
  go_upto_region 1 with fail
  rw [HG.out.1, HG.out.2.1]
  go_wp2_with fail
  go_loopw [11] (fun p W => ∃ k : Nat, k ≤ N ∧ p = .int .i64 (k : Int) ∧ W = W0 ∧ Hid (holeT 0 R = holeT k (R.drop k))) (fun p _ => N - (intOf p).toNat)
  case atStart => exact ⟨0, by omega, rfl, rfl, rfl⟩
  case round =>
    obtain ⟨k, hk, rfl, rfl, HK⟩ := hrel
    by_cases hkN : k < N
    · have hkl : k < R.length := by rw [HN.out]; exact hkN
      obtain ⟨r, hr⟩ : ∃ r, R[k]? = some r := ⟨_, List.getElem?_eq_getElem hkl⟩
      have hra := HT.out.row_at hkl
      rw [HM.out] at hra
      have hix := HIX.out k r hr
      have HD : Hid (R.drop k = r :: R.drop (k + 1)) := by
        show _ = _
        rw [List.drop_eq_getElem_cons hkl]
        rw [List.getElem?_eq_getElem hkl] at hr
        rw [Option.some.inj hr]
      have z0 : (0 : Int) ≤ (k : Int) := by omega
      have z1 : (k : Int) < (N : Int) := by omega
      clear hr hkl
      cases e : holeR 0 r with
      | some x =>
        rw [e] at hix
        have HE : Hid (I = holeV (some (k, x))) := by
          have h1 := HK.out
          rw [HD.out, holeT, e] at h1
          rw [← HI.out, h1]; rfl
        rw [show idxV (some x) = (x : Int) from rfl] at hix
        have z2 : (0 : Int) ≤ (x : Int) := by omega
        have z3 : ¬ ((x : Int) < 0) := by omega
        clear e
        go_wp2_with (go_at_call 56; refine hix.mono ?_; rintro e V ⟨rfl, rfl⟩; clear hix)
        go_ret3
        exact ⟨by rw [HE.out]; rfl, HG.out.2.2⟩
      | none =>
        rw [e] at hix
        have HK2 : Hid (holeT 0 R = holeT (k + 1) (R.drop (k + 1))) := by
          have h1 := HK.out
          rw [HD.out, holeT, e] at h1
          exact h1
        rw [show idxV none = -1 from rfl] at hix
        clear e
        go_wp2_with (go_at_call 56; refine hix.mono ?_; rintro e V ⟨rfl, rfl⟩; clear hix)
        go_roundw
        case rel => exact ⟨k + 1, by omega, by go_num, by first | rfl | trivial, HK2.out⟩
        case measure => simp [intOf]; omega
    · obtain rfl : k = N := by omega
      have HE : Hid (I = holeV none) := by
        have h1 := HK.out
        rw [List.drop_eq_nil_of_le (by rw [HN.out]; exact Nat.le_refl _)] at h1
        rw [← HI.out, h1]; rfl
      go_wp2_with fail
      go_ret3
      exact ⟨by rw [HE.out]; rfl, HG.out.2.2⟩

end Go.Proofs.YtmaopnbnbiediaaDoor
