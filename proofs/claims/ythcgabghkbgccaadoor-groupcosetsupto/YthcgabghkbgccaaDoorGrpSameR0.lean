/- The reference's step along a column. The reference makes two cosets the same: what is said of it while all rows are gone through. -/
import Derived.Test.YthcgabghkbgccaaDoorGrpOpenR
import Derived.Test.YthcgabghkbgccaaDoorGrpMerge
namespace Go.Proofs.YthcgabghkbgccaaDoor
open Go.RowKit Go.Sort

set_option maxRecDepth 100000 in
set_option maxHeartbeats 2000000 in
theorem stepR_ {B : Nat} {X : Nat → Prop} {P n : Nat} {t : Cos} (c x : Nat) (w : World) (h : FinAt B X P n w t) (hX : ∀ b, X b → b < w.heap.size) (hI : CInv n t) (hc : c < t.R.length) (hx : x < 2 * n) (hN : t.R.length ≤ 900) (hn : n ≤ 12) :
    Calls Tryd.prog 17 #[.pointer (some ⟨P, 0, none⟩), .int .i64 (c : Int), .int .i64 (x : Int)] w fun e w' => e = .returned (.int .i64 ((stepR n t c x).1 : Int)) ∧ FinAt B X P n w' (stepR n t c x).2 ∧ Kp B X w w' := by
  have hn0 : 0 < n := by omega
  have hop := openR_ w h hX hN (hI.far _ (Nat.le_refl _)) hn
  obtain ⟨v0, v1, rb, cp, h⟩ := h
  obtain ⟨G, cG, H, cH, rfl, rfl⟩ := h.open_ hI.pos
  have HFI := Hid.mk' h
  have HI := Hid.mk' hI
  have hal := hI.cls_lt hc
  have p0 := h.p0
  have p1 := h.p1
  have ec := h.of_at hc
  have ra := h.row_at hal
  have ea := (h.inner hn0 _ hal).cell hx
  rw [rowV_pos hn0] at ra
  obtain ⟨a, ha⟩ : ∃ a, t.cls c = a := ⟨_, rfl⟩
  have HA : Hid (t.cls c = a) := ha
  rw [ha] at hal ec ra ea
  obtain ⟨q, hq⟩ : ∃ q, ent t.R a x = q := ⟨_, rfl⟩
  have HQ : Hid (ent t.R a x = q) := hq
  have hrq := hI.rng a x
  replace ea : w.cell? ⟨rb a, x, none⟩ = some (.int .i64 q) := by rw [← hq]; exact ea
  rw [hq] at hrq
  obtain ⟨N, hNN⟩ : ∃ N, t.R.length = N := ⟨_, rfl⟩
  have HN : Hid (t.R.length = N) := hNN
  obtain ⟨m2, hm2⟩ : ∃ m2, 2 * n = m2 := ⟨_, rfl⟩
  have HM : Hid (2 * n = m2) := hm2
  rw [hNN] at p0 p1 hc hal hN hrq hop
  rw [hm2] at ra hx hop
  have z0 : (0 : Int) ≤ (a : Int) := by omega
  have z1 : (a : Int) < (N : Int) := by omega
  have z2 : (0 : Int) ≤ (c : Int) := by omega
  have z3 : (c : Int) < (N : Int) := by omega
  have z4 : (0 : Int) ≤ (x : Int) := by omega
  have z5 : (x : Int) < (m2 : Int) := by omega
  have hm24 : m2 ≤ 24 := by omega
  clear h hI hX ha hq hNN hm2
  rcases hrq with e | hrq
  · subst e
    have HR : Hid (stepR n t c x = (N, ⟨putE (putE (t.R ++ [newRow n]) a x (N : Int)) N (backN x) (a : Int), t.cls⟩)) := by
      show _ = _
      unfold stepR
      rw [HA.out, HQ.out, HN.out, if_neg (fun h => h rfl)]
    rw [HR.out]
    have hb0 : ¬ ((-1 : Int) ≥ 0) := by omega
    have HSET : Hid (∀ W1, FinAt B X P n W1 ⟨t.R ++ [newRow n], t.cls⟩ → ∃ G1 c1 r1 k1 r2 k2 y0 y1, W1.cell? ⟨P, 0, none⟩ = some (.slice (some ⟨G1, 0, none⟩) (N + 1) c1) ∧ W1.cell? ⟨G1, a, none⟩ = some (.slice (some ⟨r1, 0, none⟩) m2 k1) ∧ (W1.cell? ⟨r1, x, none⟩ = some y0 ∧ W1.frozen? ⟨r1, x, none⟩ = false) ∧
        (W1.setCell ⟨r1, x, none⟩ (.int .i64 (N : Int))).cell? ⟨P, 0, none⟩ = some (.slice (some ⟨G1, 0, none⟩) (N + 1) c1) ∧ (W1.setCell ⟨r1, x, none⟩ (.int .i64 (N : Int))).cell? ⟨G1, N, none⟩ = some (.slice (some ⟨r2, 0, none⟩) m2 k2) ∧ ((W1.setCell ⟨r1, x, none⟩ (.int .i64 (N : Int))).cell? ⟨r2, backN x, none⟩ = some y1 ∧ (W1.setCell ⟨r1, x, none⟩ (.int .i64 (N : Int))).frozen? ⟨r2, backN x, none⟩ = false) ∧
        FinAt B X P n ((W1.setCell ⟨r1, x, none⟩ (.int .i64 (N : Int))).setCell ⟨r2, backN x, none⟩ (.int .i64 (a : Int))) ⟨putE (putE (t.R ++ [newRow n]) a x (N : Int)) N (backN x) (a : Int), t.cls⟩ ∧ Kp B X W1 ((W1.setCell ⟨r1, x, none⟩ (.int .i64 (N : Int))).setCell ⟨r2, backN x, none⟩ (.int .i64 (a : Int)))) := fun W1 h => by
      obtain ⟨v0, v1, rb', cp', h⟩ := h
      have hl : (Cos.R ⟨t.R ++ [newRow n], t.cls⟩).length = N + 1 := by show (t.R ++ [newRow n]).length = _; rw [List.length_append, HN.out]; rfl
      obtain ⟨G1, c1, H1, d1, rfl, rfl⟩ := h.open_ (by rw [hl]; omega)
      have hx' : x < 2 * n := by rw [HM.out]; exact hx
      have ha' : a < (Cos.R ⟨t.R ++ [newRow n], t.cls⟩).length := by rw [hl]; omega
      have s1 := h.set_ent ha' hx' (N : Int)
      have hl2 : (Cos.R ⟨putE (Cos.R ⟨t.R ++ [newRow n], t.cls⟩) a x (N : Int), Cos.cls ⟨t.R ++ [newRow n], t.cls⟩⟩).length = N + 1 := (putE_len _ _ _ _).trans hl
      have hN' : N < (Cos.R ⟨putE (Cos.R ⟨t.R ++ [newRow n], t.cls⟩) a x (N : Int), Cos.cls ⟨t.R ++ [newRow n], t.cls⟩⟩).length := by rw [hl2]; omega
      have s2 := s1.1.set_ent hN' (back_lt hx') (a : Int)
      have q0 := h.p0
      have q1 := h.row_at ha'
      have u0 := s1.1.p0
      have i1 := h.inner hn0 a ha'
      have i2 := s1.1.inner hn0 N hN'
      have u1 : (W1.setCell ⟨rb' a, x, none⟩ (.int .i64 (N : Int))).cell? ⟨G1, N, none⟩ = some (rowV n (rb' N) (cp' N)) := by
        have := s1.1.outer.cells (g := G1) rfl N (rowV n (rb' N) (cp' N)) (by rw [List.getElem?_map, List.getElem?_range hN']; rfl)
        rwa [Addr.add_lit, Nat.zero_add] at this
      rw [hl] at q0 u0
      rw [rowV_pos hn0, HM.out] at q1 u1
      exact ⟨G1, c1, rb' a, cp' a, rb' N, cp' N, _, _, q0, q1, ⟨i1.cell hx', i1.frozen x⟩, u0, u1, ⟨i2.cell (back_lt hx'), i2.frozen (backN x)⟩, ⟨_, _, _, _, s2.1⟩, s1.2.trans s2.2⟩
    have hxo := xor_one x (by omega)
    have hbk : backN x < m2 := by have := back_lt (n := n) (x := x) (by rw [HM.out]; exact hx); rw [HM.out] at this; exact this
    obtain ⟨y, hy⟩ : ∃ y, backN x = y := ⟨_, rfl⟩
    rw [hy] at HSET hxo hbk ⊢
    have z6 : (0 : Int) ≤ (y : Int) := by omega
    have z7 : (y : Int) < (m2 : Int) := by omega
    have z8 : (0 : Int) ≤ (N : Int) := by omega
    obtain ⟨N1, hN1⟩ : ∃ N1, N + 1 = N1 := ⟨_, rfl⟩
    have z9 : (N : Int) < (N1 : Int) := by omega
    have z10 : (a : Int) < (N1 : Int) := by omega
    rw [hN1] at HSET
    clear hN1 hy
    go_enter Tryd.func17, Tryd.ntmps17
    go_upto_region 5 with (go_at_call 15; refine hop.mono ?_; rintro e W1 ⟨rfl, hF1, hK1⟩; obtain ⟨G1, c1, r1, k1, r2, k2, y0, y1, b0, b1, ⟨b2, b3⟩, b4, b5, ⟨b6, b7⟩, b8, b9⟩ := HSET.out W1 hF1; have HE := Hid.mk' (And.intro b8 (hK1.trans b9)); clear b8 b9 hF1 hK1 hop)
    go_upto_region 7 with fail
    obtain ⟨W2, hW2⟩ : ∃ W2, W1.setCell ⟨r1, x, none⟩ (.int .i64 (N : Int)) = W2 := ⟨_, rfl⟩
    rw [hW2] at b4 b5 b6 b7 HE ⊢
    go_wp2_with fail
    go_ret
    exact ⟨rfl, HE.out.1, HE.out.2⟩
  · obtain ⟨p, rfl⟩ : ∃ p : Nat, q = (p : Int) := ⟨q.toNat, by omega⟩
    have hpN : p < N := by omega
    have HR : Hid (stepR n t c x = (t.cls p, t)) := by
      show _ = _
      unfold stepR
      rw [HA.out, HQ.out, if_pos (by omega), Int.toNat_natCast]
    rw [HR.out]
    have ep := HFI.out.of_at (i := p) (by rw [HN.out]; exact hpN)
    have z6 : (0 : Int) ≤ (p : Int) := by omega
    have z7 : (p : Int) < (N : Int) := by omega
    have HD : Hid (FinAt B X P n w.drew t ∧ Kp B X w w.drew) := ⟨⟨_, _, _, _, HFI.out.below (Below.refl _ w).drew⟩, (Kp.refl _ _ _).drew⟩
    clear hop
    go_enter Tryd.func17, Tryd.ntmps17
    go_wp2_with fail
    go_region
    all_goals go_wp2_with fail
    all_goals (go_ret; exact ⟨rfl, HD.out.1, HD.out.2⟩)

end Go.Proofs.YthcgabghkbgccaaDoor

namespace Go.Proofs.YthcgabghkbgccaaDoor
open Go.RowKit Go.Sort

def intW (W : World) (b x : Nat) : Int := match W.cell? ⟨b, x, none⟩ with
  | some (.int _ v) => v
  | _ => -1
def blockV : Value → Option Nat
  | .slice (some a) _ _ => some a.block
  | _ => none
def entW (P : Nat) (W : World) (c x : Nat) : Int := match (W.cell? ⟨P, 0, none⟩).bind blockV with
  | some g => (match (W.cell? ⟨g, c, none⟩).bind blockV with
    | some r => intW W r x
    | none => -1)
  | none => -1
def clsW (P : Nat) (W : World) (i : Nat) : Int := match (W.cell? ⟨P, 1, none⟩).bind blockV with
  | some g => intW W g i
  | none => -1
def rowsW (P : Nat) (W : World) : Nat := match W.cell? ⟨P, 0, none⟩ with
  | some (.slice _ N _) => N
  | _ => 0
/-- How much may still follow, off the memory. -/
def leftW (P n : Nat) (W : World) : Nat := ((List.range (rowsW P W)).countP fun i => clsW P W i == (i : Int)) + (List.range (rowsW P W * (2 * n))).countP fun j => entW P W (j / (2 * n)) (j % (2 * n)) == -1
def flagN : Value → Nat
  | .bool true => 1
  | _ => 0

section
variable {B : Nat} {X : Nat → Prop} {P n : Nat} {W : World} {t : Cos}
theorem left_of (h : FinAt B X P n W t) (hN : 0 < t.R.length) : leftW P n W = leftN n t := by
  obtain ⟨v0, v1, rb, cp, h⟩ := h
  obtain ⟨G, cG, H, cH, rfl, rfl⟩ := h.open_ hN
  have hr : rowsW P W = t.R.length := by unfold rowsW; rw [h.p0]
  unfold leftW leftN rootsN holesN
  rw [hr]
  congr 1
  · refine List.countP_congr fun i hi => ?_
    have hi' := List.mem_range.1 hi
    have : clsW P W i = (t.cls i : Int) := by
      unfold clsW
      rw [h.p1]
      show intW W H i = _
      unfold intW
      rw [h.of_at hi']
    rw [this]
    simp only [beq_iff_eq]
    omega
  · refine List.countP_congr fun j hj => ?_
    have hj' := List.mem_range.1 hj
    have hn : 0 < n := by
      rcases Nat.eq_zero_or_pos n with e | e
      · rw [e] at hj'; omega
      · exact e
    have hc : j / (2 * n) < t.R.length := (Nat.div_lt_iff_lt_mul (by omega)).2 hj'
    have hx : j % (2 * n) < 2 * n := Nat.mod_lt _ (by omega)
    have : entW P W (j / (2 * n)) (j % (2 * n)) = ent t.R (j / (2 * n)) (j % (2 * n)) := by
      unfold entW
      rw [h.p0]
      show (match (W.cell? ⟨G, j / (2 * n), none⟩).bind blockV with | some r => intW W r (j % (2 * n)) | none => -1) = _
      rw [h.row_at hc, rowV_pos hn]
      show intW W (rb (j / (2 * n))) (j % (2 * n)) = _
      unfold intW
      rw [(h.inner hn _ hc).cell hx]
    rw [this]

/-- The cells of a row. -/
theorem FinIn.cells_at {G cG H cH : Nat} {rb cp : Nat → Nat} (h : FinIn B X P n W t (.slice (some ⟨G, 0, none⟩) t.R.length cG) (.slice (some ⟨H, 0, none⟩) t.R.length cH) rb cp) {i x : Nat} (hi : i < t.R.length) (hx : x < 2 * n) :
    W.cell? ⟨G, i, none⟩ = some (.slice (some ⟨rb i, 0, none⟩) (2 * n) (cp i)) ∧ W.cell? ⟨rb i, x, none⟩ = some (.int .i64 (ent t.R i x)) ∧ W.frozen? ⟨rb i, x, none⟩ = false := by
  have hn : 0 < n := by omega
  have := h.row_at hi
  rw [rowV_pos hn] at this
  exact ⟨this, (h.inner hn i hi).cell hx, (h.inner hn i hi).frozen x⟩

theorem mergeF_ {G cG H cH : Nat} {rb cp : Nat → Nat} (a b : Nat) (h : FinIn B X P n W t (.slice (some ⟨G, 0, none⟩) t.R.length cG) (.slice (some ⟨H, 0, none⟩) t.R.length cH) rb cp) (hI : CInv n t) (ha : a < t.R.length) (hb : b < t.R.length) (hN : t.R.length ≤ 900) :
    Calls Tryd.prog 37 #[.slice (some ⟨H, 0, none⟩) t.R.length cH, .int .i64 (a : Int), .int .i64 (b : Int)] W fun e w' => e = .returned (.tuple #[]) ∧ FinAt B X P n w' ⟨t.R, joinC t.cls (a, b)⟩ ∧ Kp B X W w' :=
  (merge_ H t.R.length cH a b W (own_least h.of).1 ha hb (by omega) (fun i hi => by have := hI.cls_lt hi; omega)).mono fun e w' hw => by
    obtain ⟨h1, h2, h3⟩ := hw
    obtain ⟨k1, k2⟩ := h.set_of h2 h3
    exact ⟨h1, ⟨_, _, _, _, k1⟩, k2⟩

/-- While a row is gone through. -/
structure Run (B : Nat) (X : Nat → Prop) (P n : Nat) (w : World) (ts : Cos) (k i : Nat) (b : Bool) (t' : Cos) (W : World) : Prop where
  fin : FinAt B X P n W t'
  mv : Moves n ts t'
  kp : Kp B X w W
  ki : t'.cls k = t'.cls i
  no : b = false → t' = ts
  yes : b = true → leftN n t' < leftN n ts
theorem Run.move {w W' : World} {ts t' t2 : Cos} {k i : Nat} {b : Bool} (h : Run B X P n w ts k i b t' W) (hs : CInv n ts) (m : MoveR n t' t2) (hf : FinAt B X P n W' t2) (hk : Kp B X W W') : Run B X P n w ts k i true t2 W' := by
  obtain ⟨h1, h2, h3, h4⟩ := h.mv.inv hs
  obtain ⟨k1, k2, k3⟩ := m.inv h1
  exact ⟨hf, h.mv.step m, h.kp.trans hk, (m.keeps h1).cls _ _ h.ki, fun e => (by cases e), fun _ => by omega⟩
theorem Run.on {w W' : World} {ts t' : Cos} {k i : Nat} {b : Bool} (h : Run B X P n w ts k i b t' W) (hB : Below W.heap.size W W') : Run B X P n w ts k i b t' W' := ⟨h.fin.below hB, h.mv, h.kp.trans (Kp.of_below hB), h.ki, h.no, h.yes⟩
theorem Run.inv {w : World} {ts t' : Cos} {k i : Nat} {b : Bool} (h : Run B X P n w ts k i b t' W) (hs : CInv n ts) : CInv n t' ∧ t'.R.length = ts.R.length ∧ Keeps ts t' := by
  obtain ⟨h1, h2, h3, h4⟩ := h.mv.inv hs
  exact ⟨h1, h2, h4⟩
end

end Go.Proofs.YthcgabghkbgccaaDoor
