/- What stands for a coset. Slices of pairs of numbers, as they read. -/
import Derived.Test.YthcgabghkbgccaaDoorGrpMem
import Derived.BigRegion
import Derived.Deep.DeepCutAuto
import Derived.Test.YthcgabghkbgccaaDoorWrapI
import Derived.Laws.OwnMore
namespace Go.Proofs.YthcgabghkbgccaaDoor
open Go.RowKit Go.Sort

/-- The way becomes shorter. -/
theorem Leads.short {n : Nat} {c cls : Nat → Nat} (h : Leads n c cls) {i : Nat} (hi : i < n) : Leads n (fun j => if j = i then c (c i) else c j) cls := by
  have h1 := h.le i hi
  have h2 := h.le (c i) (by omega)
  refine ⟨h.is, fun j hj => ?_, fun j hj => ?_, fun j hj e => ?_, fun j hj e => ?_⟩
  · have := h.le j hj
    skip
    split <;> omega
  · skip
    split
    · rename_i e
      rw [h.one (c i) (by omega), h.one i hi, e]
    · exact h.one j hj
  · skip
    split at e
    · rename_i e1
      subst e1
      have : c j = j := by omega
      exact h.top j hj this
    · exact h.top j hj e
  · skip
    split
    · rename_i e1
      subst e1
      rw [h.self j hj e, h.self j hj e]
    · exact h.self j hj e

set_option maxRecDepth 100000 in
set_option maxHeartbeats 2000000 in
theorem stands_in {B : Nat} {X : Nat → Prop} {P n : Nat} {s : Cos} {G cG H cH : Nat} {rb c0 : Nat → Nat} (i : Nat) (w : World) (h : OpIn B X P n w s G cG H cH rb c0) (hi : i < s.R.length) :
    Calls Tryd.prog 33 #[.pointer (some ⟨P, 0, none⟩), .int .i64 (i : Int)] w fun e w' => e = .returned (.int .i64 (s.cls i : Int)) ∧ (∃ c, OpIn B X P n w' s G cG H cH rb c) ∧ Kp B X w w' := by
  have h5 : s.R.length ≤ 5000 := h.few
  have HO : Hid (∃ c, OpIn B X P n w s G cG H cH rb c) := ⟨c0, h⟩
  clear h
  go_enter Tryd.func33, Tryd.ntmps33
  go_wp2_with fail
  go_loopw [1] (fun p W => ∃ j : Nat, j < s.R.length ∧ p = .int .i64 j ∧ Hid (s.cls j = s.cls i ∧ (∃ c, OpIn B X P n W s G cG H cH rb c) ∧ Kp B X w W)) (fun p _ => (intOf p).toNat)
  case atStart => exact ⟨i, hi, rfl, rfl, HO.out, Kp.refl _ _ _⟩
  case round =>
    obtain ⟨j, hj, rfl, HC⟩ := hrel
    obtain ⟨c, h⟩ := HC.out.2.1
    have p2 := h.p2
    have cj := h.same_at hj
    have HL : Hid (OpIn B X P n wr s G cG H cH rb c) := h
    obtain ⟨N, hN⟩ : ∃ N, s.R.length = N := ⟨_, rfl⟩
    have HN : Hid (s.R.length = N) := hN
    rw [hN] at p2 hj h5
    have z0 : (0 : Int) ≤ (j : Int) := by omega
    have z1 : (j : Int) < (N : Int) := by omega
    clear h hN hi
    by_cases e : c j = j
    · have HE : Hid (s.cls j = j) := HL.out.lead.top j (by rw [HN.out]; exact hj) e
      rw [e] at cj
      go_wp2_with fail
      go_ret
      exact ⟨by rw [← HC.out.1, HE.out]; rfl, HC.out.2⟩
    · have hle := HL.out.lead.le j (by rw [HN.out]; exact hj)
      have hlt : c j < N := by omega
      have ck := HL.out.same_at (i := c j) (by rw [HN.out]; exact hlt)
      have hle2 := HL.out.lead.le (c j) (by rw [HN.out]; exact hlt)
      have hfz := HL.out.sm.frozenAt j
      have HS := Hid.mk' (HL.out.set_same (i := j) (by rw [HN.out]; exact hj) (c (c j)) (HL.out.lead.short (by rw [HN.out]; exact hj)) HL.out.far)
      have HO1 : Hid (s.cls (c (c j)) = s.cls i) := by
        show _ = _
        rw [HL.out.lead.one (c j) (by rw [HN.out]; exact hlt), HL.out.lead.one j (by rw [HN.out]; exact hj)]
        exact HC.out.1
      obtain ⟨k, hk⟩ : ∃ k, c j = k := ⟨_, rfl⟩
      obtain ⟨m, hm⟩ : ∃ m, c k = m := ⟨_, rfl⟩
      rw [hk] at cj e hle hlt ck hle2 HS HO1
      rw [hm] at ck hle2 HS HO1
      have hb : ((k : Int) == (j : Int)) = false := beq_false_of_ne (by omega)
      have y0 : (0 : Int) ≤ (k : Int) := by omega
      have y1 : (k : Int) < (N : Int) := by omega
      have q2 := HS.out.1.p2
      have qj := HS.out.1.same_at (i := j) (by rw [HN.out]; exact hj)
      rw [if_pos rfl] at qj
      rw [show (Cos.R ⟨s.R, s.cls⟩).length = N from HN.out] at q2
      clear hk hm HL
      go_upto_region 2 with fail
      go_big_region
      obtain ⟨W1, hW1⟩ : ∃ W1, wr.setCell ⟨H, j, none⟩ (.int .i64 (m : Int)) = W1 := ⟨_, rfl⟩
      rw [hW1] at HS q2 qj ⊢
      clear hW1 hfz cj ck p2
      go_wp2_with fail
      go_roundw
      case rel => exact ⟨m, by rw [HN.out]; omega, rfl, HO1.out, ⟨_, HS.out.1.below (Below.refl _ _).drew⟩, (HC.out.2.2.trans HS.out.2).drew⟩
      case measure => simp [intOf]; omega

theorem stands_ {B : Nat} {X : Nat → Prop} {P n : Nat} {s : Cos} (i : Nat) (w : World) (h : OpAt B X P n w s) (hi : i < s.R.length) :
    Calls Tryd.prog 33 #[.pointer (some ⟨P, 0, none⟩), .int .i64 (i : Int)] w fun e w' => e = .returned (.int .i64 (s.cls i : Int)) ∧ OpAt B X P n w' s ∧ Kp B X w w' := by
  obtain ⟨G, cG, H, cH, rb, c, h⟩ := h
  exact (stands_in i w h hi).mono fun e w' h => ⟨h.1, ⟨_, _, _, _, _, h.2.1⟩, h.2.2⟩

end Go.Proofs.YthcgabghkbgccaaDoor

namespace Go.Proofs.YthcgabghkbgccaaDoor
open Go.RowKit Go.Sort

abbrev Duo := Int × Int

/-- Their cells. -/
def duoCells (l : List Duo) : List Value := l.flatMap fun a => [.int .i64 a.1, .int .i64 a.2]
theorem duoCells_snoc (l : List Duo) (a : Duo) : duoCells (l ++ [a]) = duoCells l ++ [.int .i64 a.1, .int .i64 a.2] := by simp [duoCells]
theorem duoCells_len (l : List Duo) : (duoCells l).length = l.length * 2 := by
  induction l with
  | nil => rfl
  | cons a l ih => unfold duoCells at ih ⊢; rw [List.flatMap_cons, List.length_append, ih]; simp; omega
theorem duoCells_at : ∀ {l : List Duo} {k : Nat} (hk : k < l.length), (duoCells l)[k * 2]? = some (.int .i64 l[k].1) ∧ (duoCells l)[k * 2 + 1]? = some (.int .i64 l[k].2)
  | a :: l, 0, _ => by constructor <;> rfl
  | a :: l, k + 1, hk => by
    have h := duoCells_at (l := l) (k := k) (by simpa using hk)
    have e : duoCells (a :: l) = .int .i64 a.1 :: .int .i64 a.2 :: duoCells l := rfl
    rw [e, show (k + 1) * 2 = k * 2 + 2 by omega]
    simpa using h

/-- A row of the call's own that holds these pairs. -/
def DuoRow (base : Nat) (t : TypeId) (W : World) (v : Value) (l : List Duo) : Prop := W.ownsRow base t 2 v l.length (duoCells l)

/-- A slice that reads as these pairs, in a block of S. -/
def DuoIn (S : Nat → Prop) (W : World) (v : Value) (l : List Duo) : Prop :=
  ∃ a cap, v = .slice a l.length cap ∧ (0 < l.length → ∃ g o, a = some ⟨g, o, none⟩ ∧ S g ∧ g < W.heap.size ∧ ∀ k (hk : k < l.length), W.cell? ⟨g, o + k * 2, none⟩ = some (.int .i64 l[k].1) ∧ W.cell? ⟨g, o + (k * 2 + 1), none⟩ = some (.int .i64 l[k].2))

theorem DuoIn.nil (S : Nat → Prop) (W : World) : DuoIn S W (.slice none 0 0) [] := ⟨none, 0, rfl, fun h => by cases h⟩
theorem DuoRow.reads {base : Nat} {t : TypeId} {W : World} {v : Value} {l : List Duo} {S : Nat → Prop} (h : DuoRow base t W v l) (hS : ∀ b, base ≤ b → v.ownBlock = some b → S b) : DuoIn S W v l := by
  rcases h.2 with ⟨rfl, hn⟩ | ⟨g, cap, cur, rfl, hb, hg, _⟩
  · exact ⟨none, 0, by rw [hn], fun h0 => by omega⟩
  · refine ⟨some ⟨g, 0, none⟩, cap, rfl, fun _ => ⟨g, 0, rfl, hS g hb rfl, (Array.getElem?_eq_some_iff.1 hg).1, fun k hk => ?_⟩⟩
    have h1 := duoCells_at hk
    have h2 := World.ownsRow.cells h (g := g) rfl _ _ h1.1
    have h3 := World.ownsRow.cells h (g := g) rfl _ _ h1.2
    rw [Addr.add_lit] at h2 h3
    exact ⟨h2, h3⟩
theorem DuoIn.keep {S : Nat → Prop} {W W' : World} {v : Value} {l : List Duo} (h : DuoIn S W v l) (hs : W.heap.size ≤ W'.heap.size) (hk : ∀ b, b < W.heap.size → S b → W'.heap[b]? = W.heap[b]?) : DuoIn S W' v l := by
  obtain ⟨a, cap, e, h1⟩ := h
  refine ⟨a, cap, e, fun h0 => ?_⟩
  obtain ⟨g, o, e1, e2, e3, e4⟩ := h1 h0
  refine ⟨g, o, e1, e2, by omega, fun k hk' => ?_⟩
  have hb := hk g e3 e2
  exact ⟨(World.cell?_of_block hb).trans (e4 k hk').1, (World.cell?_of_block hb).trans (e4 k hk').2⟩
theorem DuoIn.below {S : Nat → Prop} {W W' : World} {v : Value} {l : List Duo} (h : DuoIn S W v l) (hB : Below W.heap.size W W') : DuoIn S W' v l := h.keep hB.size (fun b hb _ => hB.block b hb)
theorem DuoIn.mono {S S' : Nat → Prop} {W : World} {v : Value} {l : List Duo} (h : DuoIn S W v l) (hs : ∀ b, b < W.heap.size → S b → S' b) : DuoIn S' W v l := by
  obtain ⟨a, cap, e, h1⟩ := h
  refine ⟨a, cap, e, fun h0 => ?_⟩
  obtain ⟨g, o, e1, e2, e3, e4⟩ := h1 h0
  exact ⟨g, o, e1, hs g e3 e2, e3, e4⟩
theorem DuoRow.below {base : Nat} {t : TypeId} {W W' : World} {v : Value} {l : List Duo} (h : DuoRow base t W v l) (hB : Below W.heap.size W W') : DuoRow base t W' v l := World.ownsRow.kept h (Below.grownBy hB) (by cases v.ownBlock <;> simp)

end Go.Proofs.YthcgabghkbgccaaDoor
