/- What the statement on LEIBNIZ calls: deltas, products and classes of words, and their errors. -/
import Derived.Test.YtiblgnkjjbbmaaaDoorCupFaces3
import Derived.Test.YtiblgnkjjbbmaaaDoorCupCut
import Derived.Test.YtiblgnkjjbbmaaaDoorCupRefSum
import Derived.Test.YtiblgnkjjbbmaaaDoorCx
import Derived.Test.YtiblgnkjjbbmaaaDoorClosed
import Derived.Test.YtiblgnkjjbbmaaaDoorCupLawMath
namespace Go.Proofs.YtiblgnkjjbbmaaaDoor
open Go.RowKit Go.Sort

theorem ints_len {S : Nat → Prop} {W : World} {v : Value} {x : List Int} (h : IntsIn S W v x) : ∃ b c, v = .slice b x.length c ∧ Ints W (.slice b x.length c) x := by
  have h2 := h.any
  obtain ⟨b, c, rfl, -⟩ := h.open_
  exact ⟨b, c, rfl, h2⟩
theorem bad_or_good (l : List (List Int)) : (∃ j, BadAt l j) ∨ ∃ all, Good l all := by
  by_cases h1 : ∀ x ∈ l, SetOk x
  · by_cases h2 : Over (l.map srt)
    · exact .inl ⟨1, .inr (.inl ⟨rfl, h1, h2⟩)⟩
    · by_cases h3 : ∃ all, Good l all
      · exact .inr h3
      · exact .inl ⟨2, .inr (.inr ⟨rfl, h1, h2, fun all ha hf => h3 ⟨all, h1, h2, ha, hf⟩⟩)⟩
  · exact .inl ⟨3, .inl ⟨rfl, h1⟩⟩

/-- Is a list a cochain of a dimension? -/
def OkAt (all : List (List Int)) (i : Int) (f : List Int) : Prop := (0 ≤ i ∧ i < (topN all : Int)) ∧ OkCo (ofDim all i).length f
theorem bad_at1 {l all : List (List Int)} (hg : Good l all) (h60 : all.length ≤ 60) {i : Int} {f : List Int} (h : ¬ OkAt all i f) : ∃ j, CoBad l [(i, f)] j := by
  by_cases h1 : 0 ≤ i ∧ i < (topN all : Int)
  · exact ⟨3, .inr ⟨all, hg, h60, .inr ⟨by simpa [DimsOk] using h1, fun h2 => h ⟨h1, by simpa [ListsOk] using h2⟩, rfl⟩⟩⟩
  · exact ⟨1, .inr ⟨all, hg, h60, .inl ⟨fun h2 => h1 (by simpa [DimsOk] using h2), rfl⟩⟩⟩
theorem bad_at2 {l all : List (List Int)} (hg : Good l all) (h60 : all.length ≤ 60) {i k : Int} {f g : List Int} (h : ¬ (OkAt all i f ∧ OkAt all k g)) : ∃ j, CoBad l [(i, f), (k, g)] j := by
  by_cases h1 : (0 ≤ i ∧ i < (topN all : Int)) ∧ 0 ≤ k ∧ k < (topN all : Int)
  · exact ⟨3, .inr ⟨all, hg, h60, .inr ⟨by simpa [DimsOk] using h1, fun h2 => h ⟨⟨h1.1, (by simpa [ListsOk] using h2 : _ ∧ _).1⟩, h1.2, (by simpa [ListsOk] using h2 : _ ∧ _).2⟩, rfl⟩⟩⟩
  · exact ⟨1, .inr ⟨all, hg, h60, .inl ⟨fun h2 => h1 (by simpa [DimsOk] using h2), rfl⟩⟩⟩
theorem delta_no (a : Nat → Addr) {l all : List (List Int)} (hg : Good l all) (h60 : all.length ≤ 60) {i : Int} {f : List Int} (h : ¬ OkAt all i f) (hll : l.length ≤ 100000) (hle : ∀ x ∈ l, x.length ≤ 1000) (hfl : f.length ≤ 60) :
    ∃ p : Addr, ∀ (s : Nat → ByteArray) (v u : Value) (V : World), Errs a s V → Rows V v l → Ints V u f → Calls Tryd.prog 9 #[.agg #[v], .int .i64 i, u] V fun e w' => e = .returned (.tuple #[.slice none 0 0, .iface 133 (.pointer (some p))]) ∧ Below V.heap.size V w' := by
  obtain ⟨j, hj⟩ := bad_at1 hg h60 h
  exact ⟨a j, fun s v u V hE hl hf => cupDelta_err hj v u V hE hl hll hle hf hfl⟩
theorem cup_no (a : Nat → Addr) {l all : List (List Int)} (hg : Good l all) (h60 : all.length ≤ 60) {i k : Int} {f g : List Int} (h : ¬ (OkAt all i f ∧ OkAt all k g)) (hll : l.length ≤ 100000) (hle : ∀ x ∈ l, x.length ≤ 1000) (hfl : f.length ≤ 60) (hgl : g.length ≤ 60) :
    ∃ p : Addr, ∀ (s : Nat → ByteArray) (v u t : Value) (V : World), Errs a s V → Rows V v l → Ints V u f → Ints V t g → Calls Tryd.prog 10 #[.agg #[v], .int .i64 i, u, .int .i64 k, t] V fun e w' => e = .returned (.tuple #[.slice none 0 0, .iface 133 (.pointer (some p))]) ∧ Below V.heap.size V w' := by
  obtain ⟨j, hj⟩ := bad_at2 hg h60 h
  exact ⟨a j, fun s v u t V hE hl hf hgi => cupCup_err hj v u t V hE hl hll hle hf hfl hgi hgl⟩
theorem bits60 {all : List (List Int)} (h60 : all.length ≤ 60) {d : Int} {x : Nat} (hx : x < 2 ^ (ofDim all d).length) : OkCo (ofDim all d).length (bitsI x) ∧ maskN (bitsI x) = x ∧ (bitsI x).length ≤ 60 := by
  have hn : (ofDim all d).length ≤ 60 := Nat.le_trans (ofDim_length _ _) h60
  exact ⟨bitsI_ok hx (by omega), mask_bitsI hx (by omega), Nat.le_trans (bitsI_few hx (by omega)) hn⟩
theorem delta_yes {a : Nat → Addr} {l all : List (List Int)} (hg : Good l all) (h60 : all.length ≤ 60) (hll : l.length ≤ 100000) (hle : ∀ x ∈ l, x.length ≤ 1000) {d x : Nat} (hd : d < topN all) (hx : x < 2 ^ (ofDim all (d : Int)).length) (s : Nat → ByteArray) (v u : Value) (V : World) (hE : Errs a s V) (hT : TabOk V) (hl : Rows V v l) (hu : Ints V u (bitsI x)) :
    Calls Tryd.prog 9 #[.agg #[v], .int .i64 (d : Int), u] V fun e w' => ∃ b c, e = .returned (.tuple #[.slice b (bitsI (deltaW all d x)).length c, .nilIface]) ∧ Ints w' (.slice b (bitsI (deltaW all d x)).length c) (bitsI (deltaW all d x)) ∧ Below V.heap.size V w' := by
  obtain ⟨ho, hm, hn⟩ := bits60 h60 hx
  refine (cupDelta_ok hg h60 hd ho v u V hE hT hl hll hle hu hn).mono fun e w' h => ?_
  rw [hm] at h
  obtain ⟨y, rfl, hy, hb⟩ := h
  obtain ⟨b, c, rfl, hy2⟩ := ints_len hy
  exact ⟨b, c, rfl, hy2, hb⟩
theorem cup_yes {a : Nat → Addr} {l all : List (List Int)} (hg : Good l all) (h60 : all.length ≤ 60) (hll : l.length ≤ 100000) (hle : ∀ x ∈ l, x.length ≤ 1000) {i k x y : Nat} (hi : i < topN all) (hk : k < topN all) (hx : x < 2 ^ (ofDim all (i : Int)).length) (hy : y < 2 ^ (ofDim all (k : Int)).length) (s : Nat → ByteArray) (v u t : Value) (V : World) (hE : Errs a s V) (hT : TabOk V) (hl : Rows V v l) (hu : Ints V u (bitsI x)) (ht : Ints V t (bitsI y)) :
    Calls Tryd.prog 10 #[.agg #[v], .int .i64 (i : Int), u, .int .i64 (k : Int), t] V fun e w' => ∃ b c, e = .returned (.tuple #[.slice b (bitsI (cupW all i k x y)).length c, .nilIface]) ∧ Ints w' (.slice b (bitsI (cupW all i k x y)).length c) (bitsI (cupW all i k x y)) ∧ Below V.heap.size V w' := by
  obtain ⟨ho, hm, hn⟩ := bits60 h60 hx
  obtain ⟨ho', hm', hn'⟩ := bits60 h60 hy
  refine (cupCup_ok hg h60 hi hk ho ho' v u t V hE hT hl hll hle hu hn ht hn').mono fun e w' h => ?_
  rw [hm, hm'] at h
  obtain ⟨z, rfl, hz, hb⟩ := h
  obtain ⟨b, c, rfl, hz2⟩ := ints_len hz
  exact ⟨b, c, rfl, hz2, hb⟩
theorem same_yes {a : Nat → Addr} {l all : List (List Int)} (hg : Good l all) (h60 : all.length ≤ 60) (hll : l.length ≤ 100000) (hle : ∀ x ∈ l, x.length ≤ 1000) {d x y : Nat} (hd : d < topN all) (hx : x < 2 ^ (ofDim all (d : Int)).length) (hy : y < 2 ^ (ofDim all (d : Int)).length) (hs : sameP all d x y = true) (s : Nat → ByteArray) (v u t : Value) (V : World) (hE : Errs a s V) (hT : TabOk V) (hl : Rows V v l) (hu : Ints V u (bitsI x)) (ht : Ints V t (bitsI y)) :
    Calls Tryd.prog 14 #[.agg #[v], .int .i64 (d : Int), u, t] V fun e w' => e = .returned (.tuple #[.bool true, .nilIface]) ∧ Below V.heap.size V w' := by
  obtain ⟨ho, hm, hn⟩ := bits60 h60 hx
  obtain ⟨ho', hm', hn'⟩ := bits60 h60 hy
  refine (cupSame_ok hg h60 hd ho ho' v u t V hE hT hl hll hle hu hn ht hn').mono fun e w' h => ?_
  rw [hm, hm', hs] at h
  exact h
theorem sum_yes {all : List (List Int)} (h60 : all.length ≤ 60) {d : Int} {x y : Nat} (hx : x < 2 ^ (ofDim all d).length) (hy : y < 2 ^ (ofDim all d).length) (u t : Value) (V : World) (hu : Ints V u (bitsI x)) (ht : Ints V t (bitsI y)) :
    Calls Tryd.prog 13 #[u, t] V fun e w' => ∃ b c, e = .returned (.slice b (bitsI (x ^^^ y)).length c) ∧ Ints w' (.slice b (bitsI (x ^^^ y)).length c) (bitsI (x ^^^ y)) ∧ Below V.heap.size V w' := by
  have hn : (ofDim all d).length ≤ 60 := Nat.le_trans (ofDim_length _ _) h60
  refine (sumOf_ u t x y (lt64 hx (by omega)) (lt64 hy (by omega)) V hu ht).mono fun e w' h => ?_
  obtain ⟨z, rfl, hz, hb⟩ := h
  obtain ⟨b, c, rfl, hz2⟩ := ints_len hz
  exact ⟨b, c, rfl, hz2, hb⟩
theorem same_ints_yes (x : Nat) (u t : Value) (V : World) (hu : Ints V u (bitsI x)) (ht : Ints V t (bitsI x)) :
    Calls Tryd.prog 12 #[u, t] V fun e w' => e = .returned (.bool true) ∧ Below V.heap.size V w' := (same_ints u t _ _ V hu ht (by have := bitsI_len x; omega)).mono fun e w' h => by
  obtain ⟨h1, q, rfl⟩ := h
  exact ⟨by rw [h1, decide_eq_true rfl], drew_below _ _⟩
/-- A cochain is a word's list. -/
theorem okAt_word {all : List (List Int)} (h60 : all.length ≤ 60) {i : Int} {f : List Int} (h : OkAt all i f) : ∃ d x : Nat, i = (d : Int) ∧ d < topN all ∧ f = bitsI x ∧ x < 2 ^ (ofDim all (d : Int)).length := by
  obtain ⟨⟨h1, h2⟩, h3⟩ := h
  obtain ⟨d, rfl⟩ : ∃ d : Nat, i = (d : Int) := ⟨i.toNat, by omega⟩
  have hn : (ofDim all (d : Int)).length ≤ 60 := Nat.le_trans (ofDim_length _ _) h60
  exact ⟨d, maskN f, rfl, by omega, (bitsI_mask h3 (by omega)).symm, maskN_lt h3⟩

end Go.Proofs.YtiblgnkjjbbmaaaDoor
