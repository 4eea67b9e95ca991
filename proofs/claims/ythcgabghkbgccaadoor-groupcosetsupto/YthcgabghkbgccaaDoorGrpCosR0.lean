/- The reference finds cosets: what is said of it on the way. -/
import Derived.Test.YthcgabghkbgccaaDoorGrpTraceR
import Derived.Test.YthcgabghkbgccaaDoorGrpOrd
namespace Go.Proofs.YthcgabghkbgccaaDoor
open Go.RowKit Go.Sort

def NoX : Nat → Prop := fun _ => False
theorem noX (W : World) : ∀ b, NoX b → b < W.heap.size := fun _ h => h.elim

/-- While words are traced from a coset. -/
structure WoAt (B P n : Nat) (w : World) (OUT : Option Cos) (rest : List (List Int)) (c M : Nat) (W : World) (s t : Cos) : Prop where
  pr : Pair n s t
  fin : FinAt B NoX P n W t
  kp : Kp B NoX w W
  out : traceAllP n s c rest = OUT
  len : s.R.length ≤ M
  low : c < s.R.length
theorem WoAt.next {B P n c M : Nat} {w W V : World} {OUT : Option Cos} {rest : List (List Int)} {l : List Int} {s t s' t' : Cos} (h : WoAt B P n w OUT (l :: rest) c M W s t) (k : TraceSays B NoX P n W s (traceP n s c l) l.length V s' t') : WoAt B P n w OUT rest c (M + l.length) V s' t' := by
  refine ⟨k.pr, k.fin, h.kp.trans k.kp, ?_, by have := h.len; have := k.len; omega, by have := h.low; have := k.low; omega⟩
  rw [← h.out, traceAllP, k.out]

/-- While what leads nowhere from a coset is opened. -/
structure OpnAt (B P n : Nat) (w : World) (OUT : Option Cos) (x c M : Nat) (W : World) (s t : Cos) : Prop where
  pr : Pair n s t
  fin : FinAt B NoX P n W t
  kp : Kp B NoX w W
  out : openL n s c ((List.range (2 * n)).drop x) = OUT
  len : s.R.length ≤ M
  low : c < s.R.length
theorem range_drop {m x : Nat} (h : x < m) : (List.range m).drop x = x :: (List.range m).drop (x + 1) := by
  rw [List.drop_eq_getElem_cons (by simpa using h), List.getElem_range]
theorem OpnAt.next {B P n x c M : Nat} {w W : World} {OUT : Option Cos} {s t : Cos} (h : OpnAt B P n w OUT x c M W s t) (hx : x < 2 * n) (hM : M < 5000) :
    ∃ s2, ∀ V, FinAt B NoX P n V (stepR n t c x).2 → Kp B NoX W V → OpnAt B P n w OUT (x + 1) c (M + 1) V s2 (stepR n t c x).2 := by
  have hlen := h.len
  obtain ⟨u, s2, e1, e2, e3, e4, e5, e6, e7, e8⟩ := h.pr.step (c := c) (c' := c) h.low (by rw [← h.pr.len]; exact h.low) rfl hx (by rw [← h.pr.len]; omega)
  refine ⟨s2, fun V h1 h2 => ⟨e2, h1, h.kp.trans h2, ?_, by omega, by have := h.low; omega⟩⟩
  have ho := h.out
  rw [range_drop hx, openL, e1] at ho
  exact ho
theorem OpnAt.done {B P n c M : Nat} {w W : World} {OUT : Option Cos} {s t : Cos} (h : OpnAt B P n w OUT (2 * n) c M W s t) : OUT = some s := by
  rw [← h.out, List.drop_eq_nil_of_le (by simp)]; rfl

/-- While the cosets are gone through. -/
structure MaAt (B P n : Nat) (w : World) (rels : List (List Int)) (OUT : Option Cos) (k : Nat) (W : World) (s t : Cos) : Prop where
  pr : Pair n s t
  fin : FinAt B NoX P n W t
  kp : Kp B NoX w W
  out : fillF n rels (5001 - k) k s = OUT
  len : s.R.length ≤ 401
  low : k = 0 ∨ s.R.length ≤ 190
  le : k ≤ s.R.length
theorem MaAt.skip {B P n k : Nat} {w W : World} {rels : List (List Int)} {OUT : Option Cos} {s t : Cos} (h : MaAt B P n w rels OUT k W s t) (hk : k < s.R.length) (h1 : s.R.length ≤ 190) (hr : s.cls k ≠ k) : MaAt B P n w rels OUT (k + 1) W s t := by
  refine ⟨h.pr, h.fin, h.kp, ?_, h.len, .inr h1, hk⟩
  have ho := h.out
  obtain ⟨m, hm⟩ : ∃ m, 5001 - k = m + 1 := ⟨5000 - k, by omega⟩
  rw [hm, fillF, if_pos hk, if_neg hr] at ho
  rw [show 5001 - (k + 1) = m by omega]
  exact ho
theorem MaAt.work {B P n k : Nat} {w W W2 V : World} {rels : List (List Int)} {OUT : Option Cos} {s t s2 s3 t3 : Cos} (h : MaAt B P n w rels OUT k W s t) (hk : k < s.R.length) (h1 : s.R.length ≤ 120) (hr : s.cls k = k) (e1 : traceAllP n s k rels = some s2) (hn : n ≤ 5) (h2 : OpnAt B P n W2 (openAllP n s2 k) (2 * n) k (180 + 2 * n) V s3 t3) (hkp : Kp B NoX w W2) : MaAt B P n w rels OUT (k + 1) V s3 t3 := by
  have e2 := h2.done
  refine ⟨h2.pr, h2.fin, hkp.trans h2.kp, ?_, by have := h2.len; omega, .inr (by have := h2.len; omega), h2.low⟩
  have ho := h.out
  obtain ⟨m, hm⟩ : ∃ m, 5001 - k = m + 1 := ⟨5000 - k, by omega⟩
  rw [hm, fillF, if_pos hk, if_pos hr] at ho
  have hw : workP n rels s k = some s3 := by unfold workP; rw [e1]; exact e2
  rw [hw] at ho
  rw [show 5001 - (k + 1) = m by omega]
  exact ho
theorem MaAt.done {B P n k : Nat} {w W : World} {rels : List (List Int)} {OUT : Option Cos} {s t : Cos} (h : MaAt B P n w rels OUT k W s t) (hk : ¬ k < s.R.length) : OUT = some s ∧ s.R.length ≤ 190 := by
  have h0 := h.pr.si.pos
  have hl := h.len
  refine ⟨?_, by rcases h.low with e | e <;> omega⟩
  rw [← h.out]
  obtain ⟨m, hm⟩ : ∃ m, 5001 - k = m + 1 := ⟨5000 - k, by have := h.le; omega⟩
  rw [hm, fillF, if_neg hk]

theorem begin_pair (n : Nat) : Pair n (beginP n) (beginP n) := by
  refine ⟨beginP_inv n, begin_back n, beginP_inv n, fun i x _ _ p e => ?_, Mor.refl _ _, Mor.refl _ _, rfl⟩
  have h : ent (beginP n).R i x = -1 := by
    show ent ([] ++ [newRow n]) i x = -1
    rw [ent_app, if_neg (by simp)]
    split
    · exact ent_new n x
    · rfl
  rw [h] at e; omega
/-- Nothing is there yet. -/
theorem fin_none {B P n : Nat} {W : World} (hP : B ≤ P) (h0 : W.cell? ⟨P, 0, none⟩ = some (.slice none 0 0)) (h1 : W.cell? ⟨P, 1, none⟩ = some (.slice none 0 0)) (h2 : W.cell? ⟨P, 2, none⟩ = some (.bool false)) (z0 : W.frozen? ⟨P, 0, none⟩ = false) (z1 : W.frozen? ⟨P, 1, none⟩ = false) : FinAt B NoX P n W ⟨[], fun i => i⟩ :=
  ⟨_, _, fun _ => 0, fun _ => 0, h0, h1, h2, z0, z1, World.ownsRow_nil _ _ _ _, fun _ k hk => (by cases hk), World.ownsRow_nil _ _ _ _, fun _ j k hj => (by cases hj), ⟨(fun e => by cases e), (fun e => by cases e), fun b e => (by cases e)⟩, fun _ k hk => (by cases hk), ⟨hP, fun _ k hk => (by cases hk)⟩, ⟨id, fun b e => (by cases e), fun b e => (by cases e), fun _ k hk => (by cases hk)⟩, fun r hr => (by cases hr)⟩

/-- While the table is told. -/
structure TelAt (b0 n : Nat) (w : World) (s : Cos) (OUT : List (List Int)) (i m : Nat) (W : World) (vo vout : Value) (ord : List Nat) (out : List (List Int)) : Prop where
  told : OrdAt b0 W vo (.slice none 0 0) vout ord [] out
  ok : OrdOk s ord
  fin : toldF n s m i ord out = OUT
  bl : Below b0 w W
  len : out.length = i
theorem idx_at {ord : List Nat} {t k : Nat} (h1 : ∀ j, j < k → ord[j]? ≠ some t) (h2 : ord[k]? = some t) : t ∈ ord ∧ ord.idxOf t = k := by
  have hm := List.mem_of_getElem? h2
  refine ⟨hm, ?_⟩
  have hi := List.idxOf_lt_length_iff.2 hm
  have he : ord[ord.idxOf t]? = some t := by rw [List.getElem?_eq_getElem hi, List.getElem_idxOf hi]
  rcases Nat.lt_trichotomy (ord.idxOf t) k with h | h | h
  · exact absurd he (h1 _ h)
  · exact h
  · exfalso
    have hk : k < ord.length := by omega
    have := List.not_of_lt_findIdx (p := fun x => x == t) (xs := ord) (i := k) h
    rw [List.getElem?_eq_getElem hk] at h2
    have e := Option.some.inj h2
    simp [e] at this
theorem idx_none {ord : List Nat} {t : Nat} (h1 : ∀ j, j < ord.length → ord[j]? ≠ some t) : t ∉ ord := fun hm => by
  obtain ⟨k, hk, e⟩ := List.mem_iff_getElem.1 hm
  exact h1 k hk (by rw [List.getElem?_eq_getElem hk, e])

/-- What CosetsOf answers, of few words. -/
def RefTold (n : Nat) (rels words : List (List Int)) (w : World) (e : Ending) (w' : World) : Prop :=
  Below w.heap.size w w' ∧ (e = .returned (.tuple #[.slice none 0 0, .int .i64 0, .bool false]) ∨ ∃ v s, e = .returned (.tuple #[v, .int .i64 0, .bool true]) ∧ cosetsP n rels words = some s ∧ Rows w' v (toldP n s) ∧ (toldP n s).length ≤ 400)
theorem RefTold.no {n : Nat} {rels words : List (List Int)} {w w' : World} (h : Below w.heap.size w w') : RefTold n rels words w (.returned (.tuple #[.slice none 0 0, .int .i64 0, .bool false])) w' := ⟨h, .inl rfl⟩
theorem RefTold.yes {n : Nat} {rels words : List (List Int)} {w w' : World} {v : Value} {s : Cos} (h : Below w.heap.size w w') (h1 : cosetsP n rels words = some s) (h2 : Rows w' v (toldP n s)) (h3 : (toldP n s).length ≤ 400) : RefTold n rels words w (.returned (.tuple #[v, .int .i64 0, .bool true])) w' := ⟨h, .inr ⟨v, s, rfl, h1, h2, h3⟩⟩

end Go.Proofs.YthcgabghkbgccaaDoor
