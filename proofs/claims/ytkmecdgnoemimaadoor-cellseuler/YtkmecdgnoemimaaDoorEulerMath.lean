/- Numbers of faces with signs: of lists put together, of all rows of pairs over the faces of two complexes. -/
import Derived.Test.YtkmecdgnoemimaaDoorMathV
import Derived.Test.YtkmecdgnoemimaaDoorProductMath2
namespace Go.Proofs.YtkmecdgnoemimaaDoor

/-- The sign of a face. -/
def sgn {α : Type} (x : List α) : Int := if x.length % 2 = 1 then 1 else -1
theorem sgn_len {α β : Type} {x : List α} {y : List β} (h : x.length = y.length) : sgn x = sgn y := by unfold sgn; rw [h]
theorem sgn_cons {α : Type} (a : α) (x : List α) : sgn (a :: x) = -sgn x := by
  unfold sgn
  rw [List.length_cons]
  split <;> split <;> omega
theorem sgn_nil {α : Type} : sgn ([] : List α) = -1 := rfl
theorem sgn_append {α : Type} (x y : List α) : sgn (x ++ y) = -(sgn x * sgn y) := by
  induction x with
  | nil => rw [List.nil_append, sgn_nil]; omega
  | cons a x ih => rw [List.cons_append, sgn_cons, sgn_cons, ih, Int.neg_mul]
theorem eulerOf_cons {α : Type} (x : List α) (l : List (List α)) : eulerOf (x :: l) = sgn x + eulerOf l := rfl
theorem eulerOf_append {α : Type} (l m : List (List α)) : eulerOf (l ++ m) = eulerOf l + eulerOf m := by
  induction l with
  | nil => simp [eulerOf]
  | cons x l ih => rw [List.cons_append, eulerOf_cons, eulerOf_cons, ih]; omega
theorem eulerOf_map {α β : Type} {f : List α → List β} {l : List (List α)} (h : ∀ x ∈ l, (f x).length = x.length) : eulerOf (l.map f) = eulerOf l := by
  induction l with
  | nil => rfl
  | cons x l ih => rw [List.map_cons, eulerOf_cons, eulerOf_cons, ih (fun y hy => h y (by simp [hy])), sgn_len (h x (by simp))]
theorem eulerOf_after {α : Type} (x : List α) (q : List (List α)) : eulerOf (q.map (fun y => x ++ y)) = -(sgn x * eulerOf q) := by
  induction q with
  | nil => simp [eulerOf]
  | cons y q ih => rw [List.map_cons, eulerOf_cons, eulerOf_cons, ih, sgn_append, Int.mul_add]; omega
theorem eulerOf_conses {α : Type} (a : α) (l : List (List α)) : eulerOf (l.map (fun t => a :: t)) = -eulerOf l := by
  induction l with
  | nil => rfl
  | cons y q ih => rw [List.map_cons, eulerOf_cons, eulerOf_cons, ih, sgn_cons]; omega
/-- Of lists for each face, each with a number for the face's sign. -/
theorem eulerOf_flat {α β : Type} {F : List α → List (List β)} {l : List (List α)} {c : Int} (h : ∀ x ∈ l, eulerOf (F x) = sgn x * c) : eulerOf (l.flatMap F) = eulerOf l * c := by
  induction l with
  | nil => simp [eulerOf]
  | cons x l ih => rw [List.flatMap_cons, eulerOf_append, h x (by simp), ih (fun y hy => h y (by simp [hy])), eulerOf_cons, Int.add_mul]

/-- All rows of pairs whose first and whose second numbers are just these. -/
def overs : Nat → List Nat → List Nat → List (List (Nat × Nat))
  | 0, _, _ => []
  | _ + 1, [], _ => []
  | _ + 1, _ :: _, [] => []
  | n + 1, a :: f, b :: g => (if f = [] ∧ g = [] then [[(a, b)]] else []) ++ ((overs n f (b :: g) ++ overs n (a :: f) g) ++ overs n f g).map (fun t => (a, b) :: t)

theorem overs_sum : ∀ (n : Nat) (f g : List Nat), f.length + g.length ≤ n → eulerOf (overs n f g) = if f = [] ∨ g = [] then 0 else sgn f * sgn g
  | 0, f, g, h => by
    have : f = [] := List.length_eq_zero_iff.1 (by omega)
    simp [overs, this, eulerOf]
  | n + 1, [], g, _ => by simp [overs, eulerOf]
  | n + 1, a :: f, [], _ => by simp [overs, eulerOf]
  | n + 1, a :: f, b :: g, h => by
    simp only [List.length_cons] at h
    have h1 := overs_sum n f (b :: g) (by simp only [List.length_cons]; omega)
    have h2 := overs_sum n (a :: f) g (by simp only [List.length_cons]; omega)
    have h3 := overs_sum n f g (by omega)
    simp only [overs]
    rw [eulerOf_append, eulerOf_conses, eulerOf_append, eulerOf_append, h1, h2, h3, if_neg (show ¬ (a :: f = [] ∨ b :: g = []) by simp), sgn_cons, sgn_cons, Int.neg_mul_neg]
    simp only [reduceCtorEq, or_false, false_or]
    by_cases hf : f = []
    · subst hf
      by_cases hg : g = []
      · subst hg; rfl
      · simp only [hg, and_false, if_false, if_true, true_or, sgn_nil, eulerOf]; omega
    · by_cases hg : g = []
      · subst hg
        simp only [hf, and_true, if_false, if_true, or_true, sgn_nil, eulerOf]; omega
      · simp only [hf, hg, and_self, if_false, or_self, eulerOf, Int.mul_neg, Int.neg_mul]; omega

/-- The first and the second numbers of a row. -/
def Just (f g : List Nat) (t : List (Nat × Nat)) : Prop := Climbs t ∧ t ≠ [] ∧ (∀ i, i ∈ f ↔ ∃ c ∈ t, c.1 = i) ∧ ∀ k, k ∈ g ↔ ∃ c ∈ t, c.2 = k

theorem just_cons {a b : Nat} {f g f' g' : List Nat} {t : List (Nat × Nat)} (hf : (a :: f).Pairwise (· < ·)) (hg : (b :: g).Pairwise (· < ·)) (h : Just f' g' t) (h1 : f' = f ∨ f' = a :: f) (h2 : g' = g ∨ g' = b :: g) (hn : f' = f ∨ g' = g) : Just (a :: f) (b :: g) ((a, b) :: t) := by
  have hf' := List.pairwise_cons.1 hf
  have hg' := List.pairwise_cons.1 hg
  have hle1 : ∀ c ∈ t, a ≤ c.1 := fun c hc => by
    have := (h.2.2.1 c.1).2 ⟨c, hc, rfl⟩
    rcases h1 with rfl | rfl
    · exact Nat.le_of_lt (hf'.1 _ this)
    · rcases List.mem_cons.1 this with e | e
      · omega
      · exact Nat.le_of_lt (hf'.1 _ e)
  have hle2 : ∀ c ∈ t, b ≤ c.2 := fun c hc => by
    have := (h.2.2.2 c.2).2 ⟨c, hc, rfl⟩
    rcases h2 with rfl | rfl
    · exact Nat.le_of_lt (hg'.1 _ this)
    · rcases List.mem_cons.1 this with e | e
      · omega
      · exact Nat.le_of_lt (hg'.1 _ e)
  refine ⟨List.pairwise_cons.2 ⟨fun c hc => ⟨hle1 c hc, hle2 c hc, fun e => ?_⟩, h.1⟩, by simp, fun i => ?_, fun k => ?_⟩
  · rcases hn with rfl | rfl
    · have := hf'.1 _ ((h.2.2.1 c.1).2 ⟨c, hc, rfl⟩)
      rw [← e] at this; exact Nat.lt_irrefl _ this
    · have := hg'.1 _ ((h.2.2.2 c.2).2 ⟨c, hc, rfl⟩)
      rw [← e] at this; exact Nat.lt_irrefl _ this
  · constructor
    · intro hi
      rcases List.mem_cons.1 hi with rfl | hi
      · exact ⟨(i, b), by simp, rfl⟩
      · obtain ⟨c, hc, e⟩ := (h.2.2.1 i).1 (by rcases h1 with rfl | rfl <;> simp [hi])
        exact ⟨c, by simp [hc], e⟩
    · rintro ⟨c, hc, rfl⟩
      rcases List.mem_cons.1 hc with rfl | hc
      · simp
      · have := (h.2.2.1 c.1).2 ⟨c, hc, rfl⟩
        rcases h1 with rfl | rfl
        · simp [this]
        · exact this
  · constructor
    · intro hi
      rcases List.mem_cons.1 hi with rfl | hi
      · exact ⟨(a, k), by simp, rfl⟩
      · obtain ⟨c, hc, e⟩ := (h.2.2.2 k).1 (by rcases h2 with rfl | rfl <;> simp [hi])
        exact ⟨c, by simp [hc], e⟩
    · rintro ⟨c, hc, rfl⟩
      rcases List.mem_cons.1 hc with rfl | hc
      · simp
      · have := (h.2.2.2 c.2).2 ⟨c, hc, rfl⟩
        rcases h2 with rfl | rfl
        · simp [this]
        · exact this

theorem overs_just : ∀ (n : Nat) (f g : List Nat), f.Pairwise (· < ·) → g.Pairwise (· < ·) → ∀ t ∈ overs n f g, Just f g t
  | 0, _, _, _, _, t, h => by simp [overs] at h
  | _ + 1, [], _, _, _, t, h => by simp [overs] at h
  | _ + 1, _ :: _, [], _, _, t, h => by simp [overs] at h
  | n + 1, a :: f, b :: g, hf, hg, t, h => by
    have hf' := List.pairwise_cons.1 hf
    have hg' := List.pairwise_cons.1 hg
    simp only [overs] at h
    rcases List.mem_append.1 h with h0 | h0
    · clear h
      split at h0
      · rename_i e
        obtain ⟨rfl, rfl⟩ := e
        obtain rfl : t = [(a, b)] := by simpa using h0
        exact ⟨List.pairwise_singleton _ _, by simp, fun i => by simp [eq_comm], fun k => by simp [eq_comm]⟩
      · cases h0
    · obtain ⟨t', ht, rfl⟩ := List.mem_map.1 h0
      rcases List.mem_append.1 ht with ht | ht
      · rcases List.mem_append.1 ht with ht | ht
        · exact just_cons hf hg (overs_just n _ _ hf'.2 hg _ ht) (.inl rfl) (.inr rfl) (.inl rfl)
        · exact just_cons hf hg (overs_just n _ _ hf hg'.2 _ ht) (.inr rfl) (.inl rfl) (.inr rfl)
      · exact just_cons hf hg (overs_just n _ _ hf'.2 hg'.2 _ ht) (.inl rfl) (.inl rfl) (.inl rfl)

theorem just_overs : ∀ (n : Nat) (f g : List Nat), f.Pairwise (· < ·) → g.Pairwise (· < ·) → f.length + g.length ≤ n → ∀ t, Just f g t → t ∈ overs n f g
  | 0, f, g, _, _, hn, t, h => by
    obtain ⟨c, hc⟩ := List.exists_mem_of_ne_nil _ h.2.1
    have := List.length_pos_of_mem ((h.2.2.1 c.1).2 ⟨c, hc, rfl⟩)
    omega
  | n + 1, [], g, _, _, _, t, h => by
    obtain ⟨c, hc⟩ := List.exists_mem_of_ne_nil _ h.2.1
    have := (h.2.2.1 c.1).2 ⟨c, hc, rfl⟩
    cases this
  | n + 1, a :: f, [], _, _, _, t, h => by
    obtain ⟨c, hc⟩ := List.exists_mem_of_ne_nil _ h.2.1
    have := (h.2.2.2 c.2).2 ⟨c, hc, rfl⟩
    cases this
  | n + 1, a :: f, b :: g, hf, hg, hn, t, h => by
    have hf' := List.pairwise_cons.1 hf
    have hg' := List.pairwise_cons.1 hg
    simp only [List.length_cons] at hn
    cases t with
    | nil => exact absurd rfl h.2.1
    | cons c t =>
      have hp := List.pairwise_cons.1 h.1
      have hc1 : c.1 = a := by
        have h1 := (h.2.2.1 c.1).2 ⟨c, by simp, rfl⟩
        obtain ⟨d, hd, hda⟩ := (h.2.2.1 a).1 (by simp)
        have h2 : c.1 ≤ d.1 := by
          rcases List.mem_cons.1 hd with rfl | hd
          · exact Nat.le_refl _
          · exact (hp.1 d hd).1
        rcases List.mem_cons.1 h1 with e | e
        · exact e
        · have := hf'.1 _ e; omega
      have hc2 : c.2 = b := by
        have h1 := (h.2.2.2 c.2).2 ⟨c, by simp, rfl⟩
        obtain ⟨d, hd, hda⟩ := (h.2.2.2 b).1 (by simp)
        have h2 : c.2 ≤ d.2 := by
          rcases List.mem_cons.1 hd with rfl | hd
          · exact Nat.le_refl _
          · exact (hp.1 d hd).2.1
        rcases List.mem_cons.1 h1 with e | e
        · exact e
        · have := hg'.1 _ e; omega
      obtain rfl : c = (a, b) := Prod.ext hc1 hc2
      have hfm : ∀ i ∈ f, ∃ d ∈ t, d.1 = i := fun i hi => by
        obtain ⟨d, hd, e⟩ := (h.2.2.1 i).1 (by simp [hi])
        rcases List.mem_cons.1 hd with rfl | hd
        · have := hf'.1 _ hi; simp at e; omega
        · exact ⟨d, hd, e⟩
      have hgm : ∀ i ∈ g, ∃ d ∈ t, d.2 = i := fun i hi => by
        obtain ⟨d, hd, e⟩ := (h.2.2.2 i).1 (by simp [hi])
        rcases List.mem_cons.1 hd with rfl | hd
        · have := hg'.1 _ hi; simp at e; omega
        · exact ⟨d, hd, e⟩
      have hfb : ∀ d ∈ t, d.1 ∈ a :: f := fun d hd => (h.2.2.1 d.1).2 ⟨d, by simp [hd], rfl⟩
      have hgb : ∀ d ∈ t, d.2 ∈ b :: g := fun d hd => (h.2.2.2 d.2).2 ⟨d, by simp [hd], rfl⟩
      simp only [overs]
      rw [List.mem_append]
      by_cases ht : t = []
      · subst ht
        have e1 : f = [] := by
          cases f with
          | nil => rfl
          | cons i f => obtain ⟨d, hd, _⟩ := hfm i (by simp); cases hd
        have e2 : g = [] := by
          cases g with
          | nil => rfl
          | cons i f => obtain ⟨d, hd, _⟩ := hgm i (by simp); cases hd
        exact .inl (by rw [if_pos ⟨e1, e2⟩]; simp)
      · refine .inr (List.mem_map.2 ⟨t, ?_, rfl⟩)
        rw [List.mem_append, List.mem_append]
        by_cases ha : ∃ d ∈ t, d.1 = a
        · have hb : ∀ d ∈ t, d.2 ∈ g := fun e he => by
            rcases List.mem_cons.1 (hgb e he) with h2 | h2
            · exfalso
              obtain ⟨d, hd, h1⟩ := ha
              have hd0 := hp.1 d hd
              have he0 := hp.1 e he
              have hde := climbs_two hp.2 hd he
              have hd2 : b < d.2 := by
                rcases Nat.lt_or_ge b d.2 with h3 | h3
                · exact h3
                · exact absurd (Prod.ext h1.symm (Nat.le_antisymm hd0.2.1 h3)) hd0.2.2
              have he1 : a < e.1 := by
                rcases Nat.lt_or_ge a e.1 with h3 | h3
                · exact h3
                · exact absurd (Prod.ext (Nat.le_antisymm he0.1 h3) h2.symm) he0.2.2
              rcases hde with h3 | h3 | h3
              · subst h3; omega
              · have := h3.2.1; omega
              · have := h3.1; omega
            · exact h2
          refine .inl (.inr (just_overs n (a :: f) g hf hg'.2 (by simp only [List.length_cons]; omega) t ⟨hp.2, ht, fun i => ?_, fun k => ?_⟩))
          · constructor
            · intro hi
              rcases List.mem_cons.1 hi with rfl | hi
              · exact ha
              · exact hfm i hi
            · rintro ⟨d, hd, rfl⟩; exact hfb d hd
          · exact ⟨hgm k, fun ⟨d, hd, e⟩ => by rw [← e]; exact hb d hd⟩
        · have hfb' : ∀ d ∈ t, d.1 ∈ f := fun d hd => by
            rcases List.mem_cons.1 (hfb d hd) with e | e
            · exact absurd ⟨d, hd, e⟩ ha
            · exact e
          by_cases hb : ∃ d ∈ t, d.2 = b
          · refine .inl (.inl (just_overs n f (b :: g) hf'.2 hg (by simp only [List.length_cons]; omega) t ⟨hp.2, ht, fun i => ?_, fun k => ?_⟩))
            · exact ⟨hfm i, fun ⟨d, hd, e⟩ => by rw [← e]; exact hfb' d hd⟩
            · constructor
              · intro hi
                rcases List.mem_cons.1 hi with rfl | hi
                · exact hb
                · exact hgm k hi
              · rintro ⟨d, hd, rfl⟩; exact hgb d hd
          · refine .inr (just_overs n f g hf'.2 hg'.2 (by omega) t ⟨hp.2, ht, fun i => ?_, fun k => ?_⟩)
            · exact ⟨hfm i, fun ⟨d, hd, e⟩ => by rw [← e]; exact hfb' d hd⟩
            · refine ⟨hgm k, fun ⟨d, hd, e⟩ => ?_⟩
              rcases List.mem_cons.1 (hgb d hd) with e' | e'
              · exact absurd ⟨d, hd, e'⟩ hb
              · rw [← e]; exact e'

theorem overs_nodup : ∀ (n : Nat) (f g : List Nat), f.Pairwise (· < ·) → g.Pairwise (· < ·) → (overs n f g).Nodup
  | 0, _, _, _, _ => List.Pairwise.nil
  | _ + 1, [], _, _, _ => List.Pairwise.nil
  | _ + 1, _ :: _, [], _, _ => List.Pairwise.nil
  | n + 1, a :: f, b :: g, hf, hg => by
    have hf' := List.pairwise_cons.1 hf
    have hg' := List.pairwise_cons.1 hg
    have na : a ∉ f := fun h => Nat.lt_irrefl _ (hf'.1 _ h)
    have nb : b ∉ g := fun h => Nat.lt_irrefl _ (hg'.1 _ h)
    simp only [overs]
    unfold List.Nodup
    rw [List.pairwise_append]
    refine ⟨?_, ?_, ?_⟩
    · split
      · exact List.pairwise_singleton _ _
      · exact List.Pairwise.nil
    · rw [List.pairwise_map]
      refine List.Pairwise.imp (R := (· ≠ ·)) (fun h e => h (List.cons.inj e).2) ?_
      rw [List.pairwise_append, List.pairwise_append]
      refine ⟨⟨overs_nodup n _ _ hf'.2 hg, overs_nodup n _ _ hf hg'.2, ?_⟩, overs_nodup n _ _ hf'.2 hg'.2, ?_⟩
      · rintro t ht u hu rfl
        have h1 := overs_just n _ _ hf'.2 hg t ht
        have h2 := overs_just n _ _ hf hg'.2 t hu
        exact na ((h1.2.2.1 a).2 ((h2.2.2.1 a).1 (by simp)))
      · rintro t ht u hu rfl
        have h2 := overs_just n _ _ hf'.2 hg'.2 t hu
        rcases List.mem_append.1 ht with ht | ht
        · have h1 := overs_just n _ _ hf'.2 hg t ht
          exact nb ((h2.2.2.2 b).2 ((h1.2.2.2 b).1 (by simp)))
        · have h1 := overs_just n _ _ hf hg'.2 t ht
          exact na ((h2.2.2.1 a).2 ((h1.2.2.1 a).1 (by simp)))
    · intro t ht u hu e
      split at ht
      · obtain rfl : t = [(a, b)] := by simpa using ht
        obtain ⟨u', hu', rfl⟩ := List.mem_map.1 hu
        have : u' = [] := (List.cons.inj e).2.symm
        subst this
        rcases List.mem_append.1 hu' with h | h
        · rcases List.mem_append.1 h with h | h
          · exact (overs_just n _ _ hf'.2 hg _ h).2.1 rfl
          · exact (overs_just n _ _ hf hg'.2 _ h).2.1 rfl
        · exact (overs_just n _ _ hf'.2 hg'.2 _ h).2.1 rfl
      · cases ht

/-- A face's places. -/
def plc (V f : List Int) : List Nat := (List.range V.length).filter (fun i => decide (vAt V i ∈ f))
theorem plc_mem {V f : List Int} {i : Nat} : i ∈ plc V f ↔ i < V.length ∧ vAt V i ∈ f := by
  unfold plc
  rw [List.mem_filter, List.mem_range]
  simp
theorem plc_lt (V f : List Int) : (plc V f).Pairwise (· < ·) := List.pairwise_lt_range.sublist List.filter_sublist
theorem vAt_at {V : List Int} {v : Int} (h : v ∈ V) : ∃ i, i < V.length ∧ vAt V i = v := by
  obtain ⟨i, hi, e⟩ := List.mem_iff_getElem.1 h
  exact ⟨i, hi, by unfold vAt; rw [List.getElem?_eq_getElem hi, e]; rfl⟩
theorem plc_map {V f : List Int} (hV : Rising V) (hf : Rising f) (h : ∀ v ∈ f, v ∈ V) : (plc V f).map (vAt V) = f := by
  refine rising_told ?_ hf (fun v => ?_)
  · unfold Rising
    rw [List.pairwise_map]
    exact (plc_lt V f).imp_of_mem (fun _ hb hab => vAt_lt hV hab (plc_mem.1 hb).1)
  · rw [List.mem_map]
    constructor
    · rintro ⟨i, hi, rfl⟩; exact (plc_mem.1 hi).2
    · intro hv
      obtain ⟨i, hi, e⟩ := vAt_at (h v hv)
      exact ⟨i, plc_mem.2 ⟨hi, by rw [e]; exact hv⟩, e⟩
theorem plc_length {V f : List Int} (hV : Rising V) (hf : Rising f) (h : ∀ v ∈ f, v ∈ V) : (plc V f).length = f.length := by
  have := congrArg List.length (plc_map hV hf h)
  simpa using this

/-- All rows over the faces of two. -/
def rowsOf (p q : List (List Int)) (V W : List Int) : List (List (Nat × Nat)) := p.flatMap (fun f => q.flatMap (fun g => overs ((plc V f).length + (plc W g).length) (plc V f) (plc W g)))

/-- A complex and its vertices. -/
structure Verts (p : List (List Int)) (V : List Int) : Prop where
  whole : WholeL p
  some_ : ∀ f ∈ p, f ≠ []
  nodup : p.Nodup
  rise : Rising V
  has : ∀ f ∈ p, ∀ v ∈ f, v ∈ V

theorem rows_sum {p q : List (List Int)} {V W : List Int} (hp : Verts p V) (hq : Verts q W) : eulerOf (rowsOf p q V W) = eulerOf p * eulerOf q := by
  refine eulerOf_flat (fun f hf => ?_)
  rw [Int.mul_comm]
  refine eulerOf_flat (fun g hg => ?_)
  have l1 := plc_length hp.rise (hp.whole f hf).1 (hp.has f hf)
  have l2 := plc_length hq.rise (hq.whole g hg).1 (hq.has g hg)
  have n1 := List.length_pos_iff.2 (hp.some_ f hf)
  have n2 := List.length_pos_iff.2 (hq.some_ g hg)
  rw [overs_sum _ _ _ (Nat.le_refl _), if_neg, sgn_len l1, sgn_len l2, Int.mul_comm]
  rintro (e | e)
  · rw [e] at l1; simp at l1; omega
  · rw [e] at l2; simp at l2; omega

/-- The vertices of a face that a row meets. -/
def metBy (V f : List Int) (s : List Nat) : List Int := f.filter (fun v => s.any (fun i => vAt V i == v))
theorem metBy_mem {V f : List Int} {s : List Nat} {v : Int} : v ∈ metBy V f s ↔ v ∈ f ∧ ∃ i ∈ s, vAt V i = v := by
  unfold metBy
  rw [List.mem_filter, List.any_eq_true]
  simp only [beq_iff_eq]
theorem met_plc {V f : List Int} (hV : Rising V) {s : List Nat} (h1 : ∀ i ∈ s, i < V.length) (h2 : ∀ i ∈ s, vAt V i ∈ f) (i : Nat) : i ∈ plc V (metBy V f s) ↔ i ∈ s := by
  rw [plc_mem, metBy_mem]
  constructor
  · rintro ⟨hi, _, j, hj, e⟩
    rwa [← vAt_inj hV (h1 j hj) hi e]
  · intro hi
    exact ⟨h1 i hi, h2 i hi, i, hi, rfl⟩

theorem rows_mem {p q : List (List Int)} {V W : List Int} (hp : Verts p V) (hq : Verts q W) (s : List (Nat × Nat)) : s ∈ rowsOf p q V W ↔ ProdRow V W p q s := by
  unfold rowsOf
  rw [List.mem_flatMap]
  constructor
  · rintro ⟨f, hf, h⟩
    obtain ⟨g, hg, h⟩ := List.mem_flatMap.1 h
    have hj := overs_just _ _ _ (plc_lt V f) (plc_lt W g) s h
    have h1 : ∀ c ∈ s, c.1 ∈ plc V f := fun c hc => (hj.2.2.1 _).2 ⟨c, hc, rfl⟩
    have h2 : ∀ c ∈ s, c.2 ∈ plc W g := fun c hc => (hj.2.2.2 _).2 ⟨c, hc, rfl⟩
    exact ⟨hj.2.1, hj.1, fun c hc => ⟨(plc_mem.1 (h1 c hc)).1, (plc_mem.1 (h2 c hc)).1⟩, ⟨f, hf, fun c hc => (plc_mem.1 (h1 c hc)).2⟩, g, hg, fun c hc => (plc_mem.1 (h2 c hc)).2⟩
  · intro h
    obtain ⟨f, hf, hfm⟩ := h.first
    obtain ⟨g, hg, hgm⟩ := h.second
    obtain ⟨c0, hc0⟩ := List.exists_mem_of_ne_nil _ h.ne
    have e1 : ∀ i, i ∈ plc V (metBy V f (s.map Prod.fst)) ↔ i ∈ s.map Prod.fst := met_plc hp.rise (fun i hi => by obtain ⟨c, hc, rfl⟩ := List.mem_map.1 hi; exact (h.within c hc).1) (fun i hi => by obtain ⟨c, hc, rfl⟩ := List.mem_map.1 hi; exact hfm c hc)
    have e2 : ∀ i, i ∈ plc W (metBy W g (s.map Prod.snd)) ↔ i ∈ s.map Prod.snd := met_plc hq.rise (fun i hi => by obtain ⟨c, hc, rfl⟩ := List.mem_map.1 hi; exact (h.within c hc).2) (fun i hi => by obtain ⟨c, hc, rfl⟩ := List.mem_map.1 hi; exact hgm c hc)
    refine ⟨metBy V f (s.map Prod.fst), (hp.whole f hf).2 _ List.filter_sublist (fun e => ?_), List.mem_flatMap.2 ⟨metBy W g (s.map Prod.snd), (hq.whole g hg).2 _ List.filter_sublist (fun e => ?_), ?_⟩⟩
    · have : vAt V c0.1 ∈ metBy V f (s.map Prod.fst) := metBy_mem.2 ⟨hfm c0 hc0, c0.1, List.mem_map.2 ⟨c0, hc0, rfl⟩, rfl⟩
      rw [e] at this; cases this
    · have : vAt W c0.2 ∈ metBy W g (s.map Prod.snd) := metBy_mem.2 ⟨hgm c0 hc0, c0.2, List.mem_map.2 ⟨c0, hc0, rfl⟩, rfl⟩
      rw [e] at this; cases this
    · refine just_overs _ _ _ (plc_lt _ _) (plc_lt _ _) (Nat.le_refl _) s ⟨h.climbs, h.ne, fun i => ?_, fun k => ?_⟩
      · rw [e1, List.mem_map]
      · rw [e2, List.mem_map]

theorem plc_one {p : List (List Int)} {V : List Int} (hp : Verts p V) {f f' : List Int} (hf : f ∈ p) (hf' : f' ∈ p) (h : ∀ i, i ∈ plc V f ↔ i ∈ plc V f') : f = f' := by
  rw [← plc_map hp.rise (hp.whole f hf).1 (hp.has f hf), ← plc_map hp.rise (hp.whole f' hf').1 (hp.has f' hf')]
  congr 1
  have key : ∀ {l m : List Nat}, l.Pairwise (· < ·) → m.Pairwise (· < ·) → (∀ x, x ∈ l ↔ x ∈ m) → l = m := fun hl hm h => told_by (fun a b h1 h2 => by omega) hl hm h
  exact key (plc_lt _ _) (plc_lt _ _) h
theorem rows_nodup {p q : List (List Int)} {V W : List Int} (hp : Verts p V) (hq : Verts q W) : (rowsOf p q V W).Nodup := by
  unfold rowsOf List.Nodup
  rw [List.pairwise_flatMap]
  refine ⟨fun f hf => ?_, ?_⟩
  · rw [List.pairwise_flatMap]
    refine ⟨fun g hg => overs_nodup _ _ _ (plc_lt _ _) (plc_lt _ _), hq.nodup.imp_of_mem ?_⟩
    rintro g g' hg hg' hne s hs s' hs' rfl
    have h1 := overs_just _ _ _ (plc_lt V f) (plc_lt W g) s hs
    have h2 := overs_just _ _ _ (plc_lt V f) (plc_lt W g') s hs'
    exact hne (plc_one hq hg hg' (fun i => by rw [h1.2.2.2, h2.2.2.2]))
  · refine hp.nodup.imp_of_mem ?_
    rintro f f' hf hf' hne s hs s' hs' rfl
    obtain ⟨g, hg, hs⟩ := List.mem_flatMap.1 hs
    obtain ⟨g', hg', hs'⟩ := List.mem_flatMap.1 hs'
    have h1 := overs_just _ _ _ (plc_lt V f) (plc_lt W g) s hs
    have h2 := overs_just _ _ _ (plc_lt V f') (plc_lt W g') s hs'
    exact hne (plc_one hp hf hf' (fun i => by rw [h1.2.2.1, h2.2.2.1]))

theorem map_code {n : Nat} : ∀ {s t : List (Nat × Nat)}, (∀ c ∈ s, c.2 < n) → (∀ c ∈ t, c.2 < n) → s.map (code n) = t.map (code n) → s = t
  | [], [], _, _, _ => rfl
  | [], _ :: _, _, _, h => by simp at h
  | _ :: _, [], _, _, h => by simp at h
  | c :: s, d :: t, hs, ht, h => by
    rw [List.map_cons, List.map_cons, List.cons.injEq] at h
    rw [code_inj (hs c (by simp)) (ht d (by simp)) h.1, map_code (fun c hc => hs c (by simp [hc])) (fun c hc => ht c (by simp [hc])) h.2]
/-- The product's number is the product of both. -/
theorem grow_sum {p q : List (List Int)} {V W : List Int} (hp : Verts p V) (hq : Verts q W) : eulerOf (growAll p q V W) = eulerOf p * eulerOf q := by
  rw [← rows_sum hp hq, ← eulerOf_map (f := fun s => s.map (code W.length)) (l := rowsOf p q V W) (fun s _ => List.length_map _)]
  refine eulerOf_perm ((List.perm_ext_iff_of_nodup (growAll_nodup hp.whole hq.whole) ?_).2 (fun y => ?_))
  · unfold List.Nodup
    rw [List.pairwise_map]
    refine (rows_nodup hp hq).imp_of_mem ?_
    intro s t hs ht hne e
    exact hne (map_code (fun c hc => (((rows_mem hp hq s).1 hs).within c hc).2) (fun c hc => (((rows_mem hp hq t).1 ht).within c hc).2) e)
  · rw [mem_growAll hp.whole hq.whole, List.mem_map]
    constructor
    · rintro ⟨s, h1, rfl⟩; exact ⟨s, (rows_mem hp hq s).2 h1, rfl⟩
    · rintro ⟨s, h1, rfl⟩; exact ⟨s, (rows_mem hp hq s).1 h1, rfl⟩

end Go.Proofs.YtkmecdgnoemimaaDoor
