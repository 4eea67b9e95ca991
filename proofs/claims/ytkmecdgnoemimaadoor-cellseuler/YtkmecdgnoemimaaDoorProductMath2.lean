/- Products: which rows of pairs are faces, and how they are grown pair by pair. -/
import Derived.Test.YtkmecdgnoemimaaDoorProductMath
namespace Go.Proofs.YtkmecdgnoemimaaDoor

/-- A vertex more. -/
def insR (v : Int) : List Int → List Int
  | [] => [v]
  | a :: l => if v < a then v :: a :: l else if v = a then a :: l else a :: insR v l
theorem insR_mem (v : Int) : ∀ (l : List Int) (z : Int), z ∈ insR v l ↔ z ∈ l ∨ z = v
  | [], z => by simp [insR]
  | a :: l, z => by
    simp only [insR]
    split
    · rw [List.mem_cons, or_comm]
    · split
      · rename_i h; subst h; simp; intro e; exact .inl e
      · simp only [List.mem_cons, insR_mem v l z, or_assoc]
theorem insR_rising {v : Int} : ∀ {l : List Int}, Rising l → Rising (insR v l)
  | [], _ => List.pairwise_singleton _ _
  | a :: l, h => by
    have h' := List.pairwise_cons.1 h
    simp only [insR]
    split
    · rename_i hv
      refine List.pairwise_cons.2 ⟨fun z hz => ?_, h⟩
      rcases List.mem_cons.1 hz with rfl | hz
      · exact hv
      · exact Int.lt_trans hv (h'.1 z hz)
    · split
      · exact h
      · rename_i h1 h2
        refine List.pairwise_cons.2 ⟨fun z hz => ?_, insR_rising h'.2⟩
        rcases (insR_mem v l z).1 hz with hz | rfl
        · exact h'.1 z hz
        · omega
theorem insR_ne (v : Int) (l : List Int) : insR v l ≠ [] := fun e => by
  have := (insR_mem v l v).2 (.inr rfl)
  rw [e] at this; cases this

/-- What stands at a place. -/
def vAt (V : List Int) (i : Nat) : Int := V[i]?.getD 0
theorem vAt_mem {V : List Int} {i : Nat} (h : i < V.length) : vAt V i ∈ V := by
  unfold vAt; rw [List.getElem?_eq_getElem h]; simp
theorem vAt_lt {V : List Int} (hV : Rising V) {i j : Nat} (hij : i < j) (hj : j < V.length) : vAt V i < vAt V j := by
  unfold vAt
  rw [List.getElem?_eq_getElem hj, List.getElem?_eq_getElem (Nat.lt_trans hij hj)]
  exact List.pairwise_iff_getElem.1 hV i j _ hj hij
theorem vAt_inj {V : List Int} (hV : Rising V) {i j : Nat} (hi : i < V.length) (hj : j < V.length) (h : vAt V i = vAt V j) : i = j := by
  rcases Nat.lt_trichotomy i j with e | e | e
  · have := vAt_lt hV e hj; omega
  · exact e
  · have := vAt_lt hV e hi; omega

/-- All faces, each part of one with it. -/
def WholeL (p : List (List Int)) : Prop := ∀ f ∈ p, Rising f ∧ ∀ y, y.Sublist f → y ≠ [] → y ∈ p
theorem WholeL.sub {p : List (List Int)} (h : WholeL p) {f y : List Int} (hf : f ∈ p) (hy : Rising y) (hn : y ≠ []) (hm : ∀ z ∈ y, z ∈ f) : y ∈ p :=
  (h f hf).2 y (rising_sub hy (h f hf).1 hm) hn

/-- A row over a face of each. -/
structure ProdRow (V W : List Int) (p q : List (List Int)) (s : List (Nat × Nat)) : Prop where
  ne : s ≠ []
  climbs : Climbs s
  within : ∀ c ∈ s, c.1 < V.length ∧ c.2 < W.length
  first : ∃ f ∈ p, ∀ c ∈ s, vAt V c.1 ∈ f
  second : ∃ g ∈ q, ∀ c ∈ s, vAt W c.2 ∈ g
theorem ProdRow.sub {V W : List Int} {p q : List (List Int)} {s t : List (Nat × Nat)} (h : ProdRow V W p q t) (hs : s.Sublist t) (hn : s ≠ []) : ProdRow V W p q s where
  ne := hn
  climbs := h.climbs.sublist hs
  within := fun c hc => h.within c (hs.subset hc)
  first := by obtain ⟨f, hf, h1⟩ := h.first; exact ⟨f, hf, fun c hc => h1 c (hs.subset hc)⟩
  second := by obtain ⟨f, hf, h1⟩ := h.second; exact ⟨f, hf, fun c hc => h1 c (hs.subset hc)⟩
/-- A product's face. -/
def ProdFace (V W : List Int) (p q : List (List Int)) (y : List Int) : Prop := ∃ s, ProdRow V W p q s ∧ y = s.map (code W.length)
theorem ProdFace.sub {V W : List Int} {p q : List (List Int)} {x y : List Int} (h : ProdFace V W p q y) (hs : x.Sublist y) (hn : x ≠ []) : ProdFace V W p q x := by
  obtain ⟨s, h1, rfl⟩ := h
  obtain ⟨t, ht, rfl⟩ := List.sublist_map_iff.1 hs
  exact ⟨t, h1.sub ht (fun e => hn (by rw [e]; rfl)), rfl⟩
theorem ProdFace.rising {V W : List Int} {p q : List (List Int)} {y : List Int} (h : ProdFace V W p q y) : Rising y := by
  obtain ⟨s, h1, rfl⟩ := h
  unfold Rising
  rw [List.pairwise_map]
  refine h1.climbs.imp_of_mem (fun ha _ hab => code_lt ?_ hab)
  have := (h1.within _ ha).2; omega
theorem ProdFace.ok {V W : List Int} {p q : List (List Int)} {y : List Int} (h : ProdFace V W p q y) (hm : V.length * W.length ≤ 100) : SetOk y := by
  refine ⟨?_, rising_nodup h.rising, ?_⟩
  · obtain ⟨s, h1, rfl⟩ := h
    simp [h1.ne]
  · obtain ⟨s, h1, rfl⟩ := h
    intro v hv
    obtain ⟨c, hc, rfl⟩ := List.mem_map.1 hv
    have h2 := h1.within c hc
    have h3 : (c.1 + 1) * W.length ≤ V.length * W.length := Nat.mul_le_mul_right _ h2.1
    rw [Nat.succ_mul] at h3
    unfold code
    omega

/-- All pairs from one on, row by row. -/
def pairsFrom (m n x y : Nat) : List (Nat × Nat) := (List.range' x (m - x)).flatMap (fun i => (List.range' y (n - y)).map (fun k => (i, k)))
theorem mem_pairs {m n x y : Nat} {c : Nat × Nat} : c ∈ pairsFrom m n x y ↔ (x ≤ c.1 ∧ c.1 < m) ∧ (y ≤ c.2 ∧ c.2 < n) := by
  unfold pairsFrom
  rw [List.mem_flatMap]
  constructor
  · rintro ⟨i, hi, h⟩
    obtain ⟨k, hk, rfl⟩ := List.mem_map.1 h
    rw [List.mem_range'_1] at hi hk
    exact ⟨⟨hi.1, by have := hi.2; omega⟩, hk.1, by have := hk.2; omega⟩
  · rintro ⟨h1, h2⟩
    refine ⟨c.1, List.mem_range'_1.2 ⟨h1.1, by omega⟩, List.mem_map.2 ⟨c.2, List.mem_range'_1.2 ⟨h2.1, by omega⟩, rfl⟩⟩
theorem pairs_nodup (m n x y : Nat) : (pairsFrom m n x y).Nodup := by
  unfold pairsFrom List.Nodup
  rw [List.pairwise_flatMap]
  refine ⟨fun i _ => ?_, ?_⟩
  · rw [List.pairwise_map]
    exact (List.nodup_range' (step := 1)).imp (fun h e => h (by cases e; rfl))
  · refine (List.nodup_range' (step := 1)).imp (fun h a ha b hb e => ?_)
    obtain ⟨_, _, rfl⟩ := List.mem_map.1 ha
    obtain ⟨_, _, rfl⟩ := List.mem_map.1 hb
    cases e; exact h rfl

/-- All sets that are grown from one on. -/
def growL (p q : List (List Int)) (V W : List Int) : Nat → List Int → Nat → Nat → List Int → List Int → List (List Int)
  | 0, _, _, _, _, _ => []
  | n + 1, set, x, y, f, g =>
    (if set = [] then [] else [set]) ++ (pairsFrom V.length W.length x y).flatMap (fun c =>
      if set ≠ [] ∧ c = (x, y) then [] else
      if insR (vAt V c.1) f ∈ p ∧ insR (vAt W c.2) g ∈ q then growL p q V W n (set ++ [code W.length c]) c.1 c.2 (insR (vAt V c.1) f) (insR (vAt W c.2) g) else [])

/-- Where growing stands. -/
structure GrowAt (V W : List Int) (p q : List (List Int)) (n : Nat) (s : List (Nat × Nat)) (x y : Nat) (f g : List Int) : Prop where
  climbs : Climbs s
  within : ∀ c ∈ s, c.1 < V.length ∧ c.2 < W.length
  last : (s = [] ∧ x = 0 ∧ y = 0) ∨ ∃ s', s = s' ++ [(x, y)]
  frise : Rising f
  grise : Rising g
  fmem : ∀ z, z ∈ f ↔ ∃ c ∈ s, z = vAt V c.1
  gmem : ∀ z, z ∈ g ↔ ∃ c ∈ s, z = vAt W c.2
  inp : s ≠ [] → f ∈ p ∧ g ∈ q
  fuel : (V.length - x) + (W.length - y) + (if s = [] then 1 else 0) < n

theorem GrowAt.step {V W : List Int} {p q : List (List Int)} {n : Nat} {s : List (Nat × Nat)} {x y : Nat} {f g : List Int} (h : GrowAt V W p q (n + 1) s x y f g) {c : Nat × Nat} (hc : c ∈ pairsFrom V.length W.length x y) (hne : ¬ (s ≠ [] ∧ c = (x, y)))
    (hin : insR (vAt V c.1) f ∈ p ∧ insR (vAt W c.2) g ∈ q) : GrowAt V W p q n (s ++ [c]) c.1 c.2 (insR (vAt V c.1) f) (insR (vAt W c.2) g) := by
  have hc' := mem_pairs.1 hc
  refine ⟨?_, ?_, .inr ⟨s, rfl⟩, insR_rising h.frise, insR_rising h.grise, ?_, ?_, fun _ => hin, ?_⟩
  · refine List.pairwise_append.2 ⟨h.climbs, List.pairwise_singleton _ _, fun d hd b hb => ?_⟩
    obtain rfl : b = c := by simpa using hb
    rcases h.last with ⟨rfl, _⟩ | ⟨s', rfl⟩
    · cases hd
    · have hlt : pairLt (x, y) b := ⟨hc'.1.1, hc'.2.1, fun e => hne ⟨by simp, e.symm⟩⟩
      rcases List.mem_append.1 hd with hd | hd
      · exact pairLt_trans ((List.pairwise_append.1 h.climbs).2.2 d hd (x, y) (by simp)) hlt
      · obtain rfl : d = (x, y) := by simpa using hd
        exact hlt
  · intro d hd
    rcases List.mem_append.1 hd with hd | hd
    · exact h.within d hd
    · obtain rfl : d = c := by simpa using hd
      exact ⟨hc'.1.2, hc'.2.2⟩
  · intro z
    rw [insR_mem, h.fmem]
    constructor
    · rintro (⟨d, hd, e⟩ | e)
      · exact ⟨d, by simp [hd], e⟩
      · exact ⟨c, by simp, e⟩
    · rintro ⟨d, hd, e⟩
      rcases List.mem_append.1 hd with hd | hd
      · exact .inl ⟨d, hd, e⟩
      · obtain rfl : d = c := by simpa using hd
        exact .inr e
  · intro z
    rw [insR_mem, h.gmem]
    constructor
    · rintro (⟨d, hd, e⟩ | e)
      · exact ⟨d, by simp [hd], e⟩
      · exact ⟨c, by simp, e⟩
    · rintro ⟨d, hd, e⟩
      rcases List.mem_append.1 hd with hd | hd
      · exact .inl ⟨d, hd, e⟩
      · obtain rfl : d = c := by simpa using hd
        exact .inr e
  · have hf := h.fuel
    rw [if_neg (by simp)]
    by_cases hs : s = []
    · rw [if_pos hs] at hf; omega
    · rw [if_neg hs] at hf
      have : c ≠ (x, y) := fun e => hne ⟨hs, e⟩
      have : c.1 ≠ x ∨ c.2 ≠ y := by
        rcases Classical.em (c.1 = x) with e | e
        · exact .inr (fun e' => this (Prod.ext e e'))
        · exact .inl e
      omega

theorem GrowAt.next {V W : List Int} {p q : List (List Int)} {n : Nat} {s t : List (Nat × Nat)} {x y : Nat} {f g : List Int} (h : GrowAt V W p q n s x y f g) (hp : WholeL p) (hq : WholeL q) {c : Nat × Nat} (hr : ProdRow V W p q (s ++ c :: t)) :
    c ∈ pairsFrom V.length W.length x y ∧ ¬ (s ≠ [] ∧ c = (x, y)) ∧ insR (vAt V c.1) f ∈ p ∧ insR (vAt W c.2) g ∈ q := by
  have hw := hr.within c (by simp)
  have hpl := List.pairwise_append.1 hr.climbs
  refine ⟨mem_pairs.2 ?_, ?_, ?_, ?_⟩
  · rcases h.last with ⟨_, rfl, rfl⟩ | ⟨s', rfl⟩
    · exact ⟨⟨Nat.zero_le _, hw.1⟩, Nat.zero_le _, hw.2⟩
    · have := hpl.2.2 (x, y) (by simp) c (by simp)
      exact ⟨⟨this.1, hw.1⟩, this.2.1, hw.2⟩
  · rintro ⟨hs, rfl⟩
    rcases h.last with ⟨e, _⟩ | ⟨s', rfl⟩
    · exact hs e
    · exact (hpl.2.2 (x, y) (by simp) (x, y) (by simp)).2.2 rfl
  · obtain ⟨f', hf', hm⟩ := hr.first
    refine hp.sub hf' (insR_rising h.frise) (insR_ne _ _) (fun z hz => ?_)
    rcases (insR_mem _ _ _).1 hz with hz | rfl
    · obtain ⟨d, hd, rfl⟩ := (h.fmem z).1 hz
      exact hm d (by simp [hd])
    · exact hm c (by simp)
  · obtain ⟨f', hf', hm⟩ := hr.second
    refine hq.sub hf' (insR_rising h.grise) (insR_ne _ _) (fun z hz => ?_)
    rcases (insR_mem _ _ _).1 hz with hz | rfl
    · obtain ⟨d, hd, rfl⟩ := (h.gmem z).1 hz
      exact hm d (by simp [hd])
    · exact hm c (by simp)

theorem code_set {s : List (Nat × Nat)} {n : Nat} : s.map (code n) = [] ↔ s = [] := by simp
theorem grow_mem {V W : List Int} {p q : List (List Int)} (hp : WholeL p) (hq : WholeL q) : ∀ (n : Nat) (s : List (Nat × Nat)) (x y : Nat) (f g : List Int), GrowAt V W p q n s x y f g →
    ∀ z, z ∈ growL p q V W n (s.map (code W.length)) x y f g ↔ ∃ t, ProdRow V W p q (s ++ t) ∧ z = (s ++ t).map (code W.length)
  | 0, s, x, y, f, g, h, z => by have := h.fuel; omega
  | n + 1, s, x, y, f, g, h, z => by
    simp only [growL]
    rw [List.mem_append, List.mem_flatMap]
    constructor
    · rintro (h1 | ⟨c, hc, h1⟩)
      · by_cases hs : s = []
        · rw [if_pos (code_set.2 hs)] at h1; cases h1
        · rw [if_neg (fun e => hs (code_set.1 e))] at h1
          have hi := h.inp hs
          refine ⟨[], ?_, by simpa using h1⟩
          rw [List.append_nil]
          exact ⟨hs, h.climbs, h.within, ⟨f, hi.1, fun c hc => (h.fmem _).2 ⟨c, hc, rfl⟩⟩, g, hi.2, fun c hc => (h.gmem _).2 ⟨c, hc, rfl⟩⟩
      · split at h1
        · cases h1
        · rename_i hne
          split at h1
          · rename_i hin
            have hne' : ¬ (s ≠ [] ∧ c = (x, y)) := fun e => hne ⟨fun e' => e.1 (code_set.1 e'), e.2⟩
            have hst := h.step hc hne' hin
            have ih := (grow_mem hp hq n _ _ _ _ _ hst z).1 (by rw [List.map_append]; exact h1)
            obtain ⟨t, h2, h3⟩ := ih
            rw [List.append_assoc] at h2 h3
            exact ⟨c :: t, h2, h3⟩
          · cases h1
    · rintro ⟨t, hr, rfl⟩
      cases t with
      | nil =>
        rw [List.append_nil] at hr ⊢
        exact .inl (by rw [if_neg (fun e => hr.ne (code_set.1 e))]; simp)
      | cons c t =>
        obtain ⟨hc, hne, hin⟩ := h.next hp hq hr
        refine .inr ⟨c, hc, ?_⟩
        rw [if_neg (fun e => hne ⟨fun e' => e.1 (code_set.2 e'), e.2⟩), if_pos hin]
        have hst := h.step hc hne hin
        have ih := (grow_mem hp hq n _ _ _ _ _ hst ((s ++ c :: t).map (code W.length))).2 ⟨t, by rw [List.append_assoc]; exact hr, by rw [List.append_assoc]; rfl⟩
        rwa [List.map_append] at ih

theorem grow_nodup {V W : List Int} {p q : List (List Int)} (hp : WholeL p) (hq : WholeL q) : ∀ (n : Nat) (s : List (Nat × Nat)) (x y : Nat) (f g : List Int), GrowAt V W p q n s x y f g →
    (growL p q V W n (s.map (code W.length)) x y f g).Nodup
  | 0, s, x, y, f, g, h => by have := h.fuel; omega
  | n + 1, s, x, y, f, g, h => by
    have key : ∀ c ∈ pairsFrom V.length W.length x y, ∀ z, z ∈ (if s.map (code W.length) ≠ [] ∧ c = (x, y) then [] else
      if insR (vAt V c.1) f ∈ p ∧ insR (vAt W c.2) g ∈ q then growL p q V W n (s.map (code W.length) ++ [code W.length c]) c.1 c.2 (insR (vAt V c.1) f) (insR (vAt W c.2) g) else []) → ∃ t, z = (s ++ c :: t).map (code W.length) := by
      intro c hc z h1
      split at h1
      · cases h1
      · rename_i hne
        split at h1
        · rename_i hin
          have hst := h.step hc (fun e => hne ⟨fun e' => e.1 (code_set.1 e'), e.2⟩) hin
          obtain ⟨t, h2, h3⟩ := (grow_mem hp hq n _ _ _ _ _ hst z).1 (by rw [List.map_append]; exact h1)
          rw [List.append_assoc] at h3
          exact ⟨t, h3⟩
        · cases h1
    simp only [growL]
    unfold List.Nodup
    rw [List.pairwise_append]
    refine ⟨?_, ?_, ?_⟩
    · split
      · exact List.Pairwise.nil
      · exact List.pairwise_singleton _ _
    · rw [List.pairwise_flatMap]
      refine ⟨fun c hc => ?_, ?_⟩
      · split
        · exact List.Pairwise.nil
        · rename_i hne
          split
          · rename_i hin
            have hst := h.step hc (fun e => hne ⟨fun e' => e.1 (code_set.1 e'), e.2⟩) hin
            have := grow_nodup hp hq n _ _ _ _ _ hst
            rwa [List.map_append] at this
          · exact List.Pairwise.nil
      · refine (pairs_nodup _ _ _ _).imp_of_mem ?_
        intro c d hc hd hcd z1 hz1 z2 hz2 e
        obtain ⟨t1, e1⟩ := key c hc z1 hz1
        obtain ⟨t2, e2⟩ := key d hd z2 hz2
        rw [e1, e2, List.map_append, List.map_append, List.append_cancel_left_eq, List.map_cons, List.map_cons, List.cons.injEq] at e
        have h1 := mem_pairs.1 hc
        have h2 := mem_pairs.1 hd
        exact hcd (code_inj h1.2.2 h2.2.2 e.1)
    · intro a ha z hz e
      split at ha
      · cases ha
      · obtain rfl : a = s.map (code W.length) := by simpa using ha
        obtain ⟨c, hc, hz⟩ := List.mem_flatMap.1 hz
        obtain ⟨t, rfl⟩ := key c hc z hz
        have := congrArg List.length e
        simp at this

/-- All of them. -/
def growAll (p q : List (List Int)) (V W : List Int) : List (List Int) := growL p q V W (V.length + W.length + 2) [] 0 0 [] []
theorem grow_start (V W : List Int) (p q : List (List Int)) : GrowAt V W p q (V.length + W.length + 2) [] 0 0 [] [] where
  climbs := List.Pairwise.nil
  within := fun _ h => by cases h
  last := .inl ⟨rfl, rfl, rfl⟩
  frise := List.Pairwise.nil
  grise := List.Pairwise.nil
  fmem := by simp
  gmem := by simp
  inp := fun h => absurd rfl h
  fuel := by simp
theorem mem_growAll {V W : List Int} {p q : List (List Int)} (hp : WholeL p) (hq : WholeL q) (y : List Int) : y ∈ growAll p q V W ↔ ProdFace V W p q y := by
  have := grow_mem hp hq _ _ _ _ _ _ (grow_start V W p q) y
  simp only [List.map_nil, List.nil_append] at this
  exact this
theorem growAll_nodup {V W : List Int} {p q : List (List Int)} (hp : WholeL p) (hq : WholeL q) : (growAll p q V W).Nodup := by
  have := grow_nodup hp hq _ _ _ _ _ _ (grow_start V W p q)
  simp only [List.map_nil] at this
  exact this
theorem growAll_faces {V W : List Int} {p q : List (List Int)} (hp : WholeL p) (hq : WholeL q) (y : List Int) : FaceOf (growAll p q V W) y ↔ ProdFace V W p q y := by
  constructor
  · rintro ⟨h1, t, ht, hs⟩
    exact ((mem_growAll hp hq t).1 ht).sub hs h1
  · intro h
    refine ⟨?_, y, (mem_growAll hp hq y).2 h, List.Sublist.refl _⟩
    obtain ⟨s, h1, rfl⟩ := h
    simp [h1.ne]

/-- Facets told by places. -/
def PlacedL (V : List Int) (F : List (List Int)) (fs : List (List Nat)) : Prop :=
  (∀ x ∈ fs, x.Pairwise (· < ·) ∧ x ≠ [] ∧ x.length ≤ 7 ∧ (∀ i ∈ x, i < V.length) ∧ x.map (vAt V) ∈ F) ∧ ∀ f ∈ F, ∃ x ∈ fs, x.map (vAt V) = f
theorem placed_in {V : List Int} (hV : Rising V) {x : List Nat} (hx : ∀ i ∈ x, i < V.length) {i : Nat} (hi : i < V.length) (h : vAt V i ∈ x.map (vAt V)) : i ∈ x := by
  obtain ⟨j, hj, e⟩ := List.mem_map.1 h
  rwa [← vAt_inj hV (hx j hj) hi e]
/-- The stairs of all pairs of facets tell the product's faces. -/
theorem stairs_faces {V W : List Int} {p q F G : List (List Int)} {fs gs : List (List Nat)} (hV : Rising V) (hW : Rising W) (hf : PlacedL V F fs) (hg : PlacedL W G gs) (hF : ∀ x ∈ F, x ∈ p) (hG : ∀ x ∈ G, x ∈ q)
    (hpf : ∀ x ∈ p, ∃ t ∈ F, x.Sublist t) (hqg : ∀ x ∈ q, ∃ t ∈ G, x.Sublist t) (y : List Int) :
    FaceOf (fs.flatMap (fun f => gs.flatMap (fun g => (stairs 20 f g).map (fun t => t.map (code W.length))))) y ↔ ProdFace V W p q y := by
  constructor
  · rintro ⟨h1, t, ht, hs⟩
    obtain ⟨f, hf', ht⟩ := List.mem_flatMap.1 ht
    obtain ⟨g, hg', ht⟩ := List.mem_flatMap.1 ht
    obtain ⟨t', ht', rfl⟩ := List.mem_map.1 ht
    obtain ⟨s, hs', rfl⟩ := List.sublist_map_iff.1 hs
    have h2 := hf.1 f hf'
    have h3 := hg.1 g hg'
    have h4 := stairs_are 20 f g h2.1 h3.1 t' ht'
    refine ⟨s, ⟨fun e => h1 (by rw [e]; rfl), h4.1.sublist hs', fun c hc => ?_, ⟨_, hF _ h2.2.2.2.2, fun c hc => ?_⟩, ⟨_, hG _ h3.2.2.2.2, fun c hc => ?_⟩⟩, rfl⟩
    · have := h4.2 c (hs'.subset hc)
      exact ⟨h2.2.2.2.1 _ this.1, h3.2.2.2.1 _ this.2⟩
    · exact List.mem_map.2 ⟨_, (h4.2 c (hs'.subset hc)).1, rfl⟩
    · exact List.mem_map.2 ⟨_, (h4.2 c (hs'.subset hc)).2, rfl⟩
  · rintro ⟨s, h, rfl⟩
    obtain ⟨f, hf0, hfm⟩ := h.first
    obtain ⟨g, hg0, hgm⟩ := h.second
    obtain ⟨f', hf1, hfs⟩ := hpf f hf0
    obtain ⟨g', hg1, hgs⟩ := hqg g hg0
    obtain ⟨a, ha, rfl⟩ := hf.2 f' hf1
    obtain ⟨b, hb, rfl⟩ := hg.2 g' hg1
    have h2 := hf.1 a ha
    have h3 := hg.1 b hb
    obtain ⟨t, ht, hst⟩ := climbs_stairs 20 a b h2.1 h3.1 h2.2.1 h3.2.1 (by have := h2.2.2.1; have := h3.2.2.1; omega) s h.climbs (fun c hc => ⟨placed_in hV h2.2.2.2.1 (h.within c hc).1 (hfs.subset (hfm c hc)), placed_in hW h3.2.2.2.1 (h.within c hc).2 (hgs.subset (hgm c hc))⟩)
    refine ⟨by simp [h.ne], t.map (code W.length), ?_, hst.map _⟩
    exact List.mem_flatMap.2 ⟨a, ha, List.mem_flatMap.2 ⟨b, hb, List.mem_map.2 ⟨t, ht, rfl⟩⟩⟩

end Go.Proofs.YtkmecdgnoemimaaDoor
