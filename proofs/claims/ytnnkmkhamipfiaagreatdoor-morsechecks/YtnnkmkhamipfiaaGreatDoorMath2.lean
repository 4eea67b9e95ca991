/- Plain facts on faces: a face's parts, all faces of sets, sorted lists, numbers whose bits pick a part; no program is spoken of. Plain facts on rising lists and their order: lists that are told by what they hold, parts picked by bits, texts and numbers. Plain facts: the faces of sets told as texts and as lists of numbers are the same ones, and so are the facets. -/
namespace Go.Proofs.YtnnkmkhamipfiaaGreatDoor

/-- The parts of a face: without its vertex 0, 1, ..; none of a single vertex. -/
def partsOf (x : List UInt8) : List (List UInt8) := if x.length = 1 then [] else (List.range x.length).map x.eraseIdx

theorem sub_part {α : Type} {x y : List α} (h : y.Sublist x) (hl : y.length < x.length) : ∃ i, i < x.length ∧ y.Sublist (x.eraseIdx i) := by
  induction h with
  | slnil => simp at hl
  | cons a h ih => exact ⟨0, by simp, by simpa using h⟩
  | cons_cons a h ih =>
    obtain ⟨i, hi, hs⟩ := ih (by simpa using hl)
    exact ⟨i + 1, by simpa using hi, by simpa using hs⟩

theorem erase_sub {α : Type} (x : List α) (i : Nat) : (x.eraseIdx i).Sublist x := List.eraseIdx_sublist x i

theorem parts_mem {x y : List UInt8} (h : y ∈ partsOf x) : x.length ≠ 1 ∧ ∃ i, i < x.length ∧ y = x.eraseIdx i := by
  unfold partsOf at h
  split at h
  · cases h
  · rename_i h1
    obtain ⟨i, hi, rfl⟩ := List.mem_map.1 h
    exact ⟨h1, i, List.mem_range.1 hi, rfl⟩

theorem parts_at {x : List UInt8} (h1 : x.length ≠ 1) {i : Nat} (hi : i < x.length) : x.eraseIdx i ∈ partsOf x := by
  unfold partsOf
  rw [if_neg h1]
  exact List.mem_map.2 ⟨i, List.mem_range.2 hi, rfl⟩

theorem part_short {x : List UInt8} {i : Nat} (hi : i < x.length) : (x.eraseIdx i).length + 1 = x.length := by
  rw [List.length_eraseIdx, if_pos hi]; omega

/-- A face whose parts all lie there, told as parts. -/
def Done (F : List (List UInt8)) (G : List UInt8 → Prop) (x : List UInt8) : Prop := ∀ y ∈ partsOf x, y ∈ F ∧ G y

theorem Done.mono {F F' : List (List UInt8)} {G G' : List UInt8 → Prop} {x : List UInt8} (h : Done F G x) (hF : ∀ y ∈ F, y ∈ F') (hG : ∀ y, G y → G' y) : Done F' G' x :=
  fun y hy => ⟨hF y (h y hy).1, hG y (h y hy).2⟩

theorem down {F : List (List UInt8)} {G : List UInt8 → Prop} {k : Nat} (h : ∀ x ∈ F, x.length ≤ k → Done F G x) :
    ∀ n (x : List UInt8), x.length ≤ n → x ∈ F → x.length ≤ k → ∀ y : List UInt8, y ≠ [] → y.Sublist x → y ∈ F ∧ (y.length < x.length → G y) := by
  intro n
  induction n with
  | zero =>
    intro x hx _ _ y hy hs
    have := hs.length_le
    exact absurd (List.length_eq_zero_iff.1 (by omega)) hy
  | succ n ih =>
    intro x hx hF hk y hy hs
    by_cases hl : y.length < x.length
    · obtain ⟨i, hi, hp⟩ := sub_part hs hl
      have hy0 : 0 < y.length := List.length_pos_iff.2 hy
      have hpm := parts_at (x := x) (by omega) hi
      obtain ⟨hpF, hpG⟩ := h x hF hk _ hpm
      have hps := part_short hi
      obtain ⟨a, b⟩ := ih _ (by omega) hpF (by omega) y hy hp
      refine ⟨a, fun _ => ?_⟩
      by_cases hl2 : y.length < (x.eraseIdx i).length
      · exact b hl2
      · have := hp.eq_of_length (by have := hp.length_le; omega)
        rw [this]; exact hpG
    · have := hs.eq_of_length (by have := hs.length_le; omega)
      subst this
      exact ⟨hF, fun h => absurd h hl⟩

/-- What lies on a pile, F, of it G as parts of greater ones: the state ahead of a face of k vertices. -/
structure Pile (k : Nat) (F : List (List UInt8)) (G : List UInt8 → Prop) : Prop where
  nodup : F.Nodup
  some_ : ∀ x ∈ F, x ≠ []
  short : ∀ x ∈ F, x.length ≤ 7
  few : F.length ≤ 600
  inn : ∀ x, G x → x ∈ F
  done : ∀ x ∈ F, x.length ≤ k → Done F G x

/-- What a face that was put has done to a pile. -/
structure Grew (f : List UInt8) (F : List (List UInt8)) (G : List UInt8 → Prop) (F' : List (List UInt8)) (G' : List UInt8 → Prop) : Prop where
  nodup : F'.Nodup
  few : F'.length ≤ 600
  old : ∀ x ∈ F, x ∈ F'
  oldG : ∀ x, G x → G' x
  inn : ∀ x, G' x → x ∈ F'
  new : ∀ x ∈ F', x ∈ F ∨ (x ≠ [] ∧ x.Sublist f ∧ x.length ≤ 7 ∧ Done F' G' x)
  newG : ∀ x, G' x → G x ∨ (x.Sublist f ∧ x.length < f.length)

/-- Too many faces, or one too great. -/
def OverB (f : List UInt8) (F : List (List UInt8)) : Prop :=
  7 < f.length ∨ ∃ X : List (List UInt8), X.Nodup ∧ 600 < X.length ∧ ∀ x ∈ X, x ∈ F ∨ (x ≠ [] ∧ x.Sublist f)

theorem Pile.grew {k : Nat} {f : List UInt8} {F F' : List (List UInt8)} {G G' : List UInt8 → Prop} (h : Pile k F G) (g : Grew f F G F' G') : Pile k F' G' where
  nodup := g.nodup
  some_ := fun x hx => (g.new x hx).elim (h.some_ x) (fun a => a.1)
  short := fun x hx => (g.new x hx).elim (h.short x) (fun a => a.2.2.1)
  few := g.few
  inn := g.inn
  done := fun x hx hk => (g.new x hx).elim (fun a => (h.done x a hk).mono g.old g.oldG) (fun a => a.2.2.2)

theorem Grew.refl {k : Nat} {f : List UInt8} {F : List (List UInt8)} {G : List UInt8 → Prop} (h : Pile k F G) : Grew f F G F G :=
  ⟨h.nodup, h.few, fun _ h => h, fun _ h => h, h.inn, fun _ h => .inl h, fun _ h => .inl h⟩

/-- The state while a face's parts are put: the first i of them are there. -/
structure Half (f : List UInt8) (F : List (List UInt8)) (G : List UInt8 → Prop) (i : Nat) (F' : List (List UInt8)) (G' : List UInt8 → Prop) : Prop where
  nodup : F'.Nodup
  few : F'.length ≤ 600
  old : ∀ x ∈ F, x ∈ F'
  self : f ∈ F'
  oldG : ∀ x, G x → G' x
  inn : ∀ x, G' x → x ∈ F'
  new : ∀ x ∈ F', x ∈ F ∨ x = f ∨ (x ≠ [] ∧ x.Sublist f ∧ x.length ≤ 7 ∧ Done F' G' x)
  newG : ∀ x, G' x → G x ∨ (x.Sublist f ∧ x.length < f.length)
  so : ∀ j, j < i → f.eraseIdx j ∈ F' ∧ G' (f.eraseIdx j)

theorem half_start {f : List UInt8} {F : List (List UInt8)} {G : List UInt8 → Prop} (h : Pile f.length F G) (hf : f ∉ F) (hr : F.length < 600) : Half f F G 0 (F ++ [f]) G where
  nodup := by
    rw [List.nodup_append]
    exact ⟨h.nodup, by simp, fun a ha b hb e => by simp at hb; subst e; subst hb; exact hf ha⟩
  few := by simp; omega
  old := fun x hx => List.mem_append_left _ hx
  self := by simp
  oldG := fun _ h => h
  inn := fun x hx => List.mem_append_left _ (h.inn x hx)
  new := fun x hx => by
    rcases List.mem_append.1 hx with a | a
    · exact .inl a
    · exact .inr (.inl (by simpa using a))
  newG := fun _ h => .inl h
  so := fun j hj => absurd hj (Nat.not_lt_zero _)

/-- Ahead of a part: the pile is in order up to the part's vertices. -/
theorem half_pile {f : List UInt8} {F F' : List (List UInt8)} {G G' : List UInt8 → Prop} {i : Nat} (h : Pile f.length F G) (hf : f ≠ []) (h7 : f.length ≤ 7) (hh : Half f F G i F' G') (hi : i < f.length) : Pile (f.eraseIdx i).length F' G' where
  nodup := hh.nodup
  some_ := fun x hx => (hh.new x hx).elim (h.some_ x) (fun a => a.elim (fun e => e ▸ hf) (fun a => a.1))
  short := fun x hx => (hh.new x hx).elim (h.short x) (fun a => a.elim (fun e => e ▸ h7) (fun a => a.2.2.1))
  few := hh.few
  inn := hh.inn
  done := fun x hx hk => by
    have := part_short hi
    rcases hh.new x hx with a | a | a
    · exact (h.done x a (by omega)).mono hh.old hh.oldG
    · subst a; omega
    · exact a.2.2.2

/-- A part has been put, and told to be one. -/
theorem half_step {f : List UInt8} {F F' F'' : List (List UInt8)} {G G' G'' : List UInt8 → Prop} {i : Nat} (hh : Half f F G i F' G') (hi : i < f.length) (g : Grew (f.eraseIdx i) F' G' F'' G'') (hin : f.eraseIdx i ∈ F'') :
    Half f F G (i + 1) F'' (fun x => G'' x ∨ x = f.eraseIdx i) where
  nodup := g.nodup
  few := g.few
  old := fun x hx => g.old x (hh.old x hx)
  self := g.old _ hh.self
  oldG := fun x hx => .inl (g.oldG x (hh.oldG x hx))
  inn := fun x hx => hx.elim (g.inn x) (fun e => e ▸ hin)
  new := fun x hx => by
    have hs := erase_sub f i
    rcases g.new x hx with a | a
    · rcases hh.new x a with b | b | b
      · exact .inl b
      · exact .inr (.inl b)
      · exact .inr (.inr ⟨b.1, b.2.1, b.2.2.1, b.2.2.2.mono g.old (fun y hy => .inl (g.oldG y hy))⟩)
    · exact .inr (.inr ⟨a.1, a.2.1.trans hs, a.2.2.1, a.2.2.2.mono (fun _ h => h) (fun _ h => .inl h)⟩)
  newG := fun x hx => by
    have hs := erase_sub f i
    have hl := part_short hi
    rcases hx with a | a
    · rcases g.newG x a with b | b
      · exact hh.newG x b
      · exact .inr ⟨b.1.trans hs, by omega⟩
    · subst a; exact .inr ⟨hs, by omega⟩
  so := fun j hj => by
    by_cases e : j = i
    · subst e; exact ⟨hin, .inr rfl⟩
    · obtain ⟨a, b⟩ := hh.so j (by omega)
      exact ⟨g.old _ a, .inl (g.oldG _ b)⟩

/-- All parts are there: the face is put. -/
theorem half_end {f : List UInt8} {F F' : List (List UInt8)} {G G' : List UInt8 → Prop} (hf : f ≠ []) (h7 : f.length ≤ 7) (hh : Half f F G (partsOf f).length F' G') : Grew f F G F' G' where
  nodup := hh.nodup
  few := hh.few
  old := hh.old
  oldG := hh.oldG
  inn := hh.inn
  new := fun x hx => by
    rcases hh.new x hx with a | a | a
    · exact .inl a
    · subst a
      refine .inr ⟨hf, List.Sublist.refl _, h7, fun y hy => ?_⟩
      obtain ⟨h1, i, hi, rfl⟩ := parts_mem hy
      exact hh.so i (by unfold partsOf; rw [if_neg h1]; simpa using hi)
    · exact .inr a
  newG := hh.newG

theorem half_over {f : List UInt8} {F F' : List (List UInt8)} {G G' : List UInt8 → Prop} {i : Nat} (hf : f ≠ []) (h7 : f.length ≤ 7) (hh : Half f F G i F' G') (hi : i < f.length) (hlen : f.length ≠ 1) (ho : OverB (f.eraseIdx i) F') : OverB f F := by
  have hs := erase_sub f i
  have hl := part_short hi
  rcases ho with a | ⟨X, a, b, c⟩
  · omega
  · refine .inr ⟨X, a, b, fun x hx => ?_⟩
    rcases c x hx with d | d
    · rcases hh.new x d with e | e | e
      · exact .inl e
      · subst e; exact .inr ⟨hf, List.Sublist.refl _⟩
      · exact .inr ⟨e.1, e.2.1⟩
    · exact .inr ⟨d.1, d.2.trans hs⟩

theorem over_full {k : Nat} {f : List UInt8} {F : List (List UInt8)} {G : List UInt8 → Prop} (h : Pile k F G) (hf : f ≠ []) (hn : f ∉ F) (hfull : F.length = 600) : OverB f F := by
  refine .inr ⟨F ++ [f], ?_, by simp; omega, fun x hx => ?_⟩
  · rw [List.nodup_append]
    exact ⟨h.nodup, by simp, fun a ha b hb e => by simp at hb; subst e; subst hb; exact hn ha⟩
  · rcases List.mem_append.1 hx with a | a
    · exact .inl a
    · simp at a; subst a; exact .inr ⟨hf, List.Sublist.refl _⟩

/-- The sets ts are on the pile, and nothing else is. -/
structure Heaped (ts F : List (List UInt8)) (G : List UInt8 → Prop) : Prop where
  pile : ∀ k, Pile k F G
  all : ∀ t ∈ ts, t ∈ F
  from_ : ∀ x ∈ F, ∃ t ∈ ts, x.Sublist t
  fromG : ∀ x, G x → ∃ t ∈ ts, x.Sublist t ∧ x.length < t.length

theorem heaped_nil : Heaped [] [] (fun _ => False) :=
  ⟨fun _ => ⟨List.nodup_nil, fun _ h => (by cases h), fun _ h => (by cases h), by simp, fun _ h => h.elim, fun _ h => (by cases h)⟩, fun _ h => (by cases h), fun _ h => (by cases h), fun _ h => h.elim⟩

theorem Heaped.snoc {ts F F' : List (List UInt8)} {G G' : List UInt8 → Prop} {t : List UInt8} (h : Heaped ts F G) (g : Grew t F G F' G') (hin : t ∈ F') : Heaped (ts ++ [t]) F' G' where
  pile := fun k => (h.pile k).grew g
  all := fun u hu => by
    rcases List.mem_append.1 hu with a | a
    · exact g.old u (h.all u a)
    · simp at a; subst a; exact hin
  from_ := fun x hx => by
    rcases g.new x hx with a | a
    · obtain ⟨u, hu, hs⟩ := h.from_ x a
      exact ⟨u, List.mem_append_left _ hu, hs⟩
    · exact ⟨t, by simp, a.2.1⟩
  fromG := fun x hx => by
    rcases g.newG x hx with a | a
    · obtain ⟨u, hu, hs⟩ := h.fromG x a
      exact ⟨u, List.mem_append_left _ hu, hs⟩
    · exact ⟨t, by simp, a.1, a.2⟩

/-- The faces of sets. -/
def FaceOf {α : Type} (ts : List (List α)) (x : List α) : Prop := x ≠ [] ∧ ∃ t ∈ ts, x.Sublist t
def InnerOf {α : Type} (ts : List (List α)) (x : List α) : Prop := x ≠ [] ∧ ∃ t ∈ ts, x.Sublist t ∧ x.length < t.length
/-- Too many faces, or one too great. -/
def Over {α : Type} (ts : List (List α)) : Prop := (∃ t ∈ ts, 7 < t.length) ∨ ∃ X : List (List α), X.Nodup ∧ 600 < X.length ∧ ∀ x ∈ X, FaceOf ts x

theorem Heaped.mem {ts F : List (List UInt8)} {G : List UInt8 → Prop} (h : Heaped ts F G) (x : List UInt8) : x ∈ F ↔ FaceOf ts x := by
  constructor
  · intro hx
    exact ⟨(h.pile 0).some_ x hx, h.from_ x hx⟩
  · rintro ⟨hne, t, ht, hs⟩
    exact (down (h.pile t.length).done t.length t (Nat.le_refl _) (h.all t ht) (Nat.le_refl _) x hne hs).1

theorem Heaped.memG {ts F : List (List UInt8)} {G : List UInt8 → Prop} (h : Heaped ts F G) (x : List UInt8) : G x ↔ InnerOf ts x := by
  constructor
  · intro hx
    exact ⟨(h.pile 0).some_ x ((h.pile 0).inn x hx), h.fromG x hx⟩
  · rintro ⟨hne, t, ht, hs, hl⟩
    exact (down (h.pile t.length).done t.length t (Nat.le_refl _) (h.all t ht) (Nat.le_refl _) x hne hs).2 hl

theorem nodup_le {α : Type} [BEq α] [LawfulBEq α] : ∀ {X Y : List α}, X.Nodup → (∀ x ∈ X, x ∈ Y) → X.length ≤ Y.length
  | [], _, _, _ => by simp
  | a :: X, Y, hn, h => by
    have h1 : a ∈ Y := h a (by simp)
    have hn' := List.nodup_cons.1 hn
    have := nodup_le (X := X) (Y := Y.erase a) hn'.2 (fun x hx => (List.mem_erase_of_ne (fun e => by subst e; exact hn'.1 hx)).2 (h x (by simp [hx])))
    rw [List.length_erase_of_mem h1] at this
    have : 0 < Y.length := List.length_pos_of_mem h1
    simp; omega

theorem Heaped.notOver {ts F : List (List UInt8)} {G : List UInt8 → Prop} (h : Heaped ts F G) : ¬ Over ts := by
  rintro (⟨t, ht, hl⟩ | ⟨X, hn, hl, hx⟩)
  · have := (h.pile 0).short t (h.all t ht); omega
  · have := nodup_le hn (fun x hx' => (h.mem x).2 (hx x hx'))
    have := (h.pile 0).few
    omega

theorem Heaped.over {ts F : List (List UInt8)} {G : List UInt8 → Prop} {t : List UInt8} (h : Heaped ts F G) (ho : OverB t F) (us : List (List UInt8)) : Over (ts ++ t :: us) := by
  rcases ho with a | ⟨X, a, b, c⟩
  · exact .inl ⟨t, by simp, a⟩
  · refine .inr ⟨X, a, b, fun x hx => ?_⟩
    rcases c x hx with d | d
    · obtain ⟨e, u, hu, hs⟩ := (h.mem x).1 d
      exact ⟨e, u, List.mem_append_left _ hu, hs⟩
    · exact ⟨d.1, t, by simp, d.2⟩

end Go.Proofs.YtnnkmkhamipfiaaGreatDoor

namespace Go.Proofs.YtnnkmkhamipfiaaGreatDoor

/-- Does a list of numbers stand ahead of another one? -/
def ahead : List Int → List Int → Bool
  | _, [] => false
  | [], _ :: _ => true
  | a :: as, b :: bs => if a = b then ahead as bs else decide (a < b)

theorem ahead_irrefl : ∀ a, ahead a a = false
  | [] => rfl
  | a :: as => by simp [ahead, ahead_irrefl as]

theorem ahead_asymm : ∀ a b, ahead a b = true → ahead b a = false
  | _, [] => by intro h; cases ‹List Int› <;> simp [ahead] at h
  | [], _ :: _ => by intro _; simp [ahead]
  | a :: as, b :: bs => by
    intro h
    simp only [ahead] at h ⊢
    by_cases e : a = b
    · subst e; simp only [if_pos] at h ⊢; exact ahead_asymm as bs h
    · rw [if_neg e] at h; rw [if_neg (fun h => e h.symm)]; simp at h ⊢; omega

theorem ahead_trans : ∀ a b c, ahead a b = true → ahead b c = true → ahead a c = true
  | a, b, [] => by intro _ h; cases b <;> simp [ahead] at h
  | [], b, _ :: _ => by intro _ _; simp [ahead]
  | a :: as, [], _ :: _ => by intro h; simp [ahead] at h
  | a :: as, b :: bs, c :: cs => by
    intro h1 h2
    simp only [ahead] at h1 h2 ⊢
    by_cases e1 : a = b
    · subst e1
      by_cases e2 : a = c
      · subst e2; simp only [if_pos] at h1 h2 ⊢; exact ahead_trans as bs cs h1 h2
      · rw [if_neg e2] at h2 ⊢; exact h2
    · rw [if_neg e1] at h1
      by_cases e2 : b = c
      · subst e2; rw [if_neg e1]; exact h1
      · rw [if_neg e2] at h2; simp at h1 h2; rw [if_neg (by omega)]; simp; omega

theorem ahead_total : ∀ a b, a ≠ b → ahead a b = true ∨ ahead b a = true
  | [], [] => by intro h; exact absurd rfl h
  | [], _ :: _ => by intro _; simp [ahead]
  | _ :: _, [] => by intro _; simp [ahead]
  | a :: as, b :: bs => by
    intro h
    simp only [ahead]
    by_cases e : a = b
    · subst e; simp only [if_pos]; exact ahead_total as bs (fun e => h (by rw [e]))
    · rw [if_neg e, if_neg (fun h => e h.symm)]; simp; omega

/-- Lists in a strict order that hold the same are one. -/
theorem told_by {α : Type} {r : α → α → Prop} (ha : ∀ a b, r a b → ¬ r b a) : ∀ {l m : List α}, l.Pairwise r → m.Pairwise r → (∀ x, x ∈ l ↔ x ∈ m) → l = m
  | [], [], _, _, _ => rfl
  | [], b :: _, _, _, h => absurd ((h b).2 (by simp)) (by simp)
  | a :: _, [], _, _, h => absurd ((h a).1 (by simp)) (by simp)
  | a :: l, b :: m, hl, hm, h => by
    have hl' := List.pairwise_cons.1 hl
    have hm' := List.pairwise_cons.1 hm
    have e : a = b := by
      rcases List.mem_cons.1 ((h a).1 (by simp)) with e | e
      · exact e
      · rcases List.mem_cons.1 ((h b).2 (by simp)) with f | f
        · exact f.symm
        · exact absurd (hl'.1 b f) (ha _ _ (hm'.1 a e))
    subst e
    rw [told_by ha hl'.2 hm'.2 (fun x => ?_)]
    constructor
    · intro hx
      rcases List.mem_cons.1 ((h x).1 (by simp [hx])) with e | e
      · subst e; exact absurd (hl'.1 x hx) (fun h => ha _ _ h h)
      · exact e
    · intro hx
      rcases List.mem_cons.1 ((h x).2 (by simp [hx])) with e | e
      · subst e; exact absurd (hm'.1 x hx) (fun h => ha _ _ h h)
      · exact e

abbrev Order (l : List (List Int)) : Prop := l.Pairwise (fun a b => ahead a b = true)
abbrev Rising (l : List Int) : Prop := l.Pairwise (· < ·)

theorem order_told {l m : List (List Int)} (hl : Order l) (hm : Order m) (h : ∀ x, x ∈ l ↔ x ∈ m) : l = m :=
  told_by (fun a b h1 h2 => by rw [ahead_asymm a b h1] at h2; cases h2) hl hm h
theorem rising_told {l m : List Int} (hl : Rising l) (hm : Rising m) (h : ∀ x, x ∈ l ↔ x ∈ m) : l = m :=
  told_by (fun a b h1 h2 => by omega) hl hm h

theorem order_nodup {l : List (List Int)} (h : Order l) : l.Nodup :=
  h.imp (fun {a b} h e => by subst e; rw [ahead_irrefl] at h; cases h)
theorem rising_nodup {l : List Int} (h : Rising l) : l.Nodup := h.imp (fun h e => by omega)

/-- Of rising lists: a part is a list all of whose numbers are there. -/
theorem rising_sub : ∀ {f g : List Int}, Rising f → Rising g → (∀ x ∈ f, x ∈ g) → f.Sublist g
  | [], g, _, _, _ => List.nil_sublist g
  | a :: f, [], _, _, h => absurd (h a (by simp)) (by simp)
  | a :: f, b :: g, hf, hg, h => by
    have hf' := List.pairwise_cons.1 hf
    have hg' := List.pairwise_cons.1 hg
    by_cases e : a = b
    · subst e
      refine List.Sublist.cons_cons a (rising_sub hf'.2 hg'.2 (fun x hx => ?_))
      rcases List.mem_cons.1 (h x (by simp [hx])) with e | e
      · subst e; have := hf'.1 x hx; omega
      · exact e
    · have hab : b < a := by
        rcases List.mem_cons.1 (h a (by simp)) with f | f
        · exact absurd f e
        · exact hg'.1 a f
      refine List.Sublist.cons b (rising_sub hf hg'.2 (fun x hx => ?_))
      rcases List.mem_cons.1 (h x hx) with e' | e'
      · subst e'
        rcases List.mem_cons.1 hx with e2 | e2
        · exact absurd e2.symm e
        · have := hf'.1 x e2; omega
      · exact e'
  termination_by f g => f.length + g.length

/-- A part of a list, picked by a number's bits. -/
def pick {α : Type} : Nat → List α → List α
  | _, [] => []
  | b, a :: s => if b % 2 = 1 then a :: pick (b / 2) s else pick (b / 2) s

theorem pick_sub {α : Type} : ∀ (b : Nat) (s : List α), (pick b s).Sublist s
  | _, [] => by simp [pick]
  | b, a :: s => by
    unfold pick
    split
    · exact (pick_sub _ s).cons_cons a
    · exact (pick_sub _ s).cons a

theorem pick_zero {α : Type} : ∀ (s : List α), pick 0 s = []
  | [] => rfl
  | a :: s => by simp [pick, pick_zero s]

theorem pick_all {α : Type} {x s : List α} (h : x.Sublist s) : ∃ b, b < 2 ^ s.length ∧ pick b s = x := by
  induction h with
  | slnil => exact ⟨0, by simp, rfl⟩
  | @cons x s a h ih =>
    obtain ⟨b, hb, e⟩ := ih
    refine ⟨2 * b, by simp [Nat.pow_succ]; omega, ?_⟩
    unfold pick
    rw [if_neg (by omega), show 2 * b / 2 = b by omega]; exact e
  | @cons_cons x s a h ih =>
    obtain ⟨b, hb, e⟩ := ih
    refine ⟨2 * b + 1, by simp [Nat.pow_succ]; omega, ?_⟩
    unfold pick
    rw [if_pos (by omega), show (2 * b + 1) / 2 = b by omega, e]

theorem pick_ne {α : Type} : ∀ (b : Nat) (s : List α), 0 < b → b < 2 ^ s.length → pick b s ≠ []
  | b, [], h, h2 => by simp at h2; omega
  | b, a :: s, h, h2 => by
    unfold pick
    split
    · simp
    · exact pick_ne (b / 2) s (by omega) (by simp [Nat.pow_succ] at h2; omega)

theorem pick_take {α : Type} : ∀ (b k : Nat) (s : List α) (hk : k < s.length), pick b (s.take (k + 1)) = pick b (s.take k) ++ (if b / 2 ^ k % 2 = 1 then [s[k]] else [])
  | b, _, [], hk => by simp at hk
  | b, 0, a :: s, hk => by simp [pick]
  | b, k + 1, a :: s, hk => by
    have ih := pick_take (b / 2) k s (by simpa using hk)
    have e : b / 2 / 2 ^ k = b / 2 ^ (k + 1) := by rw [Nat.div_div_eq_div_mul, Nat.pow_succ, Nat.mul_comm]
    rw [e] at ih
    simp only [List.take_succ_cons, List.getElem_cons_succ]
    unfold pick
    split
    · rw [ih]; rfl
    · exact ih

/-- The numbers that a text's bytes are. -/
def ints (t : List UInt8) : List Int := t.map (fun b => (b.toNat : Int))

theorem ints_inj {x y : List UInt8} (h : ints x = ints y) : x = y := by
  unfold ints at h
  exact (List.map_inj_right (fun a b e => UInt8.toNat_inj.1 (by omega))).1 h

theorem ints_length (x : List UInt8) : (ints x).length = x.length := by simp [ints]

theorem ints_sub {x y : List UInt8} : (ints x).Sublist (ints y) ↔ x.Sublist y := by
  constructor
  · intro h
    obtain ⟨l, hl, e⟩ := List.sublist_map_iff.1 h
    have := ints_inj (x := x) (y := l) e
    subst this; exact hl
  · exact fun h => h.map _

theorem ints_ahead : ∀ x y : List UInt8, (ahead (ints x) (ints y) = true) ↔ x < y
  | x, [] => by
    constructor
    · intro h; cases x <;> simp [ints, ahead] at h
    · intro h; exact absurd h (List.not_lt_nil x)
  | [], b :: y => by
    constructor
    · intro _; exact List.nil_lt_cons b y
    · intro _; simp [ints, ahead]
  | a :: x, b :: y => by
    have ih := ints_ahead x y
    simp only [ints, List.map_cons, ahead] at ih ⊢
    rw [List.cons_lt_cons_iff]
    by_cases e : a = b
    · subst e
      simp only [if_pos]
      rw [ih]
      constructor
      · intro h; exact .inr ⟨trivial, h⟩
      · rintro (h | h)
        · exact absurd h (UInt8.lt_irrefl a)
        · exact h.2
    · have : ¬ ((a.toNat : Int) = (b.toNat : Int)) := fun h => e (UInt8.toNat_inj.1 (by omega))
      rw [if_neg this]
      simp only [decide_eq_true_eq]
      constructor
      · intro h; exact .inl (UInt8.lt_iff_toNat_lt.2 (by omega))
      · rintro (h | h)
        · have := UInt8.lt_iff_toNat_lt.1 h; omega
        · exact absurd h.1 e

/-- What a sort of texts, each once, comes to: their numbers, in order. -/
theorem sorted_order {ss : List (List UInt8)} (hn : ss.Nodup) : Order ((ss.mergeSort (fun x y => decide (x ≤ y))).map ints) := by
  have hp := List.mergeSort_perm ss (fun x y => decide (x ≤ y))
  have hn' : (ss.mergeSort (fun x y => decide (x ≤ y))).Nodup := hp.nodup_iff.2 hn
  have hs : (ss.mergeSort (fun x y => decide (x ≤ y))).Pairwise (fun a b => decide (a ≤ b) = true) :=
    List.pairwise_mergeSort (fun a b c h1 h2 => by simp at h1 h2 ⊢; exact List.le_trans h1 h2) (fun a b => by simp; exact List.le_total a b) ss
  rw [Order, List.pairwise_map]
  refine (hs.and hn').imp ?_
  rintro a b ⟨h1, h2⟩
  rw [ints_ahead]
  simp at h1
  rcases (List.le_iff_lt_or_eq.1 h1) with h | h
  · exact h
  · exact absurd h h2

end Go.Proofs.YtnnkmkhamipfiaaGreatDoor

namespace Go.Proofs.YtnnkmkhamipfiaaGreatDoor

theorem face_ints {ts : List (List UInt8)} {x : List UInt8} : FaceOf (ts.map ints) (ints x) ↔ FaceOf ts x := by
  unfold FaceOf
  constructor
  · rintro ⟨h, t, ht, hs⟩
    obtain ⟨u, hu, rfl⟩ := List.mem_map.1 ht
    exact ⟨fun e => h (by rw [e]; rfl), u, hu, ints_sub.1 hs⟩
  · rintro ⟨h, t, ht, hs⟩
    exact ⟨fun e => h (ints_inj e), ints t, List.mem_map.2 ⟨t, ht, rfl⟩, ints_sub.2 hs⟩

theorem inner_ints {ts : List (List UInt8)} {x : List UInt8} : InnerOf (ts.map ints) (ints x) ↔ InnerOf ts x := by
  unfold InnerOf
  constructor
  · rintro ⟨h, t, ht, hs, hl⟩
    obtain ⟨u, hu, rfl⟩ := List.mem_map.1 ht
    exact ⟨fun e => h (by rw [e]; rfl), u, hu, ints_sub.1 hs, by simpa [ints_length] using hl⟩
  · rintro ⟨h, t, ht, hs, hl⟩
    exact ⟨fun e => h (ints_inj e), ints t, List.mem_map.2 ⟨t, ht, rfl⟩, ints_sub.2 hs, by simpa [ints_length] using hl⟩

theorem face_from {ts : List (List UInt8)} {y : List Int} (h : FaceOf (ts.map ints) y) : ∃ x, y = ints x := by
  obtain ⟨_, t, ht, hs⟩ := h
  obtain ⟨u, _, rfl⟩ := List.mem_map.1 ht
  obtain ⟨l, _, e⟩ := List.sublist_map_iff.1 hs
  exact ⟨l, e⟩

theorem over_ints {ts : List (List UInt8)} : Over (ts.map ints) ↔ Over ts := by
  constructor
  · rintro (⟨t, ht, hl⟩ | ⟨X, hn, hl, hx⟩)
    · obtain ⟨u, hu, rfl⟩ := List.mem_map.1 ht
      exact .inl ⟨u, hu, by simpa [ints_length] using hl⟩
    · have : ∀ Y : List (List Int), (∀ y ∈ Y, FaceOf (ts.map ints) y) → ∃ Z : List (List UInt8), Y = Z.map ints := by
        intro Y
        induction Y with
        | nil => intro _; exact ⟨[], rfl⟩
        | cons y Y ih =>
          intro h
          obtain ⟨Z, e⟩ := ih (fun z hz => h z (by simp [hz]))
          obtain ⟨x, ex⟩ := face_from (h y (by simp))
          exact ⟨x :: Z, by simp [e, ex]⟩
      obtain ⟨Z, rfl⟩ := this X hx
      refine .inr ⟨Z, ?_, by simpa using hl, fun x hx' => face_ints.1 (hx _ (List.mem_map.2 ⟨x, hx', rfl⟩))⟩
      exact (List.pairwise_map.1 hn).imp (fun h e => h (by rw [e]))
  · rintro (⟨t, ht, hl⟩ | ⟨X, hn, hl, hx⟩)
    · exact .inl ⟨ints t, List.mem_map.2 ⟨t, ht, rfl⟩, by simpa [ints_length] using hl⟩
    · refine .inr ⟨X.map ints, ?_, by simpa using hl, fun y hy => ?_⟩
      · exact List.pairwise_map.2 (hn.imp (fun h e => h (ints_inj e)))
      · obtain ⟨x, hx', rfl⟩ := List.mem_map.1 hy
        exact face_ints.2 (hx x hx')

/-- Is a face a part of a greater one of these? -/
def innerB (all : List (List Int)) (x : List Int) : Bool := all.any (fun y => decide (x.length < y.length) && x.all (fun v => y.contains v))
def facetsI (all : List (List Int)) : List (List Int) := all.filter (fun x => !innerB all x)

/-- All faces of sets, in order. -/
structure IsAll (ts all : List (List Int)) : Prop where
  order : Order all
  mem : ∀ x, x ∈ all ↔ FaceOf ts x

theorem face_rising {ts : List (List Int)} (hr : ∀ t ∈ ts, Rising t) {x : List Int} (h : FaceOf ts x) : Rising x := by
  obtain ⟨_, t, ht, hs⟩ := h
  exact (hr t ht).sublist hs

theorem innerB_iff {ts all : List (List Int)} (hr : ∀ t ∈ ts, Rising t) (h : IsAll ts all) {x : List Int} (hx : x ∈ all) : innerB all x = true ↔ InnerOf ts x := by
  have hfx := (h.mem x).1 hx
  unfold innerB
  rw [List.any_eq_true]
  constructor
  · rintro ⟨y, hy, hc⟩
    simp only [Bool.and_eq_true, decide_eq_true_eq, List.all_eq_true] at hc
    have hfy := (h.mem y).1 hy
    have hs := rising_sub (face_rising hr hfx) (face_rising hr hfy) (fun v hv => by simpa using hc.2 v hv)
    obtain ⟨_, t, ht, hst⟩ := hfy
    have := hst.length_le
    exact ⟨hfx.1, t, ht, hs.trans hst, by omega⟩
  · rintro ⟨_, t, ht, hs, hl⟩
    refine ⟨t, (h.mem t).2 ⟨fun e => by subst e; simp at hl, t, ht, List.Sublist.refl _⟩, ?_⟩
    simp only [Bool.and_eq_true, decide_eq_true_eq, List.all_eq_true]
    exact ⟨hl, fun v hv => by simpa using hs.subset hv⟩

theorem facets_mem {ts all : List (List Int)} (hr : ∀ t ∈ ts, Rising t) (h : IsAll ts all) (x : List Int) : x ∈ facetsI all ↔ FaceOf ts x ∧ ¬ InnerOf ts x := by
  unfold facetsI
  rw [List.mem_filter]
  constructor
  · rintro ⟨a, b⟩
    refine ⟨(h.mem x).1 a, fun hi => ?_⟩
    rw [(innerB_iff hr h a).2 hi] at b; cases b
  · rintro ⟨a, b⟩
    have hx := (h.mem x).2 a
    refine ⟨hx, ?_⟩
    have : innerB all x = false := by
      cases e : innerB all x
      · rfl
      · exact absurd ((innerB_iff hr h hx).1 e) b
    rw [this]; rfl

theorem facets_order {all : List (List Int)} (h : Order all) : Order (facetsI all) := h.filter _

/-- The facets that the map tells, sorted, are those of the list of all faces. -/
theorem facets_same {ts ss : List (List UInt8)} {all : List (List Int)} (hr : ∀ t ∈ ts, Rising (ints t)) (h : IsAll (ts.map ints) all) (hn : ss.Nodup)
    (hm : ∀ x, x ∈ ss ↔ FaceOf ts x ∧ ¬ InnerOf ts x) : (ss.mergeSort (fun x y => decide (x ≤ y))).map ints = facetsI all := by
  have hr' : ∀ t ∈ ts.map ints, Rising t := fun t ht => by obtain ⟨u, hu, rfl⟩ := List.mem_map.1 ht; exact hr u hu
  refine order_told (sorted_order hn) (facets_order h.order) (fun y => ?_)
  rw [facets_mem hr' h, List.mem_map]
  constructor
  · rintro ⟨x, hx, rfl⟩
    have := (hm x).1 ((List.mergeSort_perm ss _).mem_iff.1 hx)
    exact ⟨face_ints.2 this.1, fun hi => this.2 (inner_ints.1 hi)⟩
  · rintro ⟨a, b⟩
    obtain ⟨x, rfl⟩ := face_from a
    exact ⟨x, (List.mergeSort_perm ss _).mem_iff.2 ((hm x).2 ⟨face_ints.1 a, fun hi => b (inner_ints.2 hi)⟩), rfl⟩

/-- A set of vertices, in any order. -/
def SetOk (l : List Int) : Prop := l ≠ [] ∧ l.Nodup ∧ ∀ v ∈ l, 0 ≤ v ∧ v ≤ 99

/-- The text of a set: its vertices, rising. -/
def TextOf (l : List Int) (t : List UInt8) : Prop := Rising (ints t) ∧ ∀ v : Int, v ∈ ints t ↔ v ∈ l

theorem text_sorted {l s : List Int} {t : List UInt8} (ht : TextOf l t) (hs : Rising s) (hm : ∀ v, v ∈ s ↔ v ∈ l) : ints t = s :=
  rising_told ht.1 hs (fun v => by rw [ht.2, hm])

end Go.Proofs.YtnnkmkhamipfiaaGreatDoor
