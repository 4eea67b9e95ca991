/- Plain facts on faces: a face's parts, all faces of sets, sorted lists, numbers whose bits pick a part; no program is spoken of. -/
namespace Go.Proofs.YthmjdfjchhohgaaGreatDoor

/-- The parts of a face: without its vertex 0, 1, ..; none of a single vertex. -/
def partsOf (x : List UInt8) : List (List UInt8) := if x.length = 1 then [] else (List.range x.length).map x.eraseIdx

theorem sub_part {α : Type} {x y : List α} (h : y.Sublist x) (hl : y.length < x.length) : ∃ i, i < x.length ∧ y.Sublist (x.eraseIdx i) := by
  induction h with
  | slnil => simp at hl
  | cons a h ih => exact ⟨0, by simp, by simpa using h⟩
  | cons_cons a h ih =>
    obtain ⟨i, hi, hs⟩ := ih (by simpa using hl)
    exact ⟨i + 1, by simpa using hi, by simpa using hs⟩

theorem erase_sub {α : Type} (x : List α) (i : Nat) : (x.eraseIdx i).Sublist x := List.eraseIdx_sublist x i

theorem parts_mem {x y : List UInt8} (h : y ∈ partsOf x) : x.length ≠ 1 ∧ ∃ i, i < x.length ∧ y = x.eraseIdx i := by
  unfold partsOf at h
  split at h
  · cases h
  · rename_i h1
    obtain ⟨i, hi, rfl⟩ := List.mem_map.1 h
    exact ⟨h1, i, List.mem_range.1 hi, rfl⟩

theorem parts_at {x : List UInt8} (h1 : x.length ≠ 1) {i : Nat} (hi : i < x.length) : x.eraseIdx i ∈ partsOf x := by
  unfold partsOf
  rw [if_neg h1]
  exact List.mem_map.2 ⟨i, List.mem_range.2 hi, rfl⟩

theorem part_short {x : List UInt8} {i : Nat} (hi : i < x.length) : (x.eraseIdx i).length + 1 = x.length := by
  rw [List.length_eraseIdx, if_pos hi]; omega

/-- A face whose parts all lie there, told as parts. -/
def Done (F : List (List UInt8)) (G : List UInt8 → Prop) (x : List UInt8) : Prop := ∀ y ∈ partsOf x, y ∈ F ∧ G y

theorem Done.mono {F F' : List (List UInt8)} {G G' : List UInt8 → Prop} {x : List UInt8} (h : Done F G x) (hF : ∀ y ∈ F, y ∈ F') (hG : ∀ y, G y → G' y) : Done F' G' x :=
  fun y hy => ⟨hF y (h y hy).1, hG y (h y hy).2⟩

theorem down {F : List (List UInt8)} {G : List UInt8 → Prop} {k : Nat} (h : ∀ x ∈ F, x.length ≤ k → Done F G x) :
    ∀ n (x : List UInt8), x.length ≤ n → x ∈ F → x.length ≤ k → ∀ y : List UInt8, y ≠ [] → y.Sublist x → y ∈ F ∧ (y.length < x.length → G y) := by
  intro n
  induction n with
  | zero =>
    intro x hx _ _ y hy hs
    have := hs.length_le
    exact absurd (List.length_eq_zero_iff.1 (by omega)) hy
  | succ n ih =>
    intro x hx hF hk y hy hs
    by_cases hl : y.length < x.length
    · obtain ⟨i, hi, hp⟩ := sub_part hs hl
      have hy0 : 0 < y.length := List.length_pos_iff.2 hy
      have hpm := parts_at (x := x) (by omega) hi
      obtain ⟨hpF, hpG⟩ := h x hF hk _ hpm
      have hps := part_short hi
      obtain ⟨a, b⟩ := ih _ (by omega) hpF (by omega) y hy hp
      refine ⟨a, fun _ => ?_⟩
      by_cases hl2 : y.length < (x.eraseIdx i).length
      · exact b hl2
      · have := hp.eq_of_length (by have := hp.length_le; omega)
        rw [this]; exact hpG
    · have := hs.eq_of_length (by have := hs.length_le; omega)
      subst this
      exact ⟨hF, fun h => absurd h hl⟩

/-- What lies on a pile, F, of it G as parts of greater ones: the state ahead of a face of k vertices. -/
structure Pile (k : Nat) (F : List (List UInt8)) (G : List UInt8 → Prop) : Prop where
  nodup : F.Nodup
  some_ : ∀ x ∈ F, x ≠ []
  short : ∀ x ∈ F, x.length ≤ 7
  few : F.length ≤ 600
  inn : ∀ x, G x → x ∈ F
  done : ∀ x ∈ F, x.length ≤ k → Done F G x

/-- What a face that was put has done to a pile. -/
structure Grew (f : List UInt8) (F : List (List UInt8)) (G : List UInt8 → Prop) (F' : List (List UInt8)) (G' : List UInt8 → Prop) : Prop where
  nodup : F'.Nodup
  few : F'.length ≤ 600
  old : ∀ x ∈ F, x ∈ F'
  oldG : ∀ x, G x → G' x
  inn : ∀ x, G' x → x ∈ F'
  new : ∀ x ∈ F', x ∈ F ∨ (x ≠ [] ∧ x.Sublist f ∧ x.length ≤ 7 ∧ Done F' G' x)
  newG : ∀ x, G' x → G x ∨ (x.Sublist f ∧ x.length < f.length)

/-- Too many faces, or one too great. -/
def OverB (f : List UInt8) (F : List (List UInt8)) : Prop :=
  7 < f.length ∨ ∃ X : List (List UInt8), X.Nodup ∧ 600 < X.length ∧ ∀ x ∈ X, x ∈ F ∨ (x ≠ [] ∧ x.Sublist f)

theorem Pile.grew {k : Nat} {f : List UInt8} {F F' : List (List UInt8)} {G G' : List UInt8 → Prop} (h : Pile k F G) (g : Grew f F G F' G') : Pile k F' G' where
  nodup := g.nodup
  some_ := fun x hx => (g.new x hx).elim (h.some_ x) (fun a => a.1)
  short := fun x hx => (g.new x hx).elim (h.short x) (fun a => a.2.2.1)
  few := g.few
  inn := g.inn
  done := fun x hx hk => (g.new x hx).elim (fun a => (h.done x a hk).mono g.old g.oldG) (fun a => a.2.2.2)

theorem Grew.refl {k : Nat} {f : List UInt8} {F : List (List UInt8)} {G : List UInt8 → Prop} (h : Pile k F G) : Grew f F G F G :=
  ⟨h.nodup, h.few, fun _ h => h, fun _ h => h, h.inn, fun _ h => .inl h, fun _ h => .inl h⟩

/-- The state while a face's parts are put: the first i of them are there. -/
structure Half (f : List UInt8) (F : List (List UInt8)) (G : List UInt8 → Prop) (i : Nat) (F' : List (List UInt8)) (G' : List UInt8 → Prop) : Prop where
  nodup : F'.Nodup
  few : F'.length ≤ 600
  old : ∀ x ∈ F, x ∈ F'
  self : f ∈ F'
  oldG : ∀ x, G x → G' x
  inn : ∀ x, G' x → x ∈ F'
  new : ∀ x ∈ F', x ∈ F ∨ x = f ∨ (x ≠ [] ∧ x.Sublist f ∧ x.length ≤ 7 ∧ Done F' G' x)
  newG : ∀ x, G' x → G x ∨ (x.Sublist f ∧ x.length < f.length)
  so : ∀ j, j < i → f.eraseIdx j ∈ F' ∧ G' (f.eraseIdx j)

theorem half_start {f : List UInt8} {F : List (List UInt8)} {G : List UInt8 → Prop} (h : Pile f.length F G) (hf : f ∉ F) (hr : F.length < 600) : Half f F G 0 (F ++ [f]) G where
  nodup := by
    rw [List.nodup_append]
    exact ⟨h.nodup, by simp, fun a ha b hb e => by simp at hb; subst e; subst hb; exact hf ha⟩
  few := by simp; omega
  old := fun x hx => List.mem_append_left _ hx
  self := by simp
  oldG := fun _ h => h
  inn := fun x hx => List.mem_append_left _ (h.inn x hx)
  new := fun x hx => by
    rcases List.mem_append.1 hx with a | a
    · exact .inl a
    · exact .inr (.inl (by simpa using a))
  newG := fun _ h => .inl h
  so := fun j hj => absurd hj (Nat.not_lt_zero _)

/-- Ahead of a part: the pile is in order up to the part's vertices. -/
theorem half_pile {f : List UInt8} {F F' : List (List UInt8)} {G G' : List UInt8 → Prop} {i : Nat} (h : Pile f.length F G) (hf : f ≠ []) (h7 : f.length ≤ 7) (hh : Half f F G i F' G') (hi : i < f.length) : Pile (f.eraseIdx i).length F' G' where
  nodup := hh.nodup
  some_ := fun x hx => (hh.new x hx).elim (h.some_ x) (fun a => a.elim (fun e => e ▸ hf) (fun a => a.1))
  short := fun x hx => (hh.new x hx).elim (h.short x) (fun a => a.elim (fun e => e ▸ h7) (fun a => a.2.2.1))
  few := hh.few
  inn := hh.inn
  done := fun x hx hk => by
    have := part_short hi
    rcases hh.new x hx with a | a | a
    · exact (h.done x a (by omega)).mono hh.old hh.oldG
    · subst a; omega
    · exact a.2.2.2

/-- A part has been put, and told to be one. -/
theorem half_step {f : List UInt8} {F F' F'' : List (List UInt8)} {G G' G'' : List UInt8 → Prop} {i : Nat} (hh : Half f F G i F' G') (hi : i < f.length) (g : Grew (f.eraseIdx i) F' G' F'' G'') (hin : f.eraseIdx i ∈ F'') :
    Half f F G (i + 1) F'' (fun x => G'' x ∨ x = f.eraseIdx i) where
  nodup := g.nodup
  few := g.few
  old := fun x hx => g.old x (hh.old x hx)
  self := g.old _ hh.self
  oldG := fun x hx => .inl (g.oldG x (hh.oldG x hx))
  inn := fun x hx => hx.elim (g.inn x) (fun e => e ▸ hin)
  new := fun x hx => by
    have hs := erase_sub f i
    rcases g.new x hx with a | a
    · rcases hh.new x a with b | b | b
      · exact .inl b
      · exact .inr (.inl b)
      · exact .inr (.inr ⟨b.1, b.2.1, b.2.2.1, b.2.2.2.mono g.old (fun y hy => .inl (g.oldG y hy))⟩)
    · exact .inr (.inr ⟨a.1, a.2.1.trans hs, a.2.2.1, a.2.2.2.mono (fun _ h => h) (fun _ h => .inl h)⟩)
  newG := fun x hx => by
    have hs := erase_sub f i
    have hl := part_short hi
    rcases hx with a | a
    · rcases g.newG x a with b | b
      · exact hh.newG x b
      · exact .inr ⟨b.1.trans hs, by omega⟩
    · subst a; exact .inr ⟨hs, by omega⟩
  so := fun j hj => by
    by_cases e : j = i
    · subst e; exact ⟨hin, .inr rfl⟩
    · obtain ⟨a, b⟩ := hh.so j (by omega)
      exact ⟨g.old _ a, .inl (g.oldG _ b)⟩

/-- All parts are there: the face is put. -/
theorem half_end {f : List UInt8} {F F' : List (List UInt8)} {G G' : List UInt8 → Prop} (hf : f ≠ []) (h7 : f.length ≤ 7) (hh : Half f F G (partsOf f).length F' G') : Grew f F G F' G' where
  nodup := hh.nodup
  few := hh.few
  old := hh.old
  oldG := hh.oldG
  inn := hh.inn
  new := fun x hx => by
    rcases hh.new x hx with a | a | a
    · exact .inl a
    · subst a
      refine .inr ⟨hf, List.Sublist.refl _, h7, fun y hy => ?_⟩
      obtain ⟨h1, i, hi, rfl⟩ := parts_mem hy
      exact hh.so i (by unfold partsOf; rw [if_neg h1]; simpa using hi)
    · exact .inr a
  newG := hh.newG

theorem half_over {f : List UInt8} {F F' : List (List UInt8)} {G G' : List UInt8 → Prop} {i : Nat} (hf : f ≠ []) (h7 : f.length ≤ 7) (hh : Half f F G i F' G') (hi : i < f.length) (hlen : f.length ≠ 1) (ho : OverB (f.eraseIdx i) F') : OverB f F := by
  have hs := erase_sub f i
  have hl := part_short hi
  rcases ho with a | ⟨X, a, b, c⟩
  · omega
  · refine .inr ⟨X, a, b, fun x hx => ?_⟩
    rcases c x hx with d | d
    · rcases hh.new x d with e | e | e
      · exact .inl e
      · subst e; exact .inr ⟨hf, List.Sublist.refl _⟩
      · exact .inr ⟨e.1, e.2.1⟩
    · exact .inr ⟨d.1, d.2.trans hs⟩

theorem over_full {k : Nat} {f : List UInt8} {F : List (List UInt8)} {G : List UInt8 → Prop} (h : Pile k F G) (hf : f ≠ []) (hn : f ∉ F) (hfull : F.length = 600) : OverB f F := by
  refine .inr ⟨F ++ [f], ?_, by simp; omega, fun x hx => ?_⟩
  · rw [List.nodup_append]
    exact ⟨h.nodup, by simp, fun a ha b hb e => by simp at hb; subst e; subst hb; exact hn ha⟩
  · rcases List.mem_append.1 hx with a | a
    · exact .inl a
    · simp at a; subst a; exact .inr ⟨hf, List.Sublist.refl _⟩

/-- The sets ts are on the pile, and nothing else is. -/
structure Heaped (ts F : List (List UInt8)) (G : List UInt8 → Prop) : Prop where
  pile : ∀ k, Pile k F G
  all : ∀ t ∈ ts, t ∈ F
  from_ : ∀ x ∈ F, ∃ t ∈ ts, x.Sublist t
  fromG : ∀ x, G x → ∃ t ∈ ts, x.Sublist t ∧ x.length < t.length

theorem heaped_nil : Heaped [] [] (fun _ => False) :=
  ⟨fun _ => ⟨List.nodup_nil, fun _ h => (by cases h), fun _ h => (by cases h), by simp, fun _ h => h.elim, fun _ h => (by cases h)⟩, fun _ h => (by cases h), fun _ h => (by cases h), fun _ h => h.elim⟩

theorem Heaped.snoc {ts F F' : List (List UInt8)} {G G' : List UInt8 → Prop} {t : List UInt8} (h : Heaped ts F G) (g : Grew t F G F' G') (hin : t ∈ F') : Heaped (ts ++ [t]) F' G' where
  pile := fun k => (h.pile k).grew g
  all := fun u hu => by
    rcases List.mem_append.1 hu with a | a
    · exact g.old u (h.all u a)
    · simp at a; subst a; exact hin
  from_ := fun x hx => by
    rcases g.new x hx with a | a
    · obtain ⟨u, hu, hs⟩ := h.from_ x a
      exact ⟨u, List.mem_append_left _ hu, hs⟩
    · exact ⟨t, by simp, a.2.1⟩
  fromG := fun x hx => by
    rcases g.newG x hx with a | a
    · obtain ⟨u, hu, hs⟩ := h.fromG x a
      exact ⟨u, List.mem_append_left _ hu, hs⟩
    · exact ⟨t, by simp, a.1, a.2⟩

/-- The faces of sets. -/
def FaceOf {α : Type} (ts : List (List α)) (x : List α) : Prop := x ≠ [] ∧ ∃ t ∈ ts, x.Sublist t
def InnerOf {α : Type} (ts : List (List α)) (x : List α) : Prop := x ≠ [] ∧ ∃ t ∈ ts, x.Sublist t ∧ x.length < t.length
/-- Too many faces, or one too great. -/
def Over {α : Type} (ts : List (List α)) : Prop := (∃ t ∈ ts, 7 < t.length) ∨ ∃ X : List (List α), X.Nodup ∧ 600 < X.length ∧ ∀ x ∈ X, FaceOf ts x

theorem Heaped.mem {ts F : List (List UInt8)} {G : List UInt8 → Prop} (h : Heaped ts F G) (x : List UInt8) : x ∈ F ↔ FaceOf ts x := by
  constructor
  · intro hx
    exact ⟨(h.pile 0).some_ x hx, h.from_ x hx⟩
  · rintro ⟨hne, t, ht, hs⟩
    exact (down (h.pile t.length).done t.length t (Nat.le_refl _) (h.all t ht) (Nat.le_refl _) x hne hs).1

theorem Heaped.memG {ts F : List (List UInt8)} {G : List UInt8 → Prop} (h : Heaped ts F G) (x : List UInt8) : G x ↔ InnerOf ts x := by
  constructor
  · intro hx
    exact ⟨(h.pile 0).some_ x ((h.pile 0).inn x hx), h.fromG x hx⟩
  · rintro ⟨hne, t, ht, hs, hl⟩
    exact (down (h.pile t.length).done t.length t (Nat.le_refl _) (h.all t ht) (Nat.le_refl _) x hne hs).2 hl

theorem nodup_le {α : Type} [BEq α] [LawfulBEq α] : ∀ {X Y : List α}, X.Nodup → (∀ x ∈ X, x ∈ Y) → X.length ≤ Y.length
  | [], _, _, _ => by simp
  | a :: X, Y, hn, h => by
    have h1 : a ∈ Y := h a (by simp)
    have hn' := List.nodup_cons.1 hn
    have := nodup_le (X := X) (Y := Y.erase a) hn'.2 (fun x hx => (List.mem_erase_of_ne (fun e => by subst e; exact hn'.1 hx)).2 (h x (by simp [hx])))
    rw [List.length_erase_of_mem h1] at this
    have : 0 < Y.length := List.length_pos_of_mem h1
    simp; omega

theorem Heaped.notOver {ts F : List (List UInt8)} {G : List UInt8 → Prop} (h : Heaped ts F G) : ¬ Over ts := by
  rintro (⟨t, ht, hl⟩ | ⟨X, hn, hl, hx⟩)
  · have := (h.pile 0).short t (h.all t ht); omega
  · have := nodup_le hn (fun x hx' => (h.mem x).2 (hx x hx'))
    have := (h.pile 0).few
    omega

theorem Heaped.over {ts F : List (List UInt8)} {G : List UInt8 → Prop} {t : List UInt8} (h : Heaped ts F G) (ho : OverB t F) (us : List (List UInt8)) : Over (ts ++ t :: us) := by
  rcases ho with a | ⟨X, a, b, c⟩
  · exact .inl ⟨t, by simp, a⟩
  · refine .inr ⟨X, a, b, fun x hx => ?_⟩
    rcases c x hx with d | d
    · obtain ⟨e, u, hu, hs⟩ := (h.mem x).1 d
      exact ⟨e, u, List.mem_append_left _ hu, hs⟩
    · exact ⟨d.1, t, by simp, d.2⟩

end Go.Proofs.YthmjdfjchhohgaaGreatDoor
