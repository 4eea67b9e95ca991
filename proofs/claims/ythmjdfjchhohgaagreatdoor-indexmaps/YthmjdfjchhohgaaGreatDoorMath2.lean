/- Plain facts on rising lists and their order: lists that are told by what they hold, parts picked by bits, texts and numbers. Plain facts: the faces of sets told as texts and as lists of numbers are the same ones, and so are the facets. -/
import Derived.Test.YthmjdfjchhohgaaGreatDoorMath0
namespace Go.Proofs.YthmjdfjchhohgaaGreatDoor

/-- Does a list of numbers stand ahead of another one? -/
def ahead : List Int → List Int → Bool
  | _, [] => false
  | [], _ :: _ => true
  | a :: as, b :: bs => if a = b then ahead as bs else decide (a < b)

theorem ahead_irrefl : ∀ a, ahead a a = false
  | [] => rfl
  | a :: as => by simp [ahead, ahead_irrefl as]

theorem ahead_asymm : ∀ a b, ahead a b = true → ahead b a = false
  | _, [] => by intro h; cases ‹List Int› <;> simp [ahead] at h
  | [], _ :: _ => by intro _; simp [ahead]
  | a :: as, b :: bs => by
    intro h
    simp only [ahead] at h ⊢
    by_cases e : a = b
    · subst e; simp only [if_pos] at h ⊢; exact ahead_asymm as bs h
    · rw [if_neg e] at h; rw [if_neg (fun h => e h.symm)]; simp at h ⊢; omega

theorem ahead_trans : ∀ a b c, ahead a b = true → ahead b c = true → ahead a c = true
  | a, b, [] => by intro _ h; cases b <;> simp [ahead] at h
  | [], b, _ :: _ => by intro _ _; simp [ahead]
  | a :: as, [], _ :: _ => by intro h; simp [ahead] at h
  | a :: as, b :: bs, c :: cs => by
    intro h1 h2
    simp only [ahead] at h1 h2 ⊢
    by_cases e1 : a = b
    · subst e1
      by_cases e2 : a = c
      · subst e2; simp only [if_pos] at h1 h2 ⊢; exact ahead_trans as bs cs h1 h2
      · rw [if_neg e2] at h2 ⊢; exact h2
    · rw [if_neg e1] at h1
      by_cases e2 : b = c
      · subst e2; rw [if_neg e1]; exact h1
      · rw [if_neg e2] at h2; simp at h1 h2; rw [if_neg (by omega)]; simp; omega

theorem ahead_total : ∀ a b, a ≠ b → ahead a b = true ∨ ahead b a = true
  | [], [] => by intro h; exact absurd rfl h
  | [], _ :: _ => by intro _; simp [ahead]
  | _ :: _, [] => by intro _; simp [ahead]
  | a :: as, b :: bs => by
    intro h
    simp only [ahead]
    by_cases e : a = b
    · subst e; simp only [if_pos]; exact ahead_total as bs (fun e => h (by rw [e]))
    · rw [if_neg e, if_neg (fun h => e h.symm)]; simp; omega

/-- Lists in a strict order that hold the same are one. -/
theorem told_by {α : Type} {r : α → α → Prop} (ha : ∀ a b, r a b → ¬ r b a) : ∀ {l m : List α}, l.Pairwise r → m.Pairwise r → (∀ x, x ∈ l ↔ x ∈ m) → l = m
  | [], [], _, _, _ => rfl
  | [], b :: _, _, _, h => absurd ((h b).2 (by simp)) (by simp)
  | a :: _, [], _, _, h => absurd ((h a).1 (by simp)) (by simp)
  | a :: l, b :: m, hl, hm, h => by
    have hl' := List.pairwise_cons.1 hl
    have hm' := List.pairwise_cons.1 hm
    have e : a = b := by
      rcases List.mem_cons.1 ((h a).1 (by simp)) with e | e
      · exact e
      · rcases List.mem_cons.1 ((h b).2 (by simp)) with f | f
        · exact f.symm
        · exact absurd (hl'.1 b f) (ha _ _ (hm'.1 a e))
    subst e
    rw [told_by ha hl'.2 hm'.2 (fun x => ?_)]
    constructor
    · intro hx
      rcases List.mem_cons.1 ((h x).1 (by simp [hx])) with e | e
      · subst e; exact absurd (hl'.1 x hx) (fun h => ha _ _ h h)
      · exact e
    · intro hx
      rcases List.mem_cons.1 ((h x).2 (by simp [hx])) with e | e
      · subst e; exact absurd (hm'.1 x hx) (fun h => ha _ _ h h)
      · exact e

abbrev Order (l : List (List Int)) : Prop := l.Pairwise (fun a b => ahead a b = true)
abbrev Rising (l : List Int) : Prop := l.Pairwise (· < ·)

theorem order_told {l m : List (List Int)} (hl : Order l) (hm : Order m) (h : ∀ x, x ∈ l ↔ x ∈ m) : l = m :=
  told_by (fun a b h1 h2 => by rw [ahead_asymm a b h1] at h2; cases h2) hl hm h
theorem rising_told {l m : List Int} (hl : Rising l) (hm : Rising m) (h : ∀ x, x ∈ l ↔ x ∈ m) : l = m :=
  told_by (fun a b h1 h2 => by omega) hl hm h

theorem order_nodup {l : List (List Int)} (h : Order l) : l.Nodup :=
  h.imp (fun {a b} h e => by subst e; rw [ahead_irrefl] at h; cases h)
theorem rising_nodup {l : List Int} (h : Rising l) : l.Nodup := h.imp (fun h e => by omega)

/-- Of rising lists: a part is a list all of whose numbers are there. -/
theorem rising_sub : ∀ {f g : List Int}, Rising f → Rising g → (∀ x ∈ f, x ∈ g) → f.Sublist g
  | [], g, _, _, _ => List.nil_sublist g
  | a :: f, [], _, _, h => absurd (h a (by simp)) (by simp)
  | a :: f, b :: g, hf, hg, h => by
    have hf' := List.pairwise_cons.1 hf
    have hg' := List.pairwise_cons.1 hg
    by_cases e : a = b
    · subst e
      refine List.Sublist.cons_cons a (rising_sub hf'.2 hg'.2 (fun x hx => ?_))
      rcases List.mem_cons.1 (h x (by simp [hx])) with e | e
      · subst e; have := hf'.1 x hx; omega
      · exact e
    · have hab : b < a := by
        rcases List.mem_cons.1 (h a (by simp)) with f | f
        · exact absurd f e
        · exact hg'.1 a f
      refine List.Sublist.cons b (rising_sub hf hg'.2 (fun x hx => ?_))
      rcases List.mem_cons.1 (h x hx) with e' | e'
      · subst e'
        rcases List.mem_cons.1 hx with e2 | e2
        · exact absurd e2.symm e
        · have := hf'.1 x e2; omega
      · exact e'
  termination_by f g => f.length + g.length

/-- A part of a list, picked by a number's bits. -/
def pick {α : Type} : Nat → List α → List α
  | _, [] => []
  | b, a :: s => if b % 2 = 1 then a :: pick (b / 2) s else pick (b / 2) s

theorem pick_sub {α : Type} : ∀ (b : Nat) (s : List α), (pick b s).Sublist s
  | _, [] => by simp [pick]
  | b, a :: s => by
    unfold pick
    split
    · exact (pick_sub _ s).cons_cons a
    · exact (pick_sub _ s).cons a

theorem pick_zero {α : Type} : ∀ (s : List α), pick 0 s = []
  | [] => rfl
  | a :: s => by simp [pick, pick_zero s]

theorem pick_all {α : Type} {x s : List α} (h : x.Sublist s) : ∃ b, b < 2 ^ s.length ∧ pick b s = x := by
  induction h with
  | slnil => exact ⟨0, by simp, rfl⟩
  | @cons x s a h ih =>
    obtain ⟨b, hb, e⟩ := ih
    refine ⟨2 * b, by simp [Nat.pow_succ]; omega, ?_⟩
    unfold pick
    rw [if_neg (by omega), show 2 * b / 2 = b by omega]; exact e
  | @cons_cons x s a h ih =>
    obtain ⟨b, hb, e⟩ := ih
    refine ⟨2 * b + 1, by simp [Nat.pow_succ]; omega, ?_⟩
    unfold pick
    rw [if_pos (by omega), show (2 * b + 1) / 2 = b by omega, e]

theorem pick_ne {α : Type} : ∀ (b : Nat) (s : List α), 0 < b → b < 2 ^ s.length → pick b s ≠ []
  | b, [], h, h2 => by simp at h2; omega
  | b, a :: s, h, h2 => by
    unfold pick
    split
    · simp
    · exact pick_ne (b / 2) s (by omega) (by simp [Nat.pow_succ] at h2; omega)

theorem pick_take {α : Type} : ∀ (b k : Nat) (s : List α) (hk : k < s.length), pick b (s.take (k + 1)) = pick b (s.take k) ++ (if b / 2 ^ k % 2 = 1 then [s[k]] else [])
  | b, _, [], hk => by simp at hk
  | b, 0, a :: s, hk => by simp [pick]
  | b, k + 1, a :: s, hk => by
    have ih := pick_take (b / 2) k s (by simpa using hk)
    have e : b / 2 / 2 ^ k = b / 2 ^ (k + 1) := by rw [Nat.div_div_eq_div_mul, Nat.pow_succ, Nat.mul_comm]
    rw [e] at ih
    simp only [List.take_succ_cons, List.getElem_cons_succ]
    unfold pick
    split
    · rw [ih]; rfl
    · exact ih

/-- The numbers that a text's bytes are. -/
def ints (t : List UInt8) : List Int := t.map (fun b => (b.toNat : Int))

theorem ints_inj {x y : List UInt8} (h : ints x = ints y) : x = y := by
  unfold ints at h
  exact (List.map_inj_right (fun a b e => UInt8.toNat_inj.1 (by omega))).1 h

theorem ints_length (x : List UInt8) : (ints x).length = x.length := by simp [ints]

theorem ints_sub {x y : List UInt8} : (ints x).Sublist (ints y) ↔ x.Sublist y := by
  constructor
  · intro h
    obtain ⟨l, hl, e⟩ := List.sublist_map_iff.1 h
    have := ints_inj (x := x) (y := l) e
    subst this; exact hl
  · exact fun h => h.map _

theorem ints_ahead : ∀ x y : List UInt8, (ahead (ints x) (ints y) = true) ↔ x < y
  | x, [] => by
    constructor
    · intro h; cases x <;> simp [ints, ahead] at h
    · intro h; exact absurd h (List.not_lt_nil x)
  | [], b :: y => by
    constructor
    · intro _; exact List.nil_lt_cons b y
    · intro _; simp [ints, ahead]
  | a :: x, b :: y => by
    have ih := ints_ahead x y
    simp only [ints, List.map_cons, ahead] at ih ⊢
    rw [List.cons_lt_cons_iff]
    by_cases e : a = b
    · subst e
      simp only [if_pos]
      rw [ih]
      constructor
      · intro h; exact .inr ⟨trivial, h⟩
      · rintro (h | h)
        · exact absurd h (UInt8.lt_irrefl a)
        · exact h.2
    · have : ¬ ((a.toNat : Int) = (b.toNat : Int)) := fun h => e (UInt8.toNat_inj.1 (by omega))
      rw [if_neg this]
      simp only [decide_eq_true_eq]
      constructor
      · intro h; exact .inl (UInt8.lt_iff_toNat_lt.2 (by omega))
      · rintro (h | h)
        · have := UInt8.lt_iff_toNat_lt.1 h; omega
        · exact absurd h.1 e

/-- What a sort of texts, each once, comes to: their numbers, in order. -/
theorem sorted_order {ss : List (List UInt8)} (hn : ss.Nodup) : Order ((ss.mergeSort (fun x y => decide (x ≤ y))).map ints) := by
  have hp := List.mergeSort_perm ss (fun x y => decide (x ≤ y))
  have hn' : (ss.mergeSort (fun x y => decide (x ≤ y))).Nodup := hp.nodup_iff.2 hn
  have hs : (ss.mergeSort (fun x y => decide (x ≤ y))).Pairwise (fun a b => decide (a ≤ b) = true) :=
    List.pairwise_mergeSort (fun a b c h1 h2 => by simp at h1 h2 ⊢; exact List.le_trans h1 h2) (fun a b => by simp; exact List.le_total a b) ss
  rw [Order, List.pairwise_map]
  refine (hs.and hn').imp ?_
  rintro a b ⟨h1, h2⟩
  rw [ints_ahead]
  simp at h1
  rcases (List.le_iff_lt_or_eq.1 h1) with h | h
  · exact h
  · exact absurd h h2

end Go.Proofs.YthmjdfjchhohgaaGreatDoor

namespace Go.Proofs.YthmjdfjchhohgaaGreatDoor

theorem face_ints {ts : List (List UInt8)} {x : List UInt8} : FaceOf (ts.map ints) (ints x) ↔ FaceOf ts x := by
  unfold FaceOf
  constructor
  · rintro ⟨h, t, ht, hs⟩
    obtain ⟨u, hu, rfl⟩ := List.mem_map.1 ht
    exact ⟨fun e => h (by rw [e]; rfl), u, hu, ints_sub.1 hs⟩
  · rintro ⟨h, t, ht, hs⟩
    exact ⟨fun e => h (ints_inj e), ints t, List.mem_map.2 ⟨t, ht, rfl⟩, ints_sub.2 hs⟩

theorem inner_ints {ts : List (List UInt8)} {x : List UInt8} : InnerOf (ts.map ints) (ints x) ↔ InnerOf ts x := by
  unfold InnerOf
  constructor
  · rintro ⟨h, t, ht, hs, hl⟩
    obtain ⟨u, hu, rfl⟩ := List.mem_map.1 ht
    exact ⟨fun e => h (by rw [e]; rfl), u, hu, ints_sub.1 hs, by simpa [ints_length] using hl⟩
  · rintro ⟨h, t, ht, hs, hl⟩
    exact ⟨fun e => h (ints_inj e), ints t, List.mem_map.2 ⟨t, ht, rfl⟩, ints_sub.2 hs, by simpa [ints_length] using hl⟩

theorem face_from {ts : List (List UInt8)} {y : List Int} (h : FaceOf (ts.map ints) y) : ∃ x, y = ints x := by
  obtain ⟨_, t, ht, hs⟩ := h
  obtain ⟨u, _, rfl⟩ := List.mem_map.1 ht
  obtain ⟨l, _, e⟩ := List.sublist_map_iff.1 hs
  exact ⟨l, e⟩

theorem over_ints {ts : List (List UInt8)} : Over (ts.map ints) ↔ Over ts := by
  constructor
  · rintro (⟨t, ht, hl⟩ | ⟨X, hn, hl, hx⟩)
    · obtain ⟨u, hu, rfl⟩ := List.mem_map.1 ht
      exact .inl ⟨u, hu, by simpa [ints_length] using hl⟩
    · have : ∀ Y : List (List Int), (∀ y ∈ Y, FaceOf (ts.map ints) y) → ∃ Z : List (List UInt8), Y = Z.map ints := by
        intro Y
        induction Y with
        | nil => intro _; exact ⟨[], rfl⟩
        | cons y Y ih =>
          intro h
          obtain ⟨Z, e⟩ := ih (fun z hz => h z (by simp [hz]))
          obtain ⟨x, ex⟩ := face_from (h y (by simp))
          exact ⟨x :: Z, by simp [e, ex]⟩
      obtain ⟨Z, rfl⟩ := this X hx
      refine .inr ⟨Z, ?_, by simpa using hl, fun x hx' => face_ints.1 (hx _ (List.mem_map.2 ⟨x, hx', rfl⟩))⟩
      exact (List.pairwise_map.1 hn).imp (fun h e => h (by rw [e]))
  · rintro (⟨t, ht, hl⟩ | ⟨X, hn, hl, hx⟩)
    · exact .inl ⟨ints t, List.mem_map.2 ⟨t, ht, rfl⟩, by simpa [ints_length] using hl⟩
    · refine .inr ⟨X.map ints, ?_, by simpa using hl, fun y hy => ?_⟩
      · exact List.pairwise_map.2 (hn.imp (fun h e => h (ints_inj e)))
      · obtain ⟨x, hx', rfl⟩ := List.mem_map.1 hy
        exact face_ints.2 (hx x hx')

/-- Is a face a part of a greater one of these? -/
def innerB (all : List (List Int)) (x : List Int) : Bool := all.any (fun y => decide (x.length < y.length) && x.all (fun v => y.contains v))
def facetsI (all : List (List Int)) : List (List Int) := all.filter (fun x => !innerB all x)

/-- All faces of sets, in order. -/
structure IsAll (ts all : List (List Int)) : Prop where
  order : Order all
  mem : ∀ x, x ∈ all ↔ FaceOf ts x

theorem face_rising {ts : List (List Int)} (hr : ∀ t ∈ ts, Rising t) {x : List Int} (h : FaceOf ts x) : Rising x := by
  obtain ⟨_, t, ht, hs⟩ := h
  exact (hr t ht).sublist hs

theorem innerB_iff {ts all : List (List Int)} (hr : ∀ t ∈ ts, Rising t) (h : IsAll ts all) {x : List Int} (hx : x ∈ all) : innerB all x = true ↔ InnerOf ts x := by
  have hfx := (h.mem x).1 hx
  unfold innerB
  rw [List.any_eq_true]
  constructor
  · rintro ⟨y, hy, hc⟩
    simp only [Bool.and_eq_true, decide_eq_true_eq, List.all_eq_true] at hc
    have hfy := (h.mem y).1 hy
    have hs := rising_sub (face_rising hr hfx) (face_rising hr hfy) (fun v hv => by simpa using hc.2 v hv)
    obtain ⟨_, t, ht, hst⟩ := hfy
    have := hst.length_le
    exact ⟨hfx.1, t, ht, hs.trans hst, by omega⟩
  · rintro ⟨_, t, ht, hs, hl⟩
    refine ⟨t, (h.mem t).2 ⟨fun e => by subst e; simp at hl, t, ht, List.Sublist.refl _⟩, ?_⟩
    simp only [Bool.and_eq_true, decide_eq_true_eq, List.all_eq_true]
    exact ⟨hl, fun v hv => by simpa using hs.subset hv⟩

theorem facets_mem {ts all : List (List Int)} (hr : ∀ t ∈ ts, Rising t) (h : IsAll ts all) (x : List Int) : x ∈ facetsI all ↔ FaceOf ts x ∧ ¬ InnerOf ts x := by
  unfold facetsI
  rw [List.mem_filter]
  constructor
  · rintro ⟨a, b⟩
    refine ⟨(h.mem x).1 a, fun hi => ?_⟩
    rw [(innerB_iff hr h a).2 hi] at b; cases b
  · rintro ⟨a, b⟩
    have hx := (h.mem x).2 a
    refine ⟨hx, ?_⟩
    have : innerB all x = false := by
      cases e : innerB all x
      · rfl
      · exact absurd ((innerB_iff hr h hx).1 e) b
    rw [this]; rfl

theorem facets_order {all : List (List Int)} (h : Order all) : Order (facetsI all) := h.filter _

/-- The facets that the map tells, sorted, are those of the list of all faces. -/
theorem facets_same {ts ss : List (List UInt8)} {all : List (List Int)} (hr : ∀ t ∈ ts, Rising (ints t)) (h : IsAll (ts.map ints) all) (hn : ss.Nodup)
    (hm : ∀ x, x ∈ ss ↔ FaceOf ts x ∧ ¬ InnerOf ts x) : (ss.mergeSort (fun x y => decide (x ≤ y))).map ints = facetsI all := by
  have hr' : ∀ t ∈ ts.map ints, Rising t := fun t ht => by obtain ⟨u, hu, rfl⟩ := List.mem_map.1 ht; exact hr u hu
  refine order_told (sorted_order hn) (facets_order h.order) (fun y => ?_)
  rw [facets_mem hr' h, List.mem_map]
  constructor
  · rintro ⟨x, hx, rfl⟩
    have := (hm x).1 ((List.mergeSort_perm ss _).mem_iff.1 hx)
    exact ⟨face_ints.2 this.1, fun hi => this.2 (inner_ints.1 hi)⟩
  · rintro ⟨a, b⟩
    obtain ⟨x, rfl⟩ := face_from a
    exact ⟨x, (List.mergeSort_perm ss _).mem_iff.2 ((hm x).2 ⟨face_ints.1 a, fun hi => b (inner_ints.2 hi)⟩), rfl⟩

/-- A set of vertices, in any order. -/
def SetOk (l : List Int) : Prop := l ≠ [] ∧ l.Nodup ∧ ∀ v ∈ l, 0 ≤ v ∧ v ≤ 99

/-- The text of a set: its vertices, rising. -/
def TextOf (l : List Int) (t : List UInt8) : Prop := Rising (ints t) ∧ ∀ v : Int, v ∈ ints t ↔ v ∈ l

theorem text_sorted {l s : List Int} {t : List UInt8} (ht : TextOf l t) (hs : Rising s) (hm : ∀ v, v ∈ s ↔ v ∈ l) : ints t = s :=
  rising_told ht.1 hs (fun v => by rw [ht.2, hm])

end Go.Proofs.YthmjdfjchhohgaaGreatDoor
