/- Squares of an image and the pieces that they make: what a queue finds, and what marks that spread find, is all that can be reached; no program is spoken of. -/
import Derived.Test.YtbmojlnkjeapkaaGreatDoorMath0
namespace Go.Proofs.YtbmojlnkjeapkaaGreatDoor

/-- From one to the other by steps. -/
inductive Reach {α : Type} (R : α → α → Prop) (a : α) : α → Prop
  | here : Reach R a a
  | step {b c : α} : Reach R a b → R b c → Reach R a c

theorem Reach.trans {α : Type} {R : α → α → Prop} {a b c : α} (h : Reach R a b) (k : Reach R b c) : Reach R a c := by
  induction k with
  | here => exact h
  | step _ r ih => exact ih.step r

theorem Reach.symm {α : Type} {R : α → α → Prop} (hs : ∀ a b, R a b → R b a) {a b : α} (h : Reach R a b) : Reach R b a := by
  induction h with
  | here => exact .here
  | step _ r ih => exact (Reach.here.step (hs _ _ r)).trans ih

theorem Reach.keep {α : Type} {R : α → α → Prop} {P : α → Prop} (hP : ∀ a b, P a → R a b → P b) {a b : α} (h : Reach R a b) (ha : P a) : P b := by
  induction h with
  | here => exact ha
  | step _ r ih => exact hP _ _ ih r

/-- What those of a kind in a list reach. -/
def Met {α : Type} (K : α → Prop) (R : α → α → Prop) (d : List α) (b : α) : Prop := ∃ a ∈ d, K a ∧ Reach R a b

/-- One of the kind that those ahead do not reach. -/
def New {α : Type} (K : α → Prop) (R : α → α → Prop) (d : List α) (s : α) : Prop := K s ∧ ¬ Met K R d s

open Classical in
/-- Those of a list that are new, each held against those ahead of it. -/
noncomputable def starts {α : Type} (K : α → Prop) (R : α → α → Prop) (d : List α) : List α → List α
  | [] => []
  | s :: r => (if New K R d s then [s] else []) ++ starts K R (d ++ [s]) r

open Classical in
theorem starts_snoc {α : Type} (K : α → Prop) (R : α → α → Prop) (l : List α) (s : α) : ∀ d, starts K R d (l ++ [s]) = starts K R d l ++ (if New K R (d ++ l) s then [s] else []) := by
  induction l with
  | nil => intro d; simp [starts]
  | cons a l ih =>
    intro d
    simp only [List.cons_append, starts]
    rw [ih, List.append_assoc]
    simp

theorem starts_new {α : Type} {K : α → Prop} {R : α → α → Prop} {l : List α} {s : α} (h : New K R l s) : starts K R [] (l ++ [s]) = starts K R [] l ++ [s] := by
  rw [starts_snoc, if_pos (by simpa using h)]

theorem starts_skip {α : Type} {K : α → Prop} {R : α → α → Prop} {l : List α} {s : α} (h : ¬ New K R l s) : starts K R [] (l ++ [s]) = starts K R [] l := by
  rw [starts_snoc, if_neg (by simpa using h), List.append_nil]

theorem met_nil {α : Type} {K : α → Prop} {R : α → α → Prop} (b : α) : ¬ Met K R [] b := by rintro ⟨a, ha, _⟩; cases ha

theorem met_step {α : Type} {K : α → Prop} {R : α → α → Prop} {d : List α} {a b : α} (h : Met K R d a) (r : R a b) : Met K R d b := by
  obtain ⟨c, hc, hk, hr⟩ := h
  exact ⟨c, hc, hk, hr.step r⟩

theorem met_new {α : Type} {K : α → Prop} {R : α → α → Prop} {d : List α} {s b : α} (hs : K s) : Met K R (d ++ [s]) b ↔ Met K R d b ∨ Reach R s b := by
  constructor
  · rintro ⟨a, ha, hk, hr⟩
    rcases List.mem_append.1 ha with ha | ha
    · exact .inl ⟨a, ha, hk, hr⟩
    · cases List.mem_singleton.1 ha; exact .inr hr
  · rintro (⟨a, ha, hk, hr⟩ | hr)
    · exact ⟨a, List.mem_append_left _ ha, hk, hr⟩
    · exact ⟨s, by simp, hs, hr⟩

theorem met_skip {α : Type} {K : α → Prop} {R : α → α → Prop} {d : List α} {s b : α} (h : ¬ New K R d s) : Met K R (d ++ [s]) b ↔ Met K R d b := by
  by_cases hk : K s
  · have hm : Met K R d s := Classical.byContradiction fun hm => h ⟨hk, hm⟩
    rw [met_new hk]
    refine ⟨fun h => h.elim id fun hr => ?_, .inl⟩
    obtain ⟨a, ha, hka, hra⟩ := hm
    exact ⟨a, ha, hka, hra.trans hr⟩
  · constructor
    · rintro ⟨a, ha, hka, hr⟩
      rcases List.mem_append.1 ha with ha | ha
      · exact ⟨a, ha, hka, hr⟩
      · cases List.mem_singleton.1 ha; exact absurd hka hk
    · rintro ⟨a, ha, hka, hr⟩
      exact ⟨a, List.mem_append_left _ ha, hka, hr⟩

/-- What is met ahead is not of a new one's piece. -/
theorem new_apart {α : Type} {K : α → Prop} {R : α → α → Prop} (hs : ∀ a b, R a b → R b a) {d : List α} {s b : α} (h : New K R d s) (hr : Reach R s b) : ¬ Met K R d b :=
  fun hm => h.2 ((hr.symm hs).keep (P := Met K R d) (fun _ _ => met_step) hm)

/-- A queue under way: what is in it is reached and each once; of the first i all that is a step away is in it. -/
structure Queue {α : Type} (R : α → α → Prop) (s : α) (p : List α) (i : Nat) : Prop where
  nodup : p.Nodup
  start : s ∈ p
  reach : ∀ a ∈ p, Reach R s a
  done : ∀ j, j < i → ∀ a, p[j]? = some a → ∀ b, R a b → b ∈ p

theorem queue_first {α : Type} (R : α → α → Prop) (s : α) : Queue R s [s] 0 :=
  ⟨by simp, by simp, fun a ha => by cases List.mem_singleton.1 ha; exact .here, fun j hj => absurd hj (Nat.not_lt_zero j)⟩

theorem queue_push {α : Type} {R : α → α → Prop} {s : α} {p : List α} {i : Nat} (h : Queue R s p i) (hi : i ≤ p.length) {b : α} (hr : Reach R s b) (hb : b ∉ p) : Queue R s (p ++ [b]) i := by
  refine ⟨?_, List.mem_append_left _ h.start, ?_, ?_⟩
  · rw [List.nodup_append]
    exact ⟨h.nodup, by simp, fun x hx y hy e => by cases List.mem_singleton.1 hy; exact hb (e ▸ hx)⟩
  · intro a ha
    rcases List.mem_append.1 ha with ha | ha
    · exact h.reach a ha
    · cases List.mem_singleton.1 ha; exact hr
  · intro j hj a ha c hc
    rw [List.getElem?_append_left (by omega)] at ha
    exact List.mem_append_left _ (h.done j hj a ha c hc)

theorem queue_next {α : Type} {R : α → α → Prop} {s : α} {p : List α} {i : Nat} (h : Queue R s p i) {q : α} (hq : p[i]? = some q) (hd : ∀ b, R q b → b ∈ p) : Queue R s p (i + 1) := by
  refine ⟨h.nodup, h.start, h.reach, fun j hj a ha => ?_⟩
  by_cases e : j = i
  · subst e
    rw [hq] at ha
    cases ha
    exact hd
  · exact h.done j (by omega) a ha

theorem queue_end {α : Type} {R : α → α → Prop} {s : α} {p : List α} {i : Nat} (h : Queue R s p i) (hi : p.length ≤ i) (b : α) : b ∈ p ↔ Reach R s b := by
  refine ⟨h.reach b, fun hr => hr.keep (P := fun a => a ∈ p) (fun a c ha hac => ?_) h.start⟩
  obtain ⟨j, hj, rfl⟩ := List.getElem_of_mem ha
  exact h.done j (by omega) _ (List.getElem?_eq_getElem hj) c hac

/-- Marks that spread: the new mark is at the start and at nothing but what is reached; what has another mark is what was met. -/
structure Marked {α : Type} (R : α → α → Prop) (M : α → Prop) (s : α) (n : Int) (I : α → Prop) (f : α → Int) : Prop where
  start : f s = n
  reach : ∀ a, I a → f a = n → Reach R s a
  old : ∀ a, I a → (0 < f a ↔ M a ∨ f a = n)

/-- One more mark. -/
def putM {α : Type} [DecidableEq α] (f : α → Int) (b : α) (n : Int) (a : α) : Int := if a = b then n else f a

theorem marked_first {α : Type} [DecidableEq α] {R : α → α → Prop} {M : α → Prop} {I : α → Prop} {s : α} {n : Int} {f : α → Int} (hn : 0 < n) (hf : ∀ a, I a → f a ≠ n) (ho : ∀ a, I a → (0 < f a ↔ M a)) : Marked R M s n I (putM f s n) := by
  refine ⟨by simp [putM], fun a hI h => ?_, fun a hI => ?_⟩
  · by_cases e : a = s
    · subst e; exact .here
    · simp only [putM, if_neg e] at h; exact absurd h (hf a hI)
  · by_cases e : a = s
    · subst e; simp [putM, hn]
    · simp only [putM, if_neg e]
      rw [ho a hI]
      exact ⟨.inl, fun h => h.elim id fun h => absurd h (hf a hI)⟩

theorem marked_put {α : Type} [DecidableEq α] {R : α → α → Prop} {M : α → Prop} {I : α → Prop} {s : α} {n : Int} {f : α → Int} (hn : 0 < n) (h : Marked R M s n I f) {b : α} (hr : Reach R s b) : Marked R M s n I (putM f b n) := by
  refine ⟨?_, fun a hI ha => ?_, fun a hI => ?_⟩
  · by_cases e : s = b
    · simp [putM, e]
    · simp only [putM, if_neg e]; exact h.start
  · by_cases e : a = b
    · subst e; exact hr
    · simp only [putM, if_neg e] at ha; exact h.reach a hI ha
  · by_cases e : a = b
    · subst e; simp [putM, hn]
    · simp only [putM, if_neg e]; exact h.old a hI

theorem marked_end {α : Type} {R : α → α → Prop} {M : α → Prop} {I : α → Prop} {s : α} {n : Int} {f : α → Int} (h : Marked R M s n I f) (hs : I s) (hI : ∀ a b, R a b → I b) (hd : ∀ a, I a → f a = n → ∀ b, R a b → f b = n) (b : α) (hb : I b) : f b = n ↔ Reach R s b :=
  ⟨h.reach b hb, fun hr => (hr.keep (P := fun a => I a ∧ f a = n) (fun a c ha hac => ⟨hI a c hac, hd a ha.1 ha.2 c hac⟩) ⟨hs, h.start⟩).2⟩

/-- How many of a list have no mark. -/
def bare {α : Type} (l : List α) (f : α → Int) : Nat := l.countP fun a => decide (f a = 0)

theorem countP_le_of {α : Type} {p q : α → Bool} : ∀ {l : List α}, (∀ a ∈ l, p a = true → q a = true) → l.countP p ≤ l.countP q
  | [], _ => Nat.le_refl _
  | a :: l, h => by
    have ih := countP_le_of (l := l) fun b hb => h b (List.mem_cons_of_mem _ hb)
    have ha := h a (List.mem_cons_self ..)
    rw [List.countP_cons, List.countP_cons]
    by_cases hp : p a = true
    · rw [if_pos hp, if_pos (ha hp)]; omega
    · rw [if_neg hp]; omega

theorem countP_lt_of {α : Type} {p q : α → Bool} : ∀ {l : List α}, (∀ a ∈ l, p a = true → q a = true) → (∃ b ∈ l, q b = true ∧ p b = false) → l.countP p < l.countP q
  | [], _, ⟨b, hb, _⟩ => by cases hb
  | a :: l, h, ⟨b, hb, hq, hp⟩ => by
    rw [List.countP_cons, List.countP_cons]
    have hl : ∀ b ∈ l, p b = true → q b = true := fun b hb => h b (List.mem_cons_of_mem _ hb)
    rcases List.mem_cons.1 hb with rfl | hb
    · rw [if_neg (by simp [hp]), if_pos hq]
      have := countP_le_of hl
      omega
    · have := countP_lt_of hl ⟨b, hb, hq, hp⟩
      have ha := h a (List.mem_cons_self ..)
      by_cases hpa : p a = true
      · rw [if_pos hpa, if_pos (ha hpa)]; omega
      · rw [if_neg hpa]; omega

theorem bare_put {α : Type} [DecidableEq α] {l : List α} {f : α → Int} {b : α} {n : Int} (hn : 0 < n) (hb : b ∈ l) (h0 : f b = 0) : bare l (putM f b n) < bare l f := by
  unfold bare
  refine countP_lt_of (fun a _ h => ?_) ⟨b, hb, by simpa using h0, by simp [putM]; omega⟩
  simp only [putM, decide_eq_true_eq] at h ⊢
  split at h
  · have h := of_decide_eq_true h
    omega
  · exact of_decide_eq_true h

/-- A look through all squares under way: nothing was new, and then all of those looked at have what is beside them marked; or something was. -/
structure Scan {α : Type} (R : α → α → Prop) (n : Int) (all d : List α) (f0 f : α → Int) (again : Bool) : Prop where
  same : again = false → ∀ a ∈ d, f a = n → ∀ b, R a b → f b = n
  fewer : again = true → bare all f < bare all f0
  most : bare all f ≤ bare all f0

/-- A square's place in its row and its row's. -/
abbrev Sq := Int × Int

/-- Squares of a row, from the left. -/
def rowTo (y x : Nat) : List Sq := (List.range x).map fun (i : Nat) => ((i : Int), (y : Int))

/-- Squares of the first rows. -/
def sqTo (w y : Nat) : List Sq := (List.range y).flatMap fun k => rowTo k w

theorem rowTo_zero (y : Nat) : rowTo y 0 = [] := rfl
theorem rowTo_succ (y x : Nat) : rowTo y (x + 1) = rowTo y x ++ [((x : Int), (y : Int))] := by simp [rowTo, List.range_succ]
theorem sqTo_zero (w : Nat) : sqTo w 0 = [] := rfl
theorem sqTo_succ (w y : Nat) : sqTo w (y + 1) = sqTo w y ++ rowTo y w := by simp [sqTo, List.range_succ]
theorem rowTo_len (y x : Nat) : (rowTo y x).length = x := by simp [rowTo]
theorem sqTo_len (w y : Nat) : (sqTo w y).length = y * w := by
  induction y with
  | zero => simp [sqTo_zero]
  | succ y ih => rw [sqTo_succ, List.length_append, ih, rowTo_len, Nat.succ_mul]

/-- A square of an image of so many columns and rows. -/
def InSq (w h : Nat) (a : Sq) : Prop := 0 ≤ a.1 ∧ a.1 < (w : Int) ∧ 0 ≤ a.2 ∧ a.2 < (h : Int)

instance (w h : Nat) (a : Sq) : Decidable (InSq w h a) := inferInstanceAs (Decidable (_ ∧ _))

theorem mem_rowTo {y x : Nat} {a : Sq} : a ∈ rowTo y x ↔ 0 ≤ a.1 ∧ a.1 < (x : Int) ∧ a.2 = (y : Int) := by
  unfold rowTo
  rw [List.mem_map]
  constructor
  · rintro ⟨i, hi, rfl⟩
    have := List.mem_range.1 hi
    refine ⟨?_, ?_, rfl⟩
    · show (0 : Int) ≤ (i : Int); omega
    · show (i : Int) < (x : Int); omega
  · rintro ⟨h0, h1, h2⟩
    refine ⟨a.1.toNat, List.mem_range.2 (by omega), ?_⟩
    obtain ⟨u, v⟩ := a
    simp only at h0 h1 h2 ⊢
    rw [Int.toNat_of_nonneg h0, h2]

theorem mem_sqTo {w h : Nat} {a : Sq} : a ∈ sqTo w h ↔ InSq w h a := by
  unfold sqTo InSq
  rw [List.mem_flatMap]
  constructor
  · rintro ⟨k, hk, ha⟩
    have := List.mem_range.1 hk
    have h := mem_rowTo.1 ha
    omega
  · rintro ⟨h0, h1, h2, h3⟩
    refine ⟨a.2.toNat, List.mem_range.2 (by omega), mem_rowTo.2 ⟨h0, h1, ?_⟩⟩
    rw [Int.toNat_of_nonneg h2]

/-- An image's byte at a square. -/
def byteOf (m : List (List UInt8)) (a : Sq) : UInt8 := (m[a.2.toNat]?.getD [])[a.1.toNat]?.getD 0

/-- How far the next ones are: along an edge, or along a corner too. -/
def NearBy (c : Bool) (dx dy : Int) : Prop := -1 ≤ dx ∧ dx ≤ 1 ∧ -1 ≤ dy ∧ dy ≤ 1 ∧ (c = true ∨ dx = 0 ∨ dy = 0)

/-- A step from a square to one beside it that is alike (itself among them). -/
def StepTo (m : List (List UInt8)) (w h : Nat) (c : Bool) (a b : Sq) : Prop := InSq w h a ∧ InSq w h b ∧ byteOf m a = byteOf m b ∧ NearBy c (b.1 - a.1) (b.2 - a.2)

theorem step_symm {m : List (List UInt8)} {w h : Nat} {c : Bool} (a b : Sq) (s : StepTo m w h c a b) : StepTo m w h c b a := by
  obtain ⟨ha, hb, he, hn⟩ := s
  unfold NearBy at hn
  refine ⟨hb, ha, he.symm, ?_⟩
  unfold NearBy
  obtain ⟨h1, h2, h3, h4, h5⟩ := hn
  refine ⟨by omega, by omega, by omega, by omega, ?_⟩
  rcases h5 with h5 | h5 | h5
  · exact .inl h5
  · exact .inr (.inl (by omega))
  · exact .inr (.inr (by omega))

theorem reach_in {m : List (List UInt8)} {w h : Nat} {c : Bool} {a b : Sq} (r : Reach (StepTo m w h c) a b) (ha : InSq w h a) : InSq w h b :=
  r.keep (P := InSq w h) (fun _ _ _ s => s.2.1) ha

theorem reach_byte {m : List (List UInt8)} {w h : Nat} {c : Bool} {a b : Sq} (r : Reach (StepTo m w h c) a b) : byteOf m a = byteOf m b :=
  r.keep (P := fun b => byteOf m a = byteOf m b) (fun _ _ e s => e.trans s.2.2.1) rfl

/-- A queue of squares is no longer than the image. -/
theorem queue_len {m : List (List UInt8)} {w h : Nat} {c : Bool} {s : Sq} {p : List Sq} {i : Nat} (q : Queue (StepTo m w h c) s p i) (hs : InSq w h s) : p.length ≤ h * w := by
  have := nodup_le q.nodup (Y := sqTo w h) fun a ha => mem_sqTo.2 (reach_in (q.reach a ha) hs)
  rwa [sqTo_len] at this

/-- Squares of an image that are of a kind. -/
def OfKind (m : List (List UInt8)) (w h : Nat) (k : UInt8) (a : Sq) : Prop := InSq w h a ∧ byteOf m a = k

/-- A square at the image's rim. -/
def AtRim (w h : Nat) (a : Sq) : Prop := a.1 = 0 ∨ a.2 = 0 ∨ a.1 = (w : Int) - 1 ∨ a.2 = (h : Int) - 1

/-- The pieces of a kind, by their first squares. -/
noncomputable def firsts (m : List (List UInt8)) (w h : Nat) (k : UInt8) (c : Bool) : List Sq := starts (OfKind m w h k) (StepTo m w h c) [] (sqTo w h)

/-- Of a square's piece none is at the rim. -/
def Inner (m : List (List UInt8)) (w h : Nat) (c : Bool) (s : Sq) : Prop := ∀ a, Reach (StepTo m w h c) s a → ¬ AtRim w h a

open Classical in
/-- How many pieces of a kind there are; how many of them do not come to the rim. -/
noncomputable def piecesN (m : List (List UInt8)) (w h : Nat) : Nat := (firsts m w h 35 true).length
open Classical in
noncomputable def holesN (m : List (List UInt8)) (w h : Nat) : Nat := (firsts m w h 46 false).countP fun s => decide (Inner m w h false s)

end Go.Proofs.YtbmojlnkjeapkaaGreatDoor
