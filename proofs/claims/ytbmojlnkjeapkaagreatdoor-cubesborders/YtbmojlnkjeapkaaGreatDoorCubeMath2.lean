/- Corners, edges and squares of an image, counted in two ways; the image of eight squares around a hole; no program is spoken of. -/
import Derived.Test.YtbmojlnkjeapkaaGreatDoorCubeMath
namespace Go.Proofs.YtbmojlnkjeapkaaGreatDoor

theorem starts_append {α : Type} (K : α → Prop) (R : α → α → Prop) (a b : List α) : ∀ d, starts K R d (a ++ b) = starts K R d a ++ starts K R (d ++ a) b := by
  induction a with
  | nil => intro d; simp [starts]
  | cons x a ih =>
    intro d
    simp only [List.cons_append, starts]
    rw [ih, List.append_assoc]
    simp

theorem starts_none {α : Type} {K : α → Prop} {R : α → α → Prop} : ∀ {l d : List α}, (∀ a ∈ l, K a → Met K R d a) → starts K R d l = []
  | [], _, _ => rfl
  | s :: r, d, h => by
    unfold starts
    rw [if_neg fun n => n.2 (h s (List.mem_cons_self ..) n.1), starts_none fun a ha hk => ?_]
    · rfl
    · obtain ⟨c, hc, hkc, hr⟩ := h a (List.mem_cons_of_mem _ ha) hk
      exact ⟨c, List.mem_append_left _ hc, hkc, hr⟩

theorem starts_one {α : Type} {K : α → Prop} {R : α → α → Prop} {p r : List α} {s : α} (hp : ∀ a ∈ p, ¬ K a) (hs : K s) (hr : ∀ a ∈ r, K a → Reach R s a) : starts K R [] (p ++ s :: r) = [s] := by
  rw [starts_append, starts_none fun a ha hk => absurd hk (hp a ha)]
  have hn : New K R ([] ++ p) s := by
    refine ⟨hs, ?_⟩
    rintro ⟨a, ha, hk, _⟩
    exact hp a (by simpa using ha) hk
  unfold starts
  rw [if_pos hn, starts_none fun a ha hk => ⟨s, by simp, hs, hr a ha hk⟩]
  rfl

/-- Is there a full square? -/
def fullAt (m : List (List UInt8)) (w h : Nat) (x y : Int) : Bool := decide (InSq w h (x, y)) && byteOf m (x, y) == 35

/-- What stands at a corner: the corner, the edge to the right, the edge downward, the square. -/
def cornerB (f : Int → Int → Bool) (a : Sq) : Bool := f a.1 a.2 || f (a.1 - 1) a.2 || f a.1 (a.2 - 1) || f (a.1 - 1) (a.2 - 1)
def rightB (f : Int → Int → Bool) (a : Sq) : Bool := f a.1 a.2 || f a.1 (a.2 - 1)
def downB (f : Int → Int → Bool) (a : Sq) : Bool := f a.1 a.2 || f (a.1 - 1) a.2
def hereB (f : Int → Int → Bool) (a : Sq) : Bool := f a.1 a.2

/-- A look beside a cell (by twice its middle) that finds a full square. -/
def Hit (f : Int → Int → Bool) (X Y dx dy : Int) : Prop :=
  (X + dx + 2) % 2 = 1 ∧ (Y + dy + 2) % 2 = 1 ∧ (dx = 0 ∨ X % 2 = 0) ∧ (dy = 0 ∨ Y % 2 = 0) ∧ 0 < X + dx ∧ 0 < Y + dy ∧ f ((X + dx - 1) / 2) ((Y + dy - 1) / 2) = true

/-- Some look finds one. -/
def HitAny (f : Int → Int → Bool) (X Y : Int) : Prop := ∃ dx dy : Int, -1 ≤ dx ∧ dx ≤ 1 ∧ -1 ≤ dy ∧ dy ≤ 1 ∧ Hit f X Y dx dy

/-- Nothing is full out of the image. -/
def Fenced (f : Int → Int → Bool) : Prop := ∀ x y, f x y = true → 0 ≤ x ∧ 0 ≤ y

theorem full_fenced (m : List (List UInt8)) (w h : Nat) : Fenced (fullAt m w h) := by
  intro x y hf
  unfold fullAt at hf
  simp only [Bool.and_eq_true, decide_eq_true_eq] at hf
  exact ⟨hf.1.1, hf.1.2.2.1⟩

theorem hit_corner {f : Int → Int → Bool} (hf : Fenced f) {x y : Int} (hx : 0 ≤ x) (hy : 0 ≤ y) : HitAny f (2 * x) (2 * y) ↔ cornerB f (x, y) = true := by
  constructor
  · rintro ⟨dx, dy, h1, h2, h3, h4, a1, a2, _, _, a5, a6, a7⟩
    have ex : dx = 1 ∨ dx = -1 := by omega
    have ey : dy = 1 ∨ dy = -1 := by omega
    unfold cornerB
    simp only [Bool.or_eq_true]
    rcases ex with rfl | rfl <;> rcases ey with rfl | rfl
    · rw [show (2 * x + 1 - 1) / 2 = x by omega, show (2 * y + 1 - 1) / 2 = y by omega] at a7; exact .inl (.inl (.inl a7))
    · rw [show (2 * x + 1 - 1) / 2 = x by omega, show (2 * y + -1 - 1) / 2 = y - 1 by omega] at a7; exact .inl (.inr a7)
    · rw [show (2 * x + -1 - 1) / 2 = x - 1 by omega, show (2 * y + 1 - 1) / 2 = y by omega] at a7; exact .inl (.inl (.inr a7))
    · rw [show (2 * x + -1 - 1) / 2 = x - 1 by omega, show (2 * y + -1 - 1) / 2 = y - 1 by omega] at a7; exact .inr a7
  · intro h
    unfold cornerB at h
    simp only [Bool.or_eq_true] at h
    rcases h with ((h | h) | h) | h
    · refine ⟨1, 1, by omega, by omega, by omega, by omega, by omega, by omega, by omega, by omega, by omega, by omega, ?_⟩
      rw [show (2 * x + 1 - 1) / 2 = x by omega, show (2 * y + 1 - 1) / 2 = y by omega]; exact h
    · have := hf _ _ h
      refine ⟨-1, 1, by omega, by omega, by omega, by omega, by omega, by omega, by omega, by omega, by omega, by omega, ?_⟩
      rw [show (2 * x + -1 - 1) / 2 = x - 1 by omega, show (2 * y + 1 - 1) / 2 = y by omega]; exact h
    · have := hf _ _ h
      refine ⟨1, -1, by omega, by omega, by omega, by omega, by omega, by omega, by omega, by omega, by omega, by omega, ?_⟩
      rw [show (2 * x + 1 - 1) / 2 = x by omega, show (2 * y + -1 - 1) / 2 = y - 1 by omega]; exact h
    · have := hf _ _ h
      refine ⟨-1, -1, by omega, by omega, by omega, by omega, by omega, by omega, by omega, by omega, by omega, by omega, ?_⟩
      rw [show (2 * x + -1 - 1) / 2 = x - 1 by omega, show (2 * y + -1 - 1) / 2 = y - 1 by omega]; exact h

theorem hit_right {f : Int → Int → Bool} (hf : Fenced f) {x y : Int} (hx : 0 ≤ x) (hy : 0 ≤ y) : HitAny f (2 * x + 1) (2 * y) ↔ rightB f (x, y) = true := by
  constructor
  · rintro ⟨dx, dy, h1, h2, h3, h4, a1, a2, a3, _, a5, a6, a7⟩
    have ex : dx = 0 := by omega
    have ey : dy = 1 ∨ dy = -1 := by omega
    unfold rightB
    simp only [Bool.or_eq_true]
    subst ex
    rcases ey with rfl | rfl
    · rw [show (2 * x + 1 + 0 - 1) / 2 = x by omega, show (2 * y + 1 - 1) / 2 = y by omega] at a7; exact .inl a7
    · rw [show (2 * x + 1 + 0 - 1) / 2 = x by omega, show (2 * y + -1 - 1) / 2 = y - 1 by omega] at a7; exact .inr a7
  · intro h
    unfold rightB at h
    simp only [Bool.or_eq_true] at h
    rcases h with h | h
    · refine ⟨0, 1, by omega, by omega, by omega, by omega, by omega, by omega, by omega, by omega, by omega, by omega, ?_⟩
      rw [show (2 * x + 1 + 0 - 1) / 2 = x by omega, show (2 * y + 1 - 1) / 2 = y by omega]; exact h
    · have := hf _ _ h
      refine ⟨0, -1, by omega, by omega, by omega, by omega, by omega, by omega, by omega, by omega, by omega, by omega, ?_⟩
      rw [show (2 * x + 1 + 0 - 1) / 2 = x by omega, show (2 * y + -1 - 1) / 2 = y - 1 by omega]; exact h

theorem hit_down {f : Int → Int → Bool} (hf : Fenced f) {x y : Int} (hx : 0 ≤ x) (hy : 0 ≤ y) : HitAny f (2 * x) (2 * y + 1) ↔ downB f (x, y) = true := by
  constructor
  · rintro ⟨dx, dy, h1, h2, h3, h4, a1, a2, _, a4, a5, a6, a7⟩
    have ex : dx = 1 ∨ dx = -1 := by omega
    have ey : dy = 0 := by omega
    unfold downB
    simp only [Bool.or_eq_true]
    subst ey
    rcases ex with rfl | rfl
    · rw [show (2 * x + 1 - 1) / 2 = x by omega, show (2 * y + 1 + 0 - 1) / 2 = y by omega] at a7; exact .inl a7
    · rw [show (2 * x + -1 - 1) / 2 = x - 1 by omega, show (2 * y + 1 + 0 - 1) / 2 = y by omega] at a7; exact .inr a7
  · intro h
    unfold downB at h
    simp only [Bool.or_eq_true] at h
    rcases h with h | h
    · refine ⟨1, 0, by omega, by omega, by omega, by omega, by omega, by omega, by omega, by omega, by omega, by omega, ?_⟩
      rw [show (2 * x + 1 - 1) / 2 = x by omega, show (2 * y + 1 + 0 - 1) / 2 = y by omega]; exact h
    · have := hf _ _ h
      refine ⟨-1, 0, by omega, by omega, by omega, by omega, by omega, by omega, by omega, by omega, by omega, by omega, ?_⟩
      rw [show (2 * x + -1 - 1) / 2 = x - 1 by omega, show (2 * y + 1 + 0 - 1) / 2 = y by omega]; exact h

theorem hit_here {f : Int → Int → Bool} {x y : Int} (hx : 0 ≤ x) (hy : 0 ≤ y) : HitAny f (2 * x + 1) (2 * y + 1) ↔ hereB f (x, y) = true := by
  unfold hereB
  constructor
  · rintro ⟨dx, dy, h1, h2, h3, h4, a1, a2, a3, a4, a5, a6, a7⟩
    have ex : dx = 0 := by omega
    have ey : dy = 0 := by omega
    subst ex ey
    rwa [show (2 * x + 1 + 0 - 1) / 2 = x by omega, show (2 * y + 1 + 0 - 1) / 2 = y by omega] at a7
  · intro h
    refine ⟨0, 0, by omega, by omega, by omega, by omega, by omega, by omega, by omega, by omega, by omega, by omega, ?_⟩
    rwa [show (2 * x + 1 + 0 - 1) / 2 = x by omega, show (2 * y + 1 + 0 - 1) / 2 = y by omega]

/-- How many corners, edges and squares those of a list have. -/
def cornersN (f : Int → Int → Bool) (l : List Sq) : Nat := l.countP (cornerB f)
def edgesN (f : Int → Int → Bool) (l : List Sq) : Nat := l.countP (rightB f) + l.countP (downB f)
def squaresN (f : Int → Int → Bool) (l : List Sq) : Nat := l.countP (hereB f)

theorem countP_snoc {α : Type} (p : α → Bool) (l : List α) (a : α) : (l ++ [a]).countP p = l.countP p + (if p a = true then 1 else 0) := by
  rw [List.countP_append, List.countP_singleton]

/-- Eight squares around a hole. -/
def ringM : List (List UInt8) := [[35, 35, 35], [35, 46, 35], [35, 35, 35]]

theorem ring_counts : cornersN (fullAt ringM 3 3) (sqTo 4 4) = 16 ∧ edgesN (fullAt ringM 3 3) (sqTo 4 4) = 24 ∧ squaresN (fullAt ringM 3 3) (sqTo 4 4) = 8 := by decide

theorem ring_step {a b : Sq} (c : Bool) (h : decide (InSq 3 3 a) = true ∧ decide (InSq 3 3 b) = true ∧ byteOf ringM a = byteOf ringM b ∧ -1 ≤ b.1 - a.1 ∧ b.1 - a.1 ≤ 1 ∧ -1 ≤ b.2 - a.2 ∧ b.2 - a.2 ≤ 1 ∧ (b.1 - a.1 = 0 ∨ b.2 - a.2 = 0)) : StepTo ringM 3 3 c a b :=
  ⟨of_decide_eq_true h.1, of_decide_eq_true h.2.1, h.2.2.1, h.2.2.2.1, h.2.2.2.2.1, h.2.2.2.2.2.1, h.2.2.2.2.2.2.1, .inr h.2.2.2.2.2.2.2⟩

theorem ring_pieces : piecesN ringM 3 3 = 1 := by
  have e : sqTo 3 3 = [] ++ ((0, 0) : Sq) :: [(1, 0), (2, 0), (0, 1), (1, 1), (2, 1), (0, 2), (1, 2), (2, 2)] := by decide
  unfold piecesN firsts
  rw [e, starts_one (fun a ha => by cases ha) ⟨by decide, by decide⟩]
  · rfl
  · have r10 : Reach (StepTo ringM 3 3 true) (0, 0) (1, 0) := Reach.here.step (ring_step true (by decide))
    have r20 : Reach (StepTo ringM 3 3 true) (0, 0) (2, 0) := r10.step (ring_step true (by decide))
    have r01 : Reach (StepTo ringM 3 3 true) (0, 0) (0, 1) := Reach.here.step (ring_step true (by decide))
    have r02 : Reach (StepTo ringM 3 3 true) (0, 0) (0, 2) := r01.step (ring_step true (by decide))
    have r21 : Reach (StepTo ringM 3 3 true) (0, 0) (2, 1) := r20.step (ring_step true (by decide))
    have r12 : Reach (StepTo ringM 3 3 true) (0, 0) (1, 2) := r02.step (ring_step true (by decide))
    have r22 : Reach (StepTo ringM 3 3 true) (0, 0) (2, 2) := r12.step (ring_step true (by decide))
    intro a ha hk
    simp only [List.mem_cons, List.not_mem_nil, or_false] at ha
    rcases ha with rfl | rfl | rfl | rfl | rfl | rfl | rfl | rfl
    · exact r10
    · exact r20
    · exact r01
    · exact absurd hk.2 (by decide)
    · exact r21
    · exact r02
    · exact r12
    · exact r22

theorem ring_hole {a : Sq} (hi : InSq 3 3 a) (hb : byteOf ringM a = 46) : a = (1, 1) := by
  have h : ∀ a ∈ sqTo 3 3, byteOf ringM a = 46 → a = (1, 1) := by decide
  exact h a (mem_sqTo.2 hi) hb

theorem ring_holes : holesN ringM 3 3 = 1 := by
  have e : sqTo 3 3 = [((0, 0) : Sq), (1, 0), (2, 0), (0, 1)] ++ ((1, 1) : Sq) :: [(2, 1), (0, 2), (1, 2), (2, 2)] := by decide
  unfold holesN firsts
  rw [e, starts_one ?_ ⟨by decide, by decide⟩ ?_]
  · have hI : Inner ringM 3 3 false (1, 1) := by
      intro a hr
      have h := hr.keep (P := fun b => b = ((1, 1) : Sq)) (fun b c hb s => by
        subst hb
        exact ring_hole s.2.1 (s.2.2.1.symm.trans (by decide))) rfl
      subst h
      unfold AtRim
      decide
    simp [hI]
  · intro a ha hk
    have h : ∀ a ∈ [((0, 0) : Sq), (1, 0), (2, 0), (0, 1)], ¬ byteOf ringM a = 46 := by decide
    exact h a ha hk.2
  · intro a ha hk
    have h : ∀ a ∈ [((2, 1) : Sq), (0, 2), (1, 2), (2, 2)], ¬ byteOf ringM a = 46 := by decide
    exact absurd hk.2 (h a ha)

end Go.Proofs.YtbmojlnkjeapkaaGreatDoor
