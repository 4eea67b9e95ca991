/- Cochains over two elements as functions of faces, without Go: a delta has none, LEIBNIZ, and that the order of a product makes no difference (by STEENROD's product of one dimension less). -/
namespace Go.Proofs.YtiblgnkjjbbmaaaDoor

/-- A delta, at a face: the sum over the face without one vertex each. -/
def dl : List Int → (List Int → Bool) → Bool
  | [], _ => false
  | a :: x, f => f x ^^ dl x (fun y => f (a :: y))
theorem dl_xor : ∀ (x : List Int) (f g : List Int → Bool), dl x (fun y => f y ^^ g y) = (dl x f ^^ dl x g)
  | [], _, _ => rfl
  | a :: x, f, g => by
    simp only [dl]
    rw [dl_xor x (fun y => f (a :: y)) (fun y => g (a :: y))]
    cases f x <;> cases g x <;> cases dl x (fun y => f (a :: y)) <;> cases dl x (fun y => g (a :: y)) <;> rfl
theorem dl_and : ∀ (x : List Int) (c : Bool) (f : List Int → Bool), dl x (fun y => c && f y) = (c && dl x f)
  | [], c, _ => by cases c <;> rfl
  | a :: x, c, f => by
    simp only [dl]
    rw [dl_and x c (fun y => f (a :: y))]
    cases c <;> simp
theorem dl_false : ∀ x : List Int, dl x (fun _ => false) = false
  | [] => rfl
  | a :: x => by simp only [dl]; rw [dl_false x]; rfl
/-- A delta has none. -/
theorem dl_dl : ∀ (x : List Int) (f : List Int → Bool), dl x (fun y => dl y f) = false
  | [], _ => rfl
  | a :: x, f => by
    have h : dl x (fun y => dl (a :: y) f) = (dl x f ^^ dl x (fun y => dl y (fun z => f (a :: z)))) := dl_xor x f (fun y => dl y (fun z => f (a :: z)))
    show (dl x f ^^ dl x (fun y => dl (a :: y) f)) = false
    rw [h, dl_dl x (fun z => f (a :: z))]
    cases dl x f <;> rfl

/-- A product, at a face. -/
def cp (i : Nat) (f g : List Int → Bool) (x : List Int) : Bool := f (x.take (i + 1)) && g (x.drop i)
theorem cp_cons (i : Nat) (f g : List Int → Bool) (a : Int) (x : List Int) : cp (i + 1) f g (a :: x) = cp i (fun y => f (a :: y)) g x := rfl
theorem cp_left (i : Nat) (f f' g : List Int → Bool) (x : List Int) : cp i (fun y => f y ^^ f' y) g x = (cp i f g x ^^ cp i f' g x) := by
  simp only [cp]
  cases f (x.take (i + 1)) <;> cases f' (x.take (i + 1)) <;> cases g (x.drop i) <;> rfl
theorem cp_right (i : Nat) (f g g' : List Int → Bool) (x : List Int) : cp i f (fun y => g y ^^ g' y) x = (cp i f g x ^^ cp i f g' x) := by
  simp only [cp]
  cases f (x.take (i + 1)) <;> cases g (x.drop i) <;> cases g' (x.drop i) <;> rfl
/-- LEIBNIZ. -/
theorem leibniz : ∀ (i : Nat) (f g : List Int → Bool) (x : List Int), i + 2 ≤ x.length → dl x (cp i f g) = (cp (i + 1) (fun y => dl y f) g x ^^ cp i f (fun y => dl y g) x)
  | 0, f, g, x, h => by
    match x, h with
    | a :: b :: y, _ =>
      have e1 : dl (b :: y) (fun z => cp 0 f g (a :: z)) = (f [a] && dl (b :: y) (fun z => g (a :: z))) := dl_and (b :: y) (f [a]) (fun z => g (a :: z))
      show (cp 0 f g (b :: y) ^^ dl (b :: y) (fun z => cp 0 f g (a :: z))) = _
      rw [e1]
      have e2 : cp 1 (fun y => dl y f) g (a :: b :: y) = ((f [b] ^^ f [a]) && g (b :: y)) := by
        show (dl [a, b] f && g (b :: y)) = _
        simp [dl]
      have e3 : cp 0 f (fun y => dl y g) (a :: b :: y) = (f [a] && (g (b :: y) ^^ dl (b :: y) (fun z => g (a :: z)))) := rfl
      have e4 : cp 0 f g (b :: y) = (f [b] && g (b :: y)) := rfl
      rw [e2, e3, e4]
      cases f [a] <;> cases f [b] <;> cases g (b :: y) <;> cases dl (b :: y) (fun z => g (a :: z)) <;> rfl
  | i + 1, f, g, x, h => by
    match x, h with
    | a :: x, h =>
      have ih := leibniz i (fun y => f (a :: y)) g x (by simp at h; omega)
      have e0 : dl (a :: x) (cp (i + 1) f g) = (cp (i + 1) f g x ^^ dl x (cp i (fun y => f (a :: y)) g)) := rfl
      have e1 : cp (i + 1 + 1) (fun y => dl y f) g (a :: x) = cp (i + 1) (fun y => f y ^^ dl y (fun z => f (a :: z))) g x := rfl
      have e2 : cp (i + 1) f (fun y => dl y g) (a :: x) = cp i (fun y => f (a :: y)) (fun y => dl y g) x := rfl
      rw [e0, ih, e1, e2, cp_left]
      generalize cp (i + 1) f g x = A
      generalize cp (i + 1) (fun y => dl y (fun z => f (a :: z))) g x = B
      generalize cp i (fun y => f (a :: y)) (fun y => dl y g) x = C
      cases A <;> cases B <;> cases C <;> rfl

/-- STEENROD's product of one dimension less; the second factor is of dimension m + 1. -/
def c1 : Nat → Nat → (List Int → Bool) → (List Int → Bool) → List Int → Bool
  | 0, _, _, _, _ => false
  | _ + 1, _, _, _, [] => false
  | i + 1, m, f, g, a :: x => cp m (fun y => g (a :: y)) (fun y => f (a :: y)) x ^^ c1 i m (fun y => f (a :: y)) g x
theorem c1_left : ∀ (i m : Nat) (f f' g : List Int → Bool) (x : List Int), c1 i m (fun y => f y ^^ f' y) g x = (c1 i m f g x ^^ c1 i m f' g x)
  | 0, _, _, _, _, _ => rfl
  | _ + 1, _, _, _, _, [] => rfl
  | i + 1, m, f, f', g, a :: x => by
    simp only [c1]
    rw [cp_right m (fun y => g (a :: y)) (fun y => f (a :: y)) (fun y => f' (a :: y)) x, c1_left i m (fun y => f (a :: y)) (fun y => f' (a :: y)) g x]
    generalize cp m (fun y => g (a :: y)) (fun y => f (a :: y)) x = A
    generalize cp m (fun y => g (a :: y)) (fun y => f' (a :: y)) x = B
    generalize c1 i m (fun y => f (a :: y)) g x = C
    generalize c1 i m (fun y => f' (a :: y)) g x = D
    cases A <;> cases B <;> cases C <;> cases D <;> rfl
theorem steenrod : ∀ (i m : Nat) (f g : List Int → Bool) (x : List Int), x.length = i + m + 2 →
    dl x (c1 i m f g) = (cp i f g x ^^ cp (m + 1) g f x ^^ c1 (i + 1) m (fun y => dl y f) g x ^^ c1 i (m + 1) f (fun y => dl y g) x)
  | 0, m, f, g, x, h => by
    match x, h with
    | a :: y, h =>
      have hy : y.length = m + 1 := by simp at h; omega
      have e0 : dl (a :: y) (c1 0 m f g) = false := dl_false (a :: y)
      have e1 : cp 0 f g (a :: y) = (f [a] && g (a :: y)) := rfl
      have e2 : cp (m + 1) g f (a :: y) = (g (a :: y) && f (y.drop m)) := by
        show (g (a :: y.take (m + 1)) && f (y.drop m)) = _
        rw [List.take_of_length_le (by omega)]
      have e3 : c1 (0 + 1) m (fun y => dl y f) g (a :: y) = (g (a :: y) && (f (y.drop m) ^^ f [a])) := by
        have hd : ∃ b, y.drop m = [b] := by
          have hl : (y.drop m).length = 1 := by rw [List.length_drop]; omega
          match hq : y.drop m, hl with
          | [b], _ => exact ⟨b, rfl⟩
        obtain ⟨b, hb⟩ := hd
        show ((g (a :: y.take (m + 1)) && dl (a :: y.drop m) f) ^^ false) = _
        rw [List.take_of_length_le (by omega), hb]
        simp [dl]
      have e4 : c1 0 (m + 1) f (fun y => dl y g) (a :: y) = false := rfl
      rw [e0, e1, e2, e3, e4]
      cases f [a] <;> cases f (y.drop m) <;> cases g (a :: y) <;> rfl
  | i + 1, m, f, g, x, h => by
    match x, h with
    | a :: x, h =>
      have hx : x.length = i + m + 2 := by simp at h; omega
      have ih := steenrod i m (fun y => f (a :: y)) g x hx
      have lb := leibniz m (fun y => g (a :: y)) (fun y => f (a :: y)) x (by omega)
      have e0 : dl (a :: x) (c1 (i + 1) m f g) = (c1 (i + 1) m f g x ^^ dl x (fun y => cp m (fun y => g (a :: y)) (fun y => f (a :: y)) y ^^ c1 i m (fun y => f (a :: y)) g y)) := rfl
      have e1 : cp (i + 1) f g (a :: x) = cp i (fun y => f (a :: y)) g x := rfl
      have e2 : cp (m + 1) g f (a :: x) = cp m (fun y => g (a :: y)) f x := rfl
      have e3 : c1 (i + 1 + 1) m (fun y => dl y f) g (a :: x) = (cp m (fun y => g (a :: y)) (fun y => f y ^^ dl y (fun z => f (a :: z))) x ^^ c1 (i + 1) m (fun y => f y ^^ dl y (fun z => f (a :: z))) g x) := rfl
      have e4 : c1 (i + 1) (m + 1) f (fun y => dl y g) (a :: x) = (cp (m + 1) (fun y => g y ^^ dl y (fun z => g (a :: z))) (fun y => f (a :: y)) x ^^ c1 i (m + 1) (fun y => f (a :: y)) (fun y => dl y g) x) := rfl
      have e5 : dl x (fun y => cp m (fun y => g (a :: y)) (fun y => f (a :: y)) y ^^ c1 i m (fun y => f (a :: y)) g y) = (dl x (cp m (fun y => g (a :: y)) (fun y => f (a :: y))) ^^ dl x (c1 i m (fun y => f (a :: y)) g)) := dl_xor x _ _
      rw [e0, e5, lb, ih, e1, e2, e3, e4, cp_right, c1_left, cp_left]
      generalize c1 (i + 1) m f g x = A
      generalize cp (m + 1) (fun y => dl y (fun z => g (a :: z))) (fun y => f (a :: y)) x = B
      generalize cp m (fun y => g (a :: y)) (fun y => dl y (fun z => f (a :: z))) x = C
      generalize cp i (fun y => f (a :: y)) g x = D
      generalize cp (m + 1) g (fun y => f (a :: y)) x = E
      generalize c1 (i + 1) m (fun y => dl y (fun z => f (a :: z))) g x = F
      generalize c1 i (m + 1) (fun y => f (a :: y)) (fun y => dl y g) x = G
      generalize cp m (fun y => g (a :: y)) f x = K
      cases A <;> cases B <;> cases C <;> cases D <;> cases E <;> cases F <;> cases G <;> cases K <;> rfl

end Go.Proofs.YtiblgnkjjbbmaaaDoor
