/- What makes an image bad, and what ImageError answers; no program is spoken of in the first part; nothing is written. -/
import Derived.Test.YtjaoiaajplgboaaDoorCubeFull
namespace Go.Proofs.YtjaoiaajplgboaaDoor
open Go.RowKit Go.Sort

/-- Too many rows, or too long a row; a row that is not as long as the first; another byte. -/
def LargeI (m : List (List UInt8)) : Prop := 24 < m.length ∨ ∃ r ∈ m, 24 < r.length
def UnevenI (m : List (List UInt8)) : Prop := ∃ r ∈ m, r.length ≠ wide m
def OtherI (m : List (List UInt8)) : Prop := ∃ r ∈ m, ∃ b ∈ r, b ≠ 35 ∧ b ≠ 46

/-- Which error an image is (as the errors are numbered), or none. -/
def BadImg (m : List (List UInt8)) (i : Nat) : Prop := (LargeI m ∧ i = 1) ∨ (¬ LargeI m ∧ UnevenI m ∧ i = 2) ∨ (¬ LargeI m ∧ ¬ UnevenI m ∧ OtherI m ∧ i = 0)
def OkImg (m : List (List UInt8)) : Prop := ¬ LargeI m ∧ ¬ UnevenI m ∧ ¬ OtherI m

theorem OkImg.img {m : List (List UInt8)} (h : OkImg m) : Img m ∧ m.length ≤ 24 ∧ wide m ≤ 24 ∧ ∀ r ∈ m, ∀ b ∈ r, b = 35 ∨ b = 46 := by
  obtain ⟨h1, h2, h3⟩ := h
  have a1 : m.length ≤ 24 := Nat.le_of_not_lt fun h => h1 (.inl h)
  have a2 : ∀ r ∈ m, r.length ≤ 24 := fun r hr => Nat.le_of_not_lt fun h => h1 (.inr ⟨r, hr, h⟩)
  have a3 : ∀ r ∈ m, r.length = wide m := fun r hr => Classical.byContradiction fun h => h2 ⟨r, hr, h⟩
  have a4 : wide m ≤ 24 := by
    cases m with
    | nil => simp [wide]
    | cons r m => exact a2 r (by simp)
  refine ⟨⟨by omega, by omega, a3⟩, a1, a4, fun r hr b hb => ?_⟩
  by_cases e : b = 35
  · exact .inl e
  · exact .inr (Classical.byContradiction fun e2 => h3 ⟨r, hr, b, hb, e, e2⟩)

theorem bad_lt {m : List (List UInt8)} {i : Nat} (h : BadImg m i) : i < 8 := by
  rcases h with ⟨_, rfl⟩ | ⟨_, _, rfl⟩ | ⟨_, _, _, rfl⟩ <;> omega

/-- The first rows: is one of them too long, of another length, with another byte? -/
def LongTo (m : List (List UInt8)) (k : Nat) : Prop := ∃ r ∈ m.take k, 24 < r.length
def UnevenTo (m : List (List UInt8)) (k : Nat) : Prop := ∃ r ∈ m.take k, r.length ≠ wide m
def OtherTo (m : List (List UInt8)) (k : Nat) : Prop := ∃ r ∈ m.take k, ∃ b ∈ r, b ≠ 35 ∧ b ≠ 46
def OtherIn (r : List UInt8) (k : Nat) : Prop := ∃ b ∈ r.take k, b ≠ 35 ∧ b ≠ 46

theorem ex_take {α : Type} {P : α → Prop} {l : List α} {k : Nat} (hk : k < l.length) : (∃ r ∈ l.take (k + 1), P r) ↔ (∃ r ∈ l.take k, P r) ∨ P l[k] := by
  rw [List.take_add_one, List.getElem?_eq_getElem hk]
  constructor
  · rintro ⟨r, hr, h⟩
    rcases List.mem_append.1 hr with hr | hr
    · exact .inl ⟨r, hr, h⟩
    · simp at hr; subst hr; exact .inr h
  · rintro (⟨r, hr, h⟩ | h)
    · exact ⟨r, List.mem_append_left _ hr, h⟩
    · exact ⟨_, List.mem_append_right _ (by simp), h⟩

end Go.Proofs.YtjaoiaajplgboaaDoor
