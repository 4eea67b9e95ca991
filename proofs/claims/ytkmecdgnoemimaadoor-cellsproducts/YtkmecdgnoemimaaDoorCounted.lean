/- What counted answers: the facets of a pile, each vertex told by how many vertices are less. -/
import Derived.Test.YtkmecdgnoemimaaDoorKeptOwn
import Derived.Test.YtkmecdgnoemimaaDoorClimb
import Derived.Test.YtkmecdgnoemimaaDoorRaised
namespace Go.Proofs.YtkmecdgnoemimaaDoor
open Go.RowKit Go.Sort Go.Maps Go.Deep

theorem Tryd.zeroes : Tryd.zeroCells87 = Array.replicate 100 (.int .u8 0) := by kernel_rfl

/-- Where a vertex stands among the first k. -/
def placeK (vs : List (List UInt8)) (k : Nat) (c : UInt8) : UInt8 := if [c] ∈ vs.take k then UInt8.ofNat (vs.idxOf [c]) else 0
/-- A face with each vertex told by its place. -/
def placeU (vs : List (List UInt8)) (x : List UInt8) : List UInt8 := x.map (placeK vs vs.length)
theorem place_zero (vs : List (List UInt8)) (c : UInt8) : placeK vs 0 c = 0 := by simp [placeK]
theorem take_has {vs : List (List UInt8)} {k : Nat} (hk : k < vs.length) (y : List UInt8) : y ∈ vs.take (k + 1) ↔ y ∈ vs.take k ∨ y = vs[k] := by
  rw [List.take_add_one, List.getElem?_eq_getElem hk, List.mem_append, Option.toList_some, List.mem_singleton]
theorem place_here {vs : List (List UInt8)} {k : Nat} {c : UInt8} (hn : vs.Nodup) (hk : k < vs.length) (hc : vs[k]? = some [c]) : placeK vs (k + 1) c = UInt8.ofNat k := by
  have h1 : vs[k] = [c] := by rw [List.getElem?_eq_getElem hk] at hc; exact Option.some.inj hc
  unfold placeK
  rw [if_pos ((take_has hk _).2 (.inr h1.symm)), ← h1, hn.idxOf_getElem]
theorem place_there {vs : List (List UInt8)} {k : Nat} {c d : UInt8} (hk : k < vs.length) (hc : vs[k]? = some [c]) (hd : d ≠ c) : placeK vs (k + 1) d = placeK vs k d := by
  have h1 : vs[k] = [c] := by rw [List.getElem?_eq_getElem hk] at hc; exact Option.some.inj hc
  unfold placeK
  have : ([d] ∈ vs.take (k + 1)) ↔ ([d] ∈ vs.take k) := by
    rw [take_has hk, h1]
    exact ⟨fun h => h.elim id (fun h => absurd (by simpa using h) hd), .inl⟩
  simp only [this]

/-- The first m done. -/
def mapTo {α : Type} (f : α → α) (m : Nat) (x : List α) : List α := (x.take m).map f ++ x.drop m
theorem mapTo_zero {α : Type} (f : α → α) (x : List α) : mapTo f 0 x = x := by simp [mapTo]
theorem mapTo_all {α : Type} (f : α → α) (x : List α) : mapTo f x.length x = x.map f := by simp [mapTo]
theorem mapTo_length {α : Type} (f : α → α) (m : Nat) (x : List α) : (mapTo f m x).length = x.length := by simp [mapTo]; omega
theorem mapTo_get {α : Type} {f : α → α} {m : Nat} {x : List α} (hm : m < x.length) : (mapTo f m x)[m]? = some x[m] := by
  unfold mapTo
  rw [List.getElem?_append_right (by simp; omega)]
  simp [Nat.min_eq_left (Nat.le_of_lt hm), hm]
theorem mapTo_succ {α : Type} {f : α → α} {m : Nat} {x : List α} (hm : m < x.length) : mapTo f (m + 1) x = (mapTo f m x).set m (f x[m]) := by
  unfold mapTo
  rw [List.take_add_one, List.getElem?_eq_getElem hm, List.drop_eq_getElem_cons hm, List.map_append, List.set_append_right (s := (x.take m).map f) m _ (by simp; omega)]
  simp [Nat.min_eq_left (Nat.le_of_lt hm)]
  rw [List.drop_eq_getElem_cons hm]; rfl

/-- Block g holds the texts xs, to be written. -/
def TextsAt (W : World) (g : Nat) (xs : List (List UInt8)) : Prop := ∀ (j : Nat) (x : List UInt8), xs[j]? = some x → W.cell? ⟨g, j, none⟩ = some (encStr x) ∧ W.frozen? ⟨g, j, none⟩ = false
theorem TextsAt.under {W W' : World} {B g : Nat} {xs : List (List UInt8)} (h : TextsAt W g xs) (hg : g < B) (hB : Below B W W') : TextsAt W' g xs := fun j c hj =>
  ⟨(hB.cell (p := ⟨g, j, none⟩) hg).trans (h j c hj).1, (hB.frozen (p := ⟨g, j, none⟩) hg).trans (h j c hj).2⟩
theorem TextsAt.set {W : World} {g : Nat} {xs : List (List UInt8)} (h : TextsAt W g xs) {k : Nat} (hk : k < xs.length) (x : List UInt8) : TextsAt (W.setCell ⟨g, k, none⟩ (encStr x)) g (xs.set k x) := fun j d hj => by
  rw [World.frozen?_setCell]
  by_cases e : j = k
  · subst e
    rw [List.getElem?_set_self hk] at hj
    obtain rfl : x = d := by simpa using hj
    refine ⟨World.cell?_setCell_same' _ _ _ ?_, (h j xs[j] (List.getElem?_eq_getElem hk)).2⟩
    rw [(h j xs[j] (List.getElem?_eq_getElem hk)).1]; rfl
  · rw [List.getElem?_set_ne (fun e' => e e'.symm)] at hj
    rw [World.cell?_setCell_other _ _ _ _ (fun e' => e (by cases e'; rfl))]
    exact h j d hj
theorem OwnStrs.form {base : Nat} {W : World} {v : Value} {xs : List (List UInt8)} (h : OwnStrs base W v xs) : (v = .slice none 0 0 ∧ xs = []) ∨ ∃ g cap, v = .slice (some ⟨g, 0, none⟩) xs.length cap ∧ xs.length ≤ cap ∧ base ≤ g ∧ g < W.heap.size ∧ TextsAt W g xs := by
  rcases h.2 with ⟨rfl, hn⟩ | ⟨g, cap, cur, rfl, hb, hg, hc, -, -, htake⟩
  · exact .inl ⟨rfl, List.length_eq_zero_iff.1 hn⟩
  · refine .inr ⟨g, cap, rfl, hc, hb, (Array.getElem?_eq_some_iff.1 hg).1, fun j x hj => ?_⟩
    have h2 : (xs.map encStr)[j]? = some (encStr x) := by rw [List.getElem?_map, hj]; rfl
    rw [← htake, List.getElem?_take] at h2
    split at h2
    · exact ⟨by simp [World.cell?, hg]; simpa using h2, by simp [World.frozen?, hg]⟩
    · cases h2
theorem strs_of_texts {S : Nat → Prop} {W : World} {g cap : Nat} {xs : List (List UInt8)} (h : TextsAt W g xs) (hS : S g) (hc : xs.length ≤ cap) : StrsIn S W (.slice (some ⟨g, 0, none⟩) xs.length cap) xs := by
  refine ⟨some ⟨g, 0, none⟩, cap, by simp, ⟨by simpa using hc, fun h => by cases h⟩, fun _ => ⟨g, 0, rfl, hS, fun j u hu => ?_⟩⟩
  rw [List.getElem?_map] at hu
  cases hx : xs[j]? with
  | none => rw [hx] at hu; cases hu
  | some x =>
    rw [hx] at hu
    rw [Nat.zero_add, (h j x hx).1]
    exact hu

/-- What counted answers. -/
def CountedSays (F : List (List UInt8)) (G : List UInt8 → Prop) (w : World) (e : Ending) (w' : World) : Prop :=
  ∃ v us ss, e = .returned v ∧ StrsIn (fun b => w.heap.size ≤ b) w' v ((srtS ss).map (placeU (srtS us))) ∧ (us.Nodup ∧ ∀ x, x ∈ us ↔ x ∈ F ∧ x.length = 1) ∧ (ss.Nodup ∧ ∀ x, x ∈ ss ↔ x ∈ F ∧ ¬ G x) ∧ Below w.heap.size w w'

end Go.Proofs.YtkmecdgnoemimaaDoor
