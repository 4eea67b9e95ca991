/- All faces of sets: there is a list of them, in order. What is told of sets in one way, with an error or none. -/
import Derived.Test.YtklagnmkfbjagaaGreatDoorGate
namespace Go.Proofs.YtklagnmkfbjagaaGreatDoor
open Go.RowKit Go.Sort

/-- All parts of a list. -/
def subsL {α : Type} : List α → List (List α)
  | [] => [[]]
  | a :: l => subsL l ++ (subsL l).map (fun t => a :: t)
theorem subs_mem {α : Type} {l x : List α} : x ∈ subsL l ↔ x.Sublist l := by
  induction l generalizing x with
  | nil => simp [subsL]
  | cons a l ih =>
    simp only [subsL]
    rw [List.mem_append, List.mem_map, List.sublist_cons_iff]
    simp only [ih]
    constructor
    · rintro (h | ⟨t, ht, rfl⟩)
      · exact .inl h
      · exact .inr ⟨t, rfl, ht⟩
    · rintro (h | ⟨t, rfl, ht⟩)
      · exact .inl h
      · exact .inr ⟨t, ht, rfl⟩
/-- Each text once. -/
def onceL : List (List UInt8) → List (List UInt8)
  | [] => []
  | x :: l => if x ∈ onceL l then onceL l else x :: onceL l
theorem once_mem {l : List (List UInt8)} {x : List UInt8} : x ∈ onceL l ↔ x ∈ l := by
  induction l with
  | nil => simp [onceL]
  | cons y l ih =>
    simp only [onceL]
    split
    · rename_i h
      rw [ih, List.mem_cons]
      exact ⟨.inr, fun e => e.elim (fun e => by subst e; exact ih.1 h) id⟩
    · rw [List.mem_cons, List.mem_cons, ih]
theorem once_nodup (l : List (List UInt8)) : (onceL l).Nodup := by
  induction l with
  | nil => exact List.Pairwise.nil
  | cons y l ih =>
    simp only [onceL]
    split
    · exact ih
    · rename_i h
      exact List.nodup_cons.2 ⟨h, ih⟩
theorem texts_ex {g : List (List Int)} (hok : ∀ t ∈ g, SetOk t) : ∃ ts : List (List UInt8), ts.map ints = g := by
  refine ⟨g.map (fun x => x.map (fun v => UInt8.ofNat v.toNat)), ?_⟩
  rw [List.map_map]
  refine (List.map_congr_left (fun x hx => ?_)).trans (List.map_id g)
  show ints (x.map (fun v => UInt8.ofNat v.toNat)) = x
  unfold ints
  rw [List.map_map]
  refine (List.map_congr_left (fun v hv => ?_)).trans (List.map_id x)
  have := (hok x hx).2.2 v hv
  simp only [Function.comp, UInt8.toNat_ofNat', id]
  omega
theorem all_ex {g : List (List Int)} (hok : ∀ t ∈ g, SetOk t) : ∃ all, IsAll g all := by
  obtain ⟨ts, rfl⟩ := texts_ex hok
  refine ⟨(srtS (onceL ((ts.flatMap subsL).filter (fun x => decide (x ≠ []))))).map ints, sorted_order (once_nodup _), fun y => ?_⟩
  have key : ∀ x, x ∈ srtS (onceL ((ts.flatMap subsL).filter (fun x => decide (x ≠ [])))) ↔ FaceOf ts x := fun x => by
    have e1 : x ∈ srtS (onceL ((ts.flatMap subsL).filter (fun x => decide (x ≠ [])))) ↔ x ∈ onceL ((ts.flatMap subsL).filter (fun x => decide (x ≠ []))) := (List.mergeSort_perm _ _).mem_iff
    rw [e1, once_mem, List.mem_filter, List.mem_flatMap, decide_eq_true_eq, and_comm]
    simp only [subs_mem]
    exact Iff.rfl
  rw [List.mem_map]
  constructor
  · rintro ⟨x, hx, rfl⟩; exact face_ints.2 ((key x).1 hx)
  · intro h
    obtain ⟨x, rfl⟩ := face_from h
    exact ⟨x, (key x).2 (face_ints.1 h), rfl⟩

end Go.Proofs.YtklagnmkfbjagaaGreatDoor

namespace Go.Proofs.YtklagnmkfbjagaaGreatDoor
open Go.RowKit Go.Sort Go.Maps Go.Deep

/-- A face as it is told: a set whose numbers rise. -/
def FaceOk (f : List Int) : Prop := SetOk f ∧ Rising f

theorem face_ok_of {l all : List (List Int)} {f : List Int} (g : Good l all) (hf : f ∈ all) : FaceOk f := by
  obtain ⟨h1, t, ht, hs⟩ := (g.isAll.mem f).1 hf
  obtain ⟨y, hy, rfl⟩ := List.mem_map.1 ht
  have hok := g.ok y hy
  have hr := (srt_rising hok.2.1).sublist hs
  exact ⟨⟨h1, hr.imp (fun h => Int.ne_of_lt h), fun v hv => hok.2.2 v ((srt_mem y v).1 (hs.subset hv))⟩, hr⟩
theorem mem_told {F : List (List UInt8)} {all : List (List Int)} (h : Told F all) (t : List UInt8) : t ∈ F ↔ ints t ∈ all := by
  rw [← h.perm.mem_iff, List.mem_map]
  exact ⟨fun hm => ⟨t, hm, rfl⟩, fun ⟨x, hx, e⟩ => by rw [← ints_inj e]; exact hx⟩

/-- What is told of sets: the error's value and number, and all faces (none where there is an error). -/
def Kind (a : Nat → Addr) (l : List (List Int)) (ve : Value) (n : Int) (all : List (List Int)) : Prop :=
  (∃ i : Nat, BadAt l i ∧ ve = .iface 168 (.pointer (some (a i))) ∧ n = (i : Int) + 1 ∧ all = []) ∨ (Good l all ∧ ve = .nilIface ∧ n = 0)

theorem Kind.length {a : Nat → Addr} {l all : List (List Int)} {ve : Value} {n : Int} (h : Kind a l ve n all) : all.length ≤ 600 := by
  rcases h with ⟨i, _, _, _, rfl⟩ | ⟨g, _, _⟩
  · simp
  · exact g.length
theorem Kind.short {a : Nat → Addr} {l all : List (List Int)} {ve : Value} {n : Int} (h : Kind a l ve n all) : ∀ x ∈ all, x.length ≤ 7 := by
  rcases h with ⟨i, _, _, _, rfl⟩ | ⟨g, _, _⟩
  · intro x hx; cases hx
  · exact g.short
theorem rows_nil (w : World) : Rows w (.slice none 0 0) [] := ⟨[], SliceIn.nil _ _, rfl, fun k u x hu => by simp at hu⟩

/-- A slice of no elements in a block of its own. -/
theorem own_empty (w : World) (t : TypeId) (base : Nat) (hb : base ≤ w.heap.size) : (w.alloc (.cells #[] t)).ownsRow base t 1 (.slice (some ⟨w.heap.size, 0, none⟩) 0 0) 0 [] :=
  ⟨rfl, .inr ⟨w.heap.size, 0, #[], rfl, hb, World.alloc_heap_new w _, Nat.le_refl _, Nat.zero_le _, rfl, rfl⟩⟩

end Go.Proofs.YtklagnmkfbjagaaGreatDoor
