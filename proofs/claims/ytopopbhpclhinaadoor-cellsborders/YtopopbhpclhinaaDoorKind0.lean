/- What is told of sets in one way, with an error or none. -/
import Derived.Test.YtopopbhpclhinaaDoorGate
namespace Go.Proofs.YtopopbhpclhinaaDoor
open Go.RowKit Go.Sort Go.Maps Go.Deep

/-- A face as it is told: a set whose numbers rise. -/
def FaceOk (f : List Int) : Prop := SetOk f ∧ Rising f

theorem face_ok_of {l all : List (List Int)} {f : List Int} (g : Good l all) (hf : f ∈ all) : FaceOk f := by
  obtain ⟨h1, t, ht, hs⟩ := (g.isAll.mem f).1 hf
  obtain ⟨y, hy, rfl⟩ := List.mem_map.1 ht
  have hok := g.ok y hy
  have hr := (srt_rising hok.2.1).sublist hs
  exact ⟨⟨h1, hr.imp (fun h => Int.ne_of_lt h), fun v hv => hok.2.2 v ((srt_mem y v).1 (hs.subset hv))⟩, hr⟩
theorem mem_told {F : List (List UInt8)} {all : List (List Int)} (h : Told F all) (t : List UInt8) : t ∈ F ↔ ints t ∈ all := by
  rw [← h.perm.mem_iff, List.mem_map]
  exact ⟨fun hm => ⟨t, hm, rfl⟩, fun ⟨x, hx, e⟩ => by rw [← ints_inj e]; exact hx⟩

/-- What is told of sets: the error's value and number, and all faces (none where there is an error). -/
def Kind (a : Nat → Addr) (l : List (List Int)) (ve : Value) (n : Int) (all : List (List Int)) : Prop :=
  (∃ i : Nat, BadAt l i ∧ ve = .iface 176 (.pointer (some (a i))) ∧ n = (i : Int) + 1 ∧ all = []) ∨ (Good l all ∧ ve = .nilIface ∧ n = 0)

theorem Kind.length {a : Nat → Addr} {l all : List (List Int)} {ve : Value} {n : Int} (h : Kind a l ve n all) : all.length ≤ 600 := by
  rcases h with ⟨i, _, _, _, rfl⟩ | ⟨g, _, _⟩
  · simp
  · exact g.length
theorem Kind.short {a : Nat → Addr} {l all : List (List Int)} {ve : Value} {n : Int} (h : Kind a l ve n all) : ∀ x ∈ all, x.length ≤ 7 := by
  rcases h with ⟨i, _, _, _, rfl⟩ | ⟨g, _, _⟩
  · intro x hx; cases hx
  · exact g.short
theorem rows_nil (w : World) : Rows w (.slice none 0 0) [] := ⟨[], SliceIn.nil _ _, rfl, fun k u x hu => by simp at hu⟩

theorem coded_k {a : Nat → Addr} {s : Nat → ByteArray} {l all : List (List Int)} {ve : Value} {n : Int} (h : Kind a l ve n all) (w : World) (hE : Errs a s w) :
    Calls Tryd.prog 17 #[ve, .int .i64 n] w fun e w' => e = .returned (.bool true) ∧ Below w.heap.size w w' := by
  rcases h with ⟨i, hb, rfl, rfl, rfl⟩ | ⟨g, rfl, rfl⟩
  · refine (coded_es w hE i hb.lt ((i : Int) + 1)).mono ?_
    rintro e w' ⟨rfl, hB⟩
    exact ⟨by rw [decide_eq_true rfl], hB⟩
  · refine (coded_nil 0 w).mono ?_
    rintro e w' ⟨rfl, rfl⟩
    exact ⟨rfl, Below.refl _ _⟩
/-- A slice of no elements in a block of its own. -/
theorem own_empty (w : World) (t : TypeId) (base : Nat) (hb : base ≤ w.heap.size) : (w.alloc (.cells #[] t)).ownsRow base t 1 (.slice (some ⟨w.heap.size, 0, none⟩) 0 0) 0 [] :=
  ⟨rfl, .inr ⟨w.heap.size, 0, #[], rfl, hb, World.alloc_heap_new w _, Nat.le_refl _, Nat.zero_le _, rfl, rfl⟩⟩

end Go.Proofs.YtopopbhpclhinaaDoor
