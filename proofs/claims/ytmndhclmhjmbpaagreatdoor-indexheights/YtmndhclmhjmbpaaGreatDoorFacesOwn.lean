/- A shape: the faces by dimension; all of them in a row. What Faces answers, in memory of the caller's own. -/
import Derived.Test.YtmndhclmhjmbpaaGreatDoorIdxThings
import Derived.Test.YtmndhclmhjmbpaaGreatDoorLists
import Derived.Test.YtmndhclmhjmbpaaGreatDoorPartsMath
namespace Go.Proofs.YtmndhclmhjmbpaaGreatDoor
open Go.RowKit Go.Sort

/-- The faces of each dimension, one behind the other. -/
def allD (all : List (List Int)) : List (List Int) := ((List.range 7).map fun d : Nat => ofDim all (d : Int)).flatten
theorem allD_perm {all : List (List Int)} (h : ∀ x ∈ all, 1 ≤ x.length ∧ x.length ≤ 7) : (allD all).Perm all := by
  have key : ∀ (m : Nat), ((List.range m).map fun d : Nat => ofDim all (d : Int)).flatten.Perm (all.filter fun x => decide (x.length ≤ m)) := by
    intro m
    induction m with
    | zero =>
      have : all.filter (fun x => decide (x.length ≤ 0)) = [] := List.filter_eq_nil_iff.2 fun x hx hc => by
        have := h x hx
        have := of_decide_eq_true hc
        omega
      rw [this]; exact List.Perm.refl _
    | succ m ih =>
      rw [List.range_succ, List.map_append, List.flatten_append]
      simp only [List.map_cons, List.map_nil, List.flatten_cons, List.flatten_nil, List.append_nil]
      refine (List.Perm.append_right _ ih).trans ?_
      clear ih
      induction all with
      | nil => exact List.Perm.refl _
      | cons x l ih =>
        have ih := ih (fun y hy => h y (List.mem_cons_of_mem _ hy))
        have hx := h x List.mem_cons_self
        unfold ofDim at ih ⊢
        by_cases h1 : x.length ≤ m
        · have h2 : ¬ (x.length : Int) - 1 = (m : Int) := by omega
          rw [List.filter_cons_of_pos (by simpa using h1), List.filter_cons_of_neg (by simpa using h2), List.filter_cons_of_pos (by simp; omega)]
          exact ih.cons x
        · by_cases h2 : x.length = m + 1
          · have h3 : (x.length : Int) - 1 = (m : Int) := by omega
            rw [List.filter_cons_of_neg (by simpa using h1), List.filter_cons_of_pos (by simpa using h3), List.filter_cons_of_pos (by simp; omega)]
            exact List.perm_middle.trans (ih.cons x)
          · have h3 : ¬ (x.length : Int) - 1 = (m : Int) := by omega
            rw [List.filter_cons_of_neg (by simpa using h1), List.filter_cons_of_neg (by simpa using h3), List.filter_cons_of_neg (by simp; omega)]
            exact ih
  have h7 : all.filter (fun x => decide (x.length ≤ 7)) = all := List.filter_eq_self.2 fun x hx => decide_eq_true (h x hx).2
  have := key 7
  rwa [h7] at this

/-- A shape that is handed over. -/
def ShpIn (S : Nat → Prop) (w : World) (v : Value) (all : List (List Int)) : Prop := ∃ (a : Nat → Option Addr) (c : Nat → Nat),
  v = .agg #[.slice (a 0) (ofDim all 0).length (c 0), .slice (a 1) (ofDim all 1).length (c 1), .slice (a 2) (ofDim all 2).length (c 2), .slice (a 3) (ofDim all 3).length (c 3), .slice (a 4) (ofDim all 4).length (c 4), .slice (a 5) (ofDim all 5).length (c 5), .slice (a 6) (ofDim all 6).length (c 6)] ∧
  ∀ d : Nat, d < 7 → RowsIn S w (.slice (a d) (ofDim all (d : Int)).length (c d)) (ofDim all (d : Int))
theorem ShpIn.below {S : Nat → Prop} {w w' : World} {v : Value} {all : List (List Int)} (h : ShpIn S w v all) (hB : Below w.heap.size w w') : ShpIn S w' v all := by
  obtain ⟨a, c, h1, h2⟩ := h
  exact ⟨a, c, h1, fun d hd => (h2 d hd).below hB⟩

theorem ShpIn.mono {S S' : Nat → Prop} {w : World} {v : Value} {all : List (List Int)} (h : ShpIn S w v all) (hs : ∀ b, b < w.heap.size → S b → S' b) : ShpIn S' w v all := by
  obtain ⟨a, c, h1, h2⟩ := h
  exact ⟨a, c, h1, fun d hd => (h2 d hd).mono hs⟩

set_option maxRecDepth 100000 in
set_option maxHeartbeats 1000000 in
theorem all_of_shape {S : Nat → Prop} (vs : Value) (all : List (List Int)) (w : World) (hS : ∀ b, w.heap.size ≤ b → S b) (h : ShpIn S w vs all) (hl : (allD all).length ≤ 100000) :
    Calls Tryz.prog 57 #[vs] w fun e w' => ∃ v, e = .returned v ∧ RowsIn S w' v (allD all) ∧ Below w.heap.size w w' := by
  obtain ⟨a, c, rfl, hr⟩ := h
  obtain ⟨w1, hw1⟩ : ∃ w1, w.alloc (.cells #[.slice (a 0) (ofDim all 0).length (c 0), .slice (a 1) (ofDim all 1).length (c 1), .slice (a 2) (ofDim all 2).length (c 2), .slice (a 3) (ofDim all 3).length (c 3), .slice (a 4) (ofDim all 4).length (c 4), .slice (a 5) (ofDim all 5).length (c 5), .slice (a 6) (ofDim all 6).length (c 6)] 63) = w1 := ⟨_, rfl⟩
  have hB : Below w.heap.size w w1 := by rw [← hw1]; exact (Below.refl _ w).alloc (Nat.le_refl _) _
  have hp : PartsAt S w1 w.heap.size 0 ((List.range 7).map fun d : Nat => ofDim all (d : Int)) := fun j hj => by
    have hj7 : j < 7 := by simpa using hj
    have he : ((List.range 7).map fun d : Nat => ofDim all (d : Int))[j]?.getD [] = ofDim all (j : Int) := by simp [hj7]
    rw [he]
    refine ⟨a j, c j, ?_, (hr j hj7).below hB⟩
    rw [← hw1]
    rcases (show j = 0 ∨ j = 1 ∨ j = 2 ∨ j = 3 ∨ j = 4 ∨ j = 5 ∨ j = 6 by omega) with rfl | rfl | rfl | rfl | rfl | rfl | rfl <;> simp
  have hc := concat_rows w.heap.size 0 7 _ w1 (fun b hb => hS b (Nat.le_trans hB.size hb)) hp (by rw [← hw1]; simp) hl (by simp)
  rw [show ((List.range 7).map fun d : Nat => ofDim all (d : Int)).length = 7 by simp] at hc
  have HB : Hid (Below w.heap.size w w1) := hB
  have HC : Hid (Calls Tryz.prog 84 #[.slice (some ⟨w.heap.size, 0, none⟩) 7 7] w1 fun e w' => ∃ v, e = .returned v ∧ RowsIn S w' v (allD all) ∧ Below w1.heap.size w1 w') := hc
  clear hr hp hB hc hl hS
  go_enter Tryz.func57, Tryz.ntmps57
  go_wp2_with fail
  refine HC.out.mono ?_
  rintro e V ⟨v, rfl, hs, hV⟩
  have HV : Hid (Below w.heap.size w V) := HB.out.trans (hV.mono HB.out.size)
  have HS : Hid (RowsIn S V v (allD all)) := hs
  obtain ⟨av, cv, rfl, -, -⟩ := hs.open_
  clear hV hs hw1
  go_wp2_with fail
  go_ret
  exact ⟨_, rfl, HS.out, HV.out⟩

end Go.Proofs.YtmndhclmhjmbpaaGreatDoor

namespace Go.Proofs.YtmndhclmhjmbpaaGreatDoor
open Go.RowKit Go.Sort Go.Maps Go.Deep

/-- What Faces answers of a complex. -/
def FacesH (a : Nat → Addr) (l : List (List Int)) (dim : Int) (w : World) (e : Ending) (w' : World) : Prop :=
  Below w.heap.size w w' ∧ ((∃ i, BadAt l i ∧ e = .returned (.tuple #[.slice none 0 0, .iface 233 (.pointer (some (a i)))])) ∨
    ∃ all v, Good l all ∧ e = .returned (.tuple #[v, .nilIface]) ∧ OwnRows w.heap.size w' v (ofDim all dim))

set_option maxRecDepth 100000 in
set_option maxHeartbeats 1000000 in
theorem faces_own {a : Nat → Addr} {s : Nat → ByteArray} (vl : Value) (l : List (List Int)) (dim : Int) (w : World) (hE : Errs a s w) (hl : Rows w vl l) (hll : l.length ≤ 100000) (hle : ∀ x ∈ l, x.length ≤ 1000) :
    Calls Tryz.prog 55 #[.agg #[vl], .int .i64 dim] w fun e w' => FacesH a l dim w e w' := by
  obtain ⟨al, cl, rfl, -, -⟩ := hl.open_
  have hBa : Below w.heap.size w (w.alloc (.cells #[.slice al l.length cl] 33)) := (Below.refl _ w).alloc (Nat.le_refl _) _
  have hop := open_g _ l (w.alloc (.cells #[.slice al l.length cl] 33)) (hE.below hBa) (hl.below hBa) hll hle
  have hbc := (box_new w (.slice al l.length cl) 33).1
  clear hl
  go_enter Tryz.func55, Tryz.ntmps55
  go_wp2_with fail
  refine hop.mono ?_
  clear hop
  rintro e w2 ⟨hB2, ⟨i, hbad, rfl⟩ | ⟨all, b, F, G, hg, ht, rfl, hP, -⟩⟩
  · have HBD : Hid (BadAt l i) := hbad
    clear hbad
    go_wp2
    go_ret2
    exact ⟨below_out (below_after hB2 (Below.refl _ w2)), .inl ⟨i, HBD.out, rfl⟩⟩
  · have hfa := faces_ b F G dim w2 hP (by have := ht.few; omega) (fun x hx => by have := ht.short x hx; omega)
    have HG : Hid (Good l all ∧ Told F all) := ⟨hg, ht⟩
    clear hg ht hP
    go_wp2_with fail
    refine hfa.mono ?_
    clear hfa
    rintro e w3 ⟨v3, ss, rfl, h1, h2, h3, h4⟩
    have hsm := told_small_dim HG.out.2 h2 h3
    have hli := lists_ v3 (srtS ss) w3 (SliceIn.mono h1 (fun _ _ _ => trivial)) hsm.1 hsm.2
    have HD : Hid ((srtS ss).map ints = ofDim all dim) := told_dim HG.out.2 h2 h3
    have HB3 : Hid (Below w.heap.size w w3) := below_out (below_after hB2 h4)
    clear h1 h2 h3 h4 hsm
    go_wp2_with fail
    refine hli.mono ?_
    clear hli
    rintro e w4 ⟨v4, rfl, h5, h6⟩
    rw [HD.out] at h5
    have HR : Hid (OwnRows w.heap.size w4 v4 (ofDim all dim)) := h5.lower HB3.out.size
    clear h5
    go_wp2
    go_ret2
    exact ⟨HB3.out.trans (h6.mono HB3.out.size), .inr ⟨all, v4, HG.out.1, rfl, HR.out⟩⟩

end Go.Proofs.YtmndhclmhjmbpaaGreatDoor
