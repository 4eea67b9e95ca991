/- What the calls answer that read a complex, whichever it is: Has; and all of them in one way, with an error or none. -/
import Derived.Test.YtmbolgalgidleaaGreatDoorReads
namespace Go.Proofs.YtmbolgalgidleaaGreatDoor
open Go.RowKit Go.Sort Go.Maps Go.Deep

theorem face_ok_of {l all : List (List Int)} {f : List Int} (g : Good l all) (hf : f ∈ all) : FaceOk f := by
  obtain ⟨h1, t, ht, hs⟩ := (g.isAll.mem f).1 hf
  obtain ⟨y, hy, rfl⟩ := List.mem_map.1 ht
  have hok := g.ok y hy
  have hr := (srt_rising hok.2.1).sublist hs
  exact ⟨⟨h1, hr.imp (fun h => Int.ne_of_lt h), fun v hv => hok.2.2 v ((srt_mem y v).1 (hs.subset hv))⟩, hr⟩
theorem mem_told {F : List (List UInt8)} {all : List (List Int)} (h : Told F all) (t : List UInt8) : t ∈ F ↔ ints t ∈ all := by
  rw [← h.perm.mem_iff, List.mem_map]
  exact ⟨fun hm => ⟨t, hm, rfl⟩, fun ⟨x, hx, e⟩ => by rw [← ints_inj e]; exact hx⟩

/-- What Has answers. -/
def HasG (a : Nat → Addr) (l : List (List Int)) (f : List Int) (w : World) (e : Ending) (w' : World) : Prop :=
  Below w.heap.size w w' ∧ ((∃ i, BadAt l i ∧ e = .returned (.tuple #[.bool false, .iface 168 (.pointer (some (a i)))])) ∨
    ∃ all, Good l all ∧ e = .returned (.tuple #[.bool (decide (f ∈ all)), .nilIface]))

set_option maxRecDepth 100000 in
set_option maxHeartbeats 1000000 in
theorem has_call {a : Nat → Addr} {s : Nat → ByteArray} (vl vf : Value) (l : List (List Int)) (f : List Int) (w : World) (hE : Errs a s w) (hl : Rows w vl l) (hll : l.length ≤ 100000) (hle : ∀ x ∈ l, x.length ≤ 1000) (hf : Ints w vf f) (hfl : f.length ≤ 1000) :
    Calls Tryz.prog 19 #[.agg #[vl], vf] w fun e w' => HasG a l f w e w' := by
  obtain ⟨al, cl, rfl, -, -⟩ := hl.open_
  have hBa : Below w.heap.size w (w.alloc (.cells #[.slice al l.length cl] 34)) := (Below.refl _ w).alloc (Nat.le_refl _) _
  have hop := open_g _ l (w.alloc (.cells #[.slice al l.length cl] 34)) (hE.below hBa) (hl.below hBa) hll hle
  have hbc := (box_new w (.slice al l.length cl) 34).1
  have HFI : Hid (Ints w vf f) := hf
  clear hl hf
  go_enter Tryz.func19, Tryz.ntmps19
  go_wp2_with fail
  refine hop.mono ?_
  clear hop
  rintro e w2 ⟨hB2, ⟨i, hbad, rfl⟩ | ⟨all, b, F, G, hg, ht, rfl, hP, -⟩⟩
  · have HBD : Hid (BadAt l i) := hbad
    clear hbad
    go_wp2
    go_ret2
    exact ⟨below_out (below_after hB2 (Below.refl _ w2)), .inl ⟨i, HBD.out, rfl⟩⟩
  · have HG : Hid (Good l all ∧ Told F all) := ⟨hg, ht⟩
    have HB2 : Hid (Below w.heap.size w w2) := below_out (below_after hB2 (Below.refl _ w2))
    have HP : Hid (PileAt w2 b F G) := hP
    have hft := face_text vf f w2 (HFI.out.below HB2.out) hfl
    clear hg ht hP
    go_wp2_with fail
    refine hft.mono ?_
    clear hft
    rintro e w3 ⟨hB3, ⟨hok, t, ht, rfl⟩ | ⟨hno, rfl⟩⟩
    · have hho := holds_ b F G t w3 (HP.out.below hB3) (by have e := congrArg List.length ht; rw [ints_length] at e; omega)
      have HQ : Hid (decide (t ∈ F) = decide (f ∈ all)) := by
        show decide (t ∈ F) = decide (f ∈ all)
        rw [← ht]
        exact decide_eq_decide.2 (mem_told HG.out.2 t)
      rw [HQ.out] at hho
      clear hok ht
      go_wp2_with fail
      refine hho.mono ?_
      clear hho
      rintro e w4 ⟨rfl, rfl⟩
      go_wp2
      go_ret2
      exact ⟨HB2.out.trans (hB3.mono HB2.out.size), .inr ⟨all, HG.out.1, rfl⟩⟩
    · have HN : Hid (decide (f ∈ all) = false) := decide_eq_false (fun h => hno (face_ok_of HG.out.1 h))
      clear hno
      go_wp2
      go_ret2
      exact ⟨HB2.out.trans (hB3.mono HB2.out.size), .inr ⟨all, HG.out.1, by rw [HN.out]; rfl⟩⟩

/-- What is told of sets: the error's value and number, and all faces (none where there is an error). -/
def Kind (a : Nat → Addr) (l : List (List Int)) (ve : Value) (n : Int) (all : List (List Int)) : Prop :=
  (∃ i : Nat, BadAt l i ∧ ve = .iface 168 (.pointer (some (a i))) ∧ n = (i : Int) + 1 ∧ all = []) ∨ (Good l all ∧ ve = .nilIface ∧ n = 0)

theorem Kind.length {a : Nat → Addr} {l all : List (List Int)} {ve : Value} {n : Int} (h : Kind a l ve n all) : all.length ≤ 600 := by
  rcases h with ⟨i, _, _, _, rfl⟩ | ⟨g, _, _⟩
  · simp
  · exact g.length
theorem Kind.short {a : Nat → Addr} {l all : List (List Int)} {ve : Value} {n : Int} (h : Kind a l ve n all) : ∀ x ∈ all, x.length ≤ 7 := by
  rcases h with ⟨i, _, _, _, rfl⟩ | ⟨g, _, _⟩
  · intro x hx; cases hx
  · exact g.short
theorem rows_nil (w : World) : Rows w (.slice none 0 0) [] := ⟨[], SliceIn.nil _ _, rfl, fun k u x hu => by simp at hu⟩

theorem coded_k {a : Nat → Addr} {s : Nat → ByteArray} {l all : List (List Int)} {ve : Value} {n : Int} (h : Kind a l ve n all) (w : World) (hE : Errs a s w) :
    Calls Tryz.prog 14 #[ve, .int .i64 n] w fun e w' => e = .returned (.bool true) ∧ Below w.heap.size w w' := by
  rcases h with ⟨i, hb, rfl, rfl, rfl⟩ | ⟨g, rfl, rfl⟩
  · refine (coded_es w hE i hb.lt ((i : Int) + 1)).mono ?_
    rintro e w' ⟨rfl, hB⟩
    exact ⟨by rw [decide_eq_true rfl], hB⟩
  · refine (coded_nil 0 w).mono ?_
    rintro e w' ⟨rfl, rfl⟩
    exact ⟨rfl, Below.refl _ _⟩
theorem faces_k {a : Nat → Addr} {s : Nat → ByteArray} {l all : List (List Int)} {ve : Value} {n : Int} (h : Kind a l ve n all) (vl : Value) (dim : Int) (w : World) (hE : Errs a s w) (hl : Rows w vl l) (hll : l.length ≤ 100000) (hle : ∀ x ∈ l, x.length ≤ 1000) :
    Calls Tryz.prog 10 #[.agg #[vl], .int .i64 dim] w fun e w' => ∃ v, e = .returned (.tuple #[v, ve]) ∧ Rows w' v (ofDim all dim) ∧ Below w.heap.size w w' := by
  refine (faces_call vl l dim w hE hl hll hle).mono ?_
  rintro e w' ⟨hB, ⟨j, hb', rfl⟩ | ⟨all', v, g', rfl, hr⟩⟩
  · rcases h with ⟨i, hb, rfl, rfl, rfl⟩ | ⟨g, rfl, rfl⟩
    · rw [bad_one hb hb']; exact ⟨_, rfl, rows_nil _, hB⟩
    · exact (bad_good hb' g).elim
  · rcases h with ⟨i, hb, rfl, rfl, rfl⟩ | ⟨g, rfl, rfl⟩
    · exact (bad_good hb g').elim
    · rw [good_one g g']; exact ⟨v, rfl, hr, hB⟩
theorem vector_k {a : Nat → Addr} {s : Nat → ByteArray} {l all : List (List Int)} {ve : Value} {n : Int} (h : Kind a l ve n all) (vl : Value) (w : World) (hE : Errs a s w) (hl : Rows w vl l) (hll : l.length ≤ 100000) (hle : ∀ x ∈ l, x.length ≤ 1000) :
    Calls Tryz.prog 15 #[.agg #[vl]] w fun e w' => ∃ v, e = .returned (.tuple #[v, ve]) ∧ Ints w' v (vecOf all) ∧ Below w.heap.size w w' := by
  refine (vector_call vl l w hE hl hll hle).mono ?_
  rintro e w' ⟨hB, ⟨j, hb', rfl⟩ | ⟨all', v, g', rfl, hr⟩⟩
  · rcases h with ⟨i, hb, rfl, rfl, rfl⟩ | ⟨g, rfl, rfl⟩
    · rw [bad_one hb hb']; exact ⟨_, rfl, SliceIn.nil _ _, hB⟩
    · exact (bad_good hb' g).elim
  · rcases h with ⟨i, hb, rfl, rfl, rfl⟩ | ⟨g, rfl, rfl⟩
    · exact (bad_good hb g').elim
    · rw [good_one g g']; exact ⟨v, rfl, hr, hB⟩
theorem euler_k {a : Nat → Addr} {s : Nat → ByteArray} {l all : List (List Int)} {ve : Value} {n : Int} (h : Kind a l ve n all) (vl : Value) (w : World) (hE : Errs a s w) (hl : Rows w vl l) (hll : l.length ≤ 100000) (hle : ∀ x ∈ l, x.length ≤ 1000) :
    Calls Tryz.prog 17 #[.agg #[vl]] w fun e w' => e = .returned (.tuple #[.int .i64 (eulerOf all), ve]) ∧ Below w.heap.size w w' := by
  refine (euler_call vl l w hE hl hll hle).mono ?_
  rintro e w' ⟨hB, ⟨j, hb', rfl⟩ | ⟨all', g', rfl⟩⟩
  · rcases h with ⟨i, hb, rfl, rfl, rfl⟩ | ⟨g, rfl, rfl⟩
    · rw [bad_one hb hb']; exact ⟨rfl, hB⟩
    · exact (bad_good hb' g).elim
  · rcases h with ⟨i, hb, rfl, rfl, rfl⟩ | ⟨g, rfl, rfl⟩
    · exact (bad_good hb g').elim
    · rw [good_one g g']; exact ⟨rfl, hB⟩
theorem has_k {a : Nat → Addr} {s : Nat → ByteArray} {l all : List (List Int)} {ve : Value} {n : Int} (h : Kind a l ve n all) (vl vf : Value) (f : List Int) (w : World) (hE : Errs a s w) (hl : Rows w vl l) (hll : l.length ≤ 100000) (hle : ∀ x ∈ l, x.length ≤ 1000) (hf : Ints w vf f) (hfl : f.length ≤ 1000) :
    Calls Tryz.prog 19 #[.agg #[vl], vf] w fun e w' => e = .returned (.tuple #[.bool (decide (f ∈ all)), ve]) ∧ Below w.heap.size w w' := by
  refine (has_call vl vf l f w hE hl hll hle hf hfl).mono ?_
  rintro e w' ⟨hB, ⟨j, hb', rfl⟩ | ⟨all', g', rfl⟩⟩
  · rcases h with ⟨i, hb, rfl, rfl, rfl⟩ | ⟨g, rfl, rfl⟩
    · rw [bad_one hb hb']; exact ⟨by simp, hB⟩
    · exact (bad_good hb' g).elim
  · rcases h with ⟨i, hb, rfl, rfl, rfl⟩ | ⟨g, rfl, rfl⟩
    · exact (bad_good hb g').elim
    · rw [good_one g g']; exact ⟨rfl, hB⟩

/-- A slice of no elements in a block of its own. -/
theorem own_empty (w : World) (t : TypeId) (base : Nat) (hb : base ≤ w.heap.size) : (w.alloc (.cells #[] t)).ownsRow base t 1 (.slice (some ⟨w.heap.size, 0, none⟩) 0 0) 0 [] :=
  ⟨rfl, .inr ⟨w.heap.size, 0, #[], rfl, hb, World.alloc_heap_new w _, Nat.le_refl _, Nat.zero_le _, rfl, rfl⟩⟩

end Go.Proofs.YtmbolgalgidleaaGreatDoor
