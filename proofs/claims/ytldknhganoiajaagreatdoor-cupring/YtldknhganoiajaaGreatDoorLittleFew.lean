/- The statements' closed fact on cochains: of three edges each sum of two is a delta. What ComplexError answers, with the error's value. What Little tells of sets of which something is said. -/
import Derived.Test.YtldknhganoiajaaGreatDoorCircle
import Derived.Test.YtldknhganoiajaaGreatDoorCupFaces1
import Derived.Test.YtldknhganoiajaaGreatDoorCupRefSpan
import Derived.Test.YtldknhganoiajaaGreatDoorCupRow
import Derived.Test.YtldknhganoiajaaGreatDoorMade
namespace Go.Proofs.YtldknhganoiajaaGreatDoor
open Go.RowKit Go.Sort

theorem slice_new (w : World) (cs : List Value) (t : TypeId) : SliceIn anyBlock (w.alloc (.cells cs.toArray t)) (.slice (some ⟨w.heap.size, 0, none⟩) cs.length cs.length) cs := by
  refine ⟨_, _, rfl, ⟨Nat.le_refl _, fun h => by cases h⟩, fun _ => ⟨w.heap.size, 0, rfl, trivial, fun k u hu => ?_⟩⟩
  rw [Nat.zero_add, World.cell?_alloc_new]
  simpa using hu
theorem ints_new (w : World) (xs : List Int) : Ints (w.alloc (.cells (xs.map (Value.int .i64)).toArray 3)) (.slice (some ⟨w.heap.size, 0, none⟩) xs.length xs.length) xs := by
  have := slice_new w (xs.map (Value.int .i64)) 3
  simpa [Ints, IntsIn] using this

theorem rows_three (w : World) (x0 x1 x2 : List Int) :
    Rows ((((w.alloc (.cells (x0.map (Value.int .i64)).toArray 3)).alloc (.cells (x1.map (Value.int .i64)).toArray 3)).alloc (.cells (x2.map (Value.int .i64)).toArray 3)).alloc (.cells #[.slice (some ⟨w.heap.size, 0, none⟩) x0.length x0.length, .slice (some ⟨w.heap.size + 1, 0, none⟩) x1.length x1.length, .slice (some ⟨w.heap.size + 1 + 1, 0, none⟩) x2.length x2.length] 39)) (.slice (some ⟨w.heap.size + 1 + 1 + 1, 0, none⟩) 3 3) [x0, x1, x2] := by
  have g : ∀ (W : World) (o : Obj), Below W.heap.size W (W.alloc o) := fun W o => (Below.refl _ W).alloc (Nat.le_refl _) o
  have i0 := (((ints_new w x0).below (g _ (.cells (x1.map (Value.int .i64)).toArray 3))).below (g _ (.cells (x2.map (Value.int .i64)).toArray 3))).below (g _ (.cells #[.slice (some ⟨w.heap.size, 0, none⟩) x0.length x0.length, .slice (some ⟨w.heap.size + 1, 0, none⟩) x1.length x1.length, .slice (some ⟨w.heap.size + 1 + 1, 0, none⟩) x2.length x2.length] 39))
  have i1 := ((ints_new (w.alloc (.cells (x0.map (Value.int .i64)).toArray 3)) x1).below (g _ (.cells (x2.map (Value.int .i64)).toArray 3))).below (g _ (.cells #[.slice (some ⟨w.heap.size, 0, none⟩) x0.length x0.length, .slice (some ⟨w.heap.size + 1, 0, none⟩) x1.length x1.length, .slice (some ⟨w.heap.size + 1 + 1, 0, none⟩) x2.length x2.length] 39))
  have i2 := (ints_new ((w.alloc (.cells (x0.map (Value.int .i64)).toArray 3)).alloc (.cells (x1.map (Value.int .i64)).toArray 3)) x2).below (g _ (.cells #[.slice (some ⟨w.heap.size, 0, none⟩) x0.length x0.length, .slice (some ⟨w.heap.size + 1, 0, none⟩) x1.length x1.length, .slice (some ⟨w.heap.size + 1 + 1, 0, none⟩) x2.length x2.length] 39))
  have hs := slice_new (((w.alloc (.cells (x0.map (Value.int .i64)).toArray 3)).alloc (.cells (x1.map (Value.int .i64)).toArray 3)).alloc (.cells (x2.map (Value.int .i64)).toArray 3)) [.slice (some ⟨w.heap.size, 0, none⟩) x0.length x0.length, .slice (some ⟨w.heap.size + 1, 0, none⟩) x1.length x1.length, .slice (some ⟨w.heap.size + 1 + 1, 0, none⟩) x2.length x2.length] 39
  simp only [World.size_alloc] at i1 i2 hs
  refine ⟨_, hs, rfl, fun k u x hu hx => ?_⟩
  match k, hu, hx with
  | 0, hu, hx => simp at hu hx; subst hu; subst hx; exact i0
  | 1, hu, hx => simp at hu hx; subst hu; subst hx; exact i1
  | 2, hu, hx => simp at hu hx; subst hu; subst hx; exact i2
  | n + 3, hu, hx => simp at hu

theorem srt_same {x : List Int} (h : Rising x) : srt x = x := (srt_told (h.imp (fun hab e => by omega)) h (fun _ => Iff.rfl)).symm
theorem cirF_srt : cirF.map srt = cirF := by
  show [srt [0, 1], srt [0, 2], srt [1, 2]] = [[0, 1], [0, 2], [1, 2]]
  rw [srt_same (by simp [Rising]), srt_same (by simp [Rising]), srt_same (by simp [Rising])]
theorem cirF_all : IsAll cirF cirA where
  order := cir_all.order
  mem x := by
    rw [cir_all.mem x]
    constructor
    · rintro ⟨h0, t, ht, hs⟩
      refine ⟨h0, ?_⟩
      simp only [cirT, List.mem_cons, List.not_mem_nil, or_false] at ht
      rcases ht with rfl | rfl | rfl | rfl
      · exact ⟨_, by simp [cirF], hs⟩
      · exact ⟨_, by simp [cirF], hs⟩
      · exact ⟨_, by simp [cirF], hs⟩
      · exact ⟨[0, 1], by simp [cirF], hs.trans (List.sublist_cons_self _ _)⟩
    · rintro ⟨h0, t, ht, hs⟩
      refine ⟨h0, t, ?_, hs⟩
      simp only [cirF, List.mem_cons, List.not_mem_nil, or_false] at ht
      rcases ht with rfl | rfl | rfl <;> simp [cirT]
theorem good_cir : Good cirF cirA where
  ok := fun x hx => by
    simp only [cirF, List.mem_cons, List.not_mem_nil, or_false] at hx
    rcases hx with rfl | rfl | rfl <;> exact ⟨by simp, by simp, by simp⟩
  few := by rw [cirF_srt]; exact not_over cirF_all (by decide) (by decide)
  isAll := by rw [cirF_srt]; exact cirF_all
  same := cir_facets
theorem cir_delta : bitsI (deltaW cirA 0 (maskN [0])) = [0, 1] := by decide +kernel

set_option maxRecDepth 100000 in
set_option maxHeartbeats 1000000 in
theorem cut_ {a : Nat → Addr} {s : Nat → ByteArray} (w : World) (hE : Errs a s w) (hT : TabOk w) :
    Calls Tryz.prog 4 #[] w fun e w' => e = .returned (.bool true) ∧ Below w.heap.size w w' := by
  have hR := rows_three w [0, 1] [0, 2] [1, 2]
  have hB4 : Below w.heap.size w _ := ((((Below.refl _ w).alloc (Nat.le_refl _) (.cells (([0, 1] : List Int).map (Value.int .i64)).toArray 3)).alloc (by simp) (.cells (([0, 2] : List Int).map (Value.int .i64)).toArray 3)).alloc (by simp; omega) (.cells (([1, 2] : List Int).map (Value.int .i64)).toArray 3)).alloc (by simp; omega) (.cells #[.slice (some ⟨w.heap.size, 0, none⟩) 2 2, .slice (some ⟨w.heap.size + 1, 0, none⟩) 2 2, .slice (some ⟨w.heap.size + 1 + 1, 0, none⟩) 2 2] 39)
  obtain ⟨W4, hW4⟩ : ∃ W4, (((w.alloc (.cells (([0, 1] : List Int).map (Value.int .i64)).toArray 3)).alloc (.cells (([0, 2] : List Int).map (Value.int .i64)).toArray 3)).alloc (.cells (([1, 2] : List Int).map (Value.int .i64)).toArray 3)).alloc (.cells #[.slice (some ⟨w.heap.size, 0, none⟩) 2 2, .slice (some ⟨w.heap.size + 1, 0, none⟩) 2 2, .slice (some ⟨w.heap.size + 1 + 1, 0, none⟩) 2 2] 39) = W4 := ⟨_, rfl⟩
  have HW4 := Hid.mk' hW4
  have hz4 : W4.heap.size = w.heap.size + 1 + 1 + 1 + 1 := by rw [← hW4]; simp
  replace hR : Rows W4 (.slice (some ⟨w.heap.size + 1 + 1 + 1, 0, none⟩) 3 3) cirF := by rw [← hW4]; exact hR
  rw [hW4] at hB4
  have b5 : Below W4.heap.size W4 (W4.alloc (.cells #[.slice (some ⟨w.heap.size + 1 + 1 + 1, 0, none⟩) 3 3] 31)) := (Below.refl _ W4).alloc (Nat.le_refl _) _
  have q5 := (box_new W4 (.slice (some ⟨w.heap.size + 1 + 1 + 1, 0, none⟩) 3 3) 31).1
  obtain ⟨W5, hW5⟩ : ∃ W5, W4.alloc (.cells #[.slice (some ⟨w.heap.size + 1 + 1 + 1, 0, none⟩) 3 3] 31) = W5 := ⟨_, rfl⟩
  have HW5 := Hid.mk' hW5
  have hz5 : W5.heap.size = W4.heap.size + 1 := by rw [← hW5]; simp
  rw [hW5] at b5 q5
  have hB5 : Below w.heap.size w W5 := hB4.trans (b5.mono hB4.size)
  have i6 := ints_new W5 [0]
  have b6 : Below W5.heap.size W5 (W5.alloc (.cells #[.int .i64 0] 3)) := (Below.refl _ W5).alloc (Nat.le_refl _) _
  have hB6 : Below w.heap.size w (W5.alloc (.cells #[.int .i64 0] 3)) := hB5.trans (b6.mono hB5.size)
  have hde : Calls Tryz.prog 13 #[.agg #[.slice (some ⟨w.heap.size + 1 + 1 + 1, 0, none⟩) 3 3], .int .i64 0, .slice (some ⟨W5.heap.size, 0, none⟩) 1 1] (W5.alloc (.cells #[.int .i64 0] 3)) fun e w' => ∃ u, e = .returned (.tuple #[u, .nilIface]) ∧ IntsIn (fun b => (W5.alloc (.cells #[.int .i64 0] 3)).heap.size ≤ b) w' u [0, 1] ∧ Below (W5.alloc (.cells #[.int .i64 0] 3)).heap.size (W5.alloc (.cells #[.int .i64 0] 3)) w' := by
    have h := cupDelta_ok (d := 0) (f := [0]) good_cir (by decide) (by decide) ⟨by simp, by decide⟩ (.slice (some ⟨w.heap.size + 1 + 1 + 1, 0, none⟩) 3 3) (.slice (some ⟨W5.heap.size, 0, none⟩) 1 1) (W5.alloc (.cells #[.int .i64 0] 3)) (hE.below hB6) (hT.below hB6) ((hR.below b5).below b6) (by decide) (by decide) i6 (by decide)
    rw [cir_delta] at h
    exact h
  have q6 : (W5.alloc (.cells #[.int .i64 0] 3)).cell? ⟨W4.heap.size, 0, none⟩ = some (.slice (some ⟨w.heap.size + 1 + 1 + 1, 0, none⟩) 3 3) := (b6.cell (p := ⟨W4.heap.size, 0, none⟩) (by show W4.heap.size < W5.heap.size; omega)).trans q5
  have HB6 := Hid.mk' hB6
  clear hE hT hR hB4 hW4 hW5 b5 hB5 i6 b6 hB6 hz5
  go_enter Tryz.func4, Tryz.ntmps4
  go_upto_region 2 with fail
  rw [show (((w.alloc (.cells #[.int .i64 0, .int .i64 1] 3)).alloc (.cells #[.int .i64 0, .int .i64 2] 3)).alloc (.cells #[.int .i64 1, .int .i64 2] 3)).alloc (.cells #[.slice (some ⟨w.heap.size, 0, none⟩) 2 2, .slice (some ⟨w.heap.size + 1, 0, none⟩) 2 2, .slice (some ⟨w.heap.size + 1 + 1, 0, none⟩) 2 2] 39) = W4 from HW4.out, HW5.out, ← hz4]
  clear hz4
  go_wp2_with fail
  refine hde.mono ?_
  clear hde
  rintro e V ⟨u, rfl, hu, hV⟩
  have HBV : Hid (Below w.heap.size w V) := HB6.out.trans (hV.mono HB6.out.size)
  have i8 := ints_new V [0, 1]
  have b8 : Below V.heap.size V (V.alloc (.cells #[.int .i64 0, .int .i64 1] 3)) := (Below.refl _ V).alloc (Nat.le_refl _) _
  have hsi := same_ints u (.slice (some ⟨V.heap.size, 0, none⟩) 2 2) [0, 1] [0, 1] (V.alloc (.cells #[.int .i64 0, .int .i64 1] 3)) (hu.any.below b8) i8 (by decide)
  rw [decide_eq_true rfl] at hsi
  have HB8 : Hid (Below w.heap.size w (V.alloc (.cells #[.int .i64 0, .int .i64 1] 3))) := HBV.out.trans (b8.mono HBV.out.size)
  obtain ⟨au, cu, rfl, -, -⟩ := hu.open_
  clear hu hV i8 b8 q6
  go_wp2_with fail
  refine hsi.mono ?_
  clear hsi
  rintro e V2 ⟨rfl, q, rfl⟩
  go_wp2_with fail
  go_ret
  exact ⟨rfl, HB8.out.trans (drew_below _ _)⟩

end Go.Proofs.YtldknhganoiajaaGreatDoor

namespace Go.Proofs.YtldknhganoiajaaGreatDoor
open Go.RowKit Go.Sort Go.Maps Go.Deep

/-- What ComplexError answers, with the error's value. -/
theorem error_k2 (CL : ClosedHolds) (a : Nat → Addr) (vl : Value) (l : List (List Int)) (w : World) (hl : Rows w vl l) (hll : l.length ≤ 100000) (hle : ∀ x ∈ l, x.length ≤ 1000) :
    Calls Tryz.prog 6 #[vl] w fun e w' => Below w.heap.size w w' ∧ ∃ ve n all, Kind a l ve n all ∧ e = .returned (.int .i64 n) ∧ (((n == 0) = false ∧ 0 < n ∧ all = [] ∧ ∃ i : Nat, BadAt l i ∧ ve = .iface 179 (.pointer (some (a i))) ∧ n = (i : Int) + 1) ∨ (n = 0 ∧ Good l all)) := by
  refine (error_g CL vl l w hl hll hle).mono ?_
  rintro e w' ⟨hB, ⟨i, hb, rfl⟩ | ⟨all, g, rfl⟩⟩
  · exact ⟨hB, _, _, [], .inl ⟨i, hb, rfl, rfl, rfl⟩, rfl, .inl ⟨beq_false_of_ne (by omega), by omega, rfl, i, hb, rfl, rfl⟩⟩
  · exact ⟨hB, _, _, all, .inr ⟨g, rfl, rfl⟩, rfl, .inr ⟨rfl, g⟩⟩

end Go.Proofs.YtldknhganoiajaaGreatDoor

namespace Go.Proofs.YtldknhganoiajaaGreatDoor
open Go.RowKit Go.Sort Go.Maps Go.Deep

set_option maxRecDepth 100000 in
theorem little_few (CL : ClosedHolds) (vl : Value) (l : List (List Int)) (m : Nat) (w : World) (hl : Rows w vl l) :
    Calls Tryz.prog 5 #[vl, .int .i64 m] w fun e w' => ∃ q : Bool, e = .returned (.bool q) ∧ Below w.heap.size w w' ∧ (q = true → l.length ≤ 40 ∧ (∀ x ∈ l, x.length ≤ 12) ∧ ∀ all, Good l all → all.length ≤ m) := by
  have hfw := few_ vl l w hl
  have HR : Hid (Rows w vl l) := hl
  have HC : Hid ClosedHolds := CL
  clear CL hl
  go_enter Tryz.func5, Tryz.ntmps5
  go_wp2_with fail
  refine hfw.mono ?_
  rintro e w2 ⟨q, rfl, rfl, hq⟩
  cases q with
  | false =>
    clear hfw hq
    go_wp2
    go_ret
    exact ⟨false, rfl, Below.refl _ _, fun h => by cases h⟩
  | true =>
    have hb := hq rfl
    have hcl := HC.out vl l w2 HR.out (by omega) (fun x hx => by have := hb.2 x hx; omega)
    have HB : Hid (l.length ≤ 40 ∧ ∀ x ∈ l, x.length ≤ 12) := hb
    clear hfw hq hb
    go_wp2_with fail
    refine hcl.mono ?_
    rintro e w3 ⟨hB, ⟨hno, rfl⟩ | ⟨hok, hov, rfl⟩ | ⟨hok, hov, v, all, rfl, hr0, hal, h6⟩⟩
    · have HN : Hid (¬ ∀ x ∈ l, SetOk x) := hno
      clear hcl hno
      go_wp2
      go_ret
      exact ⟨_, rfl, hB, fun _ => ⟨HB.out.1, HB.out.2, fun all g => absurd g.ok HN.out⟩⟩
    · have HN : Hid (Over (l.map srt)) := hov
      clear hcl hok hov
      go_wp2
      go_ret
      exact ⟨_, rfl, hB, fun _ => ⟨HB.out.1, HB.out.2, fun all g => absurd HN.out g.few⟩⟩
    · have hr := hr0.any
      obtain ⟨ar, cr, rfl, -, -⟩ := hr.open_
      have HN : Hid (IsAll (l.map srt) all) := hal
      clear hcl hr hal hok hov
      by_cases hm : all.length ≤ m
      · go_wp2
        go_ret
        exact ⟨_, rfl, hB, fun _ => ⟨HB.out.1, HB.out.2, fun all' g => by rw [all_one g.isAll HN.out]; exact hm⟩⟩
      · have hmb : decide ((all.length : Int) ≤ (m : Int)) = false := decide_eq_false (by omega)
        go_wp2
        go_ret
        exact ⟨false, by simp, hB, fun h => by cases h⟩

end Go.Proofs.YtldknhganoiajaaGreatDoor
