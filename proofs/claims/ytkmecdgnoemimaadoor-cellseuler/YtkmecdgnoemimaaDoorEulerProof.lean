/- CellsEuler answers true of whatever two lists of sets, face and vertex, and leaves them alone; conditions: the three errors ErrBound, ErrShape, ErrFace start as the program's text lays them, which the card ties to that text. -/
import Derived.Test.YtkmecdgnoemimaaDoorCards
import Derived.Test.YtkmecdgnoemimaaDoorTie
import Derived.Test.YtkmecdgnoemimaaDoorLaid
import Derived.Test.YtkmecdgnoemimaaDoorClosed
import Derived.Test.YtkmecdgnoemimaaDoorEulerLaw
namespace Go.Proofs.YtkmecdgnoemimaaDoor
open Go.ChangeShapes Go.WideShapes Go.RowKit Go.Deep

set_option maxRecDepth 100000 in
theorem euler_law_lifted (os : Os) (started : os.Started) (H : Type) (enc : TypeId × Value → H) :
    ReturnsInHanded {} Tryd.checked os 4 .any (fun w args => (Rows.cellsEulerSpec.pre enc Tryd.prog Tryd.f4 [] false w args ∧ laidMetH Tryd.prog Rows.cellsEulerRow.laid w) ∧ sizedMet enc Tryd.prog Tryd.f4 (OpenSpec.ofChange Rows.cellsEulerSpec) false w args)
      (Rows.cellsEulerSpec.post enc Tryd.prog Tryd.f4 false true false false) := by
  refine returnsInHanded_of_change_and (C := Tryd.checked) (X := fun w _ => laidMetH Tryd.prog Rows.cellsEulerRow.laid w) (fun _ _ _ hh h => h.of_heap hh) Tryd.own started (by kernel_rfl) Tryd.func4
    (ChangeSpec.witness_shaped (enc := enc) (C := Tryd.checked) (os := os) (X := fun w _ => laidMetH Tryd.prog Rows.cellsEulerRow.laid w) false (World.doorLaid Tryd.prog 400 os) #[.slice none 0 0, .slice none 0 0, .slice none 0 0, .int .i64 0] 8 rfl (World.shaped_of_RefB (by kernel_rfl) (by kernel_rfl)) (by kernel_rfl) (by kernel_rfl) (by kernel_rfl) (door_met os _)) ?_
  intro W base args ds gs before hval0 hW _ _ hL _
  have hW' := hW
  obtain ⟨p, q, hA0, hV0, rfl, hfz, hnd⟩ := hW
  have hA : DataW.TrodAll enc Tryd.prog W 0 (fun _ => true) true Tryd.f4.params.toList args.toList ds p := hA0
  have hV : DataW.TrodVars enc Tryd.prog W (fun _ => true) [] gs q := hV0
  have hval : ∀ (j : Nat) t v, Tryd.f4.params[j]? = some t → args[j]? = some v → Value.okWide Tryd.prog W .any base t v := hval0
  rw [Tryd.params4] at hA hval
  obtain ⟨v1, v2, v3, v4, d1, d2, d3, d4, p1, p2, p3, p4, rfl, rfl, rfl, hT1, hT2, hT3, hT4⟩ := trodAll_four hA
  obtain ⟨a, s, hE⟩ := errs_of_laid hL
  obtain ⟨rfl, rfl⟩ := trodVars_none hV
  obtain ⟨a0, len, cap, rfl⟩ := okWide_slice Tryd.underlying22 (hval 0 22 v1 rfl rfl)
  obtain ⟨a2, len2, cap2, rfl⟩ := okWide_slice Tryd.underlying22 (hval 1 22 v2 rfl rfl)
  obtain ⟨a3, len3, cap3, rfl⟩ := okWide_slice Tryd.underlying37 (hval 2 37 v3 rfl rfl)
  obtain ⟨dim, rfl⟩ := okWide_int Tryd.underlying3 (hval 3 3 v4 rfl rfl)
  simp only [List.append_nil] at hW'
  have hlt : ∀ x ∈ p1 ++ p2 ++ p3 ++ p4, x.block < W.heap.size := fun x hx => by simpa using hW'.lt x hx
  have hT1k := hT1
  have hT2k := hT2
  have hT3k := hT3
  obtain ⟨fuel1, hf1⟩ := hT1
  obtain ⟨fuel2, hf2⟩ := hT2
  obtain ⟨fuel3, hf3⟩ := hT3
  obtain ⟨v', l, hv', hR⟩ := rows_of_trod hf1
  obtain rfl : .slice a0 len cap = v' := by simpa [Value.cells] using hv'
  obtain ⟨v'', m, hv'', hR2⟩ := rows_of_trod hf2
  obtain rfl : .slice a2 len2 cap2 = v'' := by simpa [Value.cells] using hv''
  obtain ⟨v3', f, hv3, hI⟩ := ints_of_trod hf3
  obtain rfl : .slice a3 len3 cap3 = v3' := by simpa [Value.cells] using hv3
  have e1 : Rows.cellsEulerSpec.fn H ([d1, d2, d3, d4] ++ []) = { results := [.lit (.bool true)], args := [d1, d2, d3, d4] } := by simp [Rows.cellsEulerSpec]
  refine (euler_law closed_ _ _ _ l m f dim W hE hR hR2 hI).mono fun e W' ⟨he, hb⟩ => ?_
  subst he
  refine ⟨_, rfl, _, _, _, [], p1 ++ (p2 ++ (p3 ++ p4)), [], hW', ?_, ?_, ?_, hb.frame _, fun h => by cases h⟩
  · rw [e1]; exact trodAll_mk1 (shut_bool Tryd.underlying4 true)
  · rw [e1]; exact trodAll_mk4 (Below.trod Tryd.laidOut (by kernel_rfl) (of_decide_eq_true (by kernel_rfl)) hT1k hb (fun x hx => hlt x (by simp [hx]))) (Below.trod Tryd.laidOut (by kernel_rfl) (of_decide_eq_true (by kernel_rfl)) hT2k hb (fun x hx => hlt x (by simp [hx]))) (Below.trod Tryd.laidOut (by kernel_rfl) (of_decide_eq_true (by kernel_rfl)) hT3k hb (fun x hx => hlt x (by simp [hx]))) (Below.trod Tryd.laidOut (by kernel_rfl) (of_decide_eq_true (by kernel_rfl)) hT4 hb (fun x hx => hlt x (by simp [hx])))
  · rw [e1]; rfl

theorem euler_law_row : Rows.CellsEulerSaid :=
  OpenClaim.holds_of_wide 4 Tryd.f4 rfl rfl rfl rfl rfl rfl rfl ⟨rfl, rfl, rfl, rfl, rfl⟩ rfl rfl rfl rfl rfl (by kernel_rfl) Tryd.func4 (by kernel_rfl)
    (of_decide_eq_true (by kernel_rfl)) (by unfold Func.isWrapper; rw [if_neg (of_decide_eq_false (by kernel_rfl))]; exact ⟨rfl, rfl⟩)
    (fun os started H enc _ => euler_law_lifted os started H enc)

theorem euler_law_holds : Rows.CellsEulerCardSaid :=
  Claim7.holds_tied_plain_at .later [] [.sentinel, .sentinel, .sentinel] true (true, "84c98a1ce0475cd64e0027017739244ff8d9e45a7e110756746b3d26ed3444c5") true
    euler_law_row (fun _ h => by cases h) (by kernel_rfl) (fun _ h => by cases h) cellsEuler_row_tie rfl ⟨rfl, rfl⟩ (by kernel_rfl) rfl
    (fun f fn hf hfn => by
      obtain rfl : f = 4 := Option.some.inj ((show Tryd.prog.funcNamed "handlebody/handlebodylaw1.CellsEuler" = some 4 by kernel_rfl).symm.trans hf) |>.symm
      obtain rfl : fn = Tryd.f4 := (Option.some.inj (Tryd.func4.symm.trans hfn)).symm
      exact ⟨by kernel_rfl, fun j t ht => by
        rw [Tryd.params4] at ht
        have hm : t ∈ [22, 22, 37, 3] := by simpa using Array.mem_of_getElem? ht
        have hall : ([22, 22, 37, 3].all fun u => !Tryd.prog.wantsStandIn u) = true := by kernel_rfl
        exact (show Tryd.prog.wantsStandIn t = false by simpa using List.all_eq_true.1 hall t hm)⟩)
    (by kernel_rfl)
#print axioms euler_law_holds
end Go.Proofs.YtkmecdgnoemimaaDoor
