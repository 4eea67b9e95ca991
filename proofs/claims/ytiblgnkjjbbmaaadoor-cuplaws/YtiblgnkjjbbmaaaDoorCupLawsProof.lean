/- CupLaws answers true of whatever complex, dimensions and lists of numbers, and leaves them alone; conditions: the errors ErrBound, ErrShape, ErrFace and the listed table of the library start as the program's text lays them, which the card ties to that text. -/
import Derived.Test.YtiblgnkjjbbmaaaDoorCards
import Derived.Test.YtiblgnkjjbbmaaaDoorTie
import Derived.Test.YtiblgnkjjbbmaaaDoorCupLaidFew
import Derived.Test.YtiblgnkjjbbmaaaDoorClosed
import Derived.Test.YtiblgnkjjbbmaaaDoorCupLawsLaw
namespace Go.Proofs.YtiblgnkjjbbmaaaDoor
open Go.ChangeShapes Go.WideShapes Go.RowKit Go.Deep

set_option maxRecDepth 100000 in
theorem laws_card_lifted (os : Os) (started : os.Started) (H : Type) (enc : TypeId × Value → H) :
    ReturnsInHanded {} Tryd.checked os 3 .any (fun w args => (Rows.cupLawsSpec.pre enc Tryd.prog Tryd.f3 [] false w args ∧ laidMetH Tryd.prog Rows.cupLawsRow.laid w) ∧ sizedMet enc Tryd.prog Tryd.f3 (OpenSpec.ofChange Rows.cupLawsSpec) false w args)
      (Rows.cupLawsSpec.post enc Tryd.prog Tryd.f3 false true false false) := by
  refine returnsInHanded_of_change_and (C := Tryd.checked) (X := fun w _ => laidMetH Tryd.prog Rows.cupLawsRow.laid w) (fun _ _ _ hh h => h.of_heap hh) Tryd.own started (by kernel_rfl) Tryd.func3
    (ChangeSpec.witness_shaped (enc := enc) (C := Tryd.checked) (os := os) (X := fun w _ => laidMetH Tryd.prog Rows.cupLawsRow.laid w) false (World.doorLaid Tryd.prog 400 os) #[.slice none 0 0, .int .i64 0, .slice none 0 0, .int .i64 0, .slice none 0 0, .slice none 0 0] 8 rfl (World.shaped_of_RefB (by kernel_rfl) (by kernel_rfl)) (by kernel_rfl) (by kernel_rfl) (by kernel_rfl) (door_met os _)) ?_
  intro W base args ds gs before hval0 hW _ _ hL _
  have hW' := hW
  obtain ⟨p, q, hA0, hV0, rfl, hfz, hnd⟩ := hW
  have hA : DataW.TrodAll enc Tryd.prog W 0 (fun _ => true) true Tryd.f3.params.toList args.toList ds p := hA0
  have hV : DataW.TrodVars enc Tryd.prog W (fun _ => true) [] gs q := hV0
  have hval : ∀ (j : Nat) t v, Tryd.f3.params[j]? = some t → args[j]? = some v → Value.okWide Tryd.prog W .any base t v := hval0
  rw [Tryd.params3] at hA hval
  obtain ⟨v1, vs1, d1, ds1, p1, r1, ha1, rfl, rfl, hT1, hA1⟩ := trodAll_cons hA
  obtain ⟨v2, vs2, d2, ds2, p2, r2, rfl, rfl, rfl, hT2, hA2⟩ := trodAll_cons hA1
  obtain ⟨v3, vs3, d3, ds3, p3, r3, rfl, rfl, rfl, hT3, hA3⟩ := trodAll_cons hA2
  obtain ⟨v4, vs4, d4, ds4, p4, r4, rfl, rfl, rfl, hT4, hA4⟩ := trodAll_cons hA3
  obtain ⟨v5, vs5, d5, ds5, p5, r5, rfl, rfl, rfl, hT5, hA5⟩ := trodAll_cons hA4
  obtain ⟨v6, vs6, d6, ds6, p6, r6, rfl, rfl, rfl, hT6, hA6⟩ := trodAll_cons hA5
  obtain ⟨rfl, rfl, rfl⟩ := trodAll_nil hA6
  obtain rfl : args = #[v1, v2, v3, v4, v5, v6] := by cases args; simp_all
  obtain ⟨a, s, hE⟩ := errs_of_laid hL
  have hTab := tab_of_laid hL
  obtain ⟨rfl, rfl⟩ := trodVars_none hV
  obtain ⟨a0, len, cap, rfl⟩ := okWide_slice Tryd.underlying22 (hval 0 22 v1 rfl rfl)
  obtain ⟨i, rfl⟩ := okWide_int Tryd.underlying3 (hval 1 3 v2 rfl rfl)
  obtain ⟨a2, len2, cap2, rfl⟩ := okWide_slice Tryd.underlying23 (hval 2 23 v3 rfl rfl)
  obtain ⟨k, rfl⟩ := okWide_int Tryd.underlying3 (hval 3 3 v4 rfl rfl)
  obtain ⟨a4, len4, cap4, rfl⟩ := okWide_slice Tryd.underlying23 (hval 4 23 v5 rfl rfl)
  obtain ⟨a5, len5, cap5, rfl⟩ := okWide_slice Tryd.underlying23 (hval 5 23 v6 rfl rfl)
  simp only [List.append_nil] at hW'
  have hlt : ∀ x ∈ p1 ++ (p2 ++ (p3 ++ (p4 ++ (p5 ++ p6)))), x.block < W.heap.size := fun x hx => by simpa using hW'.lt x (by simpa using hx)
  have hT1k := hT1
  have hT3k := hT3
  have hT5k := hT5
  have hT6k := hT6
  obtain ⟨fuel1, hf1⟩ := hT1
  obtain ⟨fuel3, hf3⟩ := hT3
  obtain ⟨fuel5, hf5⟩ := hT5
  obtain ⟨fuel6, hf6⟩ := hT6
  obtain ⟨v', l, hv', hR⟩ := rows_of_trod hf1
  obtain rfl : .slice a0 len cap = v' := by simpa [Value.cells] using hv'
  obtain ⟨v'', f, hv'', hI⟩ := ints_of_trod hf3
  obtain rfl : .slice a2 len2 cap2 = v'' := by simpa [Value.cells] using hv''
  obtain ⟨u'', g, hu'', hJ⟩ := ints_of_trod hf5
  obtain rfl : .slice a4 len4 cap4 = u'' := by simpa [Value.cells] using hu''
  obtain ⟨t'', h, ht'', hK⟩ := ints_of_trod hf6
  obtain rfl : .slice a5 len5 cap5 = t'' := by simpa [Value.cells] using ht''
  have e1 : Rows.cupLawsSpec.fn H ([d1, d2, d3, d4, d5, d6] ++ []) = { results := [.lit (.bool true)], args := [d1, d2, d3, d4, d5, d6] } := by simp [Rows.cupLawsSpec]
  refine (laws_law _ _ _ _ l f g h i k W hE hTab hR hI hJ hK).mono fun e W' ⟨he, hb⟩ => ?_
  subst he
  refine ⟨_, rfl, _, _, _, [], p1 ++ (p2 ++ (p3 ++ (p4 ++ (p5 ++ p6)))), [], by simpa using hW', ?_, ?_, ?_, hb.frame _, fun h => by cases h⟩
  · rw [e1]; exact trodAll_mk1 (shut_bool Tryd.underlying4 true)
  · rw [e1]; exact ⟨p1, p2 ++ (p3 ++ (p4 ++ (p5 ++ p6))), Below.trod Tryd.laidOut (by kernel_rfl) (of_decide_eq_true (by kernel_rfl)) hT1k hb (fun x hx => hlt x (by simp [hx])), ⟨p2, p3 ++ (p4 ++ (p5 ++ p6)), Below.trod Tryd.laidOut (by kernel_rfl) (of_decide_eq_true (by kernel_rfl)) hT2 hb (fun x hx => hlt x (by simp [hx])), trodAll_mk4 (Below.trod Tryd.laidOut (by kernel_rfl) (of_decide_eq_true (by kernel_rfl)) hT3k hb (fun x hx => hlt x (by simp [hx]))) (Below.trod Tryd.laidOut (by kernel_rfl) (of_decide_eq_true (by kernel_rfl)) hT4 hb (fun x hx => hlt x (by simp [hx]))) (Below.trod Tryd.laidOut (by kernel_rfl) (of_decide_eq_true (by kernel_rfl)) hT5k hb (fun x hx => hlt x (by simp [hx]))) (Below.trod Tryd.laidOut (by kernel_rfl) (of_decide_eq_true (by kernel_rfl)) hT6k hb (fun x hx => hlt x (by simp [hx]))), rfl⟩, rfl⟩
  · rw [e1]; rfl

theorem laws_card_row : Rows.CupLawsSaid :=
  OpenClaim.holds_of_wide 3 Tryd.f3 rfl rfl rfl rfl rfl rfl rfl ⟨rfl, rfl, rfl, rfl, rfl⟩ rfl rfl rfl rfl rfl (by kernel_rfl) Tryd.func3 (by kernel_rfl)
    (of_decide_eq_true (by kernel_rfl)) (by unfold Func.isWrapper; rw [if_neg (of_decide_eq_false (by kernel_rfl))]; exact ⟨rfl, rfl⟩)
    (fun os started H enc _ => laws_card_lifted os started H enc)

theorem laws_card_holds : Rows.CupLawsCardSaid :=
  Claim7.holds_tied_plain_at .later [] [.data, .sentinel, .sentinel, .sentinel] true (true, "f7ecb2489e3844aa427e6fb6a6c5d779d5045e9d7fcd08003ccdf93b3c249b48") false
    laws_card_row (fun _ h => by cases h) (by kernel_rfl) (fun _ h => by cases h) cupLaws_row_tie rfl ⟨rfl, rfl⟩ (by kernel_rfl) rfl
    (fun f fn hf hfn => by
      obtain rfl : f = 3 := Option.some.inj ((show Tryd.prog.funcNamed "handlebody/handlebodylaw2.CupLaws" = some 3 by kernel_rfl).symm.trans hf) |>.symm
      obtain rfl : fn = Tryd.f3 := (Option.some.inj (Tryd.func3.symm.trans hfn)).symm
      exact ⟨by kernel_rfl, fun j t ht => by
        rw [Tryd.params3] at ht
        have hm : t ∈ [22, 3, 23, 3, 23, 23] := by simpa using Array.mem_of_getElem? ht
        have hall : ([22, 3, 23, 3, 23, 23].all fun u => !Tryd.prog.wantsStandIn u) = true := by kernel_rfl
        exact (show Tryd.prog.wantsStandIn t = false by simpa using List.all_eq_true.1 hall t hm)⟩)
    (by kernel_rfl)
#print axioms laws_card_holds
end Go.Proofs.YtiblgnkjjbbmaaaDoor
