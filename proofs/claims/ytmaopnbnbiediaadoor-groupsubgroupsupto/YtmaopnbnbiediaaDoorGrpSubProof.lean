/- GroupSubgroups answers true of whatever group that is not too great and whatever index, and leaves them alone; conditions: what comes in is of bulk at most 1048576, and the eight errors and errors.errorType start as the program's text lays them, which the card ties to that text. -/
import Derived.Test.YtmaopnbnbiediaaDoorCards
import Derived.Test.YtmaopnbnbiediaaDoorTie
import Derived.Test.YtmaopnbnbiediaaDoorSurfMath
import Derived.Test.YtmaopnbnbiediaaDoorGrpSubLaw
import Derived.Deep.DeepHandedRow
import Derived.Deep.DeepWitnessRowRef
namespace Go.Proofs.YtmaopnbnbiediaaDoor
open Go.ChangeShapes Go.WideShapes Go.RowKit Go.Deep

theorem Tryd.cellsOfRows : Tryd.prog.cellsOf 22 = 1 := by kernel_rfl
theorem Tryd.cellsOfGrp : Tryd.prog.cellsOf 24 = 2 := by kernel_rfl

theorem len_two {α : Type} {l : List α} (h : l.length = 2) : ∃ x y, l = [x, y] := by
  match l, h with
  | [x, y], _ => exact ⟨x, y, rfl⟩

set_option maxRecDepth 100000 in
/-- A group that comes in. -/
theorem group_of_trod {H : Type} {enc : TypeId × Value → H} {W : World} {base : Nat} {held : Bool} {fuel : Nat} {cs : List Value} {x : DataW H × List MemPlace}
    (h : DataW.trod enc Tryd.prog W base (fun _ => true) held fuel 24 cs = some x) : ∃ (n : Int) (v : Value) (l : List (List Int)), cs = [.int .i64 n, v] ∧ Rows W v l ∧ l.length ≤ Rows.uptoBulk x.1 ∧ l.flatten.length ≤ Rows.uptoBulk x.1 := by
  obtain ⟨y0, y1, k, rfl, hl, h0, h1⟩ := trod_struct2 Tryd.underlying24 h
  rw [Tryd.cellsOfGrp] at hl
  obtain ⟨c0, c1, rfl⟩ := len_two hl
  dsimp only at h0 h1
  rw [Tryd.cellsOfInt] at h0
  rw [Tryd.cellsOfRows] at h1
  obtain ⟨n, e0, _⟩ := DataW.trod_int Tryd.underlying3 h0
  obtain ⟨v, l, e1, hR, hb1, hb2⟩ := rows_of_trodU h1
  simp at e0 e1
  refine ⟨n, v, l, by rw [e0, e1], hR, ?_, ?_⟩
  · simp only [Rows.uptoBulk, Rows.uptoBulkAll]; omega
  · simp only [Rows.uptoBulk, Rows.uptoBulkAll]; omega

set_option maxRecDepth 100000 in
theorem subgroups_lifted (os : Os) (started : os.Started) (H : Type) (enc : TypeId × Value → H) (F : Stop.Interp) :
    ReturnsInHanded {} Tryd.checked os 3 .any ((Rows.OpenSpec.upto Rows.groupSubgroupsSpec).preRow enc Tryd.prog Tryd.f3 Rows.groupSubgroupsUptoRow.domain false Rows.groupSubgroupsUptoRow.laid) (((Rows.OpenSpec.upto Rows.groupSubgroupsSpec).at F).post enc Tryd.prog Tryd.f3 false true false false) := by
  have hx : ∃ places, DataW.whole enc Tryd.prog ((World.doorLaid Tryd.prog 400 os).forCall (fun _ _ => 0) ⟨#[], #[.agg #[.int .i64 0, .slice none 0 0], .int .i64 0], []⟩).memory Tryd.f3.params.toList Rows.groupSubgroupsSpec.vars false #[Value.agg #[.int .i64 0, .slice none 0 0], .int .i64 0].toList 8 = some ([.agg [.lit (.int .i64 0), .nil], .lit (.int .i64 0)], [], places) := ⟨[], by kernel_rfl⟩
  obtain ⟨places, hx⟩ := hx
  refine returnsInHanded_of_row (C := Tryd.checked) (s := Rows.OpenSpec.upto Rows.groupSubgroupsSpec) Tryd.own started (by kernel_rfl) Tryd.func3
    (witness_row_atRef (enc := enc) (C := Tryd.checked) false (World.doorLaid Tryd.prog 400 os) #[.agg #[.int .i64 0, .slice none 0 0], .int .i64 0] rfl (by kernel_rfl) (by kernel_rfl) (by kernel_rfl)
      (OpenSpec.preRow_of_cond 8 hx (by kernel_rfl) (fun k hk => by cases hk; kernel_rfl) (by kernel_rfl) (door_met os _))) ?_
  intro W base args ds gs before hval0 hW _ hcond _ hL _ _
  have hW' := hW
  obtain ⟨p, q, hA0, hV0, rfl, hfz, hnd⟩ := hW
  have hA : DataW.TrodAll enc Tryd.prog W 0 (fun _ => true) true Tryd.f3.params.toList args.toList ds p := hA0
  have hV : DataW.TrodVars enc Tryd.prog W (fun _ => true) [] gs q := hV0
  have hval : ∀ (j : Nat) t v, Tryd.f3.params[j]? = some t → args[j]? = some v → Value.okWide Tryd.prog W .any base t v := hval0
  rw [Tryd.params3] at hA hval
  obtain ⟨v1, v2, d1, d2, p1, p2, rfl, rfl, rfl, hT1, hT2⟩ := trodAll_two hA
  obtain ⟨a, s, hE⟩ := errs_of_laid hL
  obtain ⟨rfl, rfl⟩ := trodVars_none hV
  obtain ⟨cs, rfl, hcs⟩ := okWide_struct Tryd.underlying24 (hval 0 24 v1 rfl rfl)
  obtain ⟨ix, rfl⟩ := okWide_int Tryd.underlying3 (hval 1 3 v2 rfl rfl)
  simp only [List.append_nil] at hW'
  have hlt : ∀ x ∈ p1 ++ p2, x.block < W.heap.size := fun x hx => by simpa using hW'.lt x hx
  have hT1k := hT1
  have hT2k := hT2
  obtain ⟨fuel1, hf1⟩ := hT1
  obtain ⟨n, vr, rels, hc, hR, hb1, hb2⟩ := group_of_trod hf1
  have hcs2 : cs = #[.int .i64 n, vr] := by
    have h2 : cs.toList = [.int .i64 n, vr] := by simpa [Value.cells] using hc
    exact Array.toList_inj.1 h2
  subst hcs2
  have hk : Rows.uptoBulkAll ([d1, d2] ++ []) ≤ 1048576 := of_decide_eq_true (hcond _ rfl)
  have hk2 : Rows.uptoBulk d1 + Rows.uptoBulk d2 ≤ 1048576 := by
    simp only [List.append_nil, Rows.uptoBulkAll] at hk
    omega
  have e1 : ((Rows.OpenSpec.upto Rows.groupSubgroupsSpec).at F).fn H ([d1, d2] ++ []) = { results := [.lit (.bool true)], args := [d1, d2] } := rfl
  refine (subgroups_law n ix vr rels W hE ⟨hR, by dsimp only at hb1; omega, by dsimp only at hb2; omega⟩).mono fun e W' ⟨he, hb⟩ => ?_
  subst he
  refine ⟨_, rfl, _, _, _, [], p1 ++ p2, [], hW', ?_, ?_, ?_, hb.frame _, fun h => by cases h⟩
  · rw [e1]; exact trodAll_mk1 (shut_bool Tryd.underlying4 true)
  · rw [e1]; exact trodAll_mk2 (Below.trod Tryd.laidOut (by kernel_rfl) (of_decide_eq_true (by kernel_rfl)) hT1k hb (fun x hx => hlt x (by simp [hx]))) (Below.trod Tryd.laidOut (by kernel_rfl) (of_decide_eq_true (by kernel_rfl)) hT2k hb (fun x hx => hlt x (by simp [hx])))
  · rw [e1]; rfl

theorem subgroups_upto_row : Rows.GroupSubgroupsUptoSaid :=
  OpenClaim.holds_of_cond 3 Tryd.f3 rfl rfl rfl rfl rfl rfl rfl ⟨rfl, rfl, rfl, rfl, rfl⟩ rfl rfl rfl rfl rfl (by kernel_rfl) Tryd.func3 (by kernel_rfl)
    (of_decide_eq_true (by kernel_rfl)) (by unfold Func.isWrapper; rw [if_neg (of_decide_eq_false (by kernel_rfl))]; exact ⟨rfl, rfl⟩)
    (fun os started H enc _ F => by rw [OpenClaim.pre_eq_preRow]; exact subgroups_lifted os started H enc F)

theorem subgroups_upto_holds : Rows.GroupSubgroupsUptoCardSaid :=
  Claim7.holds_tied_plain_at .later [] _ _ _ _
    subgroups_upto_row (fun _ h => by cases h) (by kernel_rfl) (fun _ h => by cases h) groupSubgroupsUpto_row_tie rfl ⟨rfl, rfl⟩ (by kernel_rfl) rfl
    (fun f fn hf hfn => by
      obtain rfl : f = 3 := Option.some.inj ((show Tryd.prog.funcNamed "handlebody/handlebodylaw3.GroupSubgroups" = some 3 by kernel_rfl).symm.trans hf) |>.symm
      obtain rfl : fn = Tryd.f3 := (Option.some.inj (Tryd.func3.symm.trans hfn)).symm
      exact ⟨by kernel_rfl, fun j t ht => by
        rw [Tryd.params3] at ht
        have hm : t ∈ [24, 3] := by simpa using Array.mem_of_getElem? ht
        have hall : ([24, 3].all fun u => !Tryd.prog.wantsStandIn u) = true := by kernel_rfl
        exact (show Tryd.prog.wantsStandIn t = false by simpa using List.all_eq_true.1 hall t hm)⟩)
    (by kernel_rfl)
#print axioms subgroups_upto_holds
end Go.Proofs.YtmaopnbnbiediaaDoor
