/- LabelOdd answers true of whatever number of parts and seeds, and leaves them alone; conditions: the three errors ErrBound, ErrShape, ErrKind start as the program's text lays them, which the card ties to that text. -/
import Derived.Test.YtcciinaeplppiaaDoorCards
import Derived.Test.YtcciinaeplppiaaDoorTie
import Derived.Test.YtcciinaeplppiaaDoorLaid
import Derived.Test.YtcciinaeplppiaaDoorLpOdd
namespace Go.Proofs.YtcciinaeplppiaaDoor
open Go.ChangeShapes Go.WideShapes Go.RowKit Go.Deep Go.Sort

/-- The three errors' names and texts. -/
def errNames3 : List (String × List UInt8) := [("handlebody/api.ErrBound", [104, 97, 110, 100, 108, 101, 98, 111, 100, 121, 58, 32, 98, 111, 117, 110, 100]), ("handlebody/api.ErrShape", [104, 97, 110, 100, 108, 101, 98, 111, 100, 121, 58, 32, 115, 104, 97, 112, 101]), ("handlebody/api.ErrKind", [104, 97, 110, 100, 108, 101, 98, 111, 100, 121, 58, 32, 107, 105, 110, 100])]
theorem names3_are (k : Nat) (x : String × List UInt8) (h : errNames3[k]? = some x) : ∃ g, Tryd.prog.globalNamed x.1 = some g ∧ (Tryd.prog.globals[g]?).map (·.type) = some 25 := by
  match k, h with
  | 0, h => obtain rfl := Option.some.inj h; exact ⟨2, by kernel_rfl, by kernel_rfl⟩
  | 1, h => obtain rfl := Option.some.inj h; exact ⟨0, by kernel_rfl, by kernel_rfl⟩
  | 2, h => obtain rfl := Option.some.inj h; exact ⟨1, by kernel_rfl, by kernel_rfl⟩
  | n + 3, h => exact absurd h (by simp [errNames3])
/-- The variables that this statement lists. -/
def listed3 {H : Type} : List (String × DataW H) := [("handlebody/api.ErrBound", Rows.laid_handlebody_api_ErrBound), ("handlebody/api.ErrShape", Rows.laid_handlebody_api_ErrShape), ("handlebody/api.ErrKind", Rows.laid_handlebody_api_ErrKind)]
theorem kind_named : Tryd.prog.globalNamed "handlebody/api.ErrKind" = some 1 := by kernel_rfl
theorem kind_of_laid {W : World} (h : laidMetH Tryd.prog listed3 W) : ∃ q, KindAt q W := by
  have h' : laidMet Tryd.prog (errNames3.map fun x => (x.1, .iface "*errors.errorString" (.ptr (.agg [.lit (.string x.2)])))) W := h
  obtain ⟨ps, hl, hnd, hrows⟩ := h'
  obtain ⟨ys, hlen, hsub, hall⟩ := sentinels Tryd.underlying25 Tryd.oneName Tryd.underlying158 Tryd.underlying179 rfl rfl Tryd.underlying9 Tryd.cellsOfErr Tryd.cellsOfStr errNames3 ps hl hrows (fun x hx => by
    obtain ⟨k, hk⟩ := List.mem_iff_getElem?.1 hx
    exact names3_are k x hk)
  have hlen3 : ys.length = 3 := hlen
  obtain ⟨y, hy⟩ : ∃ y, ys[2]? = some y := ⟨_, List.getElem?_eq_getElem (by omega)⟩
  have hv := (hall 2 _ _ rfl hy).1
  refine ⟨y.1, ?_⟩
  unfold KindAt
  simpa using World.var?_cell kind_named hv 0
/-- The door's own heap meets the condition. -/
theorem door_met3 (os : Os) (args : Array Value) : laidMetH Tryd.prog listed3 ((World.doorLaid Tryd.prog 400 os).forCall (fun _ _ => 0) ⟨#[], args, []⟩).memory :=
  laidMet_of_run' 8 (by kernel_rfl) (by kernel_rfl)

set_option maxRecDepth 100000 in
theorem odd_lifted (os : Os) (started : os.Started) (H : Type) (enc : TypeId × Value → H) :
    ReturnsInHanded {} Tryd.checked os 4 .any (fun w args => (Rows.labelOddSpec.pre enc Tryd.prog Tryd.f4 [] false w args ∧ laidMetH Tryd.prog Rows.labelOddRow.laid w) ∧ sizedMet enc Tryd.prog Tryd.f4 (OpenSpec.ofChange Rows.labelOddSpec) false w args)
      (Rows.labelOddSpec.post enc Tryd.prog Tryd.f4 false true false false) := by
  refine returnsInHanded_of_change_and (C := Tryd.checked) (X := fun w _ => laidMetH Tryd.prog Rows.labelOddRow.laid w) (fun _ _ _ hh h => h.of_heap hh) Tryd.own started (by kernel_rfl) Tryd.func4
    (ChangeSpec.witness_shaped (enc := enc) (C := Tryd.checked) (os := os) (X := fun w _ => laidMetH Tryd.prog Rows.labelOddRow.laid w) false (World.doorLaid Tryd.prog 400 os) #[.int .i64 0, .slice none 0 0] 8 rfl (World.shaped_of_RefB (by kernel_rfl) (by kernel_rfl)) (by kernel_rfl) (by kernel_rfl) (by kernel_rfl) (door_met3 os _)) ?_
  intro W base args ds gs before hval0 hW _ _ hL _
  have hW' := hW
  obtain ⟨p, q, hA0, hV0, rfl, hfz, hnd⟩ := hW
  have hA : DataW.TrodAll enc Tryd.prog W 0 (fun _ => true) true Tryd.f4.params.toList args.toList ds p := hA0
  have hV : DataW.TrodVars enc Tryd.prog W (fun _ => true) [] gs q := hV0
  have hval : ∀ (j : Nat) t v, Tryd.f4.params[j]? = some t → args[j]? = some v → Value.okWide Tryd.prog W .any base t v := hval0
  rw [Tryd.params4] at hA hval
  obtain ⟨v1, v2, d1, d2, p1, p2, rfl, rfl, rfl, hT1, hT2⟩ := trodAll_two hA
  obtain ⟨kq, hE⟩ := kind_of_laid hL
  obtain ⟨rfl, rfl⟩ := trodVars_none hV
  obtain ⟨n, rfl⟩ := okWide_int Tryd.underlying3 (hval 0 3 v1 rfl rfl)
  obtain ⟨a0, len, cap, rfl⟩ := okWide_slice Tryd.underlying22 (hval 1 22 v2 rfl rfl)
  simp only [List.append_nil] at hW'
  have hlt : ∀ x ∈ p1 ++ p2, x.block < W.heap.size := fun x hx => by simpa using hW'.lt x hx
  have hT2k := hT2
  obtain ⟨fuel1, hf1⟩ := hT2
  obtain ⟨v', l, hv', hR⟩ := ints_of_trod hf1
  obtain rfl : .slice a0 len cap = v' := by simpa [Value.cells] using hv'
  have e1 : Rows.labelOddSpec.fn H ([d1, d2] ++ []) = { results := [.lit (.bool true)], args := [d1, d2] } := by simp [Rows.labelOddSpec]
  refine (odd_law n _ W hE hR).mono fun e W' ⟨he, hb⟩ => ?_
  subst he
  refine ⟨_, rfl, _, _, _, [], p1 ++ p2, [], hW', ?_, ?_, ?_, hb.frame _, fun h => by cases h⟩
  · rw [e1]; exact trodAll_mk1 (shut_bool Tryd.underlying4 true)
  · rw [e1]; exact trodAll_mk2 (Below.trod Tryd.laidOut (by kernel_rfl) (of_decide_eq_true (by kernel_rfl)) hT1 hb (fun x hx => hlt x (by simp [hx]))) (Below.trod Tryd.laidOut (by kernel_rfl) (of_decide_eq_true (by kernel_rfl)) hT2k hb (fun x hx => hlt x (by simp [hx])))
  · rw [e1]; rfl

theorem odd_row : Rows.LabelOddSaid :=
  OpenClaim.holds_of_wide 4 Tryd.f4 rfl rfl rfl rfl rfl rfl rfl ⟨rfl, rfl, rfl, rfl, rfl⟩ rfl rfl rfl rfl rfl (by kernel_rfl) Tryd.func4 (by kernel_rfl)
    (of_decide_eq_true (by kernel_rfl)) (by unfold Func.isWrapper; rw [if_neg (of_decide_eq_false (by kernel_rfl))]; exact ⟨rfl, rfl⟩)
    (fun os started H enc _ => odd_lifted os started H enc)

theorem odd_holds : Rows.LabelOddCardSaid :=
  Claim7.holds_tied_plain_at .later [] [.sentinel, .sentinel, .sentinel] true (true, "fc529776c5062451c26494ba00cf718c49696a343e2ae4112cf4af7e21fa67d0") true
    odd_row (fun _ h => by cases h) (by kernel_rfl) (fun _ h => by cases h) labelOdd_row_tie rfl ⟨rfl, rfl⟩ (by kernel_rfl) rfl
    (fun f fn hf hfn => by
      obtain rfl : f = 4 := Option.some.inj ((show Tryd.prog.funcNamed "handlebody/handlebodylaw4.LabelOdd" = some 4 by kernel_rfl).symm.trans hf) |>.symm
      obtain rfl : fn = Tryd.f4 := (Option.some.inj (Tryd.func4.symm.trans hfn)).symm
      exact ⟨by kernel_rfl, fun j t ht => by
        rw [Tryd.params4] at ht
        have hm : t ∈ [3, 22] := by simpa using Array.mem_of_getElem? ht
        have hall : ([3, 22].all fun u => !Tryd.prog.wantsStandIn u) = true := by kernel_rfl
        exact (show Tryd.prog.wantsStandIn t = false by simpa using List.all_eq_true.1 hall t hm)⟩)
    (by kernel_rfl)
#print axioms odd_holds
end Go.Proofs.YtcciinaeplppiaaDoor
