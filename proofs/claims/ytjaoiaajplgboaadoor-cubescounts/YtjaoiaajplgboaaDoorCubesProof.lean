/- CubesCounts answers true of whatever image, and leaves it alone; conditions: the eight errors and errors.errorType start as the program's text lays them, which the card ties to that text. -/
import Derived.Test.YtjaoiaajplgboaaDoorCards
import Derived.Test.YtjaoiaajplgboaaDoorTie
import Derived.Test.YtjaoiaajplgboaaDoorLaid
import Derived.Test.YtjaoiaajplgboaaDoorCubeLaw
import Derived.Deep.Strs
namespace Go.Proofs.YtjaoiaajplgboaaDoor
open Go.ChangeShapes Go.WideShapes Go.RowKit Go.Deep Go.Sort

/-- A slice of texts that comes in reads as texts. -/
theorem strs_of_trod {H : Type} {enc : TypeId × Value → H} {W : World} {base : Nat} {held : Bool} {fuel : Nat} {cs : List Value} {x : DataW H × List MemPlace}
    (h : DataW.trod enc Tryd.prog W base (fun _ => true) held fuel 22 cs = some x) : ∃ v l, cs = [v] ∧ Strs W v l ∧ l.length ≤ maxLen ∧ ∀ r ∈ l, r.length ≤ maxLen := by
  rcases open_strs Tryd.underlying22 Tryd.underlying9 Tryd.cellsOfStr h with ⟨rfl, _⟩ | ⟨a, len, cap, m, Sx, rfl, _, hl, hcm, hm, _, hx⟩
  · exact ⟨_, [], rfl, SliceIn.nil _ _, by simp, fun r hr => by cases hr⟩
  · simp only [if_true] at hm
    subst hm
    refine ⟨_, (List.range len).map fun i => (Sx i).data.toList, rfl, ⟨some a, m, by simp, ⟨by simpa using hl, fun h => by cases h⟩, fun h0 => ?_⟩, by simp; omega, fun r hr => ?_⟩
    · simp at h0
      have hs := World.cell?_spot (hx 0 (by omega)).1
      obtain ⟨b, o, sp⟩ := a
      have hs' : sp = none := by simpa [Addr.add] using hs
      subst hs'
      refine ⟨b, o, rfl, trivial, fun k u hu => ?_⟩
      simp only [List.getElem?_map] at hu
      rcases Nat.lt_or_ge k len with hk | hk
      · rw [List.getElem?_range hk] at hu
        obtain rfl := Option.some.inj hu
        rw [← Addr.add_lit, (hx k (by omega)).1]
      · rw [List.getElem?_eq_none (by simpa using hk)] at hu; cases hu
    · obtain ⟨i, hi, rfl⟩ := List.mem_map.1 hr
      have := (hx i (by have := List.mem_range.1 hi; omega)).2
      show (Sx i).data.toList.length ≤ maxLen
      rw [Array.length_toList]
      exact this

set_option maxRecDepth 100000 in
theorem cubes_lifted (os : Os) (started : os.Started) (H : Type) (enc : TypeId × Value → H) :
    ReturnsInHanded {} Tryd.checked os 3 .any (fun w args => (Rows.cubesCountsSpec.pre enc Tryd.prog Tryd.f3 [] false w args ∧ laidMetH Tryd.prog Rows.cubesCountsRow.laid w) ∧ sizedMet enc Tryd.prog Tryd.f3 (OpenSpec.ofChange Rows.cubesCountsSpec) false w args)
      (Rows.cubesCountsSpec.post enc Tryd.prog Tryd.f3 false true false false) := by
  refine returnsInHanded_of_change_and (C := Tryd.checked) (X := fun w _ => laidMetH Tryd.prog Rows.cubesCountsRow.laid w) (fun _ _ _ hh h => h.of_heap hh) Tryd.own started (by kernel_rfl) Tryd.func3
    (ChangeSpec.witness_shaped (enc := enc) (C := Tryd.checked) (os := os) (X := fun w _ => laidMetH Tryd.prog Rows.cubesCountsRow.laid w) false (World.doorLaid Tryd.prog 400 os) #[.slice none 0 0] 8 rfl (World.shaped_of_RefB (by kernel_rfl) (by kernel_rfl)) (by kernel_rfl) (by kernel_rfl) (by kernel_rfl) (door_met os _)) ?_
  intro W base args ds gs before hval0 hW _ _ hL _
  have hW' := hW
  obtain ⟨p, q, hA0, hV0, rfl, hfz, hnd⟩ := hW
  have hA : DataW.TrodAll enc Tryd.prog W 0 (fun _ => true) true Tryd.f3.params.toList args.toList ds p := hA0
  have hV : DataW.TrodVars enc Tryd.prog W (fun _ => true) [] gs q := hV0
  have hval : ∀ (j : Nat) t v, Tryd.f3.params[j]? = some t → args[j]? = some v → Value.okWide Tryd.prog W .any base t v := hval0
  rw [Tryd.params3] at hA hval
  obtain ⟨v, d, rfl, rfl, hT⟩ := trodAll_one hA
  obtain ⟨a, s, hE⟩ := errs_of_laid hL
  obtain ⟨rfl, rfl⟩ := trodVars_none hV
  obtain ⟨a0, len, cap, rfl⟩ := okWide_slice Tryd.underlying22 (hval 0 22 v rfl rfl)
  simp only [List.append_nil] at hW'
  have hlt : ∀ x ∈ p, x.block < W.heap.size := fun x hx => by simpa using hW'.lt x hx
  have hTk := hT
  obtain ⟨fuel, hfuel⟩ := hT
  obtain ⟨v', l, hv', hR, hl1, hl2⟩ := strs_of_trod hfuel
  obtain rfl : .slice a0 len cap = v' := by simpa [Value.cells] using hv'
  have e1 : Rows.cubesCountsSpec.fn H ([d] ++ []) = { results := [.lit (.bool true)], args := [d] } := by simp [Rows.cubesCountsSpec]
  refine (cubes_law _ l W hE hR hl1 hl2).mono fun e W' ⟨he, hb⟩ => ?_
  subst he
  refine ⟨_, rfl, _, _, _, [], p, [], hW', ?_, ?_, ?_, hb.frame _, fun h => by cases h⟩
  · rw [e1]; exact trodAll_mk1 (shut_bool Tryd.underlying4 true)
  · rw [e1]; exact trodAll_mk1 (Below.trod Tryd.laidOut (by kernel_rfl) (of_decide_eq_true (by kernel_rfl)) hTk hb hlt)
  · rw [e1]; rfl

theorem cubes_row : Rows.CubesCountsSaid :=
  OpenClaim.holds_of_wide 3 Tryd.f3 rfl rfl rfl rfl rfl rfl rfl ⟨rfl, rfl, rfl, rfl, rfl⟩ rfl rfl rfl rfl rfl (by kernel_rfl) Tryd.func3 (by kernel_rfl)
    (of_decide_eq_true (by kernel_rfl)) (by unfold Func.isWrapper; rw [if_neg (of_decide_eq_false (by kernel_rfl))]; exact ⟨rfl, rfl⟩)
    (fun os started H enc _ => cubes_lifted os started H enc)

theorem cubes_holds : Rows.CubesCountsCardSaid :=
  Claim7.holds_tied_plain_at .later [] [.handle, .sentinel, .sentinel, .sentinel, .sentinel, .sentinel, .sentinel, .sentinel, .sentinel] true (true, "ed81355eec4dbe3a00ed059d76d7a78ad521a30fdbf4942abcf1be9eb3646635") true
    cubes_row (fun _ h => by cases h) (by kernel_rfl) (fun _ h => by cases h) cubesCounts_row_tie rfl ⟨rfl, rfl⟩ (by kernel_rfl) rfl
    (fun f fn hf hfn => by
      obtain rfl : f = 3 := Option.some.inj ((show Tryd.prog.funcNamed "handlebody/handlebodylaw2.CubesCounts" = some 3 by kernel_rfl).symm.trans hf) |>.symm
      obtain rfl : fn = Tryd.f3 := (Option.some.inj (Tryd.func3.symm.trans hfn)).symm
      exact ⟨by kernel_rfl, fun j t ht => by
        rw [Tryd.params3] at ht
        have hm : t ∈ [22] := by simpa using Array.mem_of_getElem? ht
        have hall : ([22].all fun u => !Tryd.prog.wantsStandIn u) = true := by kernel_rfl
        exact (show Tryd.prog.wantsStandIn t = false by simpa using List.all_eq_true.1 hall t hm)⟩)
    (by kernel_rfl)
#print axioms cubes_holds
end Go.Proofs.YtjaoiaajplgboaaDoor
