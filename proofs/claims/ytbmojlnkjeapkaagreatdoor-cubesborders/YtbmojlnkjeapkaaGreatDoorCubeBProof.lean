/- CubesBorders answers true of whatever image and dimension, and leaves them alone; conditions: the eight errors and errors.errorType start as the program's text lays them, which the card ties to that text. -/
import Derived.Test.YtbmojlnkjeapkaaGreatDoorCards
import Derived.Test.YtbmojlnkjeapkaaGreatDoorTie
import Derived.Test.YtbmojlnkjeapkaaGreatDoorLaid
import Derived.Test.YtbmojlnkjeapkaaGreatDoorCubeBLaw
import Derived.Deep.Strs
namespace Go.Proofs.YtbmojlnkjeapkaaGreatDoor
open Go.ChangeShapes Go.WideShapes Go.RowKit Go.Deep Go.Sort

/-- A slice of texts that comes in reads as texts. -/
theorem strs_of_trod {H : Type} {enc : TypeId × Value → H} {W : World} {base : Nat} {held : Bool} {fuel : Nat} {cs : List Value} {x : DataW H × List MemPlace}
    (h : DataW.trod enc Tryz.prog W base (fun _ => true) held fuel 22 cs = some x) : ∃ v l, cs = [v] ∧ Strs W v l ∧ l.length ≤ maxLen ∧ ∀ r ∈ l, r.length ≤ maxLen := by
  rcases open_strs Tryz.underlying22 Tryz.underlying9 Tryz.cellsOfStr h with ⟨rfl, _⟩ | ⟨a, len, cap, m, Sx, rfl, _, hl, hcm, hm, _, hx⟩
  · exact ⟨_, [], rfl, SliceIn.nil _ _, by simp, fun r hr => by cases hr⟩
  · simp only [if_true] at hm
    subst hm
    refine ⟨_, (List.range len).map fun i => (Sx i).data.toList, rfl, ⟨some a, m, by simp, ⟨by simpa using hl, fun h => by cases h⟩, fun h0 => ?_⟩, by simp; omega, fun r hr => ?_⟩
    · simp at h0
      have hs := World.cell?_spot (hx 0 (by omega)).1
      obtain ⟨b, o, sp⟩ := a
      have hs' : sp = none := by simpa [Addr.add] using hs
      subst hs'
      refine ⟨b, o, rfl, trivial, fun k u hu => ?_⟩
      simp only [List.getElem?_map] at hu
      rcases Nat.lt_or_ge k len with hk | hk
      · rw [List.getElem?_range hk] at hu
        obtain rfl := Option.some.inj hu
        rw [← Addr.add_lit, (hx k (by omega)).1]
      · rw [List.getElem?_eq_none (by simpa using hk)] at hu; cases hu
    · obtain ⟨i, hi, rfl⟩ := List.mem_map.1 hr
      have := (hx i (by have := List.mem_range.1 hi; omega)).2
      show (Sx i).data.toList.length ≤ maxLen
      rw [Array.length_toList]
      exact this


set_option maxRecDepth 100000 in
theorem borders_law_lifted (os : Os) (started : os.Started) (H : Type) (enc : TypeId × Value → H) :
    ReturnsInHanded {} Tryz.checked os 3 .any (fun w args => (Rows.cubesBordersSpec.pre enc Tryz.prog Tryz.f3 [] false w args ∧ laidMetH Tryz.prog Rows.cubesBordersRow.laid w) ∧ sizedMet enc Tryz.prog Tryz.f3 (OpenSpec.ofChange Rows.cubesBordersSpec) false w args)
      (Rows.cubesBordersSpec.post enc Tryz.prog Tryz.f3 false true false false) := by
  refine returnsInHanded_of_change_and (C := Tryz.checked) (X := fun w _ => laidMetH Tryz.prog Rows.cubesBordersRow.laid w) (fun _ _ _ hh h => h.of_heap hh) Tryz.own started (by kernel_rfl) Tryz.func3
    (ChangeSpec.witness_shaped (enc := enc) (C := Tryz.checked) (os := os) (X := fun w _ => laidMetH Tryz.prog Rows.cubesBordersRow.laid w) false (World.doorLaid Tryz.prog 400 os) #[.slice none 0 0, .int .i64 0] 8 rfl (World.shaped_of_RefB (by kernel_rfl) (by kernel_rfl)) (by kernel_rfl) (by kernel_rfl) (by kernel_rfl) (door_met os _)) ?_
  intro W base args ds gs before hval0 hW _ _ hL _
  have hW' := hW
  obtain ⟨p, q, hA0, hV0, rfl, hfz, hnd⟩ := hW
  have hA : DataW.TrodAll enc Tryz.prog W 0 (fun _ => true) true Tryz.f3.params.toList args.toList ds p := hA0
  have hV : DataW.TrodVars enc Tryz.prog W (fun _ => true) [] gs q := hV0
  have hval : ∀ (j : Nat) t v, Tryz.f3.params[j]? = some t → args[j]? = some v → Value.okWide Tryz.prog W .any base t v := hval0
  rw [Tryz.params3] at hA hval
  obtain ⟨v1, v2, d1, d2, p1, p2, rfl, rfl, rfl, hT1, hT2⟩ := trodAll_two hA
  obtain ⟨a, s, hE⟩ := errs_of_laid hL
  obtain ⟨rfl, rfl⟩ := trodVars_none hV
  obtain ⟨a0, len, cap, rfl⟩ := okWide_slice Tryz.underlying22 (hval 0 22 v1 rfl rfl)
  obtain ⟨dim, rfl⟩ := okWide_int Tryz.underlying3 (hval 1 3 v2 rfl rfl)
  simp only [List.append_nil] at hW'
  have hlt : ∀ x ∈ p1 ++ p2, x.block < W.heap.size := fun x hx => by simpa using hW'.lt x hx
  have hT1k := hT1
  obtain ⟨fuel1, hf1⟩ := hT1
  obtain ⟨v', l, hv', hR, hl1, hl2⟩ := strs_of_trod hf1
  obtain rfl : .slice a0 len cap = v' := by simpa [Value.cells] using hv'
  have e1 : Rows.cubesBordersSpec.fn H ([d1, d2] ++ []) = { results := [.lit (.bool true)], args := [d1, d2] } := by simp [Rows.cubesBordersSpec]
  refine (borders_law _ l dim W hE hR hl1 hl2).mono fun e W' ⟨he, hb⟩ => ?_
  subst he
  refine ⟨_, rfl, _, _, _, [], p1 ++ p2, [], hW', ?_, ?_, ?_, hb.frame _, fun h => by cases h⟩
  · rw [e1]; exact trodAll_mk1 (shut_bool Tryz.underlying4 true)
  · rw [e1]; exact trodAll_mk2 (Below.trod Tryz.laidOut (by kernel_rfl) (of_decide_eq_true (by kernel_rfl)) hT1k hb (fun x hx => hlt x (by simp [hx]))) (Below.trod Tryz.laidOut (by kernel_rfl) (of_decide_eq_true (by kernel_rfl)) hT2 hb (fun x hx => hlt x (by simp [hx])))
  · rw [e1]; rfl

theorem borders_law_row : Rows.CubesBordersSaid :=
  OpenClaim.holds_of_wide 3 Tryz.f3 rfl rfl rfl rfl rfl rfl rfl ⟨rfl, rfl, rfl, rfl, rfl⟩ rfl rfl rfl rfl rfl (by kernel_rfl) Tryz.func3 (by kernel_rfl)
    (of_decide_eq_true (by kernel_rfl)) (by unfold Func.isWrapper; rw [if_neg (of_decide_eq_false (by kernel_rfl))]; exact ⟨rfl, rfl⟩)
    (fun os started H enc _ => borders_law_lifted os started H enc)

theorem borders_law_holds : Rows.CubesBordersCardSaid :=
  Claim7.holds_tied_plain_at .later [] [.handle, .sentinel, .sentinel, .sentinel, .sentinel, .sentinel, .sentinel, .sentinel, .sentinel] true (true, "df66a90490449845d28a881c86d99d004fd865604fa3db5279b53d55a6e8ff19") true
    borders_law_row (fun _ h => by cases h) (by kernel_rfl) (fun _ h => by cases h) cubesBorders_row_tie rfl ⟨rfl, rfl⟩ (by kernel_rfl) rfl
    (fun f fn hf hfn => by
      obtain rfl : f = 3 := Option.some.inj ((show Tryz.prog.funcNamed "handlebody/handlebodylaw2.CubesBorders" = some 3 by kernel_rfl).symm.trans hf) |>.symm
      obtain rfl : fn = Tryz.f3 := (Option.some.inj (Tryz.func3.symm.trans hfn)).symm
      exact ⟨by kernel_rfl, fun j t ht => by
        rw [Tryz.params3] at ht
        have hm : t ∈ [22, 3] := by simpa using Array.mem_of_getElem? ht
        have hall : ([22, 3].all fun u => !Tryz.prog.wantsStandIn u) = true := by kernel_rfl
        exact (show Tryz.prog.wantsStandIn t = false by simpa using List.all_eq_true.1 hall t hm)⟩)
    (by kernel_rfl)
#print axioms borders_law_holds
end Go.Proofs.YtbmojlnkjeapkaaGreatDoor
