/- LabelTucker answers true of whatever half side and labels, and leaves them alone; conditions: the eight errors and errors.errorType start as the program's text lays them, which the card ties to that text. -/
import Derived.Test.YtbohobelbgbibaaDoorCards
import Derived.Test.YtbohobelbgbibaaDoorTie
import Derived.Test.YtbohobelbgbibaaDoorLaid
import Derived.Test.YtbohobelbgbibaaDoorTkLaw2
namespace Go.Proofs.YtbohobelbgbibaaDoor
open Go.ChangeShapes Go.WideShapes Go.RowKit Go.Deep Go.Sort

/-- A number that a word holds. -/
theorem lit_range {n : Int} (h : (Lit.int .i64 n).wf = true) : -9223372036854775808 ≤ n ∧ n ≤ 9223372036854775807 := by
  have h1 : (decide (IntKind.i64.min ≤ n) && decide (n ≤ IntKind.i64.max)) = true := h
  rw [Bool.and_eq_true, decide_eq_true_eq, decide_eq_true_eq, show IntKind.i64.min = -9223372036854775808 by decide, show IntKind.i64.max = 9223372036854775807 by decide] at h1
  exact h1
/-- A slice of numbers that comes in reads as numbers, each in a word's range. -/
theorem ints_of_trod_range {H : Type} {enc : TypeId × Value → H} {W : World} {base : Nat} {held : Bool} {fuel : Nat} {cs : List Value} {x : DataW H × List MemPlace}
    (h : DataW.trod enc Tryd.prog W base (fun _ => true) held fuel 22 cs = some x) : ∃ v l, cs = [v] ∧ Ints W v l ∧ ∀ q, q < l.length → (-9223372036854775808 ≤ labA l q ∧ labA l q ≤ 9223372036854775807) := by
  rcases open_ints Tryd.underlying22 Tryd.underlying3 Tryd.cellsOfInt h with ⟨rfl, _⟩ | ⟨a, len, cap, zs, rfl, _, hl, _, hz, _, hc, hw⟩
  · exact ⟨_, [], rfl, SliceIn.nil _ _, fun q hq => absurd hq (Nat.not_lt_zero _)⟩
  · simp only [if_true] at hz
    refine ⟨_, zs.take len, rfl, ⟨some a, cap, by simp [Nat.min_eq_left (show len ≤ zs.length by omega)], ⟨by simp; omega, fun h => by cases h⟩, fun h0 => ?_⟩, fun q hq => ?_⟩
    · simp at h0
      have hs := World.cell?_spot (hc 0 (by omega))
      obtain ⟨b, o, sp⟩ := a
      have hs' : sp = none := by simpa [Addr.add] using hs
      subst hs'
      refine ⟨b, o, rfl, trivial, fun j u hu => ?_⟩
      simp only [List.getElem?_map, List.getElem?_take] at hu
      split at hu
      · rename_i hj
        have := hc j (by omega)
        rw [Addr.add_lit] at this
        rw [this]
        rw [List.getElem?_eq_getElem (show j < zs.length by omega)] at hu
        obtain rfl := Option.some.inj hu
        simp [List.getD, List.getElem?_eq_getElem (show j < zs.length by omega)]
      · cases hu
    · have e : labA (zs.take len) q = (zs.take len)[q] := by
        unfold labA
        rw [List.getElem?_eq_getElem hq, Option.getD_some]
      rw [e]
      exact lit_range (hw _ (List.mem_of_mem_take (List.getElem_mem hq)))

set_option maxRecDepth 100000 in
theorem tucker_lifted (os : Os) (started : os.Started) (H : Type) (enc : TypeId × Value → H) :
    ReturnsInHanded {} Tryd.checked os 5 .any (fun w args => (Rows.labelTuckerSpec.pre enc Tryd.prog Tryd.f5 [] false w args ∧ laidMetH Tryd.prog Rows.labelTuckerRow.laid w) ∧ sizedMet enc Tryd.prog Tryd.f5 (OpenSpec.ofChange Rows.labelTuckerSpec) false w args)
      (Rows.labelTuckerSpec.post enc Tryd.prog Tryd.f5 false true false false) := by
  refine returnsInHanded_of_change_and (C := Tryd.checked) (X := fun w _ => laidMetH Tryd.prog Rows.labelTuckerRow.laid w) (fun _ _ _ hh h => h.of_heap hh) Tryd.own started (by kernel_rfl) Tryd.func5
    (ChangeSpec.witness_shaped (enc := enc) (C := Tryd.checked) (os := os) (X := fun w _ => laidMetH Tryd.prog Rows.labelTuckerRow.laid w) false (World.doorLaid Tryd.prog 400 os) #[.int .i64 0, .slice none 0 0] 8 rfl (World.shaped_of_RefB (by kernel_rfl) (by kernel_rfl)) (by kernel_rfl) (by kernel_rfl) (by kernel_rfl) (door_met os _)) ?_
  intro W base args ds gs before hval0 hW _ _ hL _
  have hW' := hW
  obtain ⟨p, q, hA0, hV0, rfl, hfz, hnd⟩ := hW
  have hA : DataW.TrodAll enc Tryd.prog W 0 (fun _ => true) true Tryd.f5.params.toList args.toList ds p := hA0
  have hV : DataW.TrodVars enc Tryd.prog W (fun _ => true) [] gs q := hV0
  have hval : ∀ (j : Nat) t v, Tryd.f5.params[j]? = some t → args[j]? = some v → Value.okWide Tryd.prog W .any base t v := hval0
  rw [Tryd.params5] at hA hval
  obtain ⟨v1, v2, d1, d2, p1, p2, rfl, rfl, rfl, hT1, hT2⟩ := trodAll_two hA
  obtain ⟨a, s, hE⟩ := errs_of_laid hL
  obtain ⟨rfl, rfl⟩ := trodVars_none hV
  obtain ⟨n, rfl⟩ := okWide_int Tryd.underlying3 (hval 0 3 v1 rfl rfl)
  obtain ⟨a0, len, cap, rfl⟩ := okWide_slice Tryd.underlying22 (hval 1 22 v2 rfl rfl)
  simp only [List.append_nil] at hW'
  have hlt : ∀ x ∈ p1 ++ p2, x.block < W.heap.size := fun x hx => by simpa using hW'.lt x hx
  have hT2k := hT2
  obtain ⟨fuel1, hf1⟩ := hT2
  obtain ⟨v', l, hv', hR, hrg⟩ := ints_of_trod_range hf1
  obtain rfl : .slice a0 len cap = v' := by simpa [Value.cells] using hv'
  have e1 : Rows.labelTuckerSpec.fn H ([d1, d2] ++ []) = { results := [.lit (.bool true)], args := [d1, d2] } := by simp [Rows.labelTuckerSpec]
  refine (tucker_law n _ W hE hR hrg).mono fun e W' ⟨he, hb⟩ => ?_
  subst he
  refine ⟨_, rfl, _, _, _, [], p1 ++ p2, [], hW', ?_, ?_, ?_, hb.frame _, fun h => by cases h⟩
  · rw [e1]; exact trodAll_mk1 (shut_bool Tryd.underlying4 true)
  · rw [e1]; exact trodAll_mk2 (Below.trod Tryd.laidOut (by kernel_rfl) (of_decide_eq_true (by kernel_rfl)) hT1 hb (fun x hx => hlt x (by simp [hx]))) (Below.trod Tryd.laidOut (by kernel_rfl) (of_decide_eq_true (by kernel_rfl)) hT2k hb (fun x hx => hlt x (by simp [hx])))
  · rw [e1]; rfl

theorem tucker_row : Rows.LabelTuckerSaid :=
  OpenClaim.holds_of_wide 5 Tryd.f5 rfl rfl rfl rfl rfl rfl rfl ⟨rfl, rfl, rfl, rfl, rfl⟩ rfl rfl rfl rfl rfl (by kernel_rfl) Tryd.func5 (by kernel_rfl)
    (of_decide_eq_true (by kernel_rfl)) (by unfold Func.isWrapper; rw [if_neg (of_decide_eq_false (by kernel_rfl))]; exact ⟨rfl, rfl⟩)
    (fun os started H enc _ => tucker_lifted os started H enc)

theorem tucker_holds : Rows.LabelTuckerCardSaid :=
  Claim7.holds_tied_plain_at .later [] [.handle, .sentinel, .sentinel, .sentinel, .sentinel, .sentinel, .sentinel, .sentinel, .sentinel] true (true, "fc529776c5062451c26494ba00cf718c49696a343e2ae4112cf4af7e21fa67d0") true
    tucker_row (fun _ h => by cases h) (by kernel_rfl) (fun _ h => by cases h) labelTucker_row_tie rfl ⟨rfl, rfl⟩ (by kernel_rfl) rfl
    (fun f fn hf hfn => by
      obtain rfl : f = 5 := Option.some.inj ((show Tryd.prog.funcNamed "handlebody/handlebodylaw4.LabelTucker" = some 5 by kernel_rfl).symm.trans hf) |>.symm
      obtain rfl : fn = Tryd.f5 := (Option.some.inj (Tryd.func5.symm.trans hfn)).symm
      exact ⟨by kernel_rfl, fun j t ht => by
        rw [Tryd.params5] at ht
        have hm : t ∈ [3, 22] := by simpa using Array.mem_of_getElem? ht
        have hall : ([3, 22].all fun u => !Tryd.prog.wantsStandIn u) = true := by kernel_rfl
        exact (show Tryd.prog.wantsStandIn t = false by simpa using List.all_eq_true.1 hall t hm)⟩)
    (by kernel_rfl)
#print axioms tucker_holds
end Go.Proofs.YtbohobelbgbibaaDoor
