/- SurfaceNormal answers true of whatever piece, and leaves it alone; conditions: the eight errors and errors.errorType start as the program's text lays them, which the card ties to that text. -/
import Derived.Test.YtkaplnjknobdpaaDoorCards
import Derived.Test.YtkaplnjknobdpaaDoorTie
import Derived.Test.YtkaplnjknobdpaaDoorLaid
import Derived.Test.YtkaplnjknobdpaaDoorSurfLaw
import Derived.Deep.Strs
namespace Go.Proofs.YtkaplnjknobdpaaDoor
open Go.ChangeShapes Go.WideShapes Go.RowKit Go.Deep

theorem normal_law {a : Nat → Addr} {s : Nat → ByteArray} (t : Bool) (g r : Int) (w : World) (hE : Errs a s w) :
    Calls Tryd.prog 3 #[.agg #[.bool t, .int .i64 g, .int .i64 r]] w fun e w' => e = .returned (.bool true) ∧ Below w.heap.size w w' := by
  by_cases hs : ShapeBad t g r
  · exact normal_law_bad t g r 2 (by decide) w hE (fun V hV => normal_shape t g r V (hE.below hV) hs) (fun V _ => normal_of_shape t g r V hs)
  · have hg : 0 ≤ g := by
      rcases Int.lt_or_le g 0 with h | h
      · exact absurd (.inl h) hs
      · exact h
    have hr : 0 ≤ r := by
      rcases Int.lt_or_le r 0 with h | h
      · exact absurd (.inr (.inl h)) hs
      · exact h
    obtain ⟨gn, rfl⟩ : ∃ gn : Nat, g = (gn : Int) := ⟨g.toNat, by omega⟩
    obtain ⟨rn, rfl⟩ : ∃ rn : Nat, r = (rn : Int) := ⟨r.toNat, by omega⟩
    cases hf : fitsB t (gn : Int) (rn : Int) with
    | true => exact normal_law_ok t gn rn w hs hf
    | false =>
      refine normal_law_bad t _ _ 1 (by decide) w hE (fun V hV => normal_bound t _ _ V (hE.below hV) hs hf) (fun V _ => ?_)
      by_cases h6 : gn ≤ 60 ∧ rn ≤ 60
      · refine (normal_of_ok t gn rn V hs h6).mono fun e w' h => ?_
        rcases h.1 with ⟨h1, _⟩ | ⟨_, h1⟩
        · rw [hf] at h1; cases h1
        · exact ⟨h1, h.2⟩
      · exact normal_of_big t _ _ V hs (by omega)

theorem Tryd.cellsOfBool : Tryd.prog.cellsOf 4 = 1 := by kernel_rfl
theorem Tryd.cellsOfPc : Tryd.prog.cellsOf 23 = 3 := by kernel_rfl

theorem len_three {α : Type} {l : List α} (h : l.length = 3) : ∃ x y z, l = [x, y, z] := by
  match l, h with
  | [x, y, z], _ => exact ⟨x, y, z, rfl⟩

set_option maxRecDepth 100000 in
/-- A piece that comes in. -/
theorem piece_of_trod {H : Type} {enc : TypeId × Value → H} {W : World} {base : Nat} {held : Bool} {fuel : Nat} {cs : List Value} {x : DataW H × List MemPlace}
    (h : DataW.trod enc Tryd.prog W base (fun _ => true) held fuel 23 cs = some x) : ∃ (t : Bool) (g r : Int), cs = [.bool t, .int .i64 g, .int .i64 r] := by
  obtain ⟨y0, y1, y2, n, _, hl, h0, h1, h2⟩ := trod_struct3 Tryd.underlying23 h
  rw [Tryd.cellsOfPc] at hl
  obtain ⟨c0, c1, c2, rfl⟩ := len_three hl
  dsimp only at h0 h1 h2
  rw [Tryd.cellsOfBool] at h0
  rw [Tryd.cellsOfInt] at h1 h2
  obtain ⟨t, e0, _⟩ := DataW.trod_bool Tryd.underlying4 h0
  obtain ⟨g, e1, _⟩ := DataW.trod_int Tryd.underlying3 h1
  obtain ⟨r, e2, _⟩ := DataW.trod_int Tryd.underlying3 h2
  simp at e0 e1 e2
  exact ⟨t, g, r, by rw [e0, e1, e2]⟩

set_option maxRecDepth 100000 in
theorem normal_law_lifted (os : Os) (started : os.Started) (H : Type) (enc : TypeId × Value → H) :
    ReturnsInHanded {} Tryd.checked os 3 .any (fun w args => (Rows.surfaceNormalSpec.pre enc Tryd.prog Tryd.f3 [] false w args ∧ laidMetH Tryd.prog Rows.surfaceNormalRow.laid w) ∧ sizedMet enc Tryd.prog Tryd.f3 (OpenSpec.ofChange Rows.surfaceNormalSpec) false w args)
      (Rows.surfaceNormalSpec.post enc Tryd.prog Tryd.f3 false true false false) := by
  refine returnsInHanded_of_change_and (C := Tryd.checked) (X := fun w _ => laidMetH Tryd.prog Rows.surfaceNormalRow.laid w) (fun _ _ _ hh h => h.of_heap hh) Tryd.own started (by kernel_rfl) Tryd.func3
    (ChangeSpec.witness_shaped (enc := enc) (C := Tryd.checked) (os := os) (X := fun w _ => laidMetH Tryd.prog Rows.surfaceNormalRow.laid w) false (World.doorLaid Tryd.prog 400 os) #[.agg #[.bool false, .int .i64 0, .int .i64 0]] 8 rfl (World.shaped_of_RefB (by kernel_rfl) (by kernel_rfl)) (by kernel_rfl) (by kernel_rfl) (by kernel_rfl) (door_met os _)) ?_
  intro W base args ds gs before hval0 hW _ _ hL _
  have hW' := hW
  obtain ⟨p, q, hA0, hV0, rfl, hfz, hnd⟩ := hW
  have hA : DataW.TrodAll enc Tryd.prog W 0 (fun _ => true) true Tryd.f3.params.toList args.toList ds p := hA0
  have hV : DataW.TrodVars enc Tryd.prog W (fun _ => true) [] gs q := hV0
  have hval : ∀ (j : Nat) t v, Tryd.f3.params[j]? = some t → args[j]? = some v → Value.okWide Tryd.prog W .any base t v := hval0
  rw [Tryd.params3] at hA hval
  obtain ⟨v1, d1, rfl, rfl, hT1⟩ := trodAll_one hA
  obtain ⟨a, s, hE⟩ := errs_of_laid hL
  obtain ⟨rfl, rfl⟩ := trodVars_none hV
  obtain ⟨cs, rfl, hcs⟩ := okWide_struct Tryd.underlying23 (hval 0 23 v1 rfl rfl)
  simp only [List.append_nil] at hW'
  have hlt : ∀ x ∈ p, x.block < W.heap.size := fun x hx => by simpa using hW'.lt x hx
  have hT1k := hT1
  obtain ⟨fuel1, hf1⟩ := hT1
  obtain ⟨t, g, r, hc⟩ := piece_of_trod hf1
  have hcs2 : cs = #[.bool t, .int .i64 g, .int .i64 r] := by
    have h2 : cs.toList = [.bool t, .int .i64 g, .int .i64 r] := by simpa [Value.cells] using hc
    exact Array.toList_inj.1 h2
  subst hcs2
  have e1 : Rows.surfaceNormalSpec.fn H ([d1] ++ []) = { results := [.lit (.bool true)], args := [d1] } := by simp [Rows.surfaceNormalSpec]
  refine (normal_law t g r W hE).mono fun e W' ⟨he, hb⟩ => ?_
  subst he
  refine ⟨_, rfl, _, _, _, [], p, [], hW', ?_, ?_, ?_, hb.frame _, fun h => by cases h⟩
  · rw [e1]; exact trodAll_mk1 (shut_bool Tryd.underlying4 true)
  · rw [e1]; exact trodAll_mk1 (Below.trod Tryd.laidOut (by kernel_rfl) (of_decide_eq_true (by kernel_rfl)) hT1k hb (fun x hx => hlt x hx))
  · rw [e1]; rfl

theorem normal_law_row : Rows.SurfaceNormalSaid :=
  OpenClaim.holds_of_wide 3 Tryd.f3 rfl rfl rfl rfl rfl rfl rfl ⟨rfl, rfl, rfl, rfl, rfl⟩ rfl rfl rfl rfl rfl (by kernel_rfl) Tryd.func3 (by kernel_rfl)
    (of_decide_eq_true (by kernel_rfl)) (by unfold Func.isWrapper; rw [if_neg (of_decide_eq_false (by kernel_rfl))]; exact ⟨rfl, rfl⟩)
    (fun os started H enc _ => normal_law_lifted os started H enc)

theorem normal_law_holds : Rows.SurfaceNormalCardSaid :=
  Claim7.holds_tied_plain_at .later [] [.handle, .sentinel, .sentinel, .sentinel, .sentinel, .sentinel, .sentinel, .sentinel, .sentinel] true (true, "d97ed0b6c62ec2e32a51cf8b440f4e9223898183d35f5c47165606d033b7ff3b") true
    normal_law_row (fun _ h => by cases h) (by kernel_rfl) (fun _ h => by cases h) surfaceNormal_row_tie rfl ⟨rfl, rfl⟩ (by kernel_rfl) rfl
    (fun f fn hf hfn => by
      obtain rfl : f = 3 := Option.some.inj ((show Tryd.prog.funcNamed "handlebody/handlebodylaw3.SurfaceNormal" = some 3 by kernel_rfl).symm.trans hf) |>.symm
      obtain rfl : fn = Tryd.f3 := (Option.some.inj (Tryd.func3.symm.trans hfn)).symm
      exact ⟨by kernel_rfl, fun j t ht => by
        rw [Tryd.params3] at ht
        have hm : t ∈ [23] := by simpa using Array.mem_of_getElem? ht
        have hall : ([23].all fun u => !Tryd.prog.wantsStandIn u) = true := by kernel_rfl
        exact (show Tryd.prog.wantsStandIn t = false by simpa using List.all_eq_true.1 hall t hm)⟩)
    (by kernel_rfl)
#print axioms normal_law_holds
end Go.Proofs.YtkaplnjknobdpaaDoor
