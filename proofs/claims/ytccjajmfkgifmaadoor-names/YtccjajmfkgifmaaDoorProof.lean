/- The numbers, error texts and error codes of package api are those that the document gives: Names answers true; conditions: the eight errors and errors.errorType start as the program's text lays them, which the card ties to that text. -/
import Derived.Test.YtccjajmfkgifmaaDoorRows
import Derived.Test.YtccjajmfkgifmaaDoorCards
import Derived.Test.YtccjajmfkgifmaaDoorTie
import Derived.Test.YtccjajmfkgifmaaDoorNames
import Derived.ProofKit
import Derived.LaidMore
import Derived.LaidLaws
import Derived.LaidHandle
import Derived.SevenTiedAt
import Derived.Stop.Joined
namespace Go.Proofs.YtccjajmfkgifmaaDoor
open Go.ChangeShapes Go.WideShapes Go.RowKit

theorem Tryd.own : ownKnob Tryd.prog.godebug = none := by kernel_rfl
theorem Tryd.et : Tryd.prog.globalNamed "errors.errorType" = some 8 := by kernel_rfl
theorem Tryd.rt : (Tryd.prog.cutTypes.find? (·.1 == "internal/reflectlite.rtype")).map (·.2) = some 58 := by kernel_rfl
theorem Tryd.oneRow : ((List.range 101).filter fun t => Tryd.prog.rowNamed t [101, 114, 114, 111, 114]) = [25] := by kernel_rfl
theorem Tryd.size : Tryd.prog.types.size = 101 := by kernel_rfl

/-- The eight errors' names and texts. -/
def errNames : List (String × List UInt8) := [("handlebody/api.ErrText", [104, 97, 110, 100, 108, 101, 98, 111, 100, 121, 58, 32, 116, 101, 120, 116]), ("handlebody/api.ErrBound", [104, 97, 110, 100, 108, 101, 98, 111, 100, 121, 58, 32, 98, 111, 117, 110, 100]), ("handlebody/api.ErrShape", [104, 97, 110, 100, 108, 101, 98, 111, 100, 121, 58, 32, 115, 104, 97, 112, 101]), ("handlebody/api.ErrFace", [104, 97, 110, 100, 108, 101, 98, 111, 100, 121, 58, 32, 102, 97, 99, 101]), ("handlebody/api.ErrName", [104, 97, 110, 100, 108, 101, 98, 111, 100, 121, 58, 32, 110, 97, 109, 101]), ("handlebody/api.ErrNone", [104, 97, 110, 100, 108, 101, 98, 111, 100, 121, 58, 32, 110, 111, 110, 101]), ("handlebody/api.ErrOrder", [104, 97, 110, 100, 108, 101, 98, 111, 100, 121, 58, 32, 111, 114, 100, 101, 114]), ("handlebody/api.ErrKind", [104, 97, 110, 100, 108, 101, 98, 111, 100, 121, 58, 32, 107, 105, 110, 100])]

/-- WHAT A LIST OF ERRORS OF errors.New's MAKE GIVES: of each its address and text; the addresses' places, in their order, stand among the places that were met. -/
theorem sentinels {P : Program} {W : World} {nm : String} {ti tp te ts : TypeId} {ms : Array (String × TypeId)} {f : Field}
    (hi : P.underlying ti = some (.interface ms)) (hrow : ∀ u, P.typeName? 3 u = some nm → u = tp)
    (hp : P.underlying tp = some (.pointer te)) (he : P.underlying te = some (.struct #[f])) (hft : f.type = ts) (hfo : f.offset = 0) (hs : P.underlying ts = some .string) (hc : P.cellsOf te = 1) (hcs : P.cellsOf ts = 1) :
    ∀ (l : List (String × List UInt8)) (ps : List MemPlace), DataW.LaidVars P W (l.map fun x => (x.1, .iface nm (.ptr (.agg [.lit (.string x.2)])))) ps →
      (∀ b off, MemPlace.cell b off ∈ ps → (∃ c t, W.heap[b]? = some (.cells c t (0, 0))) ∧ ∀ u v, W.cell? ⟨b, off, none⟩ = some (.iface u v) → Value.okWide P W .any 0 u v) →
      (∀ x ∈ l, ∃ g, P.globalNamed x.1 = some g ∧ (P.globals[g]?).map (·.type) = some ti) →
      ∃ ys : List (Addr × ByteArray), ys.length = l.length ∧ (ys.map fun y => MemPlace.cell y.1.block y.1.off).Sublist ps ∧
        ∀ (k : Nat) (x : String × List UInt8) (y : Addr × ByteArray), l[k]? = some x → ys[k]? = some y → W.var? P x.1 = some #[.iface tp (.pointer (some y.1))] ∧ W.cell? y.1 = some (.string y.2) ∧ y.2.data.toList = x.2
  | [], ps, _, _, _ => ⟨[], rfl, List.nil_sublist _, fun k x y h => by simp at h⟩
  | (n, text) :: l, ps, h, hr, hg => by
    obtain ⟨g, t, cs, fuel, p, q, hg', ht', hv, hd, hl, e⟩ := h
    obtain ⟨g', hg1, ht1⟩ := hg (n, text) (List.mem_cons_self ..)
    obtain rfl := Option.some.inj (hg1.symm.trans hg')
    obtain rfl := Option.some.inj (ht1.symm.trans ht')
    subst e
    obtain ⟨cl⟩ := cs
    have ok : ∀ u v, cl = [.iface u v] → Value.okWide P W .any 0 u v := fun u v e => by
      subst e
      exact (hr g' 0 (by simp [MemPlace.row])).2 u v (by simpa using World.var?_cell hg' hv 0)
    obtain ⟨a, s, rfl, hc1, hs1, _, rfl⟩ := errorString_of_trod hi hrow hp he hft hfo hs hc hcs hd ok
    obtain ⟨ys, hlen, hsub, hall⟩ := sentinels hi hrow hp he hft hfo hs hc hcs l q hl (fun b off hb => hr b off (List.mem_append_right _ hb)) (fun x hx => hg x (List.mem_cons_of_mem _ hx))
    refine ⟨(a, s) :: ys, by simp [hlen], ?_, fun k x y hx hy => ?_⟩
    · show (MemPlace.cell a.block a.off :: ys.map fun y => MemPlace.cell y.1.block y.1.off).Sublist _
      rw [List.append_assoc]
      refine List.Sublist.trans ?_ (List.sublist_append_right _ _)
      have : MemPlace.row a 1 = [MemPlace.cell a.block a.off] := by simp [MemPlace.row]
      rw [this]
      exact List.Sublist.cons_cons _ hsub
    · cases k with
      | zero =>
        simp only [List.getElem?_cons_zero, Option.some.injEq] at hx hy
        subst hx; subst hy
        exact ⟨hv, hc1, hs1⟩
      | succ k => exact hall k x y (by simpa using hx) (by simpa using hy)

theorem Tryd.star : "*" ++ "errors.errorString" = "*errors.errorString" := by decide
theorem Tryd.oneName (u : TypeId) (h : Tryd.prog.typeName? 3 u = some "*errors.errorString") : u = 40 :=
  typeName_ptr_named (nm := "errors.errorString") (by rw [Tryd.star]; kernel_rfl) (by kernel_rfl) (by decide) u (by rw [Tryd.star]; exact h)
theorem Tryd.cells42 : Tryd.prog.cellsOf 42 = 1 := by kernel_rfl
theorem Tryd.cells9 : Tryd.prog.cellsOf 9 = 1 := by kernel_rfl
theorem Tryd.globs (k : Nat) (x : String × List UInt8) (h : errNames[k]? = some x) : Tryd.prog.globalNamed x.1 = some k ∧ (Tryd.prog.globals[k]?).map (·.type) = some 25 := by
  match k, h with
  | 0, h => obtain rfl := Option.some.inj h; exact ⟨by kernel_rfl, by kernel_rfl⟩
  | 1, h => obtain rfl := Option.some.inj h; exact ⟨by kernel_rfl, by kernel_rfl⟩
  | 2, h => obtain rfl := Option.some.inj h; exact ⟨by kernel_rfl, by kernel_rfl⟩
  | 3, h => obtain rfl := Option.some.inj h; exact ⟨by kernel_rfl, by kernel_rfl⟩
  | 4, h => obtain rfl := Option.some.inj h; exact ⟨by kernel_rfl, by kernel_rfl⟩
  | 5, h => obtain rfl := Option.some.inj h; exact ⟨by kernel_rfl, by kernel_rfl⟩
  | 6, h => obtain rfl := Option.some.inj h; exact ⟨by kernel_rfl, by kernel_rfl⟩
  | 7, h => obtain rfl := Option.some.inj h; exact ⟨by kernel_rfl, by kernel_rfl⟩
  | n + 8, h => exact absurd h (by simp [errNames])
theorem texts (k : Nat) (hk : k < 8) : ∃ n, errNames[k]? = some (n, [104, 97, 110, 100, 108, 101, 98, 111, 100, 121, 58, 32] ++ (shorts.getD k ⟨#[]⟩).data.toList) := by
  match k, hk with
  | 0, _ | 1, _ | 2, _ | 3, _ | 4, _ | 5, _ | 6, _ | 7, _ => exact ⟨_, rfl⟩
  | n + 8, h => omega

theorem bytes_of_list (b t : ByteArray) (pre : Array UInt8) (h : b.data.toList = pre.toList ++ t.data.toList) : b = ⟨pre⟩ ++ t := by
  obtain ⟨⟨l⟩⟩ := b
  obtain ⟨⟨m⟩⟩ := t
  obtain ⟨n⟩ := pre
  have h' : l = n ++ m := h
  subst h'
  rw [ByteArray.mk_append_mk]

theorem errs_of_laid {W : World} (h : laidMetH Tryd.prog Rows.namesRow.laid W) : ∃ a s, Errs a s W ∧ ∀ k, k < 8 → s k = ⟨#[104, 97, 110, 100, 108, 101, 98, 111, 100, 121, 58, 32]⟩ ++ shorts.getD k ⟨#[]⟩ := by
  have h' : laidMet Tryd.prog (errNames.map fun x => (x.1, .iface "*errors.errorString" (.ptr (.agg [.lit (.string x.2)])))) W ∧ handlesMet Tryd.prog [("errors.errorType", Rows.laid_errors_errorType)] W := h
  obtain ⟨⟨ps, hl, hnd, hrows⟩, hh⟩ := h'
  obtain ⟨ys, hlen, hsub, hall⟩ := sentinels Tryd.underlying25 Tryd.oneName Tryd.underlying40 Tryd.underlying42 rfl rfl Tryd.underlying9 Tryd.cells42 Tryd.cells9 errNames ps hl hrows (fun x hx => by
    obtain ⟨k, hk⟩ := List.mem_iff_getElem?.1 hx
    exact ⟨k, Tryd.globs k x hk⟩)
  have hlen8 : ys.length = 8 := hlen
  have hget : ∀ k, k < 8 → ys[k]? = some (ys.getD k (⟨0, 0, none⟩, ⟨#[]⟩)) := fun k hk => by
    simp [List.getD, List.getElem?_eq_getElem (show k < ys.length by omega)]
  refine ⟨fun k => (ys.getD k (⟨0, 0, none⟩, ⟨#[]⟩)).1, fun k => (ys.getD k (⟨0, 0, none⟩, ⟨#[]⟩)).2, ⟨?_, ?_, ?_, ?_, ?_⟩, ?_⟩
  · obtain ⟨name, u, ty, e1, e2, e3, e4, e5⟩ := hh _ (List.mem_singleton.2 rfl)
    have en : name = [101, 114, 114, 111, 114] := (Option.some.inj e1).symm
    subst en
    obtain rfl := Option.some.inj (Tryd.rt.symm.trans e2)
    have hm : ty ∈ (List.range 101).filter fun t => Tryd.prog.rowNamed t [101, 114, 114, 111, 114] := List.mem_filter.2 ⟨List.mem_range.2 (by rw [← Tryd.size]; exact e3), e4⟩
    rw [Tryd.oneRow] at hm
    obtain rfl := List.mem_singleton.1 hm
    have hh : typeHandle Tryd.prog 25 = .pointer (some ⟨9, 25, none⟩) := by kernel_rfl
    rw [hh] at e5
    simpa using World.var?_cell Tryd.et e5 0
  · intro k hk
    obtain ⟨n, hn⟩ := texts k hk
    have hv := (hall k _ _ hn (hget k hk)).1
    simpa using World.var?_cell (Tryd.globs k _ hn).1 hv 0
  · intro k hk
    refine (hrows _ _ (hsub.subset (List.mem_map.2 ⟨_, List.mem_of_getElem? (hget k hk), rfl⟩))).1
  · intro k hk
    obtain ⟨n, hn⟩ := texts k hk
    exact (hall k _ _ hn (hget k hk)).2.1
  · intro j k hj hk hne heq
    have hn := hsub.nodup hnd
    have e := (List.getElem?_inj (i := j) (j := k) (by simp; omega) hn).1 (by simp only [List.getElem?_map, hget j hj, hget k hk, Option.map_some]; rw [heq])
    exact hne e
  · intro k hk
    obtain ⟨n, hn⟩ := texts k hk
    have ht := (hall k _ _ hn (hget k hk)).2.2
    exact bytes_of_list _ _ _ ht

/-- The door's own heap meets the condition. -/
theorem door_met (os : Os) (args : Array Value) : laidMetH Tryd.prog Rows.namesRow.laid ((World.doorLaid Tryd.prog 400 os).forCall (fun _ _ => 0) ⟨#[], args, []⟩).memory :=
  laidMetH_of_parts3 (fuel := 8) (laidMet_of_run' 8 (by kernel_rfl) (by kernel_rfl)) (by kernel_rfl) (by kernel_rfl)

set_option maxRecDepth 100000 in
theorem names_lifted (os : Os) (started : os.Started) (H : Type) (enc : TypeId × Value → H) :
    ReturnsInHanded {} Tryd.checked os 3 .any (fun w args => (Rows.namesSpec.pre enc Tryd.prog Tryd.f3 [] false w args ∧ laidMetH Tryd.prog Rows.namesRow.laid w) ∧ sizedMet enc Tryd.prog Tryd.f3 (OpenSpec.ofChange Rows.namesSpec) false w args)
      (Rows.namesSpec.post enc Tryd.prog Tryd.f3 false true false false) := by
  refine returnsInHanded_of_change_and (C := Tryd.checked) (X := fun w _ => laidMetH Tryd.prog Rows.namesRow.laid w) (fun _ _ _ hh h => h.of_heap hh) Tryd.own started (by kernel_rfl) Tryd.func3
    (ChangeSpec.witness_shaped (enc := enc) (C := Tryd.checked) (os := os) (X := fun w _ => laidMetH Tryd.prog Rows.namesRow.laid w) false (World.doorLaid Tryd.prog 400 os) #[] 8 rfl (World.shaped_of_RefB (by kernel_rfl) (by kernel_rfl)) (by kernel_rfl) (by kernel_rfl) (by kernel_rfl) (door_met os _)) ?_
  intro W base args ds gs before hval0 hW _ _ hL _
  have hW' := hW
  obtain ⟨p, q, hA0, hV0, rfl, hfz, hnd⟩ := hW
  have hA : DataW.TrodAll enc Tryd.prog W 0 (fun _ => true) true Tryd.f3.params.toList args.toList ds p := hA0
  have hV : DataW.TrodVars enc Tryd.prog W (fun _ => true) [] gs q := hV0
  rw [Tryd.params3] at hA
  obtain ⟨rfl, rfl, rfl⟩ := trodAll_none hA
  obtain ⟨a, s, hE, hs⟩ := errs_of_laid hL
  obtain ⟨rfl, rfl⟩ : gs = [] ∧ q = [] := by
    cases gs with
    | nil => exact ⟨rfl, hV⟩
    | cons g r => exact absurd hV (by intro h; cases h)
  have e1 : Rows.namesSpec.fn H ([] ++ []) = { results := [.lit (.bool true)], args := [] } := by simp [Rows.namesSpec]
  refine (names_true W hE hs).mono fun e W' ⟨he, hb⟩ => ?_
  subst he
  refine ⟨_, rfl, _, _, _, [], [], [], hW', ?_, ?_, ?_, hb.frame _, fun h => by cases h⟩
  · rw [e1]; exact trodAll_mk1 (shut_bool Tryd.underlying4 true)
  · rw [e1]; exact trodAll_mk0
  · rw [e1]; rfl

theorem names_row : Rows.NamesSaid :=
  OpenClaim.holds_of_wide 3 Tryd.f3 rfl rfl rfl rfl rfl rfl rfl ⟨rfl, rfl, rfl, rfl, rfl⟩ rfl rfl rfl rfl rfl (by kernel_rfl) Tryd.func3 (by kernel_rfl)
    (of_decide_eq_true (by kernel_rfl)) (by unfold Func.isWrapper; rw [if_neg (of_decide_eq_false (by kernel_rfl))]; exact ⟨rfl, rfl⟩)
    (fun os started H enc _ => names_lifted os started H enc)

theorem names_holds : Rows.NamesCardSaid :=
  Claim7.holds_tied_plain_at .later [] [.handle, .sentinel, .sentinel, .sentinel, .sentinel, .sentinel, .sentinel, .sentinel, .sentinel] true (true, "25bc0ab6710f489d1b1caee998ed88a2021658f08615fd4b5274592f66888625") true
    names_row (fun _ h => by cases h) (by kernel_rfl) (fun _ h => by cases h) names_row_tie rfl ⟨rfl, rfl⟩ (by kernel_rfl) rfl
    (fun f fn hf hfn => by
      obtain rfl : f = 3 := Option.some.inj ((show Tryd.prog.funcNamed "handlebody/handlebodylaw1.Names" = some 3 by kernel_rfl).symm.trans hf) |>.symm
      obtain rfl : fn = Tryd.f3 := (Option.some.inj (Tryd.func3.symm.trans hfn)).symm
      exact ⟨by kernel_rfl, fun j t ht => by
        rw [Tryd.params3] at ht
        simp at ht⟩)
    (by kernel_rfl)
#print axioms names_holds
end Go.Proofs.YtccjajmfkgifmaaDoor
