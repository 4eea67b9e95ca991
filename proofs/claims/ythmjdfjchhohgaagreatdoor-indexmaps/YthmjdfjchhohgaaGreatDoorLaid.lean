/- What the listed variables hold when a call begins: the eight errors and errors.errorType; and a slice of slices of numbers that comes in. -/
import Derived.Test.YthmjdfjchhohgaaGreatDoorRows
import Derived.Test.YthmjdfjchhohgaaGreatDoorBase
import Derived.ProofKit
import Derived.LaidMore
import Derived.LaidLaws
import Derived.LaidHandle
import Derived.SevenTiedAt
import Derived.Stop.Joined
import Derived.Deep.Matrix
import Derived.Carry
import Derived.ChangeSlices
namespace Go.Proofs.YthmjdfjchhohgaaGreatDoor
open Go.ChangeShapes Go.WideShapes Go.RowKit Go.Deep

theorem Tryz.laidOut : laidOutB Tryz.prog = true := by kernel_rfl
theorem Tryz.own : ownKnob Tryz.prog.godebug = none := by kernel_rfl
theorem Tryz.et : Tryz.prog.globalNamed "errors.errorType" = some 8 := by kernel_rfl
theorem Tryz.rt : (Tryz.prog.cutTypes.find? (·.1 == "internal/reflectlite.rtype")).map (·.2) = some 170 := by kernel_rfl
theorem Tryz.oneRow : ((List.range 269).filter fun t => Tryz.prog.rowNamed t [101, 114, 114, 111, 114]) = [29] := by kernel_rfl
theorem Tryz.size : Tryz.prog.types.size = 269 := by kernel_rfl

/-- The eight errors' names and texts. -/
def errNames : List (String × List UInt8) := [("handlebody/api.ErrText", [104, 97, 110, 100, 108, 101, 98, 111, 100, 121, 58, 32, 116, 101, 120, 116]), ("handlebody/api.ErrBound", [104, 97, 110, 100, 108, 101, 98, 111, 100, 121, 58, 32, 98, 111, 117, 110, 100]), ("handlebody/api.ErrShape", [104, 97, 110, 100, 108, 101, 98, 111, 100, 121, 58, 32, 115, 104, 97, 112, 101]), ("handlebody/api.ErrFace", [104, 97, 110, 100, 108, 101, 98, 111, 100, 121, 58, 32, 102, 97, 99, 101]), ("handlebody/api.ErrName", [104, 97, 110, 100, 108, 101, 98, 111, 100, 121, 58, 32, 110, 97, 109, 101]), ("handlebody/api.ErrNone", [104, 97, 110, 100, 108, 101, 98, 111, 100, 121, 58, 32, 110, 111, 110, 101]), ("handlebody/api.ErrOrder", [104, 97, 110, 100, 108, 101, 98, 111, 100, 121, 58, 32, 111, 114, 100, 101, 114]), ("handlebody/api.ErrKind", [104, 97, 110, 100, 108, 101, 98, 111, 100, 121, 58, 32, 107, 105, 110, 100])]

/-- WHAT A LIST OF ERRORS OF errors.New's MAKE GIVES: of each its address and text; the addresses' places, in their order, stand among the places that were met. -/
theorem sentinels {P : Program} {W : World} {nm : String} {ti tp te ts : TypeId} {ms : Array (String × TypeId)} {f : Field}
    (hi : P.underlying ti = some (.interface ms)) (hrow : ∀ u, P.typeName? 3 u = some nm → u = tp)
    (hp : P.underlying tp = some (.pointer te)) (he : P.underlying te = some (.struct #[f])) (hft : f.type = ts) (hfo : f.offset = 0) (hs : P.underlying ts = some .string) (hc : P.cellsOf te = 1) (hcs : P.cellsOf ts = 1) :
    ∀ (l : List (String × List UInt8)) (ps : List MemPlace), DataW.LaidVars P W (l.map fun x => (x.1, .iface nm (.ptr (.agg [.lit (.string x.2)])))) ps →
      (∀ b off, MemPlace.cell b off ∈ ps → (∃ c t, W.heap[b]? = some (.cells c t (0, 0))) ∧ ∀ u v, W.cell? ⟨b, off, none⟩ = some (.iface u v) → Value.okWide P W .any 0 u v) →
      (∀ x ∈ l, ∃ g, P.globalNamed x.1 = some g ∧ (P.globals[g]?).map (·.type) = some ti) →
      ∃ ys : List (Addr × ByteArray), ys.length = l.length ∧ (ys.map fun y => MemPlace.cell y.1.block y.1.off).Sublist ps ∧
        ∀ (k : Nat) (x : String × List UInt8) (y : Addr × ByteArray), l[k]? = some x → ys[k]? = some y → W.var? P x.1 = some #[.iface tp (.pointer (some y.1))] ∧ W.cell? y.1 = some (.string y.2) ∧ y.2.data.toList = x.2
  | [], ps, _, _, _ => ⟨[], rfl, List.nil_sublist _, fun k x y h => by simp at h⟩
  | (n, text) :: l, ps, h, hr, hg => by
    obtain ⟨g, t, cs, fuel, p, q, hg', ht', hv, hd, hl, e⟩ := h
    obtain ⟨g', hg1, ht1⟩ := hg (n, text) (List.mem_cons_self ..)
    obtain rfl := Option.some.inj (hg1.symm.trans hg')
    obtain rfl := Option.some.inj (ht1.symm.trans ht')
    subst e
    obtain ⟨cl⟩ := cs
    have ok : ∀ u v, cl = [.iface u v] → Value.okWide P W .any 0 u v := fun u v e => by
      subst e
      exact (hr g' 0 (by simp [MemPlace.row])).2 u v (by simpa using World.var?_cell hg' hv 0)
    obtain ⟨a, s, rfl, hc1, hs1, _, rfl⟩ := errorString_of_trod hi hrow hp he hft hfo hs hc hcs hd ok
    obtain ⟨ys, hlen, hsub, hall⟩ := sentinels hi hrow hp he hft hfo hs hc hcs l q hl (fun b off hb => hr b off (List.mem_append_right _ hb)) (fun x hx => hg x (List.mem_cons_of_mem _ hx))
    refine ⟨(a, s) :: ys, by simp [hlen], ?_, fun k x y hx hy => ?_⟩
    · show (MemPlace.cell a.block a.off :: ys.map fun y => MemPlace.cell y.1.block y.1.off).Sublist _
      rw [List.append_assoc]
      refine List.Sublist.trans ?_ (List.sublist_append_right _ _)
      have : MemPlace.row a 1 = [MemPlace.cell a.block a.off] := by simp [MemPlace.row]
      rw [this]
      exact List.Sublist.cons_cons _ hsub
    · cases k with
      | zero =>
        simp only [List.getElem?_cons_zero, Option.some.injEq] at hx hy
        subst hx; subst hy
        exact ⟨hv, hc1, hs1⟩
      | succ k => exact hall k x y (by simpa using hx) (by simpa using hy)

theorem Tryz.star : "*" ++ "errors.errorString" = "*errors.errorString" := by decide
theorem Tryz.oneName (u : TypeId) (h : Tryz.prog.typeName? 3 u = some "*errors.errorString") : u = 233 :=
  typeName_ptr_named (nm := "errors.errorString") (by rw [Tryz.star]; kernel_rfl) (by kernel_rfl) (by decide) u (by rw [Tryz.star]; exact h)
theorem Tryz.cellsOfErr : Tryz.prog.cellsOf 254 = 1 := by kernel_rfl
theorem Tryz.cellsOfStr : Tryz.prog.cellsOf 9 = 1 := by kernel_rfl
theorem Tryz.globs (k : Nat) (x : String × List UInt8) (h : errNames[k]? = some x) : Tryz.prog.globalNamed x.1 = some (gl k) ∧ (Tryz.prog.globals[gl k]?).map (·.type) = some 29 := by
  match k, h with
  | 0, h => obtain rfl := Option.some.inj h; exact ⟨by kernel_rfl, by kernel_rfl⟩
  | 1, h => obtain rfl := Option.some.inj h; exact ⟨by kernel_rfl, by kernel_rfl⟩
  | 2, h => obtain rfl := Option.some.inj h; exact ⟨by kernel_rfl, by kernel_rfl⟩
  | 3, h => obtain rfl := Option.some.inj h; exact ⟨by kernel_rfl, by kernel_rfl⟩
  | 4, h => obtain rfl := Option.some.inj h; exact ⟨by kernel_rfl, by kernel_rfl⟩
  | 5, h => obtain rfl := Option.some.inj h; exact ⟨by kernel_rfl, by kernel_rfl⟩
  | 6, h => obtain rfl := Option.some.inj h; exact ⟨by kernel_rfl, by kernel_rfl⟩
  | 7, h => obtain rfl := Option.some.inj h; exact ⟨by kernel_rfl, by kernel_rfl⟩
  | n + 8, h => exact absurd h (by simp [errNames])
theorem names_there (k : Nat) (hk : k < 8) : ∃ x, errNames[k]? = some x := by
  match k, hk with
  | 0, _ | 1, _ | 2, _ | 3, _ | 4, _ | 5, _ | 6, _ | 7, _ => exact ⟨_, rfl⟩
  | n + 8, h => omega

/-- The variables that every statement of this seat lists. -/
def listed {H : Type} : List (String × DataW H) := [("errors.errorType", Rows.laid_errors_errorType), ("handlebody/api.ErrText", Rows.laid_handlebody_api_ErrText), ("handlebody/api.ErrBound", Rows.laid_handlebody_api_ErrBound), ("handlebody/api.ErrShape", Rows.laid_handlebody_api_ErrShape), ("handlebody/api.ErrFace", Rows.laid_handlebody_api_ErrFace), ("handlebody/api.ErrName", Rows.laid_handlebody_api_ErrName), ("handlebody/api.ErrNone", Rows.laid_handlebody_api_ErrNone), ("handlebody/api.ErrOrder", Rows.laid_handlebody_api_ErrOrder), ("handlebody/api.ErrKind", Rows.laid_handlebody_api_ErrKind)]

theorem errs_of_laid {W : World} (h : laidMetH Tryz.prog listed W) : ∃ a s, Errs a s W := by
  have h' : laidMet Tryz.prog (errNames.map fun x => (x.1, .iface "*errors.errorString" (.ptr (.agg [.lit (.string x.2)])))) W ∧ handlesMet Tryz.prog [("errors.errorType", Rows.laid_errors_errorType)] W := h
  obtain ⟨⟨ps, hl, hnd, hrows⟩, hh⟩ := h'
  obtain ⟨ys, hlen, hsub, hall⟩ := sentinels Tryz.underlying29 Tryz.oneName Tryz.underlying233 Tryz.underlying254 rfl rfl Tryz.underlying9 Tryz.cellsOfErr Tryz.cellsOfStr errNames ps hl hrows (fun x hx => by
    obtain ⟨k, hk⟩ := List.mem_iff_getElem?.1 hx
    exact ⟨gl k, Tryz.globs k x hk⟩)
  have hlen8 : ys.length = 8 := hlen
  have hget : ∀ k, k < 8 → ys[k]? = some (ys.getD k (⟨0, 0, none⟩, ⟨#[]⟩)) := fun k hk => by
    simp [List.getD, List.getElem?_eq_getElem (show k < ys.length by omega)]
  refine ⟨fun k => (ys.getD k (⟨0, 0, none⟩, ⟨#[]⟩)).1, fun k => (ys.getD k (⟨0, 0, none⟩, ⟨#[]⟩)).2, ⟨?_, ?_, ?_, ?_, ?_⟩⟩
  · obtain ⟨name, u, ty, e1, e2, e3, e4, e5⟩ := hh _ (List.mem_singleton.2 rfl)
    have en : name = [101, 114, 114, 111, 114] := (Option.some.inj e1).symm
    subst en
    obtain rfl := Option.some.inj (Tryz.rt.symm.trans e2)
    have hm : ty ∈ (List.range 269).filter fun t => Tryz.prog.rowNamed t [101, 114, 114, 111, 114] := List.mem_filter.2 ⟨List.mem_range.2 (by rw [← Tryz.size]; exact e3), e4⟩
    rw [Tryz.oneRow] at hm
    obtain rfl := List.mem_singleton.1 hm
    have hh : typeHandle Tryz.prog 29 = .pointer (some ⟨10, 29, none⟩) := by kernel_rfl
    rw [hh] at e5
    simpa using World.var?_cell Tryz.et e5 0
  · intro k hk
    obtain ⟨n, hn⟩ := names_there k hk
    have hv := (hall k _ _ hn (hget k hk)).1
    simpa using World.var?_cell (Tryz.globs k _ hn).1 hv 0
  · intro k hk
    refine (hrows _ _ (hsub.subset (List.mem_map.2 ⟨_, List.mem_of_getElem? (hget k hk), rfl⟩))).1
  · intro k hk
    obtain ⟨n, hn⟩ := names_there k hk
    exact (hall k _ _ hn (hget k hk)).2.1
  · intro j k hj hk hne heq
    have hn := hsub.nodup hnd
    have e := (List.getElem?_inj (i := j) (j := k) (by simp; omega) hn).1 (by simp only [List.getElem?_map, hget j hj, hget k hk, Option.map_some]; rw [heq])
    exact hne e

/-- The door's own heap meets the condition. -/
theorem door_met (os : Os) (args : Array Value) : laidMetH Tryz.prog listed ((World.doorLaid Tryz.prog 400 os).forCall (fun _ _ => 0) ⟨#[], args, []⟩).memory :=
  laidMetH_of_parts3 (fuel := 8) (laidMet_of_run' 8 (by kernel_rfl) (by kernel_rfl)) (by kernel_rfl) (by kernel_rfl)

theorem Tryz.cellsOfInts : Tryz.prog.cellsOf 23 = 1 := by kernel_rfl
theorem Tryz.cellsOfInt : Tryz.prog.cellsOf 3 = 1 := by kernel_rfl

/-- A slice of slices of numbers that comes in reads as rows. -/
theorem rows_of_trod {H : Type} {enc : TypeId × Value → H} {W : World} {base : Nat} {held : Bool} {fuel : Nat} {cs : List Value} {x : DataW H × List MemPlace}
    (h : DataW.trod enc Tryz.prog W base (fun _ => true) held fuel 22 cs = some x) : ∃ v l, cs = [v] ∧ Rows W v l := by
  rcases open_int_rows Tryz.underlying22 Tryz.underlying23 Tryz.underlying3 Tryz.cellsOfInts Tryz.cellsOfInt h with ⟨rfl, _⟩ | ⟨a, len, cap, A, L, C, Z, rfl, _, hl, _, _, hx⟩
  · exact ⟨_, [], rfl, ⟨[], SliceIn.nil _ _, rfl, fun k u x hu => by simp at hu⟩⟩
  · refine ⟨_, (List.range len).map fun r => (Z r).take (L r), rfl, (List.range len).map fun r => .slice (A r) (L r) (C r), ⟨some a, cap, by simp, ⟨by simpa using hl, fun h => by cases h⟩, fun h0 => ?_⟩, by simp, fun k u x hu hx' => ?_⟩
    · simp at h0
      have hs := World.cell?_spot (hx 0 (by omega)).1
      obtain ⟨b, o, sp⟩ := a
      have hs' : sp = none := by simpa [Addr.add] using hs
      subst hs'
      refine ⟨b, o, rfl, trivial, fun k u hu => ?_⟩
      simp only [List.getElem?_map] at hu
      rcases Nat.lt_or_ge k len with hk | hk
      · rw [List.getElem?_range hk] at hu
        obtain rfl := Option.some.inj hu
        rw [← Addr.add_lit]
        exact (hx k (by omega)).1
      · rw [List.getElem?_eq_none (by simpa using hk)] at hu; cases hu
    · simp only [List.getElem?_map] at hu hx'
      rcases Nat.lt_or_ge k len with hk | hk
      · rw [List.getElem?_range hk] at hu hx'
        obtain rfl := Option.some.inj hu
        obtain rfl := Option.some.inj hx'
        obtain ⟨_, h1, _, h3, _, h5, h6⟩ := hx k (by omega)
        have hlen : ((Z k).take (L k)).length = L k := by rw [List.length_take]; omega
        refine ⟨A k, C k, by simp [Nat.min_eq_left (show L k ≤ (Z k).length by omega)], ⟨by simp; omega, h5⟩, fun h0 => ?_⟩
        simp at h0
        cases hA : A k with
        | none => have := h5 hA; omega
        | some a' =>
          obtain ⟨_, hc⟩ := h6 a' hA
          have hs := World.cell?_spot (hc 0 (by omega))
          obtain ⟨b, o, sp⟩ := a'
          have hs' : sp = none := by simpa [Addr.add] using hs
          subst hs'
          refine ⟨b, o, rfl, trivial, fun j u hu => ?_⟩
          simp only [List.getElem?_map, List.getElem?_take] at hu
          split at hu
          · rename_i hj
            have := hc j (by omega)
            rw [Addr.add_lit] at this
            rw [this]
            rw [List.getElem?_eq_getElem (show j < (Z k).length by omega)] at hu
            obtain rfl := Option.some.inj hu
            simp [List.getD, List.getElem?_eq_getElem (show j < (Z k).length by omega)]
          · cases hu
      · rw [List.getElem?_eq_none (by simpa using hk)] at hu; cases hu

/-- A slice of numbers that comes in reads as numbers. -/
theorem ints_of_trod {H : Type} {enc : TypeId × Value → H} {W : World} {base : Nat} {held : Bool} {fuel : Nat} {cs : List Value} {x : DataW H × List MemPlace}
    (h : DataW.trod enc Tryz.prog W base (fun _ => true) held fuel 23 cs = some x) : ∃ v l, cs = [v] ∧ Ints W v l := by
  rcases open_ints Tryz.underlying23 Tryz.underlying3 Tryz.cellsOfInt h with ⟨rfl, _⟩ | ⟨a, len, cap, zs, rfl, _, hl, _, hz, _, hc, _⟩
  · exact ⟨_, [], rfl, SliceIn.nil _ _⟩
  · simp only [if_true] at hz
    refine ⟨_, zs.take len, rfl, some a, cap, by simp [Nat.min_eq_left (show len ≤ zs.length by omega)], ⟨by simp; omega, fun h => by cases h⟩, fun h0 => ?_⟩
    simp at h0
    have hs := World.cell?_spot (hc 0 (by omega))
    obtain ⟨b, o, sp⟩ := a
    have hs' : sp = none := by simpa [Addr.add] using hs
    subst hs'
    refine ⟨b, o, rfl, trivial, fun j u hu => ?_⟩
    simp only [List.getElem?_map, List.getElem?_take] at hu
    split at hu
    · rename_i hj
      have := hc j (by omega)
      rw [Addr.add_lit] at this
      rw [this]
      rw [List.getElem?_eq_getElem (show j < zs.length by omega)] at hu
      obtain rfl := Option.some.inj hu
      simp [List.getD, List.getElem?_eq_getElem (show j < zs.length by omega)]
    · cases hu

end Go.Proofs.YthmjdfjchhohgaaGreatDoor
