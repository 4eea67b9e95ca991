/- What the listed variables hold when a call begins: the listed errors; and a slice of slices of numbers that comes in. -/
import Derived.Test.YtddcdndckinglaaDoorRows
import Derived.Test.YtddcdndckinglaaDoorBase
import Derived.ProofKit
import Derived.LaidMore
import Derived.LaidLaws
import Derived.LaidHandle
import Derived.SevenTiedAt
import Derived.Stop.Joined
import Derived.Deep.Matrix
import Derived.Carry
import Derived.ChangeSlices
namespace Go.Proofs.YtddcdndckinglaaDoor
open Go.ChangeShapes Go.WideShapes Go.RowKit Go.Deep

theorem Tryd.laidOut : laidOutB Tryd.prog = true := by kernel_rfl
theorem Tryd.own : ownKnob Tryd.prog.godebug = none := by kernel_rfl
/-- The listed errors' names and texts. -/
def errNames : List (String × List UInt8) := [("handlebody/api.ErrBound", [104, 97, 110, 100, 108, 101, 98, 111, 100, 121, 58, 32, 98, 111, 117, 110, 100]), ("handlebody/api.ErrShape", [104, 97, 110, 100, 108, 101, 98, 111, 100, 121, 58, 32, 115, 104, 97, 112, 101])]

/-- WHAT A LIST OF ERRORS OF errors.New's MAKE GIVES: of each its address and text; the addresses' places, in their order, stand among the places that were met. -/
theorem sentinels {P : Program} {W : World} {nm : String} {ti tp te ts : TypeId} {ms : Array (String × TypeId)} {f : Field}
    (hi : P.underlying ti = some (.interface ms)) (hrow : ∀ u, P.typeName? 3 u = some nm → u = tp)
    (hp : P.underlying tp = some (.pointer te)) (he : P.underlying te = some (.struct #[f])) (hft : f.type = ts) (hfo : f.offset = 0) (hs : P.underlying ts = some .string) (hc : P.cellsOf te = 1) (hcs : P.cellsOf ts = 1) :
    ∀ (l : List (String × List UInt8)) (ps : List MemPlace), DataW.LaidVars P W (l.map fun x => (x.1, .iface nm (.ptr (.agg [.lit (.string x.2)])))) ps →
      (∀ b off, MemPlace.cell b off ∈ ps → (∃ c t, W.heap[b]? = some (.cells c t (0, 0))) ∧ ∀ u v, W.cell? ⟨b, off, none⟩ = some (.iface u v) → Value.okWide P W .any 0 u v) →
      (∀ x ∈ l, ∃ g, P.globalNamed x.1 = some g ∧ (P.globals[g]?).map (·.type) = some ti) →
      ∃ ys : List (Addr × ByteArray), ys.length = l.length ∧ (ys.map fun y => MemPlace.cell y.1.block y.1.off).Sublist ps ∧
        ∀ (k : Nat) (x : String × List UInt8) (y : Addr × ByteArray), l[k]? = some x → ys[k]? = some y → W.var? P x.1 = some #[.iface tp (.pointer (some y.1))] ∧ W.cell? y.1 = some (.string y.2) ∧ y.2.data.toList = x.2
  | [], ps, _, _, _ => ⟨[], rfl, List.nil_sublist _, fun k x y h => by simp at h⟩
  | (n, text) :: l, ps, h, hr, hg => by
    obtain ⟨g, t, cs, fuel, p, q, hg', ht', hv, hd, hl, e⟩ := h
    obtain ⟨g', hg1, ht1⟩ := hg (n, text) (List.mem_cons_self ..)
    obtain rfl := Option.some.inj (hg1.symm.trans hg')
    obtain rfl := Option.some.inj (ht1.symm.trans ht')
    subst e
    obtain ⟨cl⟩ := cs
    have ok : ∀ u v, cl = [.iface u v] → Value.okWide P W .any 0 u v := fun u v e => by
      subst e
      exact (hr g' 0 (by simp [MemPlace.row])).2 u v (by simpa using World.var?_cell hg' hv 0)
    obtain ⟨a, s, rfl, hc1, hs1, _, rfl⟩ := errorString_of_trod hi hrow hp he hft hfo hs hc hcs hd ok
    obtain ⟨ys, hlen, hsub, hall⟩ := sentinels hi hrow hp he hft hfo hs hc hcs l q hl (fun b off hb => hr b off (List.mem_append_right _ hb)) (fun x hx => hg x (List.mem_cons_of_mem _ hx))
    refine ⟨(a, s) :: ys, by simp [hlen], ?_, fun k x y hx hy => ?_⟩
    · show (MemPlace.cell a.block a.off :: ys.map fun y => MemPlace.cell y.1.block y.1.off).Sublist _
      rw [List.append_assoc]
      refine List.Sublist.trans ?_ (List.sublist_append_right _ _)
      have : MemPlace.row a 1 = [MemPlace.cell a.block a.off] := by simp [MemPlace.row]
      rw [this]
      exact List.Sublist.cons_cons _ hsub
    · cases k with
      | zero =>
        simp only [List.getElem?_cons_zero, Option.some.injEq] at hx hy
        subst hx; subst hy
        exact ⟨hv, hc1, hs1⟩
      | succ k => exact hall k x y (by simpa using hx) (by simpa using hy)

theorem Tryd.star : "*" ++ "errors.errorString" = "*errors.errorString" := by decide
theorem Tryd.oneName (u : TypeId) (h : Tryd.prog.typeName? 3 u = some "*errors.errorString") : u = 79 :=
  typeName_ptr_named (nm := "errors.errorString") (by rw [Tryd.star]; kernel_rfl) (by kernel_rfl) (by decide) u (by rw [Tryd.star]; exact h)
theorem Tryd.cellsOfErr : Tryd.prog.cellsOf 97 = 1 := by kernel_rfl
theorem Tryd.cellsOfStr : Tryd.prog.cellsOf 9 = 1 := by kernel_rfl
theorem Tryd.globs (k : Nat) (x : String × List UInt8) (h : errNames[k]? = some x) : Tryd.prog.globalNamed x.1 = some (gl (k + 1)) ∧ (Tryd.prog.globals[gl (k + 1)]?).map (·.type) = some 31 := by
  match k, h with
  | 0, h => obtain rfl := Option.some.inj h; exact ⟨by kernel_rfl, by kernel_rfl⟩
  | 1, h => obtain rfl := Option.some.inj h; exact ⟨by kernel_rfl, by kernel_rfl⟩
  | n + 2, h => exact absurd h (by simp [errNames])
theorem names_there (k : Nat) (hk : k < 2) : ∃ x, errNames[k]? = some x := by
  match k, hk with
  | 0, _ | 1, _ => exact ⟨_, rfl⟩
  | n + 2, h => omega

/-- The variables that the statement lists. -/
def listed {H : Type} : List (String × DataW H) := [("handlebody/api.ErrBound", Rows.laid_handlebody_api_ErrBound), ("handlebody/api.ErrShape", Rows.laid_handlebody_api_ErrShape)]

theorem errs_of_laid {W : World} (h : laidMetH Tryd.prog listed W) : ∃ a s, Errs a s W := by
  have h' : laidMet Tryd.prog (errNames.map fun x => (x.1, .iface "*errors.errorString" (.ptr (.agg [.lit (.string x.2)])))) W := h
  obtain ⟨ps, hl, hnd, hrows⟩ := h'
  obtain ⟨ys, hlen, hsub, hall⟩ := sentinels Tryd.underlying31 Tryd.oneName Tryd.underlying79 Tryd.underlying97 rfl rfl Tryd.underlying9 Tryd.cellsOfErr Tryd.cellsOfStr errNames ps hl hrows (fun x hx => by
    obtain ⟨k, hk⟩ := List.mem_iff_getElem?.1 hx
    exact ⟨gl (k + 1), Tryd.globs k x hk⟩)
  have hlen3 : ys.length = 2 := hlen
  have hget : ∀ k, k < 2 → ys[k]? = some (ys.getD k (⟨0, 0, none⟩, ⟨#[]⟩)) := fun k hk => by
    simp [List.getD, List.getElem?_eq_getElem (show k < ys.length by omega)]
  refine ⟨fun k => (ys.getD (k - 1) (⟨0, 0, none⟩, ⟨#[]⟩)).1, fun _ => ⟨#[]⟩, ⟨?_⟩⟩
  intro k hk
  obtain ⟨j, rfl, hj⟩ : ∃ j, k = j + 1 ∧ j < 2 := ⟨k - 1, by simp at hk; omega, by simp at hk; omega⟩
  obtain ⟨n, hn⟩ := names_there j hj
  have hv := (hall j _ _ hn (hget j hj)).1
  simpa using World.var?_cell (Tryd.globs j _ hn).1 hv 0

/-- The door's own heap meets the condition. -/
theorem door_met (os : Os) (args : Array Value) : laidMetH Tryd.prog listed ((World.doorLaid Tryd.prog 400 os).forCall (fun _ _ => 0) ⟨#[], args, []⟩).memory :=
  laidMet_of_run' 8 (by kernel_rfl) (by kernel_rfl)

theorem Tryd.cellsOfInts : Tryd.prog.cellsOf 27 = 1 := by kernel_rfl
theorem Tryd.cellsOfInt : Tryd.prog.cellsOf 3 = 1 := by kernel_rfl

theorem bulk_one {H : Type} (d : DataW H) : 1 ≤ Rows.uptoBulk d := by
  cases d with
  | lit l => cases l <;> simp [Rows.uptoBulk]
  | _ => simp [Rows.uptoBulk]
theorem bulk_two {H : Type} (l r : List (DataW H)) : Rows.uptoBulkAll (l ++ r) = Rows.uptoBulkAll l + Rows.uptoBulkAll r := by
  induction l with
  | nil => simp [Rows.uptoBulkAll]
  | cons x l ih => rw [List.cons_append, Rows.uptoBulkAll, Rows.uptoBulkAll, ih]; omega
theorem bulk_len {H : Type} (l : List (DataW H)) : l.length ≤ Rows.uptoBulkAll l := by
  induction l with
  | nil => simp
  | cons x l ih => have := bulk_one x; rw [Rows.uptoBulkAll, List.length_cons]; omega
theorem bulk_lits {H : Type} (a : Addr) (L : Nat) (zs : List Int) : (zs.take L).length + 1 ≤ Rows.uptoBulk (intRow (H := H) .i64 (some a) L zs) := by
  have h : (lits (H := H) .i64 (zs.take L)).length = (zs.take L).length := by simp [lits]
  have h1 := bulk_len (lits (H := H) .i64 (zs.take L))
  show _ ≤ Rows.uptoBulk (.slice (lits .i64 (zs.take L)) (lits .i64 (zs.drop L)))
  simp only [Rows.uptoBulk]
  omega
/-- Rows together: their letters, and how many they are. -/
theorem bulk_rows {H : Type} (len : Nat) (f : Nat → DataW H) (g : Nat → List Int) (h : ∀ r, r < len → (g r).length + 1 ≤ Rows.uptoBulk (f r)) : ((List.range len).map g).flatten.length + len ≤ Rows.uptoBulkAll ((List.range len).map f) := by
  induction len with
  | zero => simp
  | succ n ih =>
    have h1 := ih fun r hr => h r (by omega)
    have h2 := h n (by omega)
    rw [List.range_succ, List.map_append, List.map_append, List.flatten_append, List.length_append, bulk_two]
    have e1 : (List.map g [n]).flatten.length = (g n).length := by simp
    have e2 : Rows.uptoBulkAll (List.map f [n]) = Rows.uptoBulk (f n) := by simp [Rows.uptoBulkAll]
    rw [e1, e2]
    omega

/-- A slice of slices of numbers that comes in reads as rows. -/
theorem rows_of_trod {H : Type} {enc : TypeId × Value → H} {W : World} {base : Nat} {held : Bool} {fuel : Nat} {cs : List Value} {x : DataW H × List MemPlace}
    (h : DataW.trod enc Tryd.prog W base (fun _ => true) held fuel 22 cs = some x) : ∃ v l, cs = [v] ∧ Rows W v l ∧ l.length ≤ Rows.uptoBulk x.1 ∧ l.flatten.length ≤ Rows.uptoBulk x.1 := by
  rcases open_int_rows Tryd.underlying22 Tryd.underlying27 Tryd.underlying3 Tryd.cellsOfInts Tryd.cellsOfInt h with ⟨rfl, _⟩ | ⟨a, len, cap, A, L, C, Z, rfl, _, hl, _, hxe, hx⟩
  · exact ⟨_, [], rfl, ⟨[], SliceIn.nil _ _, rfl, fun k u x hu => by simp at hu⟩, Nat.zero_le _, Nat.zero_le _⟩
  · refine ⟨_, (List.range len).map fun r => (Z r).take (L r), rfl, ⟨(List.range len).map fun r => .slice (A r) (L r) (C r), ⟨some a, cap, by simp, ⟨by simpa using hl, fun h => by cases h⟩, fun h0 => ?_⟩, by simp, fun k u x hu hx' => ?_⟩, ?_⟩
    · simp at h0
      have hs := World.cell?_spot (hx 0 (by omega)).1
      obtain ⟨b, o, sp⟩ := a
      have hs' : sp = none := by simpa [Addr.add] using hs
      subst hs'
      refine ⟨b, o, rfl, trivial, fun k u hu => ?_⟩
      simp only [List.getElem?_map] at hu
      rcases Nat.lt_or_ge k len with hk | hk
      · rw [List.getElem?_range hk] at hu
        obtain rfl := Option.some.inj hu
        rw [← Addr.add_lit]
        exact (hx k (by omega)).1
      · rw [List.getElem?_eq_none (by simpa using hk)] at hu; cases hu
    · simp only [List.getElem?_map] at hu hx'
      rcases Nat.lt_or_ge k len with hk | hk
      · rw [List.getElem?_range hk] at hu hx'
        obtain rfl := Option.some.inj hu
        obtain rfl := Option.some.inj hx'
        obtain ⟨_, h1, _, h3, _, h5, h6⟩ := hx k (by omega)
        have hlen : ((Z k).take (L k)).length = L k := by rw [List.length_take]; omega
        refine ⟨A k, C k, by simp [Nat.min_eq_left (show L k ≤ (Z k).length by omega)], ⟨by simp; omega, h5⟩, fun h0 => ?_⟩
        simp at h0
        cases hA : A k with
        | none => have := h5 hA; omega
        | some a' =>
          obtain ⟨_, hc⟩ := h6 a' hA
          have hs := World.cell?_spot (hc 0 (by omega))
          obtain ⟨b, o, sp⟩ := a'
          have hs' : sp = none := by simpa [Addr.add] using hs
          subst hs'
          refine ⟨b, o, rfl, trivial, fun j u hu => ?_⟩
          simp only [List.getElem?_map, List.getElem?_take] at hu
          split at hu
          · rename_i hj
            have := hc j (by omega)
            rw [Addr.add_lit] at this
            rw [this]
            rw [List.getElem?_eq_getElem (show j < (Z k).length by omega)] at hu
            obtain rfl := Option.some.inj hu
            simp [List.getD, List.getElem?_eq_getElem (show j < (Z k).length by omega)]
          · cases hu
      · rw [List.getElem?_eq_none (by simpa using hk)] at hu; cases hu

    · have hb := bulk_rows (H := H) len (fun r => intRow .i64 (A r) (L r) (Z r)) (fun r => (Z r).take (L r)) (fun r hr => by
        obtain ⟨_, _, _, h3, _, h5, _⟩ := hx r (by omega)
        cases hA : A r with
        | none =>
          have : (Z r).length = 0 := by rw [h3]; exact h5 hA
          have hz : (Z r).take (L r) = [] := by rw [List.eq_nil_of_length_eq_zero this]; simp
          rw [hz]
          exact bulk_one _
        | some a' => exact bulk_lits _ _ _)
      have hs : Rows.uptoBulkAll ((List.range len).map fun r => intRow (H := H) .i64 (A r) (L r) (Z r)) ≤ Rows.uptoBulk x.1 := by
        rw [hxe]
        simp only [Rows.uptoBulk]
        omega
      refine ⟨?_, ?_⟩
      · rw [List.length_map, List.length_range]
        omega
      · omega
end Go.Proofs.YtddcdndckinglaaDoor
