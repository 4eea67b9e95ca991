/- What squareSides answers: the boundary of dimension 2. -/
import Derived.Test.YtbmojlnkjeapkaaGreatDoorCubeEnds2
import Derived.Test.YtbmojlnkjeapkaaGreatDoorHeldQuiet
import Derived.Test.YtbmojlnkjeapkaaGreatDoorCubeDim
import Derived.Test.YtbmojlnkjeapkaaGreatDoorCubeThree
namespace Go.Proofs.YtbmojlnkjeapkaaGreatDoor
open Go.RowKit Go.Sort Go.Maps

/-- The squares that are done. -/
def sideF (E : List (Sq × Sq)) (S : List Sq) (k : Nat) (j : Nat) : Int :=
  if j % S.length < k then sideI (E.getD (j / S.length) ((0, 0), (0, 0))) (S.getD (j % S.length) (0, 0)) else 0

theorem side_at {E : List (Sq × Sq)} (hE : E.Nodup) {n i k j : Nat} {e : Sq × Sq} (hk : k < n) (hi : E[i]? = some e) (hjE : j / n < E.length) (hm : j % n = k) : E[j / n] = e ↔ j = i * n + k := by
  obtain ⟨hil, hie⟩ := List.getElem?_eq_some_iff.1 hi
  have hjj : j = (j / n) * n + j % n := by rw [Nat.mul_comm]; exact (Nat.div_add_mod j n).symm
  rw [← hie]
  constructor
  · intro h
    have := nodup_at hE _ _ h
    rw [hjj, this, hm]
  · intro h
    congr 1
    rw [h]; exact (div_of hk).1

theorem side_step {E : List (Sq × Sq)} {S : List Sq} (hE : E.Nodup) {k i1 i2 i3 i4 : Nat} {x y : Int} (hk : S[k]? = some (x, y)) (h1 : E[i1]? = some ((x, y), (x + 1, y))) (h2 : E[i2]? = some ((x + 1, y), (x + 1, y + 1))) (h3 : E[i3]? = some ((x, y + 1), (x + 1, y + 1))) (h4 : E[i4]? = some ((x, y), (x, y + 1))) (j : Nat) (hj : j < E.length * S.length) :
    (if j = i4 * S.length + k then -1 else if j = i3 * S.length + k then -1 else if j = i2 * S.length + k then 1 else if j = i1 * S.length + k then 1 else sideF E S k j) = sideF E S (k + 1) j := by
  obtain ⟨hkl, hke⟩ := List.getElem?_eq_some_iff.1 hk
  have hn0 : 0 < S.length := by omega
  have hjd : j / S.length < E.length := Nat.div_lt_of_lt_mul (by rw [Nat.mul_comm]; exact hj)
  have hjm : j % S.length < S.length := Nat.mod_lt _ hn0
  unfold sideF
  have hEj : E.getD (j / S.length) ((0, 0), (0, 0)) = E[j / S.length] := by simp [List.getD, List.getElem?_eq_getElem hjd]
  have hSj : S.getD (j % S.length) (0, 0) = S[j % S.length] := by simp [List.getD, List.getElem?_eq_getElem hjm]
  rw [hEj, hSj]
  by_cases hm : j % S.length = k
  · have hSe : S[j % S.length] = (x, y) := by rw [← hke]; congr 1
    rw [hSe, if_neg (show ¬ j % S.length < k by omega), if_pos (show j % S.length < k + 1 by omega)]
    unfold sideI
    simp only [side_at hE hkl h1 hjd hm, side_at hE hkl h2 hjd hm, side_at hE hkl h3 hjd hm, side_at hE hkl h4 hjd hm]
    have d : ∀ {a b : Nat} {e e' : Sq × Sq}, E[a]? = some e → E[b]? = some e' → e ≠ e' → a * S.length + k ≠ b * S.length + k := fun ha hb hne h => hne (by
      have h5 := Nat.eq_of_mul_eq_mul_right hn0 (Nat.add_right_cancel h)
      rw [h5, hb] at ha
      cases ha; rfl)
    have d12 := d h1 h2 (by simp; try omega)
    have d13 := d h1 h3 (by simp; try omega)
    have d14 := d h1 h4 (by simp; try omega)
    have d23 := d h2 h3 (by simp; try omega)
    have d24 := d h2 h4 (by simp; try omega)
    have d34 := d h3 h4 (by simp; try omega)
    (repeat' split) <;> first | rfl | omega
  · have n1 : ∀ i, ¬ j = i * S.length + k := fun i h => hm (by rw [h]; exact (div_of hkl).2)
    rw [if_neg (n1 _), if_neg (n1 _), if_neg (n1 _), if_neg (n1 _)]
    by_cases hl : j % S.length < k
    · rw [if_pos hl, if_pos (by omega)]
    · rw [if_neg hl, if_neg (by omega)]

/-- An edge's place, looked up. -/
theorem look_e {W : World} {b n i : Nat} {D : DataW Unit} {E : List (Sq × Sq)} {x y x' y' : Int} (hD : W.ownsMap Tryz.prog 96 (plainElem Tryz.prog 3) b n D) (hv : ∀ (k : Nat) (x : List UInt8), (E.map keyD)[k]? = some (.string x) → D.atKey (.string x) (.lit (.int .i64 0)) = .lit (.int .i64 (k : Int))) (ha : Small (x, y)) (hc : Small (x', y')) (hi : E[i]? = some ((x, y), (x', y'))) :
    (Instr.lookup 53 (.map (some b)) (.agg #[.int .i64 x, .int .i64 y, .int .i64 x', .int .i64 y']) false).run Tryz.prog W = .ok (.int .i64 (i : Int)) W := by
  obtain ⟨d, lu, hat, -⟩ := hD.lookup_int (t := 53) law_edge Tryz.underlying53 Tryz.underlying3 (zero_i64 _) (edge_of ha hc)
  have h1 := hv i _ (by rw [List.getElem?_map, hi]; rfl)
  have h2 : DataW.lit (H := Unit) (Lit.int .i64 d) = .lit (.int .i64 (i : Int)) := hat.symm.trans h1
  cases h2
  exact lu

theorem Hid.mk' {p : Prop} (h : p) : Hid p := h

/-- What the round's four writes find. -/
structure SidesAt (w0 : World) (g N mb pb B p6 p7 p8 b2 nE n : Nat) (D2 : DataW Unit) (x y : Int) (W : World) (f : Nat → Int) : Prop where
  row : W.rowIs g 3 N (fun j => .int .i64 (f j))
  keep : KeepBut w0 W g g
  map : W.ownsMap Tryz.prog 96 (plainElem Tryz.prog 3) b2 nE D2
  cols : W.cell? ⟨mb, 1, none⟩ = some (.int .i64 (n : Int))
  data : W.cell? ⟨mb, 2, none⟩ = some (.slice (some ⟨g, 0, none⟩) N N)
  edges : W.cell? ⟨pb, 1, none⟩ = some (.map (some b2))
  a0 : W.cell? ⟨B, 0, none⟩ = some (.int .i64 x)
  a1 : W.cell? ⟨B, 1, none⟩ = some (.int .i64 y)
  r0 : W.cell? ⟨p6, 0, none⟩ = some (.int .i64 (x + 1))
  r1 : W.cell? ⟨p6, 1, none⟩ = some (.int .i64 y)
  d0 : W.cell? ⟨p7, 0, none⟩ = some (.int .i64 x)
  d1 : W.cell? ⟨p7, 1, none⟩ = some (.int .i64 (y + 1))
  c0 : W.cell? ⟨p8, 0, none⟩ = some (.int .i64 (x + 1))
  c1 : W.cell? ⟨p8, 1, none⟩ = some (.int .i64 (y + 1))

theorem SidesAt.set {w0 : World} {g N mb pb B p6 p7 p8 b2 nE n : Nat} {D2 : DataW Unit} {x y : Int} {W : World} {f : Nat → Int} (h : SidesAt w0 g N mb pb B p6 p7 p8 b2 nE n D2 x y W f) (hne : mb ≠ g ∧ pb ≠ g ∧ B ≠ g ∧ p6 ≠ g ∧ p7 ≠ g ∧ p8 ≠ g ∧ b2 ≠ g) (i : Nat) (v : Int) : SidesAt w0 g N mb pb B p6 p7 p8 b2 nE n D2 x y (W.setCell ⟨g, i, none⟩ (.int .i64 v)).drew (fun j => if j = i then v else f j) := by
  obtain ⟨n1, n2, n3, n4, n5, n6, n7⟩ := hne
  have hg : W.grownBy (W.setCell ⟨g, i, none⟩ (.int .i64 v)).drew (some g) := grown_draw (grown_set W ⟨g, i, none⟩ _)
  have k : ∀ a : Addr, a.block ≠ g → (W.setCell ⟨g, i, none⟩ (.int .i64 v)).drew.cell? a = W.cell? a := fun a ha => World.cell?_setCell_other W _ _ _ (fun h => ha (congrArg Addr.block h).symm)
  exact ⟨(h.row.set i (.int .i64 v)).drew.congr (fun j _ => by split <;> rfl), h.keep.on hg (fun b hb => by cases hb; exact .inl rfl), h.map.kept hg (by simpa using n7), (k _ n1).trans h.cols, (k _ n1).trans h.data, (k _ n2).trans h.edges, (k _ n3).trans h.a0, (k _ n3).trans h.a1, (k _ n4).trans h.r0, (k _ n4).trans h.r1, (k _ n5).trans h.d0, (k _ n5).trans h.d1, (k _ n6).trans h.c0, (k _ n6).trans h.c1⟩

end Go.Proofs.YtbmojlnkjeapkaaGreatDoor
