/- The vertices are the faces of dimension 0; numbers by vertices. What index.open answers of what is no complex. What index.open answers where the number of images is wrong. A region that draws its order, whose operations read and whose callees lay memory of their own: walked once, in the order of the text, in the class of the worlds that keep what was there. The sign of an order: how many pairs stand the wrong way around, and what it does to it that neighbours change places. -/
import Derived.Test.YthmjdfjchhohgaaGreatDoorIdxMath
import Derived.Test.YthmjdfjchhohgaaGreatDoorGather
import Derived.Test.YthmjdfjchhohgaaGreatDoorRefJoin
import Derived.Test.YthmjdfjchhohgaaGreatDoorIdxRowBox
import Derived.Test.YthmjdfjchhohgaaGreatDoorIdxCmp
import Derived.Test.YthmjdfjchhohgaaGreatDoorIdxHas
import Derived.Test.YthmjdfjchhohgaaGreatDoorBase
import Derived.BigQuiet
import Derived.Deep.QuietTactic
namespace Go.Proofs.YthmjdfjchhohgaaGreatDoor
open Go.RowKit Go.Sort

theorem ofDim_zero (all : List (List Int)) : ofDim all 0 = (vertI all).map fun v => [v] := by
  induction all with
  | nil => rfl
  | cons x l ih =>
    unfold ofDim vertI at ih ⊢
    rw [List.flatMap_cons, List.map_append]
    by_cases h : x.length = 1
    · obtain ⟨v, rfl⟩ := List.length_eq_one_iff.1 h
      rw [List.filter_cons_of_pos (by simp), ih]; rfl
    · rw [List.filter_cons_of_neg (by simp; omega), ih, if_neg h]; rfl
def hgt (V h : List Int) (v : Int) : Int := hiF V h (v.toNat : Int)
theorem hgt_hiF {V h : List Int} {u : Int} (hu : 0 ≤ u) : hgt V h u = hiF V h u := by
  unfold hgt
  rw [show ((u.toNat : Nat) : Int) = u by omega]


end Go.Proofs.YthmjdfjchhohgaaGreatDoor

namespace Go.Proofs.YthmjdfjchhohgaaGreatDoor
open Go.RowKit Go.Sort

/-- The cells of no mapping. -/
def map0 : List Value := mapC (.slice none 0 0) fun _ => 0
/-- Three blocks that open lays: the complexes, what it answers. -/
theorem mopen_start (w : World) (va vb : Value) : ∃ w1, ((w.alloc (.cells #[va] 33)).alloc (.cells #[vb] 33)).alloc (.cells map0.toArray 83) = w1 ∧ Below w.heap.size w w1 ∧ w1.cell? ⟨w.heap.size, 0, none⟩ = some va ∧ w1.cell? ⟨w.heap.size + 1, 0, none⟩ = some vb ∧ MapgAt (w.heap.size + 1 + 1) w1 (.slice none 0 0) (fun _ => 0) ∧ w1.heap.size = w.heap.size + 1 + 1 + 1 := by
  obtain ⟨A, hA⟩ : ∃ A, w.alloc (.cells #[va] 33) = A := ⟨_, rfl⟩
  have hsA : A.heap.size = w.heap.size + 1 := by rw [← hA]; simp
  have hcA : A.cell? ⟨w.heap.size, 0, none⟩ = some va := by rw [← hA]; exact (box_new w va _).1
  have hBA : Below w.heap.size w A := by rw [← hA]; exact (Below.refl _ w).alloc (Nat.le_refl _) _
  rw [hA]
  obtain ⟨B, hB⟩ : ∃ B, A.alloc (.cells #[vb] 33) = B := ⟨_, rfl⟩
  have hsB : B.heap.size = w.heap.size + 1 + 1 := by rw [← hB]; simp [hsA]
  have hcB : B.cell? ⟨w.heap.size + 1, 0, none⟩ = some vb := by rw [← hB, ← hsA]; exact (box_new A vb _).1
  have hBB : Below A.heap.size A B := by rw [← hB]; exact (Below.refl _ A).alloc (Nat.le_refl _) _
  rw [hB]
  have hBC : Below B.heap.size B (B.alloc (.cells map0.toArray 83)) := (Below.refl _ B).alloc (Nat.le_refl _) _
  refine ⟨_, rfl, (hBA.trans (hBB.mono (by omega))).trans (hBC.mono (by omega)), ?_, ?_, ?_, by simp [hsB]⟩
  · exact (hBC.cell (p := ⟨w.heap.size, 0, none⟩) (by show w.heap.size < _; omega)).trans ((hBB.cell (p := ⟨w.heap.size, 0, none⟩) (by show w.heap.size < _; omega)).trans hcA)
  · exact (hBC.cell (p := ⟨w.heap.size + 1, 0, none⟩) (by show w.heap.size + 1 < _; omega)).trans hcB
  · have h1 := mapgAt_new B (.slice none 0 0) (fun _ => 0)
    rw [hsB] at h1
    exact h1

set_option maxRecDepth 100000 in
set_option maxHeartbeats 4000000 in
theorem mopen_bad {a : Nat → Addr} {s : Nat → ByteArray} (va vb vf : Value) (l : List (List Int)) (i : Nat) (w : World) (hE : Errs a s w) (hl : Rows w va l) (hll : l.length ≤ 100000) (hle : ∀ x ∈ l, x.length ≤ 1000) (hb : BadAt l i) :
    Calls Tryz.prog 45 #[.agg #[va], .agg #[vb], vf] w fun e w' => e = .returned (.tuple #[.agg map0.toArray, .iface 233 (.pointer (some (a i)))]) ∧ Below w.heap.size w w' := by
  obtain ⟨hz, hsz⟩ := zero_of_info (P := Tryz.prog) (t := 83) (v := .agg map0.toArray) (n := 101) (by kernel_rfl)
  obtain ⟨w1, hw1, hB1, hc1, hc2, hm1, hs1⟩ := mopen_start w va vb
  obtain ⟨Q0, hQ0⟩ : ∃ Q0, shp0 = Q0 := ⟨_, rfl⟩
  have hq7 : Q0.size = 7 := by rw [← hQ0]; rfl
  have hq1 : ∀ u ∈ Q0.toList, u.oneCell' = true := by rw [← hQ0]; intro u hu; simp [shp0] at hu; subst hu; rfl
  have HSB : Hid (∀ W, Below w.heap.size w W → Calls Tryz.prog 29 #[.agg #[va]] W fun e w' => e = .returned (.tuple #[.agg Q0, .iface 233 (.pointer (some (a i)))]) ∧ Below W.heap.size W w') := fun W hB => by
    rw [← hQ0]
    exact shape_bad va l i W (hE.below hB) (hl.below hB) hll hle hb
  have HB1 := Hid.mk' hB1
  have HM1 := Hid.mk' hm1
  clear hE hl hll hle hb hB1 hm1 hQ0
  go_enter Tryz.func45, Tryz.ntmps45
  go_wp2_with fail
  refine (HSB.out _ HB1.out).mono ?_
  rintro e V ⟨rfl, hV⟩
  have hb0 := shBox_new V #[.slice none 0 0, .slice none 0 0, .slice none 0 0, .slice none 0 0, .slice none 0 0, .slice none 0 0, .slice none 0 0]
  have hst := hb0.storeCells (Q' := Q0) rfl hq7 hq1
  have hBV : Below V.heap.size V ((V.alloc (.cells #[.slice none 0 0, .slice none 0 0, .slice none 0 0, .slice none 0 0, .slice none 0 0, .slice none 0 0, .slice none 0 0] 63)).setRow V.heap.size Q0) := below_setRow ((Below.refl _ V).alloc (Nat.le_refl _) _) (Nat.le_refl _)
  obtain ⟨W3, hW3⟩ : ∃ W3, (V.alloc (.cells #[.slice none 0 0, .slice none 0 0, .slice none 0 0, .slice none 0 0, .slice none 0 0, .slice none 0 0, .slice none 0 0] 63)).setRow V.heap.size Q0 = W3 := ⟨_, rfl⟩
  rw [hW3] at hst hBV
  have HM3 : Hid (MapgAt (w.heap.size + 1 + 1) W3 (.slice none 0 0) fun _ => 0) := (HM1.out.below hV).below hBV
  have HB3 : Hid (Below w.heap.size w W3) := (HB1.out.trans (hV.mono HB1.out.size)).trans (hBV.mono (HB1.out.trans (hV.mono HB1.out.size)).size)
  have hsm := HM3.out.storeSame
  change (Go.storeCells ⟨w.heap.size + 1 + 1, 0, none⟩ map0).run Tryz.prog W3 = .ok () W3 at hsm
  have hld : (loadVar 83 ⟨w.heap.size + 1 + 1, 0, none⟩).run Tryz.prog W3 = .ok (.agg map0.toArray) W3 := HM3.out.load
  clear hV hBV hb0 hW3 HM1 HB1 HSB
  go_wp2_with fail
  refine bodyPost_ret (v := .tuple #[.agg map0.toArray, .iface 233 (.pointer (some (a i)))]) ?_ rfl ⟨rfl, HB3.out⟩
  rw [results_cell_tmp rfl]
  simp [asAddr, Result.andThen, hld]

/-- A shape that is handed over is seven cells. -/
theorem ShpIn.cells {S : Nat → Prop} {w : World} {v : Value} {all : List (List Int)} (h : ShpIn S w v all) : ∃ Q : Array Value, v = .agg Q ∧ Q.size = 7 ∧ ∀ u ∈ Q.toList, u.oneCell' = true := by
  obtain ⟨a, c, rfl, -⟩ := h
  refine ⟨_, rfl, rfl, fun u hu => ?_⟩
  simp at hu
  rcases hu with e | e | e | e | e | e | e <;> rw [e] <;> rfl
theorem ShpIn.verts {S : Nat → Prop} {w : World} {v : Value} {all : List (List Int)} (h : ShpIn S w v all) (W : World) :
    Calls Tryz.prog 60 #[v] W fun e w' => ∃ a0 c0, e = .returned (.slice a0 (vertI all).length c0) ∧ Below W.heap.size W w' := by
  obtain ⟨a, c, rfl, -⟩ := h
  have h0 : (ofDim all 0).length = (vertI all).length := by rw [ofDim_zero, List.length_map]
  rw [← h0]
  exact (verts_ _ _ _ _ _ _ _ _ _ _ _ _ _ _ _ _ _ _ _ _ _ W).mono fun e w' ⟨h1, h2⟩ => ⟨_, _, h1, h2⟩
/-- What open has in memory: two shapes in their boxes, what it answers in its own. -/
structure MOp (b6 b8 b10 : Nat) (Qa Qb : Array Value) (p q : List (List Int)) (w W : World) : Prop where
  m6 : MapgAt b6 W (.slice none 0 0) fun _ => 0
  s8 : ShBox b8 W Qa
  s10 : ShBox b10 W Qb
  pa : ShpIn (fun b => b6 < b) W (.agg Qa) p
  pb : ShpIn anyBlock W (.agg Qb) q
  bel : Below w.heap.size w W
theorem MOp.below {b6 b8 b10 : Nat} {Qa Qb : Array Value} {p q : List (List Int)} {w W W' : World} (h : MOp b6 b8 b10 Qa Qb p q w W) (hB : Below W.heap.size W W') : MOp b6 b8 b10 Qa Qb p q w W' :=
  ⟨h.m6.below hB, h.s8.below hB, h.s10.below hB, h.pa.below hB, h.pb.below hB, h.bel.trans (hB.mono h.bel.size)⟩
/-- A shape is laid in a box of its own. -/
theorem sh_boxed {V : World} {Q : Array Value} (hq7 : Q.size = 7) (hq1 : ∀ u ∈ Q.toList, u.oneCell' = true) : ∃ W3, (Go.storeCells ⟨V.heap.size, 0, none⟩ Q.toList).run Tryz.prog (V.alloc (.cells #[.slice none 0 0, .slice none 0 0, .slice none 0 0, .slice none 0 0, .slice none 0 0, .slice none 0 0, .slice none 0 0] 63)) = .ok () W3 ∧ Below V.heap.size V W3 ∧ ShBox V.heap.size W3 Q :=
  ⟨_, (shBox_new V #[.slice none 0 0, .slice none 0 0, .slice none 0 0, .slice none 0 0, .slice none 0 0, .slice none 0 0, .slice none 0 0]).storeCells rfl hq7 hq1, below_setRow ((Below.refl _ V).alloc (Nat.le_refl _) _) (Nat.le_refl _), (shBox_new V _).setRow Q⟩

set_option maxRecDepth 100000 in
set_option maxHeartbeats 4000000 in
theorem mopen_bad2 {a : Nat → Addr} {s : Nat → ByteArray} {p : List (List Int)} (va vb vf : Value) (la l : List (List Int)) (i : Nat) (w : World) (hE : Errs a s w) (hla : Rows w va la) (hlla : la.length ≤ 100000) (hlea : ∀ x ∈ la, x.length ≤ 1000) (hg : Good la p)
    (hl : Rows w vb l) (hll : l.length ≤ 100000) (hle : ∀ x ∈ l, x.length ≤ 1000) (hb : BadAt l i) :
    Calls Tryz.prog 45 #[.agg #[va], .agg #[vb], vf] w fun e w' => e = .returned (.tuple #[.agg map0.toArray, .iface 233 (.pointer (some (a i)))]) ∧ Below w.heap.size w w' := by
  obtain ⟨hz, hsz⟩ := zero_of_info (P := Tryz.prog) (t := 83) (v := .agg map0.toArray) (n := 101) (by kernel_rfl)
  obtain ⟨w1, hw1, hB1, hc1, hc2, hm1, hs1⟩ := mopen_start w va vb
  obtain ⟨Q0, hQ0⟩ : ∃ Q0, shp0 = Q0 := ⟨_, rfl⟩
  have hq7 : Q0.size = 7 := by rw [← hQ0]; rfl
  have hq1 : ∀ u ∈ Q0.toList, u.oneCell' = true := by rw [← hQ0]; intro u hu; simp [shp0] at hu; subst hu; rfl
  have HSA : Hid (∀ W, Below w.heap.size w W → Calls Tryz.prog 29 #[.agg #[va]] W fun e w' => ∃ Q, e = .returned (.tuple #[.agg Q, .nilIface]) ∧ (Q.size = 7 ∧ ∀ u ∈ Q.toList, u.oneCell' = true) ∧ Below W.heap.size W w') := fun W hB =>
    (shape_good va la p W (hE.below hB) (hla.below hB) hlla hlea hg).mono fun e w' ⟨v, h1, h2, h3⟩ => by
      obtain ⟨Q, rfl, h4, h5⟩ := h2.cells
      exact ⟨Q, h1, ⟨h4, h5⟩, h3⟩
  have HSB : Hid (∀ W, Below w.heap.size w W → Calls Tryz.prog 29 #[.agg #[vb]] W fun e w' => e = .returned (.tuple #[.agg Q0, .iface 233 (.pointer (some (a i)))]) ∧ Below W.heap.size W w') := fun W hB => by
    rw [← hQ0]
    exact shape_bad vb l i W (hE.below hB) (hl.below hB) hll hle hb
  have HB1 := Hid.mk' hB1
  have HM1 := Hid.mk' hm1
  have HC2 : Hid (w1.cell? ⟨w.heap.size + 1, 0, none⟩ = some vb) := hc2
  clear hE hl hll hle hb hB1 hm1 hQ0 hla hlla hlea hg hc2
  go_enter Tryz.func45, Tryz.ntmps45
  go_wp2_with fail
  refine (HSA.out _ HB1.out).mono ?_
  rintro e V ⟨Qa, rfl, ⟨ha7, ha1⟩, hV⟩
  obtain ⟨W3, hst, hBV, -⟩ := sh_boxed (V := V) ha7 ha1
  have HM3 : Hid (MapgAt (w.heap.size + 1 + 1) W3 (.slice none 0 0) fun _ => 0) := (HM1.out.below hV).below hBV
  have HB3 : Hid (Below w.heap.size w W3) := (HB1.out.trans (hV.mono HB1.out.size)).trans (hBV.mono (HB1.out.trans (hV.mono HB1.out.size)).size)
  have c3 : W3.cell? ⟨w.heap.size + 1, 0, none⟩ = some vb := (hBV.cell (p := ⟨w.heap.size + 1, 0, none⟩) (Nat.lt_of_lt_of_le (cell_lt HC2.out) hV.size)).trans ((hV.cell (p := ⟨w.heap.size + 1, 0, none⟩) (cell_lt HC2.out)).trans HC2.out)
  clear hV hBV HM1 HB1 HSA hc1 hw1 hs1
  go_wp2_with fail
  refine (HSB.out _ HB3.out).mono ?_
  rintro e V2 ⟨rfl, hV⟩
  obtain ⟨W5, hst5, hBV, -⟩ := sh_boxed (V := V2) hq7 hq1
  have HM5 : Hid (MapgAt (w.heap.size + 1 + 1) W5 (.slice none 0 0) fun _ => 0) := (HM3.out.below hV).below hBV
  have HB5 : Hid (Below w.heap.size w W5) := (HB3.out.trans (hV.mono HB3.out.size)).trans (hBV.mono (HB3.out.trans (hV.mono HB3.out.size)).size)
  have hsm := HM5.out.storeSame
  change (Go.storeCells ⟨w.heap.size + 1 + 1, 0, none⟩ map0).run Tryz.prog W5 = .ok () W5 at hsm
  have hld : (loadVar 83 ⟨w.heap.size + 1 + 1, 0, none⟩).run Tryz.prog W5 = .ok (.agg map0.toArray) W5 := HM5.out.load
  clear hV hBV HM3 HB3 HSB c3 hst
  go_wp2_with fail
  refine bodyPost_ret (v := .tuple #[.agg map0.toArray, .iface 233 (.pointer (some (a i)))]) ?_ rfl ⟨rfl, HB5.out⟩
  rw [results_cell_tmp rfl]
  simp [asAddr, Result.andThen, hld]

end Go.Proofs.YthmjdfjchhohgaaGreatDoor

namespace Go.Proofs.YthmjdfjchhohgaaGreatDoor
open Go.RowKit Go.Sort

set_option maxRecDepth 100000 in
set_option maxHeartbeats 4000000 in
theorem mopen_len {a : Nat → Addr} {s : Nat → ByteArray} {p q : List (List Int)} (va vb vf : Value) (la lb : List (List Int)) (f : List Int) (w : World) (hE : Errs a s w) (hla : Rows w va la) (hlla : la.length ≤ 100000) (hlea : ∀ x ∈ la, x.length ≤ 1000) (hg : Good la p)
    (hlb : Rows w vb lb) (hllb : lb.length ≤ 100000) (hleb : ∀ x ∈ lb, x.length ≤ 1000) (hgb : Good lb q) (hf : Ints w vf f) (_hfl : f.length ≤ 1000) (hne : f.length ≠ (vertI p).length) (_hvl : (vertI p).length ≤ 1000) :
    Calls Tryz.prog 45 #[.agg #[va], .agg #[vb], vf] w fun e w' => e = .returned (.tuple #[.agg map0.toArray, .iface 233 (.pointer (some (a 2)))]) ∧ Below w.heap.size w w' := by
  obtain ⟨af, cf, rfl, -, -⟩ := hf.open_
  obtain ⟨hz, hsz⟩ := zero_of_info (P := Tryz.prog) (t := 83) (v := .agg map0.toArray) (n := 101) (by kernel_rfl)
  obtain ⟨w1, hw1, hB1, hc1, hc2, hm1, hs1⟩ := mopen_start w va vb
  have HSA : Hid (∀ W, Below w.heap.size w W → Calls Tryz.prog 29 #[.agg #[va]] W fun e w' => ∃ Q, e = .returned (.tuple #[.agg Q, .nilIface]) ∧ (Q.size = 7 ∧ ∀ u ∈ Q.toList, u.oneCell' = true) ∧ ShpIn (fun b => W.heap.size ≤ b) w' (.agg Q) p ∧ Below W.heap.size W w') := fun W hB =>
    (shape_own va la p W (hE.below hB) (hla.below hB) hlla hlea hg).mono fun e w' ⟨v, h1, h2, h3⟩ => by
      obtain ⟨Q, rfl, h4, h5⟩ := h2.cells
      exact ⟨Q, h1, ⟨h4, h5⟩, h2, h3⟩
  have HSB : Hid (∀ W, Below w.heap.size w W → Calls Tryz.prog 29 #[.agg #[vb]] W fun e w' => ∃ Q, e = .returned (.tuple #[.agg Q, .nilIface]) ∧ (Q.size = 7 ∧ ∀ u ∈ Q.toList, u.oneCell' = true) ∧ ShpIn anyBlock w' (.agg Q) q ∧ Below W.heap.size W w') := fun W hB =>
    (shape_good vb lb q W (hE.below hB) (hlb.below hB) hllb hleb hgb).mono fun e w' ⟨v, h1, h2, h3⟩ => by
      obtain ⟨Q, rfl, h4, h5⟩ := h2.cells
      exact ⟨Q, h1, ⟨h4, h5⟩, h2, h3⟩
  have HB1 := Hid.mk' hB1
  have HM1 := Hid.mk' hm1
  have HC2 : Hid (w1.cell? ⟨w.heap.size + 1, 0, none⟩ = some vb) := hc2
  have HE : Hid (Errs a s w) := hE
  clear hE hlb hllb hleb hgb hB1 hm1 hla hlla hlea hg hc2 hf
  go_enter Tryz.func45, Tryz.ntmps45
  go_wp2_with fail
  refine (HSA.out _ HB1.out).mono ?_
  rintro e V ⟨Qa, rfl, ⟨ha7, ha1⟩, hpa, hV⟩
  obtain ⟨W3, hst, hBV, hs8⟩ := sh_boxed (V := V) ha7 ha1
  have HM3 : Hid (MapgAt (w.heap.size + 1 + 1) W3 (.slice none 0 0) fun _ => 0) := (HM1.out.below hV).below hBV
  have HB3 : Hid (Below w.heap.size w W3) := (HB1.out.trans (hV.mono HB1.out.size)).trans (hBV.mono (HB1.out.trans (hV.mono HB1.out.size)).size)
  have c3 : W3.cell? ⟨w.heap.size + 1, 0, none⟩ = some vb := (hBV.cell (p := ⟨w.heap.size + 1, 0, none⟩) (Nat.lt_of_lt_of_le (cell_lt HC2.out) hV.size)).trans ((hV.cell (p := ⟨w.heap.size + 1, 0, none⟩) (cell_lt HC2.out)).trans HC2.out)
  have HPA : Hid (ShpIn (fun b => w.heap.size + 1 + 1 < b) W3 (.agg Qa) p ∧ ShBox V.heap.size W3 Qa) := ⟨(hpa.below hBV).mono fun b _ hb => by omega, hs8⟩
  obtain ⟨b8, hb8⟩ : ∃ b8, V.heap.size = b8 := ⟨_, rfl⟩
  have H8 : Hid (w.heap.size + 1 + 1 < b8) := by
    show _ < _
    rw [← hb8]
    have := HM1.out.lt
    have := hV.size
    omega
  rw [hb8] at HPA hst
  clear hV hBV HM1 HB1 HSA hc1 hw1 hs1 hs8 hpa
  go_wp2_with fail
  refine (HSB.out _ HB3.out).mono ?_
  rintro e V2 ⟨Qb, rfl, ⟨hb7, hb1⟩, hpb, hV⟩
  obtain ⟨W5, hst5, hBV, hs10⟩ := sh_boxed (V := V2) hb7 hb1
  have HMO : Hid (MOp (w.heap.size + 1 + 1) b8 V2.heap.size Qa Qb p q w W5) := ⟨(HM3.out.below hV).below hBV, (HPA.out.2.below hV).below hBV, hs10, (HPA.out.1.below hV).below hBV, hpb.below hBV, (HB3.out.trans (hV.mono HB3.out.size)).trans (hBV.mono (HB3.out.trans (hV.mono HB3.out.size)).size)⟩
  obtain ⟨b10, hb10⟩ : ∃ b10, V2.heap.size = b10 := ⟨_, rfl⟩
  have H10 : Hid (b8 < b10) := by
    show _ < _
    rw [← hb10]
    have := HPA.out.2.lt
    have := hV.size
    omega
  have HL7 : Hid (Qa.size = 7 ∧ Qb.size = 7) := ⟨ha7, hb7⟩
  rw [hb10] at HMO hst5
  obtain ⟨q0, q1, q2, q3, q4, q5, q6, rfl⟩ := seven_of ha7
  obtain ⟨x0, x1, x2, x3, x4, x5, x6⟩ := HMO.out.s8.cells
  have hvt := HMO.out.pa.verts
  clear hV hBV HM3 HB3 HSB c3 hst hb8 hs10 hpb HPA hb1 ha1
  go_wp2_with fail
  refine (hvt W5).mono ?_
  rintro e W7 ⟨a0, c0, rfl, hV⟩
  have HM7 := Hid.mk' (HMO.out.below hV).m6
  have HB7 := Hid.mk' (HMO.out.below hV).bel
  clear hV HMO hb10 hb7 hst5 hvt x0 x1 x2 x3 x4 x5 x6
  have hbb : ((f.length : Int) != ((vertI p).length : Int)) = true := bne_iff_ne.2 (by omega)
  obtain ⟨n, hn⟩ : ∃ n, f.length = n := ⟨_, rfl⟩
  obtain ⟨m, hm⟩ : ∃ m, (vertI p).length = m := ⟨_, rfl⟩
  have gE : W7.cell? ⟨1, 0, none⟩ = some (.iface 233 (.pointer (some (a 2)))) := (HE.out.below HB7.out).glob 2 (by decide)
  have hsm : (Go.storeCells ⟨w.heap.size + 1 + 1, 0, none⟩ map0).run Tryz.prog W7.drew = .ok () W7.drew := (HM7.out.below (Below.refl _ W7).drew).storeSame
  have hml : map0.length = 101 := mapC_len _ _
  rw [hn, hm] at hbb
  rw [hn, hm]
  clear hn hm hne
  go_wp2_with fail
  go_region
  go_wp2_with fail
  have hld : (loadVar 83 ⟨w.heap.size + 1 + 1, 0, none⟩).run Tryz.prog W7.drew = .ok (.agg map0.toArray) W7.drew := (HM7.out.below (Below.refl _ W7).drew).load
  refine bodyPost_ret (v := .tuple #[.agg map0.toArray, .iface 233 (.pointer (some (a 2)))]) ?_ rfl ⟨rfl, HB7.out.drew⟩
  rw [results_cell_tmp rfl]
  simp [asAddr, Result.andThen, hld]

end Go.Proofs.YthmjdfjchhohgaaGreatDoor

namespace Go.Proofs.YthmjdfjchhohgaaGreatDoor
open Go.RowKit

/-- A world that keeps what was there. -/
structure WIn (W : World) where
  w : World
  ok : Below W.heap.size W w

instance (W : World) : Nonempty (WIn W) := ⟨⟨W, Below.refl _ W⟩⟩

theorem region_in {P : Program} {id : Nat} {Q : Exit → Act → World → Prop} {a : Act} {w : World} {l : List Oper} (hm : P.follows .mixedOrders = true) (hB : Region.lexB .any l.toArray = true)
    (h : wpQuiet P l.toArray (fun w' => ∃ n : WIn w, w' = n.w) (fun a' => ∀ w', (∃ n : WIn w, w' = n.w) → Q .normal a' w') l a) : (Code.region id l.toArray true).wp P Q a w :=
  wp_region_quiet (C := fun w' => ∃ n : WIn w, w' = n.w) hm hB ⟨⟨w.drew, (Below.refl _ w).drew⟩, rfl⟩ (by simpa using h)

/-- A callee's contract as such a region asks for it. -/
theorem call_in {P : Program} {f : FuncId} {args : Array Value} {W : World} {v : Value} (n : WIn W) (h : Calls P f args n.w fun e w' => e = .returned v ∧ Below n.w.heap.size n.w w') : Calls P f args n.w fun e w'' => e = .returned v ∧ ∃ k : WIn W, w'' = k.w :=
  h.mono fun _ V k => ⟨k.1, ⟨V, n.ok.trans (k.2.mono n.ok.size)⟩, rfl⟩

end Go.Proofs.YthmjdfjchhohgaaGreatDoor

namespace Go.Proofs.YthmjdfjchhohgaaGreatDoor

/-- How many pairs stand the wrong way around. -/
def invN : List Int → Nat
  | [] => 0
  | x :: l => (l.filter fun y => decide (y < x)).length + invN l
def signN (n : Nat) : Int := if n % 2 = 0 then 1 else -1
theorem signN_succ (n : Nat) : signN (n + 1) = - signN n := by
  unfold signN
  by_cases h : n % 2 = 0
  · rw [if_pos h, if_neg (by omega)]
  · rw [if_neg h, if_pos (by omega)]; rfl

/-- The list with two neighbours changed. -/
def swapAt (l : List Int) (i : Nat) : List Int := (l.set i (l[i + 1]?.getD 0)).set (i + 1) (l[i]?.getD 0)
theorem swapAt_len (l : List Int) (i : Nat) : (swapAt l i).length = l.length := by simp [swapAt]
theorem swapAt_cons (x : Int) (l : List Int) (i : Nat) : swapAt (x :: l) (i + 1) = x :: swapAt l i := by simp [swapAt]
theorem swapAt_zero (x y : Int) (l : List Int) : swapAt (x :: y :: l) 0 = y :: x :: l := by simp [swapAt]
theorem swapAt_perm : ∀ (l : List Int) (i : Nat), i + 1 < l.length → (swapAt l i).Perm l
  | [], _, h => by simp at h
  | [_], _, h => by simp at h
  | x :: y :: l, 0, _ => by rw [swapAt_zero]; exact List.Perm.swap x y l
  | x :: y :: l, i + 1, h => by
    rw [swapAt_cons]
    exact (swapAt_perm (y :: l) i (by simp at h ⊢; omega)).cons x
theorem inv_swap : ∀ (l : List Int) (i : Nat), i + 1 < l.length → l[i + 1]?.getD 0 < l[i]?.getD 0 → invN (swapAt l i) + 1 = invN l
  | [], _, h, _ => by simp at h
  | [_], _, h, _ => by simp at h
  | x :: y :: l, 0, _, h => by
    rw [swapAt_zero]
    have hxy : y < x := by simpa using h
    have h1 : decide (x < y) = false := decide_eq_false (by omega)
    have h2 : decide (y < x) = true := decide_eq_true hxy
    simp only [invN, List.filter_cons, h1, h2, if_true, List.length_cons, Bool.false_eq_true, if_false]
    omega
  | x :: y :: l, i + 1, h, hlt => by
    rw [swapAt_cons]
    have hi : i + 1 < (y :: l).length := by simp at h ⊢; omega
    have ih := inv_swap (y :: l) i hi (by simpa using hlt)
    have hp := ((swapAt_perm (y :: l) i hi).filter fun z => decide (z < x)).length_eq
    show ((swapAt (y :: l) i).filter fun z => decide (z < x)).length + invN (swapAt (y :: l) i) + 1 = ((y :: l).filter fun z => decide (z < x)).length + invN (y :: l)
    omega
theorem inv_sorted : ∀ l : List Int, (∀ i, i + 1 < l.length → l[i]?.getD 0 ≤ l[i + 1]?.getD 0) → invN l = 0 ∧ ∀ x, l.head? = some x → ∀ y ∈ l, x ≤ y
  | [], _ => ⟨rfl, by simp⟩
  | [x], _ => ⟨rfl, by simp⟩
  | x :: y :: l, h => by
    have ih := inv_sorted (y :: l) fun i hi => by
      have := h (i + 1) (by simp at hi ⊢; omega)
      simpa using this
    have hxy : x ≤ y := by simpa using h 0 (by simp)
    have hall : ∀ z ∈ y :: l, x ≤ z := fun z hz => Int.le_trans hxy (ih.2 y rfl z hz)
    refine ⟨?_, fun x' e z hz => ?_⟩
    · show ((y :: l).filter fun z => decide (z < x)).length + invN (y :: l) = 0
      rw [ih.1, List.filter_eq_nil_iff.2 fun z hz => by have := hall z hz; simp; omega]
      rfl
    · obtain rfl : x = x' := by simpa using e
      rcases List.mem_cons.1 hz with rfl | hz
      · exact Int.le_refl _
      · exact hall z hz

/-- How many pairs are wrong whose first number is one of the first k. -/
def invTo (l : List Int) (k : Nat) : Nat := ((List.range k).map fun j => ((l.drop (j + 1)).filter fun y => decide (y < l[j]?.getD 0)).length).sum
theorem invTo_zero (l : List Int) : invTo l 0 = 0 := rfl
theorem invTo_succ (l : List Int) (k : Nat) : invTo l (k + 1) = invTo l k + ((l.drop (k + 1)).filter fun y => decide (y < l[k]?.getD 0)).length := by
  unfold invTo
  rw [List.range_succ, List.map_append, List.sum_append]
  simp
theorem invTo_cons (x : Int) (l : List Int) : ∀ k, invTo (x :: l) (k + 1) = (l.filter fun y => decide (y < x)).length + invTo l k
  | 0 => by rw [invTo_succ, invTo_zero, invTo_zero]; simp
  | k + 1 => by
    rw [invTo_succ, invTo_cons x l k, invTo_succ l k]
    simp only [List.drop_succ_cons, List.getElem?_cons_succ]
    omega
theorem invTo_all : ∀ l : List Int, invTo l l.length = invN l
  | [] => rfl
  | x :: l => by
    rw [List.length_cons, invTo_cons, invTo_all l]
    rfl
theorem invTo_small (l : List Int) : ∀ k, invTo l k ≤ k * l.length
  | 0 => by simp [invTo_zero]
  | k + 1 => by
    have h1 := invTo_small l k
    have h2 := List.length_filter_le (fun y => decide (y < l[k]?.getD 0)) (l.drop (k + 1))
    rw [List.length_drop] at h2
    rw [invTo_succ, Nat.succ_mul]
    omega

/-- How many of the next j behind the k-th are less than it. -/
def invIn (l : List Int) (k j : Nat) : Nat := (((l.drop (k + 1)).take j).filter fun y => decide (y < l[k]?.getD 0)).length
theorem invIn_zero (l : List Int) (k : Nat) : invIn l k 0 = 0 := by simp [invIn]
theorem invIn_succ (l : List Int) (k j : Nat) (h : k + 1 + j < l.length) : invIn l k (j + 1) = invIn l k j + (if l[k + 1 + j]?.getD 0 < l[k]?.getD 0 then 1 else 0) := by
  unfold invIn
  rw [List.take_add_one, List.getElem?_drop, List.getElem?_eq_getElem h, List.filter_append, List.length_append]
  by_cases e : l[k + 1 + j] < l[k]?.getD 0
  · simp [e]
  · simp [e]
theorem invIn_all (l : List Int) (k j : Nat) (h : l.length = k + 1 + j) : invTo l k + invIn l k j = invTo l (k + 1) := by
  rw [invTo_succ]
  unfold invIn
  rw [List.take_of_length_le (by rw [List.length_drop]; omega)]
theorem invIn_small (l : List Int) (k j : Nat) : invIn l k j ≤ j := by
  have h1 := List.length_filter_le (fun y => decide (y < l[k]?.getD 0)) ((l.drop (k + 1)).take j)
  have h2 : ((l.drop (k + 1)).take j).length ≤ j := by rw [List.length_take]; omega
  unfold invIn
  omega

end Go.Proofs.YthmjdfjchhohgaaGreatDoor
