/- fieldOf: what is told of a complex and a gradient. -/
import Derived.Test.YtnnkmkhamipfiaaGreatDoorMorseJoin
import Derived.Test.YtnnkmkhamipfiaaGreatDoorAppendTypes
import Derived.Test.YtnnkmkhamipfiaaGreatDoorMorseNumber2
import Derived.Test.YtnnkmkhamipfiaaGreatDoorRegionGrow
namespace Go.Proofs.YtnnkmkhamipfiaaGreatDoor
open Go.RowKit Go.Sort

theorem frozen_field (W : World) (A : Array Value) (t : TypeId) (k : Nat) : (W.alloc (.cells A t)).frozen? ⟨W.heap.size, k, none⟩ = false := by
  have hg : (W.alloc (.cells A t)).heap[W.heap.size]? = some (.cells A t) := (Go.MapKept.heap_alloc W _).1
  simp only [World.frozen?, hg]
  simp
/-- Four cells that are stored. -/
theorem four_put {W : World} {B : Nat} (v0 v1 v2 v3 : Value) (h : ∀ j, j < 4 → (W.cell? ⟨B, j, none⟩).isSome = true) :
    ∀ j u, [v0, v1, v2, v3][j]? = some u → ((((W.setCell ⟨B, 0, none⟩ v0).setCell ⟨B, 1, none⟩ v1).setCell ⟨B, 2, none⟩ v2).setCell ⟨B, 3, none⟩ v3).cell? ⟨B, j, none⟩ = some u := by
  have ne : ∀ {i j : Nat}, i ≠ j → (⟨B, i, none⟩ : Addr) ≠ ⟨B, j, none⟩ := fun h => addr_ne (.inr h)
  intro j u hu
  have hj : j < 4 := by simpa using (List.getElem?_eq_some_iff.1 hu).1
  have hc : j = 0 ∨ j = 1 ∨ j = 2 ∨ j = 3 := by omega
  rcases hc with rfl | rfl | rfl | rfl <;> cases hu
  · rw [World.cell?_setCell_other _ _ _ _ (ne (by decide)), World.cell?_setCell_other _ _ _ _ (ne (by decide)), World.cell?_setCell_other _ _ _ _ (ne (by decide))]
    exact World.cell?_setCell_same' _ _ _ (h 0 (by omega))
  · rw [World.cell?_setCell_other _ _ _ _ (ne (by decide)), World.cell?_setCell_other _ _ _ _ (ne (by decide))]
    exact World.cell?_setCell_same' _ _ _ (by rw [World.cell?_setCell_other _ _ _ _ (ne (by decide))]; exact h 1 (by omega))
  · rw [World.cell?_setCell_other _ _ _ _ (ne (by decide))]
    exact World.cell?_setCell_same' _ _ _ (by rw [World.cell?_setCell_other _ _ _ _ (ne (by decide)), World.cell?_setCell_other _ _ _ _ (ne (by decide))]; exact h 2 (by omega))
  · exact World.cell?_setCell_same' _ _ _ (by rw [World.cell?_setCell_other _ _ _ _ (ne (by decide)), World.cell?_setCell_other _ _ _ _ (ne (by decide)), World.cell?_setCell_other _ _ _ _ (ne (by decide))]; exact h 3 (by omega))
abbrev joinsL (L : List (List Int)) (ps : List Duo) : Prop := Joins L.length (undL L) noMate ps
abbrev matesL (ps : List Duo) : Nat → Int := matesBy noMate ps
def noField (v : Value) : Value := .tuple #[.agg #[.slice none 0 0, .slice none 0 0, .slice none 0 0, .slice none 0 0], v]

/-- What fieldOf answers. -/
def FieldSays (a : Nat → Addr) (l : List (List Int)) (ps : List Duo) (w : World) (e : Ending) (w' : World) : Prop :=
  Below w.heap.size w w' ∧ ((∃ i, BadAt l i ∧ e = .returned (noField (.iface 250 (.pointer (some (a i)))))) ∨
    ∃ all, Good l all ∧
      ((∃ k, ∃ h : k < ps.length, joinsL (numL all) (ps.take k) ∧ ¬ canJ (numL all) (matesL (ps.take k)) ps[k].1 ps[k].2 ∧ ∃ ve, FaultAt a w' ve 3 (k : Int) ∧ e = .returned (noField ve)) ∨
       (joinsL (numL all) ps ∧ (∃ c, Relation.TransGen (leadL (numL all) (matesL ps)) c c) ∧ ∃ ve, FaultAt a w' ve 6 0 ∧ e = .returned (noField ve)) ∨
       (joinsL (numL all) ps ∧ (∃ N, RankedN (leadL (numL all) (matesL ps)) N) ∧ ∃ ad aS ao cd cs co gm, ShapeIn (fun b => w.heap.size ≤ b) w' (numL all) ad aS ao cd cs co ∧ w'.rowIs gm 3 (numL all).length (fun i => .int .i64 (matesL ps i)) ∧ e = .returned (.tuple #[fieldV (numL all).length ad aS ao cd cs co gm, .nilIface]))))

theorem take_at {ps : List Duo} {k : Nat} (h : k < ps.length) : ps.take (k + 1) = ps.take k ++ [ps[k]] := by rw [List.take_add_one, List.getElem?_eq_getElem h]; rfl
/-- What the slots of the drawn region hold. -/
def dstF (i : Nat) : Nat := if i < 7 then 20 + i else 8
theorem dstF_inj (i j : Nat) (hi : i < 8) (hj : j < 8) (h : dstF i = dstF j) : i = j := by
  unfold dstF at h
  split at h <;> split at h <;> omega
theorem dstF_is (i : Nat) (h : i < 8) : (dstF i = 8) ∨ (20 ≤ dstF i ∧ dstF i < 27) := by unfold dstF; split <;> omega
def blankF (W : World) (b : Nat) : Prop := W.heap[b]? = some (.cells #[.slice none 0 0, .slice none 0 0, .slice none 0 0, .slice none 0 0] 81 (0, 0))
def spG (sb n : Nat) (ad aS ao : Option Addr) (cd cs co : Nat) (i : Nat) (w : World) (v : Value) : Prop := match i with
  | 0 => v = .agg #[.slice ad n cd, .slice aS n cs, .slice ao n co]
  | 1 => ∃ bx, v = .slice (some ⟨bx, 0, none⟩) 1 1 ∧ w.cell? ⟨bx, 0, none⟩ = some (.int .i64 (-1))
  | 2 => v = .pointer (some ⟨sb, 0, none⟩)
  | 3 => v = .slice ad n cd
  | 4 => v = .int .i64 (n : Int)
  | 5 => ∃ gm, v = .slice (some ⟨gm, 0, none⟩) n n ∧ sb + 1 ≤ gm ∧ w.rowIs gm 3 n (fun _ => .int .i64 (-1))
  | 6 => ∃ gm, v = .agg #[.slice ad n cd, .slice aS n cs, .slice ao n co, .slice (some ⟨gm, 0, none⟩) n n] ∧ sb + 1 ≤ gm ∧ w.rowIs gm 3 n (fun _ => .int .i64 (-1))
  | _ => ∃ pb, v = .pointer (some ⟨pb, 0, none⟩) ∧ sb + 1 ≤ pb ∧ blankF w pb
theorem spG_below {sb n : Nat} {ad aS ao : Option Addr} {cd cs co : Nat} : ∀ (i : Nat) (w w' : World) (v : Value), i < 8 → Below w.heap.size w w' → spG sb n ad aS ao cd cs co i w v → spG sb n ad aS ao cd cs co i w' v := by
  intro i w w' v hi hB h
  match i, hi with
  | 0, _ | 2, _ | 3, _ | 4, _ => exact h
  | 1, _ =>
    obtain ⟨bx, e, h1⟩ := h
    exact ⟨bx, e, (hB.cell (p := ⟨bx, 0, none⟩) (cell_lt h1)).trans h1⟩
  | 5, _ | 6, _ =>
    obtain ⟨gm, e, h1, h2⟩ := h
    exact ⟨gm, e, h1, h2.of_block (hB.block gm h2.lt)⟩
  | 7, _ =>
    obtain ⟨q, e, h1, h2⟩ := h
    exact ⟨q, e, h1, (hB.block q (Array.getElem?_eq_some_iff.1 h2).1).trans h2⟩
  | k + 8, hk => exact absurd hk (by omega)
/-- A field is written into its box. -/
theorem put4 {W : World} {b : Nat} (x0 x1 x2 x3 : Value) (hc : blankF W b) :
    (∀ i, ((((W.setCell ⟨b, 0, none⟩ x0).setCell ⟨b, 1, none⟩ x1).setCell ⟨b, 2, none⟩ x2).setCell ⟨b, 3, none⟩ x3).cell? ⟨b, i, none⟩ = #[x0, x1, x2, x3][i]?) ∧ KeepBut W ((((W.setCell ⟨b, 0, none⟩ x0).setCell ⟨b, 1, none⟩ x1).setCell ⟨b, 2, none⟩ x2).setCell ⟨b, 3, none⟩ x3) b b := by
  have h1 := heap_setCell_same W b 0 _ 81 x0 hc
  have h2 := heap_setCell_same _ b 1 _ 81 x1 h1
  have h3 := heap_setCell_same _ b 2 _ 81 x2 h2
  have h4 := heap_setCell_same _ b 3 _ 81 x3 h3
  refine ⟨fun i => by simp [World.cell?, h4], ?_⟩
  have hB := ((((Below.refl b W).setCell (p := ⟨b, 0, none⟩) (Nat.le_refl _) x0).setCell (p := ⟨b, 1, none⟩) (Nat.le_refl _) x1).setCell (p := ⟨b, 2, none⟩) (Nat.le_refl _) x2).setCell (p := ⟨b, 3, none⟩) (Nat.le_refl _) x3
  exact ⟨hB.os, hB.tape, hB.output, hB.size, fun k _ hk _ => (((Below.heap_setCell _ _ _ k (fun e => hk e)).trans (Below.heap_setCell _ _ _ k (fun e => hk e))).trans (Below.heap_setCell _ _ _ k (fun e => hk e))).trans (Below.heap_setCell _ _ _ k (fun e => hk e))⟩

set_option maxRecDepth 100000 in
set_option maxHeartbeats 8000000 in
theorem field_of {a : Nat → Addr} {s : Nat → ByteArray} (vl vp : Value) (l : List (List Int)) (ps : List Duo) (w : World) (hE : Errs a s w) (hl : Rows w vl l) (hll : l.length ≤ 100000) (hle : ∀ x ∈ l, x.length ≤ 1000) (hp : DuoIn anyBlock w vp ps) (hps : ps.length ≤ 1000) :
    Calls Tryz.prog 37 #[.agg #[vl], vp] w fun e w' => FieldSays a l ps w e w' := by
  have HLL : Hid (Errs a s w ∧ Rows w vl l ∧ l.length ≤ 100000 ∧ ∀ x ∈ l, x.length ≤ 1000) := ⟨hE, hl, hll, hle⟩
  obtain ⟨al, cl, rfl, -, -⟩ := hl.open_
  have hBa : Below w.heap.size w ((w.alloc (.cells #[.slice al l.length cl] 39)).alloc (.cells #[.slice none 0 0, .slice none 0 0, .slice none 0 0, .slice none 0 0] 81)) := ((Below.refl _ w).alloc (Nat.le_refl _) _).alloc (by simp) _
  have hnu := number_ (.slice al l.length cl) l _ (hE.below hBa) (hl.below hBa) hll hle
  obtain ⟨ap, cp, rfl, hpr⟩ := hp
  have HPR := Hid.mk' hpr
  obtain ⟨m, hm⟩ : ∃ m, ps.length = m := ⟨_, rfl⟩
  have HMM : Hid (ps.length = m) := hm
  rw [hm] at hps ⊢
  clear hE hl hll hle hpr hm
  go_enter Tryz.func37, Tryz.ntmps37
  go_upto_region 1 with fail
  have hcb : ((w.alloc (.cells #[.slice al l.length cl] 39)).alloc (.cells #[.slice none 0 0, .slice none 0 0, .slice none 0 0, .slice none 0 0] 81)).cell? ⟨w.heap.size, 0, none⟩ = some (.slice al l.length cl) := (World.cell?_alloc_lt _ _ ⟨w.heap.size, 0, none⟩ (by simp)).trans (box_new w _ _).1
  have hrb := field_cells (w.alloc (.cells #[.slice al l.length cl] 39)) (.slice none 0 0) (.slice none 0 0) (.slice none 0 0) (.slice none 0 0) 81
  have hrf := frozen_field (w.alloc (.cells #[.slice al l.length cl] 39)) #[.slice none 0 0, .slice none 0 0, .slice none 0 0, .slice none 0 0] 81
  rw [World.size_alloc] at hrb hrf
  obtain ⟨X, hX⟩ : ∃ X, (w.alloc (.cells #[.slice al l.length cl] 39)).alloc (.cells #[.slice none 0 0, .slice none 0 0, .slice none 0 0, .slice none 0 0] 81) = X := ⟨_, rfl⟩
  obtain ⟨xb, hxb⟩ : ∃ xb, w.heap.size = xb := ⟨_, rfl⟩
  have hxl : X.heap.size = xb + 2 := by rw [← hX, ← hxb]; simp
  rw [hX] at hnu
  rw [hX, hxb] at hcb hrb hrf hBa
  try rw [hX]
  try rw [hxb]
  have HXB : Hid (w.heap.size = xb) := hxb
  have HXL : Hid (X.heap.size = xb + 2) := hxl
  have HBA : Hid (Below xb w X) := hBa
  have HRB : Hid (∀ j, j < 4 → X.cell? ⟨xb + 1, j, none⟩ = some (.slice none 0 0) ∧ X.frozen? ⟨xb + 1, j, none⟩ = false) := fun j hj => ⟨hrb j _ (by
    have : j = 0 ∨ j = 1 ∨ j = 2 ∨ j = 3 := by omega
    rcases this with rfl | rfl | rfl | rfl <;> rfl), hrf j⟩
  unfold NumSays noShape shapeV at hnu
  clear hX hxb hrb hrf hBa hxl
  go_wp2_with fail
  refine hnu.mono ?_
  clear hnu
  rintro e w2 ⟨hB2, ⟨i, hbad, rfl⟩ | ⟨all, ad, aS, ao, cd, cs, co, hg, rfl, hsh⟩⟩
  · have HBD : Hid (BadAt l i) := hbad
    have HB2 : Hid (Below X.heap.size X w2) := hB2
    have rr : ∀ j, j < 4 → w2.cell? ⟨xb + 1, j, none⟩ = some (.slice none 0 0) ∧ w2.frozen? ⟨xb + 1, j, none⟩ = false := fun j hj => ⟨(hB2.cell (p := ⟨xb + 1, j, none⟩) (by rw [HXL.out]; simp only; omega)).trans (HRB.out j hj).1, (hB2.frozen (p := ⟨xb + 1, j, none⟩) (by rw [HXL.out]; simp only; omega)).trans (HRB.out j hj).2⟩
    have hs2 : xb + 1 < w2.heap.size := by have := hB2.size; rw [HXL.out] at this; omega
    have HRR := Hid.mk' rr
    clear hbad hB2 rr
    go_upto_region 2 with fail
    have hBV : Below w2.heap.size w2 (w2.alloc (.cells #[.slice none 0 0, .slice none 0 0, .slice none 0 0] 79)) := (Below.refl _ w2).alloc (Nat.le_refl _) _
    obtain ⟨V, hV⟩ : ∃ V, w2.alloc (.cells #[.slice none 0 0, .slice none 0 0, .slice none 0 0] 79) = V := ⟨_, rfl⟩
    rw [hV] at hBV
    rw [hV]
    have rv : ∀ j, j < 4 → V.cell? ⟨xb + 1, j, none⟩ = some (.slice none 0 0) ∧ V.frozen? ⟨xb + 1, j, none⟩ = false := fun j hj => ⟨(hBV.cell (p := ⟨xb + 1, j, none⟩) hs2).trans (HRR.out j hj).1, (hBV.frozen (p := ⟨xb + 1, j, none⟩) hs2).trans (HRR.out j hj).2⟩
    obtain ⟨r0, f0⟩ := rv 0 (by omega)
    obtain ⟨r1, f1⟩ := rv 1 (by omega)
    obtain ⟨r2, f2⟩ := rv 2 (by omega)
    obtain ⟨r3, f3⟩ := rv 3 (by omega)
    have hput := four_put (W := V) (B := xb + 1) (.slice none 0 0) (.slice none 0 0) (.slice none 0 0) (.slice none 0 0) (fun j hj => by rw [(rv j hj).1]; rfl)
    have t0 := hput 0 _ rfl
    have t1 := hput 1 _ rfl
    have t2 := hput 2 _ rfl
    have t3 := hput 3 _ rfl
    have HBV : Hid (Below xb w V) := HBA.out.trans ((HB2.out.mono (by rw [HXL.out]; omega)).trans (hBV.mono (by omega)))
    clear hV hBV rv hput
    go_wp2_with fail
    refine bodyPost_ret (v := noField (.iface 250 (.pointer (some (a i))))) ?_ rfl ?_
    · simp [results, Tryz.f37, go_sem, t0, t1, t2, t3, noField]
    · unfold FieldSays
      rw [HXB.out]
      exact ⟨(((HBV.out.setCell (p := ⟨xb + 1, 0, none⟩) (by simp) _).setCell (p := ⟨xb + 1, 1, none⟩) (by simp) _).setCell (p := ⟨xb + 1, 2, none⟩) (by simp) _).setCell (p := ⟨xb + 1, 3, none⟩) (by simp) _, .inl ⟨i, HBD.out, rfl⟩⟩
  · obtain ⟨L, hL⟩ : ∃ L, numL all = L := ⟨_, rfl⟩
    obtain ⟨n, hn⟩ : ∃ n, L.length = n := ⟨_, rfl⟩
    have HG : Hid (Good l all ∧ numL all = L ∧ L.length = n) := ⟨hg, hL, hn⟩
    have hL6 : n ≤ 600 := by rw [← hn, ← hL]; exact Nat.le_trans (num_len (order_nodup hg.isAll.order) _) hg.length
    rw [hL] at hsh ⊢
    rw [hn]
    have HSH : Hid (ShapeIn (fun b => X.heap.size ≤ b) w2 L ad aS ao cd cs co) := hsh
    have HB2 : Hid (Below X.heap.size X w2) := hB2
    have hs4 := three_at w2 (.slice ad n cd) (.slice aS n cs) (.slice ao n co) 79
    have t0 := (hs4 0 _ rfl).1
    have t1 := (hs4 1 _ rfl).1
    have t2 := (hs4 2 _ rfl).1
    clear hg hsh hL hn hB2 hs4
    go_upto_region 2 with fail
    have hBV : Below w2.heap.size w2 (w2.alloc (.cells #[.slice ad n cd, .slice aS n cs, .slice ao n co] 79)) := (Below.refl _ w2).alloc (Nat.le_refl _) _
    obtain ⟨V, hV⟩ : ∃ V, w2.alloc (.cells #[.slice ad n cd, .slice aS n cs, .slice ao n co] 79) = V := ⟨_, rfl⟩
    rw [hV] at hBV t0 t1 t2
    rw [hV]
    obtain ⟨sb, hsb⟩ : ∃ sb, w2.heap.size = sb := ⟨_, rfl⟩
    have hVs : V.heap.size = sb + 1 := by rw [← hV, ← hsb]; simp
    have hs2 := HB2.out.size
    rw [HXL.out, hsb] at hs2
    have HBV : Hid (Below sb w2 V) := by rw [← hsb]; exact hBV
    have HSV : Hid (ShapeIn (fun b => X.heap.size ≤ b) V L ad aS ao cd cs co) := HSH.out.below hBV
    rw [hsb] at t0 t1 t2
    try rw [hsb]
    have HSB : Hid (w2.heap.size = sb ∧ V.heap.size = sb + 1) := ⟨hsb, hVs⟩
    clear hV hBV hsb
    have HRP : Hid (∀ (Z : World) (bx : Nat), Z.cell? ⟨bx, 0, none⟩ = some (.int .i64 (-1)) → Calls Tryz.prog 61 #[.slice (some ⟨bx, 0, none⟩) 1 1, .int .i64 (n : Int)] Z fun e w' => ∃ g, e = .returned (.slice (some ⟨g, 0, none⟩) n n) ∧ Z.heap.size ≤ g ∧ w'.rowIs g 3 n (fun _ => .int .i64 (-1)) ∧ Below Z.heap.size Z w') := fun Z bx hx => repeat_ bx n Z hx (by omega)
    go_wp2_with fail
    obtain ⟨w0, hw0⟩ : ∃ w0, w0 = w := ⟨_, rfl⟩
    subst hw0
    obtain ⟨ea, hea⟩ : ∃ ea, ea = a := ⟨_, rfl⟩
    subst hea
    refine region_grow (by kernel_rfl) 8 rfl dstF (spG sb n ad aS ao cd cs co) dstF_inj (fun i hi => by have := dstF_is i hi; simp; omega) spG_below (by decide +kernel) (by decide +kernel) (fun jo hj LL a w hG hed => ?_) (fun LL a w hG hed => ?_)
    · skip
      have k0 := (hG.bel.cell (p := ⟨sb, 0, none⟩) (by rw [HSB.out.2]; exact Nat.lt_succ_self _)).trans t0
      have k1 := (hG.bel.cell (p := ⟨sb, 1, none⟩) (by rw [HSB.out.2]; exact Nat.lt_succ_self _)).trans t1
      have k2 := (hG.bel.cell (p := ⟨sb, 2, none⟩) (by rw [HSB.out.2]; exact Nat.lt_succ_self _)).trans t2
      have hsz := hG.bel.size
      have y6 : a.tmps[6]? = some (.pointer (some ⟨sb, 0, none⟩)) := (hG.oth 6 (fun i hi => by have := dstF_is i hi; omega)).trans rfl
      have hv : ∀ jj, jj < 8 → jj ∈ edgesOf _ jo → ∃ v, a.tmps[dstF jj]? = some v ∧ (spG sb n ad aS ao cd cs co) jj w v := fun jj hq hq2 => hG.val jj hq (hed jj hq2)
      match jo, hj with
      | 0, _ =>
        exact op_value rfl rfl (by unfold execOp; simp [go_sem, Act.eval, y6, k0, k1, k2]) ⟨_, rfl, rfl, Below.refl _ _⟩
      | 1, _ =>
        exact op_value (w' := w.alloc (.cells #[.int .i64 (-1)] 3)) rfl rfl (by unfold execOp; simp [go_sem, Act.eval]) ⟨.slice (some ⟨w.heap.size, 0, none⟩) 1 1, rfl, ⟨w.heap.size, rfl, (box_new w _ _).1⟩, (Below.refl _ w).alloc (Nat.le_refl _) _⟩
      | 2, _ =>
        exact op_value rfl rfl (by unfold execOp; simp [go_sem, Act.eval, y6]) ⟨_, rfl, rfl, Below.refl _ _⟩
      | 3, _ =>
        obtain ⟨v2, e2, h2⟩ := hv 2 (by omega) (by decide +kernel)
        have z2 : a.tmps[22]? = some v2 := e2
        obtain rfl : v2 = _ := h2
        exact op_value rfl rfl (by unfold execOp; simp [go_sem, Act.eval, z2, k0]) ⟨_, rfl, rfl, Below.refl _ _⟩
      | 4, _ =>
        obtain ⟨v3, e3, h3⟩ := hv 3 (by omega) (by decide +kernel)
        have z3 : a.tmps[23]? = some v3 := e3
        obtain rfl : v3 = _ := h3
        exact op_value rfl rfl (by unfold execOp; simp [go_sem, Act.eval, z3]) ⟨_, rfl, rfl, Below.refl _ _⟩
      | 5, _ =>
        obtain ⟨v1, e1, h1⟩ := hv 1 (by omega) (by decide +kernel)
        have z1 : a.tmps[21]? = some v1 := e1
        obtain ⟨v4, e4, h4⟩ := hv 4 (by omega) (by decide +kernel)
        have z4 : a.tmps[24]? = some v4 := e4
        obtain rfl : v4 = _ := h4
        obtain ⟨bx, rfl, hbx⟩ := h1
        refine op_call rfl rfl (by unfold execOp; simp [go_sem, Act.eval, z1, z4]) _ (HRP.out w bx hbx) fun e w' hh => ?_
        obtain ⟨gm, rfl, hge, hrow, hb⟩ := hh
        exact ⟨_, rfl, _, rfl, ⟨gm, rfl, by have := HSB.out.2; omega, hrow⟩, hb⟩
      | 6, _ =>
        obtain ⟨v0, e0, h0⟩ := hv 0 (by omega) (by decide +kernel)
        have z0 : a.tmps[20]? = some v0 := e0
        obtain rfl : v0 = _ := h0
        obtain ⟨v5, e5, h5⟩ := hv 5 (by omega) (by decide +kernel)
        have z5 : a.tmps[25]? = some v5 := e5
        obtain ⟨gm, rfl, hge, hrow⟩ := h5
        exact op_value rfl rfl (by unfold execOp; simp [go_sem, Act.eval, z0, z5]) ⟨.agg #[.slice ad n cd, .slice aS n cs, .slice ao n co, .slice (some ⟨gm, 0, none⟩) n n], rfl, ⟨gm, rfl, hge, hrow⟩, Below.refl _ _⟩
      | 7, _ =>
        exact op_value rfl rfl (by unfold execOp; simp [go_sem]) ⟨.pointer (some ⟨w.heap.size, 0, none⟩), rfl, ⟨w.heap.size, rfl, by have := HSB.out.2; omega, (Go.MapKept.heap_alloc w _).1⟩, (Below.refl _ w).alloc (Nat.le_refl _) _⟩
      | q + 8, hq => exact absurd hq (by omega)
    · skip
      obtain ⟨v0, e0, h0⟩ := hG.val 0 (by omega) (back_listed hG.down 8 hed 0 (by decide +kernel))
      obtain ⟨v1, e1, h1⟩ := hG.val 1 (by omega) (back_listed hG.down 8 hed 1 (by decide +kernel))
      obtain ⟨v2, e2, h2⟩ := hG.val 2 (by omega) (back_listed hG.down 8 hed 2 (by decide +kernel))
      obtain ⟨v3, e3, h3⟩ := hG.val 3 (by omega) (back_listed hG.down 8 hed 3 (by decide +kernel))
      obtain ⟨v4, e4, h4⟩ := hG.val 4 (by omega) (back_listed hG.down 8 hed 4 (by decide +kernel))
      obtain ⟨v5, e5, h5⟩ := hG.val 5 (by omega) (back_listed hG.down 8 hed 5 (by decide +kernel))
      obtain ⟨v6, e6, h6⟩ := hG.val 6 (by omega) (back_listed hG.down 8 hed 6 (by decide +kernel))
      obtain ⟨v7, e7, h7⟩ := hG.val 7 (by omega) (back_listed hG.down 8 hed 7 (by decide +kernel))
      obtain ⟨gm, rfl, hgm, hrow⟩ := h6
      obtain ⟨pb, rfl, hpb, hbl⟩ := h7
      have z6 : a.tmps[26]? = some _ := e6
      have z7 : a.tmps[8]? = some _ := e7
      have cc : ∀ i, w.cell? ⟨pb, i, none⟩ = #[Value.slice none 0 0, .slice none 0 0, .slice none 0 0, .slice none 0 0][i]? := fun i => by simp [World.cell?, show w.heap[pb]? = _ from hbl]
      have ff : ∀ i, w.frozen? ⟨pb, i, none⟩ = false := fun i => by simp [World.frozen?, show w.heap[pb]? = _ from hbl]
      refine op_skip rfl rfl (by unfold execOp; simp [go_sem, Act.eval, z6, z7, cc, ff]; rfl) ?_
      obtain ⟨q1, q2⟩ := put4 (.slice ad n cd) (.slice aS n cs) (.slice ao n co) (.slice (some ⟨gm, 0, none⟩) n n) hbl
      have hne : gm ≠ pb := fun e => by
        obtain ⟨cur, e2, _⟩ := hrow
        rw [e, show w.heap[pb]? = _ from hbl] at e2
        cases e2
      rename_i hK
      refine hK _ _ ?_
      have ha : a = ⟨#[.agg #[.slice al l.length cl], .slice ap m cp, .pointer (some ⟨xb, 0, none⟩), undef, .pointer (some ⟨xb + 1, 0, none⟩), .nilIface, .pointer (some ⟨sb, 0, none⟩), .nilIface, .pointer (some ⟨pb, 0, none⟩), undef, undef, .tuple #[.agg #[.slice ad n cd, .slice aS n cs, .slice ao n co], .nilIface], .agg #[.slice al l.length cl], .tuple #[.agg #[.slice ad n cd, .slice aS n cs, .slice ao n co], .nilIface], .agg #[.slice ad n cd, .slice aS n cs, .slice ao n co], .nilIface, .nilIface, .bool false, undef, undef, v0, v1, v2, v3, v4, v5, .agg #[.slice ad n cd, .slice aS n cs, .slice ao n co, .slice (some ⟨gm, 0, none⟩) n n], undef, undef, undef, undef, undef, undef, undef, undef, undef, undef, undef, undef, undef, undef, undef, undef, undef, undef, undef, undef, undef, undef, undef, undef, undef, undef], []⟩ := by
        refine act_eq (l := [.agg #[.slice al l.length cl], .slice ap m cp, .pointer (some ⟨xb, 0, none⟩), undef, .pointer (some ⟨xb + 1, 0, none⟩), .nilIface, .pointer (some ⟨sb, 0, none⟩), .nilIface, .pointer (some ⟨pb, 0, none⟩), undef, undef, .tuple #[.agg #[.slice ad n cd, .slice aS n cs, .slice ao n co], .nilIface], .agg #[.slice al l.length cl], .tuple #[.agg #[.slice ad n cd, .slice aS n cs, .slice ao n co], .nilIface], .agg #[.slice ad n cd, .slice aS n cs, .slice ao n co], .nilIface, .nilIface, .bool false, undef, undef, v0, v1, v2, v3, v4, v5, .agg #[.slice ad n cd, .slice aS n cs, .slice ao n co, .slice (some ⟨gm, 0, none⟩) n n], undef, undef, undef, undef, undef, undef, undef, undef, undef, undef, undef, undef, undef, undef, undef, undef, undef, undef, undef, undef, undef, undef, undef, undef, undef, undef]) (by rw [hG.asz]; rfl) (fun q hq => ?_) hG.dfr
        match q, hq with
        | 0, _ => exact (hG.oth 0 (fun i hi => by have := dstF_is i hi; omega)).trans rfl
        | 1, _ => exact (hG.oth 1 (fun i hi => by have := dstF_is i hi; omega)).trans rfl
        | 2, _ => exact (hG.oth 2 (fun i hi => by have := dstF_is i hi; omega)).trans rfl
        | 3, _ => exact (hG.oth 3 (fun i hi => by have := dstF_is i hi; omega)).trans rfl
        | 4, _ => exact (hG.oth 4 (fun i hi => by have := dstF_is i hi; omega)).trans rfl
        | 5, _ => exact (hG.oth 5 (fun i hi => by have := dstF_is i hi; omega)).trans rfl
        | 6, _ => exact (hG.oth 6 (fun i hi => by have := dstF_is i hi; omega)).trans rfl
        | 7, _ => exact (hG.oth 7 (fun i hi => by have := dstF_is i hi; omega)).trans rfl
        | 8, _ => exact e7
        | 9, _ => exact (hG.oth 9 (fun i hi => by have := dstF_is i hi; omega)).trans rfl
        | 10, _ => exact (hG.oth 10 (fun i hi => by have := dstF_is i hi; omega)).trans rfl
        | 11, _ => exact (hG.oth 11 (fun i hi => by have := dstF_is i hi; omega)).trans rfl
        | 12, _ => exact (hG.oth 12 (fun i hi => by have := dstF_is i hi; omega)).trans rfl
        | 13, _ => exact (hG.oth 13 (fun i hi => by have := dstF_is i hi; omega)).trans rfl
        | 14, _ => exact (hG.oth 14 (fun i hi => by have := dstF_is i hi; omega)).trans rfl
        | 15, _ => exact (hG.oth 15 (fun i hi => by have := dstF_is i hi; omega)).trans rfl
        | 16, _ => exact (hG.oth 16 (fun i hi => by have := dstF_is i hi; omega)).trans rfl
        | 17, _ => exact (hG.oth 17 (fun i hi => by have := dstF_is i hi; omega)).trans rfl
        | 18, _ => exact (hG.oth 18 (fun i hi => by have := dstF_is i hi; omega)).trans rfl
        | 19, _ => exact (hG.oth 19 (fun i hi => by have := dstF_is i hi; omega)).trans rfl
        | 20, _ => exact e0
        | 21, _ => exact e1
        | 22, _ => exact e2
        | 23, _ => exact e3
        | 24, _ => exact e4
        | 25, _ => exact e5
        | 26, _ => exact e6
        | 27, _ => exact (hG.oth 27 (fun i hi => by have := dstF_is i hi; omega)).trans rfl
        | 28, _ => exact (hG.oth 28 (fun i hi => by have := dstF_is i hi; omega)).trans rfl
        | 29, _ => exact (hG.oth 29 (fun i hi => by have := dstF_is i hi; omega)).trans rfl
        | 30, _ => exact (hG.oth 30 (fun i hi => by have := dstF_is i hi; omega)).trans rfl
        | 31, _ => exact (hG.oth 31 (fun i hi => by have := dstF_is i hi; omega)).trans rfl
        | 32, _ => exact (hG.oth 32 (fun i hi => by have := dstF_is i hi; omega)).trans rfl
        | 33, _ => exact (hG.oth 33 (fun i hi => by have := dstF_is i hi; omega)).trans rfl
        | 34, _ => exact (hG.oth 34 (fun i hi => by have := dstF_is i hi; omega)).trans rfl
        | 35, _ => exact (hG.oth 35 (fun i hi => by have := dstF_is i hi; omega)).trans rfl
        | 36, _ => exact (hG.oth 36 (fun i hi => by have := dstF_is i hi; omega)).trans rfl
        | 37, _ => exact (hG.oth 37 (fun i hi => by have := dstF_is i hi; omega)).trans rfl
        | 38, _ => exact (hG.oth 38 (fun i hi => by have := dstF_is i hi; omega)).trans rfl
        | 39, _ => exact (hG.oth 39 (fun i hi => by have := dstF_is i hi; omega)).trans rfl
        | 40, _ => exact (hG.oth 40 (fun i hi => by have := dstF_is i hi; omega)).trans rfl
        | 41, _ => exact (hG.oth 41 (fun i hi => by have := dstF_is i hi; omega)).trans rfl
        | 42, _ => exact (hG.oth 42 (fun i hi => by have := dstF_is i hi; omega)).trans rfl
        | 43, _ => exact (hG.oth 43 (fun i hi => by have := dstF_is i hi; omega)).trans rfl
        | 44, _ => exact (hG.oth 44 (fun i hi => by have := dstF_is i hi; omega)).trans rfl
        | 45, _ => exact (hG.oth 45 (fun i hi => by have := dstF_is i hi; omega)).trans rfl
        | 46, _ => exact (hG.oth 46 (fun i hi => by have := dstF_is i hi; omega)).trans rfl
        | 47, _ => exact (hG.oth 47 (fun i hi => by have := dstF_is i hi; omega)).trans rfl
        | 48, _ => exact (hG.oth 48 (fun i hi => by have := dstF_is i hi; omega)).trans rfl
        | 49, _ => exact (hG.oth 49 (fun i hi => by have := dstF_is i hi; omega)).trans rfl
        | 50, _ => exact (hG.oth 50 (fun i hi => by have := dstF_is i hi; omega)).trans rfl
        | 51, _ => exact (hG.oth 51 (fun i hi => by have := dstF_is i hi; omega)).trans rfl
        | 52, _ => exact (hG.oth 52 (fun i hi => by have := dstF_is i hi; omega)).trans rfl
        | q + 53, hq => exact absurd hq (by simp)
      change Code.wp Tryz.prog _ _ a _
      rw [ha]
      obtain ⟨Z, hZ⟩ : ∃ Z, (((w.setCell ⟨pb, 0, none⟩ (.slice ad n cd)).setCell ⟨pb, 1, none⟩ (.slice aS n cs)).setCell ⟨pb, 2, none⟩ (.slice ao n co)).setCell ⟨pb, 3, none⟩ (.slice (some ⟨gm, 0, none⟩) n n) = Z := ⟨_, rfl⟩
      rw [hZ] at q1 q2 ⊢
      have hBZ : Below (sb + 1) V Z := by
        have h1 := hG.bel
        rw [HSB.out.2] at h1
        exact ⟨q2.os.trans h1.os, q2.tape.trans h1.tape, q2.output.trans h1.output, Nat.le_trans h1.size q2.size, fun b hb => (q2.block b (by have := h1.size; have := HSB.out.2; omega) (by omega) (by omega)).trans (h1.block b hb)⟩
      have HZ : Hid (Below (sb + 1) V Z ∧ Z.rowIs gm 3 n (fun _ => .int .i64 (-1)) ∧ (∀ i, Z.cell? ⟨pb, i, none⟩ = #[Value.slice ad n cd, .slice aS n cs, .slice ao n co, .slice (some ⟨gm, 0, none⟩) n n][i]?) ∧ gm ≠ pb ∧ sb + 1 ≤ gm ∧ sb + 1 ≤ pb ∧ gm < Z.heap.size) := ⟨hBZ, hrow.of_block (q2.block gm hrow.lt hne hne), q1, hne, hgm, hpb, Nat.lt_of_lt_of_le hrow.lt q2.size⟩
      clear ha hG hed hK hZ hBZ q1 q2 hne hrow hbl hgm hpb cc ff z6 z7 e0 e1 e2 e3 e4 e5 e6 e7 h0 h1 h2 h3 h4 h5
      have HFL : Hid (FaceList L) := by rw [← HG.out.2.1]; exact good_faces HG.out.1
      have HUL : Hid (∀ x y, undL L x y = true → x < y) := und_less HFL.out
      have HWZ : Hid (Below xb w0 Z) := by
        show Below xb w0 Z
        have h1 := HB2.out
        rw [HXL.out] at h1
        exact ((HBA.out.trans (h1.mono (by omega))).trans (HBV.out.mono (by omega))).trans (HZ.out.1.mono (by omega))
      have HWK : Hid (∀ W, KeepBut Z W gm gm → Below xb w0 W) := fun W hK => ⟨hK.os.trans HWZ.out.os, hK.tape.trans HWZ.out.tape, hK.output.trans HWZ.out.output, Nat.le_trans HWZ.out.size hK.size, fun b hb => (hK.block b (by have := HWZ.out.size; have := HXB.out; omega) (by have := HZ.out.2.2.2.2.1; omega) (by have := HZ.out.2.2.2.2.1; omega)).trans (HWZ.out.block b hb)⟩
      have HSZ : Hid (∀ W, KeepBut Z W gm gm → ShapeIn (fun b => b < sb + 1) W L ad aS ao cd cs co) := fun W hK => by
        have h1 : ShapeIn (fun b => b < sb + 1) V L ad aS ao cd cs co := HSV.out.mono (fun b hb _ => by rw [HSB.out.2] at hb; exact hb)
        have hsz := HZ.out.1.size
        exact (h1.keep hsz (fun b _ hS => HZ.out.1.block b hS)).keep hK.size (fun b hb hS => hK.block b hb (by have := HZ.out.2.2.2.2.1; have hS : b < sb + 1 := hS; omega) (by have := HZ.out.2.2.2.2.1; have hS : b < sb + 1 := hS; omega))
      have HPZ : Hid (∀ W, KeepBut Z W gm gm → W.cell? ⟨pb, 0, none⟩ = some (.slice ad n cd) ∧ W.cell? ⟨pb, 1, none⟩ = some (.slice aS n cs) ∧ W.cell? ⟨pb, 2, none⟩ = some (.slice ao n co) ∧ W.cell? ⟨pb, 3, none⟩ = some (.slice (some ⟨gm, 0, none⟩) n n)) := fun W hK => by
        have hc : ∀ i u, Z.cell? ⟨pb, i, none⟩ = some u → W.cell? ⟨pb, i, none⟩ = some u := fun i u h => (hK.cell (p := ⟨pb, i, none⟩) (cell_lt h) (fun e => HZ.out.2.2.2.1 e.symm) (fun e => HZ.out.2.2.2.1 e.symm)).trans h
        exact ⟨hc 0 _ (HZ.out.2.2.1 0), hc 1 _ (HZ.out.2.2.1 1), hc 2 _ (HZ.out.2.2.1 2), hc 3 _ (HZ.out.2.2.1 3)⟩
      have HRZ : Hid (∀ W, KeepBut Z W gm gm → ∀ j, j < 4 → W.cell? ⟨xb + 1, j, none⟩ = some (.slice none 0 0) ∧ W.frozen? ⟨xb + 1, j, none⟩ = false) := fun W hK j hj => by
        have hX : Below X.heap.size X Z := (HB2.out.trans (HBV.out.mono (by rw [HXL.out]; omega))).trans (HZ.out.1.mono (by rw [HXL.out]; omega))
        have e1 := (hX.cell (p := ⟨xb + 1, j, none⟩) (by rw [HXL.out]; simp only; omega)).trans (HRB.out j hj).1
        have e2 := (hX.frozen (p := ⟨xb + 1, j, none⟩) (by rw [HXL.out]; simp only; omega)).trans (HRB.out j hj).2
        have hg := HZ.out.2.2.2.2.1
        exact ⟨(hK.cell (p := ⟨xb + 1, j, none⟩) (cell_lt e1) (by simp only; omega) (by simp only; omega)).trans e1, (hK.frozen (p := ⟨xb + 1, j, none⟩) (cell_lt e1) (by simp only; omega) (by simp only; omega)).trans e2⟩
      have HS2 : Hid (xb + 2 ≤ sb) := hs2
      clear t0 t1 t2 hs2 hVs hcb
      go_wp2_with fail
      go_loopw [29] (fun p W => ∃ i : Nat, i ≤ m ∧ p = .int .i64 (i : Int) ∧ Hid (joinsL L (ps.take i) ∧ W.rowIs gm 3 n (fun j => .int .i64 (matesL (ps.take i) j)) ∧ KeepBut Z W gm gm)) (fun p _ => m - (intOf p).toNat)
      case atStart => exact ⟨0, by omega, rfl, trivial, HZ.out.2.1, KeepBut.refl _ _ _⟩
      case round =>
        obtain ⟨i, hi, rfl, HJ⟩ := hrel
        by_cases him : i < m
        · have hip : i < ps.length := by rw [HMM.out]; exact him
          obtain ⟨g0, o0, rfl, -, hg0, hpc⟩ := HPR.out (by omega)
          have hcl := hpc i hip
          have hwk := HWK.out wr HJ.out.2.2
          obtain ⟨pa, hpa⟩ : ∃ pa, ps[i].1 = pa := ⟨_, rfl⟩
          obtain ⟨pq, hpq⟩ : ∃ pq, ps[i].2 = pq := ⟨_, rfl⟩
          have HPQ : Hid (ps[i] = (pa, pq)) := Prod.ext hpa hpq
          rw [hpa, hpq] at hcl
          have x0 := (hwk.cell (p := ⟨g0, o0 + i * 2, none⟩) (by have := HXB.out; simp only; omega)).trans hcl.1
          have x1 : wr.cell? ⟨g0, o0 + i * 2 + 1, none⟩ = some (.int .i64 pq) := (hwk.cell (p := ⟨g0, o0 + (i * 2 + 1), none⟩) (by have := HXB.out; simp only; omega)).trans hcl.2
          have z2 : (i : Int) < (m : Int) := by omega
          obtain ⟨qb, hqb⟩ : ∃ qb, wr.heap.size = qb := ⟨_, rfl⟩
          have htb := two_box wr (.int .i64 pa) (.int .i64 pq) 69
          have hB9 : Below wr.heap.size wr (wr.alloc (.cells #[.int .i64 pa, .int .i64 pq] 69)) := (Below.refl _ wr).alloc (Nat.le_refl _) _
          obtain ⟨wq, hwq⟩ : ∃ wq, wr.alloc (.cells #[.int .i64 pa, .int .i64 pq] 69) = wq := ⟨_, rfl⟩
          rw [hwq] at htb hB9
          have hK9 : KeepBut Z wq gm gm := HJ.out.2.2.below hB9
          have HK9 := Hid.mk' hK9
          obtain ⟨p0, p1, p2, p3⟩ := HPZ.out wq hK9
          have hjo := join_ (B := sb + 1) (ad := ad) (aS := aS) (ao := ao) (cd := cd) (cs := cs) (co := co) pa pq wq (by rw [HG.out.2.2]; have := (HSZ.out wq hK9).over; rw [HG.out.2.2] at this; exact this) (by rw [HG.out.2.2]; exact HJ.out.2.1.of_block (hB9.block gm HJ.out.2.1.lt)) HZ.out.2.2.2.2.1 (by rw [HG.out.2.2]; exact hL6) HUL.out
          rw [HG.out.2.2] at hjo
          unfold fieldV at hjo
          rw [hqb] at htb
          obtain ⟨y0, y1⟩ := htb
          clear hpc hcl hwk hpa hpq hB9 hK9
          go_wp2_with (first
            | (go_at_call 62; refine hjo.mono ?_; clear hjo; rintro e w6 ⟨hK6, ⟨hcan, rfl, hrow⟩ | ⟨hcan, rfl⟩⟩)
            | fail)
          · refine ⟨⟨i + 1, by omega, by go_num, ?_, ?_, HK9.out.trans hK6⟩, by simp [intOf]; omega⟩
            · rw [take_at hip]
              exact joins_snoc.2 ⟨HJ.out.1, by rw [HPQ.out]; exact hcan⟩
            · rw [take_at hip, show matesL (ps.take i ++ [ps[i]]) = joinP (matesL (ps.take i)) ps[i] from mates_snoc, HPQ.out]
              exact hrow
          · have HK6 : Hid (KeepBut Z w6 gm gm) := HK9.out.trans hK6
            have HB6 : Hid (Below xb w0 w6) := HWK.out w6 HK6.out
            have HNF : Hid (¬ canJ L (matesL (ps.take i)) ps[i].1 ps[i].2) := by rw [HPQ.out]; exact hcan
            clear hcan hK6 hqb hwq p0 p1 p2 p3 y0 y1 x0 x1
            have hgl : w6.cell? ⟨1, 0, none⟩ = some (.iface 250 (.pointer (some (ea 3)))) := (HLL.out.1.below (by rw [HXB.out]; exact HB6.out)).glob 3 (by decide)
            have hgx : 1 < xb := by have h2 : 1 < w0.heap.size := cell_lt (HLL.out.1.glob 3 (by decide)); rw [HXB.out] at h2; exact h2
            have hrr : ∀ j, j < 4 → w6.cell? ⟨xb + 1, j, none⟩ = some (.slice none 0 0) ∧ w6.frozen? ⟨xb + 1, j, none⟩ = false := HRZ.out w6 HK6.out
            obtain ⟨r0, f0⟩ := hrr 0 (by omega)
            obtain ⟨r1, f1⟩ := hrr 1 (by omega)
            obtain ⟨r2, f2⟩ := hrr 2 (by omega)
            obtain ⟨r3, f3⟩ := hrr 3 (by omega)
            have hlt6 : xb + 1 < w6.heap.size := cell_lt r0
            have hput := four_put (W := w6) (B := xb + 1) (.slice none 0 0) (.slice none 0 0) (.slice none 0 0) (.slice none 0 0) (fun j hj => by rw [(hrr j hj).1]; rfl)
            have hsz4 : ((((w6.setCell ⟨xb + 1, 0, none⟩ (.slice none 0 0)).setCell ⟨xb + 1, 1, none⟩ (.slice none 0 0)).setCell ⟨xb + 1, 2, none⟩ (.slice none 0 0)).setCell ⟨xb + 1, 3, none⟩ (.slice none 0 0)).heap.size = w6.heap.size := by simp
            have hglS : ∀ (Y : World) (j : Nat) (u : Value), Y.cell? ⟨1, 0, none⟩ = some (.iface 250 (.pointer (some (ea 3)))) → (Y.setCell ⟨xb + 1, j, none⟩ u).cell? ⟨1, 0, none⟩ = some (.iface 250 (.pointer (some (ea 3)))) := fun Y j u h => (World.cell?_setCell_other Y _ _ _ (addr_ne (.inl (by omega)))).trans h
            have hgl2 : ((((w6.setCell ⟨xb + 1, 0, none⟩ (.slice none 0 0)).setCell ⟨xb + 1, 1, none⟩ (.slice none 0 0)).setCell ⟨xb + 1, 2, none⟩ (.slice none 0 0)).setCell ⟨xb + 1, 3, none⟩ (.slice none 0 0)).cell? ⟨1, 0, none⟩ = some (.iface 250 (.pointer (some (ea 3)))) := hglS _ _ _ (hglS _ _ _ (hglS _ _ _ (hglS _ _ _ hgl)))
            have c3 : ∀ o j, j < 4 → (((((w6.setCell ⟨xb + 1, 0, none⟩ (.slice none 0 0)).setCell ⟨xb + 1, 1, none⟩ (.slice none 0 0)).setCell ⟨xb + 1, 2, none⟩ (.slice none 0 0)).setCell ⟨xb + 1, 3, none⟩ (.slice none 0 0)).alloc o).cell? ⟨xb + 1, j, none⟩ = some (.slice none 0 0) := by
              intro o j hj
              refine (World.cell?_alloc_lt _ o ⟨xb + 1, j, none⟩ (by rw [hsz4]; exact hlt6)).trans (hput j _ ?_)
              have h9 : j = 0 ∨ j = 1 ∨ j = 2 ∨ j = 3 := by omega
              rcases h9 with rfl | rfl | rfl | rfl <;> rfl
            have d0 := fun o => c3 o 0 (by omega)
            have d1 := fun o => c3 o 1 (by omega)
            have d2 := fun o => c3 o 2 (by omega)
            have d3 := fun o => c3 o 3 (by omega)
            have HFC : Hid ((((((w6.setCell ⟨xb + 1, 0, none⟩ (.slice none 0 0)).setCell ⟨xb + 1, 1, none⟩ (.slice none 0 0)).setCell ⟨xb + 1, 2, none⟩ (.slice none 0 0)).setCell ⟨xb + 1, 3, none⟩ (.slice none 0 0)).alloc (.cells #[.int .i64 (i : Int), .iface 250 (.pointer (some (ea 3)))] 120)).cell? ⟨w6.heap.size, 0, none⟩ = some (.int .i64 (i : Int)) ∧ (((((w6.setCell ⟨xb + 1, 0, none⟩ (.slice none 0 0)).setCell ⟨xb + 1, 1, none⟩ (.slice none 0 0)).setCell ⟨xb + 1, 2, none⟩ (.slice none 0 0)).setCell ⟨xb + 1, 3, none⟩ (.slice none 0 0)).alloc (.cells #[.int .i64 (i : Int), .iface 250 (.pointer (some (ea 3)))] 120)).cell? ⟨w6.heap.size, 0 + 1, none⟩ = some (.iface 250 (.pointer (some (ea 3))))) := by
              have := fault_cells ((((w6.setCell ⟨xb + 1, 0, none⟩ (.slice none 0 0)).setCell ⟨xb + 1, 1, none⟩ (.slice none 0 0)).setCell ⟨xb + 1, 2, none⟩ (.slice none 0 0)).setCell ⟨xb + 1, 3, none⟩ (.slice none 0 0)) (.int .i64 (i : Int)) (.iface 250 (.pointer (some (ea 3)))) 120
              rw [hsz4] at this
              exact this
            have HBE : Hid (Below xb w0 (((((w6.setCell ⟨xb + 1, 0, none⟩ (.slice none 0 0)).setCell ⟨xb + 1, 1, none⟩ (.slice none 0 0)).setCell ⟨xb + 1, 2, none⟩ (.slice none 0 0)).setCell ⟨xb + 1, 3, none⟩ (.slice none 0 0)).alloc (.cells #[.int .i64 (i : Int), .iface 250 (.pointer (some (ea 3)))] 120)).drew) := (((((HB6.out.setCell (p := ⟨xb + 1, 0, none⟩) (by simp only; omega) _).setCell (p := ⟨xb + 1, 1, none⟩) (by simp only; omega) _).setCell (p := ⟨xb + 1, 2, none⟩) (by simp only; omega) _).setCell (p := ⟨xb + 1, 3, none⟩) (by simp only; omega) _).alloc (by rw [hsz4]; omega) _).drew
            clear hrr hput c3 hglS hsz4
            go_wp2_with fail
            go_region
            all_goals go_wp2
            all_goals
              refine bodyPost_ret (v := .tuple #[.agg #[.slice none 0 0, .slice none 0 0, .slice none 0 0, .slice none 0 0], .iface 118 (.pointer (some ⟨w6.heap.size, 0, none⟩))]) ?_ rfl ?_
              · simp [results, Tryz.f37, go_sem, d0, d1, d2, d3]
              · unfold FieldSays
                rw [HXB.out]
                exact ⟨HBE.out, .inr ⟨all, HG.out.1, .inl ⟨i, hip, by rw [HG.out.2.1]; exact HJ.out.1, by rw [HG.out.2.1]; exact HNF.out, _, ⟨w6.heap.size, rfl, HFC.out.1, HFC.out.2⟩, rfl⟩⟩⟩
        · obtain rfl : i = m := by omega
          have htk : ps.take i = ps := List.take_of_length_le (by rw [HMM.out]; exact Nat.le_refl _)
          rw [htk] at HJ
          have HMI : Hid (MateInv L.length (undL L) ps (matesL ps)) := inv_of HUL.out HJ.out.1
          obtain ⟨p0, p1, p2, p3⟩ := HPZ.out wr HJ.out.2.2
          have hsh := HSZ.out wr HJ.out.2.2
          have hci := has_circle (L := L) (mt := matesL ps) (ad := ad) (aS := aS) (ao := ao) (cd := cd) (cs := cs) (co := co) (gm := gm) wr (by
            obtain ⟨vs, h1, h2, h3⟩ := hsh.sides
            have hsz : sb + 1 ≤ wr.heap.size := Nat.le_trans (by have := HZ.out.1.size; rw [HSB.out.2] at this; exact this) HJ.out.2.2.size
            exact ⟨vs, h1.mono (fun b hb _ => hb), h2, fun k u hu => (h3 k u hu).mono (fun b hb _ => hb)⟩) (by rw [HG.out.2.2]; exact HJ.out.2.1) (by rw [HG.out.2.2]; exact hL6) (fun f hf => ⟨(mate_up HUL.out HMI.out hf).1, (mate_up HUL.out HMI.out hf).2.1⟩)
          rw [HG.out.2.2] at hci
          unfold fieldV at hci
          clear hsh htk
          go_wp2_with (first
            | (go_at_call 63; refine hci.mono ?_; clear hci; rintro e w6 ⟨hB6', ⟨rfl, hcyc⟩ | ⟨rfl, hrk⟩⟩ <;> (obtain ⟨q0, q1, q2, q3⟩ := HPZ.out w6 (HJ.out.2.2.below hB6'); obtain ⟨r0, f0⟩ := HRZ.out w6 (HJ.out.2.2.below hB6') 0 (by omega); obtain ⟨r1, f1⟩ := HRZ.out w6 (HJ.out.2.2.below hB6') 1 (by omega); obtain ⟨r2, f2⟩ := HRZ.out w6 (HJ.out.2.2.below hB6') 2 (by omega); obtain ⟨r3, f3⟩ := HRZ.out w6 (HJ.out.2.2.below hB6') 3 (by omega)))
            | fail)
          · have HK6 : Hid (KeepBut Z w6 gm gm) := HJ.out.2.2.below hB6'
            have HB6 : Hid (Below xb w0 w6) := HWK.out w6 HK6.out
            have HCY := Hid.mk' hcyc
            clear hcyc hB6' p0 p1 p2 p3 q0 q1 q2 q3 r0 r1 r2 r3 f0 f1 f2 f3
            have hgl : w6.cell? ⟨2, 0, none⟩ = some (.iface 250 (.pointer (some (ea 6)))) := (HLL.out.1.below (by rw [HXB.out]; exact HB6.out)).glob 6 (by decide)
            have hgx : 2 < xb := by have h2 : 2 < w0.heap.size := cell_lt (HLL.out.1.glob 6 (by decide)); rw [HXB.out] at h2; exact h2
            have hrr : ∀ j, j < 4 → w6.cell? ⟨xb + 1, j, none⟩ = some (.slice none 0 0) ∧ w6.frozen? ⟨xb + 1, j, none⟩ = false := HRZ.out w6 HK6.out
            obtain ⟨r0, f0⟩ := hrr 0 (by omega)
            obtain ⟨r1, f1⟩ := hrr 1 (by omega)
            obtain ⟨r2, f2⟩ := hrr 2 (by omega)
            obtain ⟨r3, f3⟩ := hrr 3 (by omega)
            have hlt6 : xb + 1 < w6.heap.size := cell_lt r0
            have hput := four_put (W := w6) (B := xb + 1) (.slice none 0 0) (.slice none 0 0) (.slice none 0 0) (.slice none 0 0) (fun j hj => by rw [(hrr j hj).1]; rfl)
            have hsz4 : ((((w6.setCell ⟨xb + 1, 0, none⟩ (.slice none 0 0)).setCell ⟨xb + 1, 1, none⟩ (.slice none 0 0)).setCell ⟨xb + 1, 2, none⟩ (.slice none 0 0)).setCell ⟨xb + 1, 3, none⟩ (.slice none 0 0)).heap.size = w6.heap.size := by simp
            have hglS : ∀ (Y : World) (j : Nat) (u : Value), Y.cell? ⟨2, 0, none⟩ = some (.iface 250 (.pointer (some (ea 6)))) → (Y.setCell ⟨xb + 1, j, none⟩ u).cell? ⟨2, 0, none⟩ = some (.iface 250 (.pointer (some (ea 6)))) := fun Y j u h => (World.cell?_setCell_other Y _ _ _ (addr_ne (.inl (by omega)))).trans h
            have hgl2 : ((((w6.setCell ⟨xb + 1, 0, none⟩ (.slice none 0 0)).setCell ⟨xb + 1, 1, none⟩ (.slice none 0 0)).setCell ⟨xb + 1, 2, none⟩ (.slice none 0 0)).setCell ⟨xb + 1, 3, none⟩ (.slice none 0 0)).cell? ⟨2, 0, none⟩ = some (.iface 250 (.pointer (some (ea 6)))) := hglS _ _ _ (hglS _ _ _ (hglS _ _ _ (hglS _ _ _ hgl)))
            have c3 : ∀ o j, j < 4 → (((((w6.setCell ⟨xb + 1, 0, none⟩ (.slice none 0 0)).setCell ⟨xb + 1, 1, none⟩ (.slice none 0 0)).setCell ⟨xb + 1, 2, none⟩ (.slice none 0 0)).setCell ⟨xb + 1, 3, none⟩ (.slice none 0 0)).alloc o).cell? ⟨xb + 1, j, none⟩ = some (.slice none 0 0) := by
              intro o j hj
              refine (World.cell?_alloc_lt _ o ⟨xb + 1, j, none⟩ (by rw [hsz4]; exact hlt6)).trans (hput j _ ?_)
              have h9 : j = 0 ∨ j = 1 ∨ j = 2 ∨ j = 3 := by omega
              rcases h9 with rfl | rfl | rfl | rfl <;> rfl
            have d0 := fun o => c3 o 0 (by omega)
            have d1 := fun o => c3 o 1 (by omega)
            have d2 := fun o => c3 o 2 (by omega)
            have d3 := fun o => c3 o 3 (by omega)
            have HFC : Hid ((((((w6.setCell ⟨xb + 1, 0, none⟩ (.slice none 0 0)).setCell ⟨xb + 1, 1, none⟩ (.slice none 0 0)).setCell ⟨xb + 1, 2, none⟩ (.slice none 0 0)).setCell ⟨xb + 1, 3, none⟩ (.slice none 0 0)).alloc (.cells #[.int .i64 (0 : Int), .iface 250 (.pointer (some (ea 6)))] 120)).cell? ⟨w6.heap.size, 0, none⟩ = some (.int .i64 (0 : Int)) ∧ (((((w6.setCell ⟨xb + 1, 0, none⟩ (.slice none 0 0)).setCell ⟨xb + 1, 1, none⟩ (.slice none 0 0)).setCell ⟨xb + 1, 2, none⟩ (.slice none 0 0)).setCell ⟨xb + 1, 3, none⟩ (.slice none 0 0)).alloc (.cells #[.int .i64 (0 : Int), .iface 250 (.pointer (some (ea 6)))] 120)).cell? ⟨w6.heap.size, 0 + 1, none⟩ = some (.iface 250 (.pointer (some (ea 6))))) := by
              have := fault_cells ((((w6.setCell ⟨xb + 1, 0, none⟩ (.slice none 0 0)).setCell ⟨xb + 1, 1, none⟩ (.slice none 0 0)).setCell ⟨xb + 1, 2, none⟩ (.slice none 0 0)).setCell ⟨xb + 1, 3, none⟩ (.slice none 0 0)) (.int .i64 (0 : Int)) (.iface 250 (.pointer (some (ea 6)))) 120
              rw [hsz4] at this
              exact this
            have HBE : Hid (Below xb w0 (((((w6.setCell ⟨xb + 1, 0, none⟩ (.slice none 0 0)).setCell ⟨xb + 1, 1, none⟩ (.slice none 0 0)).setCell ⟨xb + 1, 2, none⟩ (.slice none 0 0)).setCell ⟨xb + 1, 3, none⟩ (.slice none 0 0)).alloc (.cells #[.int .i64 (0 : Int), .iface 250 (.pointer (some (ea 6)))] 120)).drew) := (((((HB6.out.setCell (p := ⟨xb + 1, 0, none⟩) (by simp only; omega) _).setCell (p := ⟨xb + 1, 1, none⟩) (by simp only; omega) _).setCell (p := ⟨xb + 1, 2, none⟩) (by simp only; omega) _).setCell (p := ⟨xb + 1, 3, none⟩) (by simp only; omega) _).alloc (by rw [hsz4]; omega) _).drew
            clear hrr hput c3 hglS hsz4
            go_wp2_with fail
            go_region
            all_goals go_wp2
            all_goals
              refine bodyPost_ret (v := .tuple #[.agg #[.slice none 0 0, .slice none 0 0, .slice none 0 0, .slice none 0 0], .iface 118 (.pointer (some ⟨w6.heap.size, 0, none⟩))]) ?_ rfl ?_
              · simp [results, Tryz.f37, go_sem, d0, d1, d2, d3]
              · unfold FieldSays
                rw [HXB.out]
                exact ⟨HBE.out, .inr ⟨all, HG.out.1, .inr (.inl ⟨by rw [HG.out.2.1]; exact HJ.out.1, by rw [HG.out.2.1]; exact HCY.out, _, ⟨w6.heap.size, rfl, HFC.out.1, HFC.out.2⟩, rfl⟩)⟩⟩
          · have HK6 : Hid (KeepBut Z w6 gm gm) := HJ.out.2.2.below hB6'
            have HB6 : Hid (Below xb w0 w6) := HWK.out w6 HK6.out
            have HRK := Hid.mk' hrk
            have hrow6 : w6.rowIs gm 3 n (fun j => .int .i64 (matesL ps j)) := HJ.out.2.1.of_block (hB6'.block gm HJ.out.2.1.lt)
            have hrr := HRZ.out w6 HK6.out
            have hput := four_put (W := w6) (B := xb + 1) (.slice ad n cd) (.slice aS n cs) (.slice ao n co) (.slice (some ⟨gm, 0, none⟩) n n) (fun j hj => by rw [(hrr j hj).1]; rfl)
            have s0 := hput 0 _ rfl
            have s1 := hput 1 _ rfl
            have s2 := hput 2 _ rfl
            have s3 := hput 3 _ rfl
            have hblk : ∀ b, b ≠ xb + 1 → ((((w6.setCell ⟨xb + 1, 0, none⟩ (.slice ad n cd)).setCell ⟨xb + 1, 1, none⟩ (.slice aS n cs)).setCell ⟨xb + 1, 2, none⟩ (.slice ao n co)).setCell ⟨xb + 1, 3, none⟩ (.slice (some ⟨gm, 0, none⟩) n n)).heap[b]? = w6.heap[b]? := fun b hb => (((Below.heap_setCell _ _ _ b (fun e => hb e)).trans (Below.heap_setCell _ _ _ b (fun e => hb e))).trans (Below.heap_setCell _ _ _ b (fun e => hb e))).trans (Below.heap_setCell _ _ _ b (fun e => hb e))
            have HBE : Hid (Below xb w0 ((((w6.setCell ⟨xb + 1, 0, none⟩ (.slice ad n cd)).setCell ⟨xb + 1, 1, none⟩ (.slice aS n cs)).setCell ⟨xb + 1, 2, none⟩ (.slice ao n co)).setCell ⟨xb + 1, 3, none⟩ (.slice (some ⟨gm, 0, none⟩) n n))) := (((HB6.out.setCell (p := ⟨xb + 1, 0, none⟩) (by simp only; omega) _).setCell (p := ⟨xb + 1, 1, none⟩) (by simp only; omega) _).setCell (p := ⟨xb + 1, 2, none⟩) (by simp only; omega) _).setCell (p := ⟨xb + 1, 3, none⟩) (by simp only; omega) _
            have HRW : Hid (w6.rowIs gm 3 n (fun j => .int .i64 (matesL ps j)) ∧ ∀ b, b ≠ xb + 1 → ((((w6.setCell ⟨xb + 1, 0, none⟩ (.slice ad n cd)).setCell ⟨xb + 1, 1, none⟩ (.slice aS n cs)).setCell ⟨xb + 1, 2, none⟩ (.slice ao n co)).setCell ⟨xb + 1, 3, none⟩ (.slice (some ⟨gm, 0, none⟩) n n)).heap[b]? = w6.heap[b]?) := ⟨hrow6, hblk⟩
            refine bodyPost_ret (v := .tuple #[fieldV n ad aS ao cd cs co gm, .nilIface]) ?_ rfl ?_
            · simp [results, Tryz.f37, go_sem, s0, s1, s2, s3, fieldV]
            · unfold FieldSays
              rw [HXB.out]
              have hgm := HZ.out.2.2.2.2.1
              have hs2 := HS2.out
              have hsV : V.heap.size = sb + 1 := HSB.out.2
              have h1 : ShapeIn (fun b => X.heap.size ≤ b ∧ b < sb + 1) V L ad aS ao cd cs co := HSV.out.mono (fun b hb hS => ⟨hS, by omega⟩)
              have h2 := h1.keep (W' := Z) HZ.out.1.size (fun b _ hS => HZ.out.1.block b hS.2)
              have h3 := h2.keep (W' := w6) HK6.out.size (fun b hb hS => HK6.out.block b hb (by have := hS.2; omega) (by have := hS.2; omega))
              have h4 := h3.keep (by simp) (fun b _ hS => HRW.out.2 b (by have := hS.1; have := HXL.out; omega))
              have hx := HXL.out
              refine ⟨HBE.out, .inr ⟨all, HG.out.1, .inr (.inr ⟨by rw [HG.out.2.1]; exact HJ.out.1, by rw [HG.out.2.1]; exact HRK.out, ad, aS, ao, cd, cs, co, gm, ?_, ?_, ?_⟩)⟩⟩
              · rw [HG.out.2.1]
                exact h4.mono (fun b _ hS => by have h5 : X.heap.size ≤ b := hS.1; have h6 := HXB.out; show _ ≤ _; omega)
              · rw [HG.out.2.1, HG.out.2.2]
                exact HRW.out.1.of_block (HRW.out.2 gm (by omega))
              · rw [HG.out.2.1, HG.out.2.2]

end Go.Proofs.YtnnkmkhamipfiaaGreatDoor
