/- What Boundary answers. -/
import Derived.Test.YtnnkmkhamipfiaaGreatDoorGather
import Derived.Test.YtnnkmkhamipfiaaGreatDoorMorseUnder
import Derived.Test.YtnnkmkhamipfiaaGreatDoorLists
import Derived.Test.YtnnkmkhamipfiaaGreatDoorSign
import Derived.Test.YtnnkmkhamipfiaaGreatDoorSorted
import Derived.Maps.OwnOps
import Derived.Deep.RegionLaw
namespace Go.Proofs.YtnnkmkhamipfiaaGreatDoor
open Go.RowKit Go.Sort Go.Maps Go.Deep

/-- What Boundary answers. -/
def BoundG (a : Nat → Addr) (l : List (List Int)) (dim : Int) (w : World) (e : Ending) (w' : World) : Prop :=
  Below w.heap.size w w' ∧ ((∃ i, BadAt l i ∧ e = .returned (.tuple #[.agg #[.int .i64 0, .int .i64 0, .slice none 0 0], .iface 250 (.pointer (some (a i)))])) ∨
    ∃ all, Good l all ∧ (((dim < 0 ∨ 7 < dim) ∧ e = .returned (.tuple #[.agg #[.int .i64 0, .int .i64 0, .slice none 0 0], .iface 250 (.pointer (some (a 1)))])) ∨
      ((0 ≤ dim ∧ dim ≤ 7) ∧ ∃ v, e = .returned (.tuple #[.agg #[.int .i64 (ofDim all (dim - 1)).length, .int .i64 (ofDim all dim).length, v], .nilIface]) ∧ Ints w' v (borderI (ofDim all (dim - 1)) (ofDim all dim)))))
/-- The same, the numbers in memory of the call's own. -/
def BoundH (a : Nat → Addr) (l : List (List Int)) (dim : Int) (w : World) (e : Ending) (w' : World) : Prop :=
  Below w.heap.size w w' ∧ ((∃ i, BadAt l i ∧ e = .returned (.tuple #[.agg #[.int .i64 0, .int .i64 0, .slice none 0 0], .iface 250 (.pointer (some (a i)))])) ∨
    ∃ all, Good l all ∧ (((dim < 0 ∨ 7 < dim) ∧ e = .returned (.tuple #[.agg #[.int .i64 0, .int .i64 0, .slice none 0 0], .iface 250 (.pointer (some (a 1)))])) ∨
      ((0 ≤ dim ∧ dim ≤ 7) ∧ ∃ v, e = .returned (.tuple #[.agg #[.int .i64 (ofDim all (dim - 1)).length, .int .i64 (ofDim all dim).length, v], .nilIface]) ∧ IntsIn (fun b => w.heap.size ≤ b) w' v (borderI (ofDim all (dim - 1)) (ofDim all dim)))))

theorem wf_small {n : Nat} (h : n ≤ 1000000) : (Lit.int .i64 (n : Int)).wf = true := by
  have h1 : IntKind.min .i64 = -9223372036854775808 := rfl
  have h2 : IntKind.max .i64 = 9223372036854775807 := rfl
  simp only [Lit.wf, h1, h2, Bool.and_eq_true, decide_eq_true_eq]
  omega

/-- The map of rows: the first k of them. -/
def RowsTo (rs : List (List UInt8)) (k : Nat) (D : DataW Unit) : Prop := ∀ i, i < k → D.atKey (.string (rs[i]?.getD [])) (.lit (.int .i64 0)) = .lit (.int .i64 (i : Int))
theorem rows_put {rs : List (List UInt8)} {k : Nat} {D : DataW Unit} (hn : rs.Nodup) (hk : k < rs.length) (hD : Tidy D) (h : RowsTo rs k D) : RowsTo rs (k + 1) (D.put (.string (rs[k]?.getD [])) (.lit (.int .i64 (k : Int)))) := fun i hi => by
  by_cases e : i = k
  · subst e
    exact atKey_put_same hD.isMap (string_key _) _ _
  · rw [atKey_put_other (string_ne (fun e' => e ?_))]
    · exact h i (by omega)
    · rw [List.getElem?_eq_getElem (by omega), List.getElem?_eq_getElem hk, Option.getD_some, Option.getD_some] at e'
      exact (List.getElem_inj hn).1 e'

theorem wrap_small {n : Nat} (h : n ≤ 1000000) : IntKind.i64.wrap (n : Int) = (n : Int) := by
  rw [IntKind.wrap_i64]; omega
theorem drew_below2 (W : World) : Below W.heap.size W W.drew := ⟨rfl, rfl, rfl, Nat.le_refl _, fun _ _ => rfl⟩
theorem grown_set {w W : World} {b : Nat} (h : w.grownBy W (some b)) (o : Nat) (u : Value) : w.grownBy (W.setCell ⟨b, o, none⟩ u) (some b) :=
  ⟨h.os, h.tape, h.output, by rw [World.size_setCell]; exact h.size, fun k hk hne => (Below.heap_setCell W ⟨b, o, none⟩ u k (fun e => hne (by rw [e]))).trans (h.block k hk hne)⟩
/-- Where Boundary stands: the numbers, the matrix, the map of rows. -/
structure BdAt (R C : List (List Int)) (rs : List (List UInt8)) (w4 : World) (M : Nat) (f : Nat → Int) (W : World) : Prop where
  row : W.rowIs w4.heap.size 3 M (fun idx => .int .i64 (f idx))
  box : MatBox (w4.heap.size + 1) W R.length C.length (.slice (some ⟨w4.heap.size, 0, none⟩) M M)
  map : ∃ D : DataW Unit, W.ownsMap Tryz.prog 9 (plainElem Tryz.prog 3) (w4.heap.size + 1 + 1) R.length D ∧ RowsTo rs R.length D
  below : Below w4.heap.size w4 W
  size : w4.heap.size + 3 ≤ W.heap.size
theorem BdAt.later {R C : List (List Int)} {rs : List (List UInt8)} {w4 : World} {M : Nat} {f : Nat → Int} {W W' : World} (h : BdAt R C rs w4 M f W) (hB : Below W.heap.size W W') : BdAt R C rs w4 M f W' where
  row := h.row.of_block (hB.block _ h.row.lt)
  box := h.box.below hB
  map := by
    obtain ⟨D, h1, h2⟩ := h.map
    exact ⟨D, h1.kept (Below.grownBy hB) (by simp), h2⟩
  below := h.below.trans (hB.mono h.below.size)
  size := Nat.le_trans h.size hB.size
theorem BdAt.set {R C : List (List Int)} {rs : List (List UInt8)} {w4 : World} {M : Nat} {f g : Nat → Int} {W : World} (h : BdAt R C rs w4 M f W) {k : Nat} {x : Int} (hg : ∀ idx, idx < M → g idx = if idx = k then x else f idx) : BdAt R C rs w4 M g (W.setCell ⟨w4.heap.size, k, none⟩ (.int .i64 x)) where
  row := (h.row.set k _).congr (fun j hj => by
    rw [hg j hj]
    split <;> rfl)
  box := h.box.other (by omega) _ _
  map := by
    obtain ⟨D, h1, h2⟩ := h.map
    exact ⟨D, h1.setCell (a := ⟨w4.heap.size, k, none⟩) (by show w4.heap.size + 1 + 1 ≠ w4.heap.size; omega) _, h2⟩
  below := h.below.setCell (p := ⟨w4.heap.size, k, none⟩) (Nat.le_refl _) _
  size := by rw [World.size_setCell]; exact h.size
theorem BdAt.congr {R C : List (List Int)} {rs : List (List UInt8)} {w4 : World} {M : Nat} {f g : Nat → Int} {W : World} (h : BdAt R C rs w4 M f W) (hg : ∀ idx, idx < M → g idx = f idx) : BdAt R C rs w4 M g W where
  row := h.row.congr (fun j hj => by rw [hg j hj])
  box := h.box
  map := h.map
  below := h.below
  size := h.size

set_option maxRecDepth 100000 in
set_option maxHeartbeats 8000000 in
theorem boundary_own {a : Nat → Addr} {s : Nat → ByteArray} (vl : Value) (l : List (List Int)) (dim : Int) (w : World) (hE : Errs a s w) (hl : Rows w vl l) (hll : l.length ≤ 100000) (hle : ∀ x ∈ l, x.length ≤ 1000) :
    Calls Tryz.prog 80 #[.agg #[vl], .int .i64 dim] w fun e w' => BoundH a l dim w e w' := by
  obtain ⟨al, cl, rfl, -, -⟩ := hl.open_
  have hBa : Below w.heap.size w ((w.alloc (.cells #[.slice al l.length cl] 39)).alloc (.cells #[.int .i64 0, .int .i64 0, .slice none 0 0] 45)) := ((Below.refl _ w).alloc (Nat.le_refl _) _).alloc (by simp) _
  have hbz : MatBox (w.heap.size + 1) ((w.alloc (.cells #[.slice al l.length cl] 39)).alloc (.cells #[.int .i64 0, .int .i64 0, .slice none 0 0] 45)) 0 0 (.slice none 0 0) := by
    have := matBox_new (w.alloc (.cells #[.slice al l.length cl] 39)) 0 0 (.slice none 0 0) 45
    rwa [World.size_alloc] at this
  have hbc := (box_alloc (.cells #[.int .i64 0, .int .i64 0, .slice none 0 0] 45) (box_new w (.slice al l.length cl) 39)).1
  have hop := open_g _ l _ (hE.below hBa) (hl.below hBa) hll hle
  have hsz2 : ((w.alloc (.cells #[.slice al l.length cl] 39)).alloc (.cells #[.int .i64 0, .int .i64 0, .slice none 0 0] 45)).heap.size = w.heap.size + 2 := by simp
  have HBZ : Hid (MatBox (w.heap.size + 1) ((w.alloc (.cells #[.slice al l.length cl] 39)).alloc (.cells #[.int .i64 0, .int .i64 0, .slice none 0 0] 45)) 0 0 (.slice none 0 0)) := hbz
  have HS2 : Hid (((w.alloc (.cells #[.slice al l.length cl] 39)).alloc (.cells #[.int .i64 0, .int .i64 0, .slice none 0 0] 45)).heap.size = w.heap.size + 2) := hsz2
  clear hl hbz hsz2
  go_enter Tryz.func80, Tryz.ntmps80
  go_wp2_with fail
  refine hop.mono ?_
  clear hop
  rintro e w2 ⟨hB2, ⟨i, hbad, rfl⟩ | ⟨all, b, F, G, hg, ht, rfl, hP, -⟩⟩
  · have hz := HBZ.out.below hB2
    have hpt := hz.put 0 0 (.slice none 0 0)
    have hBw : Below w.heap.size w w2 := hBa.trans (hB2.mono (by rw [HS2.out]; omega))
    obtain ⟨⟨q00, q01⟩, ⟨q10, q11⟩, ⟨q20, q21⟩⟩ := hz
    have t0 := hpt.c0.1
    have t1 := hpt.c1.1
    have t2 := hpt.c2.1
    have HBD : Hid (BadAt l i) := hbad
    clear hbad hpt hB2
    go_wp2
    refine bodyPost_ret (v := .tuple #[.agg #[.int .i64 0, .int .i64 0, .slice none 0 0], .iface 250 (.pointer (some (a i)))]) ?_ rfl ?_
    · simp [results, Tryz.f80, go_sem, t0, t1, t2]
    · exact ⟨mat_put_below hBw _ _ _ (by omega), .inl ⟨i, HBD.out, rfl⟩⟩
  · have hBw : Below w.heap.size w w2 := hBa.trans (hB2.mono (by rw [HS2.out]; omega))
    have HZ2 : Hid (MatBox (w.heap.size + 1) w2 0 0 (.slice none 0 0)) := HBZ.out.below hB2
    have HG : Hid (Good l all ∧ Told F all) := ⟨hg, ht⟩
    have HP : Hid (PileAt w2 b F G) := hP
    clear hg ht hP hB2 HBZ HS2 hbc
    by_cases hdim : dim < 0 ∨ 7 < dim
    · have HD : Hid (dim < 0 ∨ 7 < dim) := hdim
      have hpt := HZ2.out.put 0 0 (.slice none 0 0)
      have t0 := hpt.c0.1
      have t1 := hpt.c1.1
      have t2 := hpt.c2.1
      have hgl : w2.cell? ⟨0, 0, none⟩ = some (.iface 250 (.pointer (some (a 1)))) := (hE.below hBw).glob 1 (by decide)
      have hlt : 0 < w.heap.size := cell_lt (hE.glob 1 (by decide))
      have hgn : ∀ o, (⟨w.heap.size + 1, o, none⟩ : Addr) ≠ ⟨0, 0, none⟩ := fun o => addr_ne (.inl (by omega))
      have hgl2 : (((w2.setCell ⟨w.heap.size + 1, 0, none⟩ (.int .i64 0)).setCell ⟨w.heap.size + 1, 1, none⟩ (.int .i64 0)).setCell ⟨w.heap.size + 1, 2, none⟩ (.slice none 0 0)).cell? ⟨0, 0, none⟩ = some (.iface 250 (.pointer (some (a 1)))) := by
        rw [World.cell?_setCell_other _ _ _ _ (hgn 2), World.cell?_setCell_other _ _ _ _ (hgn 1), World.cell?_setCell_other _ _ _ _ (hgn 0)]; exact hgl
      obtain ⟨⟨q00, q01⟩, ⟨q10, q11⟩, ⟨q20, q21⟩⟩ := HZ2.out
      clear hpt hlt hgn
      rcases hdim with hdim | hdim
      all_goals
        go_wp2_with fail
        go_region
        all_goals go_wp2
        all_goals
          refine bodyPost_ret (v := .tuple #[.agg #[.int .i64 0, .int .i64 0, .slice none 0 0], .iface 250 (.pointer (some (a 1)))]) ?_ rfl ?_
          · simp [results, Tryz.f80, go_sem, t0, t1, t2]
          · exact ⟨(mat_put_below hBw _ _ _ (by omega)).drew, .inr ⟨all, HG.out.1, .inl ⟨HD.out, rfl⟩⟩⟩
    · have hd0 : 0 ≤ dim := by omega
      have hd7 : dim ≤ 7 := by omega
      have hfa := faces_ b F G (dim - 1) w2 HP.out (by have := HG.out.2.few; omega) (fun x hx => by have := HG.out.2.short x hx; omega)
      clear hdim
      go_wp2_with fail
      refine hfa.mono ?_
      clear hfa
      rintro e w3 ⟨v3, s3, rfl, hs3, hn3, hm3, hB3⟩
      have HR : Hid ((srtS s3).map ints = ofDim all (dim - 1)) := told_dim HG.out.2 hn3 hm3
      obtain ⟨rs, hrs⟩ : ∃ rs, srtS s3 = rs := ⟨_, rfl⟩
      rw [hrs] at hs3 HR
      have HS3 : Hid (StrsIn (fun b => w2.heap.size ≤ b) w3 v3 rs) := hs3
      obtain ⟨a3, c3, rfl, -, -⟩ := hs3.open_
      clear hs3 hn3 hm3 hrs
      have hfb := faces_ b F G dim w3 (HP.out.below hB3) (by have := HG.out.2.few; omega) (fun x hx => by have := HG.out.2.short x hx; omega)
      go_wp2_with fail
      refine hfb.mono ?_
      clear hfb
      rintro e w4 ⟨v4, s4, rfl, hs4, hn4, hm4, hB4⟩
      have HC : Hid ((srtS s4).map ints = ofDim all dim) := told_dim HG.out.2 hn4 hm4
      obtain ⟨cs, hcs⟩ : ∃ cs, srtS s4 = cs := ⟨_, rfl⟩
      rw [hcs] at hs4 HC
      have HS4 : Hid (StrsIn (fun b => w3.heap.size ≤ b) w4 v4 cs) := hs4
      obtain ⟨a4, c4, rfl, -, -⟩ := hs4.open_
      have HS34 : Hid (Strs w4 (.slice a3 rs.length c3) rs) := SliceIn.mono (HS3.out.below hB4) (fun _ _ _ => trivial)
      have HZ4 : Hid (MatBox (w.heap.size + 1) w4 0 0 (.slice none 0 0)) := (HZ2.out.below hB3).below hB4
      have HBw4 : Hid (Below w.heap.size w w4) := hBw.trans ((hB3.trans (hB4.mono hB3.size)).mono hBw.size)
      have hsz4 : w.heap.size + 1 < w4.heap.size := HZ4.out.lt
      clear hs4 hn4 hm4 hcs hB3 hB4 HS3 HZ2 HP hBw
      obtain ⟨R, hRe⟩ : ∃ R, ofDim all (dim - 1) = R := ⟨_, rfl⟩
      obtain ⟨C, hCe⟩ : ∃ C, ofDim all dim = C := ⟨_, rfl⟩
      rw [hRe] at HR
      rw [hCe] at HC
      have HRC : Hid (ofDim all (dim - 1) = R ∧ ofDim all dim = C) := ⟨hRe, hCe⟩
      have hrl : rs.length = R.length := by rw [← HR.out]; simp
      have hcl : cs.length = C.length := by rw [← HC.out]; simp
      have hr6 : R.length ≤ 600 := by rw [← hRe]; have := ofDim_length all (dim - 1); have := HG.out.1.length; omega
      have hc6 : C.length ≤ 600 := by rw [← hCe]; have := ofDim_length all dim; have := HG.out.1.length; omega
      have HRL : Hid (rs.length = R.length ∧ cs.length = C.length) := ⟨hrl, hcl⟩
      rw [hrl, hcl]
      rw [hrl] at HS34
      rw [hcl] at HS4
      obtain ⟨M, hM⟩ : ∃ M, R.length * C.length = M := ⟨_, rfl⟩
      have HM : Hid (R.length * C.length = M) := hM
      have hMi : (R.length : Int) * (C.length : Int) = (M : Int) := by rw [← hM, Int.natCast_mul]
      have hMb : M ≤ 360000 := by rw [← hM]; exact Nat.mul_le_mul hr6 hc6
      have hmk := run_make_row' (P := Tryz.prog) 29 3 (.int .i64 0) 8 Tryz.underlying29 Tryz.info3 rfl .i64 .i64 M (by omega) (by omega)
      have hmm := @run_makeMap Tryz.prog
      clear hRe hCe hrl hcl hM
      have hnr : rs.Nodup := by
        have h1 : (rs.map ints).Nodup := by rw [HR.out, ← HRC.out.1]; exact (order_nodup HG.out.1.isAll.order).sublist List.filter_sublist
        exact (List.pairwise_map.1 h1).imp (fun h e => h (by rw [e]))
      have HNR : Hid rs.Nodup := hnr
      have hrow0 := World.rowIs_made w4 (.int .i64 0) M 3
      obtain ⟨W1, hW1⟩ : ∃ W1, w4.alloc (.cells (madeCells #[.int .i64 0] M) 3) = W1 := ⟨_, rfl⟩
      have hs1 : W1.heap.size = w4.heap.size + 1 := by rw [← hW1]; simp
      have hB1 : Below w4.heap.size w4 W1 := by rw [← hW1]; exact (Below.refl _ w4).alloc (Nat.le_refl _) _
      have hbx0 := matBox_new W1 R.length C.length (.slice (some ⟨w4.heap.size, 0, none⟩) M M) 45
      have hB2 : Below W1.heap.size W1 (W1.alloc (.cells #[.int .i64 R.length, .int .i64 C.length, .slice (some ⟨w4.heap.size, 0, none⟩) M M] 45)) := (Below.refl _ _).alloc (Nat.le_refl _) _
      obtain ⟨W2, hW2⟩ : ∃ W2, W1.alloc (.cells #[.int .i64 R.length, .int .i64 C.length, .slice (some ⟨w4.heap.size, 0, none⟩) M M] 45) = W2 := ⟨_, rfl⟩
      have hs2 : W2.heap.size = w4.heap.size + 1 + 1 := by rw [← hW2, World.size_alloc, hs1]
      have hmp0 := World.ownsMap_made (H := Unit) W2 Tryz.prog 9 (plainElem Tryz.prog 3)
      have hB3 : Below W2.heap.size W2 (W2.alloc (.map #[] 0)) := (Below.refl _ _).alloc (Nat.le_refl _) _
      rw [hW1] at hrow0
      rw [hW2] at hbx0 hB2
      rw [hs2] at hmp0
      rw [hs1] at hbx0
      have HBX : Hid (MatBox (w4.heap.size + 1) (W2.alloc (.map #[] 0)) R.length C.length (.slice (some ⟨w4.heap.size, 0, none⟩) M M)) := hbx0.below hB3
      have HRW : Hid ((W2.alloc (.map #[] 0)).rowIs w4.heap.size 3 M (fun _ => .int .i64 0)) := (hrow0.of_block (hB2.block _ hrow0.lt)).of_block (hB3.block _ (by rw [hs2]; omega))
      have HB43 : Hid (Below w4.heap.size w4 (W2.alloc (.map #[] 0))) := (hB1.trans (hB2.mono (by rw [hs1]; omega))).trans (hB3.mono (by rw [hs2]; omega))
      have HS30 : Hid ((W2.alloc (.map #[] 0)).heap.size = w4.heap.size + 3) := by
        show (W2.alloc (.map #[] 0)).heap.size = w4.heap.size + 3
        rw [World.size_alloc, hs2]
      have HMP : Hid ((W2.alloc (.map #[] 0)).ownsMap Tryz.prog 9 (plainElem Tryz.prog 3) (w4.heap.size + 1 + 1) 0 (.map [] : DataW Unit)) := hmp0
      clear hrow0 hbx0 hmp0 hB1 hB2 hB3 hnr hs1 hs2
      subst hW2
      subst hW1
      go_wp2
      obtain ⟨W3, hW3⟩ : ∃ W3, ((w4.alloc (.cells (madeCells #[.int .i64 0] M) 3)).alloc (.cells #[.int .i64 R.length, .int .i64 C.length, .slice (some ⟨w4.heap.size, 0, none⟩) M M] 45)).alloc (.map #[] 0) = W3 := ⟨_, rfl⟩
      rw [hW3] at HBX HRW HB43 HS30 HMP ⊢
      clear hW3 hmk hmm
      obtain ⟨a3', c3', e33, -, hx3⟩ := (HS34.out.below HB43.out).open_
      rw [HRL.out.1] at e33 hx3
      obtain ⟨rfl, rfl⟩ : a3 = a3' ∧ c3 = c3' := by simpa using e33
      have HX3 : Hid (0 < R.length → ∃ b off, a3 = some ⟨b, off, none⟩ ∧ True ∧ b < W3.heap.size ∧ ∀ k, k < R.length → W3.cell? ⟨b, off + k, none⟩ = some (encStr (rs[k]?.getD []))) := hx3
      have HSH : Hid (∀ i, i < R.length → (rs[i]?.getD []).length ≤ 7) := fun i hi => by
        have h1 : i < rs.length := by rw [HRL.out.1]; exact hi
        have h2 : ints (rs[i]?.getD []) ∈ all := by
          have h3 : ints (rs[i]?.getD []) ∈ rs.map ints := by rw [List.getElem?_eq_getElem h1]; exact List.mem_map.2 ⟨_, List.getElem_mem h1, rfl⟩
          rw [HR.out, ← HRC.out.1] at h3
          exact (List.mem_filter.1 h3).1
        have := HG.out.1.short _ h2
        rwa [ints_length] at this
      have hsz3 : w4.heap.size + 3 = W3.heap.size := HS30.out.symm
      clear hx3 e33
      go_loopw [56] (fun p wr => ∃ (k : Nat) (D : DataW Unit), k ≤ R.length ∧ p = .int .i64 k ∧ wr.ownsMap Tryz.prog 9 (plainElem Tryz.prog 3) (w4.heap.size + 1 + 1) k D ∧ RowsTo rs k D ∧ W3.grownBy wr (some (w4.heap.size + 1 + 1))) (fun p _ => R.length - (intOf p).toNat)
      case atStart => exact ⟨0, _, by omega, rfl, HMP.out, fun i hi => by omega, grown_refl _ _⟩
      case round =>
        obtain ⟨k, D, hk, rfl, hown, hto, hgr⟩ := hrel
        obtain ⟨wo, hwo⟩ : ∃ wo : World, wo = wr := ⟨_, rfl⟩
        subst hwo
        have HTO : Hid (RowsTo rs k D) := hto
        clear hto
        by_cases hlt : k < R.length
        · obtain ⟨b3, o3, rfl, -, hb3, cc3⟩ := HX3.out (by omega)
          have g1 := cc3 k hlt
          have hpo : (some b3 : Option Nat) ≠ some (w4.heap.size + 1 + 1) := fun e => by
            cases e
            obtain ⟨D0, ⟨es, clk, hh, _⟩⟩ : ∃ D0 : DataW Unit, W3.ownsMap Tryz.prog 9 (plainElem Tryz.prog 3) (w4.heap.size + 1 + 1) 0 D0 := ⟨_, HMP.out⟩
            simp [World.cell?, hh] at g1
          have g2 : wo.cell? ⟨b3, o3 + k, none⟩ = some (encStr (rs[k]?.getD [])) := (hgr.cell_far ⟨b3, o3 + k, none⟩ hb3 hpo).trans g1
          have hkey := key_of (rs[k]?.getD []) (by have := HSH.out k hlt; unfold maxLen; omega)
          have HPT : Hid (RowsTo rs (k + 1) (D.put (.string (rs[k]?.getD [])) (.lit (.int .i64 (k : Int))))) := rows_put HNR.out (by rw [HRL.out.1]; exact hlt) (hown.tidy law_string) HTO.out
          obtain ⟨x, hx⟩ : ∃ x, rs[k]?.getD [] = x := ⟨_, rfl⟩
          rw [hx] at g2 hkey HPT
          obtain ⟨st, hst⟩ : ∃ s : ByteArray, encStr x = .string s := ⟨_, rfl⟩
          rw [hst] at g2 hkey
          have hwf := wf_small (n := k) (by omega)
          clear cc3 g1 hx hst hpo
          go_wp2_with (first
            | (at_mapUpdate; refine wpList_mapUpdate_own _ rfl _ _ _ 178 rfl 9 3 law_string Tryz.underlying178 _ (w4.heap.size + 1 + 1) _ _ rfl hown (by unfold maxLen; omega) _ _ _ rfl rfl hkey _ [] (plainElem_int Tryz.underlying3 hwf) ?_; intro w5 hown5 hg5)
            | go_in)
          (try go_frame)
          go_roundw
          case rel => exact ⟨k + 1, _, by omega, by go_num, hown5, HPT.out, grown_trans hgr hg5⟩
          case measure => simp [intOf]; omega
        · obtain rfl : k = R.length := by omega
          have hBX : Below w4.heap.size w4 wo := HB43.out.grown hgr HB43.out.size (fun j hj => by cases hj; omega)
          have HBD : Hid (BdAt R C rs w4 M (matTo R C 0 0) wo) := {
            row := (HRW.out.of_block (hgr.block _ HRW.out.lt (fun e => by simp at e; omega))).congr (fun j _ => by rw [matTo_start])
            box := ⟨⟨(hgr.cell_far ⟨w4.heap.size + 1, 0, none⟩ HBX.out.lt (fun e => by simp at e)).trans HBX.out.c0.1, (hgr.frozen_far ⟨w4.heap.size + 1, 0, none⟩ HBX.out.lt (fun e => by simp at e)).trans HBX.out.c0.2⟩, ⟨(hgr.cell_far ⟨w4.heap.size + 1, 1, none⟩ HBX.out.lt (fun e => by simp at e)).trans HBX.out.c1.1, (hgr.frozen_far ⟨w4.heap.size + 1, 1, none⟩ HBX.out.lt (fun e => by simp at e)).trans HBX.out.c1.2⟩, ⟨(hgr.cell_far ⟨w4.heap.size + 1, 2, none⟩ HBX.out.lt (fun e => by simp at e)).trans HBX.out.c2.1, (hgr.frozen_far ⟨w4.heap.size + 1, 2, none⟩ HBX.out.lt (fun e => by simp at e)).trans HBX.out.c2.2⟩⟩
            map := ⟨D, hown, HTO.out⟩
            below := hBX
            size := by have := hgr.size; omega }
          clear hown hgr HRW HBX HMP hBX HX3 HTO HB43 HS30
          obtain ⟨a4', c4', e44, -, hx4⟩ := HS4.out.open_
          rw [HRL.out.2] at e44 hx4
          obtain ⟨rfl, rfl⟩ : a4 = a4' ∧ c4 = c4' := by simpa using e44
          have HX4 : Hid (0 < C.length → ∃ b off, a4 = some ⟨b, off, none⟩ ∧ w3.heap.size ≤ b ∧ b < w4.heap.size ∧ ∀ k, k < C.length → w4.cell? ⟨b, off + k, none⟩ = some (encStr (cs[k]?.getD []))) := hx4
          have HFC : Hid (∀ k, k < C.length → ints (cs[k]?.getD []) = C[k]?.getD [] ∧ (C[k]?.getD []) ∈ C) := fun k hk => by
            have h1 : k < cs.length := by rw [HRL.out.2]; exact hk
            refine ⟨?_, by rw [List.getElem?_eq_getElem hk]; exact List.getElem_mem hk⟩
            have h2 := congrArg (fun l => l[k]?.getD []) HC.out
            simp only [List.getElem?_map] at h2
            rw [← h2, List.getElem?_eq_getElem h1]; rfl
          have HFR : Hid (∀ y : List UInt8, ints y ∈ R → ∃ ri, ri < R.length ∧ rs[ri]?.getD [] = y ∧ R[ri]?.getD [] = ints y) := fun y hy => by
            rw [← HR.out] at hy
            obtain ⟨z, hz, e⟩ := List.mem_map.1 hy
            obtain rfl := ints_inj e
            obtain ⟨ri, hri, rfl⟩ := List.mem_iff_getElem.1 hz
            refine ⟨ri, by rw [← HRL.out.1]; exact hri, by rw [List.getElem?_eq_getElem hri]; rfl, ?_⟩
            rw [← HR.out, List.getElem?_map, List.getElem?_eq_getElem hri]; rfl
          have HRN : Hid (R.Nodup ∧ ∀ r ∈ R, Rising r ∧ r ≠ []) := by
            show R.Nodup ∧ ∀ r ∈ R, Rising r ∧ r ≠ []
            rw [← HRC.out.1]
            exact ⟨(order_nodup HG.out.1.isAll.order).sublist List.filter_sublist, fun r hr => ⟨HG.out.1.rising r (List.mem_filter.1 hr).1, (face_ok_of HG.out.1 (List.mem_filter.1 hr).1).1.1⟩⟩
          have HCP : Hid (∀ c ∈ C, Rising c ∧ c ≠ [] ∧ c.length ≤ 7 ∧ ∀ j, j < c.length → c.length ≠ 1 → c.eraseIdx j ∈ R) := fun c hc => by
            rw [← HRC.out.2] at hc
            obtain ⟨h1, h2⟩ := List.mem_filter.1 hc
            have h3 := of_decide_eq_true h2
            refine ⟨HG.out.1.rising c h1, (face_ok_of HG.out.1 h1).1.1, HG.out.1.short c h1, fun j hj hne => ?_⟩
            rw [← HRC.out.1]
            have hlen := List.length_eraseIdx_of_lt hj
            refine List.mem_filter.2 ⟨HG.out.1.sub h1 (List.eraseIdx_sublist c j) (fun e => by rw [e] at hlen; simp at hlen; omega), decide_eq_true ?_⟩
            rw [hlen]; omega
          clear hx4 e44
          go_wp2
          go_loopw [67] (fun p wr => ∃ k : Nat, k ≤ C.length ∧ p = .int .i64 k ∧ BdAt R C rs w4 M (matTo R C k 0) wr) (fun p _ => C.length - (intOf p).toNat)
          case atStart => exact ⟨0, by omega, rfl, HBD.out⟩
          case round =>
            obtain ⟨k, hk, rfl, hat⟩ := hrel
            obtain ⟨wk, hwk⟩ : ∃ wk : World, wk = wr := ⟨_, rfl⟩
            subst hwk
            have HAT : Hid (BdAt R C rs w4 M (matTo R C k 0) wk) := hat
            clear hat HBD
            by_cases hkl : k < C.length
            · obtain ⟨b4, o4, rfl, -, hb4, cc4⟩ := HX4.out (by omega)
              have g1 := (HAT.out.below.cell (p := ⟨b4, o4 + k, none⟩) hb4).trans (cc4 k hkl)
              have hfc := HFC.out k hkl
              have hcp := HCP.out _ hfc.2
              obtain ⟨c, hc⟩ : ∃ c, C[k]?.getD [] = c := ⟨_, rfl⟩
              obtain ⟨x, hx⟩ : ∃ x, cs[k]?.getD [] = x := ⟨_, rfl⟩
              rw [hc] at hfc hcp
              rw [hx] at hfc g1
              have HCK : Hid (C[k]?.getD [] = c) := hc
              have HXC : Hid (ints x = c) := hfc.1
              have HPC : Hid (Rising c ∧ c ≠ [] ∧ c.length ≤ 7 ∧ ∀ j, j < c.length → c.length ≠ 1 → c.eraseIdx j ∈ R) := hcp
              have hxl : x.length = c.length := by rw [← hfc.1, ints_length]
              have hx0 : 0 < x.length := by rw [hxl]; exact List.length_pos_iff.2 hcp.2.1
              have hx7 : x.length ≤ 7 := by rw [hxl]; exact hcp.2.2.1
              have hpa := parts_ x wk hx0 (by omega)
              obtain ⟨sx, hsx⟩ : ∃ s : ByteArray, encStr x = .string s := ⟨_, rfl⟩
              rw [hsx] at g1 hpa
              have HXL : Hid (x.length = c.length) := hxl
              clear cc4 hfc hcp hc hx hsx hxl
              go_wp2_with fail
              refine hpa.mono ?_
              clear hpa
              rintro e w5 ⟨vp, rfl, hsp, hB5⟩
              have HA5 : Hid (BdAt R C rs w4 M (matTo R C k 0) w5) := HAT.out.later hB5
              have hk4 : w4.heap.size < wk.heap.size := HAT.out.row.lt
              obtain ⟨ap, cp, rfl, -, hxp⟩ := hsp.open_
              obtain ⟨PL, hPL⟩ : ∃ PL, (partsOf x).length = PL := ⟨_, rfl⟩
              have hpl7 : PL ≤ 7 := by rw [← hPL]; unfold partsOf; split <;> simp; omega
              have HPL : Hid ((partsOf x).length = PL) := hPL
              rw [hPL] at hxp ⊢
              have HXP : Hid (0 < PL → ∃ b off, ap = some ⟨b, off, none⟩ ∧ wk.heap.size ≤ b ∧ b < w5.heap.size ∧ ∀ j, j < PL → w5.cell? ⟨b, off + j, none⟩ = some (encStr ((partsOf x)[j]?.getD []))) := hxp
              clear hsp hxp hPL hB5 HAT g1
              go_wp2
              go_loopw [75] (fun p wr => ∃ j : Nat, j ≤ PL ∧ p = .int .i64 j ∧ BdAt R C rs w4 M (matTo R C k j) wr ∧ w5.grownBy wr (some w4.heap.size)) (fun p _ => PL - (intOf p).toNat)
              case atStart => exact ⟨0, by omega, rfl, HA5.out, grown_refl _ _⟩
              case round =>
                obtain ⟨j, hj, rfl, hat, hgr⟩ := hrel
                obtain ⟨wj, hwj⟩ : ∃ wj : World, wj = wr := ⟨_, rfl⟩
                subst hwj
                have HAJ : Hid (BdAt R C rs w4 M (matTo R C k j) wj) := hat
                clear hat HA5
                by_cases hjl : j < PL
                · have hne1 : x.length ≠ 1 := fun e => by
                    have := HPL.out
                    unfold partsOf at this
                    rw [if_pos e] at this
                    simp at this; omega
                  have hjx : j < x.length := by
                    have := HPL.out
                    unfold partsOf at this
                    rw [if_neg hne1] at this
                    simp at this; omega
                  have hpj : (partsOf x)[j]?.getD [] = x.eraseIdx j := by
                    unfold partsOf
                    rw [if_neg hne1]
                    simp [hjx]
                  obtain ⟨bp, op_, rfl, hbp, hbl, ccp⟩ := HXP.out (by omega)
                  have g2 := (hgr.cell_far ⟨bp, op_ + j, none⟩ hbl (fun e => by have e' : bp = w4.heap.size := Option.some.inj e; omega)).trans (ccp j hjl)
                  rw [hpj] at g2
                  have hie : ints (x.eraseIdx j) = c.eraseIdx j := by rw [ints_erase, HXC.out]
                  have hjc : j < c.length := by rw [← HXL.out]; exact hjx
                  obtain ⟨ri, hri, hrs1, hR1⟩ := HFR.out (x.eraseIdx j) (by rw [hie]; exact HPC.out.2.2.2 j hjc (by rw [← HXL.out]; exact hne1))
                  rw [hie] at hR1
                  have hyl : (x.eraseIdx j).length ≤ 7 := by rw [List.length_eraseIdx_of_lt hjx]; omega
                  obtain ⟨y, hy⟩ : ∃ y, x.eraseIdx j = y := ⟨_, rfl⟩
                  rw [hy] at g2 hrs1 hyl
                  obtain ⟨D, hown, hto⟩ := HAJ.out.map
                  have hkey := key_of y (by unfold maxLen; omega)
                  obtain ⟨cn, hrun, hat2, -⟩ := (hown.kept (Below.grownBy (drew_below2 wj)) (by simp)).lookup_int (t := 178) law_string Tryz.underlying178 Tryz.underlying3 (zero_int _) hkey
                  have hcn : cn = (ri : Int) := by
                    have h1 := hto ri hri
                    rw [hrs1, hat2] at h1
                    cases h1; rfl
                  rw [hcn] at hrun
                  obtain ⟨sy, hsy⟩ : ∃ s : ByteArray, encStr y = .string s := ⟨_, rfl⟩
                  rw [hsy] at g2 hrun
                  have hsg := fun W => sign_ j W (by omega)
                  have y1 := HAJ.out.box.c1.1
                  have y2 := HAJ.out.box.c2.1
                  obtain ⟨rm, hrm⟩ : ∃ rm, ri * C.length = rm := ⟨_, rfl⟩
                  have hrmi : (ri : Int) * (C.length : Int) = (rm : Int) := by rw [← hrm, Int.natCast_mul]
                  have hrk : rm + k < M := by
                    rw [← HM.out, ← hrm]
                    have := Nat.mul_le_mul_right C.length (show ri + 1 ≤ R.length from hri)
                    rw [Nat.succ_mul] at this; omega
                  have hrki : (rm : Int) + (k : Int) < (M : Int) := by omega
                  have hcell := HAJ.out.row.cell hrk
                  have hfz := HAJ.out.row.frozen (rm + k)
                  have hdj := drew_below2 wj
                  have HST : Hid (BdAt R C rs w4 M (matTo R C k (j + 1)) (wj.drew.setCell ⟨w4.heap.size, rm + k, none⟩ (.int .i64 (sg j)))) := (HAJ.out.later hdj).set (fun idx hidx => by
                    rw [← hrm]
                    exact matTo_step HRN.out.1 hkl hri (by rw [HCK.out]; exact HPC.out.1) (by rw [HCK.out]; exact hjc) (by rw [HCK.out]; exact hR1) (by rw [HM.out]; exact hidx))
                  have HGR : Hid (w5.grownBy (wj.drew.setCell ⟨w4.heap.size, rm + k, none⟩ (.int .i64 (sg j))) (some w4.heap.size)) := grown_set (grown_below hgr hdj) _ _
                  have hrb : rm ≤ 360000 := by omega
                  have hw1 : IntKind.i64.wrap (rm : Int) = (rm : Int) := wrap_small (by omega)
                  have hw2 : IntKind.i64.wrap ((rm : Int) + (k : Int)) = (rm : Int) + (k : Int) := by
                    have := wrap_small (n := rm + k) (by omega)
                    rwa [Int.natCast_add] at this
                  have hw3 : (0 : Int) ≤ (rm : Int) + (k : Int) := by omega
                  have hw4 : ((rm : Int) + (k : Int)).toNat = rm + k := by omega
                  clear hpj ccp hie hy hown hto hkey hat2 hcn hsy hrm hne1 hjx hjc hri hrs1 hR1 hdj
                  go_wp2_with fail
                  go_region_with (go_at_call 112; refine (hsg _).mono ?_; rintro e w' ⟨rfl, rfl⟩)
                  all_goals go_wp2
                  all_goals go_roundw
                  all_goals first
                    | (go_light; exact ⟨j + 1, hjl, by go_num, HST.out, HGR.out⟩)
                    | (go_light; simp [intOf]; omega)
                · obtain rfl : j = PL := by omega
                  have HNX : Hid (BdAt R C rs w4 M (matTo R C (k + 1) 0) wj) := HAJ.out.congr (fun idx hidx => (matTo_full hkl HRN.out.2 (by rw [HCK.out]; exact HPC.out.1) (by
                    rw [HCK.out, ← HXL.out]
                    have := HPL.out
                    unfold partsOf at this
                    split at this
                    · exact .inr ‹_›
                    · exact .inl (by simpa using this.symm)) (by rw [HM.out]; exact hidx)).symm)
                  clear HAJ hgr HXP
                  go_wp2
                  go_roundw
                  case rel => exact ⟨k + 1, by omega, by go_num, HNX.out⟩
                  case measure => simp [intOf]; omega
            · obtain rfl : k = C.length := by omega
              have hbl : (borderI R C).length = M := by rw [border_length, HM.out]
              have HI : Hid (IntsIn (fun b => w4.heap.size ≤ b) wk (.slice (some ⟨w4.heap.size, 0, none⟩) M M) (borderI R C)) := by
                refine ⟨some ⟨w4.heap.size, 0, none⟩, M, by rw [List.length_map, hbl], ⟨by rw [List.length_map, hbl]; exact Nat.le_refl _, fun h => by cases h⟩, fun _ => ⟨w4.heap.size, 0, rfl, Nat.le_refl _, fun idx u hu => ?_⟩⟩
                have hidx : idx < M := by
                  have := (List.getElem?_eq_some_iff.1 hu).1
                  rwa [List.length_map, hbl] at this
                rw [List.getElem?_map, matTo_all (by rw [HM.out]; exact hidx)] at hu
                rw [Nat.zero_add, HAT.out.row.cell hidx]
                exact hu
              have hzk := HZ4.out.below HAT.out.below
              have hpt := hzk.put R.length C.length (.slice (some ⟨w4.heap.size, 0, none⟩) M M)
              obtain ⟨⟨q00, q01⟩, ⟨q10, q11⟩, ⟨q20, q21⟩⟩ := hzk
              have s0 := HAT.out.box.c0.1
              have s1 := HAT.out.box.c1.1
              have s2 := HAT.out.box.c2.1
              have t0 := hpt.c0.1
              have t1 := hpt.c1.1
              have t2 := hpt.c2.1
              have hBk : Below w.heap.size w wk := HBw4.out.trans (HAT.out.below.mono HBw4.out.size)
              clear hpt hbl
              go_wp2
              refine bodyPost_ret (v := .tuple #[.agg #[.int .i64 R.length, .int .i64 C.length, .slice (some ⟨w4.heap.size, 0, none⟩) M M], .nilIface]) ?_ rfl ?_
              · simp [results, Tryz.f80, go_sem, t0, t1, t2]
              · refine ⟨mat_put_below hBk _ _ _ (by omega), .inr ⟨all, HG.out.1, .inr ⟨⟨hd0, hd7⟩, _, by rw [HRC.out.1, HRC.out.2], ?_⟩⟩⟩
                rw [HRC.out.1, HRC.out.2]
                exact SliceIn.mono (ints_set (ints_set (ints_set HI.out (p := ⟨w.heap.size + 1, 0, none⟩) (by show ¬ w4.heap.size ≤ w.heap.size + 1; omega) _) (p := ⟨w.heap.size + 1, 1, none⟩) (by show ¬ w4.heap.size ≤ w.heap.size + 1; omega) _) (p := ⟨w.heap.size + 1, 2, none⟩) (by show ¬ w4.heap.size ≤ w.heap.size + 1; omega) _) (fun b _ hb => by have h9 : w4.heap.size ≤ b := hb; have := HBw4.out.size; omega)

theorem boundary_call {a : Nat → Addr} {s : Nat → ByteArray} (vl : Value) (l : List (List Int)) (dim : Int) (w : World) (hE : Errs a s w) (hl : Rows w vl l) (hll : l.length ≤ 100000) (hle : ∀ x ∈ l, x.length ≤ 1000) :
    Calls Tryz.prog 80 #[.agg #[vl], .int .i64 dim] w fun e w' => BoundG a l dim w e w' :=
  (boundary_own vl l dim w hE hl hll hle).mono fun e w' h => by
    rcases h with ⟨h1, h2 | ⟨all, h3, h4 | ⟨h5, v, h6, h7⟩⟩⟩
    · exact ⟨h1, .inl h2⟩
    · exact ⟨h1, .inr ⟨all, h3, .inl h4⟩⟩
    · exact ⟨h1, .inr ⟨all, h3, .inr ⟨h5, v, h6, h7.any⟩⟩⟩

end Go.Proofs.YtnnkmkhamipfiaaGreatDoor
