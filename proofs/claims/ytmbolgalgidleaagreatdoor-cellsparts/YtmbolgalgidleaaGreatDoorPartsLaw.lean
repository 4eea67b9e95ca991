/- CellsParts answers true of whatever sets, face and dimension. -/
import Derived.Test.YtmbolgalgidleaaGreatDoorRefParts2
import Derived.Test.YtmbolgalgidleaaGreatDoorPartsCalls2
import Derived.Test.YtmbolgalgidleaaGreatDoorCircleWalk
namespace Go.Proofs.YtmbolgalgidleaaGreatDoor
open Go.RowKit Go.Sort Go.Maps Go.Deep

/-- What ComplexError answers, with the error's value. -/
theorem error_k2 (CL : ClosedHolds) (a : Nat → Addr) (vl : Value) (l : List (List Int)) (w : World) (hl : Rows w vl l) (hll : l.length ≤ 100000) (hle : ∀ x ∈ l, x.length ≤ 1000) :
    Calls Tryz.prog 8 #[vl] w fun e w' => Below w.heap.size w w' ∧ ∃ ve n all, Kind a l ve n all ∧ e = .returned (.int .i64 n) ∧ (((n == 0) = false ∧ 0 < n ∧ all = [] ∧ ∃ i : Nat, BadAt l i ∧ ve = .iface 168 (.pointer (some (a i))) ∧ n = (i : Int) + 1) ∨ (n = 0 ∧ Good l all)) := by
  refine (error_g CL vl l w hl hll hle).mono ?_
  rintro e w' ⟨hB, ⟨i, hb, rfl⟩ | ⟨all, g, rfl⟩⟩
  · exact ⟨hB, _, _, [], .inl ⟨i, hb, rfl, rfl, rfl⟩, rfl, .inl ⟨beq_false_of_ne (by omega), by omega, rfl, i, hb, rfl, rfl⟩⟩
  · exact ⟨hB, _, _, all, .inr ⟨g, rfl, rfl⟩, rfl, .inr ⟨rfl, g⟩⟩

/-- What is told of sets and a face: the error's value and number. -/
def FState (a : Nat → Addr) (c : List (List Int)) (f : List Int) (all : List (List Int)) (ve : Value) (n : Int) : Prop :=
  (∃ i : Nat, PErr c f i ∧ ve = .iface 168 (.pointer (some (a i))) ∧ n = (i : Int) + 1) ∨ (Good c all ∧ f ∈ all ∧ ve = .nilIface ∧ n = 0)
theorem PErr.lt {c : List (List Int)} {f : List Int} {i : Nat} (h : PErr c f i) : i < 8 := by
  rcases h with h | ⟨rfl, _⟩
  · exact h.lt
  · decide
theorem perr_not {c all : List (List Int)} {f : List Int} {i : Nat} (h : PErr c f i) (g : Good c all) (hm : f ∈ all) : False := by
  rcases h with h | ⟨_, all', g', hn⟩
  · exact bad_good h g
  · exact hn (by rw [good_one g' g]; exact hm)
theorem perr_one {c : List (List Int)} {f : List Int} {i j : Nat} (h : PErr c f i) (h' : PErr c f j) : i = j := by
  rcases h with h | ⟨rfl, all, g, _⟩ <;> rcases h' with h' | ⟨rfl, all', g', _⟩
  · exact bad_one h h'
  · exact (bad_good h g').elim
  · exact (bad_good h' g).elim
  · rfl

/-- The number tells no error. -/
def IsZero (n : Int) : Prop := n = 0
/-- What the statements' made is asked of. -/
def MState (c all : List (List Int)) (n : Int) : Prop := (n = 0 ∧ Good c all) ∨ 0 < n
/-- An error's value and number. -/
def SState (a : Nat → Addr) (ve : Value) (n : Int) : Prop := (∃ i : Nat, i < 8 ∧ ve = .iface 168 (.pointer (some (a i))) ∧ n = (i : Int) + 1) ∨ (ve = .nilIface ∧ n = 0)

theorem star_k {a : Nat → Addr} {s : Nat → ByteArray} {c all : List (List Int)} {f : List Int} {ve : Value} {n : Int} (h : FState a c f all ve n) (vl vf : Value) (w : World) (hE : Errs a s w) (hl : Rows w vl c) (hll : c.length ≤ 100000) (hle : ∀ x ∈ c, x.length ≤ 1000) (hf : Ints w vf f) (hfl : f.length ≤ 1000) :
    Calls Tryz.prog 21 #[.agg #[vl], vf] w fun e w' => ∃ v L, e = .returned (.tuple #[.agg #[v], ve]) ∧ OwnRows w.heap.size w' v L ∧ Below w.heap.size w w' ∧ (IsZero n → IsFacets (starI all f) L) ∧ (¬ IsZero n → v = .slice none 0 0) := by
  refine (star_call vl vf c f w hE hl hll hle hf hfl).mono ?_
  rintro e w' ⟨hB, ⟨j, hj, rfl⟩ | ⟨v, L, ⟨all', g', hm', hL⟩, rfl, ho⟩⟩
  · rcases h with ⟨i, hi, rfl, rfl⟩ | ⟨g, hm, rfl, rfl⟩
    · rw [perr_one hi hj]; exact ⟨_, [], rfl, OwnRows.nil _ _, hB, fun h => absurd h (by unfold IsZero; omega), fun _ => rfl⟩
    · exact (perr_not hj g hm).elim
  · rcases h with ⟨i, hi, rfl, rfl⟩ | ⟨g, hm, rfl, rfl⟩
    · exact (perr_not hi g' hm').elim
    · obtain rfl := good_one g g'; exact ⟨v, L, rfl, ho, hB, fun _ => hL, fun h => absurd rfl h⟩
theorem link_k {a : Nat → Addr} {s : Nat → ByteArray} {c all : List (List Int)} {f : List Int} {ve : Value} {n : Int} (h : FState a c f all ve n) (vl vf : Value) (w : World) (hE : Errs a s w) (hl : Rows w vl c) (hll : c.length ≤ 100000) (hle : ∀ x ∈ c, x.length ≤ 1000) (hf : Ints w vf f) (hfl : f.length ≤ 1000) :
    Calls Tryz.prog 25 #[.agg #[vl], vf] w fun e w' => ∃ v L, e = .returned (.tuple #[.agg #[v], ve]) ∧ OwnRows w.heap.size w' v L ∧ Below w.heap.size w w' ∧ (IsZero n → IsFacets (linkI all f) L) ∧ (¬ IsZero n → v = .slice none 0 0) := by
  refine (link_call vl vf c f w hE hl hll hle hf hfl).mono ?_
  rintro e w' ⟨hB, ⟨j, hj, rfl⟩ | ⟨v, L, ⟨all', g', hm', hL⟩, rfl, ho⟩⟩
  · rcases h with ⟨i, hi, rfl, rfl⟩ | ⟨g, hm, rfl, rfl⟩
    · rw [perr_one hi hj]; exact ⟨_, [], rfl, OwnRows.nil _ _, hB, fun h => absurd h (by unfold IsZero; omega), fun _ => rfl⟩
    · exact (perr_not hj g hm).elim
  · rcases h with ⟨i, hi, rfl, rfl⟩ | ⟨g, hm, rfl, rfl⟩
    · exact (perr_not hi g' hm').elim
    · obtain rfl := good_one g g'; exact ⟨v, L, rfl, ho, hB, fun _ => hL, fun h => absurd rfl h⟩
theorem skel_k {a : Nat → Addr} {s : Nat → ByteArray} {c all : List (List Int)} {dim : Int} {ve : Value} {n : Int} (h : Kind a c ve n all) (vl : Value) (w : World) (hE : Errs a s w) (hl : Rows w vl c) (hll : c.length ≤ 100000) (hle : ∀ x ∈ c, x.length ≤ 1000) :
    Calls Tryz.prog 27 #[.agg #[vl], .int .i64 dim] w fun e w' => ∃ v L, e = .returned (.tuple #[.agg #[v], ve]) ∧ OwnRows w.heap.size w' v L ∧ Below w.heap.size w w' ∧ (IsZero n → IsFacets (lowI all dim) L) ∧ (¬ IsZero n → v = .slice none 0 0) := by
  refine (skel_call vl c dim w hE hl hll hle).mono ?_
  rintro e w' ⟨hB, ⟨j, hj, rfl⟩ | ⟨v, L, ⟨all', g', hL⟩, rfl, ho⟩⟩
  · rcases h with ⟨i, hi, rfl, rfl, rfl⟩ | ⟨g, rfl, rfl⟩
    · rw [bad_one hi hj]; exact ⟨_, [], rfl, OwnRows.nil _ _, hB, fun h => absurd h (by unfold IsZero; omega), fun _ => rfl⟩
    · exact (bad_good hj g).elim
  · rcases h with ⟨i, hi, rfl, rfl, rfl⟩ | ⟨g, rfl, rfl⟩
    · exact (bad_good hi g').elim
    · obtain rfl := good_one g g'; exact ⟨v, L, rfl, ho, hB, fun _ => hL, fun h => absurd rfl h⟩
theorem made_k (CL : ClosedHolds) {c all : List (List Int)} {n : Int} (h : MState c all n) (vl : Value) (l : List (List Int)) (w : World) (hl : Rows w vl l) (hs : ∀ x ∈ l, x ∈ all) (hll : l.length ≤ 100000) :
    Calls Tryz.prog 22 #[vl, .int .i64 n] w fun e w' => ∃ v, e = .returned (.tuple #[v, .int .i64 n]) ∧ Below w.heap.size w w' ∧ (IsZero n → ∃ L, Rows w' v L ∧ IsFacets l L ∧ L.length ≤ 1000000 ∧ ∀ x ∈ L, x.length ≤ 1000000) := by
  rcases h with ⟨rfl, g⟩ | h
  · refine (made_sub CL g vl l w hl hs hll).mono ?_
    rintro e w' ⟨v, L, rfl, h1, h2, h3, h4⟩
    exact ⟨v, rfl, h4, fun _ => ⟨L, h1, h2, h3⟩⟩
  · refine (made_err vl n w h).mono ?_
    rintro e w' ⟨rfl, rfl⟩
    exact ⟨_, rfl, Below.refl _ _, fun e => absurd e (by unfold IsZero; omega)⟩
/-- is answers true of an answer that is as wanted. -/
theorem is_k {a : Nat → Addr} {s : Nat → ByteArray} {ve vc vw : Value} {n : Int} (st : SState a ve n) {g L : List (List Int)} (w : World)
    (hv : ¬ IsZero n → vc = .slice none 0 0) (hc : Rows w vc L) (hL : IsZero n → IsFacets g L) (hw : IsZero n → ∃ L', Rows w vw L' ∧ IsFacets g L' ∧ L'.length ≤ 1000000 ∧ ∀ x ∈ L', x.length ≤ 1000000) (hE : Errs a s w) :
    Calls Tryz.prog 24 #[.agg #[vc], ve, vw, .int .i64 n] w fun e w' => e = .returned (.bool true) ∧ Below w.heap.size w w' := by
  rcases st with ⟨i, hi, rfl, rfl⟩ | ⟨rfl, rfl⟩
  · rw [hv (by unfold IsZero; omega)]
    exact is_err i hi vw w hE
  · obtain ⟨L', h1, h2, h3⟩ := hw rfl
    have e := facets_one (fun _ => Iff.rfl) (hL rfl) h2
    subst e
    exact is_ok vc vw L w hc h1 h3.1 h3.2

theorem lowI_succ {all : List (List Int)} {k : Nat} (hk : k < all.length) (dim : Int) : lowI (all.take (k + 1)) dim = lowI (all.take k) dim ++ (if ((all[k]?.getD []).length : Int) - 1 ≤ dim then [all[k]?.getD []] else []) := by
  unfold lowI
  rw [List.take_add_one, List.getElem?_eq_getElem hk, List.filter_append, Option.getD_some]
  congr 1
  by_cases h : (all[k].length : Int) - 1 ≤ dim <;> simp [h]
theorem ints_put2 {W : World} {base : Nat} {t : TypeId} {v : Value} {x : List Int} (h : W.ownsRow base t 1 v (0 + (x.map (Value.int .i64)).length) ([] ++ x.map (Value.int .i64))) : Ints W v x := by
  have := slice_of_owns (S := anyBlock) h (fun _ _ _ => trivial)
  rw [List.nil_append] at this
  exact this

set_option maxRecDepth 100000 in
set_option maxHeartbeats 16000000 in
theorem parts_law (CL : ClosedHolds) {a : Nat → Addr} {s : Nat → ByteArray} (vc vf : Value) (c : List (List Int)) (f : List Int) (dim : Int) (w : World) (hE : Errs a s w) (hc : Rows w vc c) (hf : Ints w vf f) :
    Calls Tryz.prog 4 #[vc, vf, .int .i64 dim] w fun e w' => e = .returned (.bool true) ∧ Below w.heap.size w w' := by
  obtain ⟨j0, hj0, hy0, hy1, hy2⟩ := info_parts Tryz.info3
  obtain ⟨i0, hi0, hz0, hz1, hz2⟩ := info_parts Tryz.info23
  have hci := circle_ w hE
  have HR : Hid (Rows w vc c) := hc
  have HF : Hid (Ints w vf f) := hf
  obtain ⟨af, cf, rfl, -, -⟩ := hf.open_
  clear hc hf
  go_enter Tryz.func4, Tryz.ntmps4
  go_wp2_with fail
  refine hci.mono ?_
  clear hci
  rintro e w1 ⟨rfl, hB1⟩
  have hli := little_ CL vc c 150 w1 (HR.out.below hB1)
  go_wp2_with fail
  refine hli.mono ?_
  clear hli
  rintro e w2 ⟨q, rfl, hB2, hq⟩
  have HB2 : Hid (Below w.heap.size w w2) := hB1.trans (hB2.mono hB1.size)
  cases q with
  | false =>
    clear hq
    go_wp2
    go_ret
    exact ⟨rfl, HB2.out⟩
  | true =>
    have hb := hq rfl
    have hb1 : c.length ≤ 100000 := by omega
    have hb2 : ∀ x ∈ c, x.length ≤ 1000 := fun x hx => by have := hb.2 x hx; omega
    clear hq hb
    by_cases h20 : 20 < f.length
    · go_wp2
      go_ret
      exact ⟨rfl, HB2.out⟩
    · have her := error_k2 CL a vc c w2 (HR.out.below HB2.out) hb1 hb2
      go_wp2_with fail
      refine her.mono ?_
      clear her
      rintro e w3 ⟨hB3, ve, n, all, hk, rfl, ⟨hn0, hn1, hall, i, hbad, hve, hni⟩ | ⟨rfl, hg⟩⟩
      · have HB0 : Hid (Below w.heap.size w w3) := HB2.out.trans (hB3.mono HB2.out.size)
        have HK : Hid (Kind a c ve n all) := hk
        have HA : Hid (Rows w3 (.slice none 0 0) all) := by
          show Rows w3 (.slice none 0 0) all
          rw [hall]; exact rows_nil w3
        have HFS : Hid (FState a c f all ve n) := .inl ⟨i, .inl hbad, hve, hni⟩
        have HST : Hid (SState a ve n) := .inl ⟨i, hbad.lt, hve, hni⟩
        have HSE := HST
        have HMF : Hid (MState c all n) := .inr hn1
        have HME := HMF
        have HRI : Hid (∀ x ∈ all, Rising x) := fun x hx => by rw [hall] at hx; cases hx
        clear hk hB1 hB2 hB3 HB2 hbad hve hni hall i
        have hE0 := hE.below HB0.out
        have HRc : Hid (Rows w3 vc c) := HR.out.below HB0.out
        have HFf : Hid (Ints w3 (.slice af f.length cf) f) := HF.out.below HB0.out
        have hl6 := HK.out.length
        have HS7 : Hid (∀ x ∈ all, x.length ≤ 7) := HK.out.short
        have HC3 : Hid (Below w3.heap.size w3 w3) := Below.refl _ _
        clear hE HR HF
        have hcx := cx_ _ c _ (HRc.out.below HC3.out) hb1 hb2
        go_wp2_with fail
        refine hcx.mono ?_
        clear hcx
        rintro e w4 ⟨v4, rfl, hrX, hBX⟩
        have HC4 : Hid (Below w3.heap.size w3 w4) := HC3.out.trans (hBX.mono HC3.out.size)
        have HR4 : Hid (Rows w4 v4 c) := hrX
        clear hrX hBX
        have hIf : Ints (w4.alloc (.cells #[] 3)) (.slice af f.length cf) f := (HFf.out.below HC4.out).below ((Below.refl _ w4).alloc (Nat.le_refl _) _)
        go_wp2_with (first
          | (at_builtin; refine wpList_append_slice rfl (.tmp 57) (.tmp 58) 23 rfl w4.heap.size 3 j0 (.int .i64 0) 8 Tryz.underlying23 hj0 hy0 hy1 hy2 rfl _ _ _ rfl (own_empty w4 3 w4.heap.size (Nat.le_refl _)) _ (f.map (Value.int .i64)) rfl hIf (ints_one f) (by simp; omega) (by unfold maxLen; simp; omega) (by simp) ?_; intro v5 w5 howX hgX hlX)
          | fail)
        have HI5 : Hid (Ints w5 v5 f) := ints_put2 howX
        have HB5 : Hid (Below w4.heap.size w4 w5) := ((Below.refl _ w4).alloc (Nat.le_refl _) _).grown hgX (by simp) (fun j hj => by cases hj; exact Nat.le_refl _)
        have HC5 : Hid (Below w3.heap.size w3 w5) := HC4.out.trans (HB5.out.mono HC4.out.size)
        clear howX hgX hlX hIf
        have hst := star_k HFS.out v4 v5 w5 (hE0.below HC5.out) (HR4.out.below HB5.out) hb1 hb2 HI5.out (by omega)
        clear HR4 HI5 HB5 HC4
        go_wp2_with fail
        refine hst.mono ?_
        clear hst
        rintro e w6 ⟨v6, L6, rfl, ho6, hB6, hz6, he6⟩
        have HC6 : Hid (Below w3.heap.size w3 w6) := HC5.out.trans (hB6.mono HC5.out.size)
        have HR6 : Hid (Rows w6 v6 L6) := ho6.rows
        obtain ⟨a6, p6, rfl, -, -⟩ := ho6.rows.open_
        have HZ6 : Hid (IsZero n → IsFacets (starI all f) L6) := hz6
        have HE6 : Hid (¬ IsZero n → Value.slice a6 L6.length p6 = .slice none 0 0) := he6
        have hbx := box_new w6 (.slice a6 L6.length p6) 34
        have HBa : Hid (Below w6.heap.size w6 (w6.alloc (.cells #[.slice a6 L6.length p6] 34))) := (Below.refl _ w6).alloc (Nat.le_refl _) _
        have HC6a : Hid (Below w3.heap.size w3 (w6.alloc (.cells #[.slice a6 L6.length p6] 34))) := HC6.out.trans (HBa.out.mono HC6.out.size)
        have h36 : w3.heap.size ≤ w6.heap.size := HC6.out.size
        have hso := star_of _ _ all f _ (HA.out.below HC6a.out) (HFf.out.below HC6a.out) (by omega) HS7.out HRI.out (by omega)
        clear ho6 hB6 hz6 he6 HC5
        go_wp2_with fail
        refine hso.mono ?_
        clear hso
        rintro e w7 ⟨v7, rfl, hr7, hB7⟩
        have HB7 : Hid (Below (w6.alloc (.cells #[.slice a6 L6.length p6] 34)).heap.size (w6.alloc (.cells #[.slice a6 L6.length p6] 34)) w7) := hB7
        have HC7 : Hid (Below w3.heap.size w3 w7) := HC6a.out.trans (hB7.mono HC6a.out.size)
        have hmk := made_k CL HMF.out v7 (starI all f) w7 hr7 (fun x hx => (List.mem_filter.1 hx).1) (by have := List.length_filter_le (fun x => uniB all x f) all; unfold starI; omega)
        clear hr7 hB7
        go_wp2_with fail
        refine hmk.mono ?_
        clear hmk
        rintro e w8 ⟨v8, rfl, hB8, hL8⟩
        have HB8 : Hid (Below (w6.alloc (.cells #[.slice a6 L6.length p6] 34)).heap.size (w6.alloc (.cells #[.slice a6 L6.length p6] 34)) w8) := HB7.out.trans (hB8.mono HB7.out.size)
        have HC8 : Hid (Below w3.heap.size w3 w8) := HC7.out.trans (hB8.mono HC7.out.size)
        have c8 : w8.cell? ⟨w6.heap.size, 0, none⟩ = some (.slice a6 L6.length p6) := (HB8.out.cell (p := ⟨w6.heap.size, 0, none⟩) (by simp)).trans hbx.1
        have his := is_k HST.out (vc := .slice a6 L6.length p6) w8 HE6.out ((HR6.out.below HBa.out).below HB8.out) HZ6.out hL8 (hE0.below HC8.out)
        clear hB8 hL8 HC7 HB7 HE6 HZ6 HR6
        go_wp2_with fail
        refine his.mono ?_
        clear his
        rintro e w9 ⟨rfl, hB9⟩
        have HB9 : Hid (Below (w6.alloc (.cells #[.slice a6 L6.length p6] 34)).heap.size (w6.alloc (.cells #[.slice a6 L6.length p6] 34)) w9) := HB8.out.trans (hB9.mono HB8.out.size)
        have HC9 : Hid (Below w3.heap.size w3 w9) := HC8.out.trans (hB9.mono HC8.out.size)
        clear hB9 HB8 HC8 c8
        have hcx := cx_ _ c _ (HRc.out.below HC9.out) hb1 hb2
        go_wp2_with fail
        refine hcx.mono ?_
        clear hcx
        rintro e w10 ⟨v10, rfl, hrX, hBX⟩
        have HC10 : Hid (Below w3.heap.size w3 w10) := HC9.out.trans (hBX.mono HC9.out.size)
        have HR10 : Hid (Rows w10 v10 c) := hrX
        have HBx : Hid (Below w9.heap.size w9 w10) := hBX
        clear hrX hBX
        have hIf : Ints (w10.alloc (.cells #[] 3)) (.slice af f.length cf) f := (HFf.out.below HC10.out).below ((Below.refl _ w10).alloc (Nat.le_refl _) _)
        go_wp2_with (first
          | (at_builtin; refine wpList_append_slice rfl (.tmp 79) (.tmp 80) 23 rfl w10.heap.size 3 j0 (.int .i64 0) 8 Tryz.underlying23 hj0 hy0 hy1 hy2 rfl _ _ _ rfl (own_empty w10 3 w10.heap.size (Nat.le_refl _)) _ (f.map (Value.int .i64)) rfl hIf (ints_one f) (by simp; omega) (by unfold maxLen; simp; omega) (by simp) ?_; intro v11 w11 howX hgX hlX)
          | fail)
        have HI11 : Hid (Ints w11 v11 f) := ints_put2 howX
        have HB11 : Hid (Below w10.heap.size w10 w11) := ((Below.refl _ w10).alloc (Nat.le_refl _) _).grown hgX (by simp) (fun j hj => by cases hj; exact Nat.le_refl _)
        have HC11 : Hid (Below w3.heap.size w3 w11) := HC10.out.trans (HB11.out.mono HC10.out.size)
        clear howX hgX hlX hIf
        have hlk := link_k HFS.out v10 v11 w11 (hE0.below HC11.out) (HR10.out.below HB11.out) hb1 hb2 HI11.out (by omega)
        have HB911 : Hid (Below w9.heap.size w9 w11) := HBx.out.trans (HB11.out.mono HBx.out.size)
        clear HR10 HI11 HB11 HC10
        go_wp2_with fail
        refine hlk.mono ?_
        clear hlk
        rintro e w12 ⟨v12, L12, rfl, ho12, hB12, hz12, he12⟩
        have HB12 : Hid (Below (w6.alloc (.cells #[.slice a6 L6.length p6] 34)).heap.size (w6.alloc (.cells #[.slice a6 L6.length p6] 34)) w12) := (HB9.out.trans (HB911.out.mono HB9.out.size)).trans (hB12.mono (Nat.le_trans HB9.out.size HB911.out.size))
        have HC12 : Hid (Below w3.heap.size w3 w12) := HC11.out.trans (hB12.mono HC11.out.size)
        have h611 : w6.heap.size + 1 ≤ w11.heap.size := by have h1 := HB9.out.size; have h2 := HB911.out.size; simp at h1; omega
        obtain ⟨a12, p12, rfl, -, -⟩ := ho12.rows.open_
        have HO12 : Hid (OwnRows w11.heap.size w12 (.slice a12 L12.length p12) L12) := ho12
        have HZ12 : Hid (IsZero n → IsFacets (linkI all f) L12) := hz12
        have HE12 : Hid (¬ IsZero n → Value.slice a12 L12.length p12 = .slice none 0 0) := he12
        have c12 : w12.cell? ⟨w6.heap.size, 0, none⟩ = some (.slice a6 L6.length p6) := (HB12.out.cell (p := ⟨w6.heap.size, 0, none⟩) (by simp)).trans hbx.1
        have z12 : w12.frozen? ⟨w6.heap.size, 0, none⟩ = false := (HB12.out.frozen (p := ⟨w6.heap.size, 0, none⟩) (by simp)).trans hbx.2
        have d12 := World.cell?_setCell_same' w12 ⟨w6.heap.size, 0, none⟩ (.slice a12 L12.length p12) (by rw [c12]; rfl)
        have f12 : (w12.setCell ⟨w6.heap.size, 0, none⟩ (.slice a12 L12.length p12)).frozen? ⟨w6.heap.size, 0, none⟩ = false := by rw [World.frozen?_setCell]; exact z12
        have HC13 : Hid (Below w3.heap.size w3 (w12.setCell ⟨w6.heap.size, 0, none⟩ (.slice a12 L12.length p12))) := HC12.out.setCell (p := ⟨w6.heap.size, 0, none⟩) h36 _
        have HR13 : Hid (Rows (w12.setCell ⟨w6.heap.size, 0, none⟩ (.slice a12 L12.length p12)) (.slice a12 L12.length p12) L12) := (HO12.out.setCell (p := ⟨w6.heap.size, 0, none⟩) (by show w6.heap.size < w11.heap.size; omega) _).rows
        have hs13 : w6.heap.size < (w12.setCell ⟨w6.heap.size, 0, none⟩ (.slice a12 L12.length p12)).heap.size := cell_lt d12
        have hlo := link_of _ _ all f _ (HA.out.below HC13.out) (HFf.out.below HC13.out) (by omega) HS7.out HRI.out (by omega)
        clear ho12 hB12 hz12 he12 HC11 HB911 HB9 HBx
        go_wp2_with fail
        refine hlo.mono ?_
        clear hlo
        rintro e w14 ⟨v14, rfl, hr14, hB14⟩
        have HD14 : Hid (Below (w12.setCell ⟨w6.heap.size, 0, none⟩ (.slice a12 L12.length p12)).heap.size (w12.setCell ⟨w6.heap.size, 0, none⟩ (.slice a12 L12.length p12)) w14) := hB14
        have HC14 : Hid (Below w3.heap.size w3 w14) := HC13.out.trans (hB14.mono HC13.out.size)
        have hmk := made_k CL HMF.out v14 (linkI all f) w14 hr14 (fun x hx => (List.mem_filter.1 hx).1) (by have := List.length_filter_le (linkB all f) all; unfold linkI; omega)
        clear hr14 hB14
        go_wp2_with fail
        refine hmk.mono ?_
        clear hmk
        rintro e w15 ⟨v15, rfl, hB15, hL15⟩
        have HD15 : Hid (Below (w12.setCell ⟨w6.heap.size, 0, none⟩ (.slice a12 L12.length p12)).heap.size (w12.setCell ⟨w6.heap.size, 0, none⟩ (.slice a12 L12.length p12)) w15) := HD14.out.trans (hB15.mono HD14.out.size)
        have HC15 : Hid (Below w3.heap.size w3 w15) := HC14.out.trans (hB15.mono HC14.out.size)
        have c15 : w15.cell? ⟨w6.heap.size, 0, none⟩ = some (.slice a12 L12.length p12) := (HD15.out.cell (p := ⟨w6.heap.size, 0, none⟩) hs13).trans d12
        have his := is_k HST.out (vc := .slice a12 L12.length p12) w15 HE12.out (HR13.out.below HD15.out) HZ12.out hL15 (hE0.below HC15.out)
        clear hB15 hL15 HC14 HD14 HE12 HZ12 HR13 HO12
        go_wp2_with fail
        refine his.mono ?_
        clear his
        rintro e w16 ⟨rfl, hB16⟩
        have HD16 : Hid (Below (w12.setCell ⟨w6.heap.size, 0, none⟩ (.slice a12 L12.length p12)).heap.size (w12.setCell ⟨w6.heap.size, 0, none⟩ (.slice a12 L12.length p12)) w16) := HD15.out.trans (hB16.mono HD15.out.size)
        have HC16 : Hid (Below w3.heap.size w3 w16) := HC15.out.trans (hB16.mono HC15.out.size)
        have c16 : w16.cell? ⟨w6.heap.size, 0, none⟩ = some (.slice a12 L12.length p12) := (HD16.out.cell (p := ⟨w6.heap.size, 0, none⟩) hs13).trans d12
        have z16 : w16.frozen? ⟨w6.heap.size, 0, none⟩ = false := (HD16.out.frozen (p := ⟨w6.heap.size, 0, none⟩) hs13).trans f12
        have h616 : w6.heap.size < w16.heap.size := cell_lt c16
        obtain ⟨aa, pa, ea, -, hca⟩ := HA.out.open_
        clear hB16 HD15 HC15 c15 HD16 d12 f12 hs13 c12 z12 HC12 HC13 HB12 hbx HBa HC6a HC6
        have HL0 : Hid (all.length = 0) := by
          show all.length = 0
          simp at ea
          exact ea.2.1.symm
        clear ea
        go_wp2
        go_loopw [18, 19] (fun v p W => ∃ (k : Nat) (us : List Value), k ≤ all.length ∧ p = .int .i64 k ∧ W.ownsRow w16.heap.size 23 1 v us.length us ∧ Heads w3 us (lowI (all.take k) dim) ∧ Below w16.heap.size w16 W)
          (fun _ p _ => all.length - (intOf p).toNat)
        case atStart => exact ⟨0, [], by omega, rfl, World.ownsRow_nil _ _ _ _, ⟨by simp [lowI], fun k u x h => by simp at h⟩, Below.refl _ _⟩
        case round =>
          obtain ⟨k, us, hk, rfl, hown, hh, hB⟩ := hrel
          have HH : Hid (Heads w3 us (lowI (all.take k) dim)) := hh
          have hul : us.length ≤ 1000 := by have h1 := hh.1; have h2 := List.length_filter_le (fun x : List Int => decide ((x.length : Int) - 1 ≤ dim)) (all.take k); unfold lowI at h1; simp at h2; omega
          have HCr : Hid (Below w3.heap.size w3 wr) := HC16.out.trans (hB.mono HC16.out.size)
          clear hh
          by_cases hlt : k < all.length
          · exact absurd hlt (by have := HL0.out; omega)
          · obtain rfl : k = all.length := by omega
            have hh := HH.out
            rw [List.take_length] at hh
            have HHF : Hid (Heads w3 us (lowI all dim)) := hh
            have HOW : Hid (wr.ownsRow w16.heap.size 23 1 u18 us.length us) := hown
            clear hh hown hca
            have hcx := cx_ _ c _ (HRc.out.below HCr.out) hb1 hb2
            go_wp2_with fail
            refine hcx.mono ?_
            clear hcx
            rintro e w20 ⟨v20, rfl, hrX, hBX⟩
            have HC20 : Hid (Below w3.heap.size w3 w20) := HCr.out.trans (hBX.mono HCr.out.size)
            have HR20 : Hid (Rows w20 v20 c) := hrX
            have HBy : Hid (Below wr.heap.size wr w20) := hBX
            clear hrX hBX
            have hsk := skel_k (dim := dim) HK.out v20 w20 (hE0.below HC20.out) HR20.out hb1 hb2
            go_wp2_with fail
            refine hsk.mono ?_
            clear hsk
            rintro e w21 ⟨v21, L21, rfl, ho21, hB21, hz21, he21⟩
            have HC21 : Hid (Below w3.heap.size w3 w21) := HC20.out.trans (hB21.mono HC20.out.size)
            have HBr : Hid (Below wr.heap.size wr w21) := HBy.out.trans (hB21.mono HBy.out.size)
            have h620 : w6.heap.size < w20.heap.size := by have h1 := hB.size; have h2 := HBy.out.size; omega
            have h6r : w6.heap.size < wr.heap.size := by have h1 := hB.size; omega
            obtain ⟨a21, p21, rfl, -, -⟩ := ho21.rows.open_
            have HO21 : Hid (OwnRows w20.heap.size w21 (.slice a21 L21.length p21) L21) := ho21
            have HZ21 : Hid (IsZero n → IsFacets (lowI all dim) L21) := hz21
            have HE21 : Hid (¬ IsZero n → Value.slice a21 L21.length p21 = .slice none 0 0) := he21
            have c21 : w21.cell? ⟨w6.heap.size, 0, none⟩ = some (.slice a12 L12.length p12) := (HBr.out.cell (p := ⟨w6.heap.size, 0, none⟩) h6r).trans ((hB.cell (p := ⟨w6.heap.size, 0, none⟩) h616).trans c16)
            have z21 : w21.frozen? ⟨w6.heap.size, 0, none⟩ = false := (HBr.out.frozen (p := ⟨w6.heap.size, 0, none⟩) h6r).trans ((hB.frozen (p := ⟨w6.heap.size, 0, none⟩) h616).trans z16)
            have d21 := World.cell?_setCell_same' w21 ⟨w6.heap.size, 0, none⟩ (.slice a21 L21.length p21) (by rw [c21]; rfl)
            have HC22 : Hid (Below w3.heap.size w3 (w21.setCell ⟨w6.heap.size, 0, none⟩ (.slice a21 L21.length p21))) := HC21.out.setCell (p := ⟨w6.heap.size, 0, none⟩) h36 _
            have HR22 : Hid (Rows (w21.setCell ⟨w6.heap.size, 0, none⟩ (.slice a21 L21.length p21)) (.slice a21 L21.length p21) L21) := (HO21.out.setCell (p := ⟨w6.heap.size, 0, none⟩) (by show w6.heap.size < w20.heap.size; omega) _).rows
            have hs22 : w6.heap.size < (w21.setCell ⟨w6.heap.size, 0, none⟩ (.slice a21 L21.length p21)).heap.size := cell_lt d21
            have hlow : Rows (w21.setCell ⟨w6.heap.size, 0, none⟩ (.slice a21 L21.length p21)) u18 (lowI all dim) :=
              HHF.out.rows HC22.out (ownsRow_setCell_below (HOW.out.kept (Below.grownBy HBr.out) (by cases Value.ownBlock _ <;> simp)) (a := ⟨w6.heap.size, 0, none⟩) h616 _)
            have hmk := made_k CL HME.out u18 (lowI all dim) _ hlow (fun x hx => (List.mem_filter.1 hx).1) (by have := List.length_filter_le (fun x : List Int => decide ((x.length : Int) - 1 ≤ dim)) all; unfold lowI; omega)
            clear ho21 hB21 hz21 he21 HC20 HBy hlow HO21
            go_wp2_with fail
            refine hmk.mono ?_
            clear hmk
            rintro e w23 ⟨v23, rfl, hB23, hL23⟩
            have HC23 : Hid (Below w3.heap.size w3 w23) := HC22.out.trans (hB23.mono HC22.out.size)
            have c23 : w23.cell? ⟨w6.heap.size, 0, none⟩ = some (.slice a21 L21.length p21) := (hB23.cell (p := ⟨w6.heap.size, 0, none⟩) hs22).trans d21
            have his := is_k HSE.out (vc := .slice a21 L21.length p21) w23 HE21.out (HR22.out.below hB23) HZ21.out hL23 (hE0.below HC23.out)
            clear hB23 hL23 HE21 HZ21 HR22
            go_wp2_with fail
            refine his.mono ?_
            clear his
            rintro e w24 ⟨rfl, hB24⟩
            have HC24 : Hid (Below w3.heap.size w3 w24) := HC23.out.trans (hB24.mono HC23.out.size)
            go_wp2
            go_ret
            exact ⟨rfl, HB0.out.trans (HC24.out.mono HB0.out.size)⟩
      · have HB3 : Hid (Below w.heap.size w w3) := HB2.out.trans (hB3.mono HB2.out.size)
        have hcl := closed_g CL vc c all w3 (HR.out.below HB3.out) hb1 hb2 hg
        have HK : Hid (Kind a c ve 0 all) := hk
        have HGG : Hid (Good c all) := hg
        have HVE : Hid (ve = .nilIface) := by
          show ve = .nilIface
          rcases hk with ⟨i, _, _, h, _⟩ | ⟨_, h, _⟩
          · omega
          · exact h
        clear hk hg hB1 hB2 hB3 HB2
        go_wp2_with fail
        refine hcl.mono ?_
        clear hcl
        rintro e wq ⟨vall, rfl, hra, hBc⟩
        have HBc : Hid (Below w.heap.size w wq) := HB3.out.trans (hBc.mono HB3.out.size)
        have hio := index_of vall (.slice af f.length cf) all f wq hra (HF.out.below HBc.out) (by have := HGG.out.length; omega) (fun x hx => by have := HGG.out.short x hx; omega)
        have HA0 : Hid (Rows wq vall all) := hra
        clear hra hBc HB3
        go_wp2_with fail
        refine hio.mono ?_
        clear hio
        rintro e w3 ⟨i, rfl, hii, -, q3, hw3⟩
        have hd : Below wq.heap.size wq w3 := by rw [hw3]; exact ⟨rfl, rfl, rfl, Nat.le_refl _, fun _ _ => rfl⟩
        have HB0 : Hid (Below w.heap.size w w3) := HBc.out.trans (hd.mono HBc.out.size)
        have HA : Hid (Rows w3 vall all) := HA0.out.below hd
        have HSE : Hid (SState a ve 0) := .inr ⟨HVE.out, rfl⟩
        have HME : Hid (MState c all 0) := .inl ⟨rfl, HGG.out⟩
        have HRI : Hid (∀ x ∈ all, Rising x) := HGG.out.rising
        clear hw3 hd HA0 HBc
        by_cases hfm : f ∈ all
        · have hi1 : 0 ≤ i := hii.2 hfm
          have HFS : Hid (FState a c f all ve 0) := .inr ⟨HGG.out, hfm, HVE.out, rfl⟩
          have HST := HSE
          have HMF := HME
          clear hii hfm
          have hE0 := hE.below HB0.out
          have HRc : Hid (Rows w3 vc c) := HR.out.below HB0.out
          have HFf : Hid (Ints w3 (.slice af f.length cf) f) := HF.out.below HB0.out
          have hl6 := HK.out.length
          have HS7 : Hid (∀ x ∈ all, x.length ≤ 7) := HK.out.short
          have HC3 : Hid (Below w3.heap.size w3 w3) := Below.refl _ _
          clear hE HR HF
          have hcx := cx_ _ c _ (HRc.out.below HC3.out) hb1 hb2
          go_wp2_with fail
          refine hcx.mono ?_
          clear hcx
          rintro e w4 ⟨v4, rfl, hrX, hBX⟩
          have HC4 : Hid (Below w3.heap.size w3 w4) := HC3.out.trans (hBX.mono HC3.out.size)
          have HR4 : Hid (Rows w4 v4 c) := hrX
          clear hrX hBX
          have hIf : Ints (w4.alloc (.cells #[] 3)) (.slice af f.length cf) f := (HFf.out.below HC4.out).below ((Below.refl _ w4).alloc (Nat.le_refl _) _)
          go_wp2_with (first
            | (at_builtin; refine wpList_append_slice rfl (.tmp 57) (.tmp 58) 23 rfl w4.heap.size 3 j0 (.int .i64 0) 8 Tryz.underlying23 hj0 hy0 hy1 hy2 rfl _ _ _ rfl (own_empty w4 3 w4.heap.size (Nat.le_refl _)) _ (f.map (Value.int .i64)) rfl hIf (ints_one f) (by simp; omega) (by unfold maxLen; simp; omega) (by simp) ?_; intro v5 w5 howX hgX hlX)
            | fail)
          have HI5 : Hid (Ints w5 v5 f) := ints_put2 howX
          have HB5 : Hid (Below w4.heap.size w4 w5) := ((Below.refl _ w4).alloc (Nat.le_refl _) _).grown hgX (by simp) (fun j hj => by cases hj; exact Nat.le_refl _)
          have HC5 : Hid (Below w3.heap.size w3 w5) := HC4.out.trans (HB5.out.mono HC4.out.size)
          clear howX hgX hlX hIf
          have hst := star_k HFS.out v4 v5 w5 (hE0.below HC5.out) (HR4.out.below HB5.out) hb1 hb2 HI5.out (by omega)
          clear HR4 HI5 HB5 HC4
          go_wp2_with fail
          refine hst.mono ?_
          clear hst
          rintro e w6 ⟨v6, L6, rfl, ho6, hB6, hz6, he6⟩
          have HC6 : Hid (Below w3.heap.size w3 w6) := HC5.out.trans (hB6.mono HC5.out.size)
          have HR6 : Hid (Rows w6 v6 L6) := ho6.rows
          obtain ⟨a6, p6, rfl, -, -⟩ := ho6.rows.open_
          have HZ6 : Hid (IsZero (0 : Int) → IsFacets (starI all f) L6) := hz6
          have HE6 : Hid (¬ IsZero (0 : Int) → Value.slice a6 L6.length p6 = .slice none 0 0) := he6
          have hbx := box_new w6 (.slice a6 L6.length p6) 34
          have HBa : Hid (Below w6.heap.size w6 (w6.alloc (.cells #[.slice a6 L6.length p6] 34))) := (Below.refl _ w6).alloc (Nat.le_refl _) _
          have HC6a : Hid (Below w3.heap.size w3 (w6.alloc (.cells #[.slice a6 L6.length p6] 34))) := HC6.out.trans (HBa.out.mono HC6.out.size)
          have h36 : w3.heap.size ≤ w6.heap.size := HC6.out.size
          have hso := star_of _ _ all f _ (HA.out.below HC6a.out) (HFf.out.below HC6a.out) (by omega) HS7.out HRI.out (by omega)
          clear ho6 hB6 hz6 he6 HC5
          go_wp2_with fail
          refine hso.mono ?_
          clear hso
          rintro e w7 ⟨v7, rfl, hr7, hB7⟩
          have HB7 : Hid (Below (w6.alloc (.cells #[.slice a6 L6.length p6] 34)).heap.size (w6.alloc (.cells #[.slice a6 L6.length p6] 34)) w7) := hB7
          have HC7 : Hid (Below w3.heap.size w3 w7) := HC6a.out.trans (hB7.mono HC6a.out.size)
          have hmk := made_k CL HMF.out v7 (starI all f) w7 hr7 (fun x hx => (List.mem_filter.1 hx).1) (by have := List.length_filter_le (fun x => uniB all x f) all; unfold starI; omega)
          clear hr7 hB7
          go_wp2_with fail
          refine hmk.mono ?_
          clear hmk
          rintro e w8 ⟨v8, rfl, hB8, hL8⟩
          have HB8 : Hid (Below (w6.alloc (.cells #[.slice a6 L6.length p6] 34)).heap.size (w6.alloc (.cells #[.slice a6 L6.length p6] 34)) w8) := HB7.out.trans (hB8.mono HB7.out.size)
          have HC8 : Hid (Below w3.heap.size w3 w8) := HC7.out.trans (hB8.mono HC7.out.size)
          have c8 : w8.cell? ⟨w6.heap.size, 0, none⟩ = some (.slice a6 L6.length p6) := (HB8.out.cell (p := ⟨w6.heap.size, 0, none⟩) (by simp)).trans hbx.1
          have his := is_k HST.out (vc := .slice a6 L6.length p6) w8 HE6.out ((HR6.out.below HBa.out).below HB8.out) HZ6.out hL8 (hE0.below HC8.out)
          clear hB8 hL8 HC7 HB7 HE6 HZ6 HR6
          go_wp2_with fail
          refine his.mono ?_
          clear his
          rintro e w9 ⟨rfl, hB9⟩
          have HB9 : Hid (Below (w6.alloc (.cells #[.slice a6 L6.length p6] 34)).heap.size (w6.alloc (.cells #[.slice a6 L6.length p6] 34)) w9) := HB8.out.trans (hB9.mono HB8.out.size)
          have HC9 : Hid (Below w3.heap.size w3 w9) := HC8.out.trans (hB9.mono HC8.out.size)
          clear hB9 HB8 HC8 c8
          have hcx := cx_ _ c _ (HRc.out.below HC9.out) hb1 hb2
          go_wp2_with fail
          refine hcx.mono ?_
          clear hcx
          rintro e w10 ⟨v10, rfl, hrX, hBX⟩
          have HC10 : Hid (Below w3.heap.size w3 w10) := HC9.out.trans (hBX.mono HC9.out.size)
          have HR10 : Hid (Rows w10 v10 c) := hrX
          have HBx : Hid (Below w9.heap.size w9 w10) := hBX
          clear hrX hBX
          have hIf : Ints (w10.alloc (.cells #[] 3)) (.slice af f.length cf) f := (HFf.out.below HC10.out).below ((Below.refl _ w10).alloc (Nat.le_refl _) _)
          go_wp2_with (first
            | (at_builtin; refine wpList_append_slice rfl (.tmp 79) (.tmp 80) 23 rfl w10.heap.size 3 j0 (.int .i64 0) 8 Tryz.underlying23 hj0 hy0 hy1 hy2 rfl _ _ _ rfl (own_empty w10 3 w10.heap.size (Nat.le_refl _)) _ (f.map (Value.int .i64)) rfl hIf (ints_one f) (by simp; omega) (by unfold maxLen; simp; omega) (by simp) ?_; intro v11 w11 howX hgX hlX)
            | fail)
          have HI11 : Hid (Ints w11 v11 f) := ints_put2 howX
          have HB11 : Hid (Below w10.heap.size w10 w11) := ((Below.refl _ w10).alloc (Nat.le_refl _) _).grown hgX (by simp) (fun j hj => by cases hj; exact Nat.le_refl _)
          have HC11 : Hid (Below w3.heap.size w3 w11) := HC10.out.trans (HB11.out.mono HC10.out.size)
          clear howX hgX hlX hIf
          have hlk := link_k HFS.out v10 v11 w11 (hE0.below HC11.out) (HR10.out.below HB11.out) hb1 hb2 HI11.out (by omega)
          have HB911 : Hid (Below w9.heap.size w9 w11) := HBx.out.trans (HB11.out.mono HBx.out.size)
          clear HR10 HI11 HB11 HC10
          go_wp2_with fail
          refine hlk.mono ?_
          clear hlk
          rintro e w12 ⟨v12, L12, rfl, ho12, hB12, hz12, he12⟩
          have HB12 : Hid (Below (w6.alloc (.cells #[.slice a6 L6.length p6] 34)).heap.size (w6.alloc (.cells #[.slice a6 L6.length p6] 34)) w12) := (HB9.out.trans (HB911.out.mono HB9.out.size)).trans (hB12.mono (Nat.le_trans HB9.out.size HB911.out.size))
          have HC12 : Hid (Below w3.heap.size w3 w12) := HC11.out.trans (hB12.mono HC11.out.size)
          have h611 : w6.heap.size + 1 ≤ w11.heap.size := by have h1 := HB9.out.size; have h2 := HB911.out.size; simp at h1; omega
          obtain ⟨a12, p12, rfl, -, -⟩ := ho12.rows.open_
          have HO12 : Hid (OwnRows w11.heap.size w12 (.slice a12 L12.length p12) L12) := ho12
          have HZ12 : Hid (IsZero (0 : Int) → IsFacets (linkI all f) L12) := hz12
          have HE12 : Hid (¬ IsZero (0 : Int) → Value.slice a12 L12.length p12 = .slice none 0 0) := he12
          have c12 : w12.cell? ⟨w6.heap.size, 0, none⟩ = some (.slice a6 L6.length p6) := (HB12.out.cell (p := ⟨w6.heap.size, 0, none⟩) (by simp)).trans hbx.1
          have z12 : w12.frozen? ⟨w6.heap.size, 0, none⟩ = false := (HB12.out.frozen (p := ⟨w6.heap.size, 0, none⟩) (by simp)).trans hbx.2
          have d12 := World.cell?_setCell_same' w12 ⟨w6.heap.size, 0, none⟩ (.slice a12 L12.length p12) (by rw [c12]; rfl)
          have f12 : (w12.setCell ⟨w6.heap.size, 0, none⟩ (.slice a12 L12.length p12)).frozen? ⟨w6.heap.size, 0, none⟩ = false := by rw [World.frozen?_setCell]; exact z12
          have HC13 : Hid (Below w3.heap.size w3 (w12.setCell ⟨w6.heap.size, 0, none⟩ (.slice a12 L12.length p12))) := HC12.out.setCell (p := ⟨w6.heap.size, 0, none⟩) h36 _
          have HR13 : Hid (Rows (w12.setCell ⟨w6.heap.size, 0, none⟩ (.slice a12 L12.length p12)) (.slice a12 L12.length p12) L12) := (HO12.out.setCell (p := ⟨w6.heap.size, 0, none⟩) (by show w6.heap.size < w11.heap.size; omega) _).rows
          have hs13 : w6.heap.size < (w12.setCell ⟨w6.heap.size, 0, none⟩ (.slice a12 L12.length p12)).heap.size := cell_lt d12
          have hlo := link_of _ _ all f _ (HA.out.below HC13.out) (HFf.out.below HC13.out) (by omega) HS7.out HRI.out (by omega)
          clear ho12 hB12 hz12 he12 HC11 HB911 HB9 HBx
          go_wp2_with fail
          refine hlo.mono ?_
          clear hlo
          rintro e w14 ⟨v14, rfl, hr14, hB14⟩
          have HD14 : Hid (Below (w12.setCell ⟨w6.heap.size, 0, none⟩ (.slice a12 L12.length p12)).heap.size (w12.setCell ⟨w6.heap.size, 0, none⟩ (.slice a12 L12.length p12)) w14) := hB14
          have HC14 : Hid (Below w3.heap.size w3 w14) := HC13.out.trans (hB14.mono HC13.out.size)
          have hmk := made_k CL HMF.out v14 (linkI all f) w14 hr14 (fun x hx => (List.mem_filter.1 hx).1) (by have := List.length_filter_le (linkB all f) all; unfold linkI; omega)
          clear hr14 hB14
          go_wp2_with fail
          refine hmk.mono ?_
          clear hmk
          rintro e w15 ⟨v15, rfl, hB15, hL15⟩
          have HD15 : Hid (Below (w12.setCell ⟨w6.heap.size, 0, none⟩ (.slice a12 L12.length p12)).heap.size (w12.setCell ⟨w6.heap.size, 0, none⟩ (.slice a12 L12.length p12)) w15) := HD14.out.trans (hB15.mono HD14.out.size)
          have HC15 : Hid (Below w3.heap.size w3 w15) := HC14.out.trans (hB15.mono HC14.out.size)
          have c15 : w15.cell? ⟨w6.heap.size, 0, none⟩ = some (.slice a12 L12.length p12) := (HD15.out.cell (p := ⟨w6.heap.size, 0, none⟩) hs13).trans d12
          have his := is_k HST.out (vc := .slice a12 L12.length p12) w15 HE12.out (HR13.out.below HD15.out) HZ12.out hL15 (hE0.below HC15.out)
          clear hB15 hL15 HC14 HD14 HE12 HZ12 HR13 HO12
          go_wp2_with fail
          refine his.mono ?_
          clear his
          rintro e w16 ⟨rfl, hB16⟩
          have HD16 : Hid (Below (w12.setCell ⟨w6.heap.size, 0, none⟩ (.slice a12 L12.length p12)).heap.size (w12.setCell ⟨w6.heap.size, 0, none⟩ (.slice a12 L12.length p12)) w16) := HD15.out.trans (hB16.mono HD15.out.size)
          have HC16 : Hid (Below w3.heap.size w3 w16) := HC15.out.trans (hB16.mono HC15.out.size)
          have c16 : w16.cell? ⟨w6.heap.size, 0, none⟩ = some (.slice a12 L12.length p12) := (HD16.out.cell (p := ⟨w6.heap.size, 0, none⟩) hs13).trans d12
          have z16 : w16.frozen? ⟨w6.heap.size, 0, none⟩ = false := (HD16.out.frozen (p := ⟨w6.heap.size, 0, none⟩) hs13).trans f12
          have h616 : w6.heap.size < w16.heap.size := cell_lt c16
          obtain ⟨aa, pa, ea, -, hca⟩ := HA.out.open_
          clear hB16 HD15 HC15 c15 HD16 d12 f12 hs13 c12 z12 HC12 HC13 HB12 hbx HBa HC6a HC6
          subst ea
          go_wp2
          go_loopw [18, 19] (fun v p W => ∃ (k : Nat) (us : List Value), k ≤ all.length ∧ p = .int .i64 k ∧ W.ownsRow w16.heap.size 23 1 v us.length us ∧ Heads w3 us (lowI (all.take k) dim) ∧ Below w16.heap.size w16 W)
            (fun _ p _ => all.length - (intOf p).toNat)
          case atStart => exact ⟨0, [], by omega, rfl, World.ownsRow_nil _ _ _ _, ⟨by simp [lowI], fun k u x h => by simp at h⟩, Below.refl _ _⟩
          case round =>
            obtain ⟨k, us, hk, rfl, hown, hh, hB⟩ := hrel
            have HH : Hid (Heads w3 us (lowI (all.take k) dim)) := hh
            have hul : us.length ≤ 1000 := by have h1 := hh.1; have h2 := List.length_filter_le (fun x : List Int => decide ((x.length : Int) - 1 ≤ dim)) (all.take k); unfold lowI at h1; simp at h2; omega
            have HCr : Hid (Below w3.heap.size w3 wr) := HC16.out.trans (hB.mono HC16.out.size)
            clear hh
            by_cases hlt : k < all.length
            · obtain ⟨b, o, rfl, -, hb, cc⟩ := hca (by omega)
              obtain ⟨a1, p1, g1, i1⟩ := cc k hlt
              have hlen : (all[k]?.getD []).length ≤ 7 := HS7.out _ (by rw [List.getElem?_eq_getElem hlt]; simp)
              have hst := lowI_succ hlt dim
              obtain ⟨x, hxe⟩ : ∃ x, all[k]?.getD [] = x := ⟨_, rfl⟩
              rw [hxe] at g1 i1 hlen hst
              have g2 : wr.cell? ⟨b, o + k, none⟩ = some (.slice a1 x.length p1) := (HCr.out.cell (p := ⟨b, o + k, none⟩) hb).trans g1
              have HI1 : Hid (Ints w3 (.slice a1 x.length p1) x) := i1
              have HLS : Hid (lowI (all.take (k + 1)) dim = lowI (all.take k) dim ++ (if (x.length : Int) - 1 ≤ dim then [x] else [])) := hst
              have hbs := hB.size
              clear hxe i1 g1 hst hca cc
              by_cases hd : (x.length : Int) - 1 ≤ dim
              · have HD : Hid ((x.length : Int) - 1 ≤ dim) := hd
                go_wp2_with (first
                  | (at_builtin; refine wpList_append_slice rfl (.tmp 112) (.tmp 117) 22 rfl w16.heap.size 23 i0 (.slice none 0 0) 24 Tryz.underlying22 hi0 hz0 hz1 hz2 rfl _ _ _ rfl (hown.alloc _) _ [.slice a1 x.length p1] rfl (slice_one _ _ _) (by simp [Value.oneCell']) (by simp; omega) (by unfold maxLen; simp; omega) (by simp; omega) ?_; intro v17 w17 hown17 hg17 hl17)
                  | go_in)
                (try go_frame)
                have hR1 : w17.ownsRow w16.heap.size 23 1 v17 (us ++ [Value.slice a1 x.length p1]).length (us ++ [.slice a1 x.length p1]) := by simpa using hown17
                have hR2 : Heads w3 (us ++ [.slice a1 x.length p1]) (lowI (all.take (k + 1)) dim) := by rw [HLS.out, if_pos HD.out]; exact HH.out.snoc HI1.out
                have hR3 : Below w16.heap.size w16 w17 := (hB.alloc hbs _).grown hg17 (by simp; omega) (fun j hj => (hown.lt j hj).1)
                clear hown17 hg17 hl17 hown
                go_roundw
                case rel => go_light; exact ⟨k + 1, _, hlt, by go_num, hR1, hR2, hR3⟩
                case measure => go_light; simp [intOf]; omega
              · have HD : Hid (¬ (x.length : Int) - 1 ≤ dim) := hd
                have hR2 : Heads w3 us (lowI (all.take (k + 1)) dim) := by rw [HLS.out, if_neg HD.out, List.append_nil]; exact HH.out
                go_wp2
                go_roundw
                case rel => go_light; exact ⟨k + 1, us, hlt, by go_num, hown, hR2, hB⟩
                case measure => go_light; simp [intOf]; omega
            · obtain rfl : k = all.length := by omega
              have hh := HH.out
              rw [List.take_length] at hh
              have HHF : Hid (Heads w3 us (lowI all dim)) := hh
              have HOW : Hid (wr.ownsRow w16.heap.size 23 1 u18 us.length us) := hown
              clear hh hown hca
              have hcx := cx_ _ c _ (HRc.out.below HCr.out) hb1 hb2
              go_wp2_with fail
              refine hcx.mono ?_
              clear hcx
              rintro e w20 ⟨v20, rfl, hrX, hBX⟩
              have HC20 : Hid (Below w3.heap.size w3 w20) := HCr.out.trans (hBX.mono HCr.out.size)
              have HR20 : Hid (Rows w20 v20 c) := hrX
              have HBy : Hid (Below wr.heap.size wr w20) := hBX
              clear hrX hBX
              have hsk := skel_k (dim := dim) HK.out v20 w20 (hE0.below HC20.out) HR20.out hb1 hb2
              go_wp2_with fail
              refine hsk.mono ?_
              clear hsk
              rintro e w21 ⟨v21, L21, rfl, ho21, hB21, hz21, he21⟩
              have HC21 : Hid (Below w3.heap.size w3 w21) := HC20.out.trans (hB21.mono HC20.out.size)
              have HBr : Hid (Below wr.heap.size wr w21) := HBy.out.trans (hB21.mono HBy.out.size)
              have h620 : w6.heap.size < w20.heap.size := by have h1 := hB.size; have h2 := HBy.out.size; omega
              have h6r : w6.heap.size < wr.heap.size := by have h1 := hB.size; omega
              obtain ⟨a21, p21, rfl, -, -⟩ := ho21.rows.open_
              have HO21 : Hid (OwnRows w20.heap.size w21 (.slice a21 L21.length p21) L21) := ho21
              have HZ21 : Hid (IsZero (0 : Int) → IsFacets (lowI all dim) L21) := hz21
              have HE21 : Hid (¬ IsZero (0 : Int) → Value.slice a21 L21.length p21 = .slice none 0 0) := he21
              have c21 : w21.cell? ⟨w6.heap.size, 0, none⟩ = some (.slice a12 L12.length p12) := (HBr.out.cell (p := ⟨w6.heap.size, 0, none⟩) h6r).trans ((hB.cell (p := ⟨w6.heap.size, 0, none⟩) h616).trans c16)
              have z21 : w21.frozen? ⟨w6.heap.size, 0, none⟩ = false := (HBr.out.frozen (p := ⟨w6.heap.size, 0, none⟩) h6r).trans ((hB.frozen (p := ⟨w6.heap.size, 0, none⟩) h616).trans z16)
              have d21 := World.cell?_setCell_same' w21 ⟨w6.heap.size, 0, none⟩ (.slice a21 L21.length p21) (by rw [c21]; rfl)
              have HC22 : Hid (Below w3.heap.size w3 (w21.setCell ⟨w6.heap.size, 0, none⟩ (.slice a21 L21.length p21))) := HC21.out.setCell (p := ⟨w6.heap.size, 0, none⟩) h36 _
              have HR22 : Hid (Rows (w21.setCell ⟨w6.heap.size, 0, none⟩ (.slice a21 L21.length p21)) (.slice a21 L21.length p21) L21) := (HO21.out.setCell (p := ⟨w6.heap.size, 0, none⟩) (by show w6.heap.size < w20.heap.size; omega) _).rows
              have hs22 : w6.heap.size < (w21.setCell ⟨w6.heap.size, 0, none⟩ (.slice a21 L21.length p21)).heap.size := cell_lt d21
              have hlow : Rows (w21.setCell ⟨w6.heap.size, 0, none⟩ (.slice a21 L21.length p21)) u18 (lowI all dim) :=
                HHF.out.rows HC22.out (ownsRow_setCell_below (HOW.out.kept (Below.grownBy HBr.out) (by cases Value.ownBlock _ <;> simp)) (a := ⟨w6.heap.size, 0, none⟩) h616 _)
              have hmk := made_k CL HME.out u18 (lowI all dim) _ hlow (fun x hx => (List.mem_filter.1 hx).1) (by have := List.length_filter_le (fun x : List Int => decide ((x.length : Int) - 1 ≤ dim)) all; unfold lowI; omega)
              clear ho21 hB21 hz21 he21 HC20 HBy hlow HO21
              go_wp2_with fail
              refine hmk.mono ?_
              clear hmk
              rintro e w23 ⟨v23, rfl, hB23, hL23⟩
              have HC23 : Hid (Below w3.heap.size w3 w23) := HC22.out.trans (hB23.mono HC22.out.size)
              have c23 : w23.cell? ⟨w6.heap.size, 0, none⟩ = some (.slice a21 L21.length p21) := (hB23.cell (p := ⟨w6.heap.size, 0, none⟩) hs22).trans d21
              have his := is_k HSE.out (vc := .slice a21 L21.length p21) w23 HE21.out (HR22.out.below hB23) HZ21.out hL23 (hE0.below HC23.out)
              clear hB23 hL23 HE21 HZ21 HR22
              go_wp2_with fail
              refine his.mono ?_
              clear his
              rintro e w24 ⟨rfl, hB24⟩
              have HC24 : Hid (Below w3.heap.size w3 w24) := HC23.out.trans (hB24.mono HC23.out.size)
              go_wp2
              go_ret
              exact ⟨rfl, HB0.out.trans (HC24.out.mono HB0.out.size)⟩
        · have hi1 : i < 0 := by
            rcases Int.lt_or_le i 0 with h | h
            · exact h
            · exact absurd (hii.1 h) hfm
          have HFS : Hid (FState a c f all (.iface 168 (.pointer (some (a 3)))) 4) := .inl ⟨3, .inr ⟨rfl, all, HGG.out, hfm⟩, rfl, rfl⟩
          have HST : Hid (SState a (.iface 168 (.pointer (some (a 3)))) 4) := .inl ⟨3, by decide, rfl, rfl⟩
          have HMF : Hid (MState c all 4) := .inr (by decide)
          clear hii hfm
          have hE0 := hE.below HB0.out
          have HRc : Hid (Rows w3 vc c) := HR.out.below HB0.out
          have HFf : Hid (Ints w3 (.slice af f.length cf) f) := HF.out.below HB0.out
          have hl6 := HK.out.length
          have HS7 : Hid (∀ x ∈ all, x.length ≤ 7) := HK.out.short
          have HC3 : Hid (Below w3.heap.size w3 w3) := Below.refl _ _
          clear hE HR HF
          have hcx := cx_ _ c _ (HRc.out.below HC3.out) hb1 hb2
          go_wp2_with fail
          refine hcx.mono ?_
          clear hcx
          rintro e w4 ⟨v4, rfl, hrX, hBX⟩
          have HC4 : Hid (Below w3.heap.size w3 w4) := HC3.out.trans (hBX.mono HC3.out.size)
          have HR4 : Hid (Rows w4 v4 c) := hrX
          clear hrX hBX
          have hIf : Ints (w4.alloc (.cells #[] 3)) (.slice af f.length cf) f := (HFf.out.below HC4.out).below ((Below.refl _ w4).alloc (Nat.le_refl _) _)
          go_wp2_with (first
            | (at_builtin; refine wpList_append_slice rfl (.tmp 57) (.tmp 58) 23 rfl w4.heap.size 3 j0 (.int .i64 0) 8 Tryz.underlying23 hj0 hy0 hy1 hy2 rfl _ _ _ rfl (own_empty w4 3 w4.heap.size (Nat.le_refl _)) _ (f.map (Value.int .i64)) rfl hIf (ints_one f) (by simp; omega) (by unfold maxLen; simp; omega) (by simp) ?_; intro v5 w5 howX hgX hlX)
            | fail)
          have HI5 : Hid (Ints w5 v5 f) := ints_put2 howX
          have HB5 : Hid (Below w4.heap.size w4 w5) := ((Below.refl _ w4).alloc (Nat.le_refl _) _).grown hgX (by simp) (fun j hj => by cases hj; exact Nat.le_refl _)
          have HC5 : Hid (Below w3.heap.size w3 w5) := HC4.out.trans (HB5.out.mono HC4.out.size)
          clear howX hgX hlX hIf
          have hst := star_k HFS.out v4 v5 w5 (hE0.below HC5.out) (HR4.out.below HB5.out) hb1 hb2 HI5.out (by omega)
          clear HR4 HI5 HB5 HC4
          go_wp2_with fail
          refine hst.mono ?_
          clear hst
          rintro e w6 ⟨v6, L6, rfl, ho6, hB6, hz6, he6⟩
          have HC6 : Hid (Below w3.heap.size w3 w6) := HC5.out.trans (hB6.mono HC5.out.size)
          have HR6 : Hid (Rows w6 v6 L6) := ho6.rows
          obtain ⟨a6, p6, rfl, -, -⟩ := ho6.rows.open_
          have HZ6 : Hid (IsZero (4 : Int) → IsFacets (starI all f) L6) := hz6
          have HE6 : Hid (¬ IsZero (4 : Int) → Value.slice a6 L6.length p6 = .slice none 0 0) := he6
          have hbx := box_new w6 (.slice a6 L6.length p6) 34
          have HBa : Hid (Below w6.heap.size w6 (w6.alloc (.cells #[.slice a6 L6.length p6] 34))) := (Below.refl _ w6).alloc (Nat.le_refl _) _
          have HC6a : Hid (Below w3.heap.size w3 (w6.alloc (.cells #[.slice a6 L6.length p6] 34))) := HC6.out.trans (HBa.out.mono HC6.out.size)
          have h36 : w3.heap.size ≤ w6.heap.size := HC6.out.size
          have hso := star_of _ _ all f _ (HA.out.below HC6a.out) (HFf.out.below HC6a.out) (by omega) HS7.out HRI.out (by omega)
          clear ho6 hB6 hz6 he6 HC5
          go_wp2_with fail
          refine hso.mono ?_
          clear hso
          rintro e w7 ⟨v7, rfl, hr7, hB7⟩
          have HB7 : Hid (Below (w6.alloc (.cells #[.slice a6 L6.length p6] 34)).heap.size (w6.alloc (.cells #[.slice a6 L6.length p6] 34)) w7) := hB7
          have HC7 : Hid (Below w3.heap.size w3 w7) := HC6a.out.trans (hB7.mono HC6a.out.size)
          have hmk := made_k CL HMF.out v7 (starI all f) w7 hr7 (fun x hx => (List.mem_filter.1 hx).1) (by have := List.length_filter_le (fun x => uniB all x f) all; unfold starI; omega)
          clear hr7 hB7
          go_wp2_with fail
          refine hmk.mono ?_
          clear hmk
          rintro e w8 ⟨v8, rfl, hB8, hL8⟩
          have HB8 : Hid (Below (w6.alloc (.cells #[.slice a6 L6.length p6] 34)).heap.size (w6.alloc (.cells #[.slice a6 L6.length p6] 34)) w8) := HB7.out.trans (hB8.mono HB7.out.size)
          have HC8 : Hid (Below w3.heap.size w3 w8) := HC7.out.trans (hB8.mono HC7.out.size)
          have c8 : w8.cell? ⟨w6.heap.size, 0, none⟩ = some (.slice a6 L6.length p6) := (HB8.out.cell (p := ⟨w6.heap.size, 0, none⟩) (by simp)).trans hbx.1
          have his := is_k HST.out (vc := .slice a6 L6.length p6) w8 HE6.out ((HR6.out.below HBa.out).below HB8.out) HZ6.out hL8 (hE0.below HC8.out)
          clear hB8 hL8 HC7 HB7 HE6 HZ6 HR6
          go_wp2_with fail
          refine his.mono ?_
          clear his
          rintro e w9 ⟨rfl, hB9⟩
          have HB9 : Hid (Below (w6.alloc (.cells #[.slice a6 L6.length p6] 34)).heap.size (w6.alloc (.cells #[.slice a6 L6.length p6] 34)) w9) := HB8.out.trans (hB9.mono HB8.out.size)
          have HC9 : Hid (Below w3.heap.size w3 w9) := HC8.out.trans (hB9.mono HC8.out.size)
          clear hB9 HB8 HC8 c8
          have hcx := cx_ _ c _ (HRc.out.below HC9.out) hb1 hb2
          go_wp2_with fail
          refine hcx.mono ?_
          clear hcx
          rintro e w10 ⟨v10, rfl, hrX, hBX⟩
          have HC10 : Hid (Below w3.heap.size w3 w10) := HC9.out.trans (hBX.mono HC9.out.size)
          have HR10 : Hid (Rows w10 v10 c) := hrX
          have HBx : Hid (Below w9.heap.size w9 w10) := hBX
          clear hrX hBX
          have hIf : Ints (w10.alloc (.cells #[] 3)) (.slice af f.length cf) f := (HFf.out.below HC10.out).below ((Below.refl _ w10).alloc (Nat.le_refl _) _)
          go_wp2_with (first
            | (at_builtin; refine wpList_append_slice rfl (.tmp 79) (.tmp 80) 23 rfl w10.heap.size 3 j0 (.int .i64 0) 8 Tryz.underlying23 hj0 hy0 hy1 hy2 rfl _ _ _ rfl (own_empty w10 3 w10.heap.size (Nat.le_refl _)) _ (f.map (Value.int .i64)) rfl hIf (ints_one f) (by simp; omega) (by unfold maxLen; simp; omega) (by simp) ?_; intro v11 w11 howX hgX hlX)
            | fail)
          have HI11 : Hid (Ints w11 v11 f) := ints_put2 howX
          have HB11 : Hid (Below w10.heap.size w10 w11) := ((Below.refl _ w10).alloc (Nat.le_refl _) _).grown hgX (by simp) (fun j hj => by cases hj; exact Nat.le_refl _)
          have HC11 : Hid (Below w3.heap.size w3 w11) := HC10.out.trans (HB11.out.mono HC10.out.size)
          clear howX hgX hlX hIf
          have hlk := link_k HFS.out v10 v11 w11 (hE0.below HC11.out) (HR10.out.below HB11.out) hb1 hb2 HI11.out (by omega)
          have HB911 : Hid (Below w9.heap.size w9 w11) := HBx.out.trans (HB11.out.mono HBx.out.size)
          clear HR10 HI11 HB11 HC10
          go_wp2_with fail
          refine hlk.mono ?_
          clear hlk
          rintro e w12 ⟨v12, L12, rfl, ho12, hB12, hz12, he12⟩
          have HB12 : Hid (Below (w6.alloc (.cells #[.slice a6 L6.length p6] 34)).heap.size (w6.alloc (.cells #[.slice a6 L6.length p6] 34)) w12) := (HB9.out.trans (HB911.out.mono HB9.out.size)).trans (hB12.mono (Nat.le_trans HB9.out.size HB911.out.size))
          have HC12 : Hid (Below w3.heap.size w3 w12) := HC11.out.trans (hB12.mono HC11.out.size)
          have h611 : w6.heap.size + 1 ≤ w11.heap.size := by have h1 := HB9.out.size; have h2 := HB911.out.size; simp at h1; omega
          obtain ⟨a12, p12, rfl, -, -⟩ := ho12.rows.open_
          have HO12 : Hid (OwnRows w11.heap.size w12 (.slice a12 L12.length p12) L12) := ho12
          have HZ12 : Hid (IsZero (4 : Int) → IsFacets (linkI all f) L12) := hz12
          have HE12 : Hid (¬ IsZero (4 : Int) → Value.slice a12 L12.length p12 = .slice none 0 0) := he12
          have c12 : w12.cell? ⟨w6.heap.size, 0, none⟩ = some (.slice a6 L6.length p6) := (HB12.out.cell (p := ⟨w6.heap.size, 0, none⟩) (by simp)).trans hbx.1
          have z12 : w12.frozen? ⟨w6.heap.size, 0, none⟩ = false := (HB12.out.frozen (p := ⟨w6.heap.size, 0, none⟩) (by simp)).trans hbx.2
          have d12 := World.cell?_setCell_same' w12 ⟨w6.heap.size, 0, none⟩ (.slice a12 L12.length p12) (by rw [c12]; rfl)
          have f12 : (w12.setCell ⟨w6.heap.size, 0, none⟩ (.slice a12 L12.length p12)).frozen? ⟨w6.heap.size, 0, none⟩ = false := by rw [World.frozen?_setCell]; exact z12
          have HC13 : Hid (Below w3.heap.size w3 (w12.setCell ⟨w6.heap.size, 0, none⟩ (.slice a12 L12.length p12))) := HC12.out.setCell (p := ⟨w6.heap.size, 0, none⟩) h36 _
          have HR13 : Hid (Rows (w12.setCell ⟨w6.heap.size, 0, none⟩ (.slice a12 L12.length p12)) (.slice a12 L12.length p12) L12) := (HO12.out.setCell (p := ⟨w6.heap.size, 0, none⟩) (by show w6.heap.size < w11.heap.size; omega) _).rows
          have hs13 : w6.heap.size < (w12.setCell ⟨w6.heap.size, 0, none⟩ (.slice a12 L12.length p12)).heap.size := cell_lt d12
          have hlo := link_of _ _ all f _ (HA.out.below HC13.out) (HFf.out.below HC13.out) (by omega) HS7.out HRI.out (by omega)
          clear ho12 hB12 hz12 he12 HC11 HB911 HB9 HBx
          go_wp2_with fail
          refine hlo.mono ?_
          clear hlo
          rintro e w14 ⟨v14, rfl, hr14, hB14⟩
          have HD14 : Hid (Below (w12.setCell ⟨w6.heap.size, 0, none⟩ (.slice a12 L12.length p12)).heap.size (w12.setCell ⟨w6.heap.size, 0, none⟩ (.slice a12 L12.length p12)) w14) := hB14
          have HC14 : Hid (Below w3.heap.size w3 w14) := HC13.out.trans (hB14.mono HC13.out.size)
          have hmk := made_k CL HMF.out v14 (linkI all f) w14 hr14 (fun x hx => (List.mem_filter.1 hx).1) (by have := List.length_filter_le (linkB all f) all; unfold linkI; omega)
          clear hr14 hB14
          go_wp2_with fail
          refine hmk.mono ?_
          clear hmk
          rintro e w15 ⟨v15, rfl, hB15, hL15⟩
          have HD15 : Hid (Below (w12.setCell ⟨w6.heap.size, 0, none⟩ (.slice a12 L12.length p12)).heap.size (w12.setCell ⟨w6.heap.size, 0, none⟩ (.slice a12 L12.length p12)) w15) := HD14.out.trans (hB15.mono HD14.out.size)
          have HC15 : Hid (Below w3.heap.size w3 w15) := HC14.out.trans (hB15.mono HC14.out.size)
          have c15 : w15.cell? ⟨w6.heap.size, 0, none⟩ = some (.slice a12 L12.length p12) := (HD15.out.cell (p := ⟨w6.heap.size, 0, none⟩) hs13).trans d12
          have his := is_k HST.out (vc := .slice a12 L12.length p12) w15 HE12.out (HR13.out.below HD15.out) HZ12.out hL15 (hE0.below HC15.out)
          clear hB15 hL15 HC14 HD14 HE12 HZ12 HR13 HO12
          go_wp2_with fail
          refine his.mono ?_
          clear his
          rintro e w16 ⟨rfl, hB16⟩
          have HD16 : Hid (Below (w12.setCell ⟨w6.heap.size, 0, none⟩ (.slice a12 L12.length p12)).heap.size (w12.setCell ⟨w6.heap.size, 0, none⟩ (.slice a12 L12.length p12)) w16) := HD15.out.trans (hB16.mono HD15.out.size)
          have HC16 : Hid (Below w3.heap.size w3 w16) := HC15.out.trans (hB16.mono HC15.out.size)
          have c16 : w16.cell? ⟨w6.heap.size, 0, none⟩ = some (.slice a12 L12.length p12) := (HD16.out.cell (p := ⟨w6.heap.size, 0, none⟩) hs13).trans d12
          have z16 : w16.frozen? ⟨w6.heap.size, 0, none⟩ = false := (HD16.out.frozen (p := ⟨w6.heap.size, 0, none⟩) hs13).trans f12
          have h616 : w6.heap.size < w16.heap.size := cell_lt c16
          obtain ⟨aa, pa, ea, -, hca⟩ := HA.out.open_
          clear hB16 HD15 HC15 c15 HD16 d12 f12 hs13 c12 z12 HC12 HC13 HB12 hbx HBa HC6a HC6
          subst ea
          go_wp2
          go_loopw [18, 19] (fun v p W => ∃ (k : Nat) (us : List Value), k ≤ all.length ∧ p = .int .i64 k ∧ W.ownsRow w16.heap.size 23 1 v us.length us ∧ Heads w3 us (lowI (all.take k) dim) ∧ Below w16.heap.size w16 W)
            (fun _ p _ => all.length - (intOf p).toNat)
          case atStart => exact ⟨0, [], by omega, rfl, World.ownsRow_nil _ _ _ _, ⟨by simp [lowI], fun k u x h => by simp at h⟩, Below.refl _ _⟩
          case round =>
            obtain ⟨k, us, hk, rfl, hown, hh, hB⟩ := hrel
            have HH : Hid (Heads w3 us (lowI (all.take k) dim)) := hh
            have hul : us.length ≤ 1000 := by have h1 := hh.1; have h2 := List.length_filter_le (fun x : List Int => decide ((x.length : Int) - 1 ≤ dim)) (all.take k); unfold lowI at h1; simp at h2; omega
            have HCr : Hid (Below w3.heap.size w3 wr) := HC16.out.trans (hB.mono HC16.out.size)
            clear hh
            by_cases hlt : k < all.length
            · obtain ⟨b, o, rfl, -, hb, cc⟩ := hca (by omega)
              obtain ⟨a1, p1, g1, i1⟩ := cc k hlt
              have hlen : (all[k]?.getD []).length ≤ 7 := HS7.out _ (by rw [List.getElem?_eq_getElem hlt]; simp)
              have hst := lowI_succ hlt dim
              obtain ⟨x, hxe⟩ : ∃ x, all[k]?.getD [] = x := ⟨_, rfl⟩
              rw [hxe] at g1 i1 hlen hst
              have g2 : wr.cell? ⟨b, o + k, none⟩ = some (.slice a1 x.length p1) := (HCr.out.cell (p := ⟨b, o + k, none⟩) hb).trans g1
              have HI1 : Hid (Ints w3 (.slice a1 x.length p1) x) := i1
              have HLS : Hid (lowI (all.take (k + 1)) dim = lowI (all.take k) dim ++ (if (x.length : Int) - 1 ≤ dim then [x] else [])) := hst
              have hbs := hB.size
              clear hxe i1 g1 hst hca cc
              by_cases hd : (x.length : Int) - 1 ≤ dim
              · have HD : Hid ((x.length : Int) - 1 ≤ dim) := hd
                go_wp2_with (first
                  | (at_builtin; refine wpList_append_slice rfl (.tmp 112) (.tmp 117) 22 rfl w16.heap.size 23 i0 (.slice none 0 0) 24 Tryz.underlying22 hi0 hz0 hz1 hz2 rfl _ _ _ rfl (hown.alloc _) _ [.slice a1 x.length p1] rfl (slice_one _ _ _) (by simp [Value.oneCell']) (by simp; omega) (by unfold maxLen; simp; omega) (by simp; omega) ?_; intro v17 w17 hown17 hg17 hl17)
                  | go_in)
                (try go_frame)
                have hR1 : w17.ownsRow w16.heap.size 23 1 v17 (us ++ [Value.slice a1 x.length p1]).length (us ++ [.slice a1 x.length p1]) := by simpa using hown17
                have hR2 : Heads w3 (us ++ [.slice a1 x.length p1]) (lowI (all.take (k + 1)) dim) := by rw [HLS.out, if_pos HD.out]; exact HH.out.snoc HI1.out
                have hR3 : Below w16.heap.size w16 w17 := (hB.alloc hbs _).grown hg17 (by simp; omega) (fun j hj => (hown.lt j hj).1)
                clear hown17 hg17 hl17 hown
                go_roundw
                case rel => go_light; exact ⟨k + 1, _, hlt, by go_num, hR1, hR2, hR3⟩
                case measure => go_light; simp [intOf]; omega
              · have HD : Hid (¬ (x.length : Int) - 1 ≤ dim) := hd
                have hR2 : Heads w3 us (lowI (all.take (k + 1)) dim) := by rw [HLS.out, if_neg HD.out, List.append_nil]; exact HH.out
                go_wp2
                go_roundw
                case rel => go_light; exact ⟨k + 1, us, hlt, by go_num, hown, hR2, hB⟩
                case measure => go_light; simp [intOf]; omega
            · obtain rfl : k = all.length := by omega
              have hh := HH.out
              rw [List.take_length] at hh
              have HHF : Hid (Heads w3 us (lowI all dim)) := hh
              have HOW : Hid (wr.ownsRow w16.heap.size 23 1 u18 us.length us) := hown
              clear hh hown hca
              have hcx := cx_ _ c _ (HRc.out.below HCr.out) hb1 hb2
              go_wp2_with fail
              refine hcx.mono ?_
              clear hcx
              rintro e w20 ⟨v20, rfl, hrX, hBX⟩
              have HC20 : Hid (Below w3.heap.size w3 w20) := HCr.out.trans (hBX.mono HCr.out.size)
              have HR20 : Hid (Rows w20 v20 c) := hrX
              have HBy : Hid (Below wr.heap.size wr w20) := hBX
              clear hrX hBX
              have hsk := skel_k (dim := dim) HK.out v20 w20 (hE0.below HC20.out) HR20.out hb1 hb2
              go_wp2_with fail
              refine hsk.mono ?_
              clear hsk
              rintro e w21 ⟨v21, L21, rfl, ho21, hB21, hz21, he21⟩
              have HC21 : Hid (Below w3.heap.size w3 w21) := HC20.out.trans (hB21.mono HC20.out.size)
              have HBr : Hid (Below wr.heap.size wr w21) := HBy.out.trans (hB21.mono HBy.out.size)
              have h620 : w6.heap.size < w20.heap.size := by have h1 := hB.size; have h2 := HBy.out.size; omega
              have h6r : w6.heap.size < wr.heap.size := by have h1 := hB.size; omega
              obtain ⟨a21, p21, rfl, -, -⟩ := ho21.rows.open_
              have HO21 : Hid (OwnRows w20.heap.size w21 (.slice a21 L21.length p21) L21) := ho21
              have HZ21 : Hid (IsZero (0 : Int) → IsFacets (lowI all dim) L21) := hz21
              have HE21 : Hid (¬ IsZero (0 : Int) → Value.slice a21 L21.length p21 = .slice none 0 0) := he21
              have c21 : w21.cell? ⟨w6.heap.size, 0, none⟩ = some (.slice a12 L12.length p12) := (HBr.out.cell (p := ⟨w6.heap.size, 0, none⟩) h6r).trans ((hB.cell (p := ⟨w6.heap.size, 0, none⟩) h616).trans c16)
              have z21 : w21.frozen? ⟨w6.heap.size, 0, none⟩ = false := (HBr.out.frozen (p := ⟨w6.heap.size, 0, none⟩) h6r).trans ((hB.frozen (p := ⟨w6.heap.size, 0, none⟩) h616).trans z16)
              have d21 := World.cell?_setCell_same' w21 ⟨w6.heap.size, 0, none⟩ (.slice a21 L21.length p21) (by rw [c21]; rfl)
              have HC22 : Hid (Below w3.heap.size w3 (w21.setCell ⟨w6.heap.size, 0, none⟩ (.slice a21 L21.length p21))) := HC21.out.setCell (p := ⟨w6.heap.size, 0, none⟩) h36 _
              have HR22 : Hid (Rows (w21.setCell ⟨w6.heap.size, 0, none⟩ (.slice a21 L21.length p21)) (.slice a21 L21.length p21) L21) := (HO21.out.setCell (p := ⟨w6.heap.size, 0, none⟩) (by show w6.heap.size < w20.heap.size; omega) _).rows
              have hs22 : w6.heap.size < (w21.setCell ⟨w6.heap.size, 0, none⟩ (.slice a21 L21.length p21)).heap.size := cell_lt d21
              have hlow : Rows (w21.setCell ⟨w6.heap.size, 0, none⟩ (.slice a21 L21.length p21)) u18 (lowI all dim) :=
                HHF.out.rows HC22.out (ownsRow_setCell_below (HOW.out.kept (Below.grownBy HBr.out) (by cases Value.ownBlock _ <;> simp)) (a := ⟨w6.heap.size, 0, none⟩) h616 _)
              have hmk := made_k CL HME.out u18 (lowI all dim) _ hlow (fun x hx => (List.mem_filter.1 hx).1) (by have := List.length_filter_le (fun x : List Int => decide ((x.length : Int) - 1 ≤ dim)) all; unfold lowI; omega)
              clear ho21 hB21 hz21 he21 HC20 HBy hlow HO21
              go_wp2_with fail
              refine hmk.mono ?_
              clear hmk
              rintro e w23 ⟨v23, rfl, hB23, hL23⟩
              have HC23 : Hid (Below w3.heap.size w3 w23) := HC22.out.trans (hB23.mono HC22.out.size)
              have c23 : w23.cell? ⟨w6.heap.size, 0, none⟩ = some (.slice a21 L21.length p21) := (hB23.cell (p := ⟨w6.heap.size, 0, none⟩) hs22).trans d21
              have his := is_k HSE.out (vc := .slice a21 L21.length p21) w23 HE21.out (HR22.out.below hB23) HZ21.out hL23 (hE0.below HC23.out)
              clear hB23 hL23 HE21 HZ21 HR22
              go_wp2_with fail
              refine his.mono ?_
              clear his
              rintro e w24 ⟨rfl, hB24⟩
              have HC24 : Hid (Below w3.heap.size w3 w24) := HC23.out.trans (hB24.mono HC23.out.size)
              go_wp2
              go_ret
              exact ⟨rfl, HB0.out.trans (HC24.out.mono HB0.out.size)⟩

end Go.Proofs.YtmbolgalgidleaaGreatDoor
