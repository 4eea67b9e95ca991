/- What vector answers: how many faces there are of each length. What Faces answers of a complex, whichever it is. What Faces answers, in memory of the caller's own. -/
import Derived.Test.YthmjdfjchhohgaaGreatDoorFaces
import Derived.Test.YthmjdfjchhohgaaGreatDoorMathV
import Derived.Laws.OwnMore
import Derived.Deep.AppendLies
namespace Go.Proofs.YthmjdfjchhohgaaGreatDoor
open Go.RowKit Go.Sort Go.Maps

/-- A slice's length. -/
def sliceLen : Value → Nat
  | .slice _ n _ => n
  | _ => 0

/-- What vector answers. -/
def VectorSays (F : List (List UInt8)) (w : World) (e : Ending) (w' : World) : Prop :=
  ∃ v, e = .returned v ∧ IntsIn (fun b => w.heap.size ≤ b) w' v (vecOf F) ∧ Below w.heap.size w w'

theorem encStr_string (x : List UInt8) : encStr x = .string ⟨x.toArray⟩ := rfl

theorem pad_length {α : Type} (ss : List (List α)) (j : Nat) : ((vecOf ss ++ List.replicate j 0).map (Value.int .i64)).length = topN ss + j := by simp [vecOf_length]
theorem pad_succ {α : Type} (ss : List (List α)) (j : Nat) : (vecOf ss ++ List.replicate (j + 1) 0).map (Value.int .i64) = (vecOf ss ++ List.replicate j 0).map (Value.int .i64) ++ [.int .i64 0] := by
  rw [List.replicate_succ', ← List.append_assoc, List.map_append]; rfl
theorem own_form {W : World} {base : Nat} {t : TypeId} {v : Value} {n : Nat} {xs : List Value} (h : W.ownsRow base t 1 v n xs) : ∃ a cap, v = .slice a n cap := by
  rcases h.2 with ⟨rfl, rfl⟩ | ⟨g, cap, cur, rfl, _⟩
  · exact ⟨_, _, rfl⟩
  · exact ⟨_, _, rfl⟩
theorem vec_stored {ss : List (List UInt8)} {x : List UInt8} (hx : x ≠ []) {j : Nat} (hj : j = x.length - topN ss) {c : Int} (hc : (vecOf ss ++ List.replicate j 0)[x.length - 1]?.getD 0 = c) :
    ((vecOf ss ++ List.replicate j 0).map (Value.int .i64)).set (x.length - 1) (.int .i64 (c + 1)) = (vecOf (ss ++ [x])).map (Value.int .i64) := by
  rw [vec_step hx, List.map_set, ← hj, hc]
theorem kept_perm {F ss : List (List UInt8)} {left : Lit → Bool} (hF : F.Nodup) (h : KeptSo F (fun _ => true) left ss) (hl : ∀ z, left z = false) : ss.Perm F :=
  (List.perm_ext_iff_of_nodup h.1 hF).2 (fun x => by rw [h.2 x, hl]; simp)

set_option maxRecDepth 100000 in
set_option maxHeartbeats 2000000 in
theorem vector_ (b : Nat) (F : List (List UInt8)) (G : List UInt8 → Prop) (w : World) (hP : PileAt w b F G) (hF : F.length ≤ 100000) (hn : F.Nodup) (hx : ∀ x ∈ F, x.length ≤ 1000) (hne : ∀ x ∈ F, x ≠ []) :
    Calls Tryz.prog 37 #[.map (some b)] w fun e w' => VectorSays F w e w' := by
  obtain ⟨i0, hi, hz0, hz1, hz2⟩ := info_parts Tryz.info3
  obtain ⟨D, d1, d2, d3, -⟩ := hP
  have hbl := d1.lt
  have HD2 : Hid (∀ x : List UInt8, Maps.has D (.string x) = true ↔ x ∈ F) := d2
  have HFX : Hid (F.Nodup ∧ (∀ x ∈ F, x.length ≤ 1000) ∧ ∀ x ∈ F, x ≠ []) := ⟨hn, hx, hne⟩
  clear d2 hn hx hne
  go_enter Tryz.func37, Tryz.ntmps37
  go_wp2_with (first
    | (at_range; refine wpList_range_own _ rfl _ 71 rfl 9 3 law_string Tryz.underlying71 _ b _ _ rfl d1 ?_; intro w0 hrg0 hg0 hs0)
    | go_in)
  (try go_frame)
  go_loopw [3] (fun v wr => ∃ (left : Lit → Bool) (cnt : Nat) (ss : List (List UInt8)), wr.ranges Tryz.prog 9 (plainElem Tryz.prog 3) b w.heap.size F.length D left cnt ∧ ss.length + cnt ≤ F.length ∧
      wr.ownsRow (w.heap.size + 1) 3 1 v (topN ss) ((vecOf ss).map (Value.int .i64)) ∧ KeptSo F (fun _ => true) left ss ∧ Below w.heap.size w wr ∧ w.heap.size + 1 ≤ wr.heap.size)
    (fun _ wr => wr.rangeLeft b w.heap.size)
  case atStart =>
    refine ⟨_, _, [], hrg0, by rw [← d3]; simp, World.ownsRow_nil _ _ _ _, ⟨List.nodup_nil, fun x => ⟨fun h => (by cases h), fun ⟨⟨h1, _⟩, h2⟩ => ?_⟩⟩, (Below.refl _ _).grown hg0 (Nat.le_refl _) (fun j hj => by cases hj), by have := hrg0.lt; omega⟩
    rw [(HD2.out x).2 h1] at h2; cases h2
  case round =>
    obtain ⟨left, cnt, ss, hrg, hcs, hrow, hso, hnx, hsz⟩ := hrel
    go_wp2_with (first
      | (at_next; refine wpList_next_ranges _ rfl _ rfl 9 law_string (plainElem Tryz.prog 3) encStr (Value.int .i64) (fun key kl hk => by obtain ⟨x, hx, _⟩ := Maps.keyOf_str Tryz.underlying9 hk; exact ⟨x, hx⟩) (fun v y hv => by obtain ⟨c, rfl, _⟩ := plainElem_int_inv Tryz.underlying3 hv; exact ⟨c, rfl⟩) b w.heap.size F.length _ _ _ rfl hrg ?_ ?_)
      | go_in)
    · intro hc0 hl0
      have HE : Hid (vecOf ss = vecOf F) := vecOf_perm (kept_perm HFX.out.1 hso hl0)
      have HI : Hid (IntsIn (fun b => w.heap.size ≤ b) wr u3 (vecOf ss)) := slice_of_owns hrow (fun b hb _ => by omega)
      clear hso hl0 hrg hrow
      go_wp2
      go_ret
      exact ⟨_, rfl, by rw [← HE.out]; exact HI.out, hnx⟩
    · intro x c kl yd yp w2 cnt2 hkey hlk hv hat hrg2 hlt hg2 hs2 hen
      obtain ⟨x', ex, rfl, _⟩ := Maps.keyOf_str Tryz.underlying9 hkey
      obtain rfl : x = x' := encStr_inj ex
      have hxF : x ∈ F := (HD2.out x).1 (has_true_of_atKey hat)
      have hrow2 := hrow.kept hg2 (Or.inr (row_ne_iter hrow hrg).symm)
      have hB2 : Below w.heap.size w w2 := hnx.grown hg2 hnx.size (fun j hj => by cases hj; exact Nat.le_refl _)
      have hst := kept_step hso hlk hxF
      have hsz2 : w.heap.size + 1 ≤ w2.heap.size := by have := hg2.size; omega
      rw [if_pos rfl] at hst
      have HST : Hid (KeptSo F (fun _ => true) (fun z => left z && !z.sameKey (.string x)) (ss ++ [x])) := hst
      have hxl : x.length ≤ 1000 := HFX.out.2.1 x hxF
      have hxp : 0 < x.length := List.length_pos_iff.2 (HFX.out.2.2 x hxF)
      have HLT : Hid (wr.rangeLeft b w.heap.size = cnt) := hrg.left_eq
      have htop : topN ss ≤ 1000 := topN_upto (fun y hy => HFX.out.2.1 y ((hso.2 y).1 hy).1.1)
      obtain ⟨T, hT⟩ : ∃ T, topN ss = T := ⟨_, rfl⟩
      rw [hT] at hrow2 htop
      have HTT : Hid (topN ss = T) := hT
      have hsx : (⟨x.toArray⟩ : ByteArray).size = x.length := by simp [ByteArray.size]
      rw [encStr_string]
      clear hs2 hst hso hkey hv hat ex hrow hg2 hT hrg hnx hsz
      obtain ⟨a3, c3, rfl⟩ := own_form hrow2
      go_wp2
      go_loopw [3] (fun v W => ∃ j : Nat, T + j ≤ max T x.length ∧ W.ownsRow (w.heap.size + 1) 3 1 v (T + j) ((vecOf ss ++ List.replicate j 0).map (Value.int .i64)) ∧
          W.ranges Tryz.prog 9 (plainElem Tryz.prog 3) b w.heap.size F.length D (fun z => left z && !z.sameKey (.string x)) cnt2 ∧ Below w.heap.size w W ∧ w.heap.size + 1 ≤ W.heap.size)
        (fun v _ => x.length - sliceLen v)
      case atStart => exact ⟨0, by omega, by simpa using hrow2, hrg2, hB2, hsz2⟩
      case round =>
        obtain ⟨j, hj, hown, hrg3, hB3, hsz3⟩ := hrel
        obtain ⟨a4, c4, rfl⟩ := own_form hown
        by_cases hlo : T + j < x.length
        · have hlb : decide (((T + j : Nat) : Int) < (x.length : Int)) = true := decide_eq_true (by omega)
          have hne1 := row_ne_low hown (show b < w.heap.size + 1 by omega)
          have hne2 := row_ne_iter hown hrg3
          clear hrow2 hrg2
          go_wp2_with (first
            | (at_builtin; refine wpList_append_slice rfl (.tmp 16) (.tmp 17) 23 rfl (w.heap.size + 1) 3 i0 (.int .i64 0) 8 Tryz.underlying23 hi hz0 hz1 hz2 rfl _ _ _ rfl (hown.alloc _) _ [.int .i64 0] rfl (slice_one _ _ _) (by simp [Value.oneCell']) (by simp; omega) (by unfold maxLen; simp; omega) (by simp; omega) ?_; intro v4 w4 hown4 hg4 hl4)
            | go_in)
          (try go_frame)
          have hrg4 := (hrg3.alloc (.cells #[.int .i64 0] 3)).kept hg4 hne1 hne2
          have hown5 : w4.ownsRow (w.heap.size + 1) 3 1 v4 (T + (j + 1)) ((vecOf ss ++ List.replicate (j + 1) 0).map (Value.int .i64)) := by rw [pad_succ]; exact hown4
          obtain ⟨a5, c5, rfl⟩ := own_form hown5
          have hB4 : Below w.heap.size w w4 := (hB3.alloc hB3.size _).grown hg4 (by have := hB3.size; simp; omega) (fun j hj => by have := (hown.lt j hj).1; omega)
          have hs4 : w.heap.size + 1 ≤ w4.heap.size := by have := hg4.size; simp at this; omega
          clear hown4 hg4 hl4
          go_roundw
          case rel => exact ⟨j + 1, by omega, hown5, hrg4, hB4, hs4⟩
          case measure => simp [sliceLen]; omega
        · have hlb : decide (((T + j : Nat) : Int) < (x.length : Int)) = false := decide_eq_false (by omega)
          have hje : j = x.length - T := by omega
          obtain ⟨g, c5, e5, -, -⟩ := hown.form (by omega)
          cases e5
          obtain ⟨L, hL⟩ : ∃ L, x.length = L + 1 := ⟨x.length - 1, by omega⟩
          have HL : Hid (x.length = L + 1) := hL
          have hnum : ((x.length : Int) - 1) = (L : Int) := by omega
          have hlt5 : L < T + j := by omega
          have hcell := hown.cellAt L (by omega)
          have hget := pad_get ss j L (by rw [HTT.out]; omega)
          have hcb : _root_.Go.Proofs.YthmjdfjchhohgaaGreatDoor.cnt ss L ≤ 100000 := by have := cnt_le ss L; omega
          obtain ⟨c0, hc0⟩ : ∃ c, _root_.Go.Proofs.YthmjdfjchhohgaaGreatDoor.cnt ss L = c := ⟨_, rfl⟩
          rw [hc0] at hget hcb
          rw [List.getElem?_map, hget, Option.map_some] at hcell
          have hfz := hown.frozenAt L
          have hst := hown.stored L (.int .i64 ((c0 : Int) + 1))
          have hrg5 := hrg3.kept hst.2 (row_ne_low hown (show b < w.heap.size + 1 by omega)) (row_ne_iter hown hrg3)
          have hB5 : Below w.heap.size w (wr.setCell ⟨g, L, none⟩ (.int .i64 ((c0 : Int) + 1))) := hB3.setCell (p := ⟨g, L, none⟩) (by have := (hown.lt g rfl).1; show w.heap.size ≤ g; omega) _
          have hs5 : w.heap.size + 1 ≤ (wr.setCell ⟨g, L, none⟩ (.int .i64 ((c0 : Int) + 1))).heap.size := by rw [World.size_setCell]; exact hsz3
          have hO5 : (wr.setCell ⟨g, L, none⟩ (.int .i64 ((c0 : Int) + 1))).ownsRow (w.heap.size + 1) 3 1 (.slice (some ⟨g, 0, none⟩) (T + j) c4) (topN (ss ++ [x])) ((vecOf (ss ++ [x])).map (Value.int .i64)) := by
            have e1 : topN (ss ++ [x]) = T + j := by rw [topN_snoc, HTT.out]; omega
            rw [e1, ← vec_stored (HFX.out.2.2 x hxF) (j := j) (by rw [HTT.out]; omega) (c := (c0 : Int)) (by rw [hL, Nat.add_sub_cancel, hget, Option.getD_some]), hL, Nat.add_sub_cancel]
            exact hst.1
          have HO5 : Hid ((wr.setCell ⟨g, L, none⟩ (.int .i64 ((c0 : Int) + 1))).ownsRow (w.heap.size + 1) 3 1 (.slice (some ⟨g, 0, none⟩) (T + j) c4) (topN (ss ++ [x])) ((vecOf (ss ++ [x])).map (Value.int .i64))) := hO5
          have HR5 : Hid ((wr.setCell ⟨g, L, none⟩ (.int .i64 ((c0 : Int) + 1))).ranges Tryz.prog 9 (plainElem Tryz.prog 3) b w.heap.size F.length D (fun z => left z && !z.sameKey (.string x)) cnt2) := hrg5
          clear hO5 hst hrg5 hrg3 hown hget hc0 hL hje hrow2 hrg2 HL
          go_wp2
          go_roundw
          case rel => exact ⟨_, cnt2, ss ++ [x], HR5.out, by simp; omega, HO5.out, HST.out, hB5, hs5⟩
          case measure => rw [HR5.out.left_eq, HLT.out]; exact hlt

end Go.Proofs.YthmjdfjchhohgaaGreatDoor

namespace Go.Proofs.YthmjdfjchhohgaaGreatDoor
open Go.RowKit Go.Sort Go.Maps Go.Deep

theorem told_small_dim {F ss : List (List UInt8)} {all : List (List Int)} (h : Told F all) (h2 : ss.Nodup) {dim : Int} (h3 : ∀ x, x ∈ ss ↔ x ∈ F ∧ (x.length : Int) - 1 = dim) : (srtS ss).length ≤ 100000 ∧ ∀ t ∈ srtS ss, t.length ≤ 1000 := by
  have e1 : (srtS ss).length = ss.length := (List.mergeSort_perm ss _).length_eq
  have := nodup_le h2 (fun x hx => ((h3 x).1 hx).1)
  have hf := h.few
  refine ⟨by omega, fun t ht => ?_⟩
  have := h.short t ((h3 t).1 ((List.mergeSort_perm ss _).mem_iff.1 ht)).1
  omega

/-- What Faces answers. -/
def FacesG (a : Nat → Addr) (l : List (List Int)) (dim : Int) (w : World) (e : Ending) (w' : World) : Prop :=
  Below w.heap.size w w' ∧ ((∃ i, BadAt l i ∧ e = .returned (.tuple #[.slice none 0 0, .iface 233 (.pointer (some (a i)))])) ∨
    ∃ all v, Good l all ∧ e = .returned (.tuple #[v, .nilIface]) ∧ Rows w' v (ofDim all dim))

set_option maxRecDepth 100000 in
set_option maxHeartbeats 1000000 in
theorem faces_call {a : Nat → Addr} {s : Nat → ByteArray} (vl : Value) (l : List (List Int)) (dim : Int) (w : World) (hE : Errs a s w) (hl : Rows w vl l) (hll : l.length ≤ 100000) (hle : ∀ x ∈ l, x.length ≤ 1000) :
    Calls Tryz.prog 55 #[.agg #[vl], .int .i64 dim] w fun e w' => FacesG a l dim w e w' := by
  obtain ⟨al, cl, rfl, -, -⟩ := hl.open_
  have hBa : Below w.heap.size w (w.alloc (.cells #[.slice al l.length cl] 33)) := (Below.refl _ w).alloc (Nat.le_refl _) _
  have hop := open_g _ l (w.alloc (.cells #[.slice al l.length cl] 33)) (hE.below hBa) (hl.below hBa) hll hle
  have hbc := (box_new w (.slice al l.length cl) 33).1
  clear hl
  go_enter Tryz.func55, Tryz.ntmps55
  go_wp2_with fail
  refine hop.mono ?_
  clear hop
  rintro e w2 ⟨hB2, ⟨i, hbad, rfl⟩ | ⟨all, b, F, G, hg, ht, rfl, hP, -⟩⟩
  · have HBD : Hid (BadAt l i) := hbad
    clear hbad
    go_wp2
    go_ret2
    exact ⟨below_out (below_after hB2 (Below.refl _ w2)), .inl ⟨i, HBD.out, rfl⟩⟩
  · have hfa := faces_ b F G dim w2 hP (by have := ht.few; omega) (fun x hx => by have := ht.short x hx; omega)
    have HG : Hid (Good l all ∧ Told F all) := ⟨hg, ht⟩
    clear hg ht hP
    go_wp2_with fail
    refine hfa.mono ?_
    clear hfa
    rintro e w3 ⟨v3, ss, rfl, h1, h2, h3, h4⟩
    have hsm := told_small_dim HG.out.2 h2 h3
    have hli := lists_ v3 (srtS ss) w3 (SliceIn.mono h1 (fun _ _ _ => trivial)) hsm.1 hsm.2
    have HD : Hid ((srtS ss).map ints = ofDim all dim) := told_dim HG.out.2 h2 h3
    have HB3 : Hid (Below w.heap.size w w3) := below_out (below_after hB2 h4)
    clear h1 h2 h3 h4 hsm
    go_wp2_with fail
    refine hli.mono ?_
    clear hli
    rintro e w4 ⟨v4, rfl, h5, h6⟩
    have hr := h5.rows
    rw [HD.out] at hr
    have HR : Hid (Rows w4 v4 (ofDim all dim)) := hr
    clear hr h5
    go_wp2
    go_ret2
    exact ⟨HB3.out.trans (h6.mono HB3.out.size), .inr ⟨all, v4, HG.out.1, rfl, HR.out⟩⟩

end Go.Proofs.YthmjdfjchhohgaaGreatDoor

namespace Go.Proofs.YthmjdfjchhohgaaGreatDoor
open Go.RowKit Go.Sort Go.Maps Go.Deep

/-- What Faces answers of a complex. -/
def FacesH (a : Nat → Addr) (l : List (List Int)) (dim : Int) (w : World) (e : Ending) (w' : World) : Prop :=
  Below w.heap.size w w' ∧ ((∃ i, BadAt l i ∧ e = .returned (.tuple #[.slice none 0 0, .iface 233 (.pointer (some (a i)))])) ∨
    ∃ all v, Good l all ∧ e = .returned (.tuple #[v, .nilIface]) ∧ OwnRows w.heap.size w' v (ofDim all dim))

set_option maxRecDepth 100000 in
set_option maxHeartbeats 1000000 in
theorem faces_own {a : Nat → Addr} {s : Nat → ByteArray} (vl : Value) (l : List (List Int)) (dim : Int) (w : World) (hE : Errs a s w) (hl : Rows w vl l) (hll : l.length ≤ 100000) (hle : ∀ x ∈ l, x.length ≤ 1000) :
    Calls Tryz.prog 55 #[.agg #[vl], .int .i64 dim] w fun e w' => FacesH a l dim w e w' := by
  obtain ⟨al, cl, rfl, -, -⟩ := hl.open_
  have hBa : Below w.heap.size w (w.alloc (.cells #[.slice al l.length cl] 33)) := (Below.refl _ w).alloc (Nat.le_refl _) _
  have hop := open_g _ l (w.alloc (.cells #[.slice al l.length cl] 33)) (hE.below hBa) (hl.below hBa) hll hle
  have hbc := (box_new w (.slice al l.length cl) 33).1
  clear hl
  go_enter Tryz.func55, Tryz.ntmps55
  go_wp2_with fail
  refine hop.mono ?_
  clear hop
  rintro e w2 ⟨hB2, ⟨i, hbad, rfl⟩ | ⟨all, b, F, G, hg, ht, rfl, hP, -⟩⟩
  · have HBD : Hid (BadAt l i) := hbad
    clear hbad
    go_wp2
    go_ret2
    exact ⟨below_out (below_after hB2 (Below.refl _ w2)), .inl ⟨i, HBD.out, rfl⟩⟩
  · have hfa := faces_ b F G dim w2 hP (by have := ht.few; omega) (fun x hx => by have := ht.short x hx; omega)
    have HG : Hid (Good l all ∧ Told F all) := ⟨hg, ht⟩
    clear hg ht hP
    go_wp2_with fail
    refine hfa.mono ?_
    clear hfa
    rintro e w3 ⟨v3, ss, rfl, h1, h2, h3, h4⟩
    have hsm := told_small_dim HG.out.2 h2 h3
    have hli := lists_ v3 (srtS ss) w3 (SliceIn.mono h1 (fun _ _ _ => trivial)) hsm.1 hsm.2
    have HD : Hid ((srtS ss).map ints = ofDim all dim) := told_dim HG.out.2 h2 h3
    have HB3 : Hid (Below w.heap.size w w3) := below_out (below_after hB2 h4)
    clear h1 h2 h3 h4 hsm
    go_wp2_with fail
    refine hli.mono ?_
    clear hli
    rintro e w4 ⟨v4, rfl, h5, h6⟩
    rw [HD.out] at h5
    have HR : Hid (OwnRows w.heap.size w4 v4 (ofDim all dim)) := h5.lower HB3.out.size
    clear h5
    go_wp2
    go_ret2
    exact ⟨HB3.out.trans (h6.mono HB3.out.size), .inr ⟨all, v4, HG.out.1, rfl, HR.out⟩⟩

end Go.Proofs.YthmjdfjchhohgaaGreatDoor
