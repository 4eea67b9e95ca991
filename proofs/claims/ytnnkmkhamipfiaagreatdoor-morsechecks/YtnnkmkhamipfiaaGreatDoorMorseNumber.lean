/- What vector answers: how many faces there are of each length. What Vector answers of a complex, whichever it is. What number answers: the shape of a complex, or which error. -/
import Derived.Test.YtnnkmkhamipfiaaGreatDoorLists
import Derived.Test.YtnnkmkhamipfiaaGreatDoorMorseMath
import Derived.Laws.OwnMore
import Derived.Deep.AppendLies
import Derived.Test.YtnnkmkhamipfiaaGreatDoorSign
import Derived.Test.YtnnkmkhamipfiaaGreatDoorAppendTypes
import Derived.Test.YtnnkmkhamipfiaaGreatDoorMorseAdd
import Derived.Test.YtnnkmkhamipfiaaGreatDoorGather
import Derived.Test.YtnnkmkhamipfiaaGreatDoorBoundary
namespace Go.Proofs.YtnnkmkhamipfiaaGreatDoor
open Go.RowKit Go.Sort Go.Maps

/-- A slice's length. -/
def sliceLen : Value → Nat
  | .slice _ n _ => n
  | _ => 0

/-- What vector answers. -/
def VectorSays (F : List (List UInt8)) (w : World) (e : Ending) (w' : World) : Prop :=
  ∃ v, e = .returned v ∧ IntsIn (fun b => w.heap.size ≤ b) w' v (vecOf F) ∧ Below w.heap.size w w'

theorem encStr_string (x : List UInt8) : encStr x = .string ⟨x.toArray⟩ := rfl

theorem pad_length {α : Type} (ss : List (List α)) (j : Nat) : ((vecOf ss ++ List.replicate j 0).map (Value.int .i64)).length = topN ss + j := by simp [vecOf_length]
theorem pad_succ {α : Type} (ss : List (List α)) (j : Nat) : (vecOf ss ++ List.replicate (j + 1) 0).map (Value.int .i64) = (vecOf ss ++ List.replicate j 0).map (Value.int .i64) ++ [.int .i64 0] := by
  rw [List.replicate_succ', ← List.append_assoc, List.map_append]; rfl
theorem own_form {W : World} {base : Nat} {t : TypeId} {v : Value} {n : Nat} {xs : List Value} (h : W.ownsRow base t 1 v n xs) : ∃ a cap, v = .slice a n cap := by
  rcases h.2 with ⟨rfl, rfl⟩ | ⟨g, cap, cur, rfl, _⟩
  · exact ⟨_, _, rfl⟩
  · exact ⟨_, _, rfl⟩
theorem vec_stored {ss : List (List UInt8)} {x : List UInt8} (hx : x ≠ []) {j : Nat} (hj : j = x.length - topN ss) {c : Int} (hc : (vecOf ss ++ List.replicate j 0)[x.length - 1]?.getD 0 = c) :
    ((vecOf ss ++ List.replicate j 0).map (Value.int .i64)).set (x.length - 1) (.int .i64 (c + 1)) = (vecOf (ss ++ [x])).map (Value.int .i64) := by
  rw [vec_step hx, List.map_set, ← hj, hc]
theorem kept_perm {F ss : List (List UInt8)} {left : Lit → Bool} (hF : F.Nodup) (h : KeptSo F (fun _ => true) left ss) (hl : ∀ z, left z = false) : ss.Perm F :=
  (List.perm_ext_iff_of_nodup h.1 hF).2 (fun x => by rw [h.2 x, hl]; simp)

set_option maxRecDepth 100000 in
set_option maxHeartbeats 2000000 in
theorem vector_ (b : Nat) (F : List (List UInt8)) (G : List UInt8 → Prop) (w : World) (hP : PileAt w b F G) (hF : F.length ≤ 100000) (hn : F.Nodup) (hx : ∀ x ∈ F, x.length ≤ 1000) (hne : ∀ x ∈ F, x ≠ []) :
    Calls Tryz.prog 109 #[.map (some b)] w fun e w' => VectorSays F w e w' := by
  obtain ⟨i0, hi, hz0, hz1, hz2⟩ := info_parts Tryz.info3
  obtain ⟨D, d1, d2, d3, -⟩ := hP
  have hbl := d1.lt
  have HD2 : Hid (∀ x : List UInt8, Maps.has D (.string x) = true ↔ x ∈ F) := d2
  have HFX : Hid (F.Nodup ∧ (∀ x ∈ F, x.length ≤ 1000) ∧ ∀ x ∈ F, x ≠ []) := ⟨hn, hx, hne⟩
  clear d2 hn hx hne
  go_enter Tryz.func109, Tryz.ntmps109
  go_wp2_with (first
    | (at_range; refine wpList_range_own _ rfl _ 179 rfl 9 3 law_string Tryz.underlying179 _ b _ _ rfl d1 ?_; intro w0 hrg0 hg0 hs0)
    | go_in)
  (try go_frame)
  go_loopw [3] (fun v wr => ∃ (left : Lit → Bool) (cnt : Nat) (ss : List (List UInt8)), wr.ranges Tryz.prog 9 (plainElem Tryz.prog 3) b w.heap.size F.length D left cnt ∧ ss.length + cnt ≤ F.length ∧
      wr.ownsRow (w.heap.size + 1) 3 1 v (topN ss) ((vecOf ss).map (Value.int .i64)) ∧ KeptSo F (fun _ => true) left ss ∧ Below w.heap.size w wr ∧ w.heap.size + 1 ≤ wr.heap.size)
    (fun _ wr => wr.rangeLeft b w.heap.size)
  case atStart =>
    refine ⟨_, _, [], hrg0, by rw [← d3]; simp, World.ownsRow_nil _ _ _ _, ⟨List.nodup_nil, fun x => ⟨fun h => (by cases h), fun ⟨⟨h1, _⟩, h2⟩ => ?_⟩⟩, (Below.refl _ _).grown hg0 (Nat.le_refl _) (fun j hj => by cases hj), by have := hrg0.lt; omega⟩
    rw [(HD2.out x).2 h1] at h2; cases h2
  case round =>
    obtain ⟨left, cnt, ss, hrg, hcs, hrow, hso, hnx, hsz⟩ := hrel
    go_wp2_with (first
      | (at_next; refine wpList_next_ranges _ rfl _ rfl 9 law_string (plainElem Tryz.prog 3) encStr (Value.int .i64) (fun key kl hk => by obtain ⟨x, hx, _⟩ := Maps.keyOf_str Tryz.underlying9 hk; exact ⟨x, hx⟩) (fun v y hv => by obtain ⟨c, rfl, _⟩ := plainElem_int_inv Tryz.underlying3 hv; exact ⟨c, rfl⟩) b w.heap.size F.length _ _ _ rfl hrg ?_ ?_)
      | go_in)
    · intro hc0 hl0
      have HE : Hid (vecOf ss = vecOf F) := vecOf_perm (kept_perm HFX.out.1 hso hl0)
      have HI : Hid (IntsIn (fun b => w.heap.size ≤ b) wr u3 (vecOf ss)) := slice_of_owns hrow (fun b hb _ => by omega)
      clear hso hl0 hrg hrow
      go_wp2
      go_ret
      exact ⟨_, rfl, by rw [← HE.out]; exact HI.out, hnx⟩
    · intro x c kl yd yp w2 cnt2 hkey hlk hv hat hrg2 hlt hg2 hs2 hen
      obtain ⟨x', ex, rfl, _⟩ := Maps.keyOf_str Tryz.underlying9 hkey
      obtain rfl : x = x' := encStr_inj ex
      have hxF : x ∈ F := (HD2.out x).1 (has_true_of_atKey hat)
      have hrow2 := hrow.kept hg2 (Or.inr (row_ne_iter hrow hrg).symm)
      have hB2 : Below w.heap.size w w2 := hnx.grown hg2 hnx.size (fun j hj => by cases hj; exact Nat.le_refl _)
      have hst := kept_step hso hlk hxF
      have hsz2 : w.heap.size + 1 ≤ w2.heap.size := by have := hg2.size; omega
      rw [if_pos rfl] at hst
      have HST : Hid (KeptSo F (fun _ => true) (fun z => left z && !z.sameKey (.string x)) (ss ++ [x])) := hst
      have hxl : x.length ≤ 1000 := HFX.out.2.1 x hxF
      have hxp : 0 < x.length := List.length_pos_iff.2 (HFX.out.2.2 x hxF)
      have HLT : Hid (wr.rangeLeft b w.heap.size = cnt) := hrg.left_eq
      have htop : topN ss ≤ 1000 := topN_upto (fun y hy => HFX.out.2.1 y ((hso.2 y).1 hy).1.1)
      obtain ⟨T, hT⟩ : ∃ T, topN ss = T := ⟨_, rfl⟩
      rw [hT] at hrow2 htop
      have HTT : Hid (topN ss = T) := hT
      have hsx : (⟨x.toArray⟩ : ByteArray).size = x.length := by simp [ByteArray.size]
      rw [encStr_string]
      clear hs2 hst hso hkey hv hat ex hrow hg2 hT hrg hnx hsz
      obtain ⟨a3, c3, rfl⟩ := own_form hrow2
      go_wp2
      go_loopw [3] (fun v W => ∃ j : Nat, T + j ≤ max T x.length ∧ W.ownsRow (w.heap.size + 1) 3 1 v (T + j) ((vecOf ss ++ List.replicate j 0).map (Value.int .i64)) ∧
          W.ranges Tryz.prog 9 (plainElem Tryz.prog 3) b w.heap.size F.length D (fun z => left z && !z.sameKey (.string x)) cnt2 ∧ Below w.heap.size w W ∧ w.heap.size + 1 ≤ W.heap.size)
        (fun v _ => x.length - sliceLen v)
      case atStart => exact ⟨0, by omega, by simpa using hrow2, hrg2, hB2, hsz2⟩
      case round =>
        obtain ⟨j, hj, hown, hrg3, hB3, hsz3⟩ := hrel
        obtain ⟨a4, c4, rfl⟩ := own_form hown
        by_cases hlo : T + j < x.length
        · have hlb : decide (((T + j : Nat) : Int) < (x.length : Int)) = true := decide_eq_true (by omega)
          have hne1 := row_ne_low hown (show b < w.heap.size + 1 by omega)
          have hne2 := row_ne_iter hown hrg3
          clear hrow2 hrg2
          go_wp2_with (first
            | (at_builtin; refine wpList_append_slice rfl (.tmp 16) (.tmp 17) 29 rfl (w.heap.size + 1) 3 i0 (.int .i64 0) 8 Tryz.underlying29 hi hz0 hz1 hz2 rfl _ _ _ rfl (hown.alloc _) _ [.int .i64 0] rfl (slice_one _ _ _) (by simp [Value.oneCell']) (by simp; omega) (by unfold maxLen; simp; omega) (by simp; omega) ?_; intro v4 w4 hown4 hg4 hl4)
            | go_in)
          (try go_frame)
          have hrg4 := (hrg3.alloc (.cells #[.int .i64 0] 3)).kept hg4 hne1 hne2
          have hown5 : w4.ownsRow (w.heap.size + 1) 3 1 v4 (T + (j + 1)) ((vecOf ss ++ List.replicate (j + 1) 0).map (Value.int .i64)) := by rw [pad_succ]; exact hown4
          obtain ⟨a5, c5, rfl⟩ := own_form hown5
          have hB4 : Below w.heap.size w w4 := (hB3.alloc hB3.size _).grown hg4 (by have := hB3.size; simp; omega) (fun j hj => by have := (hown.lt j hj).1; omega)
          have hs4 : w.heap.size + 1 ≤ w4.heap.size := by have := hg4.size; simp at this; omega
          clear hown4 hg4 hl4
          go_roundw
          case rel => exact ⟨j + 1, by omega, hown5, hrg4, hB4, hs4⟩
          case measure => simp [sliceLen]; omega
        · have hlb : decide (((T + j : Nat) : Int) < (x.length : Int)) = false := decide_eq_false (by omega)
          have hje : j = x.length - T := by omega
          obtain ⟨g, c5, e5, -, -⟩ := hown.form (by omega)
          cases e5
          obtain ⟨L, hL⟩ : ∃ L, x.length = L + 1 := ⟨x.length - 1, by omega⟩
          have HL : Hid (x.length = L + 1) := hL
          have hnum : ((x.length : Int) - 1) = (L : Int) := by omega
          have hlt5 : L < T + j := by omega
          have hcell := hown.cellAt L (by omega)
          have hget := pad_get ss j L (by rw [HTT.out]; omega)
          have hcb : _root_.Go.Proofs.YtnnkmkhamipfiaaGreatDoor.cnt ss L ≤ 100000 := by have := cnt_le ss L; omega
          obtain ⟨c0, hc0⟩ : ∃ c, _root_.Go.Proofs.YtnnkmkhamipfiaaGreatDoor.cnt ss L = c := ⟨_, rfl⟩
          rw [hc0] at hget hcb
          rw [List.getElem?_map, hget, Option.map_some] at hcell
          have hfz := hown.frozenAt L
          have hst := hown.stored L (.int .i64 ((c0 : Int) + 1))
          have hrg5 := hrg3.kept hst.2 (row_ne_low hown (show b < w.heap.size + 1 by omega)) (row_ne_iter hown hrg3)
          have hB5 : Below w.heap.size w (wr.setCell ⟨g, L, none⟩ (.int .i64 ((c0 : Int) + 1))) := hB3.setCell (p := ⟨g, L, none⟩) (by have := (hown.lt g rfl).1; show w.heap.size ≤ g; omega) _
          have hs5 : w.heap.size + 1 ≤ (wr.setCell ⟨g, L, none⟩ (.int .i64 ((c0 : Int) + 1))).heap.size := by rw [World.size_setCell]; exact hsz3
          have hO5 : (wr.setCell ⟨g, L, none⟩ (.int .i64 ((c0 : Int) + 1))).ownsRow (w.heap.size + 1) 3 1 (.slice (some ⟨g, 0, none⟩) (T + j) c4) (topN (ss ++ [x])) ((vecOf (ss ++ [x])).map (Value.int .i64)) := by
            have e1 : topN (ss ++ [x]) = T + j := by rw [topN_snoc, HTT.out]; omega
            rw [e1, ← vec_stored (HFX.out.2.2 x hxF) (j := j) (by rw [HTT.out]; omega) (c := (c0 : Int)) (by rw [hL, Nat.add_sub_cancel, hget, Option.getD_some]), hL, Nat.add_sub_cancel]
            exact hst.1
          have HO5 : Hid ((wr.setCell ⟨g, L, none⟩ (.int .i64 ((c0 : Int) + 1))).ownsRow (w.heap.size + 1) 3 1 (.slice (some ⟨g, 0, none⟩) (T + j) c4) (topN (ss ++ [x])) ((vecOf (ss ++ [x])).map (Value.int .i64))) := hO5
          have HR5 : Hid ((wr.setCell ⟨g, L, none⟩ (.int .i64 ((c0 : Int) + 1))).ranges Tryz.prog 9 (plainElem Tryz.prog 3) b w.heap.size F.length D (fun z => left z && !z.sameKey (.string x)) cnt2) := hrg5
          clear hO5 hst hrg5 hrg3 hown hget hc0 hL hje hrow2 hrg2 HL
          go_wp2
          go_roundw
          case rel => exact ⟨_, cnt2, ss ++ [x], HR5.out, by simp; omega, HO5.out, HST.out, hB5, hs5⟩
          case measure => rw [HR5.out.left_eq, HLT.out]; exact hlt

end Go.Proofs.YtnnkmkhamipfiaaGreatDoor

namespace Go.Proofs.YtnnkmkhamipfiaaGreatDoor
open Go.RowKit Go.Sort Go.Maps Go.Deep

/-- What Vector answers. -/
def VectorG (a : Nat → Addr) (l : List (List Int)) (w : World) (e : Ending) (w' : World) : Prop :=
  Below w.heap.size w w' ∧ ((∃ i, BadAt l i ∧ e = .returned (.tuple #[.slice none 0 0, .iface 250 (.pointer (some (a i)))])) ∨
    ∃ all v, Good l all ∧ e = .returned (.tuple #[v, .nilIface]) ∧ Ints w' v (vecOf all))

set_option maxRecDepth 100000 in
set_option maxHeartbeats 1000000 in
theorem vector_call {a : Nat → Addr} {s : Nat → ByteArray} (vl : Value) (l : List (List Int)) (w : World) (hE : Errs a s w) (hl : Rows w vl l) (hll : l.length ≤ 100000) (hle : ∀ x ∈ l, x.length ≤ 1000) :
    Calls Tryz.prog 79 #[.agg #[vl]] w fun e w' => VectorG a l w e w' := by
  obtain ⟨al, cl, rfl, -, -⟩ := hl.open_
  have hBa : Below w.heap.size w (w.alloc (.cells #[.slice al l.length cl] 39)) := (Below.refl _ w).alloc (Nat.le_refl _) _
  have hop := open_g _ l (w.alloc (.cells #[.slice al l.length cl] 39)) (hE.below hBa) (hl.below hBa) hll hle
  have hbc := (box_new w (.slice al l.length cl) 39).1
  clear hl
  go_enter Tryz.func79, Tryz.ntmps79
  go_wp2_with fail
  refine hop.mono ?_
  clear hop
  rintro e w2 ⟨hB2, ⟨i, hbad, rfl⟩ | ⟨all, b, F, G, hg, ht, rfl, hP, -⟩⟩
  · have HBD : Hid (BadAt l i) := hbad
    clear hbad
    go_wp2
    go_ret2
    exact ⟨below_out (below_after hB2 (Below.refl _ w2)), .inl ⟨i, HBD.out, rfl⟩⟩
  · have hve := vector_ b F G w2 hP (by have := ht.few; omega) ht.nodup (fun x hx => by have := ht.short x hx; omega) ht.some_
    have HG : Hid (Good l all ∧ Told F all) := ⟨hg, ht⟩
    clear hg ht hP
    go_wp2_with fail
    refine hve.mono ?_
    clear hve
    rintro e w3 ⟨v3, rfl, h1, h4⟩
    have hr := h1.any
    rw [HG.out.2.vec] at hr
    have HR : Hid (Ints w3 v3 (vecOf all)) := hr
    clear hr h1
    go_wp2
    go_ret2
    exact ⟨below_out (below_after hB2 h4), .inr ⟨all, v3, HG.out.1, rfl, HR.out⟩⟩

end Go.Proofs.YtnnkmkhamipfiaaGreatDoor

namespace Go.Proofs.YtnnkmkhamipfiaaGreatDoor
open Go.RowKit Go.Sort

theorem Tryz.info122 : (Tryz.prog.info? 122).map (fun i => (i.zero, i.size, i.bytes)) = some (some (.slice none 0 0), 1, 24) := by kernel_rfl

def noShape (v : Value) : Value := .tuple #[.agg #[.slice none 0 0, .slice none 0 0, .slice none 0 0], v]

/-- What number answers. -/
def NumSays (a : Nat → Addr) (l : List (List Int)) (w : World) (e : Ending) (w' : World) : Prop :=
  Below w.heap.size w w' ∧ ((∃ i, BadAt l i ∧ e = .returned (noShape (.iface 250 (.pointer (some (a i)))))) ∨
    ∃ all ad aS ao cd cs co, Good l all ∧ e = .returned (.tuple #[shapeV (numL all).length ad aS ao cd cs co, .nilIface]) ∧ ShapeIn (fun b => w.heap.size ≤ b) w' (numL all) ad aS ao cd cs co)

/-- The variable s, its tables and its dimensions. -/
structure NumAt (base sb : Nat) (css1 css2 : List (List Value)) (ds : List Int) (T : Nat → Prop) (W0 W : World) (vd vS vO : Value) (vs1 vs2 : List Value) : Prop where
  dims : W.ownsRow base 3 1 vd ds.length (ds.map (Value.int .i64))
  t1 : TabAt base 122 124 2 W vS vs1 css1
  t2 : TabAt base 29 3 1 W vO vs2 css2
  dis : ∀ b, TabBlock vS vs1 b → ¬ TabBlock vO vs2 b
  disd : ∀ b, vd.ownBlock = some b → ¬ TabBlock vS vs1 b ∧ ¬ TabBlock vO vs2 b
  c0 : W.cell? ⟨sb, 0, none⟩ = some vd ∧ W.frozen? ⟨sb, 0, none⟩ = false
  c1 : W.cell? ⟨sb, 1, none⟩ = some vS ∧ W.frozen? ⟨sb, 1, none⟩ = false
  c2 : W.cell? ⟨sb, 2, none⟩ = some vO ∧ W.frozen? ⟨sb, 2, none⟩ = false
  sbl : sb < base
  keep : KeepOff T W0 W
  Ts : T sb
  bd : ∀ b, vd.ownBlock = some b → T b ∨ W0.heap.size ≤ b
  b1 : ∀ b, TabBlock vS vs1 b → T b ∨ W0.heap.size ≤ b
  b2 : ∀ b, TabBlock vO vs2 b → T b ∨ W0.heap.size ≤ b

section
variable {base sb : Nat} {css1 css2 : List (List Value)} {ds : List Int} {T : Nat → Prop} {W0 W W' : World} {vd vS vO : Value} {vs1 vs2 : List Value}

theorem NumAt.below (h : NumAt base sb css1 css2 ds T W0 W vd vS vO vs1 vs2) (hB : Below W.heap.size W W') : NumAt base sb css1 css2 ds T W0 W' vd vS vO vs1 vs2 where
  dims := h.dims.kept (Below.grownBy hB) (by cases vd.ownBlock <;> simp)
  t1 := h.t1.below hB
  t2 := h.t2.below hB
  dis := h.dis
  disd := h.disd
  c0 := ⟨(hB.cell (p := ⟨sb, 0, none⟩) (cell_lt h.c0.1)).trans h.c0.1, (hB.frozen (p := ⟨sb, 0, none⟩) (cell_lt h.c0.1)).trans h.c0.2⟩
  c1 := ⟨(hB.cell (p := ⟨sb, 1, none⟩) (cell_lt h.c1.1)).trans h.c1.1, (hB.frozen (p := ⟨sb, 1, none⟩) (cell_lt h.c1.1)).trans h.c1.2⟩
  c2 := ⟨(hB.cell (p := ⟨sb, 2, none⟩) (cell_lt h.c2.1)).trans h.c2.1, (hB.frozen (p := ⟨sb, 2, none⟩) (cell_lt h.c2.1)).trans h.c2.2⟩
  sbl := h.sbl
  keep := h.keep.on (Below.grownBy hB) (fun b e => by cases e)
  Ts := h.Ts
  bd := h.bd
  b1 := h.b1
  b2 := h.b2

/-- A new start: what is kept from here on. -/
theorem NumAt.start (h : NumAt base sb css1 css2 ds T W0 W vd vS vO vs1 vs2) (T' : Nat → Prop) (hs : T' sb) (hd : ∀ b, vd.ownBlock = some b → T' b) (h1 : ∀ b, TabBlock vS vs1 b → T' b) (h2 : ∀ b, TabBlock vO vs2 b → T' b) : NumAt base sb css1 css2 ds T' W W vd vS vO vs1 vs2 :=
  ⟨h.dims, h.t1, h.t2, h.dis, h.disd, h.c0, h.c1, h.c2, h.sbl, KeepOff.refl _ _, hs, fun b e => .inl (hd b e), fun b e => .inl (h1 b e), fun b e => .inl (h2 b e)⟩

/-- One dimension's number more. -/
theorem NumAt.push {o : Obj} {vd' : Value} {x : Int} (h : NumAt base sb css1 css2 ds T W0 W vd vS vO vs1 vs2) (hown : W'.ownsRow base 3 1 vd' (ds.length + 1) (ds.map (Value.int .i64) ++ [.int .i64 x])) (hg : (W.alloc o).grownBy W' vd.ownBlock) (hl : vd'.ownBlock = vd.ownBlock ∨ vd'.ownBlock = some (W.alloc o).heap.size) :
    NumAt base sb css1 css2 (ds ++ [x]) T W0 (W'.setCell ⟨sb, 0, none⟩ vd') vd' vS vO vs1 vs2 := by
  have hsz := hg.size
  rw [World.size_alloc] at hsz
  have hbd : ∀ b, vd'.ownBlock = some b → vd.ownBlock = some b ∨ b = W.heap.size + 1 := fun b hb => by
    rcases hl with e | e
    · exact .inl (e.symm.trans hb)
    · right; rw [e] at hb; simpa using hb.symm
  have hsbW : sb < W.heap.size := cell_lt h.c0.1
  have hvsb : ∀ b, vd.ownBlock = some b → b ≠ sb := fun b hb => by have := (h.dims.lt b hb).1; have := h.sbl; omega
  have kp : ∀ j v, j ≠ 0 → (W.cell? ⟨sb, j, none⟩ = some v ∧ W.frozen? ⟨sb, j, none⟩ = false) → ((W'.setCell ⟨sb, 0, none⟩ vd').cell? ⟨sb, j, none⟩ = some v ∧ (W'.setCell ⟨sb, 0, none⟩ vd').frozen? ⟨sb, j, none⟩ = false) := fun j v hj hc => by
    have := far_kept hg (p := ⟨sb, j, none⟩) hc (fun e => hvsb sb e.symm rfl)
    exact ⟨(World.cell?_setCell_other _ _ _ _ (addr_ne (.inr (Ne.symm hj)))).trans this.1, by rw [World.frozen?_setCell]; exact this.2⟩
  have h0 := far_kept hg (p := ⟨sb, 0, none⟩) h.c0 (fun e => hvsb sb e.symm rfl)
  have hs1 : ∀ b, TabBlock vS vs1 b → b ≠ sb := fun b hb => by have := (h.t1.lt hb).1; have := h.sbl; omega
  have hs2 : ∀ b, TabBlock vO vs2 b → b ≠ sb := fun b hb => by have := (h.t2.lt hb).1; have := h.sbl; omega
  refine ⟨?_, ?_, ?_, h.dis, fun b hb => ?_, ⟨World.cell?_setCell_same' _ _ _ (by rw [h0.1]; rfl), by rw [World.frozen?_setCell]; exact h0.2⟩, kp 1 _ (by decide) h.c1, kp 2 _ (by decide) h.c2, h.sbl, ?_, h.Ts, fun b hb => ?_, h.b1, h.b2⟩
  · rw [List.length_append, List.map_append]
    exact hown.kept (grown_one W' ⟨sb, 0, none⟩ vd') (not_own fun b hb e => by
      cases e
      rcases hbd sb hb with h1 | h1
      · exact hvsb sb h1 rfl
      · omega)
  · exact ((h.t1.kept (World.grownBy_alloc W o none) (fun b e => by cases e)).kept hg (fun b e => (h.disd b e).1)).kept (grown_one W' ⟨sb, 0, none⟩ vd') (fun b e hb => by cases e; exact hs1 sb hb rfl)
  · exact ((h.t2.kept (World.grownBy_alloc W o none) (fun b e => by cases e)).kept hg (fun b e => (h.disd b e).2)).kept (grown_one W' ⟨sb, 0, none⟩ vd') (fun b e hb => by cases e; exact hs2 sb hb rfl)
  · rcases hbd b hb with h1 | h1
    · exact h.disd b h1
    · exact ⟨fun hb' => by have := (h.t1.lt hb').2; omega, fun hb' => by have := (h.t2.lt hb').2; omega⟩
  · exact ((h.keep.on (World.grownBy_alloc W o none) (fun b e => by cases e)).on hg (fun b e => h.bd b e)).on (grown_one W' ⟨sb, 0, none⟩ vd') (fun b e => by cases e; exact .inl h.Ts)
  · rcases hbd b hb with h1 | h1
    · exact h.bd b h1
    · right; have := h.keep.size; omega

theorem tab_more_block {v v' : Value} {vs : List Value} {n : Nat} {W : World} (hl : ∀ b, v'.ownBlock = some b → v.ownBlock = some b ∨ W.heap.size ≤ b) {b : Nat} (hb : TabBlock v' (vs ++ List.replicate n (.slice none 0 0)) b) : TabBlock v vs b ∨ W.heap.size ≤ b := by
  rcases hb with hb | ⟨k, u, hu, hb⟩
  · rcases hl b hb with h | h
    · exact .inl (.inl h)
    · exact .inr h
  · rw [List.getElem?_append] at hu
    split at hu
    · exact .inl (.inr ⟨k, u, hu, hb⟩)
    · rw [List.getElem?_replicate] at hu
      split at hu
      · obtain rfl := Option.some.inj hu
        cases hb
      · cases hu

/-- More rows for the sides. -/
theorem NumAt.moreS {vS' : Value} {n : Nat} (h : NumAt base sb css1 css2 ds T W0 W vd vS vO vs1 vs2) (hown : W'.ownsRow base 122 1 vS' (css1.length + n) (vs1 ++ List.replicate n (.slice none 0 0))) (hg : W.grownBy W' vS.ownBlock) (hl : ∀ b, vS'.ownBlock = some b → vS.ownBlock = some b ∨ W.heap.size ≤ b) :
    NumAt base sb (css1 ++ List.replicate n []) css2 ds T W0 (W'.setCell ⟨sb, 1, none⟩ vS') vd vS' vO (vs1 ++ List.replicate n (.slice none 0 0)) vs2 := by
  have hs1 : ∀ b, TabBlock vS vs1 b → b ≠ sb := fun b hb => by have := (h.t1.lt hb).1; have := h.sbl; omega
  have hs2 : ∀ b, TabBlock vO vs2 b → b ≠ sb := fun b hb => by have := (h.t2.lt hb).1; have := h.sbl; omega
  have hsd : ∀ b, vd.ownBlock = some b → b ≠ sb := fun b hb => by have := (h.dims.lt b hb).1; have := h.sbl; omega
  have hsbW : sb < W.heap.size := cell_lt h.c0.1
  have hbl : ∀ b, TabBlock vS' (vs1 ++ List.replicate n (.slice none 0 0)) b → TabBlock vS vs1 b ∨ W.heap.size ≤ b := fun b hb => tab_more_block hl hb
  have far : ∀ j v, (W.cell? ⟨sb, j, none⟩ = some v ∧ W.frozen? ⟨sb, j, none⟩ = false) → (W'.cell? ⟨sb, j, none⟩ = some v ∧ W'.frozen? ⟨sb, j, none⟩ = false) := fun j v hc => by
    have hb := hg.block sb hsbW (fun e => hs1 sb (.inl e.symm) rfl)
    exact ⟨(World.cell?_of_block (a := ⟨sb, j, none⟩) hb).trans hc.1, (World.frozen?_of_block (a := ⟨sb, j, none⟩) hb).trans hc.2⟩
  have kp : ∀ j v, j ≠ 1 → (W.cell? ⟨sb, j, none⟩ = some v ∧ W.frozen? ⟨sb, j, none⟩ = false) → ((W'.setCell ⟨sb, 1, none⟩ vS').cell? ⟨sb, j, none⟩ = some v ∧ (W'.setCell ⟨sb, 1, none⟩ vS').frozen? ⟨sb, j, none⟩ = false) := fun j v hj hc =>
    ⟨(World.cell?_setCell_other _ _ _ _ (addr_ne (.inr (Ne.symm hj)))).trans (far j v hc).1, by rw [World.frozen?_setCell]; exact (far j v hc).2⟩
  refine ⟨?_, ?_, ?_, fun b hb hb2 => ?_, fun b hb => ⟨fun hb2 => ?_, (h.disd b hb).2⟩, kp 0 _ (by decide) h.c0, ⟨World.cell?_setCell_same' _ _ _ (by rw [(far 1 _ h.c1).1]; rfl), by rw [World.frozen?_setCell]; exact (far 1 _ h.c1).2⟩, kp 2 _ (by decide) h.c2, h.sbl, ?_, h.Ts, h.bd, fun b hb => ?_, h.b2⟩
  · exact (h.dims.kept hg (not_own fun b hb e => (h.disd b hb).1 (.inl e))).kept (grown_one W' ⟨sb, 1, none⟩ vS') (not_own fun b hb e => hsd b hb (Option.some.inj e).symm)
  · refine (h.t1.more hown hg hl).kept (grown_one W' ⟨sb, 1, none⟩ vS') (fun b e hb => ?_)
    obtain rfl : sb = b := Option.some.inj e
    rcases hbl sb hb with h1 | h1
    · exact hs1 sb h1 rfl
    · omega
  · exact (h.t2.kept hg (fun b e => h.dis b (.inl e))).kept (grown_one W' ⟨sb, 1, none⟩ vS') (fun b e hb => hs2 b hb (Option.some.inj e).symm)
  · rcases hbl b hb with h1 | h1
    · exact h.dis b h1 hb2
    · have := (h.t2.lt hb2).2; omega
  · rcases hbl b hb2 with h1 | h1
    · exact (h.disd b hb).1 h1
    · have := (h.dims.lt b hb).2; omega
  · exact (h.keep.on hg (fun b e => h.b1 b (.inl e))).on (grown_one W' ⟨sb, 1, none⟩ vS') (fun b e => by obtain rfl : sb = b := Option.some.inj e; exact .inl h.Ts)
  · rcases hbl b hb with h1 | h1
    · exact h.b1 b h1
    · right; have := h.keep.size; omega

/-- More rows for the faces over each. -/
theorem NumAt.moreO {vO' : Value} {n : Nat} (h : NumAt base sb css1 css2 ds T W0 W vd vS vO vs1 vs2) (hown : W'.ownsRow base 29 1 vO' (css2.length + n) (vs2 ++ List.replicate n (.slice none 0 0))) (hg : W.grownBy W' vO.ownBlock) (hl : ∀ b, vO'.ownBlock = some b → vO.ownBlock = some b ∨ W.heap.size ≤ b) :
    NumAt base sb css1 (css2 ++ List.replicate n []) ds T W0 (W'.setCell ⟨sb, 2, none⟩ vO') vd vS vO' vs1 (vs2 ++ List.replicate n (.slice none 0 0)) := by
  have hs1 : ∀ b, TabBlock vS vs1 b → b ≠ sb := fun b hb => by have := (h.t1.lt hb).1; have := h.sbl; omega
  have hs2 : ∀ b, TabBlock vO vs2 b → b ≠ sb := fun b hb => by have := (h.t2.lt hb).1; have := h.sbl; omega
  have hsd : ∀ b, vd.ownBlock = some b → b ≠ sb := fun b hb => by have := (h.dims.lt b hb).1; have := h.sbl; omega
  have hsbW : sb < W.heap.size := cell_lt h.c0.1
  have hbl : ∀ b, TabBlock vO' (vs2 ++ List.replicate n (.slice none 0 0)) b → TabBlock vO vs2 b ∨ W.heap.size ≤ b := fun b hb => tab_more_block hl hb
  have far : ∀ j v, (W.cell? ⟨sb, j, none⟩ = some v ∧ W.frozen? ⟨sb, j, none⟩ = false) → (W'.cell? ⟨sb, j, none⟩ = some v ∧ W'.frozen? ⟨sb, j, none⟩ = false) := fun j v hc => by
    have hb := hg.block sb hsbW (fun e => hs2 sb (.inl e.symm) rfl)
    exact ⟨(World.cell?_of_block (a := ⟨sb, j, none⟩) hb).trans hc.1, (World.frozen?_of_block (a := ⟨sb, j, none⟩) hb).trans hc.2⟩
  have kp : ∀ j v, j ≠ 2 → (W.cell? ⟨sb, j, none⟩ = some v ∧ W.frozen? ⟨sb, j, none⟩ = false) → ((W'.setCell ⟨sb, 2, none⟩ vO').cell? ⟨sb, j, none⟩ = some v ∧ (W'.setCell ⟨sb, 2, none⟩ vO').frozen? ⟨sb, j, none⟩ = false) := fun j v hj hc =>
    ⟨(World.cell?_setCell_other _ _ _ _ (addr_ne (.inr (Ne.symm hj)))).trans (far j v hc).1, by rw [World.frozen?_setCell]; exact (far j v hc).2⟩
  refine ⟨?_, ?_, ?_, fun b hb hb2 => ?_, fun b hb => ⟨(h.disd b hb).1, fun hb2 => ?_⟩, kp 0 _ (by decide) h.c0, kp 1 _ (by decide) h.c1, ⟨World.cell?_setCell_same' _ _ _ (by rw [(far 2 _ h.c2).1]; rfl), by rw [World.frozen?_setCell]; exact (far 2 _ h.c2).2⟩, h.sbl, ?_, h.Ts, h.bd, h.b1, fun b hb => ?_⟩
  · exact (h.dims.kept hg (not_own fun b hb e => (h.disd b hb).2 (.inl e))).kept (grown_one W' ⟨sb, 2, none⟩ vO') (not_own fun b hb e => hsd b hb (Option.some.inj e).symm)
  · exact (h.t1.kept hg (fun b e hb => h.dis b hb (.inl e))).kept (grown_one W' ⟨sb, 2, none⟩ vO') (fun b e hb => hs1 b hb (Option.some.inj e).symm)
  · refine (h.t2.more hown hg hl).kept (grown_one W' ⟨sb, 2, none⟩ vO') (fun b e hb => ?_)
    obtain rfl : sb = b := Option.some.inj e
    rcases hbl sb hb with h1 | h1
    · exact hs2 sb h1 rfl
    · omega
  · rcases hbl b hb2 with h1 | h1
    · exact h.dis b hb h1
    · have := (h.t1.lt hb).2; omega
  · rcases hbl b hb2 with h1 | h1
    · exact (h.disd b hb).2 h1
    · have := (h.dims.lt b hb).2; omega
  · exact (h.keep.on hg (fun b e => h.b2 b (.inl e))).on (grown_one W' ⟨sb, 2, none⟩ vO') (fun b e => by obtain rfl : sb = b := Option.some.inj e; exact .inl h.Ts)
  · rcases hbl b hb with h1 | h1
    · exact h.b2 b h1
    · right; have := h.keep.size; omega

end

end Go.Proofs.YtnnkmkhamipfiaaGreatDoor
