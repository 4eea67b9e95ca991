/- A shape and what is left of it, as they read. The free pairs, as a list; what the program says of two types. What the reference's OfDim answers: the faces of a dimension. What the reference's TopOf answers. -/
import Derived.Test.YthmjdfjchhohgaaGreatDoorMatAt
import Derived.Test.YthmjdfjchhohgaaGreatDoorIdxRowBox
import Derived.Deep.OwnRows
import Derived.Test.YthmjdfjchhohgaaGreatDoorIdxHas
import Derived.Test.YthmjdfjchhohgaaGreatDoorMade
import Derived.Test.YthmjdfjchhohgaaGreatDoorGather
import Derived.Test.YthmjdfjchhohgaaGreatDoorMathV
import Derived.Test.YthmjdfjchhohgaaGreatDoorRefC
namespace Go.Proofs.YthmjdfjchhohgaaGreatDoor
open Go.RowKit Go.Sort

def allD (_ _ : Nat) : Bool := true
def allL (_ : Nat) : Bool := true
theorem ovD_all (L : List (List Int)) (i : Nat) : ovD L allD i = ovL L allL i := rfl

/-- The faces over each face; the sides of a face. -/
def overI (L : List (List Int)) (i : Nat) : List Int := (ovD L allD i).map fun (k : Nat) => (k : Int)
def oversI (L : List (List Int)) : List (List Int) := (List.range L.length).map (overI L)
def sidesI (L : List (List Int)) (k : Nat) : List Duo := (sidD L allD k).map (sideP L k)
theorem oversI_len (L : List (List Int)) : (oversI L).length = L.length := by simp [oversI]
theorem oversI_at {L : List (List Int)} {i : Nat} (h : i < L.length) : (oversI L)[i]?.getD [] = overI L i := by unfold oversI; rw [List.getElem?_map, List.getElem?_range h]; rfl

/-- A slice of slices of sides. -/
def SidesIn (S : Nat → Prop) (W : World) (v : Value) (L : List (List Int)) : Prop := ∃ vs : List Value, SliceIn S W v vs ∧ vs.length = L.length ∧ ∀ (k : Nat) (u : Value), vs[k]? = some u → DuoIn S W u (sidesI L k)

structure ShapeIn (S : Nat → Prop) (W : World) (L : List (List Int)) (ad aS ao : Option Addr) (cd cs co : Nat) : Prop where
  dims : IntsIn S W (.slice ad L.length cd) (L.map fun x => (x.length : Int) - 1)
  sides : SidesIn S W (.slice aS L.length cs) L
  over : RowsIn S W (.slice ao L.length co) (oversI L)

theorem SidesIn.keep {S : Nat → Prop} {W W' : World} {v : Value} {L : List (List Int)} (h : SidesIn S W v L) (hs : W.heap.size ≤ W'.heap.size) (hk : ∀ b, b < W.heap.size → S b → W'.heap[b]? = W.heap[b]?) : SidesIn S W' v L := by
  obtain ⟨vs, h1, h2, h3⟩ := h
  exact ⟨vs, SliceIn.keep h1 hk, h2, fun k u hu => (h3 k u hu).keep hs hk⟩
theorem RowsIn.keep' {S : Nat → Prop} {W W' : World} {v : Value} {xss : List (List Int)} (h : RowsIn S W v xss) (hk : ∀ b, b < W.heap.size → S b → W'.heap[b]? = W.heap[b]?) : RowsIn S W' v xss := by
  obtain ⟨vs, h1, h2, h3⟩ := h
  exact ⟨vs, SliceIn.keep h1 hk, h2, fun k u x hu hx => SliceIn.keep (h3 k u x hu hx) hk⟩
theorem ShapeIn.keep {S : Nat → Prop} {W W' : World} {L : List (List Int)} {ad aS ao : Option Addr} {cd cs co : Nat} (h : ShapeIn S W L ad aS ao cd cs co) (hs : W.heap.size ≤ W'.heap.size) (hk : ∀ b, b < W.heap.size → S b → W'.heap[b]? = W.heap[b]?) : ShapeIn S W' L ad aS ao cd cs co :=
  ⟨SliceIn.keep h.dims hk, h.sides.keep hs hk, h.over.keep' hk⟩
theorem ShapeIn.below {S : Nat → Prop} {W W' : World} {L : List (List Int)} {ad aS ao : Option Addr} {cd cs co : Nat} (h : ShapeIn S W L ad aS ao cd cs co) (hB : Below W.heap.size W W') : ShapeIn S W' L ad aS ao cd cs co := h.keep hB.size (fun b hb _ => hB.block b hb)
theorem ShapeIn.mono {S S' : Nat → Prop} {W : World} {L : List (List Int)} {ad aS ao : Option Addr} {cd cs co : Nat} (h : ShapeIn S W L ad aS ao cd cs co) (hs : ∀ b, b < W.heap.size → S b → S' b) : ShapeIn S' W L ad aS ao cd cs co := by
  refine ⟨SliceIn.mono h.dims hs, ?_, h.over.mono hs⟩
  obtain ⟨vs, h1, h2, h3⟩ := h.sides
  exact ⟨vs, SliceIn.mono h1 hs, h2, fun k u hu => (h3 k u hu).mono hs⟩

def shapeV (n : Nat) (ad aS ao : Option Addr) (cd cs co : Nat) : Value := .agg #[.slice ad n cd, .slice aS n cs, .slice ao n co]
def restV (n : Nat) (ad aS ao : Option Addr) (cd cs co gl gc : Nat) : Value := .agg #[.slice ad n cd, .slice aS n cs, .slice ao n co, .slice (some ⟨gl, 0, none⟩) n n, .slice (some ⟨gc, 0, none⟩) n n]

/-- What is left of a shape: the shape lies below B, what is left and how many are over each face behind it. -/
structure RestAt (B : Nat) (W : World) (L : List (List Int)) (ad aS ao : Option Addr) (cd cs co gl gc : Nat) (left : Nat → Bool) : Prop where
  shape : ShapeIn (fun b => b < B) W L ad aS ao cd cs co
  lefts : W.rowIs gl 4 L.length (fun i => .bool (left i))
  counts : W.rowIs gc 3 L.length (fun i => .int .i64 ((ovL L left i).length : Int))
  bl : B ≤ gl
  bc : B ≤ gc
  ne : gl ≠ gc

theorem RestAt.below {B : Nat} {W W' : World} {L : List (List Int)} {ad aS ao : Option Addr} {cd cs co gl gc : Nat} {left : Nat → Bool} (h : RestAt B W L ad aS ao cd cs co gl gc left) (hB : Below W.heap.size W W') : RestAt B W' L ad aS ao cd cs co gl gc left :=
  ⟨h.shape.below hB, h.lefts.of_block (hB.block gl h.lefts.lt), h.counts.of_block (hB.block gc h.counts.lt), h.bl, h.bc, h.ne⟩
theorem ShapeIn.kept {B : Nat} {W W' : World} {L : List (List Int)} {ad aS ao : Option Addr} {cd cs co gl gc : Nat} (h : ShapeIn (fun b => b < B) W L ad aS ao cd cs co) (hl : B ≤ gl) (hc : B ≤ gc) (hK : KeepBut W W' gl gc) : ShapeIn (fun b => b < B) W' L ad aS ao cd cs co :=
  h.keep hK.size (fun b hb hS => hK.block b hb (fun e => by have hS : b < B := hS; omega) (fun e => by have hS : b < B := hS; omega))

theorem KeepBut.trans {W W1 W2 : World} {r g : Nat} (h : KeepBut W W1 r g) (h' : KeepBut W1 W2 r g) : KeepBut W W2 r g :=
  ⟨h'.os.trans h.os, h'.tape.trans h.tape, h'.output.trans h.output, Nat.le_trans h.size h'.size, fun b hb h1 h2 => (h'.block b (Nat.lt_of_lt_of_le hb h.size) h1 h2).trans (h.block b hb h1 h2)⟩
theorem KeepBut.below {W W1 W2 : World} {r g : Nat} (h : KeepBut W W1 r g) (hB : Below W1.heap.size W1 W2) : KeepBut W W2 r g := h.on (Below.grownBy hB) (fun b e => by cases e)

/-- A struct of two in a variable. -/
theorem two_box (W : World) (x y : Value) (t : TypeId) : (W.alloc (.cells #[x, y] t)).cell? ⟨W.heap.size, 0, none⟩ = some x ∧ (W.alloc (.cells #[x, y] t)).cell? ⟨W.heap.size, 1, none⟩ = some y := by
  constructor <;> simp

theorem one_ex {l : List Nat} (h : l.length = 1) : ∃ k, l = [k] := by
  match l, h with
  | [k], _ => exact ⟨k, rfl⟩
theorem int_one {l : List Nat} : ((l.length : Int) = 1) ↔ ∃ k, l = [k] := ⟨fun h => one_ex (by omega), fun ⟨k, h⟩ => by rw [h]; rfl⟩

end Go.Proofs.YthmjdfjchhohgaaGreatDoor

namespace Go.Proofs.YthmjdfjchhohgaaGreatDoor
open Go.RowKit Go.Sort

theorem Tryz.infob : (Tryz.prog.info? 4).map (fun i => (i.zero, i.size, i.bytes)) = some (some (.bool false), 1, 1) := by kernel_rfl
theorem Tryz.infop : (Tryz.prog.info? 166).map (fun i => (i.zero, i.size, i.bytes)) = some (some (.agg #[.int .i64 0, .int .i64 0]), 2, 16) := by kernel_rfl

/-- The free pairs. -/
def freeP (L : List (List Int)) (left : Nat → Bool) (i : Nat) : List Duo := match grL L left i with
  | [k] => [((i : Int), (k : Int))]
  | _ => []
def freeTo (L : List (List Int)) (left : Nat → Bool) (k : Nat) : List Duo := (List.range k).flatMap (freeP L left)
theorem freeTo_succ (L : List (List Int)) (left : Nat → Bool) (k : Nat) : freeTo L left (k + 1) = freeTo L left k ++ freeP L left k := by simp [freeTo, List.range_succ]
theorem freeP_one {L : List (List Int)} {left : Nat → Bool} {i k : Nat} (h : grL L left i = [k]) : freeP L left i = [((i : Int), (k : Int))] := by unfold freeP; rw [h]
theorem freeP_no {L : List (List Int)} {left : Nat → Bool} {i : Nat} (h : (grL L left i).length ≠ 1) : freeP L left i = [] := by
  unfold freeP
  split
  · rename_i e; rw [e] at h; simp at h
  · rfl
theorem freeP_len (L : List (List Int)) (left : Nat → Bool) (i : Nat) : (freeP L left i).length ≤ 1 := by unfold freeP; split <;> simp
theorem freeTo_len (L : List (List Int)) (left : Nat → Bool) (k : Nat) : (freeTo L left k).length ≤ k := by
  induction k with
  | zero => simp [freeTo]
  | succ k ih => rw [freeTo_succ, List.length_append]; have := freeP_len L left k; omega

end Go.Proofs.YthmjdfjchhohgaaGreatDoor

namespace Go.Proofs.YthmjdfjchhohgaaGreatDoor
open Go.RowKit Go.Sort

set_option maxRecDepth 100000 in
set_option maxHeartbeats 1000000 in
theorem of_dim (va : Value) (all : List (List Int)) (dim : Int) (w : World) (ha : Rows w va all) (hl : all.length ≤ 1000) (hx : ∀ x ∈ all, x.length ≤ 1000) :
    Calls Tryz.prog 72 #[va, .int .i64 dim] w fun e w' => ∃ v, e = .returned v ∧ Rows w' v (ofDim all dim) ∧ Below w.heap.size w w' := by
  obtain ⟨i0, hi, hz0, hz1, hz2⟩ := info_parts Tryz.info23
  obtain ⟨a, ca, rfl, -, hc⟩ := ha.open_
  have HX : Hid (∀ x ∈ all, x.length ≤ 1000) := hx
  clear hx ha
  go_enter Tryz.func72, Tryz.ntmps72
  go_wp2
  go_loopw [5, 6] (fun v p wr => ∃ (k : Nat) (us : List Value), k ≤ all.length ∧ p = .int .i64 k ∧ wr.ownsRow w.heap.size 23 1 v us.length us ∧ Heads w us (ofDim (all.take k) dim) ∧ Below w.heap.size w wr)
    (fun _ p _ => all.length - (intOf p).toNat)
  case atStart => exact ⟨0, [], by omega, rfl, World.ownsRow_nil _ _ _ _, ⟨by simp [ofDim], fun k u x h => by simp at h⟩, Below.refl _ _⟩
  case round =>
    obtain ⟨k, us, hk, rfl, hown, hh, hB⟩ := hrel
    have HH : Hid (Heads w us (ofDim (all.take k) dim)) := hh
    have hul : us.length ≤ 1000 := by have := hh.1; have := ofDim_length (all.take k) dim; simp at this; omega
    clear hh
    by_cases hlt : k < all.length
    · obtain ⟨b, o, rfl, -, hb, c⟩ := hc (by omega)
      obtain ⟨a1, p1, g1, i1⟩ := c k hlt
      have hlen : (all[k]?.getD []).length ≤ 1000 := HX.out _ (by rw [List.getElem?_eq_getElem hlt]; simp)
      obtain ⟨x, hxe⟩ : ∃ x, all[k]?.getD [] = x := ⟨_, rfl⟩
      rw [hxe] at g1 i1 hlen
      have g2 : wr.cell? ⟨b, o + k, none⟩ = some (.slice a1 x.length p1) := (hB.cell (p := ⟨b, o + k, none⟩) hb).trans g1
      have HI1 : Hid (Ints w (.slice a1 x.length p1) x) := i1
      have HF : Hid (ofDim (all.take (k + 1)) dim = ofDim (all.take k) dim ++ (if (x.length : Int) - 1 = dim then [x] else [])) := by
        show ofDim (all.take (k + 1)) dim = _
        rw [ofDim_succ hlt, hxe]
      have hbs := hB.size
      clear hxe i1 g1 hc c
      by_cases hd : (x.length : Int) - 1 = dim
      · have hdb : ((x.length : Int) - 1 == dim) = true := beq_iff_eq.2 hd
        have HD : Hid ((x.length : Int) - 1 = dim) := hd
        clear hd
        go_wp2_with (first
          | (at_builtin; refine wpList_append_slice rfl (.tmp 21) (.tmp 26) 22 rfl w.heap.size 23 i0 (.slice none 0 0) 24 Tryz.underlying22 hi hz0 hz1 hz2 rfl _ _ _ rfl (hown.alloc _) _ [.slice a1 x.length p1] rfl (slice_one _ _ _) (by simp [Value.oneCell']) (by simp; omega) (by unfold maxLen; simp; omega) (by simp; omega) ?_; intro v3 w4 hown3 hg3 hl3)
          | go_in)
        (try go_frame)
        go_roundw
        case rel => exact ⟨k + 1, us ++ [.slice a1 x.length p1], by omega, by go_num, by simpa using hown3, by rw [HF.out, if_pos HD.out]; exact HH.out.snoc HI1.out, (hB.alloc hbs _).grown hg3 (by simp; omega) (fun j hj => (hown.lt j hj).1)⟩
        case measure => simp [intOf]; omega
      · have hdb : ((x.length : Int) - 1 == dim) = false := beq_false_of_ne hd
        have HD : Hid (¬ (x.length : Int) - 1 = dim) := hd
        clear hd
        go_wp2
        go_roundw
        case rel => exact ⟨k + 1, us, by omega, by go_num, hown, by rw [HF.out, if_neg HD.out, List.append_nil]; exact HH.out, hB⟩
        case measure => simp [intOf]; omega
    · obtain rfl : k = all.length := by omega
      clear hc
      go_wp2
      go_ret
      have hh := HH.out
      rw [List.take_length] at hh
      exact ⟨_, rfl, hh.rows hB hown, hB⟩

end Go.Proofs.YthmjdfjchhohgaaGreatDoor

namespace Go.Proofs.YthmjdfjchhohgaaGreatDoor
open Go.RowKit Go.Sort

theorem top_take {all : List (List Int)} {k : Nat} (hk : k < all.length) : topN (all.take (k + 1)) = max (topN (all.take k)) (all[k]?.getD []).length := by
  rw [List.take_add_one, List.getElem?_eq_getElem hk, Option.getD_some]
  exact topN_snoc _ _
set_option maxRecDepth 100000 in
theorem top_of (va : Value) (all : List (List Int)) (w : World) (ha : Rows w va all) (hl : all.length ≤ 1000) (hx : ∀ x ∈ all, x.length ≤ 1000) :
    Calls Tryz.prog 71 #[va] w fun e w' => e = .returned (.int .i64 ((topN all : Int) - 1)) ∧ w' = w := by
  obtain ⟨a, ca, rfl, -, hc⟩ := ha.open_
  have HX : Hid (∀ x ∈ all, x.length ≤ 1000) := hx
  have HT : Hid (∀ k, topN (all.take k) ≤ 1000) := fun k => topN_upto (fun x h => hx x (List.mem_of_mem_take h))
  clear hx ha
  go_enter Tryz.func71, Tryz.ntmps71
  go_wp2
  go_loopw [3, 4] (fun v p wr => ∃ k t : Nat, k ≤ all.length ∧ p = .int .i64 k ∧ v = .int .i64 ((t : Int) - 1) ∧ t = topN (all.take k) ∧ wr = w)
    (fun _ p _ => all.length - (intOf p).toNat)
  case atStart => exact ⟨0, 0, by omega, rfl, rfl, rfl, rfl⟩
  case round =>
    obtain ⟨k, t, hk, rfl, rfl, ht, rfl⟩ := hrel
    have ht1 : t ≤ 1000 := by rw [ht]; exact HT.out k
    have HTK : Hid (t = topN (all.take k)) := ht
    clear ht
    by_cases hlt : k < all.length
    · obtain ⟨b, o, rfl, -, hb, c⟩ := hc (by omega)
      obtain ⟨a1, p1, g1, i1⟩ := c k hlt
      have hlen : (all[k]?.getD []).length ≤ 1000 := HX.out _ (by rw [List.getElem?_eq_getElem hlt]; simp)
      obtain ⟨x, hxe⟩ : ∃ x, all[k]?.getD [] = x := ⟨_, rfl⟩
      rw [hxe] at g1 i1 hlen
      have HS : Hid (topN (all.take (k + 1)) = max t x.length) := by
        show topN (all.take (k + 1)) = max t x.length
        rw [top_take hlt, hxe, HTK.out]
      clear hxe i1 hc c
      by_cases hd : t < x.length
      · have hdb : decide ((t : Int) - 1 < (x.length : Int) - 1) = true := decide_eq_true (by omega)
        go_wp2
        go_roundw
        case rel => exact ⟨k + 1, x.length, by omega, by go_num, rfl, by rw [HS.out]; omega, (by first | trivial | rfl)⟩
        case measure => simp [intOf]; omega
      · have hdb : decide ((t : Int) - 1 < (x.length : Int) - 1) = false := decide_eq_false (by omega)
        go_wp2
        go_roundw
        case rel => exact ⟨k + 1, t, by omega, by go_num, rfl, by rw [HS.out]; omega, (by first | trivial | rfl)⟩
        case measure => simp [intOf]; omega
    · obtain rfl : k = all.length := by omega
      clear hc
      go_wp2
      go_ret
      have e := HTK.out
      rw [List.take_length] at e
      exact ⟨by rw [← e]; rfl, rfl⟩

end Go.Proofs.YthmjdfjchhohgaaGreatDoor
