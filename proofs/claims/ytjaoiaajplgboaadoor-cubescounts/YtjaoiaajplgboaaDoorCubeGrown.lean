/- What grown answers: the piece of a square, each square once; and all of it is met then. -/
import Derived.Test.YtjaoiaajplgboaaDoorCubeNear
import Derived.Test.YtjaoiaajplgboaaDoorCubeBad
namespace Go.Proofs.YtjaoiaajplgboaaDoor
open Go.RowKit Go.Sort Go.Maps

theorem zero_i (w : World) : (zeroValue 3).run Tryd.prog w = .ok (.int .i64 0) w := by kernel_rfl

/-- Texts lie in no map. -/
theorem strs_apart {w : World} {v : Value} {m : List (List UInt8)} (h : Strs w v m) {kt : TypeId} {bm : Nat} {L : List Lit} (hM : MapAt w kt bm L) : StrsIn (fun b => b ≠ bm) w v m := by
  obtain ⟨a, cap, e, h1, h2⟩ := h
  refine ⟨a, cap, e, h1, fun h0 => ?_⟩
  obtain ⟨b, off, e1, -, e3⟩ := h2 h0
  refine ⟨b, off, e1, fun hb => ?_, e3⟩
  subst hb
  obtain ⟨D, ⟨es, clock, hb, _⟩, _⟩ := hM
  have := e3 0 _ (List.getElem?_eq_getElem h0)
  simp [World.cell?, hb] at this

theorem row_lit (W : World) (x y : Int) (base : Nat) (hb : base ≤ W.heap.size) : SqRow base (W.alloc (.cells #[.int .i64 x, .int .i64 y] 65)) (.slice (some ⟨W.heap.size, 0, none⟩) 1 1) [(x, y)] :=
  ⟨rfl, .inr ⟨W.heap.size, 1, #[.int .i64 x, .int .i64 y], rfl, hb, (Go.MapKept.heap_alloc W _).1, Nat.le_refl _, by decide, rfl, rfl⟩⟩

/-- A piece under way. -/
structure GrowMid (W1 : World) (bm : Nat) (R : Sq → Sq → Prop) (s : Sq) (L0 : List Sq) (i : Nat) (q : List Sq) (W : World) (v : Value) : Prop where
  queue : Queue R s q i
  row : SqRow W1.heap.size W v q
  map : MapAt W 65 bm ((L0 ++ q).map keyC)
  grown : W1.grownBy W (some bm)

theorem grown_on {W1 W W' : World} {bm : Nat} {row : Option Nat} (h : W1.grownBy W (some bm)) (hg : W.grownBy W' row) (hr : ∀ b, row = some b → b = bm ∨ W1.heap.size ≤ b) : W1.grownBy W' (some bm) :=
  ⟨hg.os.trans h.os, hg.tape.trans h.tape, hg.output.trans h.output, Nat.le_trans h.size hg.size, fun k hk hne => by
    rw [hg.block k (Nat.lt_of_lt_of_le hk h.size) (fun e => by rcases hr k e.symm with e' | e'; exact hne (by rw [e']); omega)]
    exact h.block k hk hne⟩

theorem GrowMid.below {W1 : World} {bm : Nat} {R : Sq → Sq → Prop} {s : Sq} {L0 : List Sq} {i : Nat} {q : List Sq} {W W' : World} {v : Value} (h : GrowMid W1 bm R s L0 i q W v) (hB : Below W.heap.size W W') : GrowMid W1 bm R s L0 i q W' v :=
  ⟨h.queue, h.row.kept (Below.grownBy hB) (by cases v.ownBlock <;> simp), h.map.below hB, grown_on h.grown (Below.grownBy hB) (fun _ e => by cases e)⟩

theorem GrowMid.push {W1 : World} {bm : Nat} {R : Sq → Sq → Prop} {s : Sq} {L0 : List Sq} {i : Nat} {q : List Sq} {W Wb Wd : World} {v v' : Value} {b : Sq} (h : GrowMid W1 bm R s L0 i q W v) (hbm : bm < W1.heap.size) (hi : i ≤ q.length) (hr : Reach R s b) (hb : b ∉ q)
    (hU : W.grownBy Wb (some bm)) (hM : MapAt Wb 65 bm ((L0 ++ (q ++ [b])).map keyC)) (hA : Wb.grownBy Wd v.ownBlock) (hrow : SqRow W1.heap.size Wd v' (q ++ [b])) : GrowMid W1 bm R s L0 i (q ++ [b]) Wd v' := by
  have hv : ∀ k, v.ownBlock = some k → W1.heap.size ≤ k := fun k hk => (World.ownsRow.lt h.row k hk).1
  exact ⟨queue_push h.queue hi hr hb, hrow, hM.kept hA (fun e => by have := hv _ e.symm; omega), grown_on (grown_on h.grown hU (fun k e => by cases e; exact .inl rfl)) hA (fun k e => .inr (hv k e))⟩

/-- What grown answers. -/
def GrownSays (m : List (List UInt8)) (c : Bool) (s : Sq) (L0 : List Sq) (bm : Nat) (w : World) (e : Ending) (w' : World) : Prop :=
  ∃ v p, e = .returned v ∧ SqIn (fun b => w.heap.size ≤ b) w' v p ∧ (p.Nodup ∧ ∀ b, b ∈ p ↔ Reach (StepTo m (wide m) m.length c) s b) ∧ MapAt w' 65 bm ((L0 ++ p).map keyC) ∧ w.grownBy w' (some bm)

theorem sq_nat {w h : Nat} {a : Sq} (ha : InSq w h a) : ∃ x y : Nat, a = ((x : Int), (y : Int)) ∧ x < w ∧ y < h := by
  obtain ⟨h1, h2, h3, h4⟩ := ha
  exact ⟨a.1.toNat, a.2.toNat, Prod.ext (by simp only; omega) (by simp only; omega), by omega, by omega⟩

theorem in_small {w h : Nat} (hw : w ≤ 1000) (hh : h ≤ 1000) {a : Sq} (ha : InSq w h a) : Small a := by
  unfold InSq at ha; unfold Small; omega

end Go.Proofs.YtjaoiaajplgboaaDoor
