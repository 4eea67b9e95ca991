/- A later world, but for two blocks. -/
import Derived.Test.YtddcdndckinglaaDoorAppendWide
namespace Go.Proofs.YtddcdndckinglaaDoor
open Go.RowKit Go.Sort

/-- A later world, but for two blocks. -/
structure KeepBut (W0 W : World) (r g : Nat) : Prop where
  os : W.os = W0.os
  tape : W.tape = W0.tape
  output : W.output = W0.output
  size : W0.heap.size ≤ W.heap.size
  block : ∀ b, b < W0.heap.size → b ≠ r → b ≠ g → W.heap[b]? = W0.heap[b]?

theorem KeepBut.refl (W : World) (r g : Nat) : KeepBut W W r g := ⟨rfl, rfl, rfl, Nat.le_refl _, fun _ _ _ _ => rfl⟩
theorem KeepBut.on {W0 W W' : World} {r g : Nat} {row : Option Nat} (h : KeepBut W0 W r g) (hg : W.grownBy W' row) (hr : ∀ b, row = some b → b = r ∨ b = g ∨ W0.heap.size ≤ b) : KeepBut W0 W' r g :=
  ⟨hg.os.trans h.os, hg.tape.trans h.tape, hg.output.trans h.output, Nat.le_trans h.size hg.size, fun b hb h1 h2 => (hg.block b (Nat.lt_of_lt_of_le hb h.size) (fun e => by rcases hr b e.symm with e' | e' | e'; exact h1 e'; exact h2 e'; omega)).trans (h.block b hb h1 h2)⟩
theorem KeepBut.cell {W0 W : World} {r g : Nat} (h : KeepBut W0 W r g) {p : Addr} (hp : p.block < W0.heap.size) (h1 : p.block ≠ r) (h2 : p.block ≠ g) : W.cell? p = W0.cell? p := World.cell?_of_block (h.block p.block hp h1 h2)
theorem KeepBut.frozen {W0 W : World} {r g : Nat} (h : KeepBut W0 W r g) {p : Addr} (hp : p.block < W0.heap.size) (h1 : p.block ≠ r) (h2 : p.block ≠ g) : W.frozen? p = W0.frozen? p := World.frozen?_of_block (h.block p.block hp h1 h2)

end Go.Proofs.YtddcdndckinglaaDoor
