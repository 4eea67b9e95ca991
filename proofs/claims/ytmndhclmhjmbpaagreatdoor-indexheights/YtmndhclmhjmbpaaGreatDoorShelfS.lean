/- An append of elements of any size as a step of a region that draws; a block that was just laid; what lies far from a change. Slices of pairs of numbers, as they read. What slices.SortFunc answers at spots: the shelf laid over this program. -/
import Derived.Test.YtmndhclmhjmbpaaGreatDoorBase
import Derived.Deep.RegionLaw
import Derived.Deep.AppendLies
import Derived.Laws.OwnMore
import Derived.Shelf.SlSortCmp.WholeK
import Derived.Shelf.SlSortCmp.NoneTotal
import Derived.Test.YtmndhclmhjmbpaaGreatDoorProg
namespace Go.Proofs.YtmndhclmhjmbpaaGreatDoor
open Go.RowKit Go.Sort

/-- An append onto a row of the call's own, of elements of any size, at a step of a region that draws its order. -/
theorem step_append_wide {P : Program} {w : World} {ops : Array Oper} {o : Oper} {a : Act} {K : Act → World → Prop} {Q : Exit → Act → World → Prop} {E : Prop} (hgd : o.guard = none) (s x : Operand) (t : TypeId)
    (ho : o.op = .call { callee := .builtin .append, args := #[s, x], argTypes := #[t, t] })
    (base : Nat) (e : TypeId) (i : TypeInfo) (z : Value) (size bytes : Nat) (ht : P.underlying t = some (.slice e)) (hi : P.info? e = some i) (hz : i.zero = some z)
    (hsize : i.size = size) (hby : i.bytes = bytes) (hzs : z.cells.size = size) (hsz : 0 < size) (v : Value) (n : Nat) (xs : List Value) (hs : a.eval s = v) (hown : w.ownsRow base e size v n xs)
    (ad : Addr) (m c : Nat) (news : List Value) (hx : a.eval x = .slice (some ad) m c) (hl : news.length = m * size) (hnews : ∀ j u, news[j]? = some u → w.cell? (ad.add j) = some u) (h1 : ∀ u ∈ news, u.oneCell' = true)
    (h63 : n + m ≤ maxLen) (hbytes : (n + m) * bytes ≤ 140737488355328) (hbase : base ≤ w.heap.size)
    (h : ∀ v' w', w'.ownsRow base e size v' (n + m) (xs ++ news) → w.grownBy w' v.ownBlock → (v'.ownBlock = v.ownBlock ∨ v'.ownBlock = some w.heap.size) → K (a.put o.dst v') w') :
    if Region.wanted o (yielded ops a.tmps) = true then Oper.wp P o a w K Q else E := by
  have hw : Region.wanted o (yielded ops a.tmps) = true := by simp [Region.wanted, hgd]
  rw [if_pos hw]
  obtain ⟨v', w', hr, h2, h3, -, h4⟩ := run_append_own_at (P := P) w base t o.type e i z size bytes ht hi hz hsize hby hzs hsz v n xs hown ad m c news hl hnews h1 h63 hbytes hbase
  unfold Oper.wp execOp
  simp only [ho, resolve, invoke, builtin, Sem.run_bind, Sem.run_pure, Result.andThen_ok, List.map_toArray, List.map_cons, List.map_nil, hs, hx, hr]
  exact h v' w' h2 h3 h4

theorem cells_new (w : World) (L : List Value) (t : TypeId) : ∀ j u, L[j]? = some u → (w.alloc (.cells L.toArray t)).cell? ((⟨w.heap.size, 0, none⟩ : Addr).add j) = some u := fun j u hu => by
  rw [Addr.add_lit]
  simpa using hu

theorem far_c {w w' : World} {row : Option Nat} (hg : w.grownBy w' row) (a : Addr) (hlt : a.block < w.heap.size) (hne : some a.block ≠ row) : w'.cell? a = w.cell? a := World.cell?_of_block (hg.block a.block hlt hne)
theorem far_f {w w' : World} {row : Option Nat} (hg : w.grownBy w' row) (a : Addr) (hlt : a.block < w.heap.size) (hne : some a.block ≠ row) : w'.frozen? a = w.frozen? a := World.frozen?_of_block (hg.block a.block hlt hne)

end Go.Proofs.YtmndhclmhjmbpaaGreatDoor

namespace Go.Proofs.YtmndhclmhjmbpaaGreatDoor
open Go.RowKit Go.Sort

abbrev Duo := Int × Int

/-- Their cells. -/
def duoCells (l : List Duo) : List Value := l.flatMap fun a => [.int .i64 a.1, .int .i64 a.2]
theorem duoCells_snoc (l : List Duo) (a : Duo) : duoCells (l ++ [a]) = duoCells l ++ [.int .i64 a.1, .int .i64 a.2] := by simp [duoCells]
theorem duoCells_len (l : List Duo) : (duoCells l).length = l.length * 2 := by
  induction l with
  | nil => rfl
  | cons a l ih => unfold duoCells at ih ⊢; rw [List.flatMap_cons, List.length_append, ih]; simp; omega
theorem duoCells_at : ∀ {l : List Duo} {k : Nat} (hk : k < l.length), (duoCells l)[k * 2]? = some (.int .i64 l[k].1) ∧ (duoCells l)[k * 2 + 1]? = some (.int .i64 l[k].2)
  | a :: l, 0, _ => by constructor <;> rfl
  | a :: l, k + 1, hk => by
    have h := duoCells_at (l := l) (k := k) (by simpa using hk)
    have e : duoCells (a :: l) = .int .i64 a.1 :: .int .i64 a.2 :: duoCells l := rfl
    rw [e, show (k + 1) * 2 = k * 2 + 2 by omega]
    simpa using h

/-- A row of the call's own that holds these pairs. -/
def DuoRow (base : Nat) (t : TypeId) (W : World) (v : Value) (l : List Duo) : Prop := W.ownsRow base t 2 v l.length (duoCells l)

/-- A slice that reads as these pairs, in a block of S. -/
def DuoIn (S : Nat → Prop) (W : World) (v : Value) (l : List Duo) : Prop :=
  ∃ a cap, v = .slice a l.length cap ∧ (0 < l.length → ∃ g o, a = some ⟨g, o, none⟩ ∧ S g ∧ g < W.heap.size ∧ ∀ k (hk : k < l.length), W.cell? ⟨g, o + k * 2, none⟩ = some (.int .i64 l[k].1) ∧ W.cell? ⟨g, o + (k * 2 + 1), none⟩ = some (.int .i64 l[k].2))

theorem DuoIn.nil (S : Nat → Prop) (W : World) : DuoIn S W (.slice none 0 0) [] := ⟨none, 0, rfl, fun h => by cases h⟩
theorem DuoRow.reads {base : Nat} {t : TypeId} {W : World} {v : Value} {l : List Duo} {S : Nat → Prop} (h : DuoRow base t W v l) (hS : ∀ b, base ≤ b → v.ownBlock = some b → S b) : DuoIn S W v l := by
  rcases h.2 with ⟨rfl, hn⟩ | ⟨g, cap, cur, rfl, hb, hg, _⟩
  · exact ⟨none, 0, by rw [hn], fun h0 => by omega⟩
  · refine ⟨some ⟨g, 0, none⟩, cap, rfl, fun _ => ⟨g, 0, rfl, hS g hb rfl, (Array.getElem?_eq_some_iff.1 hg).1, fun k hk => ?_⟩⟩
    have h1 := duoCells_at hk
    have h2 := World.ownsRow.cells h (g := g) rfl _ _ h1.1
    have h3 := World.ownsRow.cells h (g := g) rfl _ _ h1.2
    rw [Addr.add_lit] at h2 h3
    exact ⟨h2, h3⟩
theorem DuoIn.keep {S : Nat → Prop} {W W' : World} {v : Value} {l : List Duo} (h : DuoIn S W v l) (hs : W.heap.size ≤ W'.heap.size) (hk : ∀ b, b < W.heap.size → S b → W'.heap[b]? = W.heap[b]?) : DuoIn S W' v l := by
  obtain ⟨a, cap, e, h1⟩ := h
  refine ⟨a, cap, e, fun h0 => ?_⟩
  obtain ⟨g, o, e1, e2, e3, e4⟩ := h1 h0
  refine ⟨g, o, e1, e2, by omega, fun k hk' => ?_⟩
  have hb := hk g e3 e2
  exact ⟨(World.cell?_of_block hb).trans (e4 k hk').1, (World.cell?_of_block hb).trans (e4 k hk').2⟩
theorem DuoIn.below {S : Nat → Prop} {W W' : World} {v : Value} {l : List Duo} (h : DuoIn S W v l) (hB : Below W.heap.size W W') : DuoIn S W' v l := h.keep hB.size (fun b hb _ => hB.block b hb)
theorem DuoIn.mono {S S' : Nat → Prop} {W : World} {v : Value} {l : List Duo} (h : DuoIn S W v l) (hs : ∀ b, b < W.heap.size → S b → S' b) : DuoIn S' W v l := by
  obtain ⟨a, cap, e, h1⟩ := h
  refine ⟨a, cap, e, fun h0 => ?_⟩
  obtain ⟨g, o, e1, e2, e3, e4⟩ := h1 h0
  exact ⟨g, o, e1, hs g e3 e2, e3, e4⟩
theorem DuoRow.below {base : Nat} {t : TypeId} {W W' : World} {v : Value} {l : List Duo} (h : DuoRow base t W v l) (hB : Below W.heap.size W W') : DuoRow base t W' v l := World.ownsRow.kept h (Below.grownBy hB) (by cases v.ownBlock <;> simp)

end Go.Proofs.YtmndhclmhjmbpaaGreatDoor

namespace Go.Proofs
open Go.Shelf
def Tryz.laysSlF06_f108_ren : Go.Shelf.Ren := ⟨fun | 6 => 108 | 15 => 120 | 14 => 125 | 28 => 139 | 29 => 140 | 20 => 142 | 21 => 143 | 22 => 144 | 23 => 145 | 24 => 146 | 25 => 147 | 26 => 148 | 27 => 149 | 46 => 156 | 47 => 152 | 48 => 153 | 49 => 157 | 50 => 158 | 57 => 169 | n => n, fun | 22 => 97 | 24 => 160 | 25 => 162 | 3 => 3 | 39 => 186 | 0 => 0 | 53 => 204 | 55 => 190 | 4 => 4 | 46 => 197 | 45 => 196 | 50 => 154 | 5 => 5 | 9 => 9 | 66 => 213 | 70 => 217 | 76 => 227 | 77 => 66 | n => n, fun | n => n⟩
theorem Tryz.laysSlF06_f108 : Go.Proofs.SlLaysF0.n6 Tryz.prog Tryz.laysSlF06_f108_ren := {
  mixed := by kernel_rfl
  f6 := ⟨Tryz.f108.name, by decide, Tryz.func108.trans (congrArg some (by kernel_rfl))⟩
  f14 := ⟨Tryz.f125.name, by decide, Tryz.func125.trans (congrArg some (by kernel_rfl))⟩
  f15 := Tryz.func120.trans (congrArg some (by kernel_rfl))
  f20 := ⟨Tryz.f142.name, by decide, Tryz.func142.trans (congrArg some (by kernel_rfl))⟩
  f21 := ⟨Tryz.f143.name, by decide, Tryz.func143.trans (congrArg some (by kernel_rfl))⟩
  f22 := ⟨Tryz.f144.name, by decide, Tryz.func144.trans (congrArg some (by kernel_rfl))⟩
  f23 := ⟨Tryz.f145.name, by decide, Tryz.func145.trans (congrArg some (by kernel_rfl))⟩
  f24 := ⟨Tryz.f146.name, by decide, Tryz.func146.trans (congrArg some (by kernel_rfl))⟩
  f25 := ⟨Tryz.f147.name, by decide, Tryz.func147.trans (congrArg some (by kernel_rfl))⟩
  f26 := ⟨Tryz.f148.name, by decide, Tryz.func148.trans (congrArg some (by kernel_rfl))⟩
  f27 := ⟨Tryz.f149.name, by decide, Tryz.func149.trans (congrArg some (by kernel_rfl))⟩
  f28 := Tryz.func139.trans (congrArg some (by kernel_rfl))
  f29 := Tryz.func140.trans (congrArg some (by kernel_rfl))
  f46 := ⟨Tryz.f156.name, by decide, Tryz.func156.trans (congrArg some (by kernel_rfl))⟩
  f47 := Tryz.func152.trans (congrArg some (by kernel_rfl))
  f48 := Tryz.func153.trans (congrArg some (by kernel_rfl))
  f49 := ⟨Tryz.f157.name, by decide, Tryz.func157.trans (congrArg some (by kernel_rfl))⟩
  f50 := ⟨Tryz.f158.name, by decide, Tryz.func158.trans (congrArg some (by kernel_rfl))⟩
  f57 := ⟨Tryz.f169.name, by decide, Tryz.func169.trans (congrArg some (by kernel_rfl))⟩
  t0 := Tryz.underlying0
  a0 := Tryz.isAgg0
  z0 := Tryz.sizeOf0
  v0 := Tryz.zeroValue0
  t3 := Tryz.underlying3
  a3 := Tryz.isAgg3
  z3 := Tryz.sizeOf3
  v3 := Tryz.zeroValue3
  t4 := Tryz.underlying4
  a4 := Tryz.isAgg4
  z4 := Tryz.sizeOf4
  v4 := Tryz.zeroValue4
  t5 := Tryz.underlying5
  a5 := Tryz.isAgg5
  z5 := Tryz.sizeOf5
  v5 := Tryz.zeroValue5
  t9 := Tryz.underlying9
  a9 := Tryz.isAgg9
  z9 := Tryz.sizeOf9
  v9 := Tryz.zeroValue9
  t22 := Tryz.underlying97
  a22 := Tryz.isAgg97
  z22 := Tryz.sizeOf97
  v22 := Tryz.zeroValue97
  t25 := Tryz.underlying162
  a25 := Tryz.isAgg162
  z25 := Tryz.sizeOf162
  v25 := Tryz.zeroValue162
  t39 := Tryz.underlying186
  a39 := Tryz.isAgg186
  z39 := Tryz.sizeOf186
  v39 := Tryz.zeroValue186
  t45 := Tryz.underlying196
  a45 := Tryz.isAgg196
  z45 := Tryz.sizeOf196
  v45 := Tryz.zeroValue196
  t46 := Tryz.underlying197
  a46 := Tryz.isAgg197
  z46 := Tryz.sizeOf197
  v46 := Tryz.zeroValue197
  t50 := Tryz.underlying154
  a50 := Tryz.isAgg154
  z50 := Tryz.sizeOf154
  v50 := Tryz.zeroValue154
  t53 := Tryz.underlying204
  a53 := Tryz.isAgg204
  z53 := Tryz.sizeOf204
  v53 := Tryz.zeroValue204
  t55 := Tryz.underlying190
  a55 := Tryz.isAgg190
  z55 := Tryz.sizeOf190
  v55 := Tryz.zeroValue190
  t66 := Tryz.underlying213
  a66 := Tryz.isAgg213
  z66 := Tryz.sizeOf213
  v66 := Tryz.zeroValue213
  t70 := Tryz.underlying217
  a70 := Tryz.isAgg217
  z70 := Tryz.sizeOf217
  v70 := Tryz.zeroValue217
  t76 := Tryz.underlying227
  a76 := Tryz.isAgg227
  z76 := Tryz.sizeOf227
  v76 := Tryz.zeroValue227
  t77 := Tryz.underlying66
  a77 := Tryz.isAgg66
  z77 := Tryz.sizeOf66
  v77 := Tryz.zeroValue66 }
open Go.RowKit Go.Lib Go.Sort in
theorem Tryz.slices_SortFunc {α : Type} [Inhabited α] (k : Nat) (aE : ∀ w, (isAgg 160).run Tryz.prog w = .ok true w) (zE : ∀ w, (Go.sizeOf 160).run Tryz.prog w = .ok k w) (enc : α → List Value) (hk : ∀ x, (enc x).length = k) (h1 : ∀ x, ∀ v ∈ enc x, v.oneCell' = true) (cf : α → α → Int) (hO : SWO (ltOf cf)) (g : Nat) (cb : Array Value) (blk off cap : Nat) (d : Array α) (w : World) (eg : ∀ args w, (callFunc g args).run Tryz.prog w = .ok (.enter g args) w) (hcmp : CmpLays Tryz.prog g cb enc k cf blk off d.size w) (hH : HoldsK enc k w blk off d) (hblk : blk < w.heap.size) (hsz : d.size < 4611686018427387904) :
    Calls Tryz.prog 108 #[.slice (some ⟨blk, off, none⟩) d.size cap, .func (.func g) #[] cb] w fun e w' =>
      e = .returned (.tuple #[]) ∧ ∃ d' n os, PermIn 0 d.size d d' ∧ SortedIn (ltOf cf) 0 d.size d' ∧ w' = sortWorldK enc k w blk off n d' os := AnyQ.slices_SortFunc Tryz.laysSlF06_f108 k aE zE enc hk h1 cf hO g cb blk off cap d w eg hcmp hH hblk hsz
open Go.RowKit Go.Lib Go.Sort in
theorem Tryz.slices_SortFunc_none {α : Type} [Inhabited α] (p : Option Addr) (cap : Nat) (fv : Value) (w : World) :
    Calls Tryz.prog 108 #[.slice p 0 cap, fv] w fun e w' => e = .returned (.tuple #[]) ∧ w' = w := AnyF.slices_SortFunc_none Tryz.laysSlF06_f108 p cap fv w
end Go.Proofs
