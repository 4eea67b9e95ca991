/- Cosets while they are opened: rows of where letters lead, what stands for what; the steps by which they are found. No Go here. An append of elements of any size as a step of a region that draws; a block that was just laid; what lies far from a change. A later world, but for two blocks. Small numbers are not wrapped. -/
import Derived.Test.YtmaopnbnbiediaaDoorSurfMath
import Derived.Test.YtmaopnbnbiediaaDoorBase
import Derived.Deep.RegionLaw
import Derived.Deep.AppendLies
namespace Go.Proofs.YtmaopnbnbiediaaDoor

/-- Rows, and what stands for each coset. -/
structure Cos where
  R : List (List Int)
  cls : Nat → Nat

def ent (R : List (List Int)) (c x : Nat) : Int := (R[c]?.getD [])[x]?.getD (-1)
def putE (R : List (List Int)) (c x : Nat) (v : Int) : List (List Int) := R.set c ((R[c]?.getD []).set x v)
def Wide (n : Nat) (R : List (List Int)) : Prop := ∀ r ∈ R, r.length = 2 * n
def backN (x : Nat) : Nat := if x % 2 = 0 then x + 1 else x - 1
def colN (l : Int) : Nat := if 0 < l then 2 * (l.toNat - 1) else 2 * ((-l).toNat - 1) + 1
def newRow (n : Nat) : List Int := List.replicate (2 * n) (-1)

/-- One step along a column. -/
def stepP (n : Nat) (s : Cos) (c x : Nat) : Option (Nat × Cos) :=
  if ent s.R (s.cls c) x ≠ -1 then some ((ent s.R (s.cls c) x).toNat, s)
  else if s.R.length = 5000 then none
  else some (s.R.length, ⟨putE (putE (s.R ++ [newRow n]) (s.cls c) x s.R.length) s.R.length (backN x) (s.cls c), s.cls⟩)
/-- A word's steps. -/
def walkP (n : Nat) : Cos → Nat → List Int → Option (Nat × Cos)
  | s, c, [] => some (c, s)
  | s, c, l :: ls => match stepP n s c (colN l) with
    | none => none
    | some r => walkP n r.2 r.1 ls
/-- One takes over what leads from another one; the pairs that must be the same. -/
def takeP (a b : Nat) : Nat → List (List Int) → List (List Int) × List (Int × Int)
  | 0, R => (R, [])
  | k + 1, R =>
    let r := takeP a b k R
    if ent R b k = -1 then r else if ent R a k ≠ -1 then (r.1, r.2 ++ [(ent R a k, ent R b k)]) else (putE r.1 a k (ent R b k), r.2)
/-- Pairs are made the same, the last one first. -/
def uniteF (n : Nat) : Nat → Cos → List (Int × Int) → Cos
  | 0, s, _ => s
  | m + 1, s, ps => match ps.getLast? with
    | none => s
    | some p =>
      if s.cls p.1.toNat = s.cls p.2.toNat then uniteF n m s ps.dropLast
      else
        let t := takeP (min (s.cls p.1.toNat) (s.cls p.2.toNat)) (max (s.cls p.1.toNat) (s.cls p.2.toNat)) (2 * n) s.R
        uniteF n m ⟨t.1, joinC s.cls (p.1.toNat, p.2.toNat)⟩ (ps.dropLast ++ t.2)
def rootsN (N : Nat) (cls : Nat → Nat) : Nat := (List.range N).countP fun i => cls i == i
def uniteP (n : Nat) (s : Cos) (a b : Nat) : Cos := uniteF n (s.R.length * (2 * n + 1) + 1) s [((a : Int), (b : Int))]
def traceP (n : Nat) (s : Cos) (c : Nat) (w : List Int) : Option Cos := match walkP n s c w with
  | none => none
  | some r => some (uniteP n r.2 c r.1)
def traceAllP (n : Nat) : Cos → Nat → List (List Int) → Option Cos
  | s, _, [] => some s
  | s, c, w :: ws => match traceP n s c w with
    | none => none
    | some s' => traceAllP n s' c ws
def openL (n : Nat) : Cos → Nat → List Nat → Option Cos
  | s, _, [] => some s
  | s, c, x :: xs => match stepP n s c x with
    | none => none
    | some r => openL n r.2 c xs
def openAllP (n : Nat) (s : Cos) (c : Nat) : Option Cos := openL n s c (List.range (2 * n))
def workP (n : Nat) (rels : List (List Int)) (s : Cos) (k : Nat) : Option Cos := match traceAllP n s k rels with
  | none => none
  | some s' => openAllP n s' k
def fillF (n : Nat) (rels : List (List Int)) : Nat → Nat → Cos → Option Cos
  | 0, _, s => some s
  | m + 1, k, s =>
    if k < s.R.length then
      if s.cls k = k then match workP n rels s k with
        | none => none
        | some s' => fillF n rels m (k + 1) s'
      else fillF n rels m (k + 1) s
    else some s
def beginP (n : Nat) : Cos := ⟨[newRow n], fun i => i⟩
def cosetsP (n : Nat) (rels words : List (List Int)) : Option Cos := match traceAllP n (beginP n) 0 words with
  | none => none
  | some s => fillF n rels 5001 0 s
/-- A row that is told: the order in which cosets are led to grows. -/
def rowK (s : Cos) (a : Nat) : Nat → List Nat → List Nat × List Int
  | 0, ord => (ord, [])
  | k + 1, ord =>
    let r := rowK s a k ord
    let t := s.cls (ent s.R a k).toNat
    if t ∈ r.1 then (r.1, r.2 ++ [((r.1.idxOf t : Nat) : Int)]) else (r.1 ++ [t], r.2 ++ [((r.1.length : Nat) : Int)])
def toldF (n : Nat) (s : Cos) : Nat → Nat → List Nat → List (List Int) → List (List Int)
  | 0, _, _, out => out
  | m + 1, i, ord, out => match ord[i]? with
    | none => out
    | some a => toldF n s m (i + 1) (rowK s a (2 * n) ord).1 (out ++ [(rowK s a (2 * n) ord).2])
def toldP (n : Nat) (s : Cos) : List (List Int) := toldF n s (s.R.length + 1) 0 [0] []

/-- The closed fact: three cosets. -/
theorem three_told : (cosetsP 1 [[1, 1, 1]] []).map (toldP 1) = some [[1, 2], [2, 0], [0, 1]] := by decide

theorem putE_len (R : List (List Int)) (c x : Nat) (v : Int) : (putE R c x v).length = R.length := by unfold putE; rw [List.length_set]
theorem putE_wide {n : Nat} {R : List (List Int)} (h : Wide n R) (c x : Nat) (v : Int) : Wide n (putE R c x v) := by
  intro r hr
  unfold putE at hr
  obtain ⟨k, hk, e⟩ := List.mem_iff_getElem.1 hr
  rw [List.getElem_set] at e
  split at e
  · subst e
    rename_i hc
    rw [List.length_set]
    rw [List.length_set] at hk
    subst hc
    rw [List.getElem?_eq_getElem hk]
    exact h _ (List.getElem_mem _)
  · subst e
    exact h _ (List.getElem_mem _)
theorem wide_at {n : Nat} {R : List (List Int)} (h : Wide n R) {c : Nat} (hc : c < R.length) : (R[c]?.getD []).length = 2 * n := by
  rw [List.getElem?_eq_getElem hc]
  exact h _ (List.getElem_mem _)
theorem ent_put {n : Nat} {R : List (List Int)} (h : Wide n R) {c x : Nat} (hc : c < R.length) (hx : x < 2 * n) (v : Int) (a y : Nat) : ent (putE R c x v) a y = if a = c ∧ y = x then v else ent R a y := by
  have hw := wide_at h hc
  unfold ent putE
  by_cases e : a = c
  · subst e
    rw [List.getElem?_set_self hc, Option.getD_some]
    by_cases e2 : y = x
    · subst e2
      rw [List.getElem?_set_self (by omega), if_pos ⟨rfl, rfl⟩]; rfl
    · rw [List.getElem?_set_ne (fun e' => e2 e'.symm), if_neg (fun e' => e2 e'.2)]
  · rw [List.getElem?_set_ne (fun e' => e e'.symm), if_neg (fun e' => e e'.1)]
theorem ent_app {R : List (List Int)} {r : List Int} (a y : Nat) : ent (R ++ [r]) a y = if a < R.length then ent R a y else if a = R.length then r[y]?.getD (-1) else -1 := by
  unfold ent
  by_cases e : a < R.length
  · rw [List.getElem?_append_left e, if_pos e]
  · rw [if_neg e, List.getElem?_append_right (by omega)]
    by_cases e2 : a = R.length
    · subst e2; simp
    · have e3 : [r][a - R.length]? = none := List.getElem?_eq_none (show 1 ≤ a - R.length by omega)
      rw [if_neg e2, e3]; rfl
theorem ent_new (n y : Nat) : (newRow n)[y]?.getD (-1) = -1 := by
  unfold newRow
  rw [List.getElem?_replicate]
  split <;> rfl
theorem wide_app {n : Nat} {R : List (List Int)} (h : Wide n R) : Wide n (R ++ [newRow n]) := by
  intro r hr
  rcases List.mem_append.1 hr with hr | hr
  · exact h r hr
  · rw [List.mem_singleton.1 hr]; simp [newRow]
theorem back_lt {n x : Nat} (h : x < 2 * n) : backN x < 2 * n := by unfold backN; split <;> omega
theorem back_back (x : Nat) : backN (backN x) = x := by unfold backN; split <;> split <;> omega
theorem col_lt {n : Nat} {l : Int} (h0 : l ≠ 0) (h1 : -(n : Int) ≤ l) (h2 : l ≤ n) : colN l < 2 * n := by unfold colN; split <;> omega

end Go.Proofs.YtmaopnbnbiediaaDoor

namespace Go.Proofs.YtmaopnbnbiediaaDoor
open Go.RowKit Go.Sort

/-- An append onto a row of the call's own, of elements of any size, at a step of a region that draws its order. -/
theorem step_append_wide {P : Program} {w : World} {ops : Array Oper} {o : Oper} {a : Act} {K : Act → World → Prop} {Q : Exit → Act → World → Prop} {E : Prop} (hgd : o.guard = none) (s x : Operand) (t : TypeId)
    (ho : o.op = .call { callee := .builtin .append, args := #[s, x], argTypes := #[t, t] })
    (base : Nat) (e : TypeId) (i : TypeInfo) (z : Value) (size bytes : Nat) (ht : P.underlying t = some (.slice e)) (hi : P.info? e = some i) (hz : i.zero = some z)
    (hsize : i.size = size) (hby : i.bytes = bytes) (hzs : z.cells.size = size) (hsz : 0 < size) (v : Value) (n : Nat) (xs : List Value) (hs : a.eval s = v) (hown : w.ownsRow base e size v n xs)
    (ad : Addr) (m c : Nat) (news : List Value) (hx : a.eval x = .slice (some ad) m c) (hl : news.length = m * size) (hnews : ∀ j u, news[j]? = some u → w.cell? (ad.add j) = some u) (h1 : ∀ u ∈ news, u.oneCell' = true)
    (h63 : n + m ≤ maxLen) (hbytes : (n + m) * bytes ≤ 140737488355328) (hbase : base ≤ w.heap.size)
    (h : ∀ v' w', w'.ownsRow base e size v' (n + m) (xs ++ news) → w.grownBy w' v.ownBlock → (v'.ownBlock = v.ownBlock ∨ v'.ownBlock = some w.heap.size) → K (a.put o.dst v') w') :
    if Region.wanted o (yielded ops a.tmps) = true then Oper.wp P o a w K Q else E := by
  have hw : Region.wanted o (yielded ops a.tmps) = true := by simp [Region.wanted, hgd]
  rw [if_pos hw]
  obtain ⟨v', w', hr, h2, h3, -, h4⟩ := run_append_own_at (P := P) w base t o.type e i z size bytes ht hi hz hsize hby hzs hsz v n xs hown ad m c news hl hnews h1 h63 hbytes hbase
  unfold Oper.wp execOp
  simp only [ho, resolve, invoke, builtin, Sem.run_bind, Sem.run_pure, Result.andThen_ok, List.map_toArray, List.map_cons, List.map_nil, hs, hx, hr]
  exact h v' w' h2 h3 h4

theorem cells_new (w : World) (L : List Value) (t : TypeId) : ∀ j u, L[j]? = some u → (w.alloc (.cells L.toArray t)).cell? ((⟨w.heap.size, 0, none⟩ : Addr).add j) = some u := fun j u hu => by
  rw [Addr.add_lit]
  simpa using hu

theorem far_c {w w' : World} {row : Option Nat} (hg : w.grownBy w' row) (a : Addr) (hlt : a.block < w.heap.size) (hne : some a.block ≠ row) : w'.cell? a = w.cell? a := World.cell?_of_block (hg.block a.block hlt hne)
theorem far_f {w w' : World} {row : Option Nat} (hg : w.grownBy w' row) (a : Addr) (hlt : a.block < w.heap.size) (hne : some a.block ≠ row) : w'.frozen? a = w.frozen? a := World.frozen?_of_block (hg.block a.block hlt hne)

end Go.Proofs.YtmaopnbnbiediaaDoor

namespace Go.Proofs.YtmaopnbnbiediaaDoor
open Go.RowKit Go.Sort

/-- A later world, but for two blocks. -/
structure KeepBut (W0 W : World) (r g : Nat) : Prop where
  os : W.os = W0.os
  tape : W.tape = W0.tape
  output : W.output = W0.output
  size : W0.heap.size ≤ W.heap.size
  block : ∀ b, b < W0.heap.size → b ≠ r → b ≠ g → W.heap[b]? = W0.heap[b]?

theorem KeepBut.refl (W : World) (r g : Nat) : KeepBut W W r g := ⟨rfl, rfl, rfl, Nat.le_refl _, fun _ _ _ _ => rfl⟩
theorem KeepBut.on {W0 W W' : World} {r g : Nat} {row : Option Nat} (h : KeepBut W0 W r g) (hg : W.grownBy W' row) (hr : ∀ b, row = some b → b = r ∨ b = g ∨ W0.heap.size ≤ b) : KeepBut W0 W' r g :=
  ⟨hg.os.trans h.os, hg.tape.trans h.tape, hg.output.trans h.output, Nat.le_trans h.size hg.size, fun b hb h1 h2 => (hg.block b (Nat.lt_of_lt_of_le hb h.size) (fun e => by rcases hr b e.symm with e' | e' | e'; exact h1 e'; exact h2 e'; omega)).trans (h.block b hb h1 h2)⟩
theorem KeepBut.cell {W0 W : World} {r g : Nat} (h : KeepBut W0 W r g) {p : Addr} (hp : p.block < W0.heap.size) (h1 : p.block ≠ r) (h2 : p.block ≠ g) : W.cell? p = W0.cell? p := World.cell?_of_block (h.block p.block hp h1 h2)
theorem KeepBut.frozen {W0 W : World} {r g : Nat} (h : KeepBut W0 W r g) {p : Addr} (hp : p.block < W0.heap.size) (h1 : p.block ≠ r) (h2 : p.block ≠ g) : W.frozen? p = W0.frozen? p := World.frozen?_of_block (h.block p.block hp h1 h2)

end Go.Proofs.YtmaopnbnbiediaaDoor

namespace Go.Proofs.YtmaopnbnbiediaaDoor
open Go.RowKit

theorem wrapI {x : Int} (h0 : -10000000 ≤ x) (h1 : x ≤ 10000000) : IntKind.i64.wrap x = x := by rw [IntKind.wrap_i64]; omega
theorem Hid.mk' {p : Prop} (h : p) : Hid p := h

end Go.Proofs.YtmaopnbnbiediaaDoor
