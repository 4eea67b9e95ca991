/- An append of elements of any size as a step of a region that draws; a block that was just laid; what lies far from a change. Slices of pairs of numbers, as they read. A later world, but for two blocks. A table: a row of the call's own whose elements are rows of the call's own, each in a block of its own; one of them may grow. -/
import Derived.Test.YthmjdfjchhohgaaGreatDoorBase
import Derived.Deep.RegionLaw
import Derived.Deep.AppendLies
import Derived.Laws.OwnMore
namespace Go.Proofs.YthmjdfjchhohgaaGreatDoor
open Go.RowKit Go.Sort

/-- An append onto a row of the call's own, of elements of any size, at a step of a region that draws its order. -/
theorem step_append_wide {P : Program} {w : World} {ops : Array Oper} {o : Oper} {a : Act} {K : Act → World → Prop} {Q : Exit → Act → World → Prop} {E : Prop} (hgd : o.guard = none) (s x : Operand) (t : TypeId)
    (ho : o.op = .call { callee := .builtin .append, args := #[s, x], argTypes := #[t, t] })
    (base : Nat) (e : TypeId) (i : TypeInfo) (z : Value) (size bytes : Nat) (ht : P.underlying t = some (.slice e)) (hi : P.info? e = some i) (hz : i.zero = some z)
    (hsize : i.size = size) (hby : i.bytes = bytes) (hzs : z.cells.size = size) (hsz : 0 < size) (v : Value) (n : Nat) (xs : List Value) (hs : a.eval s = v) (hown : w.ownsRow base e size v n xs)
    (ad : Addr) (m c : Nat) (news : List Value) (hx : a.eval x = .slice (some ad) m c) (hl : news.length = m * size) (hnews : ∀ j u, news[j]? = some u → w.cell? (ad.add j) = some u) (h1 : ∀ u ∈ news, u.oneCell' = true)
    (h63 : n + m ≤ maxLen) (hbytes : (n + m) * bytes ≤ 140737488355328) (hbase : base ≤ w.heap.size)
    (h : ∀ v' w', w'.ownsRow base e size v' (n + m) (xs ++ news) → w.grownBy w' v.ownBlock → (v'.ownBlock = v.ownBlock ∨ v'.ownBlock = some w.heap.size) → K (a.put o.dst v') w') :
    if Region.wanted o (yielded ops a.tmps) = true then Oper.wp P o a w K Q else E := by
  have hw : Region.wanted o (yielded ops a.tmps) = true := by simp [Region.wanted, hgd]
  rw [if_pos hw]
  obtain ⟨v', w', hr, h2, h3, -, h4⟩ := run_append_own_at (P := P) w base t o.type e i z size bytes ht hi hz hsize hby hzs hsz v n xs hown ad m c news hl hnews h1 h63 hbytes hbase
  unfold Oper.wp execOp
  simp only [ho, resolve, invoke, builtin, Sem.run_bind, Sem.run_pure, Result.andThen_ok, List.map_toArray, List.map_cons, List.map_nil, hs, hx, hr]
  exact h v' w' h2 h3 h4

theorem cells_new (w : World) (L : List Value) (t : TypeId) : ∀ j u, L[j]? = some u → (w.alloc (.cells L.toArray t)).cell? ((⟨w.heap.size, 0, none⟩ : Addr).add j) = some u := fun j u hu => by
  rw [Addr.add_lit]
  simpa using hu

theorem far_c {w w' : World} {row : Option Nat} (hg : w.grownBy w' row) (a : Addr) (hlt : a.block < w.heap.size) (hne : some a.block ≠ row) : w'.cell? a = w.cell? a := World.cell?_of_block (hg.block a.block hlt hne)
theorem far_f {w w' : World} {row : Option Nat} (hg : w.grownBy w' row) (a : Addr) (hlt : a.block < w.heap.size) (hne : some a.block ≠ row) : w'.frozen? a = w.frozen? a := World.frozen?_of_block (hg.block a.block hlt hne)

end Go.Proofs.YthmjdfjchhohgaaGreatDoor

namespace Go.Proofs.YthmjdfjchhohgaaGreatDoor
open Go.RowKit Go.Sort

abbrev Duo := Int × Int

/-- Their cells. -/
def duoCells (l : List Duo) : List Value := l.flatMap fun a => [.int .i64 a.1, .int .i64 a.2]
theorem duoCells_snoc (l : List Duo) (a : Duo) : duoCells (l ++ [a]) = duoCells l ++ [.int .i64 a.1, .int .i64 a.2] := by simp [duoCells]
theorem duoCells_len (l : List Duo) : (duoCells l).length = l.length * 2 := by
  induction l with
  | nil => rfl
  | cons a l ih => unfold duoCells at ih ⊢; rw [List.flatMap_cons, List.length_append, ih]; simp; omega
theorem duoCells_at : ∀ {l : List Duo} {k : Nat} (hk : k < l.length), (duoCells l)[k * 2]? = some (.int .i64 l[k].1) ∧ (duoCells l)[k * 2 + 1]? = some (.int .i64 l[k].2)
  | a :: l, 0, _ => by constructor <;> rfl
  | a :: l, k + 1, hk => by
    have h := duoCells_at (l := l) (k := k) (by simpa using hk)
    have e : duoCells (a :: l) = .int .i64 a.1 :: .int .i64 a.2 :: duoCells l := rfl
    rw [e, show (k + 1) * 2 = k * 2 + 2 by omega]
    simpa using h

/-- A row of the call's own that holds these pairs. -/
def DuoRow (base : Nat) (t : TypeId) (W : World) (v : Value) (l : List Duo) : Prop := W.ownsRow base t 2 v l.length (duoCells l)

/-- A slice that reads as these pairs, in a block of S. -/
def DuoIn (S : Nat → Prop) (W : World) (v : Value) (l : List Duo) : Prop :=
  ∃ a cap, v = .slice a l.length cap ∧ (0 < l.length → ∃ g o, a = some ⟨g, o, none⟩ ∧ S g ∧ g < W.heap.size ∧ ∀ k (hk : k < l.length), W.cell? ⟨g, o + k * 2, none⟩ = some (.int .i64 l[k].1) ∧ W.cell? ⟨g, o + (k * 2 + 1), none⟩ = some (.int .i64 l[k].2))

theorem DuoIn.nil (S : Nat → Prop) (W : World) : DuoIn S W (.slice none 0 0) [] := ⟨none, 0, rfl, fun h => by cases h⟩
theorem DuoRow.reads {base : Nat} {t : TypeId} {W : World} {v : Value} {l : List Duo} {S : Nat → Prop} (h : DuoRow base t W v l) (hS : ∀ b, base ≤ b → v.ownBlock = some b → S b) : DuoIn S W v l := by
  rcases h.2 with ⟨rfl, hn⟩ | ⟨g, cap, cur, rfl, hb, hg, _⟩
  · exact ⟨none, 0, by rw [hn], fun h0 => by omega⟩
  · refine ⟨some ⟨g, 0, none⟩, cap, rfl, fun _ => ⟨g, 0, rfl, hS g hb rfl, (Array.getElem?_eq_some_iff.1 hg).1, fun k hk => ?_⟩⟩
    have h1 := duoCells_at hk
    have h2 := World.ownsRow.cells h (g := g) rfl _ _ h1.1
    have h3 := World.ownsRow.cells h (g := g) rfl _ _ h1.2
    rw [Addr.add_lit] at h2 h3
    exact ⟨h2, h3⟩
theorem DuoIn.keep {S : Nat → Prop} {W W' : World} {v : Value} {l : List Duo} (h : DuoIn S W v l) (hs : W.heap.size ≤ W'.heap.size) (hk : ∀ b, b < W.heap.size → S b → W'.heap[b]? = W.heap[b]?) : DuoIn S W' v l := by
  obtain ⟨a, cap, e, h1⟩ := h
  refine ⟨a, cap, e, fun h0 => ?_⟩
  obtain ⟨g, o, e1, e2, e3, e4⟩ := h1 h0
  refine ⟨g, o, e1, e2, by omega, fun k hk' => ?_⟩
  have hb := hk g e3 e2
  exact ⟨(World.cell?_of_block hb).trans (e4 k hk').1, (World.cell?_of_block hb).trans (e4 k hk').2⟩
theorem DuoIn.below {S : Nat → Prop} {W W' : World} {v : Value} {l : List Duo} (h : DuoIn S W v l) (hB : Below W.heap.size W W') : DuoIn S W' v l := h.keep hB.size (fun b hb _ => hB.block b hb)
theorem DuoIn.mono {S S' : Nat → Prop} {W : World} {v : Value} {l : List Duo} (h : DuoIn S W v l) (hs : ∀ b, b < W.heap.size → S b → S' b) : DuoIn S' W v l := by
  obtain ⟨a, cap, e, h1⟩ := h
  refine ⟨a, cap, e, fun h0 => ?_⟩
  obtain ⟨g, o, e1, e2, e3, e4⟩ := h1 h0
  exact ⟨g, o, e1, hs g e3 e2, e3, e4⟩
theorem DuoRow.below {base : Nat} {t : TypeId} {W W' : World} {v : Value} {l : List Duo} (h : DuoRow base t W v l) (hB : Below W.heap.size W W') : DuoRow base t W' v l := World.ownsRow.kept h (Below.grownBy hB) (by cases v.ownBlock <;> simp)

end Go.Proofs.YthmjdfjchhohgaaGreatDoor

namespace Go.Proofs.YthmjdfjchhohgaaGreatDoor
open Go.RowKit Go.Sort

/-- A later world, but for two blocks. -/
structure KeepBut (W0 W : World) (r g : Nat) : Prop where
  os : W.os = W0.os
  tape : W.tape = W0.tape
  output : W.output = W0.output
  size : W0.heap.size ≤ W.heap.size
  block : ∀ b, b < W0.heap.size → b ≠ r → b ≠ g → W.heap[b]? = W0.heap[b]?

theorem KeepBut.refl (W : World) (r g : Nat) : KeepBut W W r g := ⟨rfl, rfl, rfl, Nat.le_refl _, fun _ _ _ _ => rfl⟩
theorem KeepBut.on {W0 W W' : World} {r g : Nat} {row : Option Nat} (h : KeepBut W0 W r g) (hg : W.grownBy W' row) (hr : ∀ b, row = some b → b = r ∨ b = g ∨ W0.heap.size ≤ b) : KeepBut W0 W' r g :=
  ⟨hg.os.trans h.os, hg.tape.trans h.tape, hg.output.trans h.output, Nat.le_trans h.size hg.size, fun b hb h1 h2 => (hg.block b (Nat.lt_of_lt_of_le hb h.size) (fun e => by rcases hr b e.symm with e' | e' | e'; exact h1 e'; exact h2 e'; omega)).trans (h.block b hb h1 h2)⟩
theorem KeepBut.cell {W0 W : World} {r g : Nat} (h : KeepBut W0 W r g) {p : Addr} (hp : p.block < W0.heap.size) (h1 : p.block ≠ r) (h2 : p.block ≠ g) : W.cell? p = W0.cell? p := World.cell?_of_block (h.block p.block hp h1 h2)
theorem KeepBut.frozen {W0 W : World} {r g : Nat} (h : KeepBut W0 W r g) {p : Addr} (hp : p.block < W0.heap.size) (h1 : p.block ≠ r) (h2 : p.block ≠ g) : W.frozen? p = W0.frozen? p := World.frozen?_of_block (h.block p.block hp h1 h2)

end Go.Proofs.YthmjdfjchhohgaaGreatDoor

namespace Go.Proofs.YthmjdfjchhohgaaGreatDoor
open Go.RowKit Go.Sort

structure TabAt (base : Nat) (te t : TypeId) (sz : Nat) (W : World) (v : Value) (vs : List Value) (css : List (List Value)) : Prop where
  outer : W.ownsRow base te 1 v css.length vs
  inner : ∀ (k : Nat) (u : Value) (cs : List Value), vs[k]? = some u → css[k]? = some cs → ∃ n, W.ownsRow base t sz u n cs
  out : ∀ (k : Nat) (u : Value), vs[k]? = some u → ∀ b, u.ownBlock = some b → v.ownBlock ≠ some b
  apart : ∀ (j k : Nat) (u u' : Value), j ≠ k → vs[j]? = some u → vs[k]? = some u' → ∀ b, u.ownBlock = some b → u'.ownBlock ≠ some b

section
variable {base : Nat} {te t : TypeId} {sz : Nat} {W W' : World} {v : Value} {vs : List Value} {css : List (List Value)}

theorem TabAt.len (h : TabAt base te t sz W v vs css) : vs.length = css.length := by have := h.outer.1; simpa using this

/-- The blocks of a table. -/
def TabBlock (v : Value) (vs : List Value) (b : Nat) : Prop := v.ownBlock = some b ∨ ∃ (k : Nat) (u : Value), vs[k]? = some u ∧ u.ownBlock = some b

theorem TabAt.lt (h : TabAt base te t sz W v vs css) {b : Nat} (hb : TabBlock v vs b) : base ≤ b ∧ b < W.heap.size := by
  rcases hb with hb | ⟨k, u, hu, hb⟩
  · exact h.outer.lt b hb
  · have hk : k < css.length := by rw [← h.len]; exact (List.getElem?_eq_some_iff.1 hu).1
    obtain ⟨n, ho⟩ := h.inner k u _ hu (List.getElem?_eq_getElem hk)
    exact ho.lt b hb

theorem not_own {u : Value} {row : Option Nat} (h : ∀ b, u.ownBlock = some b → row ≠ some b) : u.ownBlock = none ∨ u.ownBlock ≠ row := by
  cases e : u.ownBlock with
  | none => exact .inl rfl
  | some b => exact .inr fun e' => h b e e'.symm

theorem TabAt.kept {row : Option Nat} (h : TabAt base te t sz W v vs css) (hg : W.grownBy W' row) (hr : ∀ b, row = some b → ¬ TabBlock v vs b) : TabAt base te t sz W' v vs css where
  outer := h.outer.kept hg (not_own fun b hb e => hr b e (.inl hb))
  inner := fun k u cs hu hc => by
    obtain ⟨n, ho⟩ := h.inner k u cs hu hc
    exact ⟨n, ho.kept hg (not_own fun b hb e => hr b e (.inr ⟨k, u, hu, hb⟩))⟩
  out := h.out
  apart := h.apart
theorem TabAt.below (h : TabAt base te t sz W v vs css) (hB : Below W.heap.size W W') : TabAt base te t sz W' v vs css := h.kept (Below.grownBy hB) (fun b e => by cases e)
theorem TabAt.drew (h : TabAt base te t sz W v vs css) : TabAt base te t sz W.drew v vs css := h.below (Below.refl _ W).drew

theorem tabAt_nil (base : Nat) (te t : TypeId) (sz : Nat) (W : World) : TabAt base te t sz W (.slice none 0 0) [] [] where
  outer := World.ownsRow_nil _ _ _ _
  inner := fun k u cs hu => by simp at hu
  out := fun k u hu => by simp at hu
  apart := fun j k u u' _ hu => by simp at hu

/-- More rows, each empty. -/
theorem TabAt.more {v' : Value} {n : Nat} (h : TabAt base te t sz W v vs css) (hown : W'.ownsRow base te 1 v' (css.length + n) (vs ++ List.replicate n (.slice none 0 0))) (hg : W.grownBy W' v.ownBlock) (hl : ∀ b, v'.ownBlock = some b → v.ownBlock = some b ∨ W.heap.size ≤ b) :
    TabAt base te t sz W' v' (vs ++ List.replicate n (.slice none 0 0)) (css ++ List.replicate n []) := by
  have hvl := h.len
  have key : ∀ (k : Nat) (u : Value), (vs ++ List.replicate n (Value.slice none 0 0))[k]? = some u → (vs[k]? = some u) ∨ (vs.length ≤ k ∧ u = .slice none 0 0) := fun k u hu => by
    rw [List.getElem?_append] at hu
    split at hu
    · exact .inl hu
    · rw [List.getElem?_replicate] at hu
      split at hu
      · exact .inr ⟨by omega, (Option.some.inj hu).symm⟩
      · cases hu
  refine ⟨by simpa using hown, fun k u cs hu hc => ?_, fun k u hu b hb => ?_, fun j k u u' hne hu hu' b hb => ?_⟩
  · rcases key k u hu with h1 | ⟨h1, rfl⟩
    · have hk : k < css.length := by rw [← hvl]; exact (List.getElem?_eq_some_iff.1 h1).1
      rw [List.getElem?_append_left hk] at hc
      obtain ⟨m, ho⟩ := h.inner k u cs h1 hc
      exact ⟨m, ho.kept hg (not_own fun b hb e => h.out k u h1 b hb e)⟩
    · rw [List.getElem?_append_right (by omega), List.getElem?_replicate] at hc
      split at hc
      · obtain rfl := Option.some.inj hc
        exact ⟨0, World.ownsRow_nil _ _ _ _⟩
      · cases hc
  · rcases key k u hu with h1 | ⟨_, rfl⟩
    · intro e
      have h2 := h.lt (.inr ⟨k, u, h1, hb⟩)
      rcases hl b e with h3 | h3
      · exact h.out k u h1 b hb h3
      · omega
    · cases hb
  · rcases key j u hu with h1 | ⟨_, rfl⟩
    · rcases key k u' hu' with h2 | ⟨_, rfl⟩
      · exact h.apart j k u u' hne h1 h2 b hb
      · intro e; cases e
    · cases hb

/-- One row grows: behind the append, and behind the store. -/
theorem TabAt.put {g n cap k m : Nat} {u u' : Value} {cs cs' : List Value} {o : Obj} (h : TabAt base te t sz W (.slice (some ⟨g, 0, none⟩) n cap) vs css) (hu : vs[k]? = some u) (hc : css[k]? = some cs) (hn : n = css.length)
    (hown : W'.ownsRow base t sz u' m cs') (hg : (W.alloc o).grownBy W' u.ownBlock) (hl : u'.ownBlock = u.ownBlock ∨ u'.ownBlock = some (W.alloc o).heap.size) :
    TabAt base te t sz (W'.setCell ⟨g, k, none⟩ u') (.slice (some ⟨g, 0, none⟩) n cap) (vs.set k u') (css.set k cs') ∧ ∀ b, TabBlock (.slice (some ⟨g, 0, none⟩) n cap) (vs.set k u') b → TabBlock (.slice (some ⟨g, 0, none⟩) n cap) vs b ∨ W.heap.size ≤ b := by
  subst hn
  have hvg : (Value.slice (some ⟨g, 0, none⟩) css.length cap).ownBlock = some g := rfl
  have hgl := h.lt (b := g) (.inl hvg)
  have hkl : k < vs.length := (List.getElem?_eq_some_iff.1 hu).1
  have hub : ∀ b, u.ownBlock = some b → b ≠ g ∧ b < W.heap.size := fun b hb => ⟨fun e => h.out k u hu b hb (by rw [hvg, e]), (h.lt (.inr ⟨k, u, hu, hb⟩)).2⟩
  have hub' : ∀ b, u'.ownBlock = some b → u.ownBlock = some b ∨ b = W.heap.size + 1 := fun b hb => by
    rcases hl with e | e
    · exact .inl (e.symm.trans hb)
    · right; rw [e] at hb; simpa using hb.symm
  have hne' : ∀ b, u'.ownBlock = some b → b ≠ g := fun b hb => by
    rcases hub' b hb with h1 | h1
    · exact (hub b h1).1
    · omega
  have ho1 := (h.outer.alloc o).kept hg (not_own fun b hb e => (hub b e).1 (by rw [hvg] at hb; exact (Option.some.inj hb).symm))
  have hst := ho1.stored k u'
  have sel : ∀ (j : Nat) (x : Value), (vs.set k u')[j]? = some x → (j = k ∧ x = u') ∨ (j ≠ k ∧ vs[j]? = some x) := fun j x hx => by
    by_cases e : k = j
    · rw [List.getElem?_set, if_pos e, if_pos hkl] at hx
      exact .inl ⟨e.symm, (Option.some.inj hx).symm⟩
    · rw [List.getElem?_set, if_neg e] at hx
      exact .inr ⟨fun e' => e e'.symm, hx⟩
  refine ⟨⟨by rw [List.length_set]; exact hst.1, fun j x c hx hcx => ?_, fun j x hx b hb => ?_, fun j i x y hne hx hy b hb => ?_⟩, fun b hb => ?_⟩
  · rcases sel j x hx with ⟨rfl, rfl⟩ | ⟨e, hx⟩
    · rw [List.getElem?_set, if_pos rfl, if_pos (by rw [← h.len]; exact hkl)] at hcx
      obtain rfl := Option.some.inj hcx
      exact ⟨m, hown.kept hst.2 (not_own fun b hb e => hne' b hb (Option.some.inj e).symm)⟩
    · rw [List.getElem?_set, if_neg (Ne.symm e)] at hcx
      obtain ⟨p, ho⟩ := h.inner j x c hx hcx
      refine ⟨p, ((ho.alloc o).kept hg (not_own fun b hb e' => h.apart j k x u e hx hu b hb e')).kept hst.2 (not_own fun b hb e' => ?_)⟩
      exact h.out j x hx b hb (by rw [hvg, ← Option.some.inj e'])
  · rw [hvg]
    rcases sel j x hx with ⟨rfl, rfl⟩ | ⟨e, hx⟩
    · exact fun e => hne' b hb (Option.some.inj e).symm
    · exact h.out j x hx b hb
  · rcases sel j x hx with ⟨rfl, rfl⟩ | ⟨e, hx'⟩
    · rcases sel i y hy with ⟨rfl, rfl⟩ | ⟨e', hy⟩
      · exact absurd rfl hne
      · rcases hub' b hb with h1 | h1
        · exact h.apart j i u y hne hu hy b h1
        · intro e2
          have := (h.lt (.inr ⟨i, y, hy, e2⟩)).2
          omega
    · have hx2 := hx'
      clear hx'
      rcases sel i y hy with ⟨rfl, rfl⟩ | ⟨e', hy⟩
      · intro e2
        rcases hub' b e2 with h1 | h1
        · exact h.apart j i x u hne hx2 hu b hb h1
        · have := (h.lt (.inr ⟨j, x, hx2, hb⟩)).2
          omega
      · exact h.apart j i x y hne hx2 hy b hb
  · rcases hb with hb | ⟨j, x, hx, hb⟩
    · exact .inl (.inl hb)
    · rcases sel j x hx with ⟨rfl, rfl⟩ | ⟨e, hx⟩
      · rcases hub' b hb with h1 | h1
        · exact .inl (.inr ⟨j, u, hu, h1⟩)
        · right; omega
      · exact .inl (.inr ⟨j, x, hx, hb⟩)

end

end Go.Proofs.YthmjdfjchhohgaaGreatDoor
