/- A slice is appended onto a row of the call's own, as a step of a region that draws its order. What lies far from a row that grows is kept. Cochains as they are handed over; rows of words. The program's cocycles of a dimension. -/
import Derived.Test.YtldknhganoiajaaGreatDoorBase
import Derived.Deep.RegionLaw
import Derived.Deep.AppendLies
import Derived.Test.YtldknhganoiajaaGreatDoorGather
import Derived.Test.YtldknhganoiajaaGreatDoorCupRefMath
import Derived.Test.YtldknhganoiajaaGreatDoorCupCoc
namespace Go.Proofs.YtldknhganoiajaaGreatDoor
open Go.RowKit Go.Sort

/-- A slice is appended onto a row of the call's own, as a run. -/
theorem run_append_slice {P : Program} (w : World) (t ty : TypeId) (base : Nat) (e : TypeId) (i : TypeInfo) (z : Value) (bytes : Nat) (ht : P.underlying t = some (.slice e)) (hi : P.info? e = some i) (hz : i.zero = some z)
    (hsize : i.size = 1) (hby : i.bytes = bytes) (hzs : z.cells.size = 1) (v : Value) (n : Nat) (xs : List Value) (hown : w.ownsRow base e 1 v n xs)
    {S : Nat → Prop} (u : Value) (news : List Value) (hu : SliceIn S w u news) (h1 : ∀ c ∈ news, c.oneCell' = true)
    (hbytes : (n + news.length) * bytes ≤ 140737488355328) (h63 : n + news.length ≤ maxLen) (hbase : base ≤ w.heap.size) :
    ∃ v' w', (Builtin.append_ #[t, t] ty #[v, u]).run P w = .ok v' w' ∧ w'.ownsRow base e 1 v' (n + news.length) (xs ++ news) ∧ w.grownBy w' v.ownBlock ∧ (v'.ownBlock = v.ownBlock ∨ v'.ownBlock = some w.heap.size) := by
  obtain ⟨ao, cap, rfl, ⟨hc, hn⟩, hcs⟩ := hu
  cases ao with
  | none =>
    obtain rfl := hn rfl
    have hnil : news = [] := List.eq_nil_of_length_eq_zero (by omega)
    subst hnil
    exact ⟨v, w, run_append_owned_none (P := P) (w := w) base t ty e i 1 ht hi v n xs hown, by simpa using hown, ⟨rfl, rfl, rfl, Nat.le_refl _, fun _ _ _ => rfl⟩, .inl rfl⟩
  | some ad =>
    obtain ⟨v', w', hr, h2, h3, _, h5⟩ := run_append_own_at (P := P) w base t ty e i z 1 bytes ht hi hz hsize hby hzs (by decide) v n xs hown ad news.length cap news (by simp) (fun j c hj => by
      have hl : 0 < news.length := by
        have := (List.getElem?_eq_some_iff.1 hj).1
        omega
      obtain ⟨b, off, e1, _, e3⟩ := hcs hl
      cases e1
      rw [Addr.add_lit]
      exact e3 j c hj) h1 h63 hbytes hbase
    exact ⟨v', w', hr, h2, h3, h5⟩

/-- The same at a step of a region that draws its order. -/
theorem step_append_slice {P : Program} {w : World} {ops : Array Oper} {o : Oper} {a : Act} {K : Act → World → Prop} {Q : Exit → Act → World → Prop} {E : Prop} (hgd : o.guard = none) (s x : Operand) (t : TypeId)
    (ho : o.op = .call { callee := .builtin .append, args := #[s, x], argTypes := #[t, t] })
    (base : Nat) (e : TypeId) (i : TypeInfo) (z : Value) (bytes : Nat) (ht : P.underlying t = some (.slice e)) (hi : P.info? e = some i) (hz : i.zero = some z)
    (hsize : i.size = 1) (hby : i.bytes = bytes) (hzs : z.cells.size = 1) (v : Value) (n : Nat) (xs : List Value) (hs : a.eval s = v) (hown : w.ownsRow base e 1 v n xs)
    {S : Nat → Prop} (u : Value) (news : List Value) (hx : a.eval x = u) (hu : SliceIn S w u news) (h1 : ∀ c ∈ news, c.oneCell' = true)
    (hbytes : (n + news.length) * bytes ≤ 140737488355328) (h63 : n + news.length ≤ maxLen) (hbase : base ≤ w.heap.size)
    (h : ∀ v' w', w'.ownsRow base e 1 v' (n + news.length) (xs ++ news) → w.grownBy w' v.ownBlock → (v'.ownBlock = v.ownBlock ∨ v'.ownBlock = some w.heap.size) → K (a.put o.dst v') w') :
    if Region.wanted o (yielded ops a.tmps) = true then Oper.wp P o a w K Q else E := by
  have hw : Region.wanted o (yielded ops a.tmps) = true := by simp [Region.wanted, hgd]
  rw [if_pos hw]
  obtain ⟨v', w', hr, h2, h3, h4⟩ := run_append_slice (P := P) w t o.type base e i z bytes ht hi hz hsize hby hzs v n xs hown u news hu h1 hbytes h63 hbase
  unfold Oper.wp execOp
  simp only [ho, resolve, invoke, builtin, Sem.run_bind, Sem.run_pure, Result.andThen_ok, List.map_toArray, List.map_cons, List.map_nil, hs, hx, hr]
  exact h v' w' h2 h3 h4

end Go.Proofs.YtldknhganoiajaaGreatDoor

namespace Go.Proofs.YtldknhganoiajaaGreatDoor
open Go.RowKit Go.Sort

theorem below_nil {W W' : World} (h : W.drew.grownBy W' (Value.slice none 0 0).ownBlock) : Below W.heap.size W W' := ⟨h.os, h.tape, h.output, h.size, fun k hk => h.block k hk (by simp [Value.ownBlock])⟩
theorem far_kept {w1 w2 : World} {o : Obj} {row : Option Nat} (hg : (w1.alloc o).grownBy w2 row) {p : Addr} {v : Value} (h : w1.cell? p = some v ∧ w1.frozen? p = false) (hne : some p.block ≠ row) : w2.cell? p = some v ∧ w2.frozen? p = false := by
  have hb := box_alloc o h
  have hlt := cell_lt hb.1
  exact ⟨(hg.cell_far p hlt hne).trans hb.1, (hg.frozen_far p hlt hne).trans hb.2⟩
theorem far_cell {w1 w2 : World} {o : Obj} {row : Option Nat} (hg : (w1.alloc o).grownBy w2 row) {p : Addr} {v : Value} (h : w1.cell? p = some v) (hne : some p.block ≠ row) : w2.cell? p = some v := by
  have hlt := cell_lt h
  exact (hg.cell_far p (by simp; omega) hne).trans (cell_kept h (World.grownBy_alloc w1 o none) (fun r e => by cases e))
theorem ints_made {W : World} {base : Nat} {t : TypeId} {v : Value} {x : List Int} (h : W.ownsRow base t 1 v (0 + (x.map (Value.int .i64)).length) ([] ++ x.map (Value.int .i64))) : IntsIn (fun b => base ≤ b) W v x := by
  have := slice_of_owns (S := fun b => base ≤ b) h (fun b hb _ => hb)
  rw [List.nil_append] at this
  exact this

end Go.Proofs.YtldknhganoiajaaGreatDoor

namespace Go.Proofs.YtldknhganoiajaaGreatDoor
open Go.RowKit Go.Sort

abbrev Co := Int × List Int
/-- Cochains as they are handed over, in a block: a dimension and a list each. -/
structure CoAt (W : World) (b : Nat) (cs : List Co) (us : Nat → Value) : Prop where
  dim : ∀ k, k < cs.length → W.cell? ⟨b, k * 2, none⟩ = some (.int .i64 (cs[k]?.getD (0, [])).1)
  lst : ∀ k, k < cs.length → W.cell? ⟨b, k * 2 + 1, none⟩ = some (us k)
  ints : ∀ k, k < cs.length → Ints W (us k) (cs[k]?.getD (0, [])).2
theorem CoAt.below {W W' : World} {b : Nat} {cs : List Co} {us : Nat → Value} (h : CoAt W b cs us) (hB : Below W.heap.size W W') : CoAt W' b cs us :=
  ⟨fun k hk => (hB.cell (p := ⟨b, k * 2, none⟩) (cell_lt (h.dim k hk))).trans (h.dim k hk), fun k hk => (hB.cell (p := ⟨b, k * 2 + 1, none⟩) (cell_lt (h.lst k hk))).trans (h.lst k hk), fun k hk => (h.ints k hk).below hB⟩

/-- Rows of words, in blocks from base on, none of them the row of rows itself. -/
def WordsAt (base : Nat) (W : World) (v : Value) (ns xs : Nat → Nat) (k : Nat) : Prop :=
  ∃ us : List Value, W.ownsRow base 68 1 v k us ∧ ∀ (j : Nat) (u : Value), us[j]? = some u → WordIn (fun b => base ≤ b ∧ some b ≠ v.ownBlock) W u (ns j) (xs j)
theorem WordsAt.nil (base : Nat) (W : World) (ns xs : Nat → Nat) : WordsAt base W (.slice none 0 0) ns xs 0 := ⟨[], World.ownsRow_nil _ _ _ _, fun j u hu => by simp at hu⟩
theorem WordsAt.below {base : Nat} {W W' : World} {v : Value} {ns xs : Nat → Nat} {k : Nat} (h : WordsAt base W v ns xs k) (hB : Below W.heap.size W W') : WordsAt base W' v ns xs k := by
  obtain ⟨us, h1, h2⟩ := h
  exact ⟨us, h1.kept (Below.grownBy hB) (by cases v.ownBlock <;> simp), fun j u hu => (h2 j u hu).below hB⟩
theorem WordsAt.kept {base : Nat} {W W' : World} {v : Value} {ns xs : Nat → Nat} {k : Nat} {row : Option Nat} (h : WordsAt base W v ns xs k) (hg : W.grownBy W' row) (hr : ∀ b, base ≤ b → some b ≠ row) : WordsAt base W' v ns xs k := by
  obtain ⟨us, h1, h2⟩ := h
  refine ⟨us, h1.kept hg ?_, fun j u hu => (h2 j u hu).keep hg.size (fun b hb hs => hg.block b hb (hr b hs.1))⟩
  cases e : v.ownBlock with
  | none => exact .inl rfl
  | some b => exact .inr (hr b (h1.lt b e).1)
theorem WordsAt.push {base : Nat} {w w3 : World} {v v' u : Value} {ns xs : Nat → Nat} {k : Nat} {us : List Value} {o : Obj} (h1 : w.ownsRow base 68 1 v k us) (h2 : ∀ (j : Nat) (u : Value), us[j]? = some u → WordIn (fun b => base ≤ b ∧ some b ≠ v.ownBlock) w u (ns j) (xs j))
    (hu : WordIn (fun b => base ≤ b ∧ some b ≠ v.ownBlock) w u (ns k) (xs k)) (hown : w3.ownsRow base 68 1 v' (k + 1) (us ++ [u])) (hg : (w.alloc o).grownBy w3 v.ownBlock) (hl : v'.ownBlock = v.ownBlock ∨ v'.ownBlock = some (w.alloc o).heap.size) :
    WordsAt base w3 v' ns xs (k + 1) := by
  have key : ∀ {u : Value} {n x : Nat}, WordIn (fun b => base ≤ b ∧ some b ≠ v.ownBlock) w u n x → WordIn (fun b => base ≤ b ∧ some b ≠ v'.ownBlock) w3 u n x := fun {u n x} h => by
    have h' : WordIn (fun b => base ≤ b ∧ some b ≠ v.ownBlock ∧ some b ≠ v'.ownBlock) w u n x := h.mono (fun b hb hne => ⟨hne.1, hne.2, fun e => by
      rcases hl with hl | hl
      · exact hne.2 (e.trans hl)
      · rw [hl] at e; simp at e; omega⟩)
    have h'' : WordIn (fun b => base ≤ b ∧ some b ≠ v.ownBlock ∧ some b ≠ v'.ownBlock) w3 u n x := h'.keep (by have := hg.size; simp at this; omega) (fun b hb hne => by
      rw [hg.block b (by simp; omega) hne.2.1]
      exact (World.grownBy_alloc w o none).block b hb (by simp))
    exact h''.mono (fun b _ hne => ⟨hne.1, hne.2.2⟩)
  have hvl : us.length = k := by have := h1.1; simpa using this
  refine ⟨us ++ [u], hown, fun j u' hu' => ?_⟩
  rw [List.getElem?_append, hvl] at hu'
  by_cases hj : j < k
  · rw [if_pos hj] at hu'
    exact key (h2 j u' hu')
  · rw [if_neg hj] at hu'
    have h0 : j - k = 0 := by
      rcases Nat.eq_zero_or_pos (j - k) with h | h
      · exact h
      · rw [List.getElem?_eq_none (by simp; omega)] at hu'; cases hu'
    have hjk : j = k := by omega
    rw [h0] at hu'
    simp at hu'
    subst hu'
    subst hjk
    exact key hu

/-- Are all dimensions of the complex? -/
def DimsOk (T : Nat) (cs : List Co) : Prop := ∀ c ∈ cs, 0 ≤ c.1 ∧ c.1 < (T : Int)
/-- Do all lists rise, with numbers of faces? -/
def ListsOk (all : List (List Int)) (cs : List Co) : Prop := ∀ c ∈ cs, OkCo (ofDim all c.1).length c.2
def coN (all : List (List Int)) (cs : List Co) (j : Nat) : Nat := (ofDim all (cs[j]?.getD (0, [])).1).length
def coX (cs : List Co) (j : Nat) : Nat := maskN (cs[j]?.getD (0, [])).2
theorem all_take {p : Co → Prop} {cs : List Co} {k : Nat} (hk : k < cs.length) (h : ∀ c ∈ cs.take k, p c) (hp : p (cs[k]?.getD (0, []))) : ∀ c ∈ cs.take (k + 1), p c := fun c hc => by
  rw [List.take_add_one, List.getElem?_eq_getElem hk] at hc
  rw [List.getElem?_eq_getElem hk] at hp
  rcases List.mem_append.1 hc with h1 | h1
  · exact h c h1
  · simp at h1; subst h1; exact hp
theorem co_mem {cs : List Co} {k : Nat} (hk : k < cs.length) : cs[k]?.getD (0, []) ∈ cs := by rw [List.getElem?_eq_getElem hk]; exact List.getElem_mem hk
theorem Tryz.infocr : (Tryz.prog.info? 68).map (fun i => (i.zero, i.size, i.bytes)) = some (some (.slice none 0 0), 1, 24) := by kernel_rfl

end Go.Proofs.YtldknhganoiajaaGreatDoor

namespace Go.Proofs.YtldknhganoiajaaGreatDoor
open Go.RowKit Go.Sort Go.Maps Go.Deep

/-- Rows of words of one length, as a list. -/
def WsAt (base : Nat) (W : World) (v : Value) (n : Nat) (L : List Nat) : Prop := WordsAt base W v (fun _ => n) (fun j => L[j]?.getD 0) L.length
theorem WsAt.nil (base : Nat) (W : World) (n : Nat) : WsAt base W (.slice none 0 0) n [] := WordsAt.nil base W _ _
theorem WsAt.below {base : Nat} {W W' : World} {v : Value} {n : Nat} {L : List Nat} (h : WsAt base W v n L) (hB : Below W.heap.size W W') : WsAt base W' v n L := WordsAt.below h hB
theorem WsAt.kept {base : Nat} {W W' : World} {v : Value} {n : Nat} {L : List Nat} {row : Option Nat} (h : WsAt base W v n L) (hg : W.grownBy W' row) (hr : ∀ b, base ≤ b → some b ≠ row) : WsAt base W' v n L := WordsAt.kept h hg hr
theorem WsAt.down {base base' : Nat} {W : World} {v : Value} {n : Nat} {L : List Nat} (h : WsAt base W v n L) (hb : base' ≤ base) : WsAt base' W v n L := by
  obtain ⟨us, h1, h2⟩ := h
  exact ⟨us, ⟨h1.1, h1.2.imp id fun ⟨g, cap, cur, e, h1, h2⟩ => ⟨g, cap, cur, e, Nat.le_trans hb h1, h2⟩⟩, fun j u hu => (h2 j u hu).mono (fun b _ hs => ⟨by omega, hs.2⟩)⟩
theorem WsAt.form {base : Nat} {W : World} {v : Value} {n : Nat} {L : List Nat} (h : WsAt base W v n L) : ∃ a c, v = .slice a L.length c := by
  obtain ⟨us, h1, -⟩ := h
  exact own_form h1
theorem WsAt.block {base : Nat} {W : World} {v : Value} {n : Nat} {L : List Nat} (h : WsAt base W v n L) {b : Nat} (hb : v.ownBlock = some b) : base ≤ b ∧ b < W.heap.size := by
  obtain ⟨us, h1, -⟩ := h
  exact h1.lt b hb
theorem WordsAt.congr {base : Nat} {W : World} {v : Value} {ns xs ns' xs' : Nat → Nat} {k : Nat} (h : WordsAt base W v ns xs k) (e : ∀ j, j < k → ns j = ns' j ∧ xs j = xs' j) : WordsAt base W v ns' xs' k := by
  obtain ⟨us, h1, h2⟩ := h
  refine ⟨us, h1, fun j u hu => ?_⟩
  have hl : us.length = k := by have := h1.1; simpa using this
  have hj : j < k := by
    rcases Nat.lt_or_ge j k with h | h
    · exact h
    · rw [List.getElem?_eq_none (by omega)] at hu; cases hu
  rw [← (e j hj).1, ← (e j hj).2]
  exact h2 j u hu
theorem WsAt.push {base : Nat} {w w3 : World} {v v' u : Value} {n x : Nat} {L : List Nat} {us : List Value} {o : Obj} (h1 : w.ownsRow base 68 1 v L.length us) (h2 : ∀ (j : Nat) (u : Value), us[j]? = some u → WordIn (fun b => base ≤ b ∧ some b ≠ v.ownBlock) w u n (L[j]?.getD 0))
    (hu : WordIn (fun b => base ≤ b ∧ some b ≠ v.ownBlock) w u n x) (hown : w3.ownsRow base 68 1 v' (L.length + 1) (us ++ [u])) (hg : (w.alloc o).grownBy w3 v.ownBlock) (hl : v'.ownBlock = v.ownBlock ∨ v'.ownBlock = some (w.alloc o).heap.size) :
    WsAt base w3 v' n (L ++ [x]) := by
  have h := WordsAt.push (ns := fun _ => n) (xs := fun j => (L ++ [x])[j]?.getD 0) h1 (fun j u hj => by
    have hl : us.length = L.length := by have := h1.1; simpa using this
    have hjl : j < L.length := by
      rcases Nat.lt_or_ge j L.length with h | h
      · exact h
      · rw [List.getElem?_eq_none (by omega)] at hj; cases hj
    have := h2 j u hj
    rwa [show (L ++ [x])[j]?.getD 0 = L[j]?.getD 0 by rw [List.getElem?_append_left hjl]]) (by rw [show (L ++ [x])[L.length]?.getD 0 = x by simp]; exact hu) hown hg hl
  unfold WsAt
  rw [List.length_append, List.length_singleton]
  exact h
/-- The k-th row's cell, and its word. -/
theorem WsAt.at {base : Nat} {W : World} {v : Value} {n : Nat} {L : List Nat} (h : WsAt base W v n L) {k : Nat} (hk : k < L.length) :
    ∃ G c a m c', v = .slice (some ⟨G, 0, none⟩) L.length c ∧ base ≤ G ∧ G < W.heap.size ∧ W.cell? ⟨G, k, none⟩ = some (.slice a m c') ∧ WordIn (fun b => base ≤ b ∧ b ≠ G) W (.slice a m c') n (L[k]?.getD 0) := by
  obtain ⟨us, h1, h2⟩ := h
  obtain ⟨G, c, e, hG1, hG2⟩ := h1.form (by omega)
  have hl : us.length = L.length := by have := h1.1; simpa using this
  have hu : us[k]? = some us[k] := List.getElem?_eq_getElem (by omega)
  have hw := h2 k _ hu
  obtain ⟨a, m, c', e2⟩ := hw.form
  subst e
  have hc : W.cell? ⟨G, k, none⟩ = some us[k] := by simpa [hu] using h1.cellAt k (by omega)
  refine ⟨G, c, a, m, c', rfl, hG1, hG2, by rw [hc, e2], ?_⟩
  rw [← e2]
  exact hw.mono (fun b _ hb => ⟨hb.1, fun e => hb.2 (by rw [e]; rfl)⟩)

theorem WordIn.both {S S' : Nat → Prop} {W W' : World} {v : Value} {n x x' : Nat} (h : WordIn S W v n x) (h' : WordIn S' W' v n x') : WordIn (fun b => S b ∧ S' b ∧ b < W'.heap.size) W v n x := by
  obtain ⟨h1, h2, h3 | ⟨h3, b, c, e, hc, hb, hl, h4, h5⟩⟩ := h
  · exact ⟨h1, h2, .inl h3⟩
  · obtain ⟨-, -, ⟨h6, -⟩ | ⟨-, b', c', e', -, hb', hl', -⟩⟩ := h'
    · omega
    · rw [e] at e'; cases e'
      exact ⟨h1, h2, .inr ⟨h3, b, c, e, hc, ⟨hb, hb', hl'⟩, hl, h4, h5⟩⟩
theorem DlAt.later {B n M A : Nat} {W0 W W' : World} {G : Nat} {us : Nat → Value} {k : Nat} {xs : Nat → Nat} (h0 : DlAt B n M W0 G us k xs) (h : DlAt B n M W G us k xs) (hA : W0.heap.size ≤ A) (_hW : A ≤ W.heap.size) (hB : Below A W W') : DlAt B n M W' G us k xs :=
  ⟨h.outer.of_block (hB.block _ (Nat.lt_of_lt_of_le h0.outer.lt hA)), fun i hi => ((h.word i hi).both (h0.word i hi)).keep hB.size (fun b _ hs => hB.block b (Nat.lt_of_lt_of_le hs.2.2 hA)) |>.mono (fun _ _ hs => hs.1), h.apart, h.base⟩
/-- A sorter's rows are none of a row of rows' own block. -/
theorem TbAt.beside {W W' : World} {base g n N b0 k : Nat} {B : Tb} {v : Value} {us : List Value} {o : Obj} (h : TbAt W base g n N B) (hown : W.ownsRow b0 68 1 v k us) (hus : ∀ u, us[0]? = some u → ∃ a m c, u = .slice a m c) (h0 : k = 0 → v.ownBlock = none) (hg : (W.alloc o).grownBy W' v.ownBlock) (hne : v.ownBlock ≠ some g) : TbAt W' base g n N B := by
  obtain ⟨D, h1, h2, h3⟩ := h
  have hlt := h1.lt
  have hgr : W.grownBy W' v.ownBlock := ((World.grownBy_alloc W o none).but _).trans hg
  refine ⟨D, h1.kept hgr (fun e => hne e.symm), h2, fun k' y hk => ?_⟩
  obtain ⟨q1, u, q2, q3⟩ := h3 k' y hk
  refine ⟨q1, u, q2, ?_⟩
  obtain ⟨r1, r2, r3 | ⟨r3, b, c, e, hc, hb, hl, h4, h5⟩⟩ := q3
  · exact ⟨r1, r2, .inl r3⟩
  · have hbn : some b ≠ v.ownBlock := fun e2 => by
      rcases Nat.eq_zero_or_pos k with hk0 | hk0
      · rw [h0 hk0] at e2; cases e2
      · obtain ⟨G, cap, ev, -, -⟩ := hown.form (by omega)
        rw [ev] at e2
        have e3 : b = G := by simpa [Value.ownBlock] using e2
        have hl2 : us.length = k := by have := hown.1; simpa using this
        have hu : us[0]? = some us[0] := List.getElem?_eq_getElem (by omega)
        have hown' := hown
        rw [ev] at hown'
        have hc0 : W.cell? ⟨G, 0, none⟩ = some us[0] := by simpa [hu] using hown'.cellAt 0 (by omega)
        obtain ⟨a, m, c', e4⟩ := hus _ hu
        rw [← e3, h4, e4] at hc0
        cases hc0
    exact ⟨r1, r2, .inr ⟨r3, b, c, e, hc, hb, Nat.lt_of_lt_of_le hl hgr.size, by rw [World.cell?_of_block (hgr.block b hl hbn)]; exact h4, by rw [World.frozen?_of_block (hgr.block b hl hbn)]; exact h5⟩⟩

theorem fold_take {is : List Nat} {j : Nat} (hj : j < is.length) (x0 : Nat) (f : Nat → Nat) : (is.take (j + 1)).foldl (fun x i => x ^^^ f i) x0 = (is.take j).foldl (fun x i => x ^^^ f i) x0 ^^^ f (is[j]?.getD 0) := by
  rw [List.take_add_one, List.getElem?_eq_getElem hj, List.foldl_append]; rfl
theorem fold_shr : ∀ (is : List Nat) (n x0 : Nat), (∀ i ∈ is, n ≤ i) → is.foldl (fun x i => x ^^^ 2 ^ (i - n)) (x0 >>> n) = (is.foldl (fun x i => x ^^^ 2 ^ i) x0) >>> n
  | [], _, _, _ => rfl
  | a :: is, n, x0, h => by
    have ha := h a (List.mem_cons_self ..)
    have e : x0 >>> n ^^^ 2 ^ (a - n) = (x0 ^^^ 2 ^ a) >>> n := by
      rw [shr_xor]
      congr 1
      have : (2 : Nat) ^ a = 2 ^ (a - n) <<< n := by rw [Nat.shiftLeft_eq, ← Nat.pow_add]; congr 1; omega
      rw [this, shl_shr]
    rw [List.foldl_cons, List.foldl_cons, e]
    exact fold_shr is n _ (fun i hi => h i (List.mem_cons_of_mem _ hi))
/-- A word moved down, by its numbers. -/
theorem moved {x n : Nat} (h : x < 2 ^ 64) (hn : x ≠ 0 → n ≤ low x) : (bitsN x).foldl (fun x i => x ^^^ 2 ^ (i - n)) 0 = x >>> n := by
  have h1 := fold_shr (bitsN x) n 0 (fun i hi => by
    have hb := (bitsN_mem h).1 hi
    have h0 := ne_zero_of_bit hb
    have := hn h0
    rcases Nat.lt_or_ge i (low x) with h2 | h2
    · rw [(low_bits h0 h).2.2 i h2] at hb; cases hb
    · omega)
  rw [Nat.zero_shiftRight] at h1
  rw [h1, fold_bits h (Nat.le_refl _)]

end Go.Proofs.YtldknhganoiajaaGreatDoor
