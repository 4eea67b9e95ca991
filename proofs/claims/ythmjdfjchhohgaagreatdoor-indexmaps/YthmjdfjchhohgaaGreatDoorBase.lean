/- Slices of numbers, of lists of numbers and of texts as they read in a world, and that they read on in a later one. -/
import Derived.Test.YthmjdfjchhohgaaGreatDoorCode
import Derived.Test.YthmjdfjchhohgaaGreatDoorMath2
import Derived.WalkKit
import Derived.OwnWalk
import Derived.Sort.EncStr
import Derived.Maps.AppendAt
import Derived.Laws.AppendOwnNone
namespace Go.Proofs.YthmjdfjchhohgaaGreatDoor
open Go.RowKit Go.Sort

/-- A slice value whose elements, one cell each, lie in a block of S. -/
def SliceIn (S : Nat → Prop) (w : World) (v : Value) (cs : List Value) : Prop :=
  ∃ a cap, v = .slice a cs.length cap ∧ (cs.length ≤ cap ∧ (a = none → cap = 0)) ∧ (0 < cs.length → ∃ b off, a = some ⟨b, off, none⟩ ∧ S b ∧ ∀ (k : Nat) (u : Value), cs[k]? = some u → w.cell? ⟨b, off + k, none⟩ = some u)

theorem SliceIn.mono {S S' : Nat → Prop} {w : World} {v : Value} {cs : List Value} (h : SliceIn S w v cs) (hs : ∀ b, b < w.heap.size → S b → S' b) : SliceIn S' w v cs := by
  obtain ⟨a, cap, e, hc, hx⟩ := h
  refine ⟨a, cap, e, hc, fun h0 => ?_⟩
  obtain ⟨b, off, e1, e2, e3⟩ := hx h0
  have := e3 0 cs[0] (List.getElem?_eq_getElem h0)
  exact ⟨b, off, e1, hs b (cell_lt this) e2, e3⟩

theorem SliceIn.keep {S : Nat → Prop} {w w' : World} {v : Value} {cs : List Value} (h : SliceIn S w v cs) (hk : ∀ b, b < w.heap.size → S b → w'.heap[b]? = w.heap[b]?) : SliceIn S w' v cs := by
  obtain ⟨a, cap, e, hc, hx⟩ := h
  refine ⟨a, cap, e, hc, fun h0 => ?_⟩
  obtain ⟨b, off, e1, e2, e3⟩ := hx h0
  have := e3 0 cs[0] (List.getElem?_eq_getElem h0)
  refine ⟨b, off, e1, e2, fun k u hu => ?_⟩
  rw [World.cell?_of_block (hk b (cell_lt this) e2)]
  exact e3 k u hu

theorem SliceIn.below {S : Nat → Prop} {w w' : World} {v : Value} {cs : List Value} (h : SliceIn S w v cs) (hb : Below w.heap.size w w') : SliceIn S w' v cs :=
  h.keep (fun b hl _ => hb.block b hl)

theorem SliceIn.nil (S : Nat → Prop) (w : World) : SliceIn S w (.slice none 0 0) [] := ⟨none, 0, rfl, ⟨Nat.le_refl _, fun _ => rfl⟩, fun h => absurd h (by simp)⟩

/-- A slice of numbers. -/
def IntsIn (S : Nat → Prop) (w : World) (v : Value) (xs : List Int) : Prop := SliceIn S w v (xs.map (Value.int .i64))
/-- A slice of texts. -/
def StrsIn (S : Nat → Prop) (w : World) (v : Value) (xs : List (List UInt8)) : Prop := SliceIn S w v (xs.map encStr)
/-- A slice of slices of numbers. -/
def RowsIn (S : Nat → Prop) (w : World) (v : Value) (xss : List (List Int)) : Prop :=
  ∃ vs : List Value, SliceIn S w v vs ∧ vs.length = xss.length ∧ ∀ (k : Nat) (u : Value) (x : List Int), vs[k]? = some u → xss[k]? = some x → IntsIn S w u x

abbrev anyBlock (_ : Nat) : Prop := True
abbrev Ints (w : World) (v : Value) (xs : List Int) : Prop := IntsIn anyBlock w v xs
abbrev Strs (w : World) (v : Value) (xs : List (List UInt8)) : Prop := StrsIn anyBlock w v xs
abbrev Rows (w : World) (v : Value) (xss : List (List Int)) : Prop := RowsIn anyBlock w v xss

theorem RowsIn.mono {S S' : Nat → Prop} {w : World} {v : Value} {xss : List (List Int)} (h : RowsIn S w v xss) (hs : ∀ b, b < w.heap.size → S b → S' b) : RowsIn S' w v xss := by
  obtain ⟨vs, h1, h2, h3⟩ := h
  exact ⟨vs, h1.mono hs, h2, fun k u x hu hx => (h3 k u x hu hx).mono hs⟩
theorem RowsIn.keep {S : Nat → Prop} {w w' : World} {v : Value} {xss : List (List Int)} (h : RowsIn S w v xss) (hk : ∀ b, b < w.heap.size → S b → w'.heap[b]? = w.heap[b]?) : RowsIn S w' v xss := by
  obtain ⟨vs, h1, h2, h3⟩ := h
  exact ⟨vs, h1.keep hk, h2, fun k u x hu hx => SliceIn.keep (h3 k u x hu hx) hk⟩
theorem RowsIn.below {S : Nat → Prop} {w w' : World} {v : Value} {xss : List (List Int)} (h : RowsIn S w v xss) (hb : Below w.heap.size w w') : RowsIn S w' v xss :=
  h.keep (fun b hl _ => hb.block b hl)
theorem RowsIn.any {S : Nat → Prop} {w : World} {v : Value} {xss : List (List Int)} (h : RowsIn S w v xss) : Rows w v xss := h.mono (fun _ _ _ => trivial)
theorem IntsIn.any {S : Nat → Prop} {w : World} {v : Value} {xs : List Int} (h : IntsIn S w v xs) : Ints w v xs := h.mono (fun _ _ _ => trivial)
theorem IntsIn.below {S : Nat → Prop} {w w' : World} {v : Value} {xs : List Int} (h : IntsIn S w v xs) (hb : Below w.heap.size w w') : IntsIn S w' v xs := SliceIn.below h hb
theorem StrsIn.below {S : Nat → Prop} {w w' : World} {v : Value} {xs : List (List UInt8)} (h : StrsIn S w v xs) (hb : Below w.heap.size w w') : StrsIn S w' v xs := SliceIn.below h hb

/-- What a slice of numbers is, laid open for a walk. -/
theorem IntsIn.open_ {S : Nat → Prop} {w : World} {v : Value} {xs : List Int} (h : IntsIn S w v xs) :
    ∃ a cap, v = .slice a xs.length cap ∧ (xs.length ≤ cap ∧ (a = none → cap = 0)) ∧ (0 < xs.length → ∃ b off, a = some ⟨b, off, none⟩ ∧ S b ∧ b < w.heap.size ∧ ∀ k, k < xs.length → w.cell? ⟨b, off + k, none⟩ = some (.int .i64 (xs[k]?.getD 0))) := by
  obtain ⟨a, cap, e, hc, hx⟩ := h
  simp only [List.length_map] at e hc hx
  refine ⟨a, cap, e, hc, fun h0 => ?_⟩
  obtain ⟨b, off, e1, e2, e3⟩ := hx h0
  have e4 : ∀ k, k < xs.length → w.cell? ⟨b, off + k, none⟩ = some (.int .i64 (xs[k]?.getD 0)) := fun k hk => e3 k _ (by simp [hk])
  exact ⟨b, off, e1, e2, cell_lt (e4 0 h0), e4⟩
theorem StrsIn.open_ {S : Nat → Prop} {w : World} {v : Value} {xs : List (List UInt8)} (h : StrsIn S w v xs) :
    ∃ a cap, v = .slice a xs.length cap ∧ (xs.length ≤ cap ∧ (a = none → cap = 0)) ∧ (0 < xs.length → ∃ b off, a = some ⟨b, off, none⟩ ∧ S b ∧ b < w.heap.size ∧ ∀ k, k < xs.length → w.cell? ⟨b, off + k, none⟩ = some (encStr (xs[k]?.getD []))) := by
  obtain ⟨a, cap, e, hc, hx⟩ := h
  simp only [List.length_map] at e hc hx
  refine ⟨a, cap, e, hc, fun h0 => ?_⟩
  obtain ⟨b, off, e1, e2, e3⟩ := hx h0
  have e4 : ∀ k, k < xs.length → w.cell? ⟨b, off + k, none⟩ = some (encStr (xs[k]?.getD [])) := fun k hk => e3 k _ (by simp [hk])
  exact ⟨b, off, e1, e2, cell_lt (e4 0 h0), e4⟩
theorem RowsIn.open_ {S : Nat → Prop} {w : World} {v : Value} {xss : List (List Int)} (h : RowsIn S w v xss) :
    ∃ a cap, v = .slice a xss.length cap ∧ (xss.length ≤ cap ∧ (a = none → cap = 0)) ∧ (0 < xss.length → ∃ b off, a = some ⟨b, off, none⟩ ∧ S b ∧ b < w.heap.size ∧
      ∀ k, k < xss.length → ∃ a' cap', w.cell? ⟨b, off + k, none⟩ = some (.slice a' (xss[k]?.getD []).length cap') ∧ IntsIn S w (.slice a' (xss[k]?.getD []).length cap') (xss[k]?.getD [])) := by
  obtain ⟨vs, ⟨a, cap, e, hc, hx⟩, hl, hr⟩ := h
  rw [hl] at e hc hx
  refine ⟨a, cap, e, hc, fun h0 => ?_⟩
  obtain ⟨b, off, e1, e2, e3⟩ := hx h0
  have e4 : ∀ k, k < xss.length → ∃ a' cap', w.cell? ⟨b, off + k, none⟩ = some (.slice a' (xss[k]?.getD []).length cap') ∧ IntsIn S w (.slice a' (xss[k]?.getD []).length cap') (xss[k]?.getD []) := fun k hk => by
    have hv : vs[k]? = some vs[k] := List.getElem?_eq_getElem (by omega)
    have hi := hr k _ xss[k] hv (List.getElem?_eq_getElem hk)
    have he : xss[k]?.getD [] = xss[k] := by simp [hk]
    obtain ⟨a', cap', ev, _⟩ := hi.open_
    rw [he]
    refine ⟨a', cap', ?_, ?_⟩
    · rw [e3 k _ hv, ev]
    · rw [← ev]; exact hi
  obtain ⟨_, _, c0, _⟩ := e4 0 h0
  exact ⟨b, off, e1, e2, cell_lt c0, e4⟩

/-- What the call's own row holds reads as a slice. -/
theorem slice_of_owns {S : Nat → Prop} {w : World} {base : Nat} {e : TypeId} {v : Value} {n : Nat} {cs : List Value} (h : w.ownsRow base e 1 v n cs) (hs : ∀ b, base ≤ b → v.ownBlock = some b → S b) : SliceIn S w v cs := by
  obtain ⟨hl, hr⟩ := h
  have hn : cs.length = n := by simpa using hl
  rcases hr with ⟨rfl, rfl⟩ | ⟨g, cap, cur, rfl, hb, hh, h1, h2, h3, h4⟩
  · have : cs = [] := List.length_eq_zero_iff.1 hn
    subst this
    exact SliceIn.nil S w
  · refine ⟨some ⟨g, 0, none⟩, cap, by rw [hn], ⟨by omega, fun h => by cases h⟩, fun _ => ⟨g, 0, rfl, hs g hb rfl, fun k u hu => ?_⟩⟩
    have h4' : cs = cur.toList.take n := by rw [← h4]; simp
    rw [h4', List.getElem?_take] at hu
    split at hu
    · simp only [World.cell?, hh, Nat.zero_add]
      simpa using hu
    · cases hu

/-- The first k of a slice. -/
theorem SliceIn.upto {S : Nat → Prop} {w : World} {a : Option Addr} {n cap : Nat} {cs : List Value} (h : SliceIn S w (.slice a n cap) cs) {k : Nat} (hk : k ≤ cs.length) : SliceIn S w (.slice a k cap) (cs.take k) := by
  obtain ⟨a', cap', e, ⟨hc, hn⟩, hx⟩ := h
  cases e
  refine ⟨a, cap, by simp [Nat.min_eq_left hk], ⟨by simp; omega, hn⟩, fun h0 => ?_⟩
  obtain ⟨b, off, e1, e2, e3⟩ := hx (by simp at h0; omega)
  refine ⟨b, off, e1, e2, fun j u hu => e3 j u ?_⟩
  rw [List.getElem?_take] at hu
  split at hu
  · exact hu
  · cases hu

/-- What is behind the first k of a slice. -/
theorem SliceIn.behind {S : Nat → Prop} {w : World} {a : Option Addr} {n cap : Nat} {cs : List Value} (h : SliceIn S w (.slice a n cap) cs) {k : Nat} (hk : k ≤ cs.length) :
    SliceIn S w (.slice (if cap = k then a else a.map (fun p => p.add k)) (n - k) (cap - k)) (cs.drop k) := by
  obtain ⟨a', cap', e, ⟨hc, hn⟩, hx⟩ := h
  cases e
  refine ⟨(if cap = k then a else a.map (fun p => p.add k)), cap - k, by rw [List.length_drop], ⟨by rw [List.length_drop]; omega, fun h => ?_⟩, fun h0 => ?_⟩
  · cases a with
    | none => rw [hn rfl]; simp
    | some p => by_cases e : cap = k <;> simp [e] at h
  · simp at h0
    obtain ⟨b, off, e1, e2, e3⟩ := hx (by omega)
    subst e1
    refine ⟨b, off + k, ?_, e2, fun j u hu => ?_⟩
    · rw [if_neg (by omega), Option.map_some, Addr.add_lit]
    · rw [List.getElem?_drop] at hu
      have := e3 (k + j) u hu
      rw [Nat.add_assoc]; exact this

theorem SliceIn.behind_some {S : Nat → Prop} {w : World} {b o n cap : Nat} {cs : List Value} (h : SliceIn S w (.slice (some ⟨b, o, none⟩) n cap) cs) {k : Nat} (hk : k ≤ cs.length) :
    SliceIn S w (.slice (if cap = k then some ⟨b, o, none⟩ else some ⟨b, o + k, none⟩) (n - k) (cap - k)) (cs.drop k) := by
  have := h.behind hk
  rw [Option.map_some, Addr.add_lit] at this
  exact this

theorem SliceIn.behind_at {S : Nat → Prop} {w : World} {b o n cap : Nat} {cs : List Value} (h : SliceIn S w (.slice (some ⟨b, o, none⟩) n cap) cs) {k : Nat} (hk : k ≤ cs.length) :
    SliceIn S w (.slice (some ⟨b, o + k, none⟩) (n - k) (cap - k)) (cs.drop k) := by
  obtain ⟨a', cap', e, ⟨hc, hn⟩, hx⟩ := h
  cases e
  refine ⟨some ⟨b, o + k, none⟩, cap - k, by rw [List.length_drop], ⟨by rw [List.length_drop]; omega, fun h => by cases h⟩, fun h0 => ?_⟩
  simp at h0
  obtain ⟨b', off, e1, e2, e3⟩ := hx (by omega)
  cases e1
  refine ⟨b, o + k, rfl, e2, fun j u hu => ?_⟩
  rw [List.getElem?_drop] at hu
  have := e3 (k + j) u hu
  rw [Nat.add_assoc]; exact this

theorem SliceIn.empty {S : Nat → Prop} {w : World} {a : Option Addr} {m cap : Nat} {cs : List Value} (hn : a = none → cap = 0) (hm : m = 0) (hc : cs = []) : SliceIn S w (.slice a m cap) cs := by
  subst hm; subst hc
  exact ⟨a, cap, rfl, ⟨Nat.zero_le _, hn⟩, fun h => absurd h (by simp)⟩

/-- A slice is appended onto a row of the call's own. -/
theorem wpList_append_slice {P : Program} {w : World} {ops : Array Oper} {rest : List Oper} {o : Oper} {a : Act} {Q : Exit → Act → World → Prop} (hgd : o.guard = none) (s x : Operand) (t : TypeId)
    (ho : o.op = .call { callee := .builtin .append, args := #[s, x], argTypes := #[t, t] })
    (base : Nat) (e : TypeId) (i : TypeInfo) (z : Value) (bytes : Nat) (ht : P.underlying t = some (.slice e)) (hi : P.info? e = some i) (hz : i.zero = some z)
    (hsize : i.size = 1) (hby : i.bytes = bytes) (hzs : z.cells.size = 1)
    (v : Value) (n : Nat) (xs : List Value) (hs : a.eval s = v) (hown : w.ownsRow base e 1 v n xs)
    {S : Nat → Prop} (u : Value) (news : List Value) (hx : a.eval x = u) (hu : SliceIn S w u news) (h1 : ∀ c ∈ news, c.oneCell' = true)
    (hbytes : (n + news.length) * bytes ≤ 140737488355328) (h63 : n + news.length ≤ maxLen) (hbase : base ≤ w.heap.size)
    (h : ∀ v' w', w'.ownsRow base e 1 v' (n + news.length) (xs ++ news) → w.grownBy w' v.ownBlock → (v'.ownBlock = v.ownBlock ∨ v'.ownBlock = some w.heap.size) → wpList P ops Q rest (a.put o.dst v') w') : wpList P ops Q (o :: rest) a w := by
  obtain ⟨ao, cap, rfl, ⟨hc, hn⟩, hcs⟩ := hu
  cases ao with
  | none =>
    obtain rfl := hn rfl
    have hnil : news = [] := List.eq_nil_of_length_eq_zero (by omega)
    subst hnil
    refine wpList_append_own_none hgd s x t ho base e i 1 ht hi v n xs hs hown (by simpa using hx) ?_
    exact h v w (by simpa using hown) ⟨rfl, rfl, rfl, Nat.le_refl _, fun _ _ _ => rfl⟩ (.inl rfl)
  | some ad =>
    refine wpList_append_own_at w hgd s x t ho base e i z 1 bytes ht hi hz hsize hby hzs (by decide) v n xs hs hown ad news.length cap news hx (by simp) (fun j c hj => ?_) h1 h63 hbytes hbase (fun v' w' h2 h3 _ h5 => h v' w' h2 h3 h5)
    have hl : 0 < news.length := by
      have := (List.getElem?_eq_some_iff.1 hj).1
      omega
    obtain ⟨b, off, e1, _, e3⟩ := hcs hl
    cases e1
    rw [Addr.add_lit]
    exact e3 j c hj

theorem ints_one (xs : List Int) : ∀ c ∈ xs.map (Value.int .i64), c.oneCell' = true := fun c hc => by
  obtain ⟨x, _, rfl⟩ := List.mem_map.1 hc
  rfl

theorem slice_one (w : World) (x : Value) (t : TypeId) : SliceIn anyBlock (w.alloc (.cells #[x] t)) (.slice (some ⟨w.heap.size, 0, none⟩) 1 1) [x] :=
  ⟨_, _, rfl, ⟨Nat.le_refl _, fun h => by cases h⟩, fun _ => ⟨w.heap.size, 0, rfl, trivial, fun k u hu => by
    have := cell_one_new w x t k u hu
    rw [Addr.add_lit] at this
    exact this⟩⟩

theorem Below.grownBy {w w' : World} (h : Below w.heap.size w w') : w.grownBy w' none := ⟨h.os, h.tape, h.output, h.size, fun k hk _ => h.block k hk⟩

/-- A row of the call's own whose elements are slices of numbers that lie in other rows. -/
def OwnRows (base : Nat) (w : World) (v : Value) (xss : List (List Int)) : Prop :=
  ∃ vs : List Value, w.ownsRow base 23 1 v xss.length vs ∧ ∀ (k : Nat) (u : Value) (x : List Int), vs[k]? = some u → xss[k]? = some x → IntsIn (fun b => base ≤ b ∧ some b ≠ v.ownBlock) w u x

theorem OwnRows.nil (base : Nat) (w : World) : OwnRows base w (.slice none 0 0) [] := ⟨[], World.ownsRow_nil _ _ _ _, fun k u x hu => by simp at hu⟩
theorem OwnRows.below {base : Nat} {w w' : World} {v : Value} {xss : List (List Int)} (h : OwnRows base w v xss) (hB : Below w.heap.size w w') : OwnRows base w' v xss := by
  obtain ⟨vs, h1, h2⟩ := h
  exact ⟨vs, h1.kept (Below.grownBy hB) (by cases v.ownBlock <;> simp), fun k u x hu hx => (h2 k u x hu hx).below hB⟩
theorem OwnRows.rows {base : Nat} {w : World} {v : Value} {xss : List (List Int)} (h : OwnRows base w v xss) : Rows w v xss := by
  obtain ⟨vs, h1, h2⟩ := h
  exact ⟨vs, slice_of_owns h1 (fun _ _ _ => trivial), by have := h1.1; simpa using this, fun k u x hu hx => (h2 k u x hu hx).any⟩
theorem OwnRows.block {base : Nat} {w : World} {v : Value} {xss : List (List Int)} (h : OwnRows base w v xss) {b : Nat} (hb : v.ownBlock = some b) : base ≤ b ∧ b < w.heap.size := by
  obtain ⟨vs, h1, _⟩ := h
  exact h1.lt b hb
/-- One more row, behind its append. -/
theorem OwnRows.push {base : Nat} {w w3 : World} {v v' u : Value} {xss : List (List Int)} {x : List Int} {vs : List Value} {o : Obj}
    (h1 : w.ownsRow base 23 1 v xss.length vs) (h2 : ∀ (k : Nat) (u : Value) (x : List Int), vs[k]? = some u → xss[k]? = some x → IntsIn (fun b => base ≤ b ∧ some b ≠ v.ownBlock) w u x)
    (hu : IntsIn (fun b => base ≤ b ∧ some b ≠ v.ownBlock) w u x) (hown : w3.ownsRow base 23 1 v' (xss.length + 1) (vs ++ [u])) (hg : (w.alloc o).grownBy w3 v.ownBlock) (hl : v'.ownBlock = v.ownBlock ∨ v'.ownBlock = some (w.alloc o).heap.size) :
    OwnRows base w3 v' (xss ++ [x]) := by
  have key : ∀ {u : Value} {x : List Int}, IntsIn (fun b => base ≤ b ∧ some b ≠ v.ownBlock) w u x → IntsIn (fun b => base ≤ b ∧ some b ≠ v'.ownBlock) w3 u x := fun {u x} h => by
    have h' : IntsIn (fun b => base ≤ b ∧ some b ≠ v.ownBlock ∧ some b ≠ v'.ownBlock) w u x := SliceIn.mono h (fun b hb hne => ⟨hne.1, hne.2, fun e => by
      rcases hl with hl | hl
      · exact hne.2 (e.trans hl)
      · rw [hl] at e; simp at e; omega⟩)
    have h'' : IntsIn (fun b => base ≤ b ∧ some b ≠ v.ownBlock ∧ some b ≠ v'.ownBlock) w3 u x := SliceIn.keep h' (fun b hb hne => by
      rw [hg.block b (by simp; omega) hne.2.1]
      exact (World.grownBy_alloc w o none).block b hb (by simp))
    exact SliceIn.mono h'' (fun b _ hne => ⟨hne.1, hne.2.2⟩)
  have hvl : vs.length = xss.length := by have := h1.1; simpa using this
  refine ⟨vs ++ [u], by simpa using hown, fun k u' x' hu' hx' => ?_⟩
  rw [List.getElem?_append] at hu' hx'
  rw [hvl] at hu'
  by_cases hk : k < xss.length
  · rw [if_pos hk] at hu' hx'
    exact key (h2 k u' x' hu' hx')
  · rw [if_neg hk] at hu' hx'
    have h0 : k - xss.length = 0 := by
      rcases Nat.eq_zero_or_pos (k - xss.length) with h | h
      · exact h
      · rw [List.getElem?_eq_none (by simp; omega)] at hu'; cases hu'
    rw [h0] at hu' hx'
    simp at hu' hx'
    subst hu'; subst hx'
    exact key hu

theorem Tryz.info3 : (Tryz.prog.info? 3).map (fun i => (i.zero, i.size, i.bytes)) = some (some (.int .i64 0), 1, 8) := by kernel_rfl
theorem Tryz.info23 : (Tryz.prog.info? 23).map (fun i => (i.zero, i.size, i.bytes)) = some (some (.slice none 0 0), 1, 24) := by kernel_rfl
theorem Tryz.info9 : (Tryz.prog.info? 9).map (fun i => (i.zero, i.size, i.bytes)) = some (some (.string ⟨#[]⟩), 1, 16) := by kernel_rfl
theorem Tryz.info5 : (Tryz.prog.info? 5).map (fun i => (i.zero, i.size, i.bytes)) = some (some (.int .u8 0), 1, 1) := by kernel_rfl

end Go.Proofs.YthmjdfjchhohgaaGreatDoor
