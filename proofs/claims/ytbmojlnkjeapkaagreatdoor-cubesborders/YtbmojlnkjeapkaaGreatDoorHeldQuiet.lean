/- Rows and slices of squares, each of two cells. A slice appended onto a row of another slice type with the same elements: as onto one of its own type. A region that draws its order, whose operations read and whose callees lay memory of their own: walked once, in the order of the text, in the class of the worlds that keep what was there. -/
import Derived.Test.YtbmojlnkjeapkaaGreatDoorCubeMaps
import Derived.Test.YtbmojlnkjeapkaaGreatDoorBase
import Derived.Laws.OwnMore
import Derived.BigQuiet
import Derived.Deep.QuietTactic
namespace Go.Proofs.YtbmojlnkjeapkaaGreatDoor
open Go.RowKit Go.Sort Go.Maps

theorem Tryz.info59 : (Tryz.prog.info? 59).map (fun i => (i.zero, i.size, i.bytes)) = some (some (.agg #[.int .i64 0, .int .i64 0]), 2, 16) := by kernel_rfl

/-- The cells of squares, one behind the other. -/
def sqCells (l : List Sq) : List Value := l.flatMap fun a => [.int .i64 a.1, .int .i64 a.2]
theorem sqCells_snoc (l : List Sq) (a : Sq) : sqCells (l ++ [a]) = sqCells l ++ [.int .i64 a.1, .int .i64 a.2] := by simp [sqCells]
theorem sqCells_at {l : List Sq} : ∀ {k : Nat} (hk : k < l.length), (sqCells l)[k * 2]? = some (.int .i64 l[k].1) ∧ (sqCells l)[k * 2 + 1]? = some (.int .i64 l[k].2) := by
  induction l with
  | nil => intro k hk; simp at hk
  | cons a l ih =>
    intro k hk
    cases k with
    | zero => simp [sqCells]
    | succ k =>
      have := ih (k := k) (by simpa using hk)
      rw [show (k + 1) * 2 = k * 2 + 2 by omega]
      simpa [sqCells] using this

/-- A row of the call's own that holds these squares. -/
def SqRow (base : Nat) (W : World) (v : Value) (l : List Sq) : Prop := W.ownsRow base 59 2 v l.length (sqCells l)
/-- .. whatever the elements' type. -/
def SqRowT (base : Nat) (t : TypeId) (W : World) (v : Value) (l : List Sq) : Prop := W.ownsRow base t 2 v l.length (sqCells l)

/-- A slice that reads as these squares, in a block of S. -/
def SqIn (S : Nat → Prop) (W : World) (v : Value) (l : List Sq) : Prop :=
  ∃ a cap, v = .slice a l.length cap ∧ (0 < l.length → ∃ g, a = some ⟨g, 0, none⟩ ∧ S g ∧ g < W.heap.size ∧ ∀ k (hk : k < l.length), W.cell? ⟨g, k * 2, none⟩ = some (.int .i64 l[k].1) ∧ W.cell? ⟨g, k * 2 + 1, none⟩ = some (.int .i64 l[k].2))

theorem SqRowT.reads {base : Nat} {t : TypeId} {W : World} {v : Value} {l : List Sq} {S : Nat → Prop} (h : SqRowT base t W v l) (hS : ∀ b, base ≤ b → v.ownBlock = some b → S b) : SqIn S W v l := by
  rcases h.2 with ⟨rfl, hn⟩ | ⟨g, cap, cur, rfl, hb, hg, _⟩
  · exact ⟨none, 0, by rw [hn], fun h0 => by omega⟩
  · refine ⟨some ⟨g, 0, none⟩, cap, rfl, fun _ => ⟨g, rfl, hS g hb rfl, (Array.getElem?_eq_some_iff.1 hg).1, fun k hk => ?_⟩⟩
    have h1 := sqCells_at hk
    have h2 := World.ownsRow.cells h (g := g) rfl _ _ h1.1
    have h3 := World.ownsRow.cells h (g := g) rfl _ _ h1.2
    rw [Addr.add_lit, Nat.zero_add] at h2 h3
    exact ⟨h2, h3⟩

theorem SqRow.reads {base : Nat} {W : World} {v : Value} {l : List Sq} {S : Nat → Prop} (h : SqRow base W v l) (hS : ∀ b, base ≤ b → v.ownBlock = some b → S b) : SqIn S W v l := SqRowT.reads (t := 59) h hS

theorem SqIn.keep {S : Nat → Prop} {W W' : World} {v : Value} {l : List Sq} (h : SqIn S W v l) (hs : W.heap.size ≤ W'.heap.size) (hk : ∀ b, b < W.heap.size → S b → W'.heap[b]? = W.heap[b]?) : SqIn S W' v l := by
  obtain ⟨a, cap, e, h1⟩ := h
  refine ⟨a, cap, e, fun h0 => ?_⟩
  obtain ⟨g, e1, e2, e3, e4⟩ := h1 h0
  refine ⟨g, e1, e2, by omega, fun k hk' => ?_⟩
  have hb := hk g e3 e2
  exact ⟨(World.cell?_of_block hb).trans (e4 k hk').1, (World.cell?_of_block hb).trans (e4 k hk').2⟩
theorem SqIn.below {S : Nat → Prop} {W W' : World} {v : Value} {l : List Sq} (h : SqIn S W v l) (hB : Below W.heap.size W W') : SqIn S W' v l := h.keep hB.size (fun b hb _ => hB.block b hb)
theorem SqIn.mono {S S' : Nat → Prop} {W : World} {v : Value} {l : List Sq} (h : SqIn S W v l) (hs : ∀ b, b < W.heap.size → S b → S' b) : SqIn S' W v l := by
  obtain ⟨a, cap, e, h1⟩ := h
  refine ⟨a, cap, e, fun h0 => ?_⟩
  obtain ⟨g, e1, e2, e3, e4⟩ := h1 h0
  exact ⟨g, e1, hs g e3 e2, e3, e4⟩

theorem SqRowT.below {base : Nat} {t : TypeId} {W W' : World} {v : Value} {l : List Sq} (h : SqRowT base t W v l) (hB : Below W.heap.size W W') : SqRowT base t W' v l := World.ownsRow.kept h (Below.grownBy hB) (by cases v.ownBlock <;> simp)
theorem SqRowT.lt {base : Nat} {t : TypeId} {W : World} {v : Value} {l : List Sq} (h : SqRowT base t W v l) {b : Nat} (hb : v.ownBlock = some b) : base ≤ b ∧ b < W.heap.size := World.ownsRow.lt h b hb
theorem SqRow.nil (base : Nat) (W : World) : SqRow base W (.slice none 0 0) [] := World.ownsRow_nil _ _ _ _
theorem SqRow.keep {base : Nat} {W W' : World} {v : Value} {l : List Sq} {row : Option Nat} (h : SqRow base W v l) (hg : W.grownBy W' row) (hne : ∀ b, v.ownBlock = some b → row ≠ some b) : SqRow base W' v l := by
  refine World.ownsRow.kept h hg ?_
  cases e : v.ownBlock with
  | none => exact .inl rfl
  | some b => exact .inr fun h => hne b e h.symm
theorem SqRow.lt {base : Nat} {W : World} {v : Value} {l : List Sq} (h : SqRow base W v l) {b : Nat} (hb : v.ownBlock = some b) : base ≤ b ∧ b < W.heap.size := World.ownsRow.lt h b hb

end Go.Proofs.YtbmojlnkjeapkaaGreatDoor

namespace Go.Proofs.YtbmojlnkjeapkaaGreatDoor
open Go.RowKit Go.Sort

theorem append_types {P : Program} {t u ty e e' : TypeId} (ht : P.underlying t = some (.slice e)) (hu : P.underlying u = some (.slice e')) (a : Option Addr) (n c : Nat) (x : Value) (w : World) : (Builtin.append_ #[t, u] ty #[.slice a n c, x]).run P w = (Builtin.append_ #[t, t] ty #[.slice a n c, x]).run P w := by
  unfold Builtin.append_
  simp [go_sem, run_underlying ht, run_underlying hu, sizeOf]

theorem own_slice {W : World} {base : Nat} {t : TypeId} {k : Nat} {v : Value} {n : Nat} {xs : List Value} (h : W.ownsRow base t k v n xs) : ∃ a cap, v = .slice a n cap := by
  rcases h.2 with ⟨rfl, rfl⟩ | ⟨g, cap, cur, rfl, _⟩
  · exact ⟨_, _, rfl⟩
  · exact ⟨_, _, rfl⟩

/-- As wpList_append_slice, of two types. -/
theorem wpList_append_slice2 {P : Program} {w : World} {ops : Array Oper} {rest : List Oper} {o : Oper} {a : Act} {Q : Exit → Act → World → Prop} (hgd : o.guard = none) (s x : Operand) (t u' e' : TypeId) (hu' : P.underlying u' = some (.slice e'))
    (ho : o.op = .call { callee := .builtin .append, args := #[s, x], argTypes := #[t, u'] })
    (base : Nat) (e : TypeId) (i : TypeInfo) (z : Value) (bytes : Nat) (ht : P.underlying t = some (.slice e)) (hi : P.info? e = some i) (hz : i.zero = some z)
    (hsize : i.size = 1) (hby : i.bytes = bytes) (hzs : z.cells.size = 1)
    (v : Value) (n : Nat) (xs : List Value) (hs : a.eval s = v) (hown : w.ownsRow base e 1 v n xs)
    {S : Nat → Prop} (u : Value) (news : List Value) (hx : a.eval x = u) (hu : SliceIn S w u news) (h1 : ∀ c ∈ news, c.oneCell' = true)
    (hbytes : (n + news.length) * bytes ≤ 140737488355328) (h63 : n + news.length ≤ maxLen) (hbase : base ≤ w.heap.size)
    (h : ∀ v' w', w'.ownsRow base e 1 v' (n + news.length) (xs ++ news) → w.grownBy w' v.ownBlock → (v'.ownBlock = v.ownBlock ∨ v'.ownBlock = some w.heap.size) → wpList P ops Q rest (a.put o.dst v') w') : wpList P ops Q (o :: rest) a w := by
  obtain ⟨av, cv, rfl⟩ := own_slice hown
  obtain ⟨ao, cap, rfl, ⟨hc, hn⟩, hcs⟩ := hu
  refine wpList_plain hgd fun K hK => ?_
  cases ao with
  | none =>
    obtain rfl := hn rfl
    have hnil : news = [] := List.eq_nil_of_length_eq_zero (by omega)
    subst hnil
    have hr := run_append_owned_none (P := P) (w := w) base t o.type e i 1 ht hi _ n xs hown
    rw [← append_types (u := u') ht hu'] at hr
    unfold Oper.wp execOp
    simp only [ho, resolve, invoke, builtin, Sem.run_bind, Sem.run_pure, Result.andThen_ok, List.map_toArray, List.map_cons, List.map_nil, hs, hx, List.length_nil, hr]
    exact hK _ _ (h _ w (by simpa using hown) ⟨rfl, rfl, rfl, Nat.le_refl _, fun _ _ _ => rfl⟩ (.inl rfl))
  | some ad =>
    obtain ⟨v', w', hr, h2, h3, h4, h5⟩ := run_append_own_at (P := P) w base t o.type e i z 1 bytes ht hi hz hsize hby hzs (by decide) _ n xs hown ad news.length cap news (by simp) (fun j c hj => by
      have hl : 0 < news.length := by
        have := (List.getElem?_eq_some_iff.1 hj).1
        omega
      obtain ⟨b, off, e1, _, e3⟩ := hcs hl
      cases e1
      rw [Addr.add_lit]
      exact e3 j c hj) h1 h63 hbytes hbase
    rw [← append_types (u := u') ht hu'] at hr
    unfold Oper.wp execOp
    simp only [ho, resolve, invoke, builtin, Sem.run_bind, Sem.run_pure, Result.andThen_ok, List.map_toArray, List.map_cons, List.map_nil, hs, hx, hr]
    exact hK _ _ (h v' w' h2 h3 h5)

end Go.Proofs.YtbmojlnkjeapkaaGreatDoor

namespace Go.Proofs.YtbmojlnkjeapkaaGreatDoor
open Go.RowKit

/-- A world that keeps what was there. -/
structure WIn (W : World) where
  w : World
  ok : Below W.heap.size W w

instance (W : World) : Nonempty (WIn W) := ⟨⟨W, Below.refl _ W⟩⟩

theorem region_in {P : Program} {id : Nat} {Q : Exit → Act → World → Prop} {a : Act} {w : World} {l : List Oper} (hm : P.follows .mixedOrders = true) (hB : Region.lexB .any l.toArray = true)
    (h : wpQuiet P l.toArray (fun w' => ∃ n : WIn w, w' = n.w) (fun a' => ∀ w', (∃ n : WIn w, w' = n.w) → Q .normal a' w') l a) : (Code.region id l.toArray true).wp P Q a w :=
  wp_region_quiet (C := fun w' => ∃ n : WIn w, w' = n.w) hm hB ⟨⟨w.drew, (Below.refl _ w).drew⟩, rfl⟩ (by simpa using h)

/-- A callee's contract as such a region asks for it. -/
theorem call_in {P : Program} {f : FuncId} {args : Array Value} {W : World} {v : Value} (n : WIn W) (h : Calls P f args n.w fun e w' => e = .returned v ∧ Below n.w.heap.size n.w w') : Calls P f args n.w fun e w'' => e = .returned v ∧ ∃ k : WIn W, w'' = k.w :=
  h.mono fun _ V k => ⟨k.1, ⟨V, n.ok.trans (k.2.mono n.ok.size)⟩, rfl⟩

end Go.Proofs.YtbmojlnkjeapkaaGreatDoor
