/- Maps whose keys are corners or edges: which keys they hold; what number does to them; a step that appends what takes more than one cell. -/
import Derived.Test.YtbmojlnkjeapkaaGreatDoorCubeMath3
namespace Go.Proofs.YtbmojlnkjeapkaaGreatDoor
open Go.RowKit Go.Sort Go.Maps

/-- An append onto a row of the call's own, of elements of any size, at a step of a region that draws its order. -/
theorem step_append_wide {P : Program} {w : World} {ops : Array Oper} {o : Oper} {a : Act} {K : Act → World → Prop} {Q : Exit → Act → World → Prop} {E : Prop} (hgd : o.guard = none) (s x : Operand) (t : TypeId)
    (ho : o.op = .call { callee := .builtin .append, args := #[s, x], argTypes := #[t, t] })
    (base : Nat) (e : TypeId) (i : TypeInfo) (z : Value) (size bytes : Nat) (ht : P.underlying t = some (.slice e)) (hi : P.info? e = some i) (hz : i.zero = some z)
    (hsize : i.size = size) (hby : i.bytes = bytes) (hzs : z.cells.size = size) (hsz : 0 < size) (v : Value) (n : Nat) (xs : List Value) (hs : a.eval s = v) (hown : w.ownsRow base e size v n xs)
    (ad : Addr) (m c : Nat) (news : List Value) (hx : a.eval x = .slice (some ad) m c) (hl : news.length = m * size) (hnews : ∀ j u, news[j]? = some u → w.cell? (ad.add j) = some u) (h1 : ∀ u ∈ news, u.oneCell' = true)
    (h63 : n + m ≤ maxLen) (hbytes : (n + m) * bytes ≤ 140737488355328) (hbase : base ≤ w.heap.size)
    (h : ∀ v' w', w'.ownsRow base e size v' (n + m) (xs ++ news) → w.grownBy w' v.ownBlock → (v'.ownBlock = v.ownBlock ∨ v'.ownBlock = some w.heap.size) → K (a.put o.dst v') w') :
    if Region.wanted o (yielded ops a.tmps) = true then Oper.wp P o a w K Q else E := by
  have hw : Region.wanted o (yielded ops a.tmps) = true := by simp [Region.wanted, hgd]
  rw [if_pos hw]
  obtain ⟨v', w', hr, h2, h3, -, h4⟩ := run_append_own_at (P := P) w base t o.type e i z size bytes ht hi hz hsize hby hzs hsz v n xs hown ad m c news hl hnews h1 h63 hbytes hbase
  unfold Oper.wp execOp
  simp only [ho, resolve, invoke, builtin, Sem.run_bind, Sem.run_pure, Result.andThen_ok, List.map_toArray, List.map_cons, List.map_nil, hs, hx, hr]
  exact h v' w' h2 h3 h4

theorem cells_new (w : World) (L : List Value) (t : TypeId) : ∀ j u, L[j]? = some u → (w.alloc (.cells L.toArray t)).cell? ((⟨w.heap.size, 0, none⟩ : Addr).add j) = some u := fun j u hu => by
  rw [Addr.add_lit]
  simpa using hu

theorem far_c {w w' : World} {row : Option Nat} (hg : w.grownBy w' row) (a : Addr) (hlt : a.block < w.heap.size) (hne : some a.block ≠ row) : w'.cell? a = w.cell? a := World.cell?_of_block (hg.block a.block hlt hne)
theorem far_f {w w' : World} {row : Option Nat} (hg : w.grownBy w' row) (a : Addr) (hlt : a.block < w.heap.size) (hne : some a.block ≠ row) : w'.frozen? a = w.frozen? a := World.frozen?_of_block (hg.block a.block hlt hne)

/-- A row of the call's own, of so many elements of two cells each. -/
def OutRow (base : Nat) (t : TypeId) (W : World) (v : Value) (n : Nat) : Prop := ∃ xs, W.ownsRow base t 2 v n xs
theorem OutRow.nil (base : Nat) (t : TypeId) (W : World) : OutRow base t W (.slice none 0 0) 0 := ⟨[], World.ownsRow_nil _ _ _ _⟩
theorem OutRow.kept {base : Nat} {t : TypeId} {W W' : World} {v : Value} {n : Nat} {row : Option Nat} (h : OutRow base t W v n) (hg : W.grownBy W' row) (hne : ∀ b, v.ownBlock = some b → row ≠ some b) : OutRow base t W' v n := by
  obtain ⟨xs, h1⟩ := h
  refine ⟨xs, h1.kept hg ?_⟩
  cases e : v.ownBlock with
  | none => exact .inl rfl
  | some b => exact .inr fun h => hne b e h.symm
theorem OutRow.below {base : Nat} {t : TypeId} {W W' : World} {v : Value} {n : Nat} (h : OutRow base t W v n) (hB : Below W.heap.size W W') : OutRow base t W' v n := h.kept (Below.grownBy hB) (fun _ _ h => by cases h)
theorem OutRow.lt {base : Nat} {t : TypeId} {W : World} {v : Value} {n : Nat} (h : OutRow base t W v n) {b : Nat} (hb : v.ownBlock = some b) : base ≤ b ∧ b < W.heap.size := by
  obtain ⟨xs, h1⟩ := h
  exact h1.lt b hb

/-- Block b is a map of numbers that holds just these keys. -/
def MapAt (w : World) (kt : TypeId) (b : Nat) (L : List Lit) : Prop :=
  ∃ D : DataW Unit, w.ownsMap Tryz.prog kt (plainElem Tryz.prog 3) b L.length D ∧ (∀ x : List UInt8, Maps.has D (.string x) = true ↔ Lit.string x ∈ L) ∧ Maps.size D = L.length

theorem MapAt.kept {w w' : World} {kt : TypeId} {b : Nat} {L : List Lit} {row : Option Nat} (h : MapAt w kt b L) (hg : w.grownBy w' row) (hne : some b ≠ row) : MapAt w' kt b L := by
  obtain ⟨D, h1, h2⟩ := h
  exact ⟨D, h1.kept hg hne, h2⟩
theorem MapAt.below {w w' : World} {kt : TypeId} {b : Nat} {L : List Lit} (h : MapAt w kt b L) (hB : Below w.heap.size w w') : MapAt w' kt b L := h.kept (Below.grownBy hB) (by simp)
theorem MapAt.lt {w : World} {kt : TypeId} {b : Nat} {L : List Lit} (h : MapAt w kt b L) : b < w.heap.size := by
  obtain ⟨D, h1, _⟩ := h
  exact h1.lt
theorem MapAt.setCell {w : World} {kt : TypeId} {b : Nat} {L : List Lit} (h : MapAt w kt b L) {a : Addr} (ha : b ≠ a.block) (u : Value) : MapAt (w.setCell a u) kt b L := by
  obtain ⟨D, h1, h2⟩ := h
  exact ⟨D, h1.setCell ha u, h2⟩

theorem own_tighter {H : Type} {w : World} {P : Program} {k : TypeId} {R : Value → Option (DataW H × List MemPlace)} {b n : Nat} {D : DataW H} (h : w.ownsMap P k R b n D) {m : Nat} (hm : Maps.size D ≤ m) : w.ownsMap P k R b m D := by
  obtain ⟨es, clock, h1, h2, _, rfl⟩ := h
  exact ⟨es, clock, h1, h2, by simpa [Maps.size, length_sorted] using hm, rfl⟩

theorem map_push {w' : World} {kt : TypeId} {b n : Nat} {L : List Lit} {D : DataW Unit} {x : List UInt8} {d : DataW Unit} (hx : Lit.string x ∉ L) (hD : Tidy D) (h2 : ∀ x : List UInt8, Maps.has D (.string x) = true ↔ Lit.string x ∈ L) (h3 : Maps.size D = L.length)
    (h1 : w'.ownsMap Tryz.prog kt (plainElem Tryz.prog 3) b n (D.put (.string x) d)) : MapAt w' kt b (L ++ [.string x]) := by
  have hno : Maps.has D (.string x) = false := by
    cases e : Maps.has D (.string x)
    · rfl
    · exact absurd ((h2 x).1 e) hx
  have hsz : Maps.size (D.put (.string x) d) = (L ++ [Lit.string x]).length := by rw [size_put hD, hno]; simp [h3]
  refine ⟨_, own_tighter h1 (Nat.le_of_eq hsz), fun y => ?_, hsz⟩
  by_cases e : y = x
  · subst e; rw [has_put_same hD.isMap (show WideAt.IsKeyLit (.string y) from trivial)]; simp
  · have hne : (Lit.string y) ≠ Lit.string x := fun h => e (by cases h; rfl)
    rw [has_put_other hne, h2]; simp [hne]

/-- .. and each key with its place among them. -/
def MapIx (w : World) (kt : TypeId) (b : Nat) (L : List Lit) : Prop :=
  ∃ D : DataW Unit, w.ownsMap Tryz.prog kt (plainElem Tryz.prog 3) b L.length D ∧ (∀ x : List UInt8, Maps.has D (.string x) = true ↔ Lit.string x ∈ L) ∧ Maps.size D = L.length ∧ ∀ (k : Nat) (x : List UInt8), L[k]? = some (.string x) → D.atKey (.string x) (.lit (.int .i64 0)) = .lit (.int .i64 (k : Int))

theorem MapIx.map {w : World} {kt : TypeId} {b : Nat} {L : List Lit} (h : MapIx w kt b L) : MapAt w kt b L := by
  obtain ⟨D, h1, h2, h3, _⟩ := h
  exact ⟨D, h1, h2, h3⟩
theorem MapIx.kept {w w' : World} {kt : TypeId} {b : Nat} {L : List Lit} {row : Option Nat} (h : MapIx w kt b L) (hg : w.grownBy w' row) (hne : some b ≠ row) : MapIx w' kt b L := by
  obtain ⟨D, h1, h2⟩ := h
  exact ⟨D, h1.kept hg hne, h2⟩
theorem MapIx.below {w w' : World} {kt : TypeId} {b : Nat} {L : List Lit} (h : MapIx w kt b L) (hB : Below w.heap.size w w') : MapIx w' kt b L := h.kept (Below.grownBy hB) (by simp)
theorem MapIx.setCell {w : World} {kt : TypeId} {b : Nat} {L : List Lit} (h : MapIx w kt b L) {a : Addr} (ha : b ≠ a.block) (u : Value) : MapIx (w.setCell a u) kt b L := by
  obtain ⟨D, h1, h2⟩ := h
  exact ⟨D, h1.setCell ha u, h2⟩
theorem MapIx.lt {w : World} {kt : TypeId} {b : Nat} {L : List Lit} (h : MapIx w kt b L) : b < w.heap.size := h.map.lt

theorem ix_push {w' : World} {kt : TypeId} {b n : Nat} {L : List Lit} {D : DataW Unit} {x : List UInt8} (hx : Lit.string x ∉ L) (hD : Tidy D) (h2 : ∀ x : List UInt8, Maps.has D (.string x) = true ↔ Lit.string x ∈ L) (h3 : Maps.size D = L.length)
    (h4 : ∀ (k : Nat) (x : List UInt8), L[k]? = some (.string x) → D.atKey (.string x) (.lit (.int .i64 0)) = .lit (.int .i64 (k : Int)))
    (h1 : w'.ownsMap Tryz.prog kt (plainElem Tryz.prog 3) b n (D.put (.string x) (numD (Maps.size D)))) : MapIx w' kt b (L ++ [.string x]) := by
  obtain ⟨D', g1, g2, g3⟩ : ∃ D', w'.ownsMap Tryz.prog kt (plainElem Tryz.prog 3) b (L ++ [Lit.string x]).length D' ∧ (∀ y : List UInt8, Maps.has D' (.string y) = true ↔ Lit.string y ∈ L ++ [Lit.string x]) ∧ (Maps.size D' = (L ++ [Lit.string x]).length ∧ D' = D.put (.string x) (numD (Maps.size D))) := by
    have hno : Maps.has D (.string x) = false := by
      cases e : Maps.has D (.string x)
      · rfl
      · exact absurd ((h2 x).1 e) hx
    have hsz : Maps.size (D.put (.string x) (numD (Maps.size D))) = (L ++ [Lit.string x]).length := by rw [size_put hD, hno]; simp [h3]
    refine ⟨_, own_tighter h1 (Nat.le_of_eq hsz), fun y => ?_, hsz, rfl⟩
    by_cases e : y = x
    · subst e; rw [has_put_same hD.isMap (show WideAt.IsKeyLit (.string y) from trivial)]; simp
    · have hne : (Lit.string y) ≠ Lit.string x := fun h => e (by cases h; rfl)
      rw [has_put_other hne, h2]; simp [hne]
  refine ⟨D', g1, g2, g3.1, fun k y hk => ?_⟩
  rw [g3.2]
  by_cases hlt : k < L.length
  · rw [List.getElem?_append_left hlt] at hk
    have hne : (Lit.string y) ≠ Lit.string x := fun h => hx (h ▸ List.mem_of_getElem? hk)
    rw [atKey_put_other hne]
    exact h4 k y hk
  · rw [List.getElem?_append_right (by omega)] at hk
    have h0 : k - L.length = 0 := by
      rcases Nat.eq_zero_or_pos (k - L.length) with h | h
      · exact h
      · rw [List.getElem?_eq_none (by simp; omega)] at hk; cases hk
    rw [h0] at hk
    simp at hk
    subst hk
    rw [atKey_put_same hD.isMap (show WideAt.IsKeyLit (.string x) from trivial), h3, show k = L.length by omega]
    rfl

/-- An edge's key. -/
def keyD (e : Sq × Sq) : Lit := keyE e.1 e.2

theorem mem_keysC {l : List Sq} {a : Sq} (ha : Small a) (hl : ∀ b ∈ l, Small b) : keyC a ∈ l.map keyC ↔ a ∈ l := by
  rw [List.mem_map]
  constructor
  · rintro ⟨b, hb, e⟩
    rw [← keyC_inj (hl b hb) ha e]; exact hb
  · intro h; exact ⟨a, h, rfl⟩
theorem mem_keysE {l : List (Sq × Sq)} {a : Sq × Sq} (ha : Small a.1 ∧ Small a.2) (hl : ∀ b ∈ l, Small b.1 ∧ Small b.2) : keyD a ∈ l.map keyD ↔ a ∈ l := by
  rw [List.mem_map]
  constructor
  · rintro ⟨b, hb, e⟩
    have := keyE_inj (hl b hb).1 (hl b hb).2 ha.1 ha.2 e
    rw [← show b = a from Prod.ext this.1 this.2]; exact hb
  · intro h; exact ⟨a, h, rfl⟩

theorem number_mc (b : Nat) (l : List Sq) (a : Sq) (w : World) (hM : MapIx w 59 b (l.map keyC)) (hn : l.length ≤ 100000) (ha : Small a) (hl : ∀ b ∈ l, Small b) (hno : a ∉ l) :
    Calls Tryz.prog 50 #[.map (some b), cornerV a] w fun e w' => e = .returned (.tuple #[]) ∧ MapIx w' 59 b ((l ++ [a]).map keyC) ∧ w.grownBy w' (some b) := by
  obtain ⟨D, h1, h2, h3, h4⟩ := hM
  refine (number_c b _ D a w h1 (by rw [List.length_map]; exact hn) ha).mono ?_
  rintro e w' ⟨rfl, h6, h5⟩
  refine ⟨rfl, ?_, h5⟩
  rw [List.map_append]
  exact ix_push (fun h => hno ((mem_keysC ha hl).1 h)) (h1.tidy law_corner) h2 h3 h4 h6

theorem number_me (b : Nat) (l : List (Sq × Sq)) (a c : Sq) (w : World) (hM : MapIx w 96 b (l.map keyD)) (hn : l.length ≤ 100000) (ha : Small a) (hc : Small c) (hl : ∀ b ∈ l, Small b.1 ∧ Small b.2) (hno : (a, c) ∉ l) :
    Calls Tryz.prog 51 #[.map (some b), edgeV a c] w fun e w' => e = .returned (.tuple #[]) ∧ MapIx w' 96 b ((l ++ [(a, c)]).map keyD) ∧ w.grownBy w' (some b) := by
  obtain ⟨D, h1, h2, h3, h4⟩ := hM
  refine (number_e b _ D a c w h1 (by rw [List.length_map]; exact hn) ha hc).mono ?_
  rintro e w' ⟨rfl, h6, h5⟩
  refine ⟨rfl, ?_, h5⟩
  rw [List.map_append]
  exact ix_push (fun h => hno ((mem_keysE (a := (a, c)) ⟨ha, hc⟩ hl).1 h)) (h1.tidy law_edge) h2 h3 h4 h6

end Go.Proofs.YtbmojlnkjeapkaaGreatDoor
