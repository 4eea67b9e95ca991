/- A face is looked for in a list in order, by halves: no program is spoken of. A slice appended onto a row of another slice type with the same elements: as onto one of its own type. A slice of numbers, cell by cell; a slice of rows, head by head. What slices.BinarySearchFunc answers of faces of one dimension, in order; shape.has. What shape.has answers: is a face one of the shape's? -/
import Derived.Test.YthmjdfjchhohgaaGreatDoorIdxCmp
import Derived.Test.YthmjdfjchhohgaaGreatDoorBase
import Derived.Laws.OwnMore
import Derived.Test.YthmjdfjchhohgaaGreatDoorIdxRowBox
import Derived.Lib.SliceRun
import Derived.Deep.AppendLies
import Derived.Test.YthmjdfjchhohgaaGreatDoorGather
import Derived.Deep.Light
namespace Go.Proofs.YthmjdfjchhohgaaGreatDoor
open Go.RowKit Go.Sort

theorem cmpI_neg (x y : Int) : cmpI x y < 0 ↔ x < y := by
  unfold cmpI
  by_cases h : x < y
  · rw [if_pos h]; exact ⟨fun _ => h, fun _ => by omega⟩
  · rw [if_neg h]
    by_cases h2 : y < x
    · rw [if_pos h2]; exact ⟨fun h => by omega, fun h3 => absurd h3 h⟩
    · rw [if_neg h2]; exact ⟨fun h => by omega, fun h3 => absurd h3 h⟩
theorem cmpI_zero (x y : Int) : cmpI x y = 0 ↔ x = y := by
  unfold cmpI
  by_cases h : x < y
  · rw [if_pos h]; exact ⟨fun h => by omega, fun _ => by omega⟩
  · rw [if_neg h]
    by_cases h2 : y < x
    · rw [if_pos h2]; exact ⟨fun h => by omega, fun _ => by omega⟩
    · rw [if_neg h2]; exact ⟨fun _ => by omega, fun _ => rfl⟩
theorem cmpL_neg : ∀ {a b : List Int}, a.length = b.length → (cmpL a b < 0 ↔ ahead a b = true)
  | [], [], _ => by simp [cmpL, ahead]
  | x :: a, [], h => by simp at h
  | [], y :: b, h => by simp at h
  | x :: a, y :: b, h => by
    have h' : a.length = b.length := by simpa using h
    have ih := cmpL_neg h'
    simp only [cmpL, ahead]
    by_cases e : x = y
    · rw [if_pos ((cmpI_zero x y).2 e), if_pos e, ih]
    · rw [if_neg (fun h => e ((cmpI_zero x y).1 h)), if_neg e, cmpI_neg]; simp
theorem cmpL_zero : ∀ {a b : List Int}, a.length = b.length → (cmpL a b = 0 ↔ a = b)
  | [], [], _ => by simp [cmpL]
  | x :: a, [], h => by simp at h
  | [], y :: b, h => by simp at h
  | x :: a, y :: b, h => by
    have h' : a.length = b.length := by simpa using h
    have ih := cmpL_zero h'
    simp only [cmpL]
    by_cases e : x = y
    · subst e; rw [if_pos ((cmpI_zero x x).2 rfl), ih]; simp
    · rw [if_neg (fun h => e ((cmpI_zero x y).1 h))]
      constructor
      · intro h; exact absurd ((cmpI_zero x y).1 h) e
      · intro h; cases h; exact absurd rfl e

/-- Where a search by halves stands. -/
structure SeekAt (L : List (List Int)) (x : List Int) (i j : Nat) : Prop where
  le : i ≤ j
  top : j ≤ L.length
  low : i = 0 ∨ cmpL (L[i - 1]?.getD []) x < 0
  up : j = L.length ∨ ¬ cmpL (L[j]?.getD []) x < 0
theorem SeekAt.start (L : List (List Int)) (x : List Int) : SeekAt L x 0 L.length := ⟨Nat.zero_le _, Nat.le_refl _, .inl rfl, .inl rfl⟩
theorem SeekAt.right {L : List (List Int)} {x : List Int} {i j : Nat} (h : SeekAt L x i j) {k : Nat} (h2 : k < j) (hc : cmpL (L[k]?.getD []) x < 0) : SeekAt L x (k + 1) j :=
  ⟨h2, h.top, .inr hc, h.up⟩
theorem SeekAt.left {L : List (List Int)} {x : List Int} {i j : Nat} (h : SeekAt L x i j) {k : Nat} (h1 : i ≤ k) (h2 : k < j) (hc : ¬ cmpL (L[k]?.getD []) x < 0) : SeekAt L x i k :=
  ⟨h1, Nat.le_trans (Nat.le_of_lt h2) h.top, h.low, .inr hc⟩
theorem SeekAt.none {L : List (List Int)} {x : List Int} {i : Nat} (h : SeekAt L x i i) (ho : Order L) (hlen : ∀ y ∈ L, y.length = x.length) {t : Nat} (ht : t < L.length) (e : L[t] = x) : t = i := by
  have hr : ∀ {a b : Nat} (ha : a < L.length) (hb : b < L.length), a < b → ahead L[a] L[b] = true := fun ha hb hab => List.pairwise_iff_getElem.1 ho _ _ ha hb hab
  have hasym : ∀ {a b : List Int}, ahead a b = true → ahead b a = true → False := fun {a b} h1 h2 => by rw [ahead_asymm a b h1] at h2; cases h2
  rcases Nat.lt_trichotomy t i with h1 | h1 | h1
  · exfalso
    rcases h.low with h2 | h2
    · omega
    · have hi : i - 1 < L.length := by have := h.top; omega
      rw [List.getElem?_eq_getElem hi, Option.getD_some, cmpL_neg (hlen _ (List.getElem_mem _)), ← e] at h2
      by_cases h3 : t = i - 1
      · subst h3; exact hasym h2 h2
      · exact hasym h2 (hr ht hi (by omega))
  · exact h1
  · exfalso
    rcases h.up with h2 | h2
    · omega
    · have hi : i < L.length := by omega
      rw [List.getElem?_eq_getElem hi, Option.getD_some, cmpL_neg (hlen _ (List.getElem_mem _)), ← e] at h2
      exact h2 (hr hi ht h1)
theorem SeekAt.found {L : List (List Int)} {x : List Int} {i : Nat} (h : SeekAt L x i i) (ho : Order L) (hlen : ∀ y ∈ L, y.length = x.length) (hi : i < L.length) : decide (cmpL (L[i]?.getD []) x = 0) = decide (x ∈ L) := by
  rw [List.getElem?_eq_getElem hi, Option.getD_some]
  refine decide_eq_decide.2 ?_
  rw [cmpL_zero (hlen _ (List.getElem_mem _))]
  constructor
  · intro e; rw [← e]; exact List.getElem_mem _
  · intro hx
    obtain ⟨t, ht, e⟩ := List.getElem_of_mem hx
    have := h.none ho hlen ht e
    subst this
    exact e
theorem SeekAt.out {L : List (List Int)} {x : List Int} {i : Nat} (h : SeekAt L x i i) (ho : Order L) (hlen : ∀ y ∈ L, y.length = x.length) (hi : i = L.length) : decide (x ∈ L) = false := by
  refine decide_eq_false fun hx => ?_
  obtain ⟨t, ht, e⟩ := List.getElem_of_mem hx
  have := h.none ho hlen ht e
  omega

end Go.Proofs.YthmjdfjchhohgaaGreatDoor

namespace Go.Proofs.YthmjdfjchhohgaaGreatDoor
open Go.RowKit Go.Sort

theorem append_types {P : Program} {t u ty e e' : TypeId} (ht : P.underlying t = some (.slice e)) (hu : P.underlying u = some (.slice e')) (a : Option Addr) (n c : Nat) (x : Value) (w : World) : (Builtin.append_ #[t, u] ty #[.slice a n c, x]).run P w = (Builtin.append_ #[t, t] ty #[.slice a n c, x]).run P w := by
  unfold Builtin.append_
  simp [go_sem, run_underlying ht, run_underlying hu, sizeOf]

theorem own_slice {W : World} {base : Nat} {t : TypeId} {k : Nat} {v : Value} {n : Nat} {xs : List Value} (h : W.ownsRow base t k v n xs) : ∃ a cap, v = .slice a n cap := by
  rcases h.2 with ⟨rfl, rfl⟩ | ⟨g, cap, cur, rfl, _⟩
  · exact ⟨_, _, rfl⟩
  · exact ⟨_, _, rfl⟩

/-- As wpList_append_slice, of two types. -/
theorem wpList_append_slice2 {P : Program} {w : World} {ops : Array Oper} {rest : List Oper} {o : Oper} {a : Act} {Q : Exit → Act → World → Prop} (hgd : o.guard = none) (s x : Operand) (t u' e' : TypeId) (hu' : P.underlying u' = some (.slice e'))
    (ho : o.op = .call { callee := .builtin .append, args := #[s, x], argTypes := #[t, u'] })
    (base : Nat) (e : TypeId) (i : TypeInfo) (z : Value) (bytes : Nat) (ht : P.underlying t = some (.slice e)) (hi : P.info? e = some i) (hz : i.zero = some z)
    (hsize : i.size = 1) (hby : i.bytes = bytes) (hzs : z.cells.size = 1)
    (v : Value) (n : Nat) (xs : List Value) (hs : a.eval s = v) (hown : w.ownsRow base e 1 v n xs)
    {S : Nat → Prop} (u : Value) (news : List Value) (hx : a.eval x = u) (hu : SliceIn S w u news) (h1 : ∀ c ∈ news, c.oneCell' = true)
    (hbytes : (n + news.length) * bytes ≤ 140737488355328) (h63 : n + news.length ≤ maxLen) (hbase : base ≤ w.heap.size)
    (h : ∀ v' w', w'.ownsRow base e 1 v' (n + news.length) (xs ++ news) → w.grownBy w' v.ownBlock → (v'.ownBlock = v.ownBlock ∨ v'.ownBlock = some w.heap.size) → wpList P ops Q rest (a.put o.dst v') w') : wpList P ops Q (o :: rest) a w := by
  obtain ⟨av, cv, rfl⟩ := own_slice hown
  obtain ⟨ao, cap, rfl, ⟨hc, hn⟩, hcs⟩ := hu
  refine wpList_plain hgd fun K hK => ?_
  cases ao with
  | none =>
    obtain rfl := hn rfl
    have hnil : news = [] := List.eq_nil_of_length_eq_zero (by omega)
    subst hnil
    have hr := run_append_owned_none (P := P) (w := w) base t o.type e i 1 ht hi _ n xs hown
    rw [← append_types (u := u') ht hu'] at hr
    unfold Oper.wp execOp
    simp only [ho, resolve, invoke, builtin, Sem.run_bind, Sem.run_pure, Result.andThen_ok, List.map_toArray, List.map_cons, List.map_nil, hs, hx, List.length_nil, hr]
    exact hK _ _ (h _ w (by simpa using hown) ⟨rfl, rfl, rfl, Nat.le_refl _, fun _ _ _ => rfl⟩ (.inl rfl))
  | some ad =>
    obtain ⟨v', w', hr, h2, h3, h4, h5⟩ := run_append_own_at (P := P) w base t o.type e i z 1 bytes ht hi hz hsize hby hzs (by decide) _ n xs hown ad news.length cap news (by simp) (fun j c hj => by
      have hl : 0 < news.length := by
        have := (List.getElem?_eq_some_iff.1 hj).1
        omega
      obtain ⟨b, off, e1, _, e3⟩ := hcs hl
      cases e1
      rw [Addr.add_lit]
      exact e3 j c hj) h1 h63 hbytes hbase
    rw [← append_types (u := u') ht hu'] at hr
    unfold Oper.wp execOp
    simp only [ho, resolve, invoke, builtin, Sem.run_bind, Sem.run_pure, Result.andThen_ok, List.map_toArray, List.map_cons, List.map_nil, hs, hx, hr]
    exact hK _ _ (h v' w' h2 h3 h5)

end Go.Proofs.YthmjdfjchhohgaaGreatDoor

namespace Go.Proofs.YthmjdfjchhohgaaGreatDoor
open Go.RowKit Go.Sort

theorem ints_cells {w : World} {a : Option Addr} {c : Nat} {h : List Int} (hh : Ints w (.slice a h.length c) h) :
    ∀ k, k < h.length → ∃ b o, a = some ⟨b, o, none⟩ ∧ b < w.heap.size ∧ w.cell? ⟨b, o + k, none⟩ = some (.int .i64 (h[k]?.getD 0)) := fun k hk => by
  obtain ⟨a1, c1, e1, -, hc⟩ := hh.open_
  obtain ⟨rfl, rfl⟩ : a = a1 ∧ c = c1 := by simpa using e1
  obtain ⟨b, o, rfl, -, hb, c2⟩ := hc (by omega)
  exact ⟨b, o, rfl, hb, c2 k hk⟩

theorem rows_heads {w : World} {a : Option Addr} {c : Nat} {L : List (List Int)} (hL : Rows w (.slice a L.length c) L) :
    ∀ k, k < L.length → ∃ b o a' c', a = some ⟨b, o, none⟩ ∧ b < w.heap.size ∧ w.cell? ⟨b, o + k, none⟩ = some (.slice a' (L[k]?.getD []).length c') ∧ Ints w (.slice a' (L[k]?.getD []).length c') (L[k]?.getD []) := fun k hk => by
  obtain ⟨a1, c1, e1, -, hc⟩ := hL.open_
  obtain ⟨rfl, rfl⟩ : a = a1 ∧ c = c1 := by simpa using e1
  obtain ⟨b, o, rfl, -, hb, c2⟩ := hc (by omega)
  obtain ⟨a', c', h1, h2⟩ := c2 k hk
  exact ⟨b, o, a', c', rfl, hb, h1, h2⟩
theorem take_nodupD {h : List Int} {k : Nat} (hk : k < h.length) : (h.take (k + 1)).Nodup ↔ (h.take k).Nodup ∧ ∀ j, j < k → h[j]?.getD 0 ≠ h[k]?.getD 0 := by
  rw [List.take_add_one, List.getElem?_eq_getElem hk, Option.getD_some]
  show (h.take k ++ [h[k]]).Nodup ↔ _
  rw [List.nodup_append]
  constructor
  · intro ⟨h1, _, h2⟩
    refine ⟨h1, fun j hj => ?_⟩
    rw [List.getElem?_eq_getElem (by omega), Option.getD_some]
    exact h2 _ (List.mem_take_iff_getElem.2 ⟨j, by omega, rfl⟩) _ (by simp)
  · intro ⟨h1, h2⟩
    refine ⟨h1, by simp, fun x hx y hy => ?_⟩
    obtain ⟨j, hj, rfl⟩ := List.mem_take_iff_getElem.1 hx
    have := h2 j (by omega)
    rw [List.getElem?_eq_getElem (by omega), Option.getD_some] at this
    simp at hy
    subst hy
    exact this


end Go.Proofs.YthmjdfjchhohgaaGreatDoor

namespace Go.Proofs.YthmjdfjchhohgaaGreatDoor
open Go.RowKit Go.Sort

set_option maxRecDepth 100000 in
set_option maxHeartbeats 2000000 in
theorem seek_ (aL ax : Option Addr) (cL cx : Nat) (L : List (List Int)) (x : List Int) (w : World) (hL : Rows w (.slice aL L.length cL) L) (hx : Ints w (.slice ax x.length cx) x) (ho : Order L) (hlen : ∀ y ∈ L, y.length = x.length) (hx0 : 0 < x.length) (hx7 : x.length ≤ 1000) (hl : L.length ≤ 100000) :
    Calls Tryz.prog 101 #[.slice aL L.length cL, .slice ax x.length cx, .func (.func 102) #[] #[]] w fun e w' => ∃ i : Nat, e = .returned (.tuple #[.int .i64 i, .bool (decide (x ∈ L))]) ∧ w' = w := by
  have HX : Hid (∀ k, k < L.length → ∃ b o a' c', aL = some ⟨b, o, none⟩ ∧ b < w.heap.size ∧ w.cell? ⟨b, o + k, none⟩ = some (.slice a' x.length c') ∧ Calls Tryz.prog 102 #[.slice a' x.length c', .slice ax x.length cx] w fun e w' => e = .returned (.int .i64 (cmpL (L[k]?.getD []) x)) ∧ w' = w) := fun k hk => by
    obtain ⟨b, o, a', c', h1, h2, h3, h4⟩ := rows_heads hL k hk
    have hm : L[k]?.getD [] ∈ L := by rw [List.getElem?_eq_getElem hk]; exact List.getElem_mem _
    have he := hlen _ hm
    rw [he] at h3 h4
    refine ⟨b, o, a', c', h1, h2, h3, ?_⟩
    exact compare_ _ _ w h4 hx (by omega) (by omega) (by omega)
  have HN : Hid (∀ i, SeekAt L x i i → i < L.length → decide (cmpL (L[i]?.getD []) x = 0) = decide (x ∈ L)) := fun i h hi => h.found ho hlen hi
  have HO : Hid (∀ i, SeekAt L x i i → i = L.length → decide (x ∈ L) = false) := fun i h hi => h.out ho hlen hi
  have HS : Hid (SeekAt L x 0 L.length) := SeekAt.start L x
  have HT : Hid (∀ i j, SeekAt L x i j → i ≤ j ∧ j ≤ L.length) := fun i j h => ⟨h.le, h.top⟩
  obtain ⟨B, hB⟩ : ∃ B, decide (x ∈ L) = B := ⟨_, rfl⟩
  rw [hB] at HN HO ⊢
  obtain ⟨n, hn⟩ : ∃ n, L.length = n := ⟨_, rfl⟩
  rw [hn] at HX HN HO HS HT hl ⊢
  generalize x.length = m at HX ⊢
  clear hL hx ho hlen hx0 hx7 hB hn
  go_enter Tryz.func101, Tryz.ntmps101
  go_wp2_with fail
  go_loopw [9, 10] (fun p q W => ∃ i j : Nat, p = .int .i64 i ∧ q = .int .i64 j ∧ W = w ∧ Hid (SeekAt L x i j)) (fun p q _ => (intOf q).toNat - (intOf p).toNat)
  case atStart => exact ⟨0, n, rfl, rfl, rfl, HS.out⟩
  case round =>
    obtain ⟨i, j, rfl, rfl, hW, HK⟩ := hrel
    obtain rfl : w = wr := hW.symm
    clear hW
    obtain ⟨hij, hjn⟩ := HT.out i j HK.out
    by_cases hlt : i < j
    · obtain ⟨s, hs⟩ : ∃ s : Nat, i + j = s := ⟨_, rfl⟩
      obtain ⟨h, hh⟩ : ∃ h : Nat, s / 2 = h := ⟨_, rfl⟩
      have hih : i ≤ h := by omega
      have hhj : h < j := by omega
      obtain ⟨b, o, a', c', rfl, hb, g1, hc⟩ := HX.out h (by omega)
      obtain ⟨c, hce⟩ : ∃ c, cmpL (L[h]?.getD []) x = c := ⟨_, rfl⟩
      have HC := Hid.mk' hce
      rw [hce] at hc
      have hw1 : IntKind.i64.wrap ((i : Int) + (j : Int)) = (s : Int) := by rw [← hs]; exact wrapI (by omega) (by omega)
      have hsh : (s : Int) / 2 = (h : Int) := by omega
      by_cases hneg : c < 0
      · have hd : decide (c < 0) = true := decide_eq_true hneg
        have HK2 : Hid (SeekAt L x (h + 1) j) := HK.out.right hhj (by rw [HC.out]; exact hneg)
        go_wp2_with fail
        refine hc.mono ?_
        clear hc
        rintro e V ⟨rfl, rfl⟩
        go_wp2_with fail
        go_roundw
        case rel => exact ⟨h + 1, j, by congr 1, rfl, by first | trivial | rfl, HK2.out⟩
        case measure => simp [intOf]; omega
      · have hd : decide (c < 0) = false := decide_eq_false hneg
        have HK2 : Hid (SeekAt L x i h) := HK.out.left hih hhj (by rw [HC.out]; exact hneg)
        go_wp2_with fail
        refine hc.mono ?_
        clear hc
        rintro e V ⟨rfl, rfl⟩
        go_wp2_with fail
        go_roundw
        case rel => exact ⟨i, h, rfl, by congr 1, by first | trivial | rfl, HK2.out⟩
        case measure => simp [intOf]; omega
    · obtain rfl : i = j := by omega
      by_cases hin : i < n
      · obtain ⟨b, o, a', c', rfl, hb, g1, hc⟩ := HX.out i hin
        obtain ⟨c, hce⟩ : ∃ c, cmpL (L[i]?.getD []) x = c := ⟨_, rfl⟩
        rw [hce] at hc
        have hB := HN.out i HK.out hin
        rw [hce] at hB
        have HBB : Hid ((c == 0) = B) := by show _ = _; rw [← hB]; rfl
        go_wp2_with fail
        refine hc.mono ?_
        clear hc
        rintro e V ⟨rfl, rfl⟩
        go_wp2_with fail
        go_ret2
        rw [HBB.out]
        exact ⟨i, rfl, rfl⟩
      · obtain rfl : i = n := by omega
        have HBB := Hid.mk' (HO.out i HK.out rfl)
        go_wp2_with fail
        go_ret2
        rw [HBB.out]
        exact ⟨i, rfl, rfl⟩

end Go.Proofs.YthmjdfjchhohgaaGreatDoor

namespace Go.Proofs.YthmjdfjchhohgaaGreatDoor
open Go.RowKit Go.Sort

theorem ofDim_order {all : List (List Int)} (h : Order all) (d : Int) : Order (ofDim all d) := h.filter _
theorem ofDim_mem {all : List (List Int)} {x : List Int} (h : 0 < x.length) : x ∈ ofDim all ((x.length - 1 : Nat) : Int) ↔ x ∈ all := by
  unfold ofDim
  rw [List.mem_filter]
  constructor
  · exact fun h => h.1
  · intro hx
    exact ⟨hx, decide_eq_true (by omega)⟩
theorem ofDim_len {all : List (List Int)} {x : List Int} (h : 0 < x.length) : ∀ y ∈ ofDim all ((x.length - 1 : Nat) : Int), y.length = x.length := fun y hy => by
  unfold ofDim at hy
  have := of_decide_eq_true (List.mem_filter.1 hy).2
  omega

set_option maxRecDepth 100000 in
set_option maxHeartbeats 2000000 in
theorem has_ (vs vx : Value) (all : List (List Int)) (x : List Int) (w : World) (ho : Order all) (hall : all.length ≤ 600) (hS : ShpIn anyBlock w vs all) (hx : Ints w vx x) (hx0 : 0 < x.length) (hx7 : x.length ≤ 7) :
    Calls Tryz.prog 73 #[vs, vx] w fun e w' => e = .returned (.bool (decide (x ∈ all))) ∧ Below w.heap.size w w' := by
  obtain ⟨a, c, rfl, hr⟩ := hS
  have hxx := hx
  obtain ⟨ax, cx, rfl, -, -⟩ := hx.open_
  have hB0 : Below w.heap.size w (w.alloc (.cells #[.slice (a 0) (ofDim all 0).length (c 0), .slice (a 1) (ofDim all 1).length (c 1), .slice (a 2) (ofDim all 2).length (c 2), .slice (a 3) (ofDim all 3).length (c 3), .slice (a 4) (ofDim all 4).length (c 4), .slice (a 5) (ofDim all 5).length (c 5), .slice (a 6) (ofDim all 6).length (c 6)] 63)) := (Below.refl _ w).alloc (Nat.le_refl _) _
  have hv : VecAt 63 7 w.heap.size (w.alloc (.cells #[.slice (a 0) (ofDim all 0).length (c 0), .slice (a 1) (ofDim all 1).length (c 1), .slice (a 2) (ofDim all 2).length (c 2), .slice (a 3) (ofDim all 3).length (c 3), .slice (a 4) (ofDim all 4).length (c 4), .slice (a 5) (ofDim all 5).length (c 5), .slice (a 6) (ofDim all 6).length (c 6)] 63)) (fun d => .slice (a d) (ofDim all (d : Int)).length (c d)) := (Go.MapKept.heap_alloc w _).1
  obtain ⟨m, hm⟩ : ∃ m, x.length = m := ⟨_, rfl⟩
  have hd : m - 1 < 7 := by omega
  have hse := seek_ (a (m - 1)) ax (c (m - 1)) cx (ofDim all ((x.length - 1 : Nat) : Int)) x _ (by rw [hm]; exact ((hr (m - 1) hd).below hB0)) (hxx.below hB0) (ofDim_order ho _) (ofDim_len hx0) hx0 (by omega) (by
    have := List.length_filter_le (fun x => decide ((x.length : Int) - 1 = ((m - 1 : Nat) : Int))) all
    rw [hm]
    show (List.filter _ _).length ≤ _
    omega)
  rw [show decide (x ∈ ofDim all ((x.length - 1 : Nat) : Int)) = decide (x ∈ all) from decide_eq_decide.2 (ofDim_mem hx0), hm] at hse
  obtain ⟨c1, f1⟩ := hv.cell hd
  rw [hm] at hx0 ⊢
  obtain ⟨w1, hw1⟩ : ∃ w1, w.alloc (.cells #[.slice (a 0) (ofDim all 0).length (c 0), .slice (a 1) (ofDim all 1).length (c 1), .slice (a 2) (ofDim all 2).length (c 2), .slice (a 3) (ofDim all 3).length (c 3), .slice (a 4) (ofDim all 4).length (c 4), .slice (a 5) (ofDim all 5).length (c 5), .slice (a 6) (ofDim all 6).length (c 6)] 63) = w1 := ⟨_, rfl⟩
  rw [hw1] at hB0 hse c1
  obtain ⟨k, rfl⟩ : ∃ k, m = k + 1 := ⟨m - 1, by omega⟩
  rw [Nat.add_sub_cancel] at hse c1 hd
  obtain ⟨B, hB⟩ : ∃ B, decide (x ∈ all) = B := ⟨_, rfl⟩
  rw [hB] at hse ⊢
  generalize (ofDim all (k : Int)).length = n at hse c1
  have hk : ((k + 1 : Nat) : Int) - 1 = (k : Int) := by omega
  have HB := Hid.mk' hB0
  clear hv hr hx hxx hm hB hB0 f1
  go_enter Tryz.func73, Tryz.ntmps73
  go_wp2_with fail
  refine hse.mono ?_
  clear hse
  rintro e V ⟨i, rfl, rfl⟩
  go_wp2_with fail
  go_ret
  exact ⟨rfl, HB.out⟩

end Go.Proofs.YthmjdfjchhohgaaGreatDoor
