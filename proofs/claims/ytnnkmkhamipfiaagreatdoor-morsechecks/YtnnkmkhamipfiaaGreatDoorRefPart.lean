/- The sides of each face and the faces over it, told by the pairs that are done; no program is spoken of but the cells' values. Small numbers are not wrapped. A slice is appended onto a row of the call's own, as a step of a region that draws its order. What the reference's SameInts answers. What the reference's small readers answer: SameInts, Contains, Ahead, PartOf, SameLists; nothing is written. The reference's PartOf. -/
import Derived.Test.YtnnkmkhamipfiaaGreatDoorMorseMath
import Derived.Test.YtnnkmkhamipfiaaGreatDoorTab
import Derived.Test.YtnnkmkhamipfiaaGreatDoorBase
import Derived.Deep.RegionLaw
import Derived.Deep.AppendLies
import Derived.BigQuiet
import Derived.Deep.QuietTactic
namespace Go.Proofs.YtnnkmkhamipfiaaGreatDoor
open Go.RowKit Go.Sort

/-- Those over a face, the sides of a face, of the pairs that are done. -/
def ovD (P : List (List Int)) (D : Nat → Nat → Bool) (i : Nat) : List Nat := (List.range P.length).filter fun k => underB (faceAt P i) (faceAt P k) && D i k
def sidD (P : List (List Int)) (D : Nat → Nat → Bool) (k : Nat) : List Nat := (List.range P.length).filter fun i => underB (faceAt P i) (faceAt P k) && D i k
/-- Their cells. -/
def ovC (P : List (List Int)) (D : Nat → Nat → Bool) (i : Nat) : List Value := ((ovD P D i).map fun (k : Nat) => (k : Int)).map (Value.int .i64)
def sideP (P : List (List Int)) (k i : Nat) : Duo := ((i : Int), entryI (faceAt P i) (faceAt P k))
def sidC (P : List (List Int)) (D : Nat → Nat → Bool) (k : Nat) : List Value := duoCells ((sidD P D k).map (sideP P k))
def oversC (P : List (List Int)) (D : Nat → Nat → Bool) : List (List Value) := (List.range P.length).map (ovC P D)
def sidesC (P : List (List Int)) (D : Nat → Nat → Bool) : List (List Value) := (List.range P.length).map (sidC P D)

theorem oversC_len (P : List (List Int)) (D : Nat → Nat → Bool) : (oversC P D).length = P.length := by simp [oversC]
theorem sidesC_len (P : List (List Int)) (D : Nat → Nat → Bool) : (sidesC P D).length = P.length := by simp [sidesC]
theorem oversC_at {P : List (List Int)} {D : Nat → Nat → Bool} {i : Nat} (h : i < P.length) : (oversC P D)[i]? = some (ovC P D i) := by unfold oversC; rw [List.getElem?_map, List.getElem?_range h]; rfl
theorem sidesC_at {P : List (List Int)} {D : Nat → Nat → Bool} {i : Nat} (h : i < P.length) : (sidesC P D)[i]? = some (sidC P D i) := by unfold sidesC; rw [List.getElem?_map, List.getElem?_range h]; rfl

/-- Only pairs that are under each other count. -/
theorem ovD_congr {P : List (List Int)} {D D' : Nat → Nat → Bool} {i : Nat} (h : ∀ k, k < P.length → underB (faceAt P i) (faceAt P k) = true → D i k = D' i k) : ovD P D i = ovD P D' i := by
  refine List.filter_congr fun k hk => ?_
  cases e : underB (faceAt P i) (faceAt P k) with
  | false => rfl
  | true => rw [h k (List.mem_range.1 hk) e]
theorem sidD_congr {P : List (List Int)} {D D' : Nat → Nat → Bool} {k : Nat} (h : ∀ i, i < P.length → underB (faceAt P i) (faceAt P k) = true → D i k = D' i k) : sidD P D k = sidD P D' k := by
  refine List.filter_congr fun i hi => ?_
  cases e : underB (faceAt P i) (faceAt P k) with
  | false => rfl
  | true => rw [h i (List.mem_range.1 hi) e]
theorem oversC_congr {P : List (List Int)} {D D' : Nat → Nat → Bool} (h : ∀ i k, i < P.length → k < P.length → underB (faceAt P i) (faceAt P k) = true → D i k = D' i k) : oversC P D = oversC P D' := by
  unfold oversC
  refine List.map_congr_left fun i hi => ?_
  unfold ovC
  rw [ovD_congr fun k hk hu => h i k (List.mem_range.1 hi) hk hu]
theorem sidesC_congr {P : List (List Int)} {D D' : Nat → Nat → Bool} (h : ∀ i k, i < P.length → k < P.length → underB (faceAt P i) (faceAt P k) = true → D i k = D' i k) : sidesC P D = sidesC P D' := by
  unfold sidesC
  refine List.map_congr_left fun k hk => ?_
  unfold sidC
  rw [sidD_congr fun i hi hu => h i k hi (List.mem_range.1 hk) hu]

/-- One more that is greater than all before. -/
theorem filter_more {p p' : Nat → Bool} {n h : Nat} (hh : h < n) (e1 : ∀ j, j < n → j ≠ h → p' j = p j) (e2 : p h = false) (e3 : p' h = true) (e4 : ∀ j, h < j → j < n → p j = false) : (List.range n).filter p' = (List.range n).filter p ++ [h] := by
  have key : ∀ m, m ≤ n → (List.range m).filter p' = (List.range m).filter p ++ (if h < m then [h] else []) := by
    intro m
    induction m with
    | zero => intro _; simp
    | succ m ih =>
      intro hm
      rw [List.range_succ, List.filter_append, List.filter_append, ih (by omega)]
      by_cases c : m = h
      · subst c
        rw [if_neg (by omega), if_pos (by omega), List.append_nil]
        simp [e2, e3]
      · by_cases c2 : h < m
        · rw [if_pos c2, if_pos (by omega)]
          have h1 := e4 m c2 (by omega)
          have h2 := (e1 m (by omega) c).trans h1
          simp [h1, h2]
        · rw [if_neg c2, if_neg (by omega)]
          have h1 := e1 m (by omega) c
          simp [List.filter_cons, h1]
  have := key n (Nat.le_refl _)
  rw [if_pos hh] at this
  exact this

/-- The pairs that are done when some rows are, and some columns of the next one. -/
def doneP (first lo row col : Nat) (i k : Nat) : Bool := decide (k < first) || (decide (i < lo + row) || (decide (i = lo + row) && decide (k < first + col)))

theorem doneP_row (first lo row n : Nat) (i k : Nat) (hk : k < first + n) : doneP first lo row n i k = doneP first lo (row + 1) 0 i k := by
  unfold doneP
  rw [Bool.eq_iff_iff]
  simp only [Bool.or_eq_true, Bool.and_eq_true, decide_eq_true_eq]
  omega
theorem doneP_col {first lo row col i k : Nat} (h : ¬ (i = lo + row ∧ k = first + col)) : doneP first lo row (col + 1) i k = doneP first lo row col i k := by
  unfold doneP
  rw [Bool.eq_iff_iff]
  simp only [Bool.or_eq_true, Bool.and_eq_true, decide_eq_true_eq]
  omega
theorem doneP_no {first lo row col : Nat} : doneP first lo row col (lo + row) (first + col) = false := by
  unfold doneP
  rw [Bool.eq_false_iff]
  intro h
  simp only [Bool.or_eq_true, Bool.and_eq_true, decide_eq_true_eq] at h
  omega
theorem doneP_yes {first lo row col : Nat} : doneP first lo row (col + 1) (lo + row) (first + col) = true := by
  unfold doneP
  simp

/-- A pair more. -/
theorem ovD_step {P : List (List Int)} {first lo row col : Nat} (hk : first + col < P.length) (hu : underB (faceAt P (lo + row)) (faceAt P (first + col)) = true) : ovD P (doneP first lo row (col + 1)) (lo + row) = ovD P (doneP first lo row col) (lo + row) ++ [first + col] := by
  refine filter_more hk (fun j _ hne => ?_) ?_ ?_ (fun j hj _ => ?_)
  · rw [doneP_col fun h => hne h.2]
  · rw [doneP_no, Bool.and_false]
  · rw [hu, doneP_yes]; rfl
  · have : doneP first lo row col (lo + row) j = false := by
      unfold doneP
      rw [Bool.eq_false_iff]
      intro h
      simp only [Bool.or_eq_true, Bool.and_eq_true, decide_eq_true_eq] at h
      omega
    rw [this, Bool.and_false]
theorem sidD_step {P : List (List Int)} {first lo row col : Nat} (hi : lo + row < P.length) (hu : underB (faceAt P (lo + row)) (faceAt P (first + col)) = true) : sidD P (doneP first lo row (col + 1)) (first + col) = sidD P (doneP first lo row col) (first + col) ++ [lo + row] := by
  refine filter_more hi (fun j _ hne => ?_) ?_ ?_ (fun j hj _ => ?_)
  · rw [doneP_col fun h => hne h.1]
  · rw [doneP_no, Bool.and_false]
  · rw [hu, doneP_yes]; rfl
  · have : doneP first lo row col j (first + col) = false := by
      unfold doneP
      rw [Bool.eq_false_iff]
      intro h
      simp only [Bool.or_eq_true, Bool.and_eq_true, decide_eq_true_eq] at h
      omega
    rw [this, Bool.and_false]

theorem oversC_step {P : List (List Int)} {first lo row col : Nat} (_hi : lo + row < P.length) (hk : first + col < P.length) (hu : underB (faceAt P (lo + row)) (faceAt P (first + col)) = true) : oversC P (doneP first lo row (col + 1)) = (oversC P (doneP first lo row col)).set (lo + row) (ovC P (doneP first lo row col) (lo + row) ++ [.int .i64 ((first + col : Nat) : Int)]) := by
  refine List.ext_getElem? fun j => ?_
  by_cases hj : j < P.length
  · by_cases e : lo + row = j
    · subst e
      rw [oversC_at hj, List.getElem?_set, if_pos rfl, if_pos (by rw [oversC_len]; exact hj)]
      unfold ovC
      rw [ovD_step hk hu, List.map_append, List.map_append]
      rfl
    · rw [oversC_at hj, List.getElem?_set, if_neg e, oversC_at hj]
      unfold ovC
      rw [ovD_congr fun k _ _ => doneP_col fun h => e h.1.symm]
  · rw [List.getElem?_eq_none (by rw [oversC_len]; omega), List.getElem?_eq_none (by rw [List.length_set, oversC_len]; omega)]
theorem sidesC_step {P : List (List Int)} {first lo row col : Nat} (hi : lo + row < P.length) (_hk : first + col < P.length) (hu : underB (faceAt P (lo + row)) (faceAt P (first + col)) = true) : sidesC P (doneP first lo row (col + 1)) = (sidesC P (doneP first lo row col)).set (first + col) (sidC P (doneP first lo row col) (first + col) ++ [.int .i64 ((lo + row : Nat) : Int), .int .i64 (entryI (faceAt P (lo + row)) (faceAt P (first + col)))]) := by
  refine List.ext_getElem? fun j => ?_
  by_cases hj : j < P.length
  · by_cases e : first + col = j
    · subst e
      rw [sidesC_at hj, List.getElem?_set, if_pos rfl, if_pos (by rw [sidesC_len]; exact hj)]
      unfold sidC
      rw [sidD_step hi hu, List.map_append, List.map_singleton, duoCells_snoc]
      rfl
    · rw [sidesC_at hj, List.getElem?_set, if_neg e, sidesC_at hj]
      unfold sidC
      rw [sidD_congr fun i _ _ => doneP_col fun h => e h.2.symm]
  · rw [List.getElem?_eq_none (by rw [sidesC_len]; omega), List.getElem?_eq_none (by rw [List.length_set, sidesC_len]; omega)]

/-- What stands in the boundary is not 0 just where one is under the other. -/
theorem entry_under {r c : List Int} (hr : Rising r) (hc : Rising c) : entryI r c ≠ 0 ↔ underB r c = true := by
  rw [underB_iff]
  constructor
  · intro h
    by_cases hu : r.length + 1 = c.length ∧ ∀ v ∈ r, v ∈ c
    · exact hu
    · exfalso; apply h; unfold entryI; rw [if_neg hu]
  · rintro ⟨h1, h2⟩
    obtain ⟨j, hj, rfl⟩ := part_erase hr hc h1 h2
    rw [entry_erase hc hj]
    unfold sg
    omega

theorem grown_one (W : World) (p : Addr) (v : Value) : W.grownBy (W.setCell p v) (some p.block) := ⟨rfl, rfl, rfl, by simp, fun k _ hk => Below.heap_setCell W p v k (fun e => hk (by rw [e]))⟩

/-- A later world, but for some blocks. -/
structure KeepOff (T : Nat → Prop) (W W' : World) : Prop where
  os : W'.os = W.os
  tape : W'.tape = W.tape
  output : W'.output = W.output
  size : W.heap.size ≤ W'.heap.size
  block : ∀ b, b < W.heap.size → ¬ T b → W'.heap[b]? = W.heap[b]?
theorem KeepOff.refl (T : Nat → Prop) (W : World) : KeepOff T W W := ⟨rfl, rfl, rfl, Nat.le_refl _, fun _ _ _ => rfl⟩
theorem KeepOff.on {T : Nat → Prop} {W W1 W2 : World} {row : Option Nat} (h : KeepOff T W W1) (hg : W1.grownBy W2 row) (hr : ∀ b, row = some b → T b ∨ W.heap.size ≤ b) : KeepOff T W W2 :=
  ⟨hg.os.trans h.os, hg.tape.trans h.tape, hg.output.trans h.output, Nat.le_trans h.size hg.size, fun b hb hT => (hg.block b (Nat.lt_of_lt_of_le hb h.size) (fun e => by rcases hr b e.symm with e' | e'; exact hT e'; omega)).trans (h.block b hb hT)⟩
theorem KeepOff.cell {T : Nat → Prop} {W W' : World} (h : KeepOff T W W') {p : Addr} (hp : p.block < W.heap.size) (hT : ¬ T p.block) : W'.cell? p = W.cell? p := World.cell?_of_block (h.block p.block hp hT)
theorem KeepOff.frozen {T : Nat → Prop} {W W' : World} (h : KeepOff T W W') {p : Addr} (hp : p.block < W.heap.size) (hT : ¬ T p.block) : W'.frozen? p = W.frozen? p := World.frozen?_of_block (h.block p.block hp hT)
theorem KeepOff.drew {T : Nat → Prop} {W W' : World} (h : KeepOff T W W') : KeepOff T W W'.drew := ⟨h.os, h.tape, h.output, h.size, h.block⟩

end Go.Proofs.YtnnkmkhamipfiaaGreatDoor

namespace Go.Proofs.YtnnkmkhamipfiaaGreatDoor
open Go.RowKit

theorem wrapI {x : Int} (h0 : -10000000 ≤ x) (h1 : x ≤ 10000000) : IntKind.i64.wrap x = x := by rw [IntKind.wrap_i64]; omega
theorem Hid.mk' {p : Prop} (h : p) : Hid p := h

end Go.Proofs.YtnnkmkhamipfiaaGreatDoor

namespace Go.Proofs.YtnnkmkhamipfiaaGreatDoor
open Go.RowKit Go.Sort

/-- A slice is appended onto a row of the call's own, as a run. -/
theorem run_append_slice {P : Program} (w : World) (t ty : TypeId) (base : Nat) (e : TypeId) (i : TypeInfo) (z : Value) (bytes : Nat) (ht : P.underlying t = some (.slice e)) (hi : P.info? e = some i) (hz : i.zero = some z)
    (hsize : i.size = 1) (hby : i.bytes = bytes) (hzs : z.cells.size = 1) (v : Value) (n : Nat) (xs : List Value) (hown : w.ownsRow base e 1 v n xs)
    {S : Nat → Prop} (u : Value) (news : List Value) (hu : SliceIn S w u news) (h1 : ∀ c ∈ news, c.oneCell' = true)
    (hbytes : (n + news.length) * bytes ≤ 140737488355328) (h63 : n + news.length ≤ maxLen) (hbase : base ≤ w.heap.size) :
    ∃ v' w', (Builtin.append_ #[t, t] ty #[v, u]).run P w = .ok v' w' ∧ w'.ownsRow base e 1 v' (n + news.length) (xs ++ news) ∧ w.grownBy w' v.ownBlock ∧ (v'.ownBlock = v.ownBlock ∨ v'.ownBlock = some w.heap.size) := by
  obtain ⟨ao, cap, rfl, ⟨hc, hn⟩, hcs⟩ := hu
  cases ao with
  | none =>
    obtain rfl := hn rfl
    have hnil : news = [] := List.eq_nil_of_length_eq_zero (by omega)
    subst hnil
    exact ⟨v, w, run_append_owned_none (P := P) (w := w) base t ty e i 1 ht hi v n xs hown, by simpa using hown, ⟨rfl, rfl, rfl, Nat.le_refl _, fun _ _ _ => rfl⟩, .inl rfl⟩
  | some ad =>
    obtain ⟨v', w', hr, h2, h3, _, h5⟩ := run_append_own_at (P := P) w base t ty e i z 1 bytes ht hi hz hsize hby hzs (by decide) v n xs hown ad news.length cap news (by simp) (fun j c hj => by
      have hl : 0 < news.length := by
        have := (List.getElem?_eq_some_iff.1 hj).1
        omega
      obtain ⟨b, off, e1, _, e3⟩ := hcs hl
      cases e1
      rw [Addr.add_lit]
      exact e3 j c hj) h1 h63 hbytes hbase
    exact ⟨v', w', hr, h2, h3, h5⟩

/-- The same at a step of a region that draws its order. -/
theorem step_append_slice {P : Program} {w : World} {ops : Array Oper} {o : Oper} {a : Act} {K : Act → World → Prop} {Q : Exit → Act → World → Prop} {E : Prop} (hgd : o.guard = none) (s x : Operand) (t : TypeId)
    (ho : o.op = .call { callee := .builtin .append, args := #[s, x], argTypes := #[t, t] })
    (base : Nat) (e : TypeId) (i : TypeInfo) (z : Value) (bytes : Nat) (ht : P.underlying t = some (.slice e)) (hi : P.info? e = some i) (hz : i.zero = some z)
    (hsize : i.size = 1) (hby : i.bytes = bytes) (hzs : z.cells.size = 1) (v : Value) (n : Nat) (xs : List Value) (hs : a.eval s = v) (hown : w.ownsRow base e 1 v n xs)
    {S : Nat → Prop} (u : Value) (news : List Value) (hx : a.eval x = u) (hu : SliceIn S w u news) (h1 : ∀ c ∈ news, c.oneCell' = true)
    (hbytes : (n + news.length) * bytes ≤ 140737488355328) (h63 : n + news.length ≤ maxLen) (hbase : base ≤ w.heap.size)
    (h : ∀ v' w', w'.ownsRow base e 1 v' (n + news.length) (xs ++ news) → w.grownBy w' v.ownBlock → (v'.ownBlock = v.ownBlock ∨ v'.ownBlock = some w.heap.size) → K (a.put o.dst v') w') :
    if Region.wanted o (yielded ops a.tmps) = true then Oper.wp P o a w K Q else E := by
  have hw : Region.wanted o (yielded ops a.tmps) = true := by simp [Region.wanted, hgd]
  rw [if_pos hw]
  obtain ⟨v', w', hr, h2, h3, h4⟩ := run_append_slice (P := P) w t o.type base e i z bytes ht hi hz hsize hby hzs v n xs hown u news hu h1 hbytes h63 hbase
  unfold Oper.wp execOp
  simp only [ho, resolve, invoke, builtin, Sem.run_bind, Sem.run_pure, Result.andThen_ok, List.map_toArray, List.map_cons, List.map_nil, hs, hx, hr]
  exact h v' w' h2 h3 h4

end Go.Proofs.YtnnkmkhamipfiaaGreatDoor

namespace Go.Proofs.YtnnkmkhamipfiaaGreatDoor
open Go.RowKit Go.Sort

theorem take_snoc {xs ys : List Int} {k : Nat} (h : xs.take k = ys.take k) (hx : k < xs.length) (hy : k < ys.length) (e : xs[k]?.getD 0 = ys[k]?.getD 0) : xs.take (k + 1) = ys.take (k + 1) := by
  rw [List.take_add_one, List.take_add_one, h]
  simp [hx, hy] at e
  simp [hx, hy, e]

theorem ne_at {xs ys : List Int} {k : Nat} (e : ¬ xs[k]?.getD 0 = ys[k]?.getD 0) : xs ≠ ys := fun h => e (by rw [h])

theorem same_ints (va vb : Value) (xs ys : List Int) (w : World) (ha : Ints w va xs) (hb : Ints w vb ys) (hx : xs.length ≤ 1000000) :
    Calls Tryz.prog 17 #[va, vb] w fun e w' => e = .returned (.bool (decide (xs = ys))) ∧ ∃ q, w' = w.drewN q := by
  obtain ⟨a, ca, rfl, -, ha⟩ := ha.open_
  obtain ⟨b, cb, rfl, -, hb⟩ := hb.open_
  by_cases hl : xs.length = ys.length
  · rw [← hl]
    go_enter Tryz.func17, Tryz.ntmps17
    go_wp2
    go_loopw [5] (fun v W => ∃ k q : Nat, k ≤ xs.length ∧ v = .int .i64 k ∧ W = w.drewN q ∧ xs.take k = ys.take k) (fun v _ => xs.length - (intOf v).toNat)
    case atStart => exact ⟨0, 0, by omega, rfl, rfl, by simp⟩
    case round =>
      obtain ⟨k, q, hk, rfl, rfl, ht⟩ := hrel
      have HT : Hid (xs.take k = ys.take k) := ht
      have HL : Hid (xs.length = ys.length) := hl
      have hy' : k < xs.length → k < ys.length := by omega
      clear ht hl
      by_cases hlt : k < xs.length
      · obtain ⟨b1, o1, rfl, -, -, c1⟩ := ha (by omega)
        obtain ⟨b2, o2, rfl, -, -, c2⟩ := hb (by have := hy' hlt; omega)
        have g1 := c1 k hlt
        have g2 := c2 k (hy' hlt)
        clear c1 c2 ha hb
        obtain ⟨x, hxe⟩ : ∃ x, xs[k]?.getD 0 = x := ⟨_, rfl⟩
        obtain ⟨y, hye⟩ : ∃ y, ys[k]?.getD 0 = y := ⟨_, rfl⟩
        rw [hxe] at g1
        rw [hye] at g2
        have HX : Hid (xs[k]?.getD 0 = x) := hxe
        have HY : Hid (ys[k]?.getD 0 = y) := hye
        clear hxe hye
        by_cases heq : x = y
        · subst heq
          go_wp2_with fail
          go_quiet (fail)
          go_wp2
          go_roundw
          case rel => exact ⟨k + 1, _, by omega, by go_num, rfl, take_snoc HT.out hlt (hy' hlt) (HX.out.trans HY.out.symm)⟩
          case measure => simp [intOf]; omega
        · have hne : (x != y) = true := by simpa using heq
          have HE : Hid (¬ x = y) := heq
          clear heq
          go_wp2_with fail
          go_quiet (fail)
          go_wp2
          go_ret
          exact ⟨by rw [decide_eq_false (ne_at (fun h => HE.out (by rw [← HX.out, ← HY.out, h])))]; rfl, q + nq, by rw [World.drewN_drewN]⟩
      · clear ha hb
        go_wp2
        go_ret
        refine ⟨?_, q, rfl⟩
        have h1 := HT.out
        have h2 := HL.out
        rw [List.take_of_length_le (by omega), List.take_of_length_le (by omega)] at h1
        rw [decide_eq_true h1]; rfl
  · have hne : xs ≠ ys := fun h => hl (by rw [h])
    go_enter Tryz.func17, Tryz.ntmps17
    clear ha hb
    go_wp2
    go_ret
    exact ⟨by rw [decide_eq_false hne]; rfl, 0, rfl⟩

end Go.Proofs.YtnnkmkhamipfiaaGreatDoor

namespace Go.Proofs.YtnnkmkhamipfiaaGreatDoor
open Go.RowKit Go.Sort

theorem contains_upto {xs : List Int} {k : Nat} {n : Int} (h : ∀ j, j < k → ¬ xs[j]?.getD 0 = n) (hk : k = xs.length) : xs.contains n = false := by
  rw [← Bool.not_eq_true, List.contains_iff_mem]
  intro hm
  obtain ⟨j, hj, e⟩ := List.getElem_of_mem hm
  exact h j (by omega) (by simp [hj, e])
theorem contains_at {xs : List Int} {k : Nat} {n : Int} (hk : k < xs.length) (h : xs[k]?.getD 0 = n) : xs.contains n = true := by
  rw [List.contains_iff_mem]
  simp [hk] at h
  exact List.mem_of_getElem h

theorem contains_ (va : Value) (xs : List Int) (n : Int) (w : World) (ha : Ints w va xs) (hx : xs.length ≤ 1000000) :
    Calls Tryz.prog 78 #[va, .int .i64 n] w fun e w' => e = .returned (.bool (xs.contains n)) ∧ ∃ q, w' = w.drewN q := by
  obtain ⟨a, ca, rfl, -, ha⟩ := ha.open_
  go_enter Tryz.func78, Tryz.ntmps78
  go_wp2
  go_loopw [5] (fun v W => ∃ k q : Nat, k ≤ xs.length ∧ v = .int .i64 k ∧ W = w.drewN q ∧ ∀ j, j < k → ¬ xs[j]?.getD 0 = n) (fun v _ => xs.length - (intOf v).toNat)
  case atStart => exact ⟨0, 0, by omega, rfl, rfl, fun j hj => by omega⟩
  case round =>
    obtain ⟨k, q, hk, rfl, rfl, ht⟩ := hrel
    have HT : Hid (∀ j, j < k → ¬ xs[j]?.getD 0 = n) := ht
    clear ht
    by_cases hlt : k < xs.length
    · obtain ⟨b1, o1, rfl, -, -, c1⟩ := ha (by omega)
      have g1 := c1 k hlt
      clear c1 ha
      obtain ⟨x, hxe⟩ : ∃ x, xs[k]?.getD 0 = x := ⟨_, rfl⟩
      rw [hxe] at g1
      have HX : Hid (xs[k]?.getD 0 = x) := hxe
      clear hxe
      by_cases heq : x = n
      · subst heq
        go_wp2
        go_ret
        exact ⟨by rw [contains_at hlt HX.out]; rfl, _, rfl⟩
      · have hne : (x == n) = false := by simpa using heq
        have HE : Hid (¬ x = n) := heq
        clear heq
        go_wp2
        go_roundw
        case rel => exact ⟨k + 1, _, by omega, by go_num, rfl, fun j hj => by
          by_cases e : j = k
          · subst e; rw [HX.out]; exact HE.out
          · exact HT.out j (by omega)⟩
        case measure => simp [intOf]; omega
    · clear ha
      go_wp2
      go_ret
      exact ⟨by rw [contains_upto HT.out (by omega)]; rfl, q, rfl⟩

end Go.Proofs.YtnnkmkhamipfiaaGreatDoor

namespace Go.Proofs.YtnnkmkhamipfiaaGreatDoor
open Go.RowKit Go.Sort

theorem part_of (vf vg : Value) (f g : List Int) (w : World) (hf : Ints w vf f) (hg : Ints w vg g) (hx : f.length ≤ 1000000) (hy : g.length ≤ 1000000) :
    Calls Tryz.prog 60 #[vf, vg] w fun e w' => e = .returned (.bool (f.all (fun v => g.contains v))) ∧ ∃ q, w' = w.drewN q := by
  have HG : Hid (Ints w vg g) := hg
  clear hg
  obtain ⟨a, ca, rfl, -, ha⟩ := hf.open_
  go_enter Tryz.func60, Tryz.ntmps60
  go_wp2
  go_loopw [5] (fun v W => ∃ k q : Nat, k ≤ f.length ∧ v = .int .i64 k ∧ W = w.drewN q ∧ ∀ j, j < k → g.contains (f[j]?.getD 0) = true) (fun v _ => f.length - (intOf v).toNat)
  case atStart => exact ⟨0, 0, by omega, rfl, rfl, fun j hj => by omega⟩
  case round =>
    obtain ⟨k, q, hk, rfl, rfl, ht⟩ := hrel
    have HT : Hid (∀ j, j < k → g.contains (f[j]?.getD 0) = true) := ht
    clear ht
    by_cases hlt : k < f.length
    · obtain ⟨b1, o1, rfl, -, -, c1⟩ := ha (by omega)
      have g1 := c1 k hlt
      clear c1 ha hf
      obtain ⟨x, hxe⟩ : ∃ x, f[k]?.getD 0 = x := ⟨_, rfl⟩
      rw [hxe] at g1
      have HX : Hid (f[k]?.getD 0 = x) := hxe
      clear hxe
      have hc := contains_ vg g x (w.drewN q) HG.out hy
      obtain ⟨c, hce⟩ : ∃ c, g.contains x = c := ⟨_, rfl⟩
      rw [hce] at hc
      have HC : Hid (g.contains x = c) := hce
      clear hce
      cases c with
      | true =>
        go_wp2_with (go_at_call 78; refine hc.mono ?_; rintro e w' ⟨rfl, q2, rfl⟩)
        go_roundw
        case rel => exact ⟨k + 1, q + q2, by omega, by go_num, rfl, fun j hj => by
          by_cases e : j = k
          · subst e; rw [HX.out]; exact HC.out
          · exact HT.out j (by omega)⟩
        case measure => simp [intOf]; omega
      | false =>
        go_wp2_with (go_at_call 78; refine hc.mono ?_; rintro e w' ⟨rfl, q2, rfl⟩)
        go_ret
        refine ⟨?_, q + q2, rfl⟩
        have : f.all (fun v => g.contains v) = false := by
          rw [List.all_eq_false]
          refine ⟨x, ?_, by rw [HC.out]; simp⟩
          have := HX.out
          simp [hlt] at this
          exact List.mem_of_getElem this
        rw [this]; rfl
    · clear ha hf
      go_wp2
      go_ret
      refine ⟨?_, q, rfl⟩
      have : f.all (fun v => g.contains v) = true := by
        rw [List.all_eq_true]
        intro v hv
        obtain ⟨j, hj, e⟩ := List.getElem_of_mem hv
        have := HT.out j (by omega)
        simpa [hj, e] using this
      rw [this]; rfl

end Go.Proofs.YtnnkmkhamipfiaaGreatDoor
