/- append(s, make([]T, k)...) onto a row of the call's own, of elements of one cell. A boundary's matrix as it is filled, column by column. What gather answers: a map of all faces of the sets, or which error they have. -/
import Derived.Test.YtnnkmkhamipfiaaGreatDoorTab
import Derived.Lib.AppendZerosOnto
import Derived.Test.YtnnkmkhamipfiaaGreatDoorHeap
import Derived.Test.YtnnkmkhamipfiaaGreatDoorMorseMath
namespace Go.Proofs.YtnnkmkhamipfiaaGreatDoor
open Go.RowKit Go.Sort

theorem zeros_one {z : Value} (h : z.cells = #[z]) (n : Nat) : Builtin.zeroCells z.cells n = (List.replicate n z).toArray := by
  rw [h]
  unfold Builtin.zeroCells
  refine Array.ext (by simp) fun i h1 h2 => ?_
  simp [Nat.mod_one]

theorem run_append_room_make {P : Program} (w : World) (t tn ty e : TypeId) (i : TypeInfo) (z : Value) (kn : IntKind) (ht : P.underlying t = some (.slice e)) (htn : P.underlying tn = some (.int kn)) (hi : P.info? e = some i) (hz : i.zero = some z) (hsz : i.size = 1) (hzc : z.cells = #[z]) (hz1 : z.oneCell' = true)
    (g sLen sCap : Nat) (cur : Array Value) (hg : w.heap[g]? = some (.cells cur e (0, 0))) (k : Nat) (h0 : 0 < k) (h48 : k * i.bytes ≤ 281474976710656) (hk63 : k ≤ 1000000000) (hroom : sLen + k ≤ sCap) (hfit : sLen + k ≤ cur.size) :
    (Builtin.append_ #[t, tn] ty #[.slice (some ⟨g, 0, none⟩) sLen sCap, .int .i64 k]).run P w = .ok (.slice (some ⟨g, 0, none⟩) (sLen + k) sCap) (w.setRow g (cur.toList.take sLen ++ List.replicate k z ++ cur.toList.drop (sLen + k)).toArray) := by
  have hw : IntKind.i64.wrap (k : Int) = k := by rw [IntKind.wrap_i64]; omega
  have h48i : ¬ (281474976710656 < (k : Int) * (i.bytes : Int)) := by
    rw [← Int.natCast_mul]
    omega
  have hneg : ¬ ((k : Int) < 0) := by omega
  have hk : k ≠ 0 := by omega
  have hst := run_storeCells_at P g sLen e (List.replicate k z) 0 cur w hg (by simpa using hfit) (fun v hv => by rw [(List.mem_replicate.1 hv).2]; exact hz1)
  simp only [Nat.add_zero, List.length_replicate] at hst
  simp [Builtin.append_, run_underlying ht, run_underlying htn, sizeOf, typeInfo, zeroValue, hi, hz, hsz, asInt, asIntOf, hw, hneg, hk, h48i, hroom, zeros_one hzc, Addr.add_lit, hst]

/-- So many zeros more. -/
theorem run_append_make {P : Program} (w : World) (t tn ty e : TypeId) (i : TypeInfo) (z : Value) (kn : IntKind) (ht : P.underlying t = some (.slice e)) (htn : P.underlying tn = some (.int kn)) (hi : P.info? e = some i) (hz : i.zero = some z) (hsz : i.size = 1) (hzc : z.cells = #[z]) (hz1 : z.oneCell' = true)
    (base : Nat) (v : Value) (n : Nat) (xs : List Value) (hown : w.ownsRow base e 1 v n xs) (k : Nat) (h0 : 0 < k) (h63 : n + k ≤ 1000000) (hby : i.bytes ≤ 1000) (hbase : base ≤ w.heap.size) :
    ∃ v' w', (Builtin.append_ #[t, tn] ty #[v, .int .i64 k]).run P w = .ok v' w' ∧ w'.ownsRow base e 1 v' (n + k) (xs ++ List.replicate k z) ∧ w.grownBy w' v.ownBlock ∧ ∀ b, v'.ownBlock = some b → v.ownBlock = some b ∨ w.heap.size ≤ b := by
  have hb : ∀ m, m ≤ 1000000 → m * i.bytes ≤ 1000000000 := fun m hm => Nat.le_trans (Nat.mul_le_mul hm hby) (by decide)
  have hlen : (xs ++ List.replicate k z).length = (n + k) * 1 := by rw [List.length_append, hown.1, List.length_replicate]; omega
  have hzs : z.cells.size = 1 := by rw [hzc]; rfl
  have grown : ∀ (old : Nat), old < n + k → ∀ (row : Option Nat),
      (w.drew.alloc (.cells (xs.toArray ++ Builtin.zeroCells z.cells k ++ Builtin.zeroCells z.cells (grownCap w (n + k) old e - (n + k))) e)).ownsRow base e 1
        (.slice (some ⟨w.heap.size, 0, none⟩) (n + k) (grownCap w (n + k) old e)) (n + k) (xs ++ List.replicate k z) ∧
      w.grownBy (w.drew.alloc (.cells (xs.toArray ++ Builtin.zeroCells z.cells k ++ Builtin.zeroCells z.cells (grownCap w (n + k) old e - (n + k))) e)) row := by
    intro old ho row
    have hge := grownCap_ge w (n + k) old e
    have hcm : grownCap w (n + k) old e ≤ maxLen := grownCap_le_maxLen w (n + k) old e (by unfold maxLen; omega)
    refine ⟨⟨hlen, .inr ⟨w.heap.size, _, _, rfl, hbase, heap_alloc_new w.drew _, hge, hcm, ?_, ?_⟩⟩, ⟨rfl, rfl, rfl, by simp, fun k hk _ => Below.heap_alloc w.drew _ k hk⟩⟩
    · simp only [Array.size_append, List.size_toArray, size_zeroCells, hzs, hown.1]
      omega
    · rw [zeros_one hzc, zeros_one hzc]
      simp only [Array.toList_append, List.append_assoc]
      rw [← List.append_assoc, ← hlen]
      exact List.take_left
  rcases hown.2 with ⟨rfl, rfl⟩ | ⟨g, cap, cur, rfl, hbg, hg, hnc, hcm, hcs, htake⟩
  · have hx : xs = [] := List.eq_nil_of_length_eq_zero (by simpa using hown.1)
    subst hx
    have hold : (Builtin.firstCells i.size 0 (.slice none 0 0)).run P w.drew = .ok #[] w.drew := by simp [Builtin.firstCells]
    have hr := Lib.run_append_grow_zeros w t tn ty e i z .i64 kn ht htn hi hz none 0 0 [] hold k h0 (by omega) (by omega) (by omega) (by have := hb k (by omega); omega) (growslice_fits (by omega) (by have := hb (0 + k) (by omega); omega))
    have hgr := grown 0 (by omega) (Value.ownBlock (.slice none 0 0))
    exact ⟨_, _, hr, hgr.1, hgr.2, fun b hb' => .inr (by simp [Value.ownBlock] at hb'; omega)⟩
  · by_cases hroom : n + k ≤ cap
    · have hfit : n + k ≤ cur.size := by rw [hcs]; omega
      have hr := run_append_room_make w t tn ty e i z kn ht htn hi hz hsz hzc hz1 g n cap cur hg k h0 (by have := hb k (by omega); omega) (by omega) hroom hfit
      refine ⟨_, _, hr, ⟨hlen, .inr ⟨g, cap, _, rfl, hbg, setRow_heap w g cur _ e _ hg, hroom, hcm, ?_, ?_⟩⟩, ⟨rfl, rfl, rfl, by simp, fun k _ hk => setRow_other w g k _ (fun e => hk (by simp [Value.ownBlock, e]))⟩, fun b hb' => .inl hb'⟩
      · simp only [List.size_toArray, List.length_append, List.length_take, List.length_drop, Array.length_toList, List.length_replicate]
        omega
      · rw [Nat.mul_one] at htake
        rw [htake, ← hlen]
        exact List.take_left
    · have holds : ∀ j u, xs[j]? = some u → w.cell? ((⟨g, 0, none⟩ : Addr).add j) = some u := hown.cells (g := g) rfl
      have hold : (Builtin.firstCells i.size n (.slice (some ⟨g, 0, none⟩) n cap)).run P w.drew = .ok xs.toArray w.drew := run_firstCells_some (P := P) w.drew i.size n ⟨g, 0, none⟩ n cap xs (by rw [hsz]; exact hown.1) holds
      have hr := Lib.run_append_grow_zeros w t tn ty e i z .i64 kn ht htn hi hz (some ⟨g, 0, none⟩) n cap xs hold k h0 (by omega) (by omega) (by omega) (by have := hb k (by omega); omega) (growslice_fits (by omega) (by have := hb (n + k) (by omega); omega))
      have hgr := grown cap (by omega) (Value.ownBlock (.slice (some ⟨g, 0, none⟩) n cap))
      exact ⟨_, _, hr, hgr.1, hgr.2, fun b hb' => .inr (by simp [Value.ownBlock] at hb'; omega)⟩

/-- The same at a step of a walk. -/
theorem wpList_append_make {P : Program} {w : World} {ops : Array Oper} {rest : List Oper} {o : Oper} {a : Act} {Q : Exit → Act → World → Prop} (hgd : o.guard = none) (s x : Operand) (t tn : TypeId)
    (ho : o.op = .call { callee := .builtin .append, args := #[s, x], argTypes := #[t, tn] }) (e : TypeId) (i : TypeInfo) (z : Value) (kn : IntKind) (ht : P.underlying t = some (.slice e)) (htn : P.underlying tn = some (.int kn)) (hi : P.info? e = some i) (hz : i.zero = some z) (hsz : i.size = 1) (hzc : z.cells = #[z]) (hz1 : z.oneCell' = true)
    (base : Nat) (v : Value) (n : Nat) (xs : List Value) (hs : a.eval s = v) (hown : w.ownsRow base e 1 v n xs) (k : Nat) (hx : a.eval x = .int .i64 k) (h0 : 0 < k) (h63 : n + k ≤ 1000000) (hby : i.bytes ≤ 1000) (hbase : base ≤ w.heap.size)
    (h : ∀ v' w', w'.ownsRow base e 1 v' (n + k) (xs ++ List.replicate k z) → w.grownBy w' v.ownBlock → (∀ b, v'.ownBlock = some b → v.ownBlock = some b ∨ w.heap.size ≤ b) → wpList P ops Q rest (a.put o.dst v') w') : wpList P ops Q (o :: rest) a w := by
  obtain ⟨v', w', hr, h2, h3, h4⟩ := run_append_make w t tn o.type e i z kn ht htn hi hz hsz hzc hz1 base v n xs hown k h0 h63 hby hbase
  refine wpList_plain hgd fun K hK => ?_
  unfold Oper.wp
  simp [execOp, ho, resolve, invoke, builtin, hs, hx, hr, Result.andThen]
  exact hK _ _ (h v' w' h2 h3 h4)

end Go.Proofs.YtnnkmkhamipfiaaGreatDoor

namespace Go.Proofs.YtnnkmkhamipfiaaGreatDoor

/-- What stands at a place when k columns are filled, and of the next one the first j parts. -/
def matTo (R C : List (List Int)) (k j idx : Nat) : Int :=
  if idx % C.length < k then entryI (R[idx / C.length]?.getD []) (C[idx % C.length]?.getD [])
  else if idx % C.length = k ∧ (List.range j).any (fun t => decide (R[idx / C.length]?.getD [] = (C[idx % C.length]?.getD []).eraseIdx t)) = true then entryI (R[idx / C.length]?.getD []) (C[idx % C.length]?.getD []) else 0
theorem matTo_start (R C : List (List Int)) (idx : Nat) : matTo R C 0 0 idx = 0 := by
  unfold matTo
  rw [if_neg (Nat.not_lt_zero _), if_neg (fun h => by simp at h)]
theorem get_inj {R : List (List Int)} (h : R.Nodup) {i j : Nat} (hi : i < R.length) (hj : j < R.length) (e : R[i]?.getD [] = R[j]?.getD []) : i = j := by
  rw [List.getElem?_eq_getElem hi, List.getElem?_eq_getElem hj] at e
  exact (List.getElem_inj h).1 e
theorem place {m i k : Nat} (hk : k < m) : (i * m + k) / m = i ∧ (i * m + k) % m = k := by
  have hm : 0 < m := by omega
  constructor
  · rw [Nat.mul_comm, Nat.mul_add_div hm, Nat.div_eq_of_lt hk]; rfl
  · rw [Nat.mul_comm, Nat.mul_add_mod, Nat.mod_eq_of_lt hk]
theorem place_row {m n idx : Nat} (h : idx < n * m) : idx / m < n := Nat.div_lt_of_lt_mul (by rw [Nat.mul_comm]; exact h)
theorem place_back {m i k idx : Nat} (h1 : idx / m = i) (h2 : idx % m = k) : idx = i * m + k := by
  have := Nat.div_add_mod idx m
  rw [h1, h2, Nat.mul_comm] at this
  exact this.symm
/-- One more part. -/
theorem matTo_step {R C : List (List Int)} (hR : R.Nodup) {k j ri : Nat} (hk : k < C.length) (hri : ri < R.length) (hc : Rising (C[k]?.getD [])) (hj : j < (C[k]?.getD []).length) (he : R[ri]?.getD [] = (C[k]?.getD []).eraseIdx j) {idx : Nat} (hidx : idx < R.length * C.length) :
    matTo R C k (j + 1) idx = if idx = ri * C.length + k then sg j else matTo R C k j idx := by
  by_cases h : idx = ri * C.length + k
  · rw [if_pos h]
    obtain ⟨p1, p2⟩ := place (i := ri) hk
    unfold matTo
    have hany : (List.range (j + 1)).any (fun t => decide (R[ri]?.getD [] = (C[k]?.getD []).eraseIdx t)) = true := List.any_eq_true.2 ⟨j, List.mem_range.2 (by omega), decide_eq_true he⟩
    rw [h, p1, p2, if_neg (Nat.lt_irrefl _), if_pos ⟨rfl, hany⟩, he, entry_erase hc hj]
  · rw [if_neg h]
    unfold matTo
    by_cases h1 : idx % C.length < k
    · rw [if_pos h1, if_pos h1]
    · rw [if_neg h1, if_neg h1]
      by_cases h2 : idx % C.length = k
      · have hne : ¬ R[idx / C.length]?.getD [] = (C[k]?.getD []).eraseIdx j := fun e => h (place_back (get_inj hR (place_row hidx) hri (e.trans he.symm)) h2)
        have e1 : (List.range (j + 1)).any (fun t => decide (R[idx / C.length]?.getD [] = (C[idx % C.length]?.getD []).eraseIdx t)) = (List.range j).any (fun t => decide (R[idx / C.length]?.getD [] = (C[idx % C.length]?.getD []).eraseIdx t)) := by
          rw [List.range_succ, List.any_append, h2]
          simp [hne]
        rw [e1]
      · rw [if_neg (fun h => h2 h.1), if_neg (fun h => h2 h.1)]
/-- A column is full. -/
theorem matTo_full {R C : List (List Int)} {k n idx : Nat} (_hk : k < C.length) (hr : ∀ r ∈ R, Rising r ∧ r ≠ []) (hc : Rising (C[k]?.getD [])) (hn : n = (C[k]?.getD []).length ∨ (C[k]?.getD []).length = 1) (hidx : idx < R.length * C.length) : matTo R C k n idx = matTo R C (k + 1) 0 idx := by
  unfold matTo
  by_cases h1 : idx % C.length < k
  · rw [if_pos h1, if_pos (by omega)]
  · rw [if_neg h1]
    by_cases h2 : idx % C.length = k
    · rw [if_pos (show idx % C.length < k + 1 by omega)]
      split
      · rfl
      · rename_i h3
        have hrow := place_row hidx
        have hm : R[idx / C.length]?.getD [] ∈ R := by rw [List.getElem?_eq_getElem hrow]; exact List.getElem_mem hrow
        rw [h2] at h3 ⊢
        refine (entry_zero (hr _ hm).1 hc (fun t ht e => ?_)).symm
        rcases hn with hn | hn
        · exact h3 ⟨rfl, List.any_eq_true.2 ⟨t, List.mem_range.2 (by omega), decide_eq_true e⟩⟩
        · refine (hr _ hm).2 ?_
          rw [e]
          obtain ⟨v, hv⟩ := List.length_eq_one_iff.1 hn
          rw [hv] at ht ⊢
          have : t = 0 := by simpa using ht
          rw [this]; rfl
    · rw [if_neg (fun h => h2 h.1), if_neg (by omega), if_neg (fun h => by simp at h)]
theorem matTo_all {R C : List (List Int)} {idx : Nat} (hidx : idx < R.length * C.length) : (borderI R C)[idx]? = some (matTo R C C.length 0 idx) := by
  have hm : 0 < C.length := by
    rcases Nat.eq_zero_or_pos C.length with h | h
    · rw [h] at hidx; simp at hidx
    · exact h
  have h1 := Nat.mod_lt idx hm
  have h2 := border_get (R := R) (C := C) (place_row hidx) h1
  rw [← place_back rfl rfl] at h2
  rw [h2]
  unfold matTo
  rw [if_pos h1]

theorem ints_erase (f : List UInt8) (j : Nat) : ints (f.eraseIdx j) = (ints f).eraseIdx j := by
  unfold ints
  induction f generalizing j with
  | nil => simp
  | cons x f ih =>
    cases j with
    | zero => rfl
    | succ j => simp only [List.eraseIdx_cons_succ, List.map_cons]; rw [ih]

end Go.Proofs.YtnnkmkhamipfiaaGreatDoor

namespace Go.Proofs.YtnnkmkhamipfiaaGreatDoor
open Go.RowKit Go.Shelf Go.Sort Go.Maps Go.Deep

/-- What gather answers. -/
def GatherSays (a : Nat → Addr) (l : List (List Int)) (w : World) (e : Ending) (w' : World) : Prop :=
  Below w.heap.size w w' ∧ ((¬ (∀ x ∈ l, SetOk x) ∧ e = .returned (.tuple #[.map none, .iface 250 (.pointer (some (a 3)))])) ∨
    ((∀ x ∈ l, SetOk x) ∧ ∃ ts : List (List UInt8), ts.map ints = l.map srt ∧
      ((∃ b F G, e = .returned (.tuple #[.map (some b), .nilIface]) ∧ PileAt w' b F G ∧ Heaped ts F G) ∨ (Over ts ∧ e = .returned (.tuple #[.map none, .iface 250 (.pointer (some (a 1)))])))))
theorem GatherSays.bad {a : Nat → Addr} {l : List (List Int)} {w : World} {e : Ending} {w' : World} (hB : Below w.heap.size w w') {k : Nat} (hk : k < l.length) (h : ¬ SetOk (l[k]?.getD [])) (he : e = .returned (.tuple #[.map none, .iface 250 (.pointer (some (a 3)))])) : GatherSays a l w e w' :=
  ⟨hB, .inl ⟨fun ha => h (by rw [List.getElem?_eq_getElem hk, Option.getD_some]; exact ha _ (List.getElem_mem hk)), he⟩⟩
theorem GatherSays.rest {a : Nat → Addr} {l : List (List Int)} {w w1 : World} {e : Ending} {w' : World} {ts : List (List UInt8)} (hB : Below w.heap.size w w1) (hk : ∀ x ∈ l, SetOk x) (ht : ts.map ints = l.map srt) (h : HeapSays a ts w1 e w') : GatherSays a l w e w' :=
  ⟨hB.trans (h.1.mono hB.size), .inr ⟨hk, ts, ht, h.2⟩⟩

theorem faces_of (ts : List (List UInt8)) (h : ∀ t ∈ ts, 0 < t.length ∧ t.length ≤ 1000) : ∃ xs : List Fc, xs.map Subtype.val = ts := by
  induction ts with
  | nil => exact ⟨[], rfl⟩
  | cons t ts ih =>
    obtain ⟨xs, e⟩ := ih (fun u hu => h u (by simp [hu]))
    exact ⟨⟨t, h t (by simp)⟩ :: xs, by simp [e]⟩
theorem sizes_of {ts : List (List UInt8)} {l : List (List Int)} (ht : ts.map ints = l.map srt) (hk : ∀ x ∈ l, SetOk x) (hl : ∀ x ∈ l, x.length ≤ 1000) : ∀ t ∈ ts, 0 < t.length ∧ t.length ≤ 1000 := fun t hm => by
  have : ints t ∈ l.map srt := by rw [← ht]; exact List.mem_map.2 ⟨t, hm, rfl⟩
  obtain ⟨x, hx, e⟩ := List.mem_map.1 this
  have h1 : t.length = x.length := by rw [← ints_length, ← e, srt_length]
  have h2 := (hk x hx).1
  have := hl x hx
  have : 0 < x.length := List.length_pos_iff.2 h2
  omega
theorem ok_snoc {l : List (List Int)} {k : Nat} (hk : k < l.length) (h : ∀ x ∈ l.take k, SetOk x) (hx : SetOk (l[k]?.getD [])) : ∀ x ∈ l.take (k + 1), SetOk x := by
  rw [List.getElem?_eq_getElem hk, Option.getD_some] at hx
  rw [List.take_add_one, List.getElem?_eq_getElem hk]
  intro x hm
  rcases List.mem_append.1 hm with a | a
  · exact h x a
  · simp at a; subst a; exact hx
theorem srt_snoc {l : List (List Int)} {k : Nat} (hk : k < l.length) : (l.take (k + 1)).map srt = (l.take k).map srt ++ [srt (l[k]?.getD [])] := by
  rw [List.take_add_one, List.getElem?_eq_getElem hk, List.map_append, Option.getD_some]
  rfl

/-- slices.Values of texts that lie so, for heap. -/
theorem values_seq (W : World) (b cap : Nat) (xs : List Fc) (hz : xs.length ≤ 100000) (hb : b < W.heap.size) (hc : ∀ j (hj : j < xs.length), W.cell? ⟨b, 0 + j, none⟩ = some (encStr xs[j].1)) :
    SeqStopsK Fence.wide 9 Tryz.prog 145 #[.pointer (some ⟨W.heap.size, 0, none⟩)] (fun x : Fc => #[encStr x.1]) (Below (W.alloc (.cells #[.slice (some ⟨b, 0, none⟩) xs.length cap] 183)).heap.size) (fun ys => ys = xs) (fun pre => pre <+: xs) xs.length (W.alloc (.cells #[.slice (some ⟨b, 0, none⟩) xs.length cap] 183)) := by
  intro l J Jx W2 hW _ _ hY h0
  have hbn := box_new W (.slice (some ⟨b, 0, none⟩) xs.length cap) 183
  refine values_rounds Fence.wide 9 trivial rfl (by decide) l W.heap.size _ b 0 cap xs hz (by simp; omega) J Jx hY W2 ((hW.cell (p := ⟨W.heap.size, 0, none⟩) (by simp)).trans hbn.1) (fun j hj => ?_) h0
  rw [hW.cell (p := ⟨b, 0 + j, none⟩) (by simp; omega)]
  exact cell_kept (hc j hj) (World.grownBy_alloc W _ none) (fun r e => by cases e)

set_option maxRecDepth 100000 in
set_option maxHeartbeats 2000000 in
theorem gather_ {a : Nat → Addr} {s : Nat → ByteArray} (vl : Value) (l : List (List Int)) (w : World) (hE : Errs a s w) (hl : Rows w vl l) (hll : l.length ≤ 100000) (hle : ∀ x ∈ l, x.length ≤ 1000) :
    Calls Tryz.prog 127 #[vl] w fun e w' => GatherSays a l w e w' := by
  have HE : Hid (∀ x ∈ l, x.length ≤ 1000) := hle
  obtain ⟨a0, ca, rfl, -, ha⟩ := hl.open_
  obtain ⟨n, hn⟩ : ∃ n, l.length = n := ⟨_, rfl⟩
  have HN : Hid (l.length = n) := hn
  rw [hn] at hll ⊢
  rw [hn] at ha
  have hmk := run_make_row' (P := Tryz.prog) 183 9 (.string ⟨#[]⟩) 16 Tryz.underlying183 Tryz.info9 rfl .i64 .i64 n (by omega) (by omega)
  clear hle hn hl
  go_enter Tryz.func127, Tryz.ntmps127
  go_wp2
  go_loopw [14] (fun p wr => ∃ k : Nat, k ≤ n ∧ p = .int .i64 k ∧ (∀ x ∈ l.take k, SetOk x) ∧ (∃ ts : List (List UInt8), ts.length = k ∧ ts.map ints = (l.take k).map srt ∧ wr.rowIs w.heap.size 9 n (fun j => encStr (ts[j]?.getD []))) ∧ Below w.heap.size w wr)
    (fun p _ => n - (intOf p).toNat)
  case atStart => exact ⟨0, by omega, rfl, by simp, ⟨[], rfl, by simp, (World.rowIs_made _ _ _ _).congr (fun j _ => by simp [encStr])⟩, (Below.refl _ _).alloc (Nat.le_refl _) _⟩
  case round =>
    obtain ⟨k, hk, rfl, hok, ⟨ts, htl, hti, hrow⟩, hB⟩ := hrel
    have HOK : Hid (∀ x ∈ l.take k, SetOk x) := hok
    have HTL : Hid (ts.length = k) := htl
    have HTI : Hid (ts.map ints = (l.take k).map srt) := hti
    have HR : Hid (wr.rowIs w.heap.size 9 n (fun j => encStr (ts[j]?.getD []))) := hrow
    clear hok htl hti
    by_cases hlt : k < n
    · have hkl : k < l.length := by rw [HN.out]; exact hlt
      obtain ⟨b, o, rfl, -, hb, c⟩ := ha (by omega)
      obtain ⟨a1, p1, g1, i1⟩ := c k hlt
      have hlen : (l[k]?.getD []).length ≤ 1000 := HE.out _ (by rw [List.getElem?_eq_getElem hkl]; simp)
      obtain ⟨x, hxe⟩ : ∃ x, l[k]?.getD [] = x := ⟨_, rfl⟩
      rw [hxe] at g1 i1 hlen
      have HX : Hid (l[k]?.getD [] = x) := hxe
      have g2 : wr.cell? ⟨b, o + k, none⟩ = some (.slice a1 x.length p1) := (hB.cell (p := ⟨b, o + k, none⟩) hb).trans g1
      have hc := set_text _ x wr (i1.below hB) hlen
      clear c ha g1 i1 hxe hrow
      go_wp2_with fail
      refine hc.mono ?_
      rintro e w2 ⟨hB2, ⟨hso, t, ht, rfl⟩ | ⟨hno, rfl⟩⟩
      · have hrow2 : w2.rowIs w.heap.size 9 n (fun j => encStr (ts[j]?.getD [])) := HR.out.of_block (hB2.block _ HR.out.lt)
        have HR2 : Hid (w2.rowIs w.heap.size 9 n (fun j => encStr (ts[j]?.getD []))) := hrow2
        have hcell := hrow2.cell hlt
        have hfz := hrow2.frozen k
        have HSO : Hid (SetOk x) := hso
        have HTX : Hid (TextOf x t) := ht
        have hB3 : Below w.heap.size w w2 := hB.trans (hB2.mono hB.size)
        obtain ⟨st, hst⟩ : ∃ s : ByteArray, encStr t = .string s := ⟨_, rfl⟩
        rw [hst]
        have HST : Hid (encStr t = .string st) := hst
        clear hso ht hc hrow2 hst
        go_wp2
        go_roundw
        case rel =>
          refine ⟨k + 1, by omega, by go_num, ok_snoc hkl HOK.out (by rw [HX.out]; exact HSO.out), ⟨ts ++ [t], by simp [HTL.out], by rw [List.map_append, HTI.out, srt_snoc hkl, HX.out]; simp [text_srt HSO.out HTX.out], ?_⟩, hB3.setCell (p := ⟨w.heap.size, k, none⟩) (Nat.le_refl _) _⟩
          refine (HR2.out.set k _).congr (fun j _ => ?_)
          by_cases e : j = k
          · subst e
            rw [if_pos rfl, ← HST.out, List.getElem?_append_right (by rw [HTL.out]; exact Nat.le_refl _)]
            simp [HTL.out]
          · rw [if_neg e]
            by_cases e2 : j < k
            · rw [List.getElem?_append_left (by rw [HTL.out]; exact e2)]
            · rw [List.getElem?_eq_none (by rw [HTL.out]; omega), List.getElem?_eq_none (by simp [HTL.out]; omega)]
        case measure => simp [intOf]; omega
      · have hB3 : Below w.heap.size w w2 := hB.trans (hB2.mono hB.size)
        have hgl : w2.cell? ⟨1, 0, none⟩ = some (.iface 250 (.pointer (some (a 3)))) := (hE.below hB3).glob 3 (by decide)
        have HNO : Hid (¬ SetOk x) := hno
        clear hno hc
        go_wp2_with fail
        go_quiet (fail)
        go_wp2
        go_ret2
        exact .bad (hB3.trans ⟨rfl, rfl, rfl, Nat.le_refl _, fun _ _ => rfl⟩) hkl (by rw [HX.out]; exact HNO.out) rfl
    · obtain rfl : k = n := by omega
      have hok := HOK.out
      have hti := HTI.out
      have hln := HN.out
      rw [List.take_of_length_le (by omega)] at hok hti
      obtain ⟨xs, hxs⟩ := faces_of ts (sizes_of hti hok HE.out)
      have hxl : xs.length = k := by rw [← HTL.out, ← hxs]; simp
      have hseq := values_seq wr w.heap.size k xs (by omega) hrow.lt (fun j hj => by
        have h1 := hrow.cell (show j < k by omega)
        rw [Nat.zero_add, h1, ← hxs]
        simp [hj])
      have hEw := (hE.below hB).below ((Below.refl _ wr).alloc (Nat.le_refl _) (.cells #[.slice (some ⟨w.heap.size, 0, none⟩) xs.length k] 183))
      have hheap := heap_ 145 _ xs _ hEw (enters_of Tryz.func145 (by kernel_rfl) rfl) hseq
      have hval := (callsIn_wide (n := 10)).1 (values_made Fence.wide 10 trivial rfl (some ⟨w.heap.size, 0, none⟩) k k wr)
      rw [hxl] at hheap
      have HXS : Hid (xs.map Subtype.val = ts) := hxs
      have HFI : Hid (ts.map ints = l.map srt) := hti
      have HFO : Hid (∀ x ∈ l, SetOk x) := hok
      clear hok hti hln hxs hxl hseq hEw hrow ha
      go_wp2_with (go_at_call 138; refine hval.mono ?_; rintro e w2 ⟨rfl, rfl⟩)
      refine hheap.mono ?_
      have hBa : Below w.heap.size w (wr.alloc (.cells #[.slice (some ⟨w.heap.size, 0, none⟩) k k] 183)) := hB.alloc hB.size _
      rintro e w3 ⟨hB3, ⟨b, F, G, rfl, hP, hH⟩ | ⟨hov, rfl⟩⟩
      · clear hheap hval
        go_wp2
        go_ret2
        refine .rest hBa HFO.out HFI.out ⟨hB3, .inl ⟨b, F, G, rfl, hP, ?_⟩⟩
        rw [← HXS.out]; exact hH
      · clear hheap hval
        go_wp2
        go_ret2
        refine .rest hBa HFO.out HFI.out ⟨hB3, .inr ⟨?_, rfl⟩⟩
        rw [← HXS.out]; exact hov

end Go.Proofs.YtnnkmkhamipfiaaGreatDoor
