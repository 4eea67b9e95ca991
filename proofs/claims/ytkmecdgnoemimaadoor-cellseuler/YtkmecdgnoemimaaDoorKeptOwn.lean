/- A value appended onto a row of one's own: the longer row, and the row as it was, for as long as nobody writes behind it. What kept and facets answer, in memory that is the caller's own from then on. -/
import Derived.Test.YtkmecdgnoemimaaDoorHeapB
import Derived.Test.YtkmecdgnoemimaaDoorGather
import Derived.Lib.ConvBytes
import Derived.ArgAppend
import Derived.Maps.AppendAt
import Derived.Test.YtkmecdgnoemimaaDoorLists
import Derived.Sort.OwnSorted
import Derived.Maps.RangeWalk
namespace Go.Proofs.YtkmecdgnoemimaaDoor
open Go.RowKit Go.Shelf Go.Sort Go.Maps

theorem owns_size {w : World} {base n : Nat} {e : TypeId} {v : Value} {xs : List Value} (h : w.ownsRow base e 1 v n xs) : xs.length = n := by have := h.1; omega
theorem owns_base {w : World} {base base' n : Nat} {e : TypeId} {v : Value} {xs : List Value} (h : w.ownsRow base e 1 v n xs) (hb : base' ≤ base) : w.ownsRow base' e 1 v n xs := by
  refine ⟨h.1, ?_⟩
  rcases h.2 with h0 | ⟨g, cap, cur, h1, h2, h3⟩
  · exact .inl h0
  · exact .inr ⟨g, cap, cur, h1, by omega, h3⟩
/-- A row keeps as long as its block of cells does. -/
theorem owns_cells {w w' : World} {base n : Nat} {e : TypeId} {v : Value} {xs : List Value} (h : w.ownsRow base e 1 v n xs) (hk : KeepsCells w w') : w'.ownsRow base e 1 v n xs := by
  refine ⟨h.1, ?_⟩
  rcases h.2 with h0 | ⟨g, cap, cur, h1, h2, h3, h4⟩
  · exact .inl h0
  · exact .inr ⟨g, cap, cur, h1, h2, hk g _ h3 rfl, h4⟩
theorem owns_less {w : World} {base g n cap : Nat} {e : TypeId} {xs : List Value} {u : Value} (h : w.ownsRow base e 1 (.slice (some ⟨g, 0, none⟩) (n + 1) cap) (n + 1) (xs ++ [u])) : w.ownsRow base e 1 (.slice (some ⟨g, 0, none⟩) n cap) n xs := by
  have hl : xs.length = n := by have := h.1; simp at this; omega
  refine ⟨by omega, ?_⟩
  rcases h.2 with ⟨h0, -⟩ | ⟨g', cap', cur, h1, h2, h3, h4, h5, h6, h7⟩
  · cases h0
  · cases h1
    refine .inr ⟨g, cap, cur, rfl, h2, h3, by omega, h5, h6, ?_⟩
    have := congrArg (List.take n) h7
    rw [List.take_take, List.take_left' hl] at this
    rw [← this]; congr 1; omega

/-- All blocks of cells but a slice's own are as they were. -/
def Others (v : Value) (W W' : World) : Prop := W.heap.size ≤ W'.heap.size ∧ ∀ (j : Nat) (o : Obj), some j ≠ v.ownBlock → W.heap[j]? = some o → o.isCells = true → W'.heap[j]? = some o
theorem Others.refl (v : Value) (W : World) : Others v W W := ⟨Nat.le_refl _, fun _ _ _ h _ => h⟩
theorem Others.trans {v : Value} {A B C : World} (h : Others v A B) (k : Others v B C) : Others v A C := ⟨Nat.le_trans h.1 k.1, fun j o hj ho hc => k.2 j o hj (h.2 j o hj ho hc) hc⟩
theorem Others.of_cells {v : Value} {n : Nat} {W W' : World} (h : BelowC n W W') : Others v W W' := ⟨h.1.size, fun j o _ ho hc => h.2 j o ho hc⟩
theorem Others.before {v : Value} {A B C : World} (h : Below A.heap.size A B) (k : Others v B C) : Others v A C :=
  ⟨Nat.le_trans h.size k.1, fun j o hj ho hc => k.2 j o hj ((h.block j (Array.getElem?_eq_some_iff.1 ho).1).trans ho) hc⟩

/-- A value has been appended onto v: v1 is the longer row; v is as it was for as long as v1's first cells and all other blocks are. -/
structure Stepped (base : Nat) (e : TypeId) (n : Nat) (xs : List Value) (u : Value) (W : World) (v : Value) (w1 : World) (v1 : Value) : Prop where
  row : w1.ownsRow base e 1 v1 (n + 1) (xs ++ [u])
  below : Below base W w1
  back : ∀ W', Others v1 w1 W' → W'.ownsRow base e 1 v1 (n + 1) (xs ++ [u]) → W'.ownsRow base e 1 v n xs
  others : ∀ W', Others v1 w1 W' → Others v W W'
theorem Stepped.before {base : Nat} {e : TypeId} {n : Nat} {xs : List Value} {u : Value} {A W : World} {v : Value} {w1 : World} {v1 : Value} (h : Stepped base e n xs u W v w1 v1) (hA : Below A.heap.size A W) (hb : base ≤ A.heap.size) : Stepped base e n xs u A v w1 v1 :=
  ⟨h.row, (hA.mono hb).trans h.below, h.back, fun W' k => (h.others W' k).before hA⟩

theorem others_step {v v1 : Value} {W w1 : World} (hg : W.grownBy w1 v.ownBlock) (hd : v1.ownBlock = v.ownBlock ∨ ∀ b, v1.ownBlock = some b → W.heap.size ≤ b) (W' : World) (k : Others v1 w1 W') : Others v W W' := by
  refine ⟨Nat.le_trans hg.size k.1, fun j o hj ho hc => ?_⟩
  have hlt := (Array.getElem?_eq_some_iff.1 ho).1
  refine k.2 j o (fun e => ?_) ((hg.block j hlt hj).trans ho) hc
  rcases hd with hd | hd
  · exact hj (by rw [← hd]; exact e)
  · have := hd j e.symm
    omega

theorem append_path {P : Program} (w : World) (base : Nat) (t ty e : TypeId) (i : TypeInfo) (z : Value) (bytes : Nat) (ht : P.underlying t = some (.slice e)) (hi : P.info? e = some i) (hz : i.zero = some z) (hsize : i.size = 1) (hby : i.bytes = bytes) (hzs : z.cells.size = 1)
    (v : Value) (n : Nat) (xs : List Value) (hown : w.ownsRow base e 1 v n xs) (ad : Addr) (c : Nat) (u : Value) (hu : w.cell? ad = some u) (h1 : u.oneCell' = true) (hb : base ≤ w.heap.size) (hn : n ≤ 1000) (hbs : bytes ≤ 1000) :
    ∃ v' w', (Builtin.append_ #[t, t] ty #[v, .slice (some ad) 1 c]).run P w = .ok v' w' ∧ Stepped base e n xs u w v w' v' := by
  have hnew : ∀ (j : Nat) (x : Value), [u][j]? = some x → w.cell? (ad.add j) = some x := fun j x hj => by
    cases j with
    | zero =>
      obtain rfl : u = x := by simpa using hj
      rw [show ad.add 0 = ad from by cases ad; simp [Addr.add]]; exact hu
    | succ j => simp at hj
  have h1' : ∀ x ∈ [u], x.oneCell' = true := fun x hx => by rw [List.mem_singleton.1 hx]; exact h1
  have hbb : (n + 1) * bytes ≤ 140737488355328 := Nat.le_trans (Nat.mul_le_mul (show n + 1 ≤ 1001 by omega) hbs) (by decide)
  have hmx : n + 1 ≤ maxLen := by unfold maxLen; omega
  rcases hown.2 with ⟨rfl, rfl⟩ | ⟨g, cap, cur, rfl, hbg, hg, hnc, hcm, hcs, htake⟩
  · obtain ⟨v', w', hr, h2, h3, -, h5⟩ := run_append_own_at (P := P) w w.heap.size t ty e i z 1 bytes ht hi hz hsize hby hzs (by decide) (.slice none 0 0) 0 xs ⟨hown.1, .inl ⟨rfl, rfl⟩⟩ ad 1 c [u] rfl hnew h1' hmx hbb (Nat.le_refl _)
    refine ⟨v', w', hr, ⟨owns_base h2 hb, (Below.refl base w).grown h3 hb (fun k e => by simp [Value.ownBlock] at e), fun _ _ _ => ⟨hown.1, .inl ⟨rfl, rfl⟩⟩, others_step h3 ?_⟩⟩
    rcases h5 with h5 | h5
    · exact .inl h5
    · exact .inr (fun b hb' => by rw [h5] at hb'; cases hb'; exact Nat.le_refl _)
  · by_cases hroom : n + 1 ≤ cap
    · obtain ⟨w', hr, h2, h3⟩ := run_append_fits (P := P) w base t ty e i 1 ht hi hsize g n cap xs hown ad 1 c [u] rfl hnew h1' hroom
      exact ⟨_, w', hr, ⟨h2, (Below.refl base w).grown h3 hb (fun k e => by cases e; exact hbg), fun _ _ h => owns_less h, others_step h3 (.inl rfl)⟩⟩
    · have hold : ∀ (j : Nat) (x : Value), xs[j]? = some x → w.cell? ((⟨g, 0, none⟩ : Addr).add j) = some x := fun j x hj => by
        rw [Addr.add_lit, Nat.zero_add]
        rw [← htake, List.getElem?_take] at hj
        split at hj
        · simp [World.cell?, hg]; simpa using hj
        · cases hj
      obtain ⟨v', w', hr, h2, h3⟩ := run_append_arg_grows (P := P) w t ty e i z 1 bytes ht hi hz hsize hby hzs (by decide) ⟨g, 0, none⟩ n cap xs hown.1 hold ad 1 c [u] rfl hnew (by omega) hmx hbb
      have hgl := (Array.getElem?_eq_some_iff.1 hg).1
      have hnb : ∀ b, v'.ownBlock = some b → w.heap.size ≤ b := fun b hb' => by
        rcases h2.2 with ⟨rfl, h0⟩ | ⟨g', cap', cur', rfl, hbg', -⟩
        · omega
        · simp [Value.ownBlock] at hb'; omega
      have hg3 : w.grownBy w' (Value.slice (some ⟨g, 0, none⟩) n cap).ownBlock := ⟨h3.os, h3.tape, h3.output, h3.size, fun k hk _ => h3.block k hk (by simp)⟩
      refine ⟨v', w', hr, ⟨owns_base h2 hb, (Below.refl base w).grown h3 hb (fun k e => by cases e), fun W' k _ => ?_, others_step hg3 (.inr hnb)⟩⟩
      refine ⟨hown.1, .inr ⟨g, cap, cur, rfl, hbg, k.2 g _ (fun e => ?_) ((h3.block g hgl (by simp)).trans hg) rfl, hnc, hcm, hcs, htake⟩⟩
      have := hnb g e.symm
      omega

/-- A byte's value in a cell. -/
def byteV (c : UInt8) : Value := .int .u8 (c.toNat : Int)
/-- A path of bytes, in a row of one's own from a place on. -/
def PathAt (base : Nat) (W : World) (v : Value) (x : List UInt8) : Prop := W.ownsRow base 5 1 v x.length (x.map byteV)
theorem PathAt.cells {base : Nat} {W W' : World} {v : Value} {x : List UInt8} (h : PathAt base W v x) (hk : KeepsCells W W') : PathAt base W' v x := owns_cells h hk
theorem PathAt.nil (base : Nat) (W : World) : PathAt base W (.slice none 0 0) [] := World.ownsRow_nil _ _ _ _
theorem PathAt.form {base : Nat} {W : World} {v : Value} {x : List UInt8} (h : PathAt base W v x) (h0 : x ≠ []) : ∃ g cap, v = .slice (some ⟨g, 0, none⟩) x.length cap := by
  rcases h.2 with ⟨-, hn⟩ | ⟨g, cap, cur, rfl, -⟩
  · exact absurd (List.length_eq_zero_iff.1 hn) h0
  · exact ⟨g, cap, rfl⟩
theorem PathAt.back {base : Nat} {W : World} {v : Value} {x : List UInt8} (h : PathAt base W v x) (h0 : x ≠ []) : ∃ g cap, v = .slice (some ⟨g, 0, none⟩) x.length cap ∧ (convert 88 9 v).run Tryd.prog W = .ok (encStr x) W := by
  rcases h.2 with ⟨-, hn⟩ | ⟨g, cap, cur, rfl, -, hg, -, -, -, htake⟩
  · exact absurd (List.length_eq_zero_iff.1 hn) h0
  · refine ⟨g, cap, rfl, run_convert_bytes_back W 88 9 5 ⟨g, 0, none⟩ cap x Tryd.underlying88 Tryd.underlying5 Tryd.underlying9 (fun j hj => ?_)⟩
    rw [Addr.add_lit, Nat.zero_add]
    have h2 : (x.map byteV)[j]? = some (byteV x[j]) := by rw [List.getElem?_map, List.getElem?_eq_getElem hj]; rfl
    rw [← htake, List.getElem?_take] at h2
    split at h2
    · simp [World.cell?, hg]; simpa [byteV] using h2
    · cases h2

end Go.Proofs.YtkmecdgnoemimaaDoor

namespace Go.Proofs.YtkmecdgnoemimaaDoor
open Go.RowKit Go.Sort Go.Maps Go.Deep

/-- A row of texts of one's own. -/
def OwnStrs (base : Nat) (W : World) (v : Value) (xs : List (List UInt8)) : Prop := W.ownsRow base 9 1 v xs.length (xs.map encStr)
def KeptOwn (F : List (List UInt8)) (K : List UInt8 → Bool) (w : World) (e : Ending) (w' : World) : Prop :=
  ∃ v ss, e = .returned v ∧ OwnStrs w.heap.size w' v (srtS ss) ∧ ss.Nodup ∧ (∀ x, x ∈ ss ↔ x ∈ F ∧ K x = true) ∧ Below w.heap.size w w'
def FacetsOwn (F : List (List UInt8)) (G : List UInt8 → Prop) (w : World) (e : Ending) (w' : World) : Prop :=
  ∃ v ss, e = .returned v ∧ OwnStrs w.heap.size w' v (srtS ss) ∧ ss.Nodup ∧ (∀ x, x ∈ ss ↔ x ∈ F ∧ ¬ G x) ∧ Below w.heap.size w w'
theorem own_len {base n : Nat} {W : World} {v : Value} {xs : List (List UInt8)} (h : W.ownsRow base 9 1 v n (xs.map encStr)) : OwnStrs base W v xs := by
  have := h.1
  simp at this
  subst this
  exact h

set_option maxRecDepth 100000 in
set_option maxHeartbeats 2000000 in
theorem kept_own (b : Nat) (F : List (List UInt8)) (G : List UInt8 → Prop) (gk : Nat) (lbk : Array Value) (K : List UInt8 → Bool) (w : World) (hP : PileAt w b F G) (hF : F.length ≤ 100000) (_hx : ∀ x ∈ F, x.length ≤ 1000)
    (hent : ∀ args w, (callFunc gk args).run Tryd.prog w = .ok (.enter gk args) w)
    (hk : ∀ x ∈ F, ∀ W, Below w.heap.size w W → Calls Tryd.prog gk (#[encStr x] ++ lbk) W fun e W' => e = .returned (.bool (K x)) ∧ W' = W) :
    Calls Tryd.prog 44 #[.map (some b), .func (.func gk) #[] lbk] w fun e w' => KeptOwn F K w e w' := by
  obtain ⟨i0, hi, hz0, hz1, hz2⟩ := info_parts Tryd.info9
  obtain ⟨D, d1, d2, d3, -⟩ := hP
  have hbl := d1.lt
  have HD2 : Hid (∀ x : List UInt8, Maps.has D (.string x) = true ↔ x ∈ F) := d2
  have HK : Hid (∀ x ∈ F, ∀ W, Below w.heap.size w W → Calls Tryd.prog gk (#[encStr x] ++ lbk) W fun e W' => e = .returned (.bool (K x)) ∧ W' = W) := hk
  clear d2 hk
  go_enter Tryd.func44, Tryd.ntmps44
  go_wp2_with (first
    | (at_range; refine wpList_range_own _ rfl _ 49 rfl 9 3 law_string Tryd.underlying49 _ b _ _ rfl d1 ?_; intro w0 hrg0 hg0 hs0)
    | go_in)
  (try go_frame)
  go_loopw [5] (fun v wr => ∃ (left : Lit → Bool) (cnt : Nat) (ss : List (List UInt8)), wr.ranges Tryd.prog 9 (plainElem Tryd.prog 3) b w.heap.size F.length D left cnt ∧ ss.length + cnt ≤ F.length ∧
      wr.ownsRow (w.heap.size + 1) 9 1 v ss.length (ss.map encStr) ∧ KeptSo F K left ss ∧ Below w.heap.size w wr ∧ w.heap.size + 1 ≤ wr.heap.size)
    (fun _ wr => wr.rangeLeft b w.heap.size)
  case atStart =>
    refine ⟨_, _, [], hrg0, by rw [← d3]; simp, World.ownsRow_nil _ _ _ _, ⟨List.nodup_nil, fun x => ⟨fun h => (by cases h), fun ⟨⟨h1, _⟩, h2⟩ => ?_⟩⟩, (Below.refl _ _).grown hg0 (Nat.le_refl _) (fun j hj => by cases hj), by have := hrg0.lt; omega⟩
    rw [(HD2.out x).2 h1] at h2; cases h2
  case round =>
    obtain ⟨left, cnt, ss, hrg, hcs, hrow, hso, hnx, hsz⟩ := hrel
    go_wp2_with (first
      | (at_next; refine wpList_next_ranges _ rfl _ rfl 9 law_string (plainElem Tryd.prog 3) encStr (Value.int .i64) (fun key kl hk => by obtain ⟨x, hx, _⟩ := Maps.keyOf_str Tryd.underlying9 hk; exact ⟨x, hx⟩) (fun v y hv => by obtain ⟨c, rfl, _⟩ := plainElem_int_inv Tryd.underlying3 hv; exact ⟨c, rfl⟩) b w.heap.size F.length _ _ _ rfl hrg ?_ ?_)
      | go_in)
    · intro hc0 hl0
      have hmem : ∀ x, x ∈ ss ↔ x ∈ F ∧ K x = true := fun x => by rw [hso.2 x]; exact ⟨fun h => h.1, fun h => ⟨h, hl0 _⟩⟩
      have HMM : Hid (ss.Nodup ∧ ∀ x, x ∈ ss ↔ x ∈ F ∧ K x = true) := ⟨hso.1, hmem⟩
      clear hmem hso hl0 hrg
      rcases hrow.2 with ⟨rfl, hn0⟩ | ⟨g, cap, cur, rfl, hbase, hb, h1, h2, h3, h4⟩
      · have hss : ss = [] := List.length_eq_zero_iff.1 hn0
        have hc := Tryd.slices_Sort_string_none none 0 wr
        have HS : Hid (ss = []) := hss
        clear hss hn0 hrow
        go_wp2_with (go_at_call 65; refine hc.mono ?_; rintro e w' ⟨rfl, rfl⟩)
        go_ret
        refine ⟨_, ss, rfl, ?_, HMM.out.1, HMM.out.2, hnx⟩
        have e0 : srtS [] = [] := by simp [srtS]
        rw [HS.out, e0]
        exact World.ownsRow_nil _ _ _ _
      · have hH : Holds encStr wr g 0 ss.toArray := holds_of_block hb (by simpa using h4)
        have hgl : g < wr.heap.size := (Array.getElem?_eq_some_iff.1 hb).1
        have hc := Tryd.slices_Sort_string g 0 cap ss wr hH hgl (by omega)
        have hrow' := fun n os => ownsRow_sorted (n := n) (os := os) (ss := ss) (ts := srtS ss) (by simp [srtS]) hbase hb h1 h2 h3
        have HRW : Hid (∀ n os, (grow (putRow encStr (Sort.ahead wr n) g 0 (srtS ss).toArray) os).ownsRow (w.heap.size + 1) 9 1 (.slice (some ⟨g, 0, none⟩) ss.length cap) ss.length ((srtS ss).map encStr)) := hrow'
        clear hrow hH hrow'
        go_wp2_with (go_at_call 65; refine hc.mono ?_; rintro e w' ⟨rfl, nn, os, rfl⟩)
        go_ret
        refine ⟨_, ss, rfl, own_len (owns_base (HRW.out nn os) (by omega)), HMM.out.1, HMM.out.2, hnx.grown (grownBy_sorted _) hnx.size (fun j hj => by cases hj; omega)⟩
    · intro x c kl yd yp w2 cnt2 hkey hlk hv hat hrg2 hlt hg2 hs2 hen
      obtain ⟨x', ex, rfl, _⟩ := Maps.keyOf_str Tryd.underlying9 hkey
      obtain rfl : x = x' := encStr_inj ex
      have hxF : x ∈ F := (HD2.out x).1 (has_true_of_atKey hat)
      have hrow2 := hrow.kept hg2 (Or.inr (row_ne_iter hrow hrg).symm)
      have hB2 : Below w.heap.size w w2 := hnx.grown hg2 hnx.size (fun j hj => by cases hj; exact Nat.le_refl _)
      have hst := kept_step hso hlk hxF
      have hcall := HK.out x hxF w2 hB2
      have hsz2 : w.heap.size + 1 ≤ w2.heap.size := by have := hg2.size; omega
      have HST : Hid (KeptSo F K (fun z => left z && !z.sameKey (.string x)) (if K x = true then ss ++ [x] else ss)) := hst
      clear hs2 hst hso hkey hv hat ex
      go_wp2_with fail
      refine hcall.mono ?_
      rintro e w3 ⟨rfl, rfl⟩
      obtain ⟨st, hst⟩ : ∃ s : ByteArray, encStr x = .string s := ⟨_, rfl⟩
      rw [hst]
      have HSE : Hid (encStr x = .string st) := hst
      cases hkx : K x with
      | true =>
        have HKX : Hid (K x = true) := hkx
        have hne1 := row_ne_low hrow2 (show b < w.heap.size + 1 by omega)
        have hne2 := row_ne_iter hrow2 hrg2
        clear hkx hst hcall
        go_wp2_with (first
          | (at_builtin; refine wpList_append_slice rfl (.tmp 16) (.tmp 18) 52 rfl (w.heap.size + 1) 9 i0 (.string ⟨#[]⟩) 16 Tryd.underlying52 hi hz0 hz1 hz2 rfl _ _ _ rfl (hrow2.alloc _) _ [.string st] rfl (slice_one _ _ _) (by simp [Value.oneCell']) (by simp; omega) (by unfold maxLen; simp; omega) (by simp; omega) ?_; intro v4 w4 hown4 hg4 hl4)
          | go_in)
        (try go_frame)
        have hrg4 := (hrg2.alloc (.cells #[.string st] 9)).kept hg4 hne1 hne2
        go_roundw
        case rel =>
          have hso := HST.out
          rw [if_pos HKX.out] at hso
          refine ⟨_, cnt2, ss ++ [x], hrg4, by simp; omega, ?_, hso, (hB2.alloc hB2.size _).grown hg4 (by have := hB2.size; simp; omega) (fun j hj => by have := (hrow2.lt j hj).1; omega), by have := hg4.size; simp at this; omega⟩
          rw [List.map_append, List.length_append]
          simp only [List.map_cons, List.map_nil, HSE.out]
          exact hown4
        case measure => rw [hrg4.left_eq, hrg.left_eq]; exact hlt
      | false =>
        have HKX : Hid (K x = false) := hkx
        clear hkx hst hcall
        go_wp2
        go_roundw
        case rel =>
          have hso := HST.out
          rw [if_neg (by rw [HKX.out]; decide)] at hso
          exact ⟨_, cnt2, ss, hrg2, by omega, hrow2, hso, hB2, hsz2⟩
        case measure => rw [hrg2.left_eq, hrg.left_eq]; exact hlt

open Classical in
set_option maxRecDepth 100000 in
theorem facets_own (b : Nat) (F : List (List UInt8)) (G : List UInt8 → Prop) (w : World) (hP : PileAt w b F G) (hF : F.length ≤ 100000) (hx : ∀ x ∈ F, x.length ≤ 1000) :
    Calls Tryd.prog 40 #[.map (some b)] w fun e w' => FacetsOwn F G w e w' := by
  have hP1 := hP.below ((Below.refl _ w).alloc (Nat.le_refl _) (.cells #[.map (some b)] 49))
  have hbox := box_new w (.map (some b)) 49
  have hkept := kept_own b F G 62 #[.pointer (some ⟨w.heap.size, 0, none⟩)] (fun x => decide (¬ G x)) (w.alloc (.cells #[.map (some b)] 49)) hP1 hF hx (enters_of Tryd.func62 (by kernel_rfl) rfl)
    (fun x hxF W hW => outer_ b F G x w.heap.size _ W (hP1.below hW) ((hW.cell (p := ⟨w.heap.size, 0, none⟩) (by simp)).trans hbox.1) hxF (hx x hxF) (by simp))
  clear hP1
  have hb := hbox.1
  clear hbox
  go_enter Tryd.func40, Tryd.ntmps40
  go_wp2_with fail
  refine hkept.mono ?_
  rintro e w2 ⟨v, ss, rfl, h1, h2, h3, h4⟩
  go_wp2
  go_ret
  refine ⟨_, ss, rfl, owns_base h1 (by simp), h2, fun x => by rw [h3]; simp, ((Below.refl _ w).alloc (Nat.le_refl _) _).trans (h4.mono (by simp))⟩

end Go.Proofs.YtkmecdgnoemimaaDoor
