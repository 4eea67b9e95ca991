/- What the calls have in common that make a complex of texts. What kept answers, where the test is a method's value. -/
import Derived.Test.YtkmecdgnoemimaaDoorJoinMath
import Derived.Test.YtkmecdgnoemimaaDoorBuilt
import Derived.Test.YtkmecdgnoemimaaDoorKept
import Derived.Sort.OwnSorted
import Derived.Maps.RangeWalk
namespace Go.Proofs.YtkmecdgnoemimaaDoor
open Go.RowKit Go.Shelf Go.Sort Go.Maps Go.Deep

theorem isFacets_of {g g' L : List (List Int)} (h : ∀ x, FaceOf g x ↔ FaceOf g' x) (hL : IsFacets g L) : IsFacets g' L where
  order := hL.order
  mem := fun x => by
    rw [hL.mem, inner_face, inner_face, h]
    simp only [h]

/-- What a call answers that makes a complex: an error, or the facets of one. -/
def PartG (a : Nat → Addr) (bad : Nat → Prop) (good : List (List Int) → Prop) (w : World) (e : Ending) (w' : World) : Prop :=
  Below w.heap.size w w' ∧ ((∃ i, bad i ∧ e = .returned (.tuple #[.agg #[.slice none 0 0], .iface 165 (.pointer (some (a i)))])) ∨
    ∃ v L, good L ∧ e = .returned (.tuple #[.agg #[v], .nilIface]) ∧ OwnRows w.heap.size w' v L)

/-- Two variables, laid one behind the other. -/
theorem two_boxes (w : World) (v u : Value) (t t' : TypeId) : (((w.alloc (.cells #[v] t)).alloc (.cells #[u] t')).cell? ⟨w.heap.size, 0, none⟩ = some v ∧ ((w.alloc (.cells #[v] t)).alloc (.cells #[u] t')).frozen? ⟨w.heap.size, 0, none⟩ = false) ∧
    (((w.alloc (.cells #[v] t)).alloc (.cells #[u] t')).cell? ⟨w.heap.size + 1, 0, none⟩ = some u ∧ ((w.alloc (.cells #[v] t)).alloc (.cells #[u] t')).frozen? ⟨w.heap.size + 1, 0, none⟩ = false) := by
  refine ⟨box_alloc _ (box_new w v t), ?_⟩
  have := box_new (w.alloc (.cells #[v] t)) u t'
  rwa [World.size_alloc] at this
theorem two_below (w : World) (v u : Value) (t t' : TypeId) : Below w.heap.size w ((w.alloc (.cells #[v] t)).alloc (.cells #[u] t')) := ((Below.refl _ w).alloc (Nat.le_refl _) _).alloc (by simp) _
theorem two_size (w : World) (o o' : Obj) : ((w.alloc o).alloc o').heap.size = w.heap.size + 2 := by simp

/-- Texts that lie somewhere are built. -/
theorem built_values {a : Nat → Addr} {s : Nat → ByteArray} (W : World) (av : Option Addr) (n cv : Nat) (fs : List (List UInt8)) (hn : fs.length = n) (h6 : fs.length ≤ 100000) (hf : ∀ x ∈ fs, 0 < x.length ∧ x.length ≤ 1000) (hs : Strs W (.slice av n cv) fs) (hE : Errs a s W) :
    Calls Tryd.prog 27 #[.func (.func 63) #[] #[.pointer (some ⟨W.heap.size, 0, none⟩)]] (W.alloc (.cells #[.slice av n cv] 52)) fun e w' => BuiltSays a fs (W.alloc (.cells #[.slice av n cv] 52)) e w' := by
  obtain ⟨xs, hxs⟩ := faces_of fs hf
  have hxl : xs.length = fs.length := by rw [← hxs]; simp
  have hb := built_ 63 _ xs _ (hE.below ((Below.refl _ W).alloc (Nat.le_refl _) (.cells #[.slice av n cv] 52))) (enters_of Tryd.func63 (by kernel_rfl) rfl) (values_any W av n cv xs (by omega) (by omega) (by rw [hxs]; exact hs))
  rw [hxs] at hb
  exact hb

theorem sub_over {l all : List (List Int)} {fs : List (List UInt8)} (g : Good l all) (h : ∀ t ∈ fs.map ints, t ∈ all) : ¬ Over fs := fun ho => g.notOver h (over_ints.2 ho)

theorem three_size (w : World) (o o' o'' : Obj) : (((w.alloc o).alloc o').alloc o'').heap.size = w.heap.size + 3 := by simp
theorem three_boxes (w : World) (v u z : Value) (t t' t'' : TypeId) : (((w.alloc (.cells #[v] t)).alloc (.cells #[u] t')).alloc (.cells #[z] t'')).cell? ⟨w.heap.size, 0, none⟩ = some v ∧
    (((w.alloc (.cells #[v] t)).alloc (.cells #[u] t')).alloc (.cells #[z] t'')).cell? ⟨w.heap.size + 1, 0, none⟩ = some u ∧
    ((((w.alloc (.cells #[v] t)).alloc (.cells #[u] t')).alloc (.cells #[z] t'')).cell? ⟨w.heap.size + 1 + 1, 0, none⟩ = some z ∧ (((w.alloc (.cells #[v] t)).alloc (.cells #[u] t')).alloc (.cells #[z] t'')).frozen? ⟨w.heap.size + 1 + 1, 0, none⟩ = false) := by
  have h2 := two_boxes w v u t t'
  refine ⟨(box_alloc _ h2.1).1, (box_alloc _ h2.2).1, ?_⟩
  have := box_new ((w.alloc (.cells #[v] t)).alloc (.cells #[u] t')) z t''
  rwa [World.size_alloc, World.size_alloc] at this
theorem three_below (w : World) (v u z : Value) (t t' t'' : TypeId) : Below w.heap.size w (((w.alloc (.cells #[v] t)).alloc (.cells #[u] t')).alloc (.cells #[z] t'')) := (two_below w v u t t').alloc (by simp; omega) _

end Go.Proofs.YtkmecdgnoemimaaDoor

namespace Go.Proofs.YtkmecdgnoemimaaDoor
open Go.RowKit Go.Sort Go.Maps

set_option maxRecDepth 100000 in
set_option maxHeartbeats 2000000 in
theorem kept_b (b : Nat) (F : List (List UInt8)) (G : List UInt8 → Prop) (gk : Nat) (bnd lbk : Array Value) (K : List UInt8 → Bool) (w : World) (hP : PileAt w b F G) (hF : F.length ≤ 100000) (_hx : ∀ x ∈ F, x.length ≤ 1000)
    (hent : ∀ args w, (callFunc gk args).run Tryd.prog w = .ok (.enter gk args) w)
    (hk : ∀ x ∈ F, ∀ W, Below w.heap.size w W → Calls Tryd.prog gk (bnd ++ #[encStr x] ++ lbk) W fun e W' => e = .returned (.bool (K x)) ∧ W' = W) :
    Calls Tryd.prog 44 #[.map (some b), .func (.func gk) bnd lbk] w fun e w' => KeptSays F K w e w' := by
  obtain ⟨i0, hi, hz0, hz1, hz2⟩ := info_parts Tryd.info9
  obtain ⟨D, d1, d2, d3, -⟩ := hP
  have hbl := d1.lt
  have HD2 : Hid (∀ x : List UInt8, Maps.has D (.string x) = true ↔ x ∈ F) := d2
  have HK : Hid (∀ x ∈ F, ∀ W, Below w.heap.size w W → Calls Tryd.prog gk (bnd ++ #[encStr x] ++ lbk) W fun e W' => e = .returned (.bool (K x)) ∧ W' = W) := hk
  clear d2 hk
  go_enter Tryd.func44, Tryd.ntmps44
  go_wp2_with (first
    | (at_range; refine wpList_range_own _ rfl _ 49 rfl 9 3 law_string Tryd.underlying49 _ b _ _ rfl d1 ?_; intro w0 hrg0 hg0 hs0)
    | go_in)
  (try go_frame)
  go_loopw [5] (fun v wr => ∃ (left : Lit → Bool) (cnt : Nat) (ss : List (List UInt8)), wr.ranges Tryd.prog 9 (plainElem Tryd.prog 3) b w.heap.size F.length D left cnt ∧ ss.length + cnt ≤ F.length ∧
      wr.ownsRow (w.heap.size + 1) 9 1 v ss.length (ss.map encStr) ∧ KeptSo F K left ss ∧ Below w.heap.size w wr ∧ w.heap.size + 1 ≤ wr.heap.size)
    (fun _ wr => wr.rangeLeft b w.heap.size)
  case atStart =>
    refine ⟨_, _, [], hrg0, by rw [← d3]; simp, World.ownsRow_nil _ _ _ _, ⟨List.nodup_nil, fun x => ⟨fun h => (by cases h), fun ⟨⟨h1, _⟩, h2⟩ => ?_⟩⟩, (Below.refl _ _).grown hg0 (Nat.le_refl _) (fun j hj => by cases hj), by have := hrg0.lt; omega⟩
    rw [(HD2.out x).2 h1] at h2; cases h2
  case round =>
    obtain ⟨left, cnt, ss, hrg, hcs, hrow, hso, hnx, hsz⟩ := hrel
    go_wp2_with (first
      | (at_next; refine wpList_next_ranges _ rfl _ rfl 9 law_string (plainElem Tryd.prog 3) encStr (Value.int .i64) (fun key kl hk => by obtain ⟨x, hx, _⟩ := Maps.keyOf_str Tryd.underlying9 hk; exact ⟨x, hx⟩) (fun v y hv => by obtain ⟨c, rfl, _⟩ := plainElem_int_inv Tryd.underlying3 hv; exact ⟨c, rfl⟩) b w.heap.size F.length _ _ _ rfl hrg ?_ ?_)
      | go_in)
    · intro hc0 hl0
      have hmem : ∀ x, x ∈ ss ↔ x ∈ F ∧ K x = true := fun x => by rw [hso.2 x]; exact ⟨fun h => h.1, fun h => ⟨h, hl0 _⟩⟩
      have HMM : Hid (ss.Nodup ∧ ∀ x, x ∈ ss ↔ x ∈ F ∧ K x = true) := ⟨hso.1, hmem⟩
      clear hmem hso hl0 hrg
      rcases hrow.2 with ⟨rfl, hn0⟩ | ⟨g, cap, cur, rfl, hbase, hb, h1, h2, h3, h4⟩
      · have hss : ss = [] := List.length_eq_zero_iff.1 hn0
        have hc := Tryd.slices_Sort_string_none none 0 wr
        have HS : Hid (ss = []) := hss
        clear hss hn0 hrow
        go_wp2_with (go_at_call 65; refine hc.mono ?_; rintro e w' ⟨rfl, rfl⟩)
        go_ret
        refine ⟨_, ss, rfl, ?_, HMM.out.1, HMM.out.2, hnx⟩
        have e0 : srtS [] = [] := by simp [srtS]
        rw [HS.out, e0]
        exact SliceIn.nil _ _
      · have hH : Holds encStr wr g 0 ss.toArray := holds_of_block hb (by simpa using h4)
        have hgl : g < wr.heap.size := (Array.getElem?_eq_some_iff.1 hb).1
        have hc := Tryd.slices_Sort_string g 0 cap ss wr hH hgl (by omega)
        have hrow' := fun n os => ownsRow_sorted (n := n) (os := os) (ss := ss) (ts := srtS ss) (by simp [srtS]) hbase hb h1 h2 h3
        have HRW : Hid (∀ n os, (grow (putRow encStr (Sort.ahead wr n) g 0 (srtS ss).toArray) os).ownsRow (w.heap.size + 1) 9 1 (.slice (some ⟨g, 0, none⟩) ss.length cap) ss.length ((srtS ss).map encStr)) := hrow'
        clear hrow hH hrow'
        go_wp2_with (go_at_call 65; refine hc.mono ?_; rintro e w' ⟨rfl, nn, os, rfl⟩)
        go_ret
        refine ⟨_, ss, rfl, slice_of_owns (HRW.out nn os) (fun b hb _ => by omega), HMM.out.1, HMM.out.2, hnx.grown (grownBy_sorted _) hnx.size (fun j hj => by cases hj; omega)⟩
    · intro x c kl yd yp w2 cnt2 hkey hlk hv hat hrg2 hlt hg2 hs2 hen
      obtain ⟨x', ex, rfl, _⟩ := Maps.keyOf_str Tryd.underlying9 hkey
      obtain rfl : x = x' := encStr_inj ex
      have hxF : x ∈ F := (HD2.out x).1 (has_true_of_atKey hat)
      have hrow2 := hrow.kept hg2 (Or.inr (row_ne_iter hrow hrg).symm)
      have hB2 : Below w.heap.size w w2 := hnx.grown hg2 hnx.size (fun j hj => by cases hj; exact Nat.le_refl _)
      have hst := kept_step hso hlk hxF
      have hcall := HK.out x hxF w2 hB2
      have hsz2 : w.heap.size + 1 ≤ w2.heap.size := by have := hg2.size; omega
      have HST : Hid (KeptSo F K (fun z => left z && !z.sameKey (.string x)) (if K x = true then ss ++ [x] else ss)) := hst
      clear hs2 hst hso hkey hv hat ex
      go_wp2_with fail
      refine hcall.mono ?_
      rintro e w3 ⟨rfl, rfl⟩
      obtain ⟨st, hst⟩ : ∃ s : ByteArray, encStr x = .string s := ⟨_, rfl⟩
      rw [hst]
      have HSE : Hid (encStr x = .string st) := hst
      cases hkx : K x with
      | true =>
        have HKX : Hid (K x = true) := hkx
        have hne1 := row_ne_low hrow2 (show b < w.heap.size + 1 by omega)
        have hne2 := row_ne_iter hrow2 hrg2
        clear hkx hst hcall
        go_wp2_with (first
          | (at_builtin; refine wpList_append_slice rfl (.tmp 16) (.tmp 18) 52 rfl (w.heap.size + 1) 9 i0 (.string ⟨#[]⟩) 16 Tryd.underlying52 hi hz0 hz1 hz2 rfl _ _ _ rfl (hrow2.alloc _) _ [.string st] rfl (slice_one _ _ _) (by simp [Value.oneCell']) (by simp; omega) (by unfold maxLen; simp; omega) (by simp; omega) ?_; intro v4 w4 hown4 hg4 hl4)
          | go_in)
        (try go_frame)
        have hrg4 := (hrg2.alloc (.cells #[.string st] 9)).kept hg4 hne1 hne2
        go_roundw
        case rel =>
          have hso := HST.out
          rw [if_pos HKX.out] at hso
          refine ⟨_, cnt2, ss ++ [x], hrg4, by simp; omega, ?_, hso, (hB2.alloc hB2.size _).grown hg4 (by have := hB2.size; simp; omega) (fun j hj => by have := (hrow2.lt j hj).1; omega), by have := hg4.size; simp at this; omega⟩
          rw [List.map_append, List.length_append]
          simp only [List.map_cons, List.map_nil, HSE.out]
          exact hown4
        case measure => rw [hrg4.left_eq, hrg.left_eq]; exact hlt
      | false =>
        have HKX : Hid (K x = false) := hkx
        clear hkx hst hcall
        go_wp2
        go_roundw
        case rel =>
          have hso := HST.out
          rw [if_neg (by rw [HKX.out]; decide)] at hso
          exact ⟨_, cnt2, ss, hrg2, by omega, hrow2, hso, hB2, hsz2⟩
        case measure => rw [hrg2.left_eq, hrg.left_eq]; exact hlt

end Go.Proofs.YtkmecdgnoemimaaDoor
