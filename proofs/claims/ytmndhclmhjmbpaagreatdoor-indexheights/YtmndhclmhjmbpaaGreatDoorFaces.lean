/- What kept answers: those faces of the map of which a function says so, in order, in new memory. What facets answers: the faces that are parts of no greater one, in order. What faces answers: the faces of a dimension, in order. -/
import Derived.Test.YtmndhclmhjmbpaaGreatDoorGather
import Derived.Test.YtmndhclmhjmbpaaGreatDoorShelf
import Derived.Sort.OwnSorted
import Derived.Maps.RangeWalk
import Derived.Maps.OwnOps
namespace Go.Proofs.YtmndhclmhjmbpaaGreatDoor
open Go.RowKit Go.Sort Go.Maps

/-- Texts in order. -/
def srtS (ss : List (List UInt8)) : List (List UInt8) := ss.mergeSort (fun x y => decide (x ≤ y))

/-- What kept answers. -/
def KeptSays (F : List (List UInt8)) (K : List UInt8 → Bool) (w : World) (e : Ending) (w' : World) : Prop :=
  ∃ v ss, e = .returned v ∧ StrsIn (fun b => w.heap.size ≤ b) w' v (srtS ss) ∧ ss.Nodup ∧ (∀ x, x ∈ ss ↔ x ∈ F ∧ K x = true) ∧ Below w.heap.size w w'

/-- What has been kept so far. -/
def KeptSo (F : List (List UInt8)) (K : List UInt8 → Bool) (left : Lit → Bool) (ss : List (List UInt8)) : Prop :=
  ss.Nodup ∧ ∀ x, x ∈ ss ↔ (x ∈ F ∧ K x = true) ∧ left (.string x) = false

theorem same_string (x y : List UInt8) : (Lit.string x).sameKey (.string y) = decide (x = y) := by
  by_cases h : x = y
  · subst h; simp [Lit.sameKey]
  · rw [sameKey_ne (string_ne h), decide_eq_false h]

theorem kept_step {F : List (List UInt8)} {K : List UInt8 → Bool} {left : Lit → Bool} {ss : List (List UInt8)} {x : List UInt8} (h : KeptSo F K left ss) (hl : left (.string x) = true) (hF : x ∈ F) :
    KeptSo F K (fun z => left z && !z.sameKey (.string x)) (if K x = true then ss ++ [x] else ss) := by
  have hn : x ∉ ss := fun hm => by rw [((h.2 x).1 hm).2] at hl; cases hl
  constructor
  · by_cases hk : K x = true
    · rw [if_pos hk, List.nodup_append]
      exact ⟨h.1, by simp, fun a ha b hb e => by simp at hb; subst hb; subst e; exact hn ha⟩
    · rw [if_neg hk]; exact h.1
  · intro y
    have key : y ∈ ss ↔ (y ∈ F ∧ K y = true) ∧ left (.string y) = false := h.2 y
    simp only [same_string]
    by_cases e : y = x
    · subst e
      by_cases hk : K y = true
      · simp [hk, hF]
      · simp [hk, hn]
    · have : (if K x = true then ss ++ [x] else ss).contains y = ss.contains y := by
        by_cases hk : K x = true <;> simp [hk, e]
      have hmem : y ∈ (if K x = true then ss ++ [x] else ss) ↔ y ∈ ss := by
        by_cases hk : K x = true <;> simp [hk, e]
      rw [hmem, key]
      simp [e]

set_option maxRecDepth 100000 in
set_option maxHeartbeats 2000000 in
theorem kept_ (b : Nat) (F : List (List UInt8)) (G : List UInt8 → Prop) (gk : Nat) (lbk : Array Value) (K : List UInt8 → Bool) (w : World) (hP : PileAt w b F G) (hF : F.length ≤ 100000) (_hx : ∀ x ∈ F, x.length ≤ 1000)
    (hent : ∀ args w, (callFunc gk args).run Tryz.prog w = .ok (.enter gk args) w)
    (hk : ∀ x ∈ F, ∀ W, Below w.heap.size w W → Calls Tryz.prog gk (#[encStr x] ++ lbk) W fun e W' => e = .returned (.bool (K x)) ∧ W' = W) :
    Calls Tryz.prog 112 #[.map (some b), .func (.func gk) #[] lbk] w fun e w' => KeptSays F K w e w' := by
  obtain ⟨i0, hi, hz0, hz1, hz2⟩ := info_parts Tryz.info9
  obtain ⟨D, d1, d2, d3, -⟩ := hP
  have hbl := d1.lt
  have HD2 : Hid (∀ x : List UInt8, Maps.has D (.string x) = true ↔ x ∈ F) := d2
  have HK : Hid (∀ x ∈ F, ∀ W, Below w.heap.size w W → Calls Tryz.prog gk (#[encStr x] ++ lbk) W fun e W' => e = .returned (.bool (K x)) ∧ W' = W) := hk
  clear d2 hk
  go_enter Tryz.func112, Tryz.ntmps112
  go_wp2_with (first
    | (at_range; refine wpList_range_own _ rfl _ 71 rfl 9 3 law_string Tryz.underlying71 _ b _ _ rfl d1 ?_; intro w0 hrg0 hg0 hs0)
    | go_in)
  (try go_frame)
  go_loopw [5] (fun v wr => ∃ (left : Lit → Bool) (cnt : Nat) (ss : List (List UInt8)), wr.ranges Tryz.prog 9 (plainElem Tryz.prog 3) b w.heap.size F.length D left cnt ∧ ss.length + cnt ≤ F.length ∧
      wr.ownsRow (w.heap.size + 1) 9 1 v ss.length (ss.map encStr) ∧ KeptSo F K left ss ∧ Below w.heap.size w wr ∧ w.heap.size + 1 ≤ wr.heap.size)
    (fun _ wr => wr.rangeLeft b w.heap.size)
  case atStart =>
    refine ⟨_, _, [], hrg0, by rw [← d3]; simp, World.ownsRow_nil _ _ _ _, ⟨List.nodup_nil, fun x => ⟨fun h => (by cases h), fun ⟨⟨h1, _⟩, h2⟩ => ?_⟩⟩, (Below.refl _ _).grown hg0 (Nat.le_refl _) (fun j hj => by cases hj), by have := hrg0.lt; omega⟩
    rw [(HD2.out x).2 h1] at h2; cases h2
  case round =>
    obtain ⟨left, cnt, ss, hrg, hcs, hrow, hso, hnx, hsz⟩ := hrel
    go_wp2_with (first
      | (at_next; refine wpList_next_ranges _ rfl _ rfl 9 law_string (plainElem Tryz.prog 3) encStr (Value.int .i64) (fun key kl hk => by obtain ⟨x, hx, _⟩ := Maps.keyOf_str Tryz.underlying9 hk; exact ⟨x, hx⟩) (fun v y hv => by obtain ⟨c, rfl, _⟩ := plainElem_int_inv Tryz.underlying3 hv; exact ⟨c, rfl⟩) b w.heap.size F.length _ _ _ rfl hrg ?_ ?_)
      | go_in)
    · intro hc0 hl0
      have hmem : ∀ x, x ∈ ss ↔ x ∈ F ∧ K x = true := fun x => by rw [hso.2 x]; exact ⟨fun h => h.1, fun h => ⟨h, hl0 _⟩⟩
      have HMM : Hid (ss.Nodup ∧ ∀ x, x ∈ ss ↔ x ∈ F ∧ K x = true) := ⟨hso.1, hmem⟩
      clear hmem hso hl0 hrg
      rcases hrow.2 with ⟨rfl, hn0⟩ | ⟨g, cap, cur, rfl, hbase, hb, h1, h2, h3, h4⟩
      · have hss : ss = [] := List.length_eq_zero_iff.1 hn0
        have hc := Tryz.slices_Sort_string_none none 0 wr
        have HS : Hid (ss = []) := hss
        clear hss hn0 hrow
        go_wp2_with (go_at_call 127; refine hc.mono ?_; rintro e w' ⟨rfl, rfl⟩)
        go_ret
        refine ⟨_, ss, rfl, ?_, HMM.out.1, HMM.out.2, hnx⟩
        have e0 : srtS [] = [] := by simp [srtS]
        rw [HS.out, e0]
        exact SliceIn.nil _ _
      · have hH : Holds encStr wr g 0 ss.toArray := holds_of_block hb (by simpa using h4)
        have hgl : g < wr.heap.size := (Array.getElem?_eq_some_iff.1 hb).1
        have hc := Tryz.slices_Sort_string g 0 cap ss wr hH hgl (by omega)
        have hrow' := fun n os => ownsRow_sorted (n := n) (os := os) (ss := ss) (ts := srtS ss) (by simp [srtS]) hbase hb h1 h2 h3
        have HRW : Hid (∀ n os, (grow (putRow encStr (Sort.ahead wr n) g 0 (srtS ss).toArray) os).ownsRow (w.heap.size + 1) 9 1 (.slice (some ⟨g, 0, none⟩) ss.length cap) ss.length ((srtS ss).map encStr)) := hrow'
        clear hrow hH hrow'
        go_wp2_with (go_at_call 127; refine hc.mono ?_; rintro e w' ⟨rfl, nn, os, rfl⟩)
        go_ret
        refine ⟨_, ss, rfl, slice_of_owns (HRW.out nn os) (fun b hb _ => by omega), HMM.out.1, HMM.out.2, hnx.grown (grownBy_sorted _) hnx.size (fun j hj => by cases hj; omega)⟩
    · intro x c kl yd yp w2 cnt2 hkey hlk hv hat hrg2 hlt hg2 hs2 hen
      obtain ⟨x', ex, rfl, _⟩ := Maps.keyOf_str Tryz.underlying9 hkey
      obtain rfl : x = x' := encStr_inj ex
      have hxF : x ∈ F := (HD2.out x).1 (has_true_of_atKey hat)
      have hrow2 := hrow.kept hg2 (Or.inr (row_ne_iter hrow hrg).symm)
      have hB2 : Below w.heap.size w w2 := hnx.grown hg2 hnx.size (fun j hj => by cases hj; exact Nat.le_refl _)
      have hst := kept_step hso hlk hxF
      have hcall := HK.out x hxF w2 hB2
      have hsz2 : w.heap.size + 1 ≤ w2.heap.size := by have := hg2.size; omega
      have HST : Hid (KeptSo F K (fun z => left z && !z.sameKey (.string x)) (if K x = true then ss ++ [x] else ss)) := hst
      clear hs2 hst hso hkey hv hat ex
      go_wp2_with fail
      refine hcall.mono ?_
      rintro e w3 ⟨rfl, rfl⟩
      obtain ⟨st, hst⟩ : ∃ s : ByteArray, encStr x = .string s := ⟨_, rfl⟩
      rw [hst]
      have HSE : Hid (encStr x = .string st) := hst
      cases hkx : K x with
      | true =>
        have HKX : Hid (K x = true) := hkx
        have hne1 := row_ne_low hrow2 (show b < w.heap.size + 1 by omega)
        have hne2 := row_ne_iter hrow2 hrg2
        clear hkx hst hcall
        go_wp2_with (first
          | (at_builtin; refine wpList_append_slice rfl (.tmp 16) (.tmp 18) 129 rfl (w.heap.size + 1) 9 i0 (.string ⟨#[]⟩) 16 Tryz.underlying129 hi hz0 hz1 hz2 rfl _ _ _ rfl (hrow2.alloc _) _ [.string st] rfl (slice_one _ _ _) (by simp [Value.oneCell']) (by simp; omega) (by unfold maxLen; simp; omega) (by simp; omega) ?_; intro v4 w4 hown4 hg4 hl4)
          | go_in)
        (try go_frame)
        have hrg4 := (hrg2.alloc (.cells #[.string st] 9)).kept hg4 hne1 hne2
        go_roundw
        case rel =>
          have hso := HST.out
          rw [if_pos HKX.out] at hso
          refine ⟨_, cnt2, ss ++ [x], hrg4, by simp; omega, ?_, hso, (hB2.alloc hB2.size _).grown hg4 (by have := hB2.size; simp; omega) (fun j hj => by have := (hrow2.lt j hj).1; omega), by have := hg4.size; simp at this; omega⟩
          rw [List.map_append, List.length_append]
          simp only [List.map_cons, List.map_nil, HSE.out]
          exact hown4
        case measure => rw [hrg4.left_eq, hrg.left_eq]; exact hlt
      | false =>
        have HKX : Hid (K x = false) := hkx
        clear hkx hst hcall
        go_wp2
        go_roundw
        case rel =>
          have hso := HST.out
          rw [if_neg (by rw [HKX.out]; decide)] at hso
          exact ⟨_, cnt2, ss, hrg2, by omega, hrow2, hso, hB2, hsz2⟩
        case measure => rw [hrg2.left_eq, hrg.left_eq]; exact hlt

end Go.Proofs.YtmndhclmhjmbpaaGreatDoor

namespace Go.Proofs.YtmndhclmhjmbpaaGreatDoor
open Go.RowKit Go.Sort Go.Maps

theorem outer_ (b : Nat) (F : List (List UInt8)) (G : List UInt8 → Prop) (x : List UInt8) (Bx : Nat) (q : Bool) (w : World) (hP : PileAt w b F G) (hB : w.cell? ⟨Bx, 0, none⟩ = some (.map (some b))) (hx : x ∈ F) (hl : x.length ≤ 1000) (hq : q = true ↔ ¬ G x) :
    Calls Tryz.prog 118 #[encStr x, .pointer (some ⟨Bx, 0, none⟩)] w fun e w' => e = .returned (.bool q) ∧ w' = w := by
  obtain ⟨D, d1, -, -, d4⟩ := hP
  have hkey := key_of x (by unfold maxLen; omega)
  have h4 := d4 x hx
  have HV : Hid (∀ c : Int, D.atKey (.string x) (.lit (.int .i64 0)) = .lit (.int .i64 c) → (c == 0) = q) := fun c hc => by
    cases q with
    | true =>
      rw [h4.2 (hq.1 rfl)] at hc
      cases hc; rfl
    | false =>
      have hg : G x := Classical.byContradiction (fun h => by have := hq.2 h; cases this)
      rw [h4.1 hg] at hc
      cases hc; rfl
  clear d4 h4 hq
  go_enter Tryz.func118, Tryz.ntmps118
  go_wp2_with (first
    | (at_lookup; refine wpList_lookup_own_int _ rfl _ _ 71 rfl 9 3 .i64 law_string Tryz.underlying71 Tryz.underlying3 (zero_int _) b _ _ rfl d1 _ _ rfl hkey ?_; intro c hat hwc)
    | go_in)
  go_ret
  exact ⟨by rw [← HV.out c hat]; rfl, rfl⟩

/-- What facets answers. -/
def FacetsSays (F : List (List UInt8)) (G : List UInt8 → Prop) (w : World) (e : Ending) (w' : World) : Prop :=
  ∃ v ss, e = .returned v ∧ StrsIn (fun b => w.heap.size ≤ b) w' v (srtS ss) ∧ ss.Nodup ∧ (∀ x, x ∈ ss ↔ x ∈ F ∧ ¬ G x) ∧ Below w.heap.size w w'

open Classical in
set_option maxRecDepth 100000 in
theorem facets_ (b : Nat) (F : List (List UInt8)) (G : List UInt8 → Prop) (w : World) (hP : PileAt w b F G) (hF : F.length ≤ 100000) (hx : ∀ x ∈ F, x.length ≤ 1000) :
    Calls Tryz.prog 99 #[.map (some b)] w fun e w' => FacetsSays F G w e w' := by
  have hP1 := hP.below ((Below.refl _ w).alloc (Nat.le_refl _) (.cells #[.map (some b)] 71))
  have hbox := box_new w (.map (some b)) 71
  have hkept := kept_ b F G 118 #[.pointer (some ⟨w.heap.size, 0, none⟩)] (fun x => decide (¬ G x)) (w.alloc (.cells #[.map (some b)] 71)) hP1 hF hx (enters_of Tryz.func118 (by kernel_rfl) rfl)
    (fun x hxF W hW => outer_ b F G x w.heap.size _ W (hP1.below hW) ((hW.cell (p := ⟨w.heap.size, 0, none⟩) (by simp)).trans hbox.1) hxF (hx x hxF) (by simp))
  clear hP1
  have hb := hbox.1
  clear hbox
  go_enter Tryz.func99, Tryz.ntmps99
  go_wp2_with fail
  refine hkept.mono ?_
  rintro e w2 ⟨v, ss, rfl, h1, h2, h3, h4⟩
  go_wp2
  go_ret
  refine ⟨_, ss, rfl, h1.mono (fun b _ h => by simp at h; omega), h2, fun x => by rw [h3]; simp, ((Below.refl _ w).alloc (Nat.le_refl _) _).trans (h4.mono (by simp))⟩

end Go.Proofs.YtmndhclmhjmbpaaGreatDoor

namespace Go.Proofs.YtmndhclmhjmbpaaGreatDoor
open Go.RowKit Go.Sort Go.Maps

theorem beq_decide (a b : Int) : (a == b) = decide (a = b) := by
  by_cases h : a = b
  · subst h; simp
  · rw [decide_eq_false h, beq_false_of_ne h]

theorem of_dim_ (x : List UInt8) (dim : Int) (Bx : Nat) (w : World) (hB : w.cell? ⟨Bx, 0, none⟩ = some (.int .i64 dim)) (hl : x.length ≤ 1000) :
    Calls Tryz.prog 113 #[encStr x, .pointer (some ⟨Bx, 0, none⟩)] w fun e w' => e = .returned (.bool (decide ((x.length : Int) - 1 = dim))) ∧ w' = w := by
  have hsz : (⟨x.toArray⟩ : ByteArray).size = x.length := by simp [ByteArray.size]
  show Calls Tryz.prog 113 #[.string ⟨x.toArray⟩, .pointer (some ⟨Bx, 0, none⟩)] w _
  go_enter Tryz.func113, Tryz.ntmps113
  go_wp2
  go_ret
  exact ⟨by show Ending.returned (.bool ((x.length : Int) - 1 == dim)) = _; rw [beq_decide], rfl⟩

/-- What faces answers. -/
def FacesSays (F : List (List UInt8)) (dim : Int) (w : World) (e : Ending) (w' : World) : Prop :=
  ∃ v ss, e = .returned v ∧ StrsIn (fun b => w.heap.size ≤ b) w' v (srtS ss) ∧ ss.Nodup ∧ (∀ x, x ∈ ss ↔ x ∈ F ∧ (x.length : Int) - 1 = dim) ∧ Below w.heap.size w w'

set_option maxRecDepth 100000 in
theorem faces_ (b : Nat) (F : List (List UInt8)) (G : List UInt8 → Prop) (dim : Int) (w : World) (hP : PileAt w b F G) (hF : F.length ≤ 100000) (hx : ∀ x ∈ F, x.length ≤ 1000) :
    Calls Tryz.prog 88 #[.map (some b), .int .i64 dim] w fun e w' => FacesSays F dim w e w' := by
  have hP1 := hP.below ((Below.refl _ w).alloc (Nat.le_refl _) (.cells #[.int .i64 dim] 3))
  have hbox := box_new w (.int .i64 dim) 3
  have hkept := kept_ b F G 113 #[.pointer (some ⟨w.heap.size, 0, none⟩)] (fun x => decide ((x.length : Int) - 1 = dim)) (w.alloc (.cells #[.int .i64 dim] 3)) hP1 hF hx (enters_of Tryz.func113 (by kernel_rfl) rfl)
    (fun x hxF W hW => of_dim_ x dim w.heap.size W ((hW.cell (p := ⟨w.heap.size, 0, none⟩) (by simp)).trans hbox.1) (hx x hxF))
  clear hP1
  have hb := hbox.1
  clear hbox
  go_enter Tryz.func88, Tryz.ntmps88
  go_wp2_with fail
  refine hkept.mono ?_
  rintro e w2 ⟨v, ss, rfl, h1, h2, h3, h4⟩
  go_wp2
  go_ret
  refine ⟨_, ss, rfl, h1.mono (fun b _ h => by simp at h; omega), h2, fun x => by rw [h3]; simp, ((Below.refl _ w).alloc (Nat.le_refl _) _).trans (h4.mono (by simp))⟩

end Go.Proofs.YtmndhclmhjmbpaaGreatDoor
