/- What kept answers: those faces of the map of which a function says so, in order, in new memory. How many faces there are of each length, and their number with signs, told by any list of the faces. -/
import Derived.Test.YthmjdfjchhohgaaGreatDoorGather
import Derived.Test.YthmjdfjchhohgaaGreatDoorShelf
import Derived.Sort.OwnSorted
import Derived.Maps.RangeWalk
import Derived.Test.YthmjdfjchhohgaaGreatDoorClosedDefs
namespace Go.Proofs.YthmjdfjchhohgaaGreatDoor
open Go.RowKit Go.Sort Go.Maps

/-- Texts in order. -/
def srtS (ss : List (List UInt8)) : List (List UInt8) := ss.mergeSort (fun x y => decide (x ≤ y))

/-- What kept answers. -/
def KeptSays (F : List (List UInt8)) (K : List UInt8 → Bool) (w : World) (e : Ending) (w' : World) : Prop :=
  ∃ v ss, e = .returned v ∧ StrsIn (fun b => w.heap.size ≤ b) w' v (srtS ss) ∧ ss.Nodup ∧ (∀ x, x ∈ ss ↔ x ∈ F ∧ K x = true) ∧ Below w.heap.size w w'

/-- What has been kept so far. -/
def KeptSo (F : List (List UInt8)) (K : List UInt8 → Bool) (left : Lit → Bool) (ss : List (List UInt8)) : Prop :=
  ss.Nodup ∧ ∀ x, x ∈ ss ↔ (x ∈ F ∧ K x = true) ∧ left (.string x) = false

theorem same_string (x y : List UInt8) : (Lit.string x).sameKey (.string y) = decide (x = y) := by
  by_cases h : x = y
  · subst h; simp [Lit.sameKey]
  · rw [sameKey_ne (string_ne h), decide_eq_false h]

theorem kept_step {F : List (List UInt8)} {K : List UInt8 → Bool} {left : Lit → Bool} {ss : List (List UInt8)} {x : List UInt8} (h : KeptSo F K left ss) (hl : left (.string x) = true) (hF : x ∈ F) :
    KeptSo F K (fun z => left z && !z.sameKey (.string x)) (if K x = true then ss ++ [x] else ss) := by
  have hn : x ∉ ss := fun hm => by rw [((h.2 x).1 hm).2] at hl; cases hl
  constructor
  · by_cases hk : K x = true
    · rw [if_pos hk, List.nodup_append]
      exact ⟨h.1, by simp, fun a ha b hb e => by simp at hb; subst hb; subst e; exact hn ha⟩
    · rw [if_neg hk]; exact h.1
  · intro y
    have key : y ∈ ss ↔ (y ∈ F ∧ K y = true) ∧ left (.string y) = false := h.2 y
    simp only [same_string]
    by_cases e : y = x
    · subst e
      by_cases hk : K y = true
      · simp [hk, hF]
      · simp [hk, hn]
    · have : (if K x = true then ss ++ [x] else ss).contains y = ss.contains y := by
        by_cases hk : K x = true <;> simp [hk, e]
      have hmem : y ∈ (if K x = true then ss ++ [x] else ss) ↔ y ∈ ss := by
        by_cases hk : K x = true <;> simp [hk, e]
      rw [hmem, key]
      simp [e]

set_option maxRecDepth 100000 in
set_option maxHeartbeats 2000000 in
theorem kept_ (b : Nat) (F : List (List UInt8)) (G : List UInt8 → Prop) (gk : Nat) (lbk : Array Value) (K : List UInt8 → Bool) (w : World) (hP : PileAt w b F G) (hF : F.length ≤ 100000) (_hx : ∀ x ∈ F, x.length ≤ 1000)
    (hent : ∀ args w, (callFunc gk args).run Tryz.prog w = .ok (.enter gk args) w)
    (hk : ∀ x ∈ F, ∀ W, Below w.heap.size w W → Calls Tryz.prog gk (#[encStr x] ++ lbk) W fun e W' => e = .returned (.bool (K x)) ∧ W' = W) :
    Calls Tryz.prog 112 #[.map (some b), .func (.func gk) #[] lbk] w fun e w' => KeptSays F K w e w' := by
  obtain ⟨i0, hi, hz0, hz1, hz2⟩ := info_parts Tryz.info9
  obtain ⟨D, d1, d2, d3, -⟩ := hP
  have hbl := d1.lt
  have HD2 : Hid (∀ x : List UInt8, Maps.has D (.string x) = true ↔ x ∈ F) := d2
  have HK : Hid (∀ x ∈ F, ∀ W, Below w.heap.size w W → Calls Tryz.prog gk (#[encStr x] ++ lbk) W fun e W' => e = .returned (.bool (K x)) ∧ W' = W) := hk
  clear d2 hk
  go_enter Tryz.func112, Tryz.ntmps112
  go_wp2_with (first
    | (at_range; refine wpList_range_own _ rfl _ 71 rfl 9 3 law_string Tryz.underlying71 _ b _ _ rfl d1 ?_; intro w0 hrg0 hg0 hs0)
    | go_in)
  (try go_frame)
  go_loopw [5] (fun v wr => ∃ (left : Lit → Bool) (cnt : Nat) (ss : List (List UInt8)), wr.ranges Tryz.prog 9 (plainElem Tryz.prog 3) b w.heap.size F.length D left cnt ∧ ss.length + cnt ≤ F.length ∧
      wr.ownsRow (w.heap.size + 1) 9 1 v ss.length (ss.map encStr) ∧ KeptSo F K left ss ∧ Below w.heap.size w wr ∧ w.heap.size + 1 ≤ wr.heap.size)
    (fun _ wr => wr.rangeLeft b w.heap.size)
  case atStart =>
    refine ⟨_, _, [], hrg0, by rw [← d3]; simp, World.ownsRow_nil _ _ _ _, ⟨List.nodup_nil, fun x => ⟨fun h => (by cases h), fun ⟨⟨h1, _⟩, h2⟩ => ?_⟩⟩, (Below.refl _ _).grown hg0 (Nat.le_refl _) (fun j hj => by cases hj), by have := hrg0.lt; omega⟩
    rw [(HD2.out x).2 h1] at h2; cases h2
  case round =>
    obtain ⟨left, cnt, ss, hrg, hcs, hrow, hso, hnx, hsz⟩ := hrel
    go_wp2_with (first
      | (at_next; refine wpList_next_ranges _ rfl _ rfl 9 law_string (plainElem Tryz.prog 3) encStr (Value.int .i64) (fun key kl hk => by obtain ⟨x, hx, _⟩ := Maps.keyOf_str Tryz.underlying9 hk; exact ⟨x, hx⟩) (fun v y hv => by obtain ⟨c, rfl, _⟩ := plainElem_int_inv Tryz.underlying3 hv; exact ⟨c, rfl⟩) b w.heap.size F.length _ _ _ rfl hrg ?_ ?_)
      | go_in)
    · intro hc0 hl0
      have hmem : ∀ x, x ∈ ss ↔ x ∈ F ∧ K x = true := fun x => by rw [hso.2 x]; exact ⟨fun h => h.1, fun h => ⟨h, hl0 _⟩⟩
      have HMM : Hid (ss.Nodup ∧ ∀ x, x ∈ ss ↔ x ∈ F ∧ K x = true) := ⟨hso.1, hmem⟩
      clear hmem hso hl0 hrg
      rcases hrow.2 with ⟨rfl, hn0⟩ | ⟨g, cap, cur, rfl, hbase, hb, h1, h2, h3, h4⟩
      · have hss : ss = [] := List.length_eq_zero_iff.1 hn0
        have hc := Tryz.slices_Sort_string_none none 0 wr
        have HS : Hid (ss = []) := hss
        clear hss hn0 hrow
        go_wp2_with (go_at_call 127; refine hc.mono ?_; rintro e w' ⟨rfl, rfl⟩)
        go_ret
        refine ⟨_, ss, rfl, ?_, HMM.out.1, HMM.out.2, hnx⟩
        have e0 : srtS [] = [] := by simp [srtS]
        rw [HS.out, e0]
        exact SliceIn.nil _ _
      · have hH : Holds encStr wr g 0 ss.toArray := holds_of_block hb (by simpa using h4)
        have hgl : g < wr.heap.size := (Array.getElem?_eq_some_iff.1 hb).1
        have hc := Tryz.slices_Sort_string g 0 cap ss wr hH hgl (by omega)
        have hrow' := fun n os => ownsRow_sorted (n := n) (os := os) (ss := ss) (ts := srtS ss) (by simp [srtS]) hbase hb h1 h2 h3
        have HRW : Hid (∀ n os, (grow (putRow encStr (Sort.ahead wr n) g 0 (srtS ss).toArray) os).ownsRow (w.heap.size + 1) 9 1 (.slice (some ⟨g, 0, none⟩) ss.length cap) ss.length ((srtS ss).map encStr)) := hrow'
        clear hrow hH hrow'
        go_wp2_with (go_at_call 127; refine hc.mono ?_; rintro e w' ⟨rfl, nn, os, rfl⟩)
        go_ret
        refine ⟨_, ss, rfl, slice_of_owns (HRW.out nn os) (fun b hb _ => by omega), HMM.out.1, HMM.out.2, hnx.grown (grownBy_sorted _) hnx.size (fun j hj => by cases hj; omega)⟩
    · intro x c kl yd yp w2 cnt2 hkey hlk hv hat hrg2 hlt hg2 hs2 hen
      obtain ⟨x', ex, rfl, _⟩ := Maps.keyOf_str Tryz.underlying9 hkey
      obtain rfl : x = x' := encStr_inj ex
      have hxF : x ∈ F := (HD2.out x).1 (has_true_of_atKey hat)
      have hrow2 := hrow.kept hg2 (Or.inr (row_ne_iter hrow hrg).symm)
      have hB2 : Below w.heap.size w w2 := hnx.grown hg2 hnx.size (fun j hj => by cases hj; exact Nat.le_refl _)
      have hst := kept_step hso hlk hxF
      have hcall := HK.out x hxF w2 hB2
      have hsz2 : w.heap.size + 1 ≤ w2.heap.size := by have := hg2.size; omega
      have HST : Hid (KeptSo F K (fun z => left z && !z.sameKey (.string x)) (if K x = true then ss ++ [x] else ss)) := hst
      clear hs2 hst hso hkey hv hat ex
      go_wp2_with fail
      refine hcall.mono ?_
      rintro e w3 ⟨rfl, rfl⟩
      obtain ⟨st, hst⟩ : ∃ s : ByteArray, encStr x = .string s := ⟨_, rfl⟩
      rw [hst]
      have HSE : Hid (encStr x = .string st) := hst
      cases hkx : K x with
      | true =>
        have HKX : Hid (K x = true) := hkx
        have hne1 := row_ne_low hrow2 (show b < w.heap.size + 1 by omega)
        have hne2 := row_ne_iter hrow2 hrg2
        clear hkx hst hcall
        go_wp2_with (first
          | (at_builtin; refine wpList_append_slice rfl (.tmp 16) (.tmp 18) 129 rfl (w.heap.size + 1) 9 i0 (.string ⟨#[]⟩) 16 Tryz.underlying129 hi hz0 hz1 hz2 rfl _ _ _ rfl (hrow2.alloc _) _ [.string st] rfl (slice_one _ _ _) (by simp [Value.oneCell']) (by simp; omega) (by unfold maxLen; simp; omega) (by simp; omega) ?_; intro v4 w4 hown4 hg4 hl4)
          | go_in)
        (try go_frame)
        have hrg4 := (hrg2.alloc (.cells #[.string st] 9)).kept hg4 hne1 hne2
        go_roundw
        case rel =>
          have hso := HST.out
          rw [if_pos HKX.out] at hso
          refine ⟨_, cnt2, ss ++ [x], hrg4, by simp; omega, ?_, hso, (hB2.alloc hB2.size _).grown hg4 (by have := hB2.size; simp; omega) (fun j hj => by have := (hrow2.lt j hj).1; omega), by have := hg4.size; simp at this; omega⟩
          rw [List.map_append, List.length_append]
          simp only [List.map_cons, List.map_nil, HSE.out]
          exact hown4
        case measure => rw [hrg4.left_eq, hrg.left_eq]; exact hlt
      | false =>
        have HKX : Hid (K x = false) := hkx
        clear hkx hst hcall
        go_wp2
        go_roundw
        case rel =>
          have hso := HST.out
          rw [if_neg (by rw [HKX.out]; decide)] at hso
          exact ⟨_, cnt2, ss, hrg2, by omega, hrow2, hso, hB2, hsz2⟩
        case measure => rw [hrg2.left_eq, hrg.left_eq]; exact hlt

end Go.Proofs.YthmjdfjchhohgaaGreatDoor

namespace Go.Proofs.YthmjdfjchhohgaaGreatDoor

/-- The greatest length. -/
def topN {α : Type} : List (List α) → Nat
  | [] => 0
  | x :: l => max x.length (topN l)
theorem topN_le {α : Type} {l : List (List α)} {x : List α} (h : x ∈ l) : x.length ≤ topN l := by
  induction l with
  | nil => cases h
  | cons y l ih =>
    rcases List.mem_cons.1 h with rfl | h
    · simp only [topN]; omega
    · have := ih h; simp only [topN]; omega
theorem topN_perm {α : Type} {l m : List (List α)} (h : l.Perm m) : topN l = topN m := by
  induction h with
  | nil => rfl
  | cons x _ ih => simp only [topN]; omega
  | swap x y l => simp only [topN]; omega
  | trans _ _ h1 h2 => omega
theorem topN_snoc {α : Type} (l : List (List α)) (x : List α) : topN (l ++ [x]) = max (topN l) x.length := by
  induction l with
  | nil => simp [topN]
  | cons y l ih => simp only [List.cons_append, topN, ih]; omega
theorem topN_ints (F : List (List UInt8)) : topN (F.map ints) = topN F := by
  induction F with
  | nil => rfl
  | cons x l ih => simp only [List.map_cons, topN, ih, ints_length]
theorem topN_upto {α : Type} {l : List (List α)} {m : Nat} (h : ∀ x ∈ l, x.length ≤ m) : topN l ≤ m := by
  induction l with
  | nil => simp [topN]
  | cons x l ih =>
    have h1 := h x (by simp)
    have h2 := ih (fun y hy => h y (by simp [hy]))
    simp only [topN]; omega

/-- How many there are of d + 1. -/
def cnt {α : Type} : List (List α) → Nat → Nat
  | [], _ => 0
  | x :: l, d => (if x.length = d + 1 then 1 else 0) + cnt l d
theorem cnt_perm {α : Type} {l m : List (List α)} (h : l.Perm m) (d : Nat) : cnt l d = cnt m d := by
  induction h with
  | nil => rfl
  | cons x _ ih => simp only [cnt]; omega
  | swap x y l => simp only [cnt]; omega
  | trans _ _ h1 h2 => omega
theorem cnt_snoc {α : Type} (l : List (List α)) (x : List α) (d : Nat) : cnt (l ++ [x]) d = cnt l d + (if x.length = d + 1 then 1 else 0) := by
  induction l with
  | nil => simp [cnt]
  | cons y l ih => simp only [List.cons_append, cnt, ih]; omega
theorem cnt_ints (F : List (List UInt8)) (d : Nat) : cnt (F.map ints) d = cnt F d := by
  induction F with
  | nil => rfl
  | cons x l ih => simp only [List.map_cons, cnt, ih, ints_length]
theorem cnt_above {α : Type} {l : List (List α)} {d : Nat} (h : topN l ≤ d) : cnt l d = 0 := by
  induction l with
  | nil => rfl
  | cons x l ih =>
    simp only [topN] at h
    simp only [cnt]
    rw [ih (by omega), if_neg (by omega)]
theorem cnt_le {α : Type} (l : List (List α)) (d : Nat) : cnt l d ≤ l.length := by
  induction l with
  | nil => simp [cnt]
  | cons x l ih =>
    simp only [cnt, List.length_cons]
    have : (if x.length = d + 1 then 1 else 0) ≤ 1 := by split <;> omega
    omega
theorem cnt_filter {α : Type} (l : List (List α)) (d : Nat) : (l.filter (fun x => decide ((x.length : Int) - 1 = (d : Int)))).length = cnt l d := by
  induction l with
  | nil => rfl
  | cons x l ih =>
    by_cases h : x.length = d + 1
    · have h' : (x.length : Int) - 1 = (d : Int) := by omega
      rw [List.filter_cons, if_pos (decide_eq_true h'), List.length_cons, ih]
      simp only [cnt, if_pos h]
      omega
    · have h' : ¬ (x.length : Int) - 1 = (d : Int) := by omega
      rw [List.filter_cons, if_neg (by rw [decide_eq_false h']; decide), ih]
      simp only [cnt, if_neg h]
      omega

/-- How many of each length, from 1 on. -/
def vecOf {α : Type} (l : List (List α)) : List Int := (List.range (topN l)).map (fun d => (cnt l d : Int))
theorem vecOf_length {α : Type} (l : List (List α)) : (vecOf l).length = topN l := by simp [vecOf]
theorem vecOf_get {α : Type} (l : List (List α)) (d : Nat) (h : d < topN l) : (vecOf l)[d]? = some (cnt l d : Int) := by
  simp [vecOf, List.getElem?_map, List.getElem?_range h]
theorem vecOf_perm {α : Type} {l m : List (List α)} (h : l.Perm m) : vecOf l = vecOf m := by
  unfold vecOf
  rw [topN_perm h]
  exact List.map_congr_left (fun d _ => by rw [cnt_perm h])
theorem vecOf_ints (F : List (List UInt8)) : vecOf (F.map ints) = vecOf F := by
  unfold vecOf
  rw [topN_ints]
  exact List.map_congr_left (fun d _ => by rw [cnt_ints])

theorem pad_get {α : Type} (ss : List (List α)) (n d : Nat) (h : d < topN ss + n) : (vecOf ss ++ List.replicate n 0)[d]? = some (cnt ss d : Int) := by
  rw [List.getElem?_append, vecOf_length]
  split
  · rename_i h1; exact vecOf_get ss d h1
  · rename_i h1
    rw [List.getElem?_replicate, if_pos (by omega), cnt_above (by omega)]
    rfl
theorem vec_step {α : Type} {ss : List (List α)} {x : List α} (hx : x ≠ []) :
    vecOf (ss ++ [x]) = (vecOf ss ++ List.replicate (x.length - topN ss) 0).set (x.length - 1) ((vecOf ss ++ List.replicate (x.length - topN ss) 0)[x.length - 1]?.getD 0 + 1) := by
  have hp : 0 < x.length := List.length_pos_iff.2 hx
  have hlen : (vecOf ss ++ List.replicate (x.length - topN ss) (0 : Int)).length = topN (ss ++ [x]) := by
    rw [List.length_append, vecOf_length, List.length_replicate, topN_snoc]; omega
  refine List.ext_getElem? (fun d => ?_)
  rw [List.getElem?_set, hlen]
  rcases Nat.lt_or_ge d (topN (ss ++ [x])) with h | h
  · rw [vecOf_get _ d h, cnt_snoc]
    have hd : d < topN ss + (x.length - topN ss) := by rw [topN_snoc] at h; omega
    have hd1 : x.length - 1 < topN ss + (x.length - topN ss) := by omega
    rw [pad_get ss _ d hd, pad_get ss _ _ hd1, Option.getD_some]
    by_cases e : x.length - 1 = d
    · subst e
      rw [if_pos rfl, if_pos h, if_pos (show x.length = x.length - 1 + 1 by omega)]
      simp
    · rw [if_neg e, if_neg (show ¬ x.length = d + 1 by omega)]
      simp
  · have e1 : (vecOf (ss ++ [x]))[d]? = none := List.getElem?_eq_none (by rw [vecOf_length]; exact h)
    have e2 : (vecOf ss ++ List.replicate (x.length - topN ss) (0 : Int))[d]? = none := List.getElem?_eq_none (by rw [hlen]; exact h)
    rw [e1, e2]
    split
    · rename_i e; rw [if_neg (by omega)]
    · rfl

/-- 1 of an even number, -1 of an odd one. -/
def sg (d : Nat) : Int := 1 - 2 * ((d % 2 : Nat) : Int)
/-- The sum of numbers with signs in turn. -/
def altTo (v : List Int) : Nat → Int
  | 0 => 0
  | k + 1 => altTo v k + sg k * (v[k]?.getD 0)
def pt (L : Nat) : Nat → Int
  | 0 => 0
  | k + 1 => pt L k + (if L = k + 1 then sg k else 0)
theorem pt_before (L : Nat) : ∀ k, k < L → pt L k = 0
  | 0, _ => rfl
  | k + 1, h => by simp only [pt]; rw [pt_before L k (by omega), if_neg (by omega)]; rfl
theorem pt_val (L : Nat) (hp : 1 ≤ L) : ∀ k, L ≤ k → pt L k = sg (L - 1)
  | 0, h => by omega
  | k + 1, h => by
    simp only [pt]
    by_cases e : L = k + 1
    · rw [pt_before L k (by omega), if_pos e]; subst e; simp
    · rw [pt_val L hp k (by omega), if_neg e]; simp
def eTo {α : Type} (l : List (List α)) : Nat → Int
  | 0 => 0
  | k + 1 => eTo l k + sg k * (cnt l k : Int)
theorem eTo_nil {α : Type} : ∀ k, eTo ([] : List (List α)) k = 0
  | 0 => rfl
  | k + 1 => by simp only [eTo, eTo_nil k, cnt]; simp
theorem eTo_cons {α : Type} (x : List α) (l : List (List α)) : ∀ k, eTo (x :: l) k = eTo l k + pt x.length k
  | 0 => rfl
  | k + 1 => by
    simp only [eTo, pt, eTo_cons x l k, cnt]
    by_cases e : x.length = k + 1
    · rw [if_pos e, if_pos e, Int.natCast_add, Int.mul_add]; simp; omega
    · rw [if_neg e, if_neg e]; simp; omega
/-- The number of the faces with signs. -/
def eulerOf {α : Type} : List (List α) → Int
  | [] => 0
  | x :: l => (if x.length % 2 = 1 then 1 else -1) + eulerOf l
theorem eulerOf_perm {α : Type} {l m : List (List α)} (h : l.Perm m) : eulerOf l = eulerOf m := by
  induction h with
  | nil => rfl
  | cons x _ ih => simp only [eulerOf]; omega
  | swap x y l => simp only [eulerOf]; omega
  | trans _ _ h1 h2 => omega
theorem eulerOf_snoc {α : Type} (l : List (List α)) (x : List α) : eulerOf (l ++ [x]) = eulerOf l + (if x.length % 2 = 1 then 1 else -1) := by
  induction l with
  | nil => simp [eulerOf]
  | cons y l ih => simp only [List.cons_append, eulerOf, ih]; omega
theorem eulerOf_ints (F : List (List UInt8)) : eulerOf (F.map ints) = eulerOf F := by
  induction F with
  | nil => rfl
  | cons x l ih => simp only [List.map_cons, eulerOf, ih, ints_length]
theorem eulerOf_small {α : Type} (l : List (List α)) : -(l.length : Int) ≤ eulerOf l ∧ eulerOf l ≤ l.length := by
  induction l with
  | nil => simp [eulerOf]
  | cons x l ih =>
    simp only [eulerOf, List.length_cons]
    split <;> omega
theorem sg_length (L : Nat) (h : 1 ≤ L) : sg (L - 1) = if L % 2 = 1 then 1 else -1 := by
  unfold sg
  split <;> omega
theorem eTo_all {α : Type} {l : List (List α)} (hne : ∀ x ∈ l, x ≠ []) (n : Nat) (h : topN l ≤ n) : eTo l n = eulerOf l := by
  induction l with
  | nil => rw [eTo_nil]; rfl
  | cons x l ih =>
    have hp : 0 < x.length := List.length_pos_iff.2 (hne x (by simp))
    simp only [topN] at h
    rw [eTo_cons, ih (fun y hy => hne y (by simp [hy])) (by omega), pt_val x.length hp n (by omega), sg_length _ hp]
    simp only [eulerOf]
    omega
theorem altTo_vec {α : Type} (l : List (List α)) : ∀ k, k ≤ topN l → altTo (vecOf l) k = eTo l k
  | 0, _ => rfl
  | k + 1, h => by
    simp only [altTo, eTo]
    rw [altTo_vec l k (by omega), vecOf_get l k (by omega), Option.getD_some]
theorem alt_euler {α : Type} {l : List (List α)} (hne : ∀ x ∈ l, x ≠ []) : altTo (vecOf l) (vecOf l).length = eulerOf l := by
  rw [vecOf_length, altTo_vec l _ (Nat.le_refl _), eTo_all hne _ (Nat.le_refl _)]
theorem alt_small (v : List Int) (m : Nat) (h : ∀ x ∈ v, 0 ≤ x ∧ x ≤ m) : ∀ k, k ≤ v.length → -((k * m : Nat) : Int) ≤ altTo v k ∧ altTo v k ≤ ((k * m : Nat) : Int)
  | 0, _ => by simp [altTo]
  | k + 1, hk => by
    have ih := alt_small v m h k (by omega)
    have hx := h (v[k]?.getD 0) (by rw [List.getElem?_eq_getElem (show k < v.length by omega)]; simp)
    simp only [altTo]
    have e : ((k + 1) * m : Nat) = k * m + m := by rw [Nat.add_mul, Nat.one_mul]
    rw [e]
    have hs : sg k = 1 ∨ sg k = -1 := by unfold sg; omega
    rcases hs with hs | hs <;> rw [hs] <;> omega

/-- The faces of the map and the faces in order are the same ones. -/
theorem perm_all {ts F : List (List UInt8)} {all : List (List Int)} (hn : F.Nodup) (hF : ∀ x, x ∈ F ↔ FaceOf ts x) (h : IsAll (ts.map ints) all) : (F.map ints).Perm all := by
  refine (List.perm_ext_iff_of_nodup (List.pairwise_map.2 (hn.imp (fun h e => h (ints_inj e)))) (order_nodup h.order)).2 (fun y => ?_)
  rw [List.mem_map, h.mem]
  constructor
  · rintro ⟨x, hx, rfl⟩
    exact face_ints.2 ((hF x).1 hx)
  · intro hy
    obtain ⟨x, rfl⟩ := face_from hy
    exact ⟨x, (hF x).2 (face_ints.1 hy), rfl⟩

/-- Some faces that the map tells, sorted, are those of the list of all faces. -/
theorem faces_same {ts F ss : List (List UInt8)} {all : List (List Int)} (hF : ∀ x, x ∈ F ↔ FaceOf ts x) (h : IsAll (ts.map ints) all) (hn : ss.Nodup) {p : Nat → Bool}
    (hm : ∀ x, x ∈ ss ↔ x ∈ F ∧ p x.length = true) : (ss.mergeSort (fun x y => decide (x ≤ y))).map ints = all.filter (fun x => p x.length) := by
  refine order_told (sorted_order hn) (h.order.filter _) (fun y => ?_)
  rw [List.mem_filter, h.mem, List.mem_map]
  constructor
  · rintro ⟨x, hx, rfl⟩
    have := (hm x).1 ((List.mergeSort_perm ss _).mem_iff.1 hx)
    exact ⟨face_ints.2 ((hF x).1 this.1), by rw [ints_length]; exact this.2⟩
  · rintro ⟨a, b⟩
    obtain ⟨x, rfl⟩ := face_from a
    exact ⟨x, (List.mergeSort_perm ss _).mem_iff.2 ((hm x).2 ⟨(hF x).2 (face_ints.1 a), by rw [ints_length] at b; exact b⟩), rfl⟩

end Go.Proofs.YthmjdfjchhohgaaGreatDoor
