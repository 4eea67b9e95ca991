/- What kept answers: those faces of the map of which a function says so, in order, in new memory. What facets answers: the faces that are parts of no greater one, in order. What faces answers: the faces of a dimension, in order. What the map of faces tells and what the reference tells are the same. What lists answers: the vertices that texts stand for, in new memory. -/
import Derived.Test.YtnnkmkhamipfiaaGreatDoorGather
import Derived.Test.YtnnkmkhamipfiaaGreatDoorShelf
import Derived.Sort.OwnSorted
import Derived.Maps.RangeWalk
import Derived.Maps.OwnOps
import Derived.Test.YtnnkmkhamipfiaaGreatDoorMorseMath
namespace Go.Proofs.YtnnkmkhamipfiaaGreatDoor
open Go.RowKit Go.Sort Go.Maps

/-- Texts in order. -/
def srtS (ss : List (List UInt8)) : List (List UInt8) := ss.mergeSort (fun x y => decide (x ≤ y))

/-- What kept answers. -/
def KeptSays (F : List (List UInt8)) (K : List UInt8 → Bool) (w : World) (e : Ending) (w' : World) : Prop :=
  ∃ v ss, e = .returned v ∧ StrsIn (fun b => w.heap.size ≤ b) w' v (srtS ss) ∧ ss.Nodup ∧ (∀ x, x ∈ ss ↔ x ∈ F ∧ K x = true) ∧ Below w.heap.size w w'

/-- What has been kept so far. -/
def KeptSo (F : List (List UInt8)) (K : List UInt8 → Bool) (left : Lit → Bool) (ss : List (List UInt8)) : Prop :=
  ss.Nodup ∧ ∀ x, x ∈ ss ↔ (x ∈ F ∧ K x = true) ∧ left (.string x) = false

theorem same_string (x y : List UInt8) : (Lit.string x).sameKey (.string y) = decide (x = y) := by
  by_cases h : x = y
  · subst h; simp [Lit.sameKey]
  · rw [sameKey_ne (string_ne h), decide_eq_false h]

theorem kept_step {F : List (List UInt8)} {K : List UInt8 → Bool} {left : Lit → Bool} {ss : List (List UInt8)} {x : List UInt8} (h : KeptSo F K left ss) (hl : left (.string x) = true) (hF : x ∈ F) :
    KeptSo F K (fun z => left z && !z.sameKey (.string x)) (if K x = true then ss ++ [x] else ss) := by
  have hn : x ∉ ss := fun hm => by rw [((h.2 x).1 hm).2] at hl; cases hl
  constructor
  · by_cases hk : K x = true
    · rw [if_pos hk, List.nodup_append]
      exact ⟨h.1, by simp, fun a ha b hb e => by simp at hb; subst hb; subst e; exact hn ha⟩
    · rw [if_neg hk]; exact h.1
  · intro y
    have key : y ∈ ss ↔ (y ∈ F ∧ K y = true) ∧ left (.string y) = false := h.2 y
    simp only [same_string]
    by_cases e : y = x
    · subst e
      by_cases hk : K y = true
      · simp [hk, hF]
      · simp [hk, hn]
    · have : (if K x = true then ss ++ [x] else ss).contains y = ss.contains y := by
        by_cases hk : K x = true <;> simp [hk, e]
      have hmem : y ∈ (if K x = true then ss ++ [x] else ss) ↔ y ∈ ss := by
        by_cases hk : K x = true <;> simp [hk, e]
      rw [hmem, key]
      simp [e]

set_option maxRecDepth 100000 in
set_option maxHeartbeats 2000000 in
theorem kept_ (b : Nat) (F : List (List UInt8)) (G : List UInt8 → Prop) (gk : Nat) (lbk : Array Value) (K : List UInt8 → Bool) (w : World) (hP : PileAt w b F G) (hF : F.length ≤ 100000) (_hx : ∀ x ∈ F, x.length ≤ 1000)
    (hent : ∀ args w, (callFunc gk args).run Tryz.prog w = .ok (.enter gk args) w)
    (hk : ∀ x ∈ F, ∀ W, Below w.heap.size w W → Calls Tryz.prog gk (#[encStr x] ++ lbk) W fun e W' => e = .returned (.bool (K x)) ∧ W' = W) :
    Calls Tryz.prog 131 #[.map (some b), .func (.func gk) #[] lbk] w fun e w' => KeptSays F K w e w' := by
  obtain ⟨i0, hi, hz0, hz1, hz2⟩ := info_parts Tryz.info9
  obtain ⟨D, d1, d2, d3, -⟩ := hP
  have hbl := d1.lt
  have HD2 : Hid (∀ x : List UInt8, Maps.has D (.string x) = true ↔ x ∈ F) := d2
  have HK : Hid (∀ x ∈ F, ∀ W, Below w.heap.size w W → Calls Tryz.prog gk (#[encStr x] ++ lbk) W fun e W' => e = .returned (.bool (K x)) ∧ W' = W) := hk
  clear d2 hk
  go_enter Tryz.func131, Tryz.ntmps131
  go_wp2_with (first
    | (at_range; refine wpList_range_own _ rfl _ 179 rfl 9 3 law_string Tryz.underlying179 _ b _ _ rfl d1 ?_; intro w0 hrg0 hg0 hs0)
    | go_in)
  (try go_frame)
  go_loopw [5] (fun v wr => ∃ (left : Lit → Bool) (cnt : Nat) (ss : List (List UInt8)), wr.ranges Tryz.prog 9 (plainElem Tryz.prog 3) b w.heap.size F.length D left cnt ∧ ss.length + cnt ≤ F.length ∧
      wr.ownsRow (w.heap.size + 1) 9 1 v ss.length (ss.map encStr) ∧ KeptSo F K left ss ∧ Below w.heap.size w wr ∧ w.heap.size + 1 ≤ wr.heap.size)
    (fun _ wr => wr.rangeLeft b w.heap.size)
  case atStart =>
    refine ⟨_, _, [], hrg0, by rw [← d3]; simp, World.ownsRow_nil _ _ _ _, ⟨List.nodup_nil, fun x => ⟨fun h => (by cases h), fun ⟨⟨h1, _⟩, h2⟩ => ?_⟩⟩, (Below.refl _ _).grown hg0 (Nat.le_refl _) (fun j hj => by cases hj), by have := hrg0.lt; omega⟩
    rw [(HD2.out x).2 h1] at h2; cases h2
  case round =>
    obtain ⟨left, cnt, ss, hrg, hcs, hrow, hso, hnx, hsz⟩ := hrel
    go_wp2_with (first
      | (at_next; refine wpList_next_ranges _ rfl _ rfl 9 law_string (plainElem Tryz.prog 3) encStr (Value.int .i64) (fun key kl hk => by obtain ⟨x, hx, _⟩ := Maps.keyOf_str Tryz.underlying9 hk; exact ⟨x, hx⟩) (fun v y hv => by obtain ⟨c, rfl, _⟩ := plainElem_int_inv Tryz.underlying3 hv; exact ⟨c, rfl⟩) b w.heap.size F.length _ _ _ rfl hrg ?_ ?_)
      | go_in)
    · intro hc0 hl0
      have hmem : ∀ x, x ∈ ss ↔ x ∈ F ∧ K x = true := fun x => by rw [hso.2 x]; exact ⟨fun h => h.1, fun h => ⟨h, hl0 _⟩⟩
      have HMM : Hid (ss.Nodup ∧ ∀ x, x ∈ ss ↔ x ∈ F ∧ K x = true) := ⟨hso.1, hmem⟩
      clear hmem hso hl0 hrg
      rcases hrow.2 with ⟨rfl, hn0⟩ | ⟨g, cap, cur, rfl, hbase, hb, h1, h2, h3, h4⟩
      · have hss : ss = [] := List.length_eq_zero_iff.1 hn0
        have hc := Tryz.slices_Sort_string_none none 0 wr
        have HS : Hid (ss = []) := hss
        clear hss hn0 hrow
        go_wp2_with (go_at_call 141; refine hc.mono ?_; rintro e w' ⟨rfl, rfl⟩)
        go_ret
        refine ⟨_, ss, rfl, ?_, HMM.out.1, HMM.out.2, hnx⟩
        have e0 : srtS [] = [] := by simp [srtS]
        rw [HS.out, e0]
        exact SliceIn.nil _ _
      · have hH : Holds encStr wr g 0 ss.toArray := holds_of_block hb (by simpa using h4)
        have hgl : g < wr.heap.size := (Array.getElem?_eq_some_iff.1 hb).1
        have hc := Tryz.slices_Sort_string g 0 cap ss wr hH hgl (by omega)
        have hrow' := fun n os => ownsRow_sorted (n := n) (os := os) (ss := ss) (ts := srtS ss) (by simp [srtS]) hbase hb h1 h2 h3
        have HRW : Hid (∀ n os, (grow (putRow encStr (Sort.ahead wr n) g 0 (srtS ss).toArray) os).ownsRow (w.heap.size + 1) 9 1 (.slice (some ⟨g, 0, none⟩) ss.length cap) ss.length ((srtS ss).map encStr)) := hrow'
        clear hrow hH hrow'
        go_wp2_with (go_at_call 141; refine hc.mono ?_; rintro e w' ⟨rfl, nn, os, rfl⟩)
        go_ret
        refine ⟨_, ss, rfl, slice_of_owns (HRW.out nn os) (fun b hb _ => by omega), HMM.out.1, HMM.out.2, hnx.grown (grownBy_sorted _) hnx.size (fun j hj => by cases hj; omega)⟩
    · intro x c kl yd yp w2 cnt2 hkey hlk hv hat hrg2 hlt hg2 hs2 hen
      obtain ⟨x', ex, rfl, _⟩ := Maps.keyOf_str Tryz.underlying9 hkey
      obtain rfl : x = x' := encStr_inj ex
      have hxF : x ∈ F := (HD2.out x).1 (has_true_of_atKey hat)
      have hrow2 := hrow.kept hg2 (Or.inr (row_ne_iter hrow hrg).symm)
      have hB2 : Below w.heap.size w w2 := hnx.grown hg2 hnx.size (fun j hj => by cases hj; exact Nat.le_refl _)
      have hst := kept_step hso hlk hxF
      have hcall := HK.out x hxF w2 hB2
      have hsz2 : w.heap.size + 1 ≤ w2.heap.size := by have := hg2.size; omega
      have HST : Hid (KeptSo F K (fun z => left z && !z.sameKey (.string x)) (if K x = true then ss ++ [x] else ss)) := hst
      clear hs2 hst hso hkey hv hat ex
      go_wp2_with fail
      refine hcall.mono ?_
      rintro e w3 ⟨rfl, rfl⟩
      obtain ⟨st, hst⟩ : ∃ s : ByteArray, encStr x = .string s := ⟨_, rfl⟩
      rw [hst]
      have HSE : Hid (encStr x = .string st) := hst
      cases hkx : K x with
      | true =>
        have HKX : Hid (K x = true) := hkx
        have hne1 := row_ne_low hrow2 (show b < w.heap.size + 1 by omega)
        have hne2 := row_ne_iter hrow2 hrg2
        clear hkx hst hcall
        go_wp2_with (first
          | (at_builtin; refine wpList_append_slice rfl (.tmp 16) (.tmp 18) 183 rfl (w.heap.size + 1) 9 i0 (.string ⟨#[]⟩) 16 Tryz.underlying183 hi hz0 hz1 hz2 rfl _ _ _ rfl (hrow2.alloc _) _ [.string st] rfl (slice_one _ _ _) (by simp [Value.oneCell']) (by simp; omega) (by unfold maxLen; simp; omega) (by simp; omega) ?_; intro v4 w4 hown4 hg4 hl4)
          | go_in)
        (try go_frame)
        have hrg4 := (hrg2.alloc (.cells #[.string st] 9)).kept hg4 hne1 hne2
        go_roundw
        case rel =>
          have hso := HST.out
          rw [if_pos HKX.out] at hso
          refine ⟨_, cnt2, ss ++ [x], hrg4, by simp; omega, ?_, hso, (hB2.alloc hB2.size _).grown hg4 (by have := hB2.size; simp; omega) (fun j hj => by have := (hrow2.lt j hj).1; omega), by have := hg4.size; simp at this; omega⟩
          rw [List.map_append, List.length_append]
          simp only [List.map_cons, List.map_nil, HSE.out]
          exact hown4
        case measure => rw [hrg4.left_eq, hrg.left_eq]; exact hlt
      | false =>
        have HKX : Hid (K x = false) := hkx
        clear hkx hst hcall
        go_wp2
        go_roundw
        case rel =>
          have hso := HST.out
          rw [if_neg (by rw [HKX.out]; decide)] at hso
          exact ⟨_, cnt2, ss, hrg2, by omega, hrow2, hso, hB2, hsz2⟩
        case measure => rw [hrg2.left_eq, hrg.left_eq]; exact hlt

end Go.Proofs.YtnnkmkhamipfiaaGreatDoor

namespace Go.Proofs.YtnnkmkhamipfiaaGreatDoor
open Go.RowKit Go.Sort Go.Maps

theorem outer_ (b : Nat) (F : List (List UInt8)) (G : List UInt8 → Prop) (x : List UInt8) (Bx : Nat) (q : Bool) (w : World) (hP : PileAt w b F G) (hB : w.cell? ⟨Bx, 0, none⟩ = some (.map (some b))) (hx : x ∈ F) (hl : x.length ≤ 1000) (hq : q = true ↔ ¬ G x) :
    Calls Tryz.prog 146 #[encStr x, .pointer (some ⟨Bx, 0, none⟩)] w fun e w' => e = .returned (.bool q) ∧ w' = w := by
  obtain ⟨D, d1, -, -, d4⟩ := hP
  have hkey := key_of x (by unfold maxLen; omega)
  have h4 := d4 x hx
  have HV : Hid (∀ c : Int, D.atKey (.string x) (.lit (.int .i64 0)) = .lit (.int .i64 c) → (c == 0) = q) := fun c hc => by
    cases q with
    | true =>
      rw [h4.2 (hq.1 rfl)] at hc
      cases hc; rfl
    | false =>
      have hg : G x := Classical.byContradiction (fun h => by have := hq.2 h; cases this)
      rw [h4.1 hg] at hc
      cases hc; rfl
  clear d4 h4 hq
  go_enter Tryz.func146, Tryz.ntmps146
  go_wp2_with (first
    | (at_lookup; refine wpList_lookup_own_int _ rfl _ _ 179 rfl 9 3 .i64 law_string Tryz.underlying179 Tryz.underlying3 (zero_int _) b _ _ rfl d1 _ _ rfl hkey ?_; intro c hat hwc)
    | go_in)
  go_ret
  exact ⟨by rw [← HV.out c hat]; rfl, rfl⟩

/-- What facets answers. -/
def FacetsSays (F : List (List UInt8)) (G : List UInt8 → Prop) (w : World) (e : Ending) (w' : World) : Prop :=
  ∃ v ss, e = .returned v ∧ StrsIn (fun b => w.heap.size ≤ b) w' v (srtS ss) ∧ ss.Nodup ∧ (∀ x, x ∈ ss ↔ x ∈ F ∧ ¬ G x) ∧ Below w.heap.size w w'

open Classical in
set_option maxRecDepth 100000 in
theorem facets_ (b : Nat) (F : List (List UInt8)) (G : List UInt8 → Prop) (w : World) (hP : PileAt w b F G) (hF : F.length ≤ 100000) (hx : ∀ x ∈ F, x.length ≤ 1000) :
    Calls Tryz.prog 140 #[.map (some b)] w fun e w' => FacetsSays F G w e w' := by
  have hP1 := hP.below ((Below.refl _ w).alloc (Nat.le_refl _) (.cells #[.map (some b)] 179))
  have hbox := box_new w (.map (some b)) 179
  have hkept := kept_ b F G 146 #[.pointer (some ⟨w.heap.size, 0, none⟩)] (fun x => decide (¬ G x)) (w.alloc (.cells #[.map (some b)] 179)) hP1 hF hx (enters_of Tryz.func146 (by kernel_rfl) rfl)
    (fun x hxF W hW => outer_ b F G x w.heap.size _ W (hP1.below hW) ((hW.cell (p := ⟨w.heap.size, 0, none⟩) (by simp)).trans hbox.1) hxF (hx x hxF) (by simp))
  clear hP1
  have hb := hbox.1
  clear hbox
  go_enter Tryz.func140, Tryz.ntmps140
  go_wp2_with fail
  refine hkept.mono ?_
  rintro e w2 ⟨v, ss, rfl, h1, h2, h3, h4⟩
  go_wp2
  go_ret
  refine ⟨_, ss, rfl, h1.mono (fun b _ h => by simp at h; omega), h2, fun x => by rw [h3]; simp, ((Below.refl _ w).alloc (Nat.le_refl _) _).trans (h4.mono (by simp))⟩

end Go.Proofs.YtnnkmkhamipfiaaGreatDoor

namespace Go.Proofs.YtnnkmkhamipfiaaGreatDoor
open Go.RowKit Go.Sort Go.Maps

theorem beq_decide (a b : Int) : (a == b) = decide (a = b) := by
  by_cases h : a = b
  · subst h; simp
  · rw [decide_eq_false h, beq_false_of_ne h]

theorem of_dim_ (x : List UInt8) (dim : Int) (Bx : Nat) (w : World) (hB : w.cell? ⟨Bx, 0, none⟩ = some (.int .i64 dim)) (hl : x.length ≤ 1000) :
    Calls Tryz.prog 132 #[encStr x, .pointer (some ⟨Bx, 0, none⟩)] w fun e w' => e = .returned (.bool (decide ((x.length : Int) - 1 = dim))) ∧ w' = w := by
  have hsz : (⟨x.toArray⟩ : ByteArray).size = x.length := by simp [ByteArray.size]
  show Calls Tryz.prog 132 #[.string ⟨x.toArray⟩, .pointer (some ⟨Bx, 0, none⟩)] w _
  go_enter Tryz.func132, Tryz.ntmps132
  go_wp2
  go_ret
  exact ⟨by show Ending.returned (.bool ((x.length : Int) - 1 == dim)) = _; rw [beq_decide], rfl⟩

/-- What faces answers. -/
def FacesSays (F : List (List UInt8)) (dim : Int) (w : World) (e : Ending) (w' : World) : Prop :=
  ∃ v ss, e = .returned v ∧ StrsIn (fun b => w.heap.size ≤ b) w' v (srtS ss) ∧ ss.Nodup ∧ (∀ x, x ∈ ss ↔ x ∈ F ∧ (x.length : Int) - 1 = dim) ∧ Below w.heap.size w w'

set_option maxRecDepth 100000 in
theorem faces_ (b : Nat) (F : List (List UInt8)) (G : List UInt8 → Prop) (dim : Int) (w : World) (hP : PileAt w b F G) (hF : F.length ≤ 100000) (hx : ∀ x ∈ F, x.length ≤ 1000) :
    Calls Tryz.prog 110 #[.map (some b), .int .i64 dim] w fun e w' => FacesSays F dim w e w' := by
  have hP1 := hP.below ((Below.refl _ w).alloc (Nat.le_refl _) (.cells #[.int .i64 dim] 3))
  have hbox := box_new w (.int .i64 dim) 3
  have hkept := kept_ b F G 132 #[.pointer (some ⟨w.heap.size, 0, none⟩)] (fun x => decide ((x.length : Int) - 1 = dim)) (w.alloc (.cells #[.int .i64 dim] 3)) hP1 hF hx (enters_of Tryz.func132 (by kernel_rfl) rfl)
    (fun x hxF W hW => of_dim_ x dim w.heap.size W ((hW.cell (p := ⟨w.heap.size, 0, none⟩) (by simp)).trans hbox.1) (hx x hxF))
  clear hP1
  have hb := hbox.1
  clear hbox
  go_enter Tryz.func110, Tryz.ntmps110
  go_wp2_with fail
  refine hkept.mono ?_
  rintro e w2 ⟨v, ss, rfl, h1, h2, h3, h4⟩
  go_wp2
  go_ret
  refine ⟨_, ss, rfl, h1.mono (fun b _ h => by simp at h; omega), h2, fun x => by rw [h3]; simp, ((Below.refl _ w).alloc (Nat.le_refl _) _).trans (h4.mono (by simp))⟩

end Go.Proofs.YtnnkmkhamipfiaaGreatDoor

namespace Go.Proofs.YtnnkmkhamipfiaaGreatDoor
open Go.RowKit Go.Sort

theorem told_same {l : List (List Int)} {ts ss : List (List UInt8)} {all : List (List Int)} (hok : ∀ x ∈ l, SetOk x) (hts : ts.map ints = l.map srt) (hn : ss.Nodup) (hm : ∀ x, x ∈ ss ↔ FaceOf ts x ∧ ¬ InnerOf ts x)
    (hal : IsAll (l.map srt) all) : (srtS ss).map ints = facetsI all := by
  refine facets_same (ts := ts) (fun t ht => ?_) (by rw [hts]; exact hal) hn hm
  have : ints t ∈ l.map srt := by rw [← hts]; exact List.mem_map.2 ⟨t, ht, rfl⟩
  obtain ⟨x, hx, e⟩ := List.mem_map.1 this
  rw [← e]
  exact srt_rising (hok x hx).2.1
theorem over_told {l : List (List Int)} {ts : List (List UInt8)} (hts : ts.map ints = l.map srt) (h : Over (l.map srt)) : Over ts := over_ints.1 (by rw [hts]; exact h)
theorem over_back {l : List (List Int)} {ts : List (List UInt8)} (hts : ts.map ints = l.map srt) (h : Over ts) : Over (l.map srt) := by rw [← hts]; exact over_ints.2 h

end Go.Proofs.YtnnkmkhamipfiaaGreatDoor

namespace Go.Proofs.YtnnkmkhamipfiaaGreatDoor
open Go.RowKit Go.Sort Go.Maps Go.Deep

theorem ints_at (t : List UInt8) {i : Nat} (hi : i < t.length) : (ints t)[i]?.getD 0 = ((t[i]).toNat : Int) := by
  simp [ints, hi]

theorem byte_at {t : List UInt8} {s : ByteArray} (h : (⟨t.toArray⟩ : ByteArray) = s) {i : Nat} (hi : i < s.size) (hi' : i < t.length) : wrap64 ((s[i]'hi).toNat : Int) = (ints t)[i]?.getD 0 := by
  subst h
  rw [ints_at t hi']
  have e : ((⟨t.toArray⟩ : ByteArray)[i]'hi) = t[i] := rfl
  rw [e]
  have := (t[i]).toNat_lt
  unfold wrap64
  omega
/-- A row of numbers reads as a slice. -/
theorem ints_of_row {w : World} {b : Nat} {xs : List Int} {S : Nat → Prop} (h : w.rowIs b 3 xs.length (fun j => .int .i64 (xs[j]?.getD 0))) (hS : S b) : IntsIn S w (.slice (some ⟨b, 0, none⟩) xs.length xs.length) xs := by
  refine ⟨some ⟨b, 0, none⟩, xs.length, by simp, ⟨by simp, fun h => by cases h⟩, fun _ => ⟨b, 0, rfl, hS, fun k u hu => ?_⟩⟩
  have hk : k < xs.length := by have := (List.getElem?_eq_some_iff.1 hu).1; simpa using this
  rw [Nat.zero_add, h.cell hk, ← hu]
  simp [hk]
theorem take_ints {ts : List (List UInt8)} {k : Nat} (hk : k < ts.length) : (ts.take (k + 1)).map ints = (ts.take k).map ints ++ [ints (ts[k]?.getD [])] := by
  rw [List.take_add_one, List.getElem?_eq_getElem hk, List.map_append, Option.getD_some]
  rfl

set_option maxRecDepth 100000 in
set_option maxHeartbeats 2000000 in
theorem lists_ (vt : Value) (ts : List (List UInt8)) (w : World) (ht : Strs w vt ts) (hl : ts.length ≤ 100000) (hx : ∀ t ∈ ts, t.length ≤ 1000) :
    Calls Tryz.prog 139 #[vt] w fun e w' => ∃ v, e = .returned v ∧ OwnRows w.heap.size w' v (ts.map ints) ∧ Below w.heap.size w w' := by
  obtain ⟨i0, hi, hz0, hz1, hz2⟩ := info_parts Tryz.info29
  obtain ⟨a, ca, rfl, -, ha⟩ := ht.open_
  have HX : Hid (∀ t ∈ ts, t.length ≤ 1000) := hx
  clear hx ht
  go_enter Tryz.func139, Tryz.ntmps139
  go_wp2
  go_loopw [3, 10] (fun v p wr => ∃ k : Nat, k ≤ ts.length ∧ p = .int .i64 k ∧ OwnRows w.heap.size wr v ((ts.take k).map ints) ∧ Below w.heap.size w wr)
    (fun _ p _ => ts.length - (intOf p).toNat)
  case atStart => exact ⟨0, by omega, rfl, OwnRows.nil _ _, Below.refl _ _⟩
  case round =>
    obtain ⟨k, hk, rfl, hown, hB⟩ := hrel
    have HOW : Hid (OwnRows w.heap.size wr u3 ((ts.take k).map ints)) := hown
    clear hown
    by_cases hlt : k < ts.length
    · obtain ⟨b, o, rfl, -, hb, c⟩ := ha (by omega)
      have g0 := (hB.cell (p := ⟨b, o + k, none⟩) hb).trans (c k hlt)
      have hlen : (ts[k]?.getD []).length ≤ 1000 := HX.out _ (by rw [List.getElem?_eq_getElem hlt]; simp)
      obtain ⟨t, hte⟩ : ∃ t, ts[k]?.getD [] = t := ⟨_, rfl⟩
      rw [hte] at g0 hlen
      have HT : Hid (ts[k]?.getD [] = t) := hte
      obtain ⟨s, hs⟩ : ∃ s : ByteArray, (⟨t.toArray⟩ : ByteArray) = s := ⟨_, rfl⟩
      have hsz : s.size = t.length := by rw [← hs]; rfl
      have he : encStr t = .string s := by rw [← hs, encStr]
      rw [he] at g0
      have HS : Hid ((⟨t.toArray⟩ : ByteArray) = s) := hs
      have hmk := run_make_row' (P := Tryz.prog) 29 3 (.int .i64 0) 8 Tryz.underlying29 Tryz.info3 rfl .i64 .i64 t.length (by omega) (by omega)
      obtain ⟨wo, hwo⟩ : ∃ W, W = wr := ⟨_, rfl⟩
      subst hwo
      clear hte hs he c ha
      go_wp2
      go_loopw [19] (fun p W => ∃ i : Nat, i ≤ t.length ∧ p = .int .i64 i ∧ W.rowIs wo.heap.size 3 t.length (fun j => .int .i64 (if j < i then (ints t)[j]?.getD 0 else 0)) ∧ Below wo.heap.size wo W)
        (fun p _ => t.length - (intOf p).toNat)
      case atStart => exact ⟨0, by omega, rfl, (World.rowIs_made _ _ _ _).congr (fun j _ => by simp), (Below.refl _ _).alloc (Nat.le_refl _) _⟩
      case round =>
        obtain ⟨i, hit, rfl, hrow, hB2⟩ := hrel
        by_cases hlt2 : i < t.length
        · have hcell := hrow.cell hlt2
          have hfz := hrow.frozen i
          have HR : Hid (wr.rowIs wo.heap.size 3 t.length (fun j => .int .i64 (if j < i then (ints t)[j]?.getD 0 else 0))) := hrow
          simp only [Nat.lt_irrefl, if_false] at hcell
          clear hrow
          go_wp2
          go_roundw
          case rel =>
            refine ⟨i + 1, by omega, by go_num, (HR.out.set i _).congr (fun j _ => ?_), hB2.setCell (p := ⟨wo.heap.size, i, none⟩) (Nat.le_refl _) _⟩
            by_cases e : j = i
            · subst e
              rw [if_pos rfl, if_pos (Nat.lt_succ_self _), byte_at HS.out (by omega) hlt2]
            · rw [if_neg e]
              by_cases e2 : j < i
              · rw [if_pos e2, if_pos (by omega)]
              · rw [if_neg e2, if_neg (by omega)]
          case measure => simp [intOf]; omega
        · obtain rfl : i = t.length := by omega
          have hil : (ints t).length = t.length := ints_length t
          have hnew : IntsIn (fun b => w.heap.size ≤ b ∧ some b ≠ Value.ownBlock u3) wr (.slice (some ⟨wo.heap.size, 0, none⟩) t.length t.length) (ints t) := by
            rw [← hil]
            refine ints_of_row (hrow.congr (fun j hj => by rw [if_pos hj]) |> fun h => by rw [hil]; exact h) ⟨hB.size, fun e => ?_⟩
            have := (HOW.out.block e.symm).2
            omega
          obtain ⟨vs, ho1, ho2⟩ := HOW.out.below hB2
          have HO1 : Hid (wr.ownsRow w.heap.size 29 1 u3 ((ts.take k).map ints).length vs) := ho1
          have HO2 : Hid (∀ (k' : Nat) (u : Value) (x : List Int), vs[k']? = some u → ((ts.take k).map ints)[k']? = some x → IntsIn (fun b => w.heap.size ≤ b ∧ some b ≠ u3.ownBlock) wr u x) := ho2
          have HNW : Hid (IntsIn (fun b => w.heap.size ≤ b ∧ some b ≠ Value.ownBlock u3) wr (.slice (some ⟨wo.heap.size, 0, none⟩) t.length t.length) (ints t)) := hnew
          have hks : ((ts.take k).map ints).length = k := by simp; omega
          rw [hks] at ho1
          have hBw : Below w.heap.size w wr := hB.trans (hB2.mono hB.size)
          have hbs := hBw.size
          clear hnew ho2 hrow hil
          go_wp2_with (first
            | (at_builtin; refine wpList_append_slice rfl (.tmp 30) (.tmp 32) 22 rfl w.heap.size 29 i0 (.slice none 0 0) 24 Tryz.underlying22 hi hz0 hz1 hz2 rfl _ _ _ rfl (ho1.alloc _) _ [.slice (some ⟨wo.heap.size, 0, none⟩) t.length t.length] rfl (slice_one _ _ _) (by simp [Value.oneCell']) (by simp; omega) (by unfold maxLen; simp; omega) (by simp; omega) ?_; intro v3 w4 hown3 hg3 hl3)
            | go_in)
          (try go_frame)
          go_roundw
          case rel =>
            have hown4 : w4.ownsRow w.heap.size 29 1 v3 (((ts.take k).map ints).length + 1) (vs ++ [.slice (some ⟨wo.heap.size, 0, none⟩) t.length t.length]) := by rw [hks]; exact hown3
            exact ⟨k + 1, by omega, by go_num, by rw [take_ints hlt, HT.out]; exact OwnRows.push HO1.out HO2.out HNW.out hown4 hg3 hl3, (hBw.alloc hbs _).grown hg3 (by simp; omega) (fun j hj => (ho1.lt j hj).1)⟩
          case measure => simp [intOf]; omega
    · obtain rfl : k = ts.length := by omega
      have hfin := HOW.out
      rw [List.take_length] at hfin
      have HF : Hid (OwnRows w.heap.size wr u3 (ts.map ints)) := hfin
      clear ha hfin
      go_wp2
      go_ret
      exact ⟨_, rfl, HF.out, hB⟩

end Go.Proofs.YtnnkmkhamipfiaaGreatDoor
