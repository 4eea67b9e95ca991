/- What the reference's Closed answers, told ahead of its walk, and the plain facts that the walk takes. What the reference's FacetsOf answers: the faces that are parts of no greater one. -/
import Derived.Test.YtnnkmkhamipfiaaGreatDoorPut
import Derived.Test.YtnnkmkhamipfiaaGreatDoorMorseMath
import Derived.Test.YtnnkmkhamipfiaaGreatDoorMath2
import Derived.Maps.RangeWalk
namespace Go.Proofs.YtnnkmkhamipfiaaGreatDoor
open Go.RowKit Go.Sort

theorem not_ok_empty {l out : List Int} (hm : ∀ v, v ∈ out ↔ v ∈ l) (h : out.length = 0) : ¬ SetOk l := fun hk => by
  have : out = [] := List.length_eq_zero_iff.1 h
  subst this
  cases l with
  | nil => exact hk.1 rfl
  | cons a l => exact absurd ((hm a).2 (by simp)) (by simp)
theorem not_ok_low {l out : List Int} (hm : ∀ v, v ∈ out ↔ v ∈ l) (h : 0 < out.length) (hy : out[0]?.getD 0 < 0) : ¬ SetOk l := fun hk => by
  rw [List.getElem?_eq_getElem h, Option.getD_some] at hy
  have := (hk.2.2 _ ((hm _).1 (List.getElem_mem h))).1
  omega
theorem not_ok_high {l out : List Int} (hm : ∀ v, v ∈ out ↔ v ∈ l) (h : 0 < out.length) (hy : 99 < out[out.length - 1]?.getD 0) : ¬ SetOk l := fun hk => by
  have h' : out.length - 1 < out.length := by omega
  rw [List.getElem?_eq_getElem h', Option.getD_some] at hy
  have := (hk.2.2 _ ((hm _).1 (List.getElem_mem h'))).2
  omega
theorem ok_of {l out : List Int} (hn : l.Nodup) (hr : Rising out) (hm : ∀ v, v ∈ out ↔ v ∈ l) (h : 0 < out.length) (h1 : ¬ out[0]?.getD 0 < 0) (h2 : ¬ 99 < out[out.length - 1]?.getD 0) : SetOk l := by
  have h' : out.length - 1 < out.length := by omega
  rw [List.getElem?_eq_getElem h, Option.getD_some] at h1
  rw [List.getElem?_eq_getElem h', Option.getD_some] at h2
  refine ⟨fun e => ?_, hn, fun v hv => ?_⟩
  · have := (hm _).1 (List.getElem_mem h)
    rw [e] at this; cases this
  · obtain ⟨t, ht, e⟩ := List.getElem_of_mem ((hm v).2 hv)
    have hp := List.pairwise_iff_getElem.1 hr
    constructor
    · by_cases e0 : t = 0
      · subst e0; omega
      · have := hp 0 t h ht (by omega); omega
    · by_cases e0 : t = out.length - 1
      · subst e0; omega
      · have := hp t (out.length - 1) ht h' (by omega); omega

/-- What Closed answers. -/
def ClosedSays (l : List (List Int)) (w : World) (e : Ending) (w' : World) : Prop :=
  Below w.heap.size w w' ∧
    ((¬ (∀ x ∈ l, SetOk x) ∧ e = .returned (.tuple #[.slice none 0 0, .int .i64 4])) ∨
     ((∀ x ∈ l, SetOk x) ∧ Over (l.map srt) ∧ e = .returned (.tuple #[.slice none 0 0, .int .i64 2])) ∨
     ((∀ x ∈ l, SetOk x) ∧ ¬ Over (l.map srt) ∧ ∃ v all, e = .returned (.tuple #[v, .int .i64 0]) ∧ RowsIn (fun bl => w.heap.size ≤ bl) w' v all ∧ IsAll (l.map srt) all ∧ all.length ≤ 600))

theorem ClosedSays.bad {l : List (List Int)} {w : World} {e : Ending} {w' : World} (hB : Below w.heap.size w w') {k : Nat} (hk : k < l.length) (h : ¬ SetOk (l[k]?.getD [])) (he : e = .returned (.tuple #[.slice none 0 0, .int .i64 4])) : ClosedSays l w e w' :=
  ⟨hB, .inl ⟨fun ha => h (by rw [List.getElem?_eq_getElem hk, Option.getD_some]; exact ha _ (List.getElem_mem hk)), he⟩⟩

theorem take_ok {l : List (List Int)} {k : Nat} (hk : k < l.length) (h : ∀ x ∈ l.take k, SetOk x) (hx : SetOk (l[k]?.getD [])) : ∀ x ∈ l.take (k + 1), SetOk x := by
  rw [List.getElem?_eq_getElem hk, Option.getD_some] at hx
  rw [List.take_add_one, List.getElem?_eq_getElem hk]
  intro x hm
  rcases List.mem_append.1 hm with a | a
  · exact h x a
  · simp at a; subst a; exact hx
theorem take_map_snoc {l : List (List Int)} {k : Nat} (hk : k < l.length) : (l.take (k + 1)).map srt = (l.take k).map srt ++ [srt (l[k]?.getD [])] := by
  rw [List.take_add_one, List.getElem?_eq_getElem hk, List.map_append, Option.getD_some]
  rfl

theorem bit_int (n j : Nat) : ((((n : Int) / 2 ^ j).tmod 2) == 1) = decide (n / 2 ^ j % 2 = 1) := by
  have h : (n : Int) / 2 ^ j = ((n / 2 ^ j : Nat) : Int) := by rw [Int.natCast_ediv, Int.natCast_pow]; rfl
  rw [h]
  generalize n / 2 ^ j = m
  have h2 : ((m : Int).tmod 2) = ((m % 2 : Nat) : Int) := by rw [Int.tmod_eq_emod_of_nonneg (by omega)]; omega
  rw [h2]
  by_cases h3 : m % 2 = 1
  · rw [h3]; rfl
  · rw [decide_eq_false h3]
    exact beq_false_of_ne (by omega)
theorem wrap64_small (n : Int) (h0 : 0 ≤ n) (h1 : n ≤ 1000) : wrap64 n = n := by unfold wrap64; omega

theorem face_take {ts : List (List Int)} {k : Nat} {x : List Int} (h : FaceOf (ts.take k) x) : FaceOf ts x := by
  obtain ⟨h1, t, ht, hs⟩ := h
  exact ⟨h1, t, List.mem_of_mem_take ht, hs⟩
theorem faces_step {ts : List (List Int)} {k : Nat} {t : List Int} (hk : k < ts.length) (ht : ts[k]?.getD [] = t) (x : List Int) :
    (FaceOf (ts.take k) x ∨ ∃ b, 1 ≤ b ∧ b < 2 ^ t.length ∧ x = pick b t) ↔ FaceOf (ts.take (k + 1)) x := by
  have ht' : ts[k]? = some t := by rw [List.getElem?_eq_getElem hk] at ht ⊢; simpa using ht
  have hm : ∀ u, u ∈ ts.take (k + 1) ↔ u ∈ ts.take k ∨ u = t := fun u => by
    rw [List.take_add_one, ht', List.mem_append]
    simp only [Option.toList, List.mem_singleton]
  constructor
  · rintro (⟨h1, u, hu, hs⟩ | ⟨b, h1, h2, rfl⟩)
    · exact ⟨h1, u, (hm u).2 (.inl hu), hs⟩
    · exact ⟨pick_ne b t h1 h2, t, (hm t).2 (.inr rfl), pick_sub b t⟩
  · rintro ⟨h1, u, hu, hs⟩
    rcases (hm u).1 hu with h | h
    · exact .inl ⟨h1, u, h, hs⟩
    · subst h
      obtain ⟨b, hb, e⟩ := pick_all hs
      refine .inr ⟨b, ?_, hb, e.symm⟩
      rcases Nat.eq_zero_or_pos b with h0 | h0
      · subst h0; rw [pick_zero] at e; exact absurd e.symm h1
      · exact h0
theorem pick_face {ts : List (List Int)} {k n : Nat} {t : List Int} (hk : k < ts.length) (ht : ts[k]?.getD [] = t) (h1 : 1 ≤ n) (h2 : n < 2 ^ t.length) : FaceOf ts (pick n t) := by
  refine ⟨pick_ne n t h1 h2, t, ?_, pick_sub n t⟩
  rw [List.getElem?_eq_getElem hk, Option.getD_some] at ht
  exact ht ▸ List.getElem_mem hk
theorem take_short {ts : List (List Int)} {k : Nat} {t : List Int} (hk : k < ts.length) (ht : ts[k]?.getD [] = t) (h7 : t.length ≤ 7) (h : ∀ u ∈ ts.take k, u.length ≤ 7) : ∀ u ∈ ts.take (k + 1), u.length ≤ 7 := by
  have ht' : ts[k]? = some t := by rw [List.getElem?_eq_getElem hk] at ht ⊢; simpa using ht
  intro u hu
  rw [List.take_add_one, ht', List.mem_append] at hu
  rcases hu with a | a
  · exact h u a
  · simp at a; subst a; exact h7
theorem over_big {ts : List (List Int)} {k : Nat} {t : List Int} (hk : k < ts.length) (ht : ts[k]?.getD [] = t) (h7 : 7 < t.length) : Over ts := by
  rw [List.getElem?_eq_getElem hk, Option.getD_some] at ht
  exact .inl ⟨t, ht ▸ List.getElem_mem hk, h7⟩
theorem not_over {ts all : List (List Int)} (h : IsAll ts all) (h7 : ∀ t ∈ ts, t.length ≤ 7) (h6 : all.length ≤ 600) : ¬ Over ts := by
  rintro (⟨t, ht, hl⟩ | ⟨X, hn, hl, hx⟩)
  · have := h7 t ht; omega
  · have := nodup_le hn (fun x hx' => (h.mem x).2 (hx x hx')); omega
theorem faces_short {ts all : List (List Int)} {k n : Nat} {t : List Int} (h7 : t.length ≤ 7) (h : ∀ u ∈ ts.take k, u.length ≤ 7) (hm : ∀ x, x ∈ all ↔ FaceOf (ts.take k) x ∨ ∃ b, 1 ≤ b ∧ b < n ∧ x = pick b t) : ∀ x ∈ all, x.length ≤ 1000 := fun x hx => by
  rcases (hm x).1 hx with ⟨_, u, hu, hs⟩ | ⟨b, _, _, rfl⟩
  · have := hs.length_le; have := h u hu; omega
  · have := (pick_sub b t).length_le; omega
theorem over_put {ts all r : List (List Int)} {k n N : Nat} {t : List Int} (hk : k < ts.length) (ht : ts[k]?.getD [] = t) (hN : N = 2 ^ t.length) (h1 : 1 ≤ n) (h2 : n < N)
    (hm : ∀ x, x ∈ all ↔ FaceOf (ts.take k) x ∨ ∃ b, 1 ≤ b ∧ b < n ∧ x = pick b t) (hr : ∀ x, x ∈ r ↔ x ∈ all ∨ x = pick n t) (ho : Order r) (h6 : 600 < r.length) : Over ts :=
  .inr ⟨r, order_nodup ho, h6, fun x hx => by
    rcases (hr x).1 hx with h | h
    · rcases (hm x).1 h with h | ⟨b, h3, h4, rfl⟩
      · exact face_take h
      · exact pick_face hk ht h3 (by rw [← hN]; omega)
    · subst h; exact pick_face hk ht h1 (by rw [← hN]; omega)⟩
theorem mem_put {ts all r : List (List Int)} {k n : Nat} {t : List Int} (h1 : 1 ≤ n)
    (hm : ∀ x, x ∈ all ↔ FaceOf (ts.take k) x ∨ ∃ b, 1 ≤ b ∧ b < n ∧ x = pick b t) (hr : ∀ x, x ∈ r ↔ x ∈ all ∨ x = pick n t) (x : List Int) : x ∈ r ↔ FaceOf (ts.take k) x ∨ ∃ b, 1 ≤ b ∧ b < n + 1 ∧ x = pick b t := by
  rw [hr, hm, or_assoc]
  refine or_congr Iff.rfl ⟨fun h => ?_, fun ⟨b, h3, h4, h5⟩ => ?_⟩
  · rcases h with ⟨b, h3, h4, h5⟩ | h
    · exact ⟨b, h3, by omega, h5⟩
    · exact ⟨n, h1, by omega, h⟩
  · by_cases e : b = n
    · subst e; exact .inr h5
    · exact .inl ⟨b, h3, by omega, h5⟩
theorem below4 {w W0 W3 w4 : World} (hB : Below w.heap.size w W0) (hB3 : Below W0.heap.size W0 W3) (hB4 : Below W3.heap.size W3 w4) : Below w.heap.size w w4 :=
  (hB.trans (hB3.mono hB.size)).trans (hB4.mono (hB.trans (hB3.mono hB.size)).size)
theorem below_push {W wr w5 : World} {e : TypeId} {v : Value} {n : Nat} {xs : List Value} {o : Obj} (h : Below W.heap.size W wr) (ho : wr.ownsRow W.heap.size e 1 v n xs) (hg : (wr.alloc o).grownBy w5 v.ownBlock) : Below W.heap.size W w5 :=
  (h.alloc h.size o).grown hg (by have := h.size; simp; omega) (fun i hi => (ho.lt i hi).1)

theorem ClosedSays.over {l ts : List (List Int)} {w : World} {e : Ending} {w' : World} (hB : Below w.heap.size w w') (hk : ∀ x ∈ l, SetOk x) (ht : l.map srt = ts) (ho : Over ts) (he : e = .returned (.tuple #[.slice none 0 0, .int .i64 2])) : ClosedSays l w e w' :=
  ⟨hB, .inr (.inl ⟨hk, ht ▸ ho, he⟩)⟩
theorem ClosedSays.good {l ts all : List (List Int)} {w : World} {e : Ending} {w' : World} {v : Value} (hB : Below w.heap.size w w') (hk : ∀ x ∈ l, SetOk x) (ht : l.map srt = ts) (ho : ¬ Over ts) (he : e = .returned (.tuple #[v, .int .i64 0])) (hr : RowsIn (fun bl => w.heap.size ≤ bl) w' v all) (ha : IsAll ts all) (h6 : all.length ≤ 600) : ClosedSays l w e w' :=
  ⟨hB, .inr (.inr ⟨hk, ht ▸ ho, v, all, he, hr, ht ▸ ha, h6⟩)⟩

theorem shl_int {n : Nat} (h : n ≤ 7) : wrap64 ((2 : Int) ^ n) = ((2 ^ n : Nat) : Int) := by
  match n, h with
  | 0, _ | 1, _ | 2, _ | 3, _ | 4, _ | 5, _ | 6, _ | 7, _ => rw [wrap64_small _ (by decide) (by decide)]; rfl
  | n + 8, h => omega

/-- Closed answers so. -/
def ClosedHolds : Prop := ∀ (vl : Value) (l : List (List Int)) (w : World), Rows w vl l → l.length ≤ 100000 → (∀ x ∈ l, x.length ≤ 1000) → Calls Tryz.prog 8 #[vl] w fun e w' => ClosedSays l w e w'

end Go.Proofs.YtnnkmkhamipfiaaGreatDoor

namespace Go.Proofs.YtnnkmkhamipfiaaGreatDoor
open Go.RowKit Go.Sort

/-- Is the face a part of a greater one among the first k? -/
def innerTo (all : List (List Int)) (x : List Int) (k : Nat) : Bool := innerB (all.take k) x
theorem innerTo_succ {all : List (List Int)} {k : Nat} (hk : k < all.length) (x : List Int) : innerTo all x (k + 1) = (innerTo all x k || (decide (x.length < (all[k]?.getD []).length) && x.all (fun v => (all[k]?.getD []).contains v))) := by
  unfold innerTo innerB
  rw [List.take_add_one, List.getElem?_eq_getElem hk, List.any_append]
  simp
theorem innerB_more {all : List (List Int)} {x : List Int} {k : Nat} (h : innerTo all x k = true) : innerB all x = true := by
  unfold innerTo innerB at h
  unfold innerB
  rw [List.any_eq_true] at h ⊢
  obtain ⟨y, hy, e⟩ := h
  exact ⟨y, List.mem_of_mem_take hy, e⟩

/-- Slice values that read as lists of numbers, one by one. -/
def Heads (w : World) (us : List Value) (xss : List (List Int)) : Prop := us.length = xss.length ∧ ∀ (k : Nat) (u : Value) (x : List Int), us[k]? = some u → xss[k]? = some x → Ints w u x
theorem Heads.snoc {w : World} {us : List Value} {xss : List (List Int)} {u : Value} {x : List Int} (h : Heads w us xss) (hu : Ints w u x) : Heads w (us ++ [u]) (xss ++ [x]) := by
  refine ⟨by simp [h.1], fun k u' x' h1 h2 => ?_⟩
  rw [List.getElem?_append] at h1 h2
  rw [h.1] at h1
  by_cases hk : k < xss.length
  · rw [if_pos hk] at h1 h2
    exact h.2 k u' x' h1 h2
  · rw [if_neg hk] at h1 h2
    have h0 : k - xss.length = 0 := by
      rcases Nat.eq_zero_or_pos (k - xss.length) with h | h
      · exact h
      · rw [List.getElem?_eq_none (by simp; omega)] at h1; cases h1
    rw [h0] at h1 h2
    simp at h1 h2
    subst h1; subst h2
    exact hu
theorem Heads.rows {w w' : World} {us : List Value} {xss : List (List Int)} {base : Nat} {v : Value} {n : Nat} (h : Heads w us xss) (hB : Below w.heap.size w w') (ho : w'.ownsRow base 29 1 v n us) : Rows w' v xss :=
  ⟨us, slice_of_owns ho (fun _ _ _ => trivial), h.1, fun k u x h1 h2 => (h.2 k u x h1 h2).below hB⟩

def facetsTo (all : List (List Int)) (k : Nat) : List (List Int) := (all.take k).filter (fun x => !innerB all x)
theorem facetsTo_succ {all : List (List Int)} {k : Nat} (hk : k < all.length) : facetsTo all (k + 1) = facetsTo all k ++ (if innerB all (all[k]?.getD []) = true then [] else [all[k]?.getD []]) := by
  unfold facetsTo
  rw [List.take_add_one, List.getElem?_eq_getElem hk, List.filter_append, Option.getD_some]
  congr 1
  cases h : innerB all all[k] <;> simp [h]
theorem facetsTo_length (all : List (List Int)) (k : Nat) : (facetsTo all k).length ≤ k := by
  unfold facetsTo
  have := List.length_filter_le (fun x => !innerB all x) (all.take k)
  simp at this
  omega

set_option maxRecDepth 100000 in
set_option maxHeartbeats 2000000 in
theorem facets_of (va : Value) (all : List (List Int)) (w : World) (ha : Rows w va all) (hl : all.length ≤ 1000) (hx : ∀ x ∈ all, x.length ≤ 1000) :
    Calls Tryz.prog 58 #[va] w fun e w' => ∃ v, e = .returned v ∧ Rows w' v (facetsI all) ∧ Below w.heap.size w w' := by
  obtain ⟨i0, hi, hz0, hz1, hz2⟩ := info_parts Tryz.info29
  obtain ⟨a, ca, rfl, -, hc⟩ := ha.open_
  have HX : Hid (∀ x ∈ all, x.length ≤ 1000) := hx
  clear hx ha
  go_enter Tryz.func58, Tryz.ntmps58
  go_wp2
  go_loopw [3, 4] (fun v p wr => ∃ (k : Nat) (us : List Value), k ≤ all.length ∧ p = .int .i64 k ∧ wr.ownsRow w.heap.size 29 1 v us.length us ∧ Heads w us (facetsTo all k) ∧ Below w.heap.size w wr)
    (fun _ p _ => all.length - (intOf p).toNat)
  case atStart => exact ⟨0, [], by omega, rfl, World.ownsRow_nil _ _ _ _, ⟨by simp [facetsTo], fun k u x h => by simp at h⟩, Below.refl _ _⟩
  case round =>
    obtain ⟨k, us, hk, rfl, hown, hh, hB⟩ := hrel
    have HH : Hid (Heads w us (facetsTo all k)) := hh
    have HO : Hid (wr.ownsRow w.heap.size 29 1 u3 us.length us) := hown
    have hul : us.length ≤ 1000 := by have := hh.1; have := facetsTo_length all k; omega
    clear hh hown
    by_cases hlt : k < all.length
    · obtain ⟨b, o, rfl, -, hb, c⟩ := hc (by omega)
      obtain ⟨a1, p1, g1, i1⟩ := c k hlt
      have hlen : (all[k]?.getD []).length ≤ 1000 := HX.out _ (by rw [List.getElem?_eq_getElem hlt]; simp)
      obtain ⟨x, hxe⟩ : ∃ x, all[k]?.getD [] = x := ⟨_, rfl⟩
      rw [hxe] at g1 i1 hlen
      have HXE : Hid (all[k]?.getD [] = x) := hxe
      have g2 : wr.cell? ⟨b, o + k, none⟩ = some (.slice a1 x.length p1) := (hB.cell (p := ⟨b, o + k, none⟩) hb).trans g1
      have HI1 : Hid (Ints w (.slice a1 x.length p1) x) := i1
      obtain ⟨wo, hwo⟩ : ∃ W, W = wr := ⟨_, rfl⟩
      subst hwo
      clear hxe i1 g1 hc
      go_wp2
      go_loopw [5, 6] (fun q p W => ∃ j n : Nat, j ≤ all.length ∧ p = .int .i64 j ∧ q = .bool (innerTo all x j) ∧ W = wo.drewN n) (fun _ p _ => all.length - (intOf p).toNat)
      case atStart => exact ⟨0, 0, by omega, rfl, by simp [innerTo, innerB], rfl⟩
      case round =>
        obtain ⟨j, n, hj, rfl, rfl, hw⟩ := hrel
        have HW : Hid (wr = wo.drewN n) := hw
        have g3 : wr.cell? ⟨b, o + k, none⟩ = some (.slice a1 x.length p1) := by rw [hw]; exact g2
        obtain ⟨q0, hq0⟩ : ∃ q, innerTo all x j = q := ⟨_, rfl⟩
        rw [hq0]
        have HQ : Hid (innerTo all x j = q0) := hq0
        clear hq0
        by_cases hjl : j < all.length
        · cases q0 with
          | true =>
            have hin : innerB all x = true := innerB_more HQ.out
            have HF : Hid (facetsTo all (k + 1) = facetsTo all k) := by
              show facetsTo all (k + 1) = facetsTo all k
              rw [facetsTo_succ hlt, HXE.out, if_pos hin, List.append_nil]
            have HOw : Hid (wr.ownsRow w.heap.size 29 1 u3 us.length us) := by
              show wr.ownsRow w.heap.size 29 1 u3 us.length us
              rw [hw]; exact HO.out
            have hBw : Below w.heap.size w wr := by rw [hw]; exact hB.trans ⟨rfl, rfl, rfl, Nat.le_refl _, fun _ _ => rfl⟩
            clear hin hw c
            go_wp2
            go_roundw
            case rel => exact ⟨k + 1, us, by omega, by go_num, HOw.out, by rw [HF.out]; exact HH.out, hBw⟩
            case measure => simp [intOf]; omega
          | false =>
            obtain ⟨a4, p4, g4, i4⟩ := c j hjl
            have hlen4 : (all[j]?.getD []).length ≤ 1000 := HX.out _ (by rw [List.getElem?_eq_getElem hjl]; simp)
            obtain ⟨y, hye⟩ : ∃ x, all[j]?.getD [] = x := ⟨_, rfl⟩
            rw [hye] at g4 i4 hlen4
            have HY : Hid (all[j]?.getD [] = y) := hye
            have g5 : wr.cell? ⟨b, o + j, none⟩ = some (.slice a4 y.length p4) := by rw [hw]; exact (hB.cell (p := ⟨b, o + j, none⟩) hb).trans g4
            have hpo : ∀ m, Calls Tryz.prog 60 #[.slice a1 x.length p1, .slice a4 y.length p4] (wr.drewN m) _ := fun m => part_of _ _ x y (wr.drewN m) (by rw [hw]; exact (show Ints wo (.slice a1 x.length p1) x from HI1.out.below hB)) (by rw [hw]; exact (show Ints wo (.slice a4 y.length p4) y from i4.below hB)) (by omega) (by omega)
            have HST : Hid (innerTo all x (j + 1) = (innerTo all x j || (decide (x.length < y.length) && x.all (fun v => y.contains v)))) := by
              show innerTo all x (j + 1) = _
              rw [innerTo_succ hjl, hye]
            clear hye g4 i4 hw
            by_cases hgt : x.length < y.length
            · have hd : decide ((x.length : Int) < (y.length : Int)) = true := decide_eq_true (by omega)
              go_wp2_with fail
              go_quiet ((go_at_call 60; exact Calls.quiet_of (hpo _)))
              go_wp2
              go_roundw
              case rel => exact ⟨j + 1, n + nq, by omega, by go_num, by rw [HST.out, HQ.out, decide_eq_true hgt]; simp, by rw [HW.out, World.drewN_drewN]⟩
              case measure => simp [intOf]; omega
            · have hd : decide ((x.length : Int) < (y.length : Int)) = false := decide_eq_false (by omega)
              go_wp2_with fail
              go_quiet (fail)
              go_wp2
              go_roundw
              case rel => exact ⟨j + 1, n + nq, by omega, by go_num, by rw [HST.out, HQ.out, decide_eq_false hgt]; simp, by rw [HW.out, World.drewN_drewN]⟩
              case measure => simp [intOf]; omega
        · obtain rfl : j = all.length := by omega
          have hqe : innerB all x = q0 := by have := HQ.out; unfold innerTo at this; rw [List.take_length] at this; exact this
          have HQE : Hid (innerB all x = q0) := hqe
          clear hqe
          cases q0 with
          | true =>
            have hin : innerB all x = true := HQE.out
            have HF : Hid (facetsTo all (k + 1) = facetsTo all k) := by
              show facetsTo all (k + 1) = facetsTo all k
              rw [facetsTo_succ hlt, HXE.out, if_pos hin, List.append_nil]
            have HOw : Hid (wr.ownsRow w.heap.size 29 1 u3 us.length us) := by
              show wr.ownsRow w.heap.size 29 1 u3 us.length us
              rw [hw]; exact HO.out
            have hBw : Below w.heap.size w wr := by rw [hw]; exact hB.trans ⟨rfl, rfl, rfl, Nat.le_refl _, fun _ _ => rfl⟩
            clear hin hw c
            go_wp2
            go_roundw
            case rel => exact ⟨k + 1, us, by omega, by go_num, HOw.out, by rw [HF.out]; exact HH.out, hBw⟩
            case measure => simp [intOf]; omega
          | false =>
            have hin : ¬ innerB all x = true := by rw [HQE.out]; decide
            have HF : Hid (facetsTo all (k + 1) = facetsTo all k ++ [x]) := by
              show facetsTo all (k + 1) = facetsTo all k ++ [x]
              rw [facetsTo_succ hlt, HXE.out, if_neg hin]
            have ho : wr.ownsRow w.heap.size 29 1 u3 us.length us := by rw [hw]; exact HO.out
            have hBw : Below w.heap.size w wr := by rw [hw]; exact hB.trans ⟨rfl, rfl, rfl, Nat.le_refl _, fun _ _ => rfl⟩
            have hbs := hBw.size
            clear hin hw c
            go_wp2_with (first
              | (at_builtin; refine wpList_append_slice rfl (.tmp 47) (.tmp 52) 22 rfl w.heap.size 29 i0 (.slice none 0 0) 24 Tryz.underlying22 hi hz0 hz1 hz2 rfl _ _ _ rfl (ho.alloc _) _ [.slice a1 x.length p1] rfl (slice_one _ _ _) (by simp [Value.oneCell']) (by simp; omega) (by unfold maxLen; simp; omega) (by simp; omega) ?_; intro v3 w4 hown3 hg3 hl3)
              | go_in)
            (try go_frame)
            go_roundw
            case rel => exact ⟨k + 1, us ++ [.slice a1 x.length p1], by omega, by go_num, by simpa using hown3, by rw [HF.out]; exact HH.out.snoc HI1.out, (hBw.alloc hbs _).grown hg3 (by simp; omega) (fun j hj => (ho.lt j hj).1)⟩
            case measure => simp [intOf]; omega
    · obtain rfl : k = all.length := by omega
      have HF : Hid (facetsTo all all.length = facetsI all) := by
        show facetsTo all all.length = facetsI all
        unfold facetsTo facetsI
        rw [List.take_length]
      clear hc
      go_wp2
      go_ret
      have hh := HH.out
      rw [HF.out] at hh
      exact ⟨_, rfl, hh.rows hB HO.out, hB⟩

end Go.Proofs.YtnnkmkhamipfiaaGreatDoor
