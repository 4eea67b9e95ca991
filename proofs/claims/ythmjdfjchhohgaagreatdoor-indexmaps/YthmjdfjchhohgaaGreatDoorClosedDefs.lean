/- A set's numbers, rising: what the text of a set tells. What the reference's Closed answers, told ahead of its walk, and the plain facts that the walk takes. -/
import Derived.Test.YthmjdfjchhohgaaGreatDoorMath2
import Derived.Test.YthmjdfjchhohgaaGreatDoorPut
namespace Go.Proofs.YthmjdfjchhohgaaGreatDoor

/-- A set's numbers, rising. -/
def srt (l : List Int) : List Int := l.mergeSort (fun x y => decide (x ≤ y))
theorem srt_mem (l : List Int) (v : Int) : v ∈ srt l ↔ v ∈ l := (List.mergeSort_perm l _).mem_iff
theorem srt_length (l : List Int) : (srt l).length = l.length := (List.mergeSort_perm l _).length_eq
theorem srt_rising {l : List Int} (h : l.Nodup) : Rising (srt l) := by
  have hs : (srt l).Pairwise (fun a b => decide (a ≤ b) = true) := List.pairwise_mergeSort (fun a b c h1 h2 => by simp at h1 h2 ⊢; omega) (fun a b => by simp; omega) l
  have hn : (srt l).Nodup := (List.mergeSort_perm l _).nodup_iff.2 h
  refine (hs.and hn).imp ?_
  rintro a b ⟨h1, h2⟩
  simp at h1
  omega
theorem srt_told {l out : List Int} (h : l.Nodup) (hr : Rising out) (hm : ∀ v, v ∈ out ↔ v ∈ l) : out = srt l := rising_told hr (srt_rising h) (fun v => by rw [hm, srt_mem])

theorem text_srt {l : List Int} {t : List UInt8} (h : SetOk l) (ht : TextOf l t) : ints t = srt l := text_sorted ht (srt_rising h.2.1) (fun v => srt_mem l v)
theorem text_len {l : List Int} {t : List UInt8} (h : SetOk l) (ht : TextOf l t) : t.length = l.length := by rw [← ints_length, text_srt h ht, srt_length]

end Go.Proofs.YthmjdfjchhohgaaGreatDoor

namespace Go.Proofs.YthmjdfjchhohgaaGreatDoor
open Go.RowKit Go.Sort

theorem not_ok_empty {l out : List Int} (hm : ∀ v, v ∈ out ↔ v ∈ l) (h : out.length = 0) : ¬ SetOk l := fun hk => by
  have : out = [] := List.length_eq_zero_iff.1 h
  subst this
  cases l with
  | nil => exact hk.1 rfl
  | cons a l => exact absurd ((hm a).2 (by simp)) (by simp)
theorem not_ok_low {l out : List Int} (hm : ∀ v, v ∈ out ↔ v ∈ l) (h : 0 < out.length) (hy : out[0]?.getD 0 < 0) : ¬ SetOk l := fun hk => by
  rw [List.getElem?_eq_getElem h, Option.getD_some] at hy
  have := (hk.2.2 _ ((hm _).1 (List.getElem_mem h))).1
  omega
theorem not_ok_high {l out : List Int} (hm : ∀ v, v ∈ out ↔ v ∈ l) (h : 0 < out.length) (hy : 99 < out[out.length - 1]?.getD 0) : ¬ SetOk l := fun hk => by
  have h' : out.length - 1 < out.length := by omega
  rw [List.getElem?_eq_getElem h', Option.getD_some] at hy
  have := (hk.2.2 _ ((hm _).1 (List.getElem_mem h'))).2
  omega
theorem ok_of {l out : List Int} (hn : l.Nodup) (hr : Rising out) (hm : ∀ v, v ∈ out ↔ v ∈ l) (h : 0 < out.length) (h1 : ¬ out[0]?.getD 0 < 0) (h2 : ¬ 99 < out[out.length - 1]?.getD 0) : SetOk l := by
  have h' : out.length - 1 < out.length := by omega
  rw [List.getElem?_eq_getElem h, Option.getD_some] at h1
  rw [List.getElem?_eq_getElem h', Option.getD_some] at h2
  refine ⟨fun e => ?_, hn, fun v hv => ?_⟩
  · have := (hm _).1 (List.getElem_mem h)
    rw [e] at this; cases this
  · obtain ⟨t, ht, e⟩ := List.getElem_of_mem ((hm v).2 hv)
    have hp := List.pairwise_iff_getElem.1 hr
    constructor
    · by_cases e0 : t = 0
      · subst e0; omega
      · have := hp 0 t h ht (by omega); omega
    · by_cases e0 : t = out.length - 1
      · subst e0; omega
      · have := hp t (out.length - 1) ht h' (by omega); omega

/-- What Closed answers. -/
def ClosedSays (l : List (List Int)) (w : World) (e : Ending) (w' : World) : Prop :=
  Below w.heap.size w w' ∧
    ((¬ (∀ x ∈ l, SetOk x) ∧ e = .returned (.tuple #[.slice none 0 0, .int .i64 4])) ∨
     ((∀ x ∈ l, SetOk x) ∧ Over (l.map srt) ∧ e = .returned (.tuple #[.slice none 0 0, .int .i64 2])) ∨
     ((∀ x ∈ l, SetOk x) ∧ ¬ Over (l.map srt) ∧ ∃ v all, e = .returned (.tuple #[v, .int .i64 0]) ∧ RowsIn (fun bl => w.heap.size ≤ bl) w' v all ∧ IsAll (l.map srt) all ∧ all.length ≤ 600))

theorem ClosedSays.bad {l : List (List Int)} {w : World} {e : Ending} {w' : World} (hB : Below w.heap.size w w') {k : Nat} (hk : k < l.length) (h : ¬ SetOk (l[k]?.getD [])) (he : e = .returned (.tuple #[.slice none 0 0, .int .i64 4])) : ClosedSays l w e w' :=
  ⟨hB, .inl ⟨fun ha => h (by rw [List.getElem?_eq_getElem hk, Option.getD_some]; exact ha _ (List.getElem_mem hk)), he⟩⟩

theorem take_ok {l : List (List Int)} {k : Nat} (hk : k < l.length) (h : ∀ x ∈ l.take k, SetOk x) (hx : SetOk (l[k]?.getD [])) : ∀ x ∈ l.take (k + 1), SetOk x := by
  rw [List.getElem?_eq_getElem hk, Option.getD_some] at hx
  rw [List.take_add_one, List.getElem?_eq_getElem hk]
  intro x hm
  rcases List.mem_append.1 hm with a | a
  · exact h x a
  · simp at a; subst a; exact hx
theorem take_map_snoc {l : List (List Int)} {k : Nat} (hk : k < l.length) : (l.take (k + 1)).map srt = (l.take k).map srt ++ [srt (l[k]?.getD [])] := by
  rw [List.take_add_one, List.getElem?_eq_getElem hk, List.map_append, Option.getD_some]
  rfl

theorem bit_int (n j : Nat) : ((((n : Int) / 2 ^ j).tmod 2) == 1) = decide (n / 2 ^ j % 2 = 1) := by
  have h : (n : Int) / 2 ^ j = ((n / 2 ^ j : Nat) : Int) := by rw [Int.natCast_ediv, Int.natCast_pow]; rfl
  rw [h]
  generalize n / 2 ^ j = m
  have h2 : ((m : Int).tmod 2) = ((m % 2 : Nat) : Int) := by rw [Int.tmod_eq_emod_of_nonneg (by omega)]; omega
  rw [h2]
  by_cases h3 : m % 2 = 1
  · rw [h3]; rfl
  · rw [decide_eq_false h3]
    exact beq_false_of_ne (by omega)
theorem wrap64_small (n : Int) (h0 : 0 ≤ n) (h1 : n ≤ 1000) : wrap64 n = n := by unfold wrap64; omega

theorem face_take {ts : List (List Int)} {k : Nat} {x : List Int} (h : FaceOf (ts.take k) x) : FaceOf ts x := by
  obtain ⟨h1, t, ht, hs⟩ := h
  exact ⟨h1, t, List.mem_of_mem_take ht, hs⟩
theorem faces_step {ts : List (List Int)} {k : Nat} {t : List Int} (hk : k < ts.length) (ht : ts[k]?.getD [] = t) (x : List Int) :
    (FaceOf (ts.take k) x ∨ ∃ b, 1 ≤ b ∧ b < 2 ^ t.length ∧ x = pick b t) ↔ FaceOf (ts.take (k + 1)) x := by
  have ht' : ts[k]? = some t := by rw [List.getElem?_eq_getElem hk] at ht ⊢; simpa using ht
  have hm : ∀ u, u ∈ ts.take (k + 1) ↔ u ∈ ts.take k ∨ u = t := fun u => by
    rw [List.take_add_one, ht', List.mem_append]
    simp only [Option.toList, List.mem_singleton]
  constructor
  · rintro (⟨h1, u, hu, hs⟩ | ⟨b, h1, h2, rfl⟩)
    · exact ⟨h1, u, (hm u).2 (.inl hu), hs⟩
    · exact ⟨pick_ne b t h1 h2, t, (hm t).2 (.inr rfl), pick_sub b t⟩
  · rintro ⟨h1, u, hu, hs⟩
    rcases (hm u).1 hu with h | h
    · exact .inl ⟨h1, u, h, hs⟩
    · subst h
      obtain ⟨b, hb, e⟩ := pick_all hs
      refine .inr ⟨b, ?_, hb, e.symm⟩
      rcases Nat.eq_zero_or_pos b with h0 | h0
      · subst h0; rw [pick_zero] at e; exact absurd e.symm h1
      · exact h0
theorem pick_face {ts : List (List Int)} {k n : Nat} {t : List Int} (hk : k < ts.length) (ht : ts[k]?.getD [] = t) (h1 : 1 ≤ n) (h2 : n < 2 ^ t.length) : FaceOf ts (pick n t) := by
  refine ⟨pick_ne n t h1 h2, t, ?_, pick_sub n t⟩
  rw [List.getElem?_eq_getElem hk, Option.getD_some] at ht
  exact ht ▸ List.getElem_mem hk
theorem take_short {ts : List (List Int)} {k : Nat} {t : List Int} (hk : k < ts.length) (ht : ts[k]?.getD [] = t) (h7 : t.length ≤ 7) (h : ∀ u ∈ ts.take k, u.length ≤ 7) : ∀ u ∈ ts.take (k + 1), u.length ≤ 7 := by
  have ht' : ts[k]? = some t := by rw [List.getElem?_eq_getElem hk] at ht ⊢; simpa using ht
  intro u hu
  rw [List.take_add_one, ht', List.mem_append] at hu
  rcases hu with a | a
  · exact h u a
  · simp at a; subst a; exact h7
theorem over_big {ts : List (List Int)} {k : Nat} {t : List Int} (hk : k < ts.length) (ht : ts[k]?.getD [] = t) (h7 : 7 < t.length) : Over ts := by
  rw [List.getElem?_eq_getElem hk, Option.getD_some] at ht
  exact .inl ⟨t, ht ▸ List.getElem_mem hk, h7⟩
theorem not_over {ts all : List (List Int)} (h : IsAll ts all) (h7 : ∀ t ∈ ts, t.length ≤ 7) (h6 : all.length ≤ 600) : ¬ Over ts := by
  rintro (⟨t, ht, hl⟩ | ⟨X, hn, hl, hx⟩)
  · have := h7 t ht; omega
  · have := nodup_le hn (fun x hx' => (h.mem x).2 (hx x hx')); omega
theorem faces_short {ts all : List (List Int)} {k n : Nat} {t : List Int} (h7 : t.length ≤ 7) (h : ∀ u ∈ ts.take k, u.length ≤ 7) (hm : ∀ x, x ∈ all ↔ FaceOf (ts.take k) x ∨ ∃ b, 1 ≤ b ∧ b < n ∧ x = pick b t) : ∀ x ∈ all, x.length ≤ 1000 := fun x hx => by
  rcases (hm x).1 hx with ⟨_, u, hu, hs⟩ | ⟨b, _, _, rfl⟩
  · have := hs.length_le; have := h u hu; omega
  · have := (pick_sub b t).length_le; omega
theorem over_put {ts all r : List (List Int)} {k n N : Nat} {t : List Int} (hk : k < ts.length) (ht : ts[k]?.getD [] = t) (hN : N = 2 ^ t.length) (h1 : 1 ≤ n) (h2 : n < N)
    (hm : ∀ x, x ∈ all ↔ FaceOf (ts.take k) x ∨ ∃ b, 1 ≤ b ∧ b < n ∧ x = pick b t) (hr : ∀ x, x ∈ r ↔ x ∈ all ∨ x = pick n t) (ho : Order r) (h6 : 600 < r.length) : Over ts :=
  .inr ⟨r, order_nodup ho, h6, fun x hx => by
    rcases (hr x).1 hx with h | h
    · rcases (hm x).1 h with h | ⟨b, h3, h4, rfl⟩
      · exact face_take h
      · exact pick_face hk ht h3 (by rw [← hN]; omega)
    · subst h; exact pick_face hk ht h1 (by rw [← hN]; omega)⟩
theorem mem_put {ts all r : List (List Int)} {k n : Nat} {t : List Int} (h1 : 1 ≤ n)
    (hm : ∀ x, x ∈ all ↔ FaceOf (ts.take k) x ∨ ∃ b, 1 ≤ b ∧ b < n ∧ x = pick b t) (hr : ∀ x, x ∈ r ↔ x ∈ all ∨ x = pick n t) (x : List Int) : x ∈ r ↔ FaceOf (ts.take k) x ∨ ∃ b, 1 ≤ b ∧ b < n + 1 ∧ x = pick b t := by
  rw [hr, hm, or_assoc]
  refine or_congr Iff.rfl ⟨fun h => ?_, fun ⟨b, h3, h4, h5⟩ => ?_⟩
  · rcases h with ⟨b, h3, h4, h5⟩ | h
    · exact ⟨b, h3, by omega, h5⟩
    · exact ⟨n, h1, by omega, h⟩
  · by_cases e : b = n
    · subst e; exact .inr h5
    · exact .inl ⟨b, h3, by omega, h5⟩
theorem below4 {w W0 W3 w4 : World} (hB : Below w.heap.size w W0) (hB3 : Below W0.heap.size W0 W3) (hB4 : Below W3.heap.size W3 w4) : Below w.heap.size w w4 :=
  (hB.trans (hB3.mono hB.size)).trans (hB4.mono (hB.trans (hB3.mono hB.size)).size)
theorem below_push {W wr w5 : World} {e : TypeId} {v : Value} {n : Nat} {xs : List Value} {o : Obj} (h : Below W.heap.size W wr) (ho : wr.ownsRow W.heap.size e 1 v n xs) (hg : (wr.alloc o).grownBy w5 v.ownBlock) : Below W.heap.size W w5 :=
  (h.alloc h.size o).grown hg (by have := h.size; simp; omega) (fun i hi => (ho.lt i hi).1)

theorem ClosedSays.over {l ts : List (List Int)} {w : World} {e : Ending} {w' : World} (hB : Below w.heap.size w w') (hk : ∀ x ∈ l, SetOk x) (ht : l.map srt = ts) (ho : Over ts) (he : e = .returned (.tuple #[.slice none 0 0, .int .i64 2])) : ClosedSays l w e w' :=
  ⟨hB, .inr (.inl ⟨hk, ht ▸ ho, he⟩)⟩
theorem ClosedSays.good {l ts all : List (List Int)} {w : World} {e : Ending} {w' : World} {v : Value} (hB : Below w.heap.size w w') (hk : ∀ x ∈ l, SetOk x) (ht : l.map srt = ts) (ho : ¬ Over ts) (he : e = .returned (.tuple #[v, .int .i64 0])) (hr : RowsIn (fun bl => w.heap.size ≤ bl) w' v all) (ha : IsAll ts all) (h6 : all.length ≤ 600) : ClosedSays l w e w' :=
  ⟨hB, .inr (.inr ⟨hk, ht ▸ ho, v, all, he, hr, ht ▸ ha, h6⟩)⟩

theorem shl_int {n : Nat} (h : n ≤ 7) : wrap64 ((2 : Int) ^ n) = ((2 ^ n : Nat) : Int) := by
  match n, h with
  | 0, _ | 1, _ | 2, _ | 3, _ | 4, _ | 5, _ | 6, _ | 7, _ => rw [wrap64_small _ (by decide) (by decide)]; rfl
  | n + 8, h => omega

/-- Closed answers so. -/
def ClosedHolds : Prop := ∀ (vl : Value) (l : List (List Int)) (w : World), Rows w vl l → l.length ≤ 100000 → (∀ x ∈ l, x.length ≤ 1000) → Calls Tryz.prog 16 #[vl] w fun e w' => ClosedSays l w e w'

end Go.Proofs.YthmjdfjchhohgaaGreatDoor
