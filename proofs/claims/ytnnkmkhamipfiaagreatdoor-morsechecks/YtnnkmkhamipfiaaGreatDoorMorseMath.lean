/- A set's numbers, rising: what the text of a set tells. How many faces there are of each length, and their number with signs, told by any list of the faces. The faces of a dimension. Faces by their numbers: which is under which, which are free, what collapses leave: no program is spoken of. -/
import Derived.Test.YtnnkmkhamipfiaaGreatDoorMath2
namespace Go.Proofs.YtnnkmkhamipfiaaGreatDoor

/-- A set's numbers, rising. -/
def srt (l : List Int) : List Int := l.mergeSort (fun x y => decide (x ≤ y))
theorem srt_mem (l : List Int) (v : Int) : v ∈ srt l ↔ v ∈ l := (List.mergeSort_perm l _).mem_iff
theorem srt_length (l : List Int) : (srt l).length = l.length := (List.mergeSort_perm l _).length_eq
theorem srt_rising {l : List Int} (h : l.Nodup) : Rising (srt l) := by
  have hs : (srt l).Pairwise (fun a b => decide (a ≤ b) = true) := List.pairwise_mergeSort (fun a b c h1 h2 => by simp at h1 h2 ⊢; omega) (fun a b => by simp; omega) l
  have hn : (srt l).Nodup := (List.mergeSort_perm l _).nodup_iff.2 h
  refine (hs.and hn).imp ?_
  rintro a b ⟨h1, h2⟩
  simp at h1
  omega
theorem srt_told {l out : List Int} (h : l.Nodup) (hr : Rising out) (hm : ∀ v, v ∈ out ↔ v ∈ l) : out = srt l := rising_told hr (srt_rising h) (fun v => by rw [hm, srt_mem])

theorem text_srt {l : List Int} {t : List UInt8} (h : SetOk l) (ht : TextOf l t) : ints t = srt l := text_sorted ht (srt_rising h.2.1) (fun v => srt_mem l v)
theorem text_len {l : List Int} {t : List UInt8} (h : SetOk l) (ht : TextOf l t) : t.length = l.length := by rw [← ints_length, text_srt h ht, srt_length]

end Go.Proofs.YtnnkmkhamipfiaaGreatDoor

namespace Go.Proofs.YtnnkmkhamipfiaaGreatDoor

/-- The greatest length. -/
def topN {α : Type} : List (List α) → Nat
  | [] => 0
  | x :: l => max x.length (topN l)
theorem topN_le {α : Type} {l : List (List α)} {x : List α} (h : x ∈ l) : x.length ≤ topN l := by
  induction l with
  | nil => cases h
  | cons y l ih =>
    rcases List.mem_cons.1 h with rfl | h
    · simp only [topN]; omega
    · have := ih h; simp only [topN]; omega
theorem topN_perm {α : Type} {l m : List (List α)} (h : l.Perm m) : topN l = topN m := by
  induction h with
  | nil => rfl
  | cons x _ ih => simp only [topN]; omega
  | swap x y l => simp only [topN]; omega
  | trans _ _ h1 h2 => omega
theorem topN_snoc {α : Type} (l : List (List α)) (x : List α) : topN (l ++ [x]) = max (topN l) x.length := by
  induction l with
  | nil => simp [topN]
  | cons y l ih => simp only [List.cons_append, topN, ih]; omega
theorem topN_ints (F : List (List UInt8)) : topN (F.map ints) = topN F := by
  induction F with
  | nil => rfl
  | cons x l ih => simp only [List.map_cons, topN, ih, ints_length]
theorem topN_upto {α : Type} {l : List (List α)} {m : Nat} (h : ∀ x ∈ l, x.length ≤ m) : topN l ≤ m := by
  induction l with
  | nil => simp [topN]
  | cons x l ih =>
    have h1 := h x (by simp)
    have h2 := ih (fun y hy => h y (by simp [hy]))
    simp only [topN]; omega

/-- How many there are of d + 1. -/
def cnt {α : Type} : List (List α) → Nat → Nat
  | [], _ => 0
  | x :: l, d => (if x.length = d + 1 then 1 else 0) + cnt l d
theorem cnt_perm {α : Type} {l m : List (List α)} (h : l.Perm m) (d : Nat) : cnt l d = cnt m d := by
  induction h with
  | nil => rfl
  | cons x _ ih => simp only [cnt]; omega
  | swap x y l => simp only [cnt]; omega
  | trans _ _ h1 h2 => omega
theorem cnt_snoc {α : Type} (l : List (List α)) (x : List α) (d : Nat) : cnt (l ++ [x]) d = cnt l d + (if x.length = d + 1 then 1 else 0) := by
  induction l with
  | nil => simp [cnt]
  | cons y l ih => simp only [List.cons_append, cnt, ih]; omega
theorem cnt_ints (F : List (List UInt8)) (d : Nat) : cnt (F.map ints) d = cnt F d := by
  induction F with
  | nil => rfl
  | cons x l ih => simp only [List.map_cons, cnt, ih, ints_length]
theorem cnt_above {α : Type} {l : List (List α)} {d : Nat} (h : topN l ≤ d) : cnt l d = 0 := by
  induction l with
  | nil => rfl
  | cons x l ih =>
    simp only [topN] at h
    simp only [cnt]
    rw [ih (by omega), if_neg (by omega)]
theorem cnt_le {α : Type} (l : List (List α)) (d : Nat) : cnt l d ≤ l.length := by
  induction l with
  | nil => simp [cnt]
  | cons x l ih =>
    simp only [cnt, List.length_cons]
    have : (if x.length = d + 1 then 1 else 0) ≤ 1 := by split <;> omega
    omega
theorem cnt_filter {α : Type} (l : List (List α)) (d : Nat) : (l.filter (fun x => decide ((x.length : Int) - 1 = (d : Int)))).length = cnt l d := by
  induction l with
  | nil => rfl
  | cons x l ih =>
    by_cases h : x.length = d + 1
    · have h' : (x.length : Int) - 1 = (d : Int) := by omega
      rw [List.filter_cons, if_pos (decide_eq_true h'), List.length_cons, ih]
      simp only [cnt, if_pos h]
      omega
    · have h' : ¬ (x.length : Int) - 1 = (d : Int) := by omega
      rw [List.filter_cons, if_neg (by rw [decide_eq_false h']; decide), ih]
      simp only [cnt, if_neg h]
      omega

/-- How many of each length, from 1 on. -/
def vecOf {α : Type} (l : List (List α)) : List Int := (List.range (topN l)).map (fun d => (cnt l d : Int))
theorem vecOf_length {α : Type} (l : List (List α)) : (vecOf l).length = topN l := by simp [vecOf]
theorem vecOf_get {α : Type} (l : List (List α)) (d : Nat) (h : d < topN l) : (vecOf l)[d]? = some (cnt l d : Int) := by
  simp [vecOf, List.getElem?_map, List.getElem?_range h]
theorem vecOf_perm {α : Type} {l m : List (List α)} (h : l.Perm m) : vecOf l = vecOf m := by
  unfold vecOf
  rw [topN_perm h]
  exact List.map_congr_left (fun d _ => by rw [cnt_perm h])
theorem vecOf_ints (F : List (List UInt8)) : vecOf (F.map ints) = vecOf F := by
  unfold vecOf
  rw [topN_ints]
  exact List.map_congr_left (fun d _ => by rw [cnt_ints])

theorem pad_get {α : Type} (ss : List (List α)) (n d : Nat) (h : d < topN ss + n) : (vecOf ss ++ List.replicate n 0)[d]? = some (cnt ss d : Int) := by
  rw [List.getElem?_append, vecOf_length]
  split
  · rename_i h1; exact vecOf_get ss d h1
  · rename_i h1
    rw [List.getElem?_replicate, if_pos (by omega), cnt_above (by omega)]
    rfl
theorem vec_step {α : Type} {ss : List (List α)} {x : List α} (hx : x ≠ []) :
    vecOf (ss ++ [x]) = (vecOf ss ++ List.replicate (x.length - topN ss) 0).set (x.length - 1) ((vecOf ss ++ List.replicate (x.length - topN ss) 0)[x.length - 1]?.getD 0 + 1) := by
  have hp : 0 < x.length := List.length_pos_iff.2 hx
  have hlen : (vecOf ss ++ List.replicate (x.length - topN ss) (0 : Int)).length = topN (ss ++ [x]) := by
    rw [List.length_append, vecOf_length, List.length_replicate, topN_snoc]; omega
  refine List.ext_getElem? (fun d => ?_)
  rw [List.getElem?_set, hlen]
  rcases Nat.lt_or_ge d (topN (ss ++ [x])) with h | h
  · rw [vecOf_get _ d h, cnt_snoc]
    have hd : d < topN ss + (x.length - topN ss) := by rw [topN_snoc] at h; omega
    have hd1 : x.length - 1 < topN ss + (x.length - topN ss) := by omega
    rw [pad_get ss _ d hd, pad_get ss _ _ hd1, Option.getD_some]
    by_cases e : x.length - 1 = d
    · subst e
      rw [if_pos rfl, if_pos h, if_pos (show x.length = x.length - 1 + 1 by omega)]
      simp
    · rw [if_neg e, if_neg (show ¬ x.length = d + 1 by omega)]
      simp
  · have e1 : (vecOf (ss ++ [x]))[d]? = none := List.getElem?_eq_none (by rw [vecOf_length]; exact h)
    have e2 : (vecOf ss ++ List.replicate (x.length - topN ss) (0 : Int))[d]? = none := List.getElem?_eq_none (by rw [hlen]; exact h)
    rw [e1, e2]
    split
    · rename_i e; rw [if_neg (by omega)]
    · rfl

/-- 1 of an even number, -1 of an odd one. -/
def sg (d : Nat) : Int := 1 - 2 * ((d % 2 : Nat) : Int)
/-- The sum of numbers with signs in turn. -/
def altTo (v : List Int) : Nat → Int
  | 0 => 0
  | k + 1 => altTo v k + sg k * (v[k]?.getD 0)
def pt (L : Nat) : Nat → Int
  | 0 => 0
  | k + 1 => pt L k + (if L = k + 1 then sg k else 0)
theorem pt_before (L : Nat) : ∀ k, k < L → pt L k = 0
  | 0, _ => rfl
  | k + 1, h => by simp only [pt]; rw [pt_before L k (by omega), if_neg (by omega)]; rfl
theorem pt_val (L : Nat) (hp : 1 ≤ L) : ∀ k, L ≤ k → pt L k = sg (L - 1)
  | 0, h => by omega
  | k + 1, h => by
    simp only [pt]
    by_cases e : L = k + 1
    · rw [pt_before L k (by omega), if_pos e]; subst e; simp
    · rw [pt_val L hp k (by omega), if_neg e]; simp
def eTo {α : Type} (l : List (List α)) : Nat → Int
  | 0 => 0
  | k + 1 => eTo l k + sg k * (cnt l k : Int)
theorem eTo_nil {α : Type} : ∀ k, eTo ([] : List (List α)) k = 0
  | 0 => rfl
  | k + 1 => by simp only [eTo, eTo_nil k, cnt]; simp
theorem eTo_cons {α : Type} (x : List α) (l : List (List α)) : ∀ k, eTo (x :: l) k = eTo l k + pt x.length k
  | 0 => rfl
  | k + 1 => by
    simp only [eTo, pt, eTo_cons x l k, cnt]
    by_cases e : x.length = k + 1
    · rw [if_pos e, if_pos e, Int.natCast_add, Int.mul_add]; simp; omega
    · rw [if_neg e, if_neg e]; simp; omega
/-- The number of the faces with signs. -/
def eulerOf {α : Type} : List (List α) → Int
  | [] => 0
  | x :: l => (if x.length % 2 = 1 then 1 else -1) + eulerOf l
theorem eulerOf_perm {α : Type} {l m : List (List α)} (h : l.Perm m) : eulerOf l = eulerOf m := by
  induction h with
  | nil => rfl
  | cons x _ ih => simp only [eulerOf]; omega
  | swap x y l => simp only [eulerOf]; omega
  | trans _ _ h1 h2 => omega
theorem eulerOf_snoc {α : Type} (l : List (List α)) (x : List α) : eulerOf (l ++ [x]) = eulerOf l + (if x.length % 2 = 1 then 1 else -1) := by
  induction l with
  | nil => simp [eulerOf]
  | cons y l ih => simp only [List.cons_append, eulerOf, ih]; omega
theorem eulerOf_ints (F : List (List UInt8)) : eulerOf (F.map ints) = eulerOf F := by
  induction F with
  | nil => rfl
  | cons x l ih => simp only [List.map_cons, eulerOf, ih, ints_length]
theorem eulerOf_small {α : Type} (l : List (List α)) : -(l.length : Int) ≤ eulerOf l ∧ eulerOf l ≤ l.length := by
  induction l with
  | nil => simp [eulerOf]
  | cons x l ih =>
    simp only [eulerOf, List.length_cons]
    split <;> omega
theorem sg_length (L : Nat) (h : 1 ≤ L) : sg (L - 1) = if L % 2 = 1 then 1 else -1 := by
  unfold sg
  split <;> omega
theorem eTo_all {α : Type} {l : List (List α)} (hne : ∀ x ∈ l, x ≠ []) (n : Nat) (h : topN l ≤ n) : eTo l n = eulerOf l := by
  induction l with
  | nil => rw [eTo_nil]; rfl
  | cons x l ih =>
    have hp : 0 < x.length := List.length_pos_iff.2 (hne x (by simp))
    simp only [topN] at h
    rw [eTo_cons, ih (fun y hy => hne y (by simp [hy])) (by omega), pt_val x.length hp n (by omega), sg_length _ hp]
    simp only [eulerOf]
    omega
theorem altTo_vec {α : Type} (l : List (List α)) : ∀ k, k ≤ topN l → altTo (vecOf l) k = eTo l k
  | 0, _ => rfl
  | k + 1, h => by
    simp only [altTo, eTo]
    rw [altTo_vec l k (by omega), vecOf_get l k (by omega), Option.getD_some]
theorem alt_euler {α : Type} {l : List (List α)} (hne : ∀ x ∈ l, x ≠ []) : altTo (vecOf l) (vecOf l).length = eulerOf l := by
  rw [vecOf_length, altTo_vec l _ (Nat.le_refl _), eTo_all hne _ (Nat.le_refl _)]
theorem alt_small (v : List Int) (m : Nat) (h : ∀ x ∈ v, 0 ≤ x ∧ x ≤ m) : ∀ k, k ≤ v.length → -((k * m : Nat) : Int) ≤ altTo v k ∧ altTo v k ≤ ((k * m : Nat) : Int)
  | 0, _ => by simp [altTo]
  | k + 1, hk => by
    have ih := alt_small v m h k (by omega)
    have hx := h (v[k]?.getD 0) (by rw [List.getElem?_eq_getElem (show k < v.length by omega)]; simp)
    simp only [altTo]
    have e : ((k + 1) * m : Nat) = k * m + m := by rw [Nat.add_mul, Nat.one_mul]
    rw [e]
    have hs : sg k = 1 ∨ sg k = -1 := by unfold sg; omega
    rcases hs with hs | hs <;> rw [hs] <;> omega

/-- The faces of the map and the faces in order are the same ones. -/
theorem perm_all {ts F : List (List UInt8)} {all : List (List Int)} (hn : F.Nodup) (hF : ∀ x, x ∈ F ↔ FaceOf ts x) (h : IsAll (ts.map ints) all) : (F.map ints).Perm all := by
  refine (List.perm_ext_iff_of_nodup (List.pairwise_map.2 (hn.imp (fun h e => h (ints_inj e)))) (order_nodup h.order)).2 (fun y => ?_)
  rw [List.mem_map, h.mem]
  constructor
  · rintro ⟨x, hx, rfl⟩
    exact face_ints.2 ((hF x).1 hx)
  · intro hy
    obtain ⟨x, rfl⟩ := face_from hy
    exact ⟨x, (hF x).2 (face_ints.1 hy), rfl⟩

/-- Some faces that the map tells, sorted, are those of the list of all faces. -/
theorem faces_same {ts F ss : List (List UInt8)} {all : List (List Int)} (hF : ∀ x, x ∈ F ↔ FaceOf ts x) (h : IsAll (ts.map ints) all) (hn : ss.Nodup) {p : Nat → Bool}
    (hm : ∀ x, x ∈ ss ↔ x ∈ F ∧ p x.length = true) : (ss.mergeSort (fun x y => decide (x ≤ y))).map ints = all.filter (fun x => p x.length) := by
  refine order_told (sorted_order hn) (h.order.filter _) (fun y => ?_)
  rw [List.mem_filter, h.mem, List.mem_map]
  constructor
  · rintro ⟨x, hx, rfl⟩
    have := (hm x).1 ((List.mergeSort_perm ss _).mem_iff.1 hx)
    exact ⟨face_ints.2 ((hF x).1 this.1), by rw [ints_length]; exact this.2⟩
  · rintro ⟨a, b⟩
    obtain ⟨x, rfl⟩ := face_from a
    exact ⟨x, (List.mergeSort_perm ss _).mem_iff.2 ((hm x).2 ⟨(hF x).2 (face_ints.1 a), by rw [ints_length] at b; exact b⟩), rfl⟩

end Go.Proofs.YtnnkmkhamipfiaaGreatDoor

namespace Go.Proofs.YtnnkmkhamipfiaaGreatDoor

/-- The faces of a dimension. -/
def ofDim (all : List (List Int)) (dim : Int) : List (List Int) := all.filter (fun x => decide ((x.length : Int) - 1 = dim))
theorem ofDim_length (all : List (List Int)) (dim : Int) : (ofDim all dim).length ≤ all.length := List.length_filter_le _ _
theorem ofDim_succ {all : List (List Int)} {k : Nat} (hk : k < all.length) (dim : Int) : ofDim (all.take (k + 1)) dim = ofDim (all.take k) dim ++ (if ((all[k]?.getD []).length : Int) - 1 = dim then [all[k]?.getD []] else []) := by
  unfold ofDim
  rw [List.take_add_one, List.getElem?_eq_getElem hk, List.filter_append, Option.getD_some]
  congr 1
  by_cases h : (all[k].length : Int) - 1 = dim <;> simp [h]

end Go.Proofs.YtnnkmkhamipfiaaGreatDoor

namespace Go.Proofs.YtnnkmkhamipfiaaGreatDoor

/-- The faces in the order of their numbers. -/
def numTo (all : List (List Int)) (d : Nat) : List (List Int) := (List.range d).flatMap fun (k : Nat) => ofDim all (k : Int)
def numL (all : List (List Int)) : List (List Int) := numTo all (topN all)

theorem numTo_succ (all : List (List Int)) (d : Nat) : numTo all (d + 1) = numTo all d ++ ofDim all (d : Int) := by simp [numTo, List.range_succ]
theorem numTo_mem {all : List (List Int)} {d : Nat} {x : List Int} : x ∈ numTo all d ↔ x ∈ all ∧ 1 ≤ x.length ∧ x.length ≤ d := by
  unfold numTo
  rw [List.mem_flatMap]
  constructor
  · rintro ⟨k, hk, h⟩
    rw [List.mem_range] at hk
    obtain ⟨h1, h2⟩ := List.mem_filter.1 h
    rw [decide_eq_true_eq] at h2
    exact ⟨h1, by omega, by omega⟩
  · rintro ⟨h1, h2, h3⟩
    exact ⟨x.length - 1, List.mem_range.2 (by omega), List.mem_filter.2 ⟨h1, by rw [decide_eq_true_eq]; omega⟩⟩
theorem numTo_nodup {all : List (List Int)} (h : all.Nodup) (d : Nat) : (numTo all d).Nodup := by
  induction d with
  | zero => exact List.nodup_nil
  | succ d ih =>
    rw [numTo_succ]
    refine List.nodup_append.2 ⟨ih, h.filter _, fun a ha b hb e => ?_⟩
    subst e
    have h1 := numTo_mem.1 ha
    have h2 := (List.mem_filter.1 hb).2
    rw [decide_eq_true_eq] at h2
    omega
theorem numTo_order (all : List (List Int)) (d : Nat) : (numTo all d).Pairwise (fun x y => x.length ≤ y.length) := by
  induction d with
  | zero => exact List.Pairwise.nil
  | succ d ih =>
    rw [numTo_succ]
    refine List.pairwise_append.2 ⟨ih, ?_, fun a ha b hb => ?_⟩
    · refine List.pairwise_of_forall_mem_list fun a ha b hb => ?_
      have h1 := (List.mem_filter.1 ha).2
      have h2 := (List.mem_filter.1 hb).2
      rw [decide_eq_true_eq] at h1 h2
      omega
    · have h1 := numTo_mem.1 ha
      have h2 := (List.mem_filter.1 hb).2
      rw [decide_eq_true_eq] at h2
      omega

/-- Faces by their numbers: each once, the greater ones behind, with all their parts. -/
structure FaceList (L : List (List Int)) : Prop where
  nodup : L.Nodup
  order : L.Pairwise (fun x y => x.length ≤ y.length)
  rising : ∀ x ∈ L, Rising x
  some_ : ∀ x ∈ L, x ≠ []
  down : ∀ x ∈ L, ∀ y, y ≠ [] → y.Sublist x → y ∈ L

theorem faceList_of {ts all : List (List Int)} (hr : ∀ t ∈ ts, Rising t) (hd : all.Nodup) (h : IsAll ts all) : FaceList (numL all) where
  nodup := numTo_nodup hd _
  order := numTo_order _ _
  rising := fun x hx => face_rising hr ((h.mem x).1 (numTo_mem.1 hx).1)
  some_ := fun x hx e => by have := (numTo_mem.1 hx).2.1; rw [e] at this; simp at this
  down := fun x hx y hy hs => by
    have h1 := (numTo_mem.1 hx)
    have h2 : y ∈ all := by
      obtain ⟨_, t, ht, hst⟩ := (h.mem x).1 h1.1
      exact (h.mem y).2 ⟨hy, t, ht, hs.trans hst⟩
    exact numTo_mem.2 ⟨h2, by cases y with | nil => exact absurd rfl hy | cons => simp, topN_le h2⟩

/-- Is a face part of another one; with one vertex less? -/
def partB (r c : List Int) : Bool := r.all (fun v => c.contains v)
def underB (r c : List Int) : Bool := decide (r.length + 1 = c.length) && partB r c
theorem partB_iff {r c : List Int} : partB r c = true ↔ ∀ v ∈ r, v ∈ c := by unfold partB; rw [List.all_eq_true]; exact ⟨fun h v hv => List.contains_iff_mem.1 (h v hv), fun h v hv => List.contains_iff_mem.2 (h v hv)⟩
theorem underB_iff {r c : List Int} : underB r c = true ↔ r.length + 1 = c.length ∧ ∀ v ∈ r, v ∈ c := by unfold underB; rw [Bool.and_eq_true, decide_eq_true_eq, partB_iff]

abbrev faceAt (L : List (List Int)) (i : Nat) : List Int := L[i]?.getD []

/-- Those over a face that are left; the greater ones that are left. -/
def ovL (L : List (List Int)) (left : Nat → Bool) (i : Nat) : List Nat := (List.range L.length).filter fun k => underB (faceAt L i) (faceAt L k) && left k
def grL (L : List (List Int)) (left : Nat → Bool) (i : Nat) : List Nat := (List.range L.length).filter fun k => decide (i < k) && (left k && (decide ((faceAt L i).length < (faceAt L k).length) && partB (faceAt L i) (faceAt L k)))

/-- What is left has all its parts. -/
def Cplx (L : List (List Int)) (left : Nat → Bool) : Prop := ∀ i k, i < L.length → k < L.length → left k = true → partB (faceAt L i) (faceAt L k) = true → left i = true

theorem faceAt_mem {L : List (List Int)} {i : Nat} (h : i < L.length) : faceAt L i ∈ L := by unfold faceAt; rw [List.getElem?_eq_getElem h]; exact List.getElem_mem h
theorem faceAt_inj {L : List (List Int)} (hn : L.Nodup) {i j : Nat} (hi : i < L.length) (hj : j < L.length) (e : faceAt L i = faceAt L j) : i = j := by
  unfold faceAt at e
  rw [List.getElem?_eq_getElem hi, List.getElem?_eq_getElem hj] at e
  exact (List.getElem?_inj hi hn).1 (by rw [List.getElem?_eq_getElem hi, List.getElem?_eq_getElem hj]; exact congrArg some e)
theorem faceAt_ex {L : List (List Int)} {x : List Int} (h : x ∈ L) : ∃ i, i < L.length ∧ faceAt L i = x := by
  obtain ⟨i, hi, e⟩ := List.mem_iff_getElem.1 h
  exact ⟨i, hi, by unfold faceAt; rw [List.getElem?_eq_getElem hi]; exact e⟩
theorem faceAt_lt {L : List (List Int)} (h : L.Pairwise (fun x y => x.length ≤ y.length)) {i k : Nat} (hi : i < L.length) (hk : k < L.length) (hl : (faceAt L i).length < (faceAt L k).length) : i < k := by
  rcases Nat.lt_or_ge i k with h1 | h1
  · exact h1
  · rcases Nat.lt_or_ge k i with h2 | h2
    · have := List.pairwise_iff_getElem.1 h k i hk hi h2
      unfold faceAt at hl
      rw [List.getElem?_eq_getElem hi, List.getElem?_eq_getElem hk] at hl
      simp only [Option.getD_some] at hl
      omega
    · obtain rfl : i = k := by omega
      omega

/-- Vertices of a greater face that are not in a lesser one. -/
theorem two_more {a g : List Int} (ha : Rising a) (hg : Rising g) (hs : ∀ v ∈ a, v ∈ g) : (g.filter fun v => !decide (v ∈ a)).length + a.length = g.length := by
  have h1 : (g.filter fun v => decide (v ∈ a)).Perm a := (List.perm_ext_iff_of_nodup ((rising_nodup hg).filter _) (rising_nodup ha)).2 fun v => by
    rw [List.mem_filter, decide_eq_true_eq]
    exact ⟨fun h => h.2, fun h => ⟨hs v h, h⟩⟩
  have h2 := List.length_eq_countP_add_countP (fun v => decide (v ∈ a)) (l := g)
  rw [List.countP_eq_length_filter, List.countP_eq_length_filter, h1.length_eq] at h2
  have h3 : (g.filter fun v => !decide (v ∈ a)) = g.filter (fun v => decide ¬ (decide (v ∈ a) = true)) := by
    congr 1; funext v; cases decide (v ∈ a) <;> rfl
  rw [h3]
  omega

theorem plus_one {L : List (List Int)} (hL : FaceList L) {a g : List Int} (ha : a ∈ L) (hg : g ∈ L) (hs : ∀ v ∈ a, v ∈ g) {v : Int} (hv : v ∈ g) (hn : v ∉ a) : ∃ b ∈ L, a.length + 1 = b.length ∧ (∀ x ∈ a, x ∈ b) ∧ (∀ x ∈ b, x ∈ g) ∧ v ∈ b ∧ ∀ x ∈ b, x ∈ a ∨ x = v := by
  have hp : (g.filter fun x => decide (x ∈ a ∨ x = v)).Perm (v :: a) := (List.perm_ext_iff_of_nodup ((rising_nodup (hL.rising g hg)).filter _) (List.nodup_cons.2 ⟨hn, rising_nodup (hL.rising a ha)⟩)).2 fun x => by
    rw [List.mem_filter, decide_eq_true_eq, List.mem_cons]
    constructor
    · rintro ⟨_, h | h⟩
      · exact .inr h
      · exact .inl h
    · rintro (rfl | h)
      · exact ⟨hv, .inr rfl⟩
      · exact ⟨hs x h, .inl h⟩
  have hm : ∀ x, x ∈ (g.filter fun x => decide (x ∈ a ∨ x = v)) ↔ x ∈ v :: a := fun x => hp.mem_iff
  refine ⟨_, hL.down g hg _ (fun e => ?_) List.filter_sublist, ?_, fun x hx => (hm x).2 (.tail _ hx), fun x hx => (List.mem_filter.1 hx).1, (hm v).2 (.head _), fun x hx => ?_⟩
  · have := (hm v).2 (.head _)
    rw [e] at this; cases this
  · rw [hp.length_eq]; simp
  · rcases List.mem_cons.1 ((hm x).1 hx) with h | h
    · exact .inr h
    · exact .inl h

theorem ov_mem {L : List (List Int)} {left : Nat → Bool} {i k : Nat} : k ∈ ovL L left i ↔ k < L.length ∧ ((faceAt L i).length + 1 = (faceAt L k).length ∧ ∀ v ∈ faceAt L i, v ∈ faceAt L k) ∧ left k = true := by
  unfold ovL
  rw [List.mem_filter, List.mem_range, Bool.and_eq_true, underB_iff]
theorem gr_mem {L : List (List Int)} {left : Nat → Bool} {i k : Nat} : k ∈ grL L left i ↔ k < L.length ∧ i < k ∧ left k = true ∧ (faceAt L i).length < (faceAt L k).length ∧ ∀ v ∈ faceAt L i, v ∈ faceAt L k := by
  unfold grL
  rw [List.mem_filter, List.mem_range, Bool.and_eq_true, Bool.and_eq_true, Bool.and_eq_true, decide_eq_true_eq, decide_eq_true_eq, partB_iff]

theorem filter_one {p : Nat → Bool} {n k : Nat} : (List.range n).filter p = [k] ↔ ∀ j, (j < n ∧ p j = true) ↔ j = k := by
  have hm : ∀ j, j ∈ (List.range n).filter p ↔ j < n ∧ p j = true := fun j => by rw [List.mem_filter, List.mem_range]
  constructor
  · intro h j
    rw [← hm, h, List.mem_singleton]
  · intro h
    have h1 : ((List.range n).filter p).Perm [k] := (List.perm_ext_iff_of_nodup ((List.nodup_range).filter _) (List.nodup_cons.2 ⟨by simp, List.nodup_nil⟩)).2 fun j => by rw [hm, h, List.mem_singleton]
    exact List.perm_singleton.1 h1
theorem ov_one {L : List (List Int)} {left : Nat → Bool} {i k : Nat} : ovL L left i = [k] ↔ ∀ j, j ∈ ovL L left i ↔ j = k := by
  unfold ovL
  rw [filter_one]
  simp only [List.mem_filter, List.mem_range]
theorem gr_one {L : List (List Int)} {left : Nat → Bool} {i k : Nat} : grL L left i = [k] ↔ ∀ j, j ∈ grL L left i ↔ j = k := by
  unfold grL
  rw [filter_one]
  simp only [List.mem_filter, List.mem_range]

theorem ov_gr {L : List (List Int)} (hL : FaceList L) {left : Nat → Bool} {i k : Nat} (hi : i < L.length) (h : k ∈ ovL L left i) : k ∈ grL L left i := by
  obtain ⟨h1, ⟨h2, h3⟩, h4⟩ := ov_mem.1 h
  have hl : (faceAt L i).length < (faceAt L k).length := by omega
  exact gr_mem.2 ⟨h1, faceAt_lt hL.order hi h1 hl, h4, hl, h3⟩

/-- Between a face and a greater one that is left there is one with just one vertex more, with whatever vertex. -/
theorem ov_between {L : List (List Int)} (hL : FaceList L) {left : Nat → Bool} (hc : Cplx L left) {i k : Nat} (hi : i < L.length) (h : k ∈ grL L left i) {v : Int} (hv : v ∈ faceAt L k) (hn : v ∉ faceAt L i) : ∃ j, j ∈ ovL L left i ∧ v ∈ faceAt L j ∧ ∀ x ∈ faceAt L j, x ∈ faceAt L i ∨ x = v := by
  obtain ⟨h1, _, h3, _, h5⟩ := gr_mem.1 h
  obtain ⟨b, hb, b1, b2, b3, b4, b5⟩ := plus_one hL (faceAt_mem hi) (faceAt_mem h1) h5 hv hn
  obtain ⟨j, hj, rfl⟩ := faceAt_ex hb
  exact ⟨j, ov_mem.2 ⟨hj, ⟨b1, b2⟩, hc j k hj h1 h3 (partB_iff.2 b3)⟩, b4, b5⟩

/-- A FACE IS FREE by its faces with one vertex more just if it is by all greater ones. -/
theorem free_iff {L : List (List Int)} (hL : FaceList L) {left : Nat → Bool} (hc : Cplx L left) {i k : Nat} (hi : i < L.length) : grL L left i = [k] ↔ ovL L left i = [k] := by
  rw [gr_one, ov_one]
  constructor
  · intro h
    have hk := (h k).2 rfl
    obtain ⟨h1, h2, h3, h4, h5⟩ := gr_mem.1 hk
    have hlen : (faceAt L i).length + 1 = (faceAt L k).length := by
      have h6 := two_more (hL.rising _ (faceAt_mem hi)) (hL.rising _ (faceAt_mem h1)) h5
      cases e : (faceAt L k).filter (fun v => !decide (v ∈ faceAt L i)) with
      | nil => rw [e] at h6; simp at h6; omega
      | cons v l =>
        have hv : v ∈ (faceAt L k).filter (fun v => !decide (v ∈ faceAt L i)) := by rw [e]; exact .head _
        obtain ⟨hv1, hv2⟩ := List.mem_filter.1 hv
        obtain ⟨j, hj, _⟩ := ov_between hL hc hi hk hv1 (by simpa using hv2)
        have := (h j).1 (ov_gr hL hi hj)
        subst this
        exact (ov_mem.1 hj).2.1.1
    intro j
    constructor
    · intro hj; exact (h j).1 (ov_gr hL hi hj)
    · rintro rfl; exact ov_mem.2 ⟨h1, ⟨hlen, h5⟩, h3⟩
  · intro h j
    constructor
    · intro hj
      obtain ⟨h1, h2, h3, h4, h5⟩ := gr_mem.1 hj
      have h6 := two_more (hL.rising _ (faceAt_mem hi)) (hL.rising _ (faceAt_mem h1)) h5
      cases e : (faceAt L j).filter (fun v => !decide (v ∈ faceAt L i)) with
      | nil => rw [e] at h6; simp at h6; omega
      | cons v l =>
        cases l with
        | nil =>
          rw [e] at h6; simp at h6
          exact (h j).1 (ov_mem.2 ⟨h1, ⟨by omega, h5⟩, h3⟩)
        | cons u l =>
          exfalso
          have hnd : (v :: u :: l).Nodup := by rw [← e]; exact (rising_nodup (hL.rising _ (faceAt_mem h1))).filter _
          have hv : v ∈ (faceAt L j).filter (fun v => !decide (v ∈ faceAt L i)) := by rw [e]; exact .head _
          have hu : u ∈ (faceAt L j).filter (fun v => !decide (v ∈ faceAt L i)) := by rw [e]; exact .tail _ (.head _)
          obtain ⟨hv1, hv2⟩ := List.mem_filter.1 hv
          obtain ⟨hu1, hu2⟩ := List.mem_filter.1 hu
          obtain ⟨x, hx, hx1, _⟩ := ov_between hL hc hi hj hv1 (by simpa using hv2)
          obtain ⟨y, hy, _, hy2⟩ := ov_between hL hc hi hj hu1 (by simpa using hu2)
          have e1 := (h x).1 hx
          have e2 := (h y).1 hy
          subst e1; subst e2
          rcases hy2 v hx1 with h7 | h7
          · simp at hv2; exact hv2 h7
          · exact (List.nodup_cons.1 hnd).1 (by rw [h7]; exact .head _)
    · rintro rfl; exact ov_gr hL hi ((h j).2 rfl)

/-- What is left behind a face that goes. -/
def less (left : Nat → Bool) (k : Nat) : Nat → Bool := fun i => if i = k then false else left i

/-- A free face and the one over it may go. -/
theorem cplx_less {L : List (List Int)} (hL : FaceList L) {left : Nat → Bool} (hc : Cplx L left) {a k : Nat} (ha : a < L.length) (h : ovL L left a = [k]) : Cplx L (less (less left k) a) := by
  have hg := gr_one.1 ((free_iff hL hc ha).2 h)
  have hk := ov_mem.1 ((ov_one.1 h k).2 rfl)
  intro i j hi hj hl hp
  unfold less at hl ⊢
  by_cases ea : j = a
  · rw [if_pos ea] at hl; cases hl
  · rw [if_neg ea] at hl
    by_cases ek : j = k
    · rw [if_pos ek] at hl; cases hl
    · rw [if_neg ek] at hl
      have hp' := partB_iff.1 hp
      have hlen : ∀ x y, x < L.length → y < L.length → (∀ v ∈ faceAt L x, v ∈ faceAt L y) → x ≠ y → (faceAt L x).length < (faceAt L y).length := fun x y hx hy hs hne => by
        have h6 := two_more (hL.rising _ (faceAt_mem hx)) (hL.rising _ (faceAt_mem hy)) hs
        rcases Nat.lt_or_ge (faceAt L x).length (faceAt L y).length with h7 | h7
        · exact h7
        · exfalso
          have h8 : ((faceAt L y).filter fun v => !decide (v ∈ faceAt L x)).length = 0 := by omega
          have h9 : ∀ v ∈ faceAt L y, v ∈ faceAt L x := fun v hv => by
            by_cases e : v ∈ faceAt L x
            · exact e
            · have : v ∈ (faceAt L y).filter fun v => !decide (v ∈ faceAt L x) := List.mem_filter.2 ⟨hv, by simpa using e⟩
              rw [List.eq_nil_of_length_eq_zero h8] at this; cases this
          exact hne (faceAt_inj hL.nodup hx hy (rising_told (hL.rising _ (faceAt_mem hx)) (hL.rising _ (faceAt_mem hy)) (fun v => ⟨hs v, h9 v⟩)))
      have key : ∀ x, x < L.length → left x = true → (∀ v ∈ faceAt L a, v ∈ faceAt L x) → x ≠ a → x = k := fun x hx hlx hs hne => by
        have hl' := hlen a x ha hx hs (Ne.symm hne)
        exact (hg x).1 (gr_mem.2 ⟨hx, faceAt_lt hL.order ha hx hl', hlx, hl', hs⟩)
      by_cases ia : i = a
      · subst ia; exact absurd (key j hj hl hp' ea) ek
      · rw [if_neg ia]
        by_cases ik : i = k
        · subst ik
          exact absurd (key j hj hl (fun v hv => hp' v (hk.2.1.2 v hv)) ea) ek
        · rw [if_neg ik]
          exact hc i j hi hj hl hp

theorem cplx_all (L : List (List Int)) : Cplx L (fun _ => true) := fun _ _ _ _ _ _ => rfl

/-- Of those over a face one goes. -/
theorem ov_less {L : List (List Int)} {left : Nat → Bool} {k : Nat} (hk : k < L.length) (hl : left k = true) (i : Nat) : (ovL L left i).length = (ovL L (less left k) i).length + (if underB (faceAt L i) (faceAt L k) = true then 1 else 0) := by
  have key : ∀ n, ((List.range n).filter fun j => underB (faceAt L i) (faceAt L j) && left j).length = ((List.range n).filter fun j => underB (faceAt L i) (faceAt L j) && less left k j).length + (if k < n ∧ underB (faceAt L i) (faceAt L k) = true then 1 else 0) := by
    intro n
    induction n with
    | zero => simp
    | succ n ih =>
      rw [List.range_succ, List.filter_append, List.filter_append, List.length_append, List.length_append, ih]
      by_cases e : n = k
      · subst e
        rw [if_neg (fun h => by omega)]
        cases hu : underB (faceAt L i) (faceAt L n) <;> simp [hu, less, hl]
      · have e1 : less left k n = left n := by unfold less; rw [if_neg e]
        have e3 : ([n].filter fun j => underB (faceAt L i) (faceAt L j) && less left k j) = [n].filter fun j => underB (faceAt L i) (faceAt L j) && left j := by simp [List.filter_cons, e1]
        rw [e3]
        have e2 : (k < n + 1) ↔ (k < n) := by omega
        simp only [e2]
        omega
  have := key L.length
  unfold ovL
  rw [this]
  simp only [hk, true_and]

end Go.Proofs.YtnnkmkhamipfiaaGreatDoor
