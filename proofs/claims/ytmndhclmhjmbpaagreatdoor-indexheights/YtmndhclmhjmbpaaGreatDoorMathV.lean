/- How many faces there are of each length, and their number with signs, told by any list of the faces. -/
import Derived.Test.YtmndhclmhjmbpaaGreatDoorGather
namespace Go.Proofs.YtmndhclmhjmbpaaGreatDoor

/-- The greatest length. -/
def topN {α : Type} : List (List α) → Nat
  | [] => 0
  | x :: l => max x.length (topN l)
theorem topN_le {α : Type} {l : List (List α)} {x : List α} (h : x ∈ l) : x.length ≤ topN l := by
  induction l with
  | nil => cases h
  | cons y l ih =>
    rcases List.mem_cons.1 h with rfl | h
    · simp only [topN]; omega
    · have := ih h; simp only [topN]; omega
theorem topN_perm {α : Type} {l m : List (List α)} (h : l.Perm m) : topN l = topN m := by
  induction h with
  | nil => rfl
  | cons x _ ih => simp only [topN]; omega
  | swap x y l => simp only [topN]; omega
  | trans _ _ h1 h2 => omega
theorem topN_snoc {α : Type} (l : List (List α)) (x : List α) : topN (l ++ [x]) = max (topN l) x.length := by
  induction l with
  | nil => simp [topN]
  | cons y l ih => simp only [List.cons_append, topN, ih]; omega
theorem topN_ints (F : List (List UInt8)) : topN (F.map ints) = topN F := by
  induction F with
  | nil => rfl
  | cons x l ih => simp only [List.map_cons, topN, ih, ints_length]
theorem topN_upto {α : Type} {l : List (List α)} {m : Nat} (h : ∀ x ∈ l, x.length ≤ m) : topN l ≤ m := by
  induction l with
  | nil => simp [topN]
  | cons x l ih =>
    have h1 := h x (by simp)
    have h2 := ih (fun y hy => h y (by simp [hy]))
    simp only [topN]; omega

/-- How many there are of d + 1. -/
def cnt {α : Type} : List (List α) → Nat → Nat
  | [], _ => 0
  | x :: l, d => (if x.length = d + 1 then 1 else 0) + cnt l d
theorem cnt_perm {α : Type} {l m : List (List α)} (h : l.Perm m) (d : Nat) : cnt l d = cnt m d := by
  induction h with
  | nil => rfl
  | cons x _ ih => simp only [cnt]; omega
  | swap x y l => simp only [cnt]; omega
  | trans _ _ h1 h2 => omega
theorem cnt_snoc {α : Type} (l : List (List α)) (x : List α) (d : Nat) : cnt (l ++ [x]) d = cnt l d + (if x.length = d + 1 then 1 else 0) := by
  induction l with
  | nil => simp [cnt]
  | cons y l ih => simp only [List.cons_append, cnt, ih]; omega
theorem cnt_ints (F : List (List UInt8)) (d : Nat) : cnt (F.map ints) d = cnt F d := by
  induction F with
  | nil => rfl
  | cons x l ih => simp only [List.map_cons, cnt, ih, ints_length]
theorem cnt_above {α : Type} {l : List (List α)} {d : Nat} (h : topN l ≤ d) : cnt l d = 0 := by
  induction l with
  | nil => rfl
  | cons x l ih =>
    simp only [topN] at h
    simp only [cnt]
    rw [ih (by omega), if_neg (by omega)]
theorem cnt_le {α : Type} (l : List (List α)) (d : Nat) : cnt l d ≤ l.length := by
  induction l with
  | nil => simp [cnt]
  | cons x l ih =>
    simp only [cnt, List.length_cons]
    have : (if x.length = d + 1 then 1 else 0) ≤ 1 := by split <;> omega
    omega
theorem cnt_filter {α : Type} (l : List (List α)) (d : Nat) : (l.filter (fun x => decide ((x.length : Int) - 1 = (d : Int)))).length = cnt l d := by
  induction l with
  | nil => rfl
  | cons x l ih =>
    by_cases h : x.length = d + 1
    · have h' : (x.length : Int) - 1 = (d : Int) := by omega
      rw [List.filter_cons, if_pos (decide_eq_true h'), List.length_cons, ih]
      simp only [cnt, if_pos h]
      omega
    · have h' : ¬ (x.length : Int) - 1 = (d : Int) := by omega
      rw [List.filter_cons, if_neg (by rw [decide_eq_false h']; decide), ih]
      simp only [cnt, if_neg h]
      omega

/-- How many of each length, from 1 on. -/
def vecOf {α : Type} (l : List (List α)) : List Int := (List.range (topN l)).map (fun d => (cnt l d : Int))
theorem vecOf_length {α : Type} (l : List (List α)) : (vecOf l).length = topN l := by simp [vecOf]
theorem vecOf_get {α : Type} (l : List (List α)) (d : Nat) (h : d < topN l) : (vecOf l)[d]? = some (cnt l d : Int) := by
  simp [vecOf, List.getElem?_map, List.getElem?_range h]
theorem vecOf_perm {α : Type} {l m : List (List α)} (h : l.Perm m) : vecOf l = vecOf m := by
  unfold vecOf
  rw [topN_perm h]
  exact List.map_congr_left (fun d _ => by rw [cnt_perm h])
theorem vecOf_ints (F : List (List UInt8)) : vecOf (F.map ints) = vecOf F := by
  unfold vecOf
  rw [topN_ints]
  exact List.map_congr_left (fun d _ => by rw [cnt_ints])

theorem pad_get {α : Type} (ss : List (List α)) (n d : Nat) (h : d < topN ss + n) : (vecOf ss ++ List.replicate n 0)[d]? = some (cnt ss d : Int) := by
  rw [List.getElem?_append, vecOf_length]
  split
  · rename_i h1; exact vecOf_get ss d h1
  · rename_i h1
    rw [List.getElem?_replicate, if_pos (by omega), cnt_above (by omega)]
    rfl
theorem vec_step {α : Type} {ss : List (List α)} {x : List α} (hx : x ≠ []) :
    vecOf (ss ++ [x]) = (vecOf ss ++ List.replicate (x.length - topN ss) 0).set (x.length - 1) ((vecOf ss ++ List.replicate (x.length - topN ss) 0)[x.length - 1]?.getD 0 + 1) := by
  have hp : 0 < x.length := List.length_pos_iff.2 hx
  have hlen : (vecOf ss ++ List.replicate (x.length - topN ss) (0 : Int)).length = topN (ss ++ [x]) := by
    rw [List.length_append, vecOf_length, List.length_replicate, topN_snoc]; omega
  refine List.ext_getElem? (fun d => ?_)
  rw [List.getElem?_set, hlen]
  rcases Nat.lt_or_ge d (topN (ss ++ [x])) with h | h
  · rw [vecOf_get _ d h, cnt_snoc]
    have hd : d < topN ss + (x.length - topN ss) := by rw [topN_snoc] at h; omega
    have hd1 : x.length - 1 < topN ss + (x.length - topN ss) := by omega
    rw [pad_get ss _ d hd, pad_get ss _ _ hd1, Option.getD_some]
    by_cases e : x.length - 1 = d
    · subst e
      rw [if_pos rfl, if_pos h, if_pos (show x.length = x.length - 1 + 1 by omega)]
      simp
    · rw [if_neg e, if_neg (show ¬ x.length = d + 1 by omega)]
      simp
  · have e1 : (vecOf (ss ++ [x]))[d]? = none := List.getElem?_eq_none (by rw [vecOf_length]; exact h)
    have e2 : (vecOf ss ++ List.replicate (x.length - topN ss) (0 : Int))[d]? = none := List.getElem?_eq_none (by rw [hlen]; exact h)
    rw [e1, e2]
    split
    · rename_i e; rw [if_neg (by omega)]
    · rfl

/-- 1 of an even number, -1 of an odd one. -/
def sg (d : Nat) : Int := 1 - 2 * ((d % 2 : Nat) : Int)
/-- The sum of numbers with signs in turn. -/
def altTo (v : List Int) : Nat → Int
  | 0 => 0
  | k + 1 => altTo v k + sg k * (v[k]?.getD 0)
def pt (L : Nat) : Nat → Int
  | 0 => 0
  | k + 1 => pt L k + (if L = k + 1 then sg k else 0)
theorem pt_before (L : Nat) : ∀ k, k < L → pt L k = 0
  | 0, _ => rfl
  | k + 1, h => by simp only [pt]; rw [pt_before L k (by omega), if_neg (by omega)]; rfl
theorem pt_val (L : Nat) (hp : 1 ≤ L) : ∀ k, L ≤ k → pt L k = sg (L - 1)
  | 0, h => by omega
  | k + 1, h => by
    simp only [pt]
    by_cases e : L = k + 1
    · rw [pt_before L k (by omega), if_pos e]; subst e; simp
    · rw [pt_val L hp k (by omega), if_neg e]; simp
def eTo {α : Type} (l : List (List α)) : Nat → Int
  | 0 => 0
  | k + 1 => eTo l k + sg k * (cnt l k : Int)
theorem eTo_nil {α : Type} : ∀ k, eTo ([] : List (List α)) k = 0
  | 0 => rfl
  | k + 1 => by simp only [eTo, eTo_nil k, cnt]; simp
theorem eTo_cons {α : Type} (x : List α) (l : List (List α)) : ∀ k, eTo (x :: l) k = eTo l k + pt x.length k
  | 0 => rfl
  | k + 1 => by
    simp only [eTo, pt, eTo_cons x l k, cnt]
    by_cases e : x.length = k + 1
    · rw [if_pos e, if_pos e, Int.natCast_add, Int.mul_add]; simp; omega
    · rw [if_neg e, if_neg e]; simp; omega
/-- The number of the faces with signs. -/
def eulerOf {α : Type} : List (List α) → Int
  | [] => 0
  | x :: l => (if x.length % 2 = 1 then 1 else -1) + eulerOf l
theorem eulerOf_perm {α : Type} {l m : List (List α)} (h : l.Perm m) : eulerOf l = eulerOf m := by
  induction h with
  | nil => rfl
  | cons x _ ih => simp only [eulerOf]; omega
  | swap x y l => simp only [eulerOf]; omega
  | trans _ _ h1 h2 => omega
theorem eulerOf_snoc {α : Type} (l : List (List α)) (x : List α) : eulerOf (l ++ [x]) = eulerOf l + (if x.length % 2 = 1 then 1 else -1) := by
  induction l with
  | nil => simp [eulerOf]
  | cons y l ih => simp only [List.cons_append, eulerOf, ih]; omega
theorem eulerOf_ints (F : List (List UInt8)) : eulerOf (F.map ints) = eulerOf F := by
  induction F with
  | nil => rfl
  | cons x l ih => simp only [List.map_cons, eulerOf, ih, ints_length]
theorem eulerOf_small {α : Type} (l : List (List α)) : -(l.length : Int) ≤ eulerOf l ∧ eulerOf l ≤ l.length := by
  induction l with
  | nil => simp [eulerOf]
  | cons x l ih =>
    simp only [eulerOf, List.length_cons]
    split <;> omega
theorem sg_length (L : Nat) (h : 1 ≤ L) : sg (L - 1) = if L % 2 = 1 then 1 else -1 := by
  unfold sg
  split <;> omega
theorem eTo_all {α : Type} {l : List (List α)} (hne : ∀ x ∈ l, x ≠ []) (n : Nat) (h : topN l ≤ n) : eTo l n = eulerOf l := by
  induction l with
  | nil => rw [eTo_nil]; rfl
  | cons x l ih =>
    have hp : 0 < x.length := List.length_pos_iff.2 (hne x (by simp))
    simp only [topN] at h
    rw [eTo_cons, ih (fun y hy => hne y (by simp [hy])) (by omega), pt_val x.length hp n (by omega), sg_length _ hp]
    simp only [eulerOf]
    omega
theorem altTo_vec {α : Type} (l : List (List α)) : ∀ k, k ≤ topN l → altTo (vecOf l) k = eTo l k
  | 0, _ => rfl
  | k + 1, h => by
    simp only [altTo, eTo]
    rw [altTo_vec l k (by omega), vecOf_get l k (by omega), Option.getD_some]
theorem alt_euler {α : Type} {l : List (List α)} (hne : ∀ x ∈ l, x ≠ []) : altTo (vecOf l) (vecOf l).length = eulerOf l := by
  rw [vecOf_length, altTo_vec l _ (Nat.le_refl _), eTo_all hne _ (Nat.le_refl _)]
theorem alt_small (v : List Int) (m : Nat) (h : ∀ x ∈ v, 0 ≤ x ∧ x ≤ m) : ∀ k, k ≤ v.length → -((k * m : Nat) : Int) ≤ altTo v k ∧ altTo v k ≤ ((k * m : Nat) : Int)
  | 0, _ => by simp [altTo]
  | k + 1, hk => by
    have ih := alt_small v m h k (by omega)
    have hx := h (v[k]?.getD 0) (by rw [List.getElem?_eq_getElem (show k < v.length by omega)]; simp)
    simp only [altTo]
    have e : ((k + 1) * m : Nat) = k * m + m := by rw [Nat.add_mul, Nat.one_mul]
    rw [e]
    have hs : sg k = 1 ∨ sg k = -1 := by unfold sg; omega
    rcases hs with hs | hs <;> rw [hs] <;> omega

/-- The faces of the map and the faces in order are the same ones. -/
theorem perm_all {ts F : List (List UInt8)} {all : List (List Int)} (hn : F.Nodup) (hF : ∀ x, x ∈ F ↔ FaceOf ts x) (h : IsAll (ts.map ints) all) : (F.map ints).Perm all := by
  refine (List.perm_ext_iff_of_nodup (List.pairwise_map.2 (hn.imp (fun h e => h (ints_inj e)))) (order_nodup h.order)).2 (fun y => ?_)
  rw [List.mem_map, h.mem]
  constructor
  · rintro ⟨x, hx, rfl⟩
    exact face_ints.2 ((hF x).1 hx)
  · intro hy
    obtain ⟨x, rfl⟩ := face_from hy
    exact ⟨x, (hF x).2 (face_ints.1 hy), rfl⟩

/-- Some faces that the map tells, sorted, are those of the list of all faces. -/
theorem faces_same {ts F ss : List (List UInt8)} {all : List (List Int)} (hF : ∀ x, x ∈ F ↔ FaceOf ts x) (h : IsAll (ts.map ints) all) (hn : ss.Nodup) {p : Nat → Bool}
    (hm : ∀ x, x ∈ ss ↔ x ∈ F ∧ p x.length = true) : (ss.mergeSort (fun x y => decide (x ≤ y))).map ints = all.filter (fun x => p x.length) := by
  refine order_told (sorted_order hn) (h.order.filter _) (fun y => ?_)
  rw [List.mem_filter, h.mem, List.mem_map]
  constructor
  · rintro ⟨x, hx, rfl⟩
    have := (hm x).1 ((List.mergeSort_perm ss _).mem_iff.1 hx)
    exact ⟨face_ints.2 ((hF x).1 this.1), by rw [ints_length]; exact this.2⟩
  · rintro ⟨a, b⟩
    obtain ⟨x, rfl⟩ := face_from a
    exact ⟨x, (List.mergeSort_perm ss _).mem_iff.2 ((hm x).2 ⟨(hF x).2 (face_ints.1 a), by rw [ints_length] at b; exact b⟩), rfl⟩

end Go.Proofs.YtmndhclmhjmbpaaGreatDoor
