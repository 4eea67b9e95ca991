/- Faces by their numbers: which is under which, which are free, what collapses leave: no program is spoken of. Which faces a map fixes: no program is spoken of. A sorted list that is compacted rises, and holds what it held. -/
import Derived.Test.YthmjdfjchhohgaaGreatDoorMath2
import Derived.Test.YthmjdfjchhohgaaGreatDoorMathV
import Derived.Test.YthmjdfjchhohgaaGreatDoorGather
import Derived.Test.YthmjdfjchhohgaaGreatDoorIdxInv
import Derived.Lib.SlicesCompact
namespace Go.Proofs.YthmjdfjchhohgaaGreatDoor

/-- The faces in the order of their numbers. -/
def numTo (all : List (List Int)) (d : Nat) : List (List Int) := (List.range d).flatMap fun (k : Nat) => ofDim all (k : Int)
def numL (all : List (List Int)) : List (List Int) := numTo all (topN all)

theorem numTo_succ (all : List (List Int)) (d : Nat) : numTo all (d + 1) = numTo all d ++ ofDim all (d : Int) := by simp [numTo, List.range_succ]
theorem numTo_mem {all : List (List Int)} {d : Nat} {x : List Int} : x ∈ numTo all d ↔ x ∈ all ∧ 1 ≤ x.length ∧ x.length ≤ d := by
  unfold numTo
  rw [List.mem_flatMap]
  constructor
  · rintro ⟨k, hk, h⟩
    rw [List.mem_range] at hk
    obtain ⟨h1, h2⟩ := List.mem_filter.1 h
    rw [decide_eq_true_eq] at h2
    exact ⟨h1, by omega, by omega⟩
  · rintro ⟨h1, h2, h3⟩
    exact ⟨x.length - 1, List.mem_range.2 (by omega), List.mem_filter.2 ⟨h1, by rw [decide_eq_true_eq]; omega⟩⟩
theorem numTo_nodup {all : List (List Int)} (h : all.Nodup) (d : Nat) : (numTo all d).Nodup := by
  induction d with
  | zero => exact List.nodup_nil
  | succ d ih =>
    rw [numTo_succ]
    refine List.nodup_append.2 ⟨ih, h.filter _, fun a ha b hb e => ?_⟩
    subst e
    have h1 := numTo_mem.1 ha
    have h2 := (List.mem_filter.1 hb).2
    rw [decide_eq_true_eq] at h2
    omega
theorem numTo_order (all : List (List Int)) (d : Nat) : (numTo all d).Pairwise (fun x y => x.length ≤ y.length) := by
  induction d with
  | zero => exact List.Pairwise.nil
  | succ d ih =>
    rw [numTo_succ]
    refine List.pairwise_append.2 ⟨ih, ?_, fun a ha b hb => ?_⟩
    · refine List.pairwise_of_forall_mem_list fun a ha b hb => ?_
      have h1 := (List.mem_filter.1 ha).2
      have h2 := (List.mem_filter.1 hb).2
      rw [decide_eq_true_eq] at h1 h2
      omega
    · have h1 := numTo_mem.1 ha
      have h2 := (List.mem_filter.1 hb).2
      rw [decide_eq_true_eq] at h2
      omega

/-- Faces by their numbers: each once, the greater ones behind, with all their parts. -/
structure FaceList (L : List (List Int)) : Prop where
  nodup : L.Nodup
  order : L.Pairwise (fun x y => x.length ≤ y.length)
  rising : ∀ x ∈ L, Rising x
  some_ : ∀ x ∈ L, x ≠ []
  down : ∀ x ∈ L, ∀ y, y ≠ [] → y.Sublist x → y ∈ L

theorem faceList_of {ts all : List (List Int)} (hr : ∀ t ∈ ts, Rising t) (hd : all.Nodup) (h : IsAll ts all) : FaceList (numL all) where
  nodup := numTo_nodup hd _
  order := numTo_order _ _
  rising := fun x hx => face_rising hr ((h.mem x).1 (numTo_mem.1 hx).1)
  some_ := fun x hx e => by have := (numTo_mem.1 hx).2.1; rw [e] at this; simp at this
  down := fun x hx y hy hs => by
    have h1 := (numTo_mem.1 hx)
    have h2 : y ∈ all := by
      obtain ⟨_, t, ht, hst⟩ := (h.mem x).1 h1.1
      exact (h.mem y).2 ⟨hy, t, ht, hs.trans hst⟩
    exact numTo_mem.2 ⟨h2, by cases y with | nil => exact absurd rfl hy | cons => simp, topN_le h2⟩

/-- Is a face part of another one; with one vertex less? -/
def partB (r c : List Int) : Bool := r.all (fun v => c.contains v)
def underB (r c : List Int) : Bool := decide (r.length + 1 = c.length) && partB r c
theorem partB_iff {r c : List Int} : partB r c = true ↔ ∀ v ∈ r, v ∈ c := by unfold partB; rw [List.all_eq_true]; exact ⟨fun h v hv => List.contains_iff_mem.1 (h v hv), fun h v hv => List.contains_iff_mem.2 (h v hv)⟩
theorem underB_iff {r c : List Int} : underB r c = true ↔ r.length + 1 = c.length ∧ ∀ v ∈ r, v ∈ c := by unfold underB; rw [Bool.and_eq_true, decide_eq_true_eq, partB_iff]

abbrev faceAt (L : List (List Int)) (i : Nat) : List Int := L[i]?.getD []

/-- Those over a face that are left; the greater ones that are left. -/
def ovL (L : List (List Int)) (left : Nat → Bool) (i : Nat) : List Nat := (List.range L.length).filter fun k => underB (faceAt L i) (faceAt L k) && left k
def grL (L : List (List Int)) (left : Nat → Bool) (i : Nat) : List Nat := (List.range L.length).filter fun k => decide (i < k) && (left k && (decide ((faceAt L i).length < (faceAt L k).length) && partB (faceAt L i) (faceAt L k)))

/-- What is left has all its parts. -/
def Cplx (L : List (List Int)) (left : Nat → Bool) : Prop := ∀ i k, i < L.length → k < L.length → left k = true → partB (faceAt L i) (faceAt L k) = true → left i = true

theorem faceAt_mem {L : List (List Int)} {i : Nat} (h : i < L.length) : faceAt L i ∈ L := by unfold faceAt; rw [List.getElem?_eq_getElem h]; exact List.getElem_mem h
theorem faceAt_inj {L : List (List Int)} (hn : L.Nodup) {i j : Nat} (hi : i < L.length) (hj : j < L.length) (e : faceAt L i = faceAt L j) : i = j := by
  unfold faceAt at e
  rw [List.getElem?_eq_getElem hi, List.getElem?_eq_getElem hj] at e
  exact (List.getElem?_inj hi hn).1 (by rw [List.getElem?_eq_getElem hi, List.getElem?_eq_getElem hj]; exact congrArg some e)
theorem faceAt_ex {L : List (List Int)} {x : List Int} (h : x ∈ L) : ∃ i, i < L.length ∧ faceAt L i = x := by
  obtain ⟨i, hi, e⟩ := List.mem_iff_getElem.1 h
  exact ⟨i, hi, by unfold faceAt; rw [List.getElem?_eq_getElem hi]; exact e⟩
theorem faceAt_lt {L : List (List Int)} (h : L.Pairwise (fun x y => x.length ≤ y.length)) {i k : Nat} (hi : i < L.length) (hk : k < L.length) (hl : (faceAt L i).length < (faceAt L k).length) : i < k := by
  rcases Nat.lt_or_ge i k with h1 | h1
  · exact h1
  · rcases Nat.lt_or_ge k i with h2 | h2
    · have := List.pairwise_iff_getElem.1 h k i hk hi h2
      unfold faceAt at hl
      rw [List.getElem?_eq_getElem hi, List.getElem?_eq_getElem hk] at hl
      simp only [Option.getD_some] at hl
      omega
    · obtain rfl : i = k := by omega
      omega

/-- Vertices of a greater face that are not in a lesser one. -/
theorem two_more {a g : List Int} (ha : Rising a) (hg : Rising g) (hs : ∀ v ∈ a, v ∈ g) : (g.filter fun v => !decide (v ∈ a)).length + a.length = g.length := by
  have h1 : (g.filter fun v => decide (v ∈ a)).Perm a := (List.perm_ext_iff_of_nodup ((rising_nodup hg).filter _) (rising_nodup ha)).2 fun v => by
    rw [List.mem_filter, decide_eq_true_eq]
    exact ⟨fun h => h.2, fun h => ⟨hs v h, h⟩⟩
  have h2 := List.length_eq_countP_add_countP (fun v => decide (v ∈ a)) (l := g)
  rw [List.countP_eq_length_filter, List.countP_eq_length_filter, h1.length_eq] at h2
  have h3 : (g.filter fun v => !decide (v ∈ a)) = g.filter (fun v => decide ¬ (decide (v ∈ a) = true)) := by
    congr 1; funext v; cases decide (v ∈ a) <;> rfl
  rw [h3]
  omega

theorem plus_one {L : List (List Int)} (hL : FaceList L) {a g : List Int} (ha : a ∈ L) (hg : g ∈ L) (hs : ∀ v ∈ a, v ∈ g) {v : Int} (hv : v ∈ g) (hn : v ∉ a) : ∃ b ∈ L, a.length + 1 = b.length ∧ (∀ x ∈ a, x ∈ b) ∧ (∀ x ∈ b, x ∈ g) ∧ v ∈ b ∧ ∀ x ∈ b, x ∈ a ∨ x = v := by
  have hp : (g.filter fun x => decide (x ∈ a ∨ x = v)).Perm (v :: a) := (List.perm_ext_iff_of_nodup ((rising_nodup (hL.rising g hg)).filter _) (List.nodup_cons.2 ⟨hn, rising_nodup (hL.rising a ha)⟩)).2 fun x => by
    rw [List.mem_filter, decide_eq_true_eq, List.mem_cons]
    constructor
    · rintro ⟨_, h | h⟩
      · exact .inr h
      · exact .inl h
    · rintro (rfl | h)
      · exact ⟨hv, .inr rfl⟩
      · exact ⟨hs x h, .inl h⟩
  have hm : ∀ x, x ∈ (g.filter fun x => decide (x ∈ a ∨ x = v)) ↔ x ∈ v :: a := fun x => hp.mem_iff
  refine ⟨_, hL.down g hg _ (fun e => ?_) List.filter_sublist, ?_, fun x hx => (hm x).2 (.tail _ hx), fun x hx => (List.mem_filter.1 hx).1, (hm v).2 (.head _), fun x hx => ?_⟩
  · have := (hm v).2 (.head _)
    rw [e] at this; cases this
  · rw [hp.length_eq]; simp
  · rcases List.mem_cons.1 ((hm x).1 hx) with h | h
    · exact .inr h
    · exact .inl h

theorem ov_mem {L : List (List Int)} {left : Nat → Bool} {i k : Nat} : k ∈ ovL L left i ↔ k < L.length ∧ ((faceAt L i).length + 1 = (faceAt L k).length ∧ ∀ v ∈ faceAt L i, v ∈ faceAt L k) ∧ left k = true := by
  unfold ovL
  rw [List.mem_filter, List.mem_range, Bool.and_eq_true, underB_iff]
theorem gr_mem {L : List (List Int)} {left : Nat → Bool} {i k : Nat} : k ∈ grL L left i ↔ k < L.length ∧ i < k ∧ left k = true ∧ (faceAt L i).length < (faceAt L k).length ∧ ∀ v ∈ faceAt L i, v ∈ faceAt L k := by
  unfold grL
  rw [List.mem_filter, List.mem_range, Bool.and_eq_true, Bool.and_eq_true, Bool.and_eq_true, decide_eq_true_eq, decide_eq_true_eq, partB_iff]

theorem filter_one {p : Nat → Bool} {n k : Nat} : (List.range n).filter p = [k] ↔ ∀ j, (j < n ∧ p j = true) ↔ j = k := by
  have hm : ∀ j, j ∈ (List.range n).filter p ↔ j < n ∧ p j = true := fun j => by rw [List.mem_filter, List.mem_range]
  constructor
  · intro h j
    rw [← hm, h, List.mem_singleton]
  · intro h
    have h1 : ((List.range n).filter p).Perm [k] := (List.perm_ext_iff_of_nodup ((List.nodup_range).filter _) (List.nodup_cons.2 ⟨by simp, List.nodup_nil⟩)).2 fun j => by rw [hm, h, List.mem_singleton]
    exact List.perm_singleton.1 h1
theorem ov_one {L : List (List Int)} {left : Nat → Bool} {i k : Nat} : ovL L left i = [k] ↔ ∀ j, j ∈ ovL L left i ↔ j = k := by
  unfold ovL
  rw [filter_one]
  simp only [List.mem_filter, List.mem_range]
theorem gr_one {L : List (List Int)} {left : Nat → Bool} {i k : Nat} : grL L left i = [k] ↔ ∀ j, j ∈ grL L left i ↔ j = k := by
  unfold grL
  rw [filter_one]
  simp only [List.mem_filter, List.mem_range]

theorem ov_gr {L : List (List Int)} (hL : FaceList L) {left : Nat → Bool} {i k : Nat} (hi : i < L.length) (h : k ∈ ovL L left i) : k ∈ grL L left i := by
  obtain ⟨h1, ⟨h2, h3⟩, h4⟩ := ov_mem.1 h
  have hl : (faceAt L i).length < (faceAt L k).length := by omega
  exact gr_mem.2 ⟨h1, faceAt_lt hL.order hi h1 hl, h4, hl, h3⟩

/-- Between a face and a greater one that is left there is one with just one vertex more, with whatever vertex. -/
theorem ov_between {L : List (List Int)} (hL : FaceList L) {left : Nat → Bool} (hc : Cplx L left) {i k : Nat} (hi : i < L.length) (h : k ∈ grL L left i) {v : Int} (hv : v ∈ faceAt L k) (hn : v ∉ faceAt L i) : ∃ j, j ∈ ovL L left i ∧ v ∈ faceAt L j ∧ ∀ x ∈ faceAt L j, x ∈ faceAt L i ∨ x = v := by
  obtain ⟨h1, _, h3, _, h5⟩ := gr_mem.1 h
  obtain ⟨b, hb, b1, b2, b3, b4, b5⟩ := plus_one hL (faceAt_mem hi) (faceAt_mem h1) h5 hv hn
  obtain ⟨j, hj, rfl⟩ := faceAt_ex hb
  exact ⟨j, ov_mem.2 ⟨hj, ⟨b1, b2⟩, hc j k hj h1 h3 (partB_iff.2 b3)⟩, b4, b5⟩

/-- A FACE IS FREE by its faces with one vertex more just if it is by all greater ones. -/
theorem free_iff {L : List (List Int)} (hL : FaceList L) {left : Nat → Bool} (hc : Cplx L left) {i k : Nat} (hi : i < L.length) : grL L left i = [k] ↔ ovL L left i = [k] := by
  rw [gr_one, ov_one]
  constructor
  · intro h
    have hk := (h k).2 rfl
    obtain ⟨h1, h2, h3, h4, h5⟩ := gr_mem.1 hk
    have hlen : (faceAt L i).length + 1 = (faceAt L k).length := by
      have h6 := two_more (hL.rising _ (faceAt_mem hi)) (hL.rising _ (faceAt_mem h1)) h5
      cases e : (faceAt L k).filter (fun v => !decide (v ∈ faceAt L i)) with
      | nil => rw [e] at h6; simp at h6; omega
      | cons v l =>
        have hv : v ∈ (faceAt L k).filter (fun v => !decide (v ∈ faceAt L i)) := by rw [e]; exact .head _
        obtain ⟨hv1, hv2⟩ := List.mem_filter.1 hv
        obtain ⟨j, hj, _⟩ := ov_between hL hc hi hk hv1 (by simpa using hv2)
        have := (h j).1 (ov_gr hL hi hj)
        subst this
        exact (ov_mem.1 hj).2.1.1
    intro j
    constructor
    · intro hj; exact (h j).1 (ov_gr hL hi hj)
    · rintro rfl; exact ov_mem.2 ⟨h1, ⟨hlen, h5⟩, h3⟩
  · intro h j
    constructor
    · intro hj
      obtain ⟨h1, h2, h3, h4, h5⟩ := gr_mem.1 hj
      have h6 := two_more (hL.rising _ (faceAt_mem hi)) (hL.rising _ (faceAt_mem h1)) h5
      cases e : (faceAt L j).filter (fun v => !decide (v ∈ faceAt L i)) with
      | nil => rw [e] at h6; simp at h6; omega
      | cons v l =>
        cases l with
        | nil =>
          rw [e] at h6; simp at h6
          exact (h j).1 (ov_mem.2 ⟨h1, ⟨by omega, h5⟩, h3⟩)
        | cons u l =>
          exfalso
          have hnd : (v :: u :: l).Nodup := by rw [← e]; exact (rising_nodup (hL.rising _ (faceAt_mem h1))).filter _
          have hv : v ∈ (faceAt L j).filter (fun v => !decide (v ∈ faceAt L i)) := by rw [e]; exact .head _
          have hu : u ∈ (faceAt L j).filter (fun v => !decide (v ∈ faceAt L i)) := by rw [e]; exact .tail _ (.head _)
          obtain ⟨hv1, hv2⟩ := List.mem_filter.1 hv
          obtain ⟨hu1, hu2⟩ := List.mem_filter.1 hu
          obtain ⟨x, hx, hx1, _⟩ := ov_between hL hc hi hj hv1 (by simpa using hv2)
          obtain ⟨y, hy, _, hy2⟩ := ov_between hL hc hi hj hu1 (by simpa using hu2)
          have e1 := (h x).1 hx
          have e2 := (h y).1 hy
          subst e1; subst e2
          rcases hy2 v hx1 with h7 | h7
          · simp at hv2; exact hv2 h7
          · exact (List.nodup_cons.1 hnd).1 (by rw [h7]; exact .head _)
    · rintro rfl; exact ov_gr hL hi ((h j).2 rfl)

/-- What is left behind a face that goes. -/
def less (left : Nat → Bool) (k : Nat) : Nat → Bool := fun i => if i = k then false else left i

/-- A free face and the one over it may go. -/
theorem cplx_less {L : List (List Int)} (hL : FaceList L) {left : Nat → Bool} (hc : Cplx L left) {a k : Nat} (ha : a < L.length) (h : ovL L left a = [k]) : Cplx L (less (less left k) a) := by
  have hg := gr_one.1 ((free_iff hL hc ha).2 h)
  have hk := ov_mem.1 ((ov_one.1 h k).2 rfl)
  intro i j hi hj hl hp
  unfold less at hl ⊢
  by_cases ea : j = a
  · rw [if_pos ea] at hl; cases hl
  · rw [if_neg ea] at hl
    by_cases ek : j = k
    · rw [if_pos ek] at hl; cases hl
    · rw [if_neg ek] at hl
      have hp' := partB_iff.1 hp
      have hlen : ∀ x y, x < L.length → y < L.length → (∀ v ∈ faceAt L x, v ∈ faceAt L y) → x ≠ y → (faceAt L x).length < (faceAt L y).length := fun x y hx hy hs hne => by
        have h6 := two_more (hL.rising _ (faceAt_mem hx)) (hL.rising _ (faceAt_mem hy)) hs
        rcases Nat.lt_or_ge (faceAt L x).length (faceAt L y).length with h7 | h7
        · exact h7
        · exfalso
          have h8 : ((faceAt L y).filter fun v => !decide (v ∈ faceAt L x)).length = 0 := by omega
          have h9 : ∀ v ∈ faceAt L y, v ∈ faceAt L x := fun v hv => by
            by_cases e : v ∈ faceAt L x
            · exact e
            · have : v ∈ (faceAt L y).filter fun v => !decide (v ∈ faceAt L x) := List.mem_filter.2 ⟨hv, by simpa using e⟩
              rw [List.eq_nil_of_length_eq_zero h8] at this; cases this
          exact hne (faceAt_inj hL.nodup hx hy (rising_told (hL.rising _ (faceAt_mem hx)) (hL.rising _ (faceAt_mem hy)) (fun v => ⟨hs v, h9 v⟩)))
      have key : ∀ x, x < L.length → left x = true → (∀ v ∈ faceAt L a, v ∈ faceAt L x) → x ≠ a → x = k := fun x hx hlx hs hne => by
        have hl' := hlen a x ha hx hs (Ne.symm hne)
        exact (hg x).1 (gr_mem.2 ⟨hx, faceAt_lt hL.order ha hx hl', hlx, hl', hs⟩)
      by_cases ia : i = a
      · subst ia; exact absurd (key j hj hl hp' ea) ek
      · rw [if_neg ia]
        by_cases ik : i = k
        · subst ik
          exact absurd (key j hj hl (fun v hv => hp' v (hk.2.1.2 v hv)) ea) ek
        · rw [if_neg ik]
          exact hc i j hi hj hl hp

theorem cplx_all (L : List (List Int)) : Cplx L (fun _ => true) := fun _ _ _ _ _ _ => rfl

/-- Of those over a face one goes. -/
theorem ov_less {L : List (List Int)} {left : Nat → Bool} {k : Nat} (hk : k < L.length) (hl : left k = true) (i : Nat) : (ovL L left i).length = (ovL L (less left k) i).length + (if underB (faceAt L i) (faceAt L k) = true then 1 else 0) := by
  have key : ∀ n, ((List.range n).filter fun j => underB (faceAt L i) (faceAt L j) && left j).length = ((List.range n).filter fun j => underB (faceAt L i) (faceAt L j) && less left k j).length + (if k < n ∧ underB (faceAt L i) (faceAt L k) = true then 1 else 0) := by
    intro n
    induction n with
    | zero => simp
    | succ n ih =>
      rw [List.range_succ, List.filter_append, List.filter_append, List.length_append, List.length_append, ih]
      by_cases e : n = k
      · subst e
        rw [if_neg (fun h => by omega)]
        cases hu : underB (faceAt L i) (faceAt L n) <;> simp [hu, less, hl]
      · have e1 : less left k n = left n := by unfold less; rw [if_neg e]
        have e3 : ([n].filter fun j => underB (faceAt L i) (faceAt L j) && less left k j) = [n].filter fun j => underB (faceAt L i) (faceAt L j) && left j := by simp [List.filter_cons, e1]
        rw [e3]
        have e2 : (k < n + 1) ↔ (k < n) := by omega
        simp only [e2]
        omega
  have := key L.length
  unfold ovL
  rw [this]
  simp only [hk, true_and]

end Go.Proofs.YthmjdfjchhohgaaGreatDoor

namespace Go.Proofs.YthmjdfjchhohgaaGreatDoor

theorem ofDim_over {all : List (List Int)} {d : Nat} (h : topN all ≤ d) : ofDim all (d : Int) = [] := by
  rcases hq : ofDim all (d : Int) with _ | ⟨x, l⟩
  · rfl
  · exfalso
    have hx : x ∈ numTo all (d + 1) := by
      rw [numTo_succ, hq]
      simp
    have hx2 : x ∈ ofDim all (d : Int) := by rw [hq]; simp
    have h1 := numTo_mem.1 hx
    have h2 := topN_le h1.1
    unfold ofDim at hx2
    have h3 := (List.mem_filter.1 hx2).2
    simp at h3
    omega
theorem numTo_over {all : List (List Int)} : ∀ {m : Nat}, topN all ≤ m → numTo all m = numTo all (topN all)
  | 0, h => by rw [Nat.le_zero.1 h]
  | m + 1, h => by
    rcases Nat.lt_or_ge m (topN all) with h1 | h1
    · rw [show m + 1 = topN all by omega]
    · rw [numTo_succ, ofDim_over h1, List.append_nil, numTo_over h1]
/-- The program's order of all faces is the reference's. -/
theorem allSh_num {all : List (List Int)} (h : ∀ x ∈ all, x.length ≤ 7) : allSh all = numL all := by
  have h1 : numTo all 7 = numTo all (topN all) := numTo_over (topN_upto h)
  unfold numL
  rw [← h1]
  unfold allSh numTo
  rw [List.flatMap_def]

/-- Lists that rise and hold the same are one. -/
theorem rising_one : ∀ {l m : List Int}, Rising l → Rising m → (∀ x, x ∈ l ↔ x ∈ m) → l = m
  | [], [], _, _, _ => rfl
  | [], y :: m, _, _, h => by have := (h y).2 (by simp); cases this
  | x :: l, [], _, _, h => by have := (h x).1 (by simp); cases this
  | x :: l, y :: m, hl, hm, h => by
    have hl' := List.pairwise_cons.1 hl
    have hm' := List.pairwise_cons.1 hm
    have e : x = y := by
      rcases List.mem_cons.1 ((h x).1 (by simp)) with e | h1
      · exact e
      · rcases List.mem_cons.1 ((h y).2 (by simp)) with e | h2
        · exact e.symm
        · have h3 := hm'.1 x h1
          have h4 := hl'.1 y h2
          omega
    subst e
    rw [rising_one hl'.2 hm'.2 fun z => ?_]
    have h1 := h z
    constructor
    · intro hz
      rcases List.mem_cons.1 (h1.1 (List.mem_cons_of_mem _ hz)) with e | h2
      · subst e; have := hl'.1 z hz; omega
      · exact h2
    · intro hz
      rcases List.mem_cons.1 (h1.2 (List.mem_cons_of_mem _ hz)) with e | h2
      · subst e; have := hm'.1 z hz; omega
      · exact h2

theorem twice_at : ∀ {l : List Int}, ¬ l.Nodup → ∃ i, i < l.length ∧ ∀ x ∈ l, x ∈ l.eraseIdx i
  | [], h => absurd List.nodup_nil h
  | a :: l, h => by
    by_cases ha : a ∈ l
    · exact ⟨0, by simp, fun x hx => by
        rcases List.mem_cons.1 hx with e | h1
        · rw [e]; exact ha
        · exact h1⟩
    · obtain ⟨i, hi, hs⟩ := twice_at (l := l) fun hn => h (List.nodup_cons.2 ⟨ha, hn⟩)
      exact ⟨i + 1, by simpa using hi, fun x hx => by
        rw [List.eraseIdx_cons_succ]
        rcases List.mem_cons.1 hx with e | h1
        · rw [e]; simp
        · exact List.mem_cons_of_mem _ (hs x h1)⟩
/-- A list that holds just what a rising one of its length holds, holds nothing twice. -/
theorem nodup_same {l m : List Int} (hm : Rising m) (hs : ∀ x, x ∈ m ↔ x ∈ l) (hl : l.length = m.length) : l.Nodup := by
  refine Classical.byContradiction fun h => ?_
  obtain ⟨i, hi, h1⟩ := twice_at h
  have h2 := nodup_le (rising_nodup hm) (Y := l.eraseIdx i) fun x hx => h1 x ((hs x).1 hx)
  rw [List.length_eraseIdx_of_lt hi] at h2
  omega

end Go.Proofs.YthmjdfjchhohgaaGreatDoor

namespace Go.Proofs.YthmjdfjchhohgaaGreatDoor
open Go.Lib

theorem arr_get {zs : List Int} {m : Nat} (h : m < zs.length) : zs.toArray[m]! = zs[m] := by
  rw [getElem!_pos zs.toArray m (by simpa using h)]
  simp

theorem compact_upto {zs : List Int} (hs : zs.Pairwise (· ≤ ·)) : ∀ m, m ≤ zs.length → Rising (compactUpTo zs.toArray m) ∧ ∀ u, u ∈ compactUpTo zs.toArray m ↔ u ∈ zs.take m
  | 0, _ => ⟨by simp [compactUpTo, Rising], by simp [compactUpTo]⟩
  | m + 1, h => by
    have hm : m < zs.length := by omega
    obtain ⟨h1, h2⟩ := compact_upto hs m (by omega)
    have ht : zs.take (m + 1) = zs.take m ++ [zs[m]] := by rw [List.take_add_one, List.getElem?_eq_getElem hm]; rfl
    have hle : ∀ u ∈ zs.take m, u ≤ zs[m] := fun u hu => by
      obtain ⟨j, hj, rfl⟩ := List.mem_take_iff_getElem.1 hu
      exact List.pairwise_iff_getElem.1 hs j m (by omega) hm (by omega)
    rw [compactUpTo_succ, ht, arr_get hm]
    by_cases h0 : m = 0
    · subst h0
      rw [keeps_lt_one _ 0 (by omega), if_pos rfl]
      constructor
      · have : compactUpTo zs.toArray 0 = [] := by simp [compactUpTo]
        rw [this]
        simp [Rising]
      · intro u
        rw [List.mem_append, List.mem_append, h2]
    · have hmp : m - 1 < zs.length := by omega
      by_cases he : zs[m] = zs[m - 1]
      · rw [keeps_neg (by omega) (by rw [arr_get hm, arr_get hmp]; exact he)]
        simp only [Bool.false_eq_true, if_false, List.append_nil]
        refine ⟨h1, fun u => ?_⟩
        rw [h2, List.mem_append, List.mem_singleton]
        refine ⟨.inl, fun h => h.elim id fun e => ?_⟩
        rw [e, he]
        exact List.mem_take_iff_getElem.2 ⟨m - 1, by omega, rfl⟩
      · rw [keeps_pos (by rw [arr_get hm, arr_get hmp]; exact he), if_pos rfl]
        have hlt : ∀ u ∈ zs.take m, u < zs[m] := fun u hu => by
          obtain ⟨j, hj, rfl⟩ := List.mem_take_iff_getElem.1 hu
          have h3 : zs[j] ≤ zs[m - 1] := by
            rcases Nat.lt_or_ge j (m - 1) with h | h
            · exact List.pairwise_iff_getElem.1 hs j (m - 1) (by omega) hmp h
            · have : j = m - 1 := by omega
              subst this
              exact Int.le_refl _
          have h4 : zs[m - 1] ≤ zs[m] := List.pairwise_iff_getElem.1 hs (m - 1) m hmp hm (by omega)
          omega
        constructor
        · unfold Rising
          rw [List.pairwise_append]
          exact ⟨h1, by simp, fun x hx y hy => by
            rw [List.mem_singleton.1 hy]
            exact hlt x ((h2 x).1 hx)⟩
        · intro u
          rw [List.mem_append, List.mem_append, h2]

/-- Sorted and compacted: it rises and holds what it held. -/
theorem compact_told {zs : List Int} (hs : zs.Pairwise (· ≤ ·)) : Rising (Lib.compact zs) ∧ ∀ u, u ∈ Lib.compact zs ↔ u ∈ zs := by
  have := compact_upto hs zs.length (Nat.le_refl _)
  rw [List.take_length] at this
  exact this
theorem sort_compact (zs : List Int) : Rising (Lib.compact (zs.mergeSort fun x y => decide (x ≤ y))) ∧ ∀ u, u ∈ Lib.compact (zs.mergeSort fun x y => decide (x ≤ y)) ↔ u ∈ zs := by
  have hs : (zs.mergeSort fun x y => decide (x ≤ y)).Pairwise (· ≤ ·) := by
    have := List.pairwise_mergeSort (le := fun x y : Int => decide (x ≤ y)) (fun a b c h1 h2 => by simp at h1 h2 ⊢; omega) (fun a b => by simp; omega) zs
    exact this.imp fun h => by simpa using h
  obtain ⟨h1, h2⟩ := compact_told hs
  exact ⟨h1, fun u => (h2 u).trans List.mem_mergeSort⟩

end Go.Proofs.YthmjdfjchhohgaaGreatDoor
