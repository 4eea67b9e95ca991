/- The parts of an image lie in each other: an edge's ends are corners, a square's sides are edges, each is there once; boundaries as lists of numbers. -/
import Derived.Test.YtbmojlnkjeapkaaGreatDoorCubeSides
import Derived.Test.YtbmojlnkjeapkaaGreatDoorCubeCounts
namespace Go.Proofs.YtbmojlnkjeapkaaGreatDoor
open Go.RowKit Go.Sort Go.Maps

theorem rowTo_nodup (y x : Nat) : (rowTo y x).Nodup := by
  unfold rowTo
  exact List.Pairwise.map _ (fun a b h e => h (by have := congrArg Prod.fst e; simp only at this; omega)) (List.nodup_range (n := x))

theorem sqTo_nodup (w h : Nat) : (sqTo w h).Nodup := by
  induction h with
  | zero => exact List.nodup_nil
  | succ h ih =>
    rw [sqTo_succ]
    refine List.nodup_append.2 ⟨ih, rowTo_nodup _ _, fun a ha b hb e => ?_⟩
    subst e
    have h1 := mem_sqTo.1 ha
    have h2 := mem_rowTo.1 hb
    unfold InSq at h1
    omega

theorem flat_nodup {g : Sq → List (Sq × Sq)} (hg : ∀ a, (g a).Nodup ∧ ∀ e ∈ g a, e.1 = a) : ∀ {l : List Sq}, l.Nodup → (l.flatMap g).Nodup
  | [], _ => List.nodup_nil
  | a :: l, h => by
    obtain ⟨h1, h2⟩ := List.nodup_cons.1 h
    rw [List.flatMap_cons]
    refine List.nodup_append.2 ⟨(hg a).1, flat_nodup hg h2, fun x hx y hy e => ?_⟩
    subst e
    obtain ⟨b, hb, hy⟩ := List.mem_flatMap.1 hy
    have e1 := (hg a).2 x hx
    have e2 := (hg b).2 x hy
    exact h1 (by rw [← e1, e2]; exact hb)

theorem edgesL_iff {f : Int → Int → Bool} {l : List Sq} {e : Sq × Sq} : e ∈ edgesL f l ↔ e.1 ∈ l ∧ ((rightB f e.1 = true ∧ e.2 = (e.1.1 + 1, e.1.2)) ∨ (downB f e.1 = true ∧ e.2 = (e.1.1, e.1.2 + 1))) := by
  unfold edgesL
  rw [List.mem_flatMap]
  constructor
  · rintro ⟨a, ha, h⟩
    rcases List.mem_append.1 h with h | h
    · split at h
      · cases List.mem_singleton.1 h; exact ⟨ha, .inl ⟨by assumption, rfl⟩⟩
      · cases h
    · split at h
      · cases List.mem_singleton.1 h; exact ⟨ha, .inr ⟨by assumption, rfl⟩⟩
      · cases h
  · rintro ⟨h1, h2⟩
    refine ⟨e.1, h1, List.mem_append.2 ?_⟩
    rcases h2 with ⟨h2, h3⟩ | ⟨h2, h3⟩
    · left; rw [if_pos h2, ← h3]; exact .head _
    · right; rw [if_pos h2, ← h3]; exact .head _

theorem edgesL_nodup {f : Int → Int → Bool} {l : List Sq} (h : l.Nodup) : (edgesL f l).Nodup := by
  unfold edgesL
  refine flat_nodup (fun a => ⟨?_, fun e he => ?_⟩) h
  · cases rightB f a <;> cases downB f a <;> simp
    first | done | omega
  · rcases List.mem_append.1 he with he | he <;> split at he <;> first | cases he; done | (cases List.mem_singleton.1 he; rfl)

theorem keys_nodup : ∀ {l : List (Sq × Sq)}, l.Nodup → (∀ e ∈ l, Small e.1 ∧ Small e.2) → (l.map keyD).Nodup
  | [], _, _ => List.nodup_nil
  | a :: l, h, hs => by
    obtain ⟨h1, h2⟩ := List.nodup_cons.1 h
    rw [List.map_cons, List.nodup_cons]
    exact ⟨fun hm => h1 ((mem_keysE (hs a (.head _)) (fun b hb => hs b (.tail _ hb))).1 hm), keys_nodup h2 (fun b hb => hs b (.tail _ hb))⟩

theorem full_in {m : List (List UInt8)} {w h : Nat} {x y : Int} (e : fullAt m w h x y = true) : (0 ≤ x ∧ x < (w : Int)) ∧ 0 ≤ y ∧ y < (h : Int) := by
  unfold fullAt at e
  rw [Bool.and_eq_true, decide_eq_true_iff] at e
  have := e.1
  unfold InSq at this
  simp only at this
  omega

theorem corner_in {m : List (List UInt8)} {w h : Nat} {a : Sq} (h1 : InSq (w + 1) (h + 1) a) (h2 : cornerB (fullAt m w h) a = true) : a ∈ cornersL (fullAt m w h) (sqTo (w + 1) (h + 1)) := List.mem_filter.2 ⟨mem_sqTo.2 h1, h2⟩

theorem edge_ends {m : List (List UInt8)} {w h : Nat} {e : Sq × Sq} (he : e ∈ edgesL (fullAt m w h) (sqTo (w + 1) (h + 1))) :
    e.1 ∈ cornersL (fullAt m w h) (sqTo (w + 1) (h + 1)) ∧ e.2 ∈ cornersL (fullAt m w h) (sqTo (w + 1) (h + 1)) ∧ e.1 ≠ e.2 := by
  obtain ⟨h1, h2⟩ := edgesL_iff.1 he
  have h3 := mem_sqTo.1 h1
  obtain ⟨⟨x, y⟩, b⟩ := e
  simp only at h2
  rcases h2 with ⟨h2, rfl⟩ | ⟨h2, rfl⟩
  · unfold rightB at h2
    simp only [Bool.or_eq_true] at h2
    refine ⟨corner_in h3 ?_, corner_in ?_ ?_, fun e => by have := congrArg Prod.fst e; simp only at this; omega⟩
    · unfold cornerB; simp only [Bool.or_eq_true]
      rcases h2 with h2 | h2
      · exact .inl (.inl (.inl h2))
      · exact .inl (.inr h2)
    · unfold InSq at h3 ⊢
      simp only at h3 ⊢
      rcases h2 with h2 | h2 <;> have := full_in h2 <;> omega
    · unfold cornerB
      simp only [Bool.or_eq_true, show x + 1 - 1 = x by omega]
      rcases h2 with h2 | h2
      · exact .inl (.inl (.inr h2))
      · exact .inr h2
  · unfold downB at h2
    simp only [Bool.or_eq_true] at h2
    refine ⟨corner_in h3 ?_, corner_in ?_ ?_, fun e => by have := congrArg Prod.snd e; simp only at this; omega⟩
    · unfold cornerB; simp only [Bool.or_eq_true]
      rcases h2 with h2 | h2
      · exact .inl (.inl (.inl h2))
      · exact .inl (.inl (.inr h2))
    · unfold InSq at h3 ⊢
      simp only at h3 ⊢
      rcases h2 with h2 | h2 <;> have := full_in h2 <;> omega
    · unfold cornerB
      simp only [Bool.or_eq_true, show y + 1 - 1 = y by omega]
      rcases h2 with h2 | h2
      · exact .inl (.inr h2)
      · exact .inr h2

theorem square_sides {m : List (List UInt8)} {w h : Nat} {s : Sq} (hs : s ∈ squaresL (fullAt m w h) (sqTo (w + 1) (h + 1))) :
    (s, (s.1 + 1, s.2)) ∈ edgesL (fullAt m w h) (sqTo (w + 1) (h + 1)) ∧ ((s.1 + 1, s.2), (s.1 + 1, s.2 + 1)) ∈ edgesL (fullAt m w h) (sqTo (w + 1) (h + 1)) ∧ ((s.1, s.2 + 1), (s.1 + 1, s.2 + 1)) ∈ edgesL (fullAt m w h) (sqTo (w + 1) (h + 1)) ∧ (s, (s.1, s.2 + 1)) ∈ edgesL (fullAt m w h) (sqTo (w + 1) (h + 1)) := by
  obtain ⟨h1, h2⟩ := List.mem_filter.1 hs
  unfold hereB at h2
  have h3 := full_in h2
  obtain ⟨x, y⟩ := s
  simp only at h2 h3 ⊢
  have hin : ∀ dx dy : Int, (0 ≤ dx ∧ dx ≤ 1) → (0 ≤ dy ∧ dy ≤ 1) → (x + dx, y + dy) ∈ sqTo (w + 1) (h + 1) := fun dx dy d1 d2 => mem_sqTo.2 (by unfold InSq; simp only; omega)
  refine ⟨edgesL_iff.2 ⟨h1, .inl ⟨?_, rfl⟩⟩, edgesL_iff.2 ⟨by simpa using hin 1 0 (by omega) (by omega), .inr ⟨?_, rfl⟩⟩, edgesL_iff.2 ⟨by simpa using hin 0 1 (by omega) (by omega), .inl ⟨?_, rfl⟩⟩, edgesL_iff.2 ⟨h1, .inr ⟨?_, rfl⟩⟩⟩
  · unfold rightB; simp [h2]
  · unfold downB; simp only [show x + 1 - 1 = x by omega, h2, Bool.or_true]
  · unfold rightB; simp only [show y + 1 - 1 = y by omega, h2, Bool.or_true]
  · unfold downB; simp [h2]

/-- A boundary's rows and columns, and its numbers. -/
def rowsC (m : List (List UInt8)) (d : Int) : List Sq := if d = 0 then [] else cellsL (fullI m) (d - 1) (cornersI m)
def colsC (m : List (List UInt8)) (d : Int) : List Sq := cellsL (fullI m) d (cornersI m)
def borderC (m : List (List UInt8)) (d : Int) : List Int := matL (rowsC m d).length (colsC m d).length fun i k => incI ((rowsC m d)[i]?.getD (0, 0)) ((colsC m d)[k]?.getD (0, 0)) d

theorem matL_j {r c : Nat} (E : Nat → Nat → Int) {j : Nat} (hj : j < r * c) : (matL r c E)[j]? = some (E (j / c) (j % c)) := by
  have hc : 0 < c := Nat.pos_of_ne_zero fun e => by rw [e] at hj; simp at hj
  have h1 := matL_at E (i := j / c) (k := j % c) (Nat.div_lt_of_lt_mul (by rw [Nat.mul_comm]; exact hj)) (Nat.mod_lt _ hc)
  rwa [show j / c * c + j % c = j by rw [Nat.mul_comm]; exact Nat.div_add_mod j c] at h1

theorem rowsC_one (m : List (List UInt8)) : rowsC m 1 = (cornersL (fullI m) (cornersI m)).map dbl := by
  unfold rowsC; rw [if_neg (by decide)]; exact cellsL_zero _ _
theorem colsC_zero (m : List (List UInt8)) : colsC m 0 = (cornersL (fullI m) (cornersI m)).map dbl := cellsL_zero _ _
theorem colsC_one (m : List (List UInt8)) : colsC m 1 = (edgesL (fullI m) (cornersI m)).map mid := cellsL_one _ _
theorem rowsC_two (m : List (List UInt8)) : rowsC m 2 = (edgesL (fullI m) (cornersI m)).map mid := by
  unfold rowsC; rw [if_neg (by decide)]; exact cellsL_one _ _
theorem colsC_two (m : List (List UInt8)) : colsC m 2 = (squaresL (fullI m) (cornersI m)).map ctr := cellsL_two _ _
theorem rowsC_three (m : List (List UInt8)) : rowsC m 3 = (squaresL (fullI m) (cornersI m)).map ctr := by
  unfold rowsC; rw [if_neg (by decide)]; exact cellsL_two _ _
theorem colsC_three (m : List (List UInt8)) : colsC m 3 = [] := cellsL_three _ _

theorem getD_map {α β : Type} (f : α → β) {l : List α} {i : Nat} (d : β) (e : α) (hi : i < l.length) : (l.map f)[i]?.getD d = f (l.getD i e) := by
  rw [List.getElem?_map, List.getElem?_eq_getElem hi]
  simp [List.getD, List.getElem?_eq_getElem hi]

theorem border_one (m : List (List UInt8)) {j : Nat} (hj : j < (cornersL (fullI m) (cornersI m)).length * (edgesL (fullI m) (cornersI m)).length) : (borderC m 1)[j]? = some (endF (cornersL (fullI m) (cornersI m)) (edgesL (fullI m) (cornersI m)) (fun _ => false) j) := by
  have hc : 0 < (edgesL (fullI m) (cornersI m)).length := Nat.pos_of_ne_zero fun e => by rw [e] at hj; simp at hj
  have h1 : j / (edgesL (fullI m) (cornersI m)).length < (cornersL (fullI m) (cornersI m)).length := Nat.div_lt_of_lt_mul (by rw [Nat.mul_comm]; exact hj)
  have h2 : j % (edgesL (fullI m) (cornersI m)).length < (edgesL (fullI m) (cornersI m)).length := Nat.mod_lt _ hc
  unfold borderC
  rw [matL_j _ (by rw [rowsC_one, colsC_one, List.length_map, List.length_map]; exact hj), rowsC_one, colsC_one, List.length_map, getD_map dbl _ (0, 0) h1, getD_map mid _ ((0, 0), (0, 0)) h2, inc_end]
  · unfold endF; simp
  · refine edgesL_unit (f := fullI m) (l := cornersI m) ?_
    simp only [List.getD, List.getElem?_eq_getElem h2, Option.getD_some]
    exact List.getElem_mem h2

theorem border_two (m : List (List UInt8)) {j : Nat} (hj : j < (edgesL (fullI m) (cornersI m)).length * (squaresL (fullI m) (cornersI m)).length) : (borderC m 2)[j]? = some (sideF (edgesL (fullI m) (cornersI m)) (squaresL (fullI m) (cornersI m)) (squaresL (fullI m) (cornersI m)).length j) := by
  have hc : 0 < (squaresL (fullI m) (cornersI m)).length := Nat.pos_of_ne_zero fun e => by rw [e] at hj; simp at hj
  have h1 : j / (squaresL (fullI m) (cornersI m)).length < (edgesL (fullI m) (cornersI m)).length := Nat.div_lt_of_lt_mul (by rw [Nat.mul_comm]; exact hj)
  have h2 : j % (squaresL (fullI m) (cornersI m)).length < (squaresL (fullI m) (cornersI m)).length := Nat.mod_lt _ hc
  unfold borderC
  rw [matL_j _ (by rw [rowsC_two, colsC_two, List.length_map, List.length_map]; exact hj), rowsC_two, colsC_two, List.length_map, getD_map mid _ ((0, 0), (0, 0)) h1, getD_map ctr _ (0, 0) h2, inc_side]
  · unfold sideF; rw [if_pos h2]
  · refine edgesL_unit (f := fullI m) (l := cornersI m) ?_
    simp only [List.getD, List.getElem?_eq_getElem h1, Option.getD_some]
    exact List.getElem_mem h1

/-- A row of numbers reads as a list. -/
theorem ints_of_rowIs {W : World} {g n : Nat} {F : Nat → Int} {L : List Int} (h : W.rowIs g 3 n (fun j => .int .i64 (F j))) (hl : L.length = n) (hF : ∀ j, j < n → L[j]? = some (F j)) : Ints W (.slice (some ⟨g, 0, none⟩) n n) L := by
  refine ⟨some ⟨g, 0, none⟩, n, by rw [List.length_map, hl], ⟨by rw [List.length_map, hl]; exact Nat.le_refl _, fun e => by cases e⟩, fun h0 => ⟨g, 0, rfl, trivial, fun k u hu => ?_⟩⟩
  rw [List.getElem?_map] at hu
  rcases Nat.lt_or_ge k n with hk | hk
  · rw [hF k hk] at hu
    cases hu
    rw [Nat.zero_add]
    exact h.cell hk
  · rw [List.getElem?_eq_none (by omega)] at hu; cases hu

end Go.Proofs.YtbmojlnkjeapkaaGreatDoor
