/- Deltas and products of words, face by face: a delta has none, LEIBNIZ, products of cocycles in any order, products of classes. -/
import Derived.Test.YtldknhganoiajaaGreatDoorParts
import Derived.Test.YtldknhganoiajaaGreatDoorCupSameP
import Derived.Test.YtldknhganoiajaaGreatDoorCupRefMath
namespace Go.Proofs.YtldknhganoiajaaGreatDoor
open Go.RowKit Go.Sort

/-- A word as a function of faces. -/
def ch (all : List (List Int)) (x : Nat) (y : List Int) : Bool := x.testBit (idxF all y)
theorem dl_congr : ∀ (x : List Int) {f g : List Int → Bool}, (∀ j, j < x.length → f (x.eraseIdx j) = g (x.eraseIdx j)) → dl x f = dl x g
  | [], _, _, _ => rfl
  | a :: x, f, g, h => by
    simp only [dl]
    have h0 := h 0 (by simp)
    rw [List.eraseIdx_cons_zero] at h0
    rw [h0, dl_congr x (f := fun y => f (a :: y)) (g := fun y => g (a :: y)) (fun j hj => by
      have := h (j + 1) (by simpa using hj)
      rwa [List.eraseIdx_cons_succ] at this)]
theorem dl_hit : ∀ (x F : List Int), x.Nodup → dl x (fun y => decide (y = F)) = (List.range x.length).any (fun j => decide (x.eraseIdx j = F))
  | [], F, _ => rfl
  | a :: x, F, hn => by
    have hn' := List.nodup_cons.1 hn
    rw [List.length_cons, List.range_succ_eq_map, List.any_cons, List.any_map]
    simp only [dl, List.eraseIdx_cons_zero]
    have e : dl x (fun y => decide (a :: y = F)) = (List.range x.length).any ((fun j => decide ((a :: x).eraseIdx j = F)) ∘ Nat.succ) := by
      cases F with
      | nil =>
        rw [dl_congr x (g := fun _ => false) (fun j _ => by simp), dl_false]
        symm
        rw [List.any_eq_false]
        intro j _
        simp
      | cons b F =>
        by_cases hab : a = b
        · subst hab
          have ih := dl_hit x F hn'.2
          rw [dl_congr x (g := fun y => decide (y = F)) (fun j _ => by simp), ih]
          congr 1
          funext j
          simp [List.eraseIdx_cons_succ]
        · rw [dl_congr x (g := fun _ => false) (fun j _ => by simp [hab]), dl_false]
          symm
          rw [List.any_eq_false]
          intro j _
          simp [List.eraseIdx_cons_succ, hab]
    rw [e]
    by_cases h : x = F
    · have hno : (List.range x.length).any ((fun j => decide ((a :: x).eraseIdx j = F)) ∘ Nat.succ) = false := by
        rw [List.any_eq_false]
        intro j hj
        simp only [Function.comp, List.eraseIdx_cons_succ]
        intro e0
        have e := of_decide_eq_true e0
        have : a ∈ x := by rw [h, ← e]; exact List.mem_cons_self ..
        exact hn'.1 this
      rw [hno]; subst h; simp
    · generalize (List.range x.length).any _ = A
      simp [h]
theorem part_any {l all : List (List Int)} (hg : Good l all) {d k i : Nat} (hk : k < (ofDim all ((d + 1 : Nat) : Int)).length) (hi : i < (ofDim all (d : Int)).length) :
    (List.range (faceD all (d + 1) k).length).any (fun j' => decide ((faceD all (d + 1) k).eraseIdx j' = faceD all d i)) = partB (faceD all d i) (faceD all (d + 1) k) := by
  obtain ⟨hm, hl⟩ := faceD_mem hk
  obtain ⟨hm', hl'⟩ := faceD_mem hi
  have hok := face_ok_of hg hm
  have hok' := face_ok_of hg hm'
  rw [Bool.eq_iff_iff, List.any_eq_true, partB_iff]
  constructor
  · rintro ⟨j, hj, e⟩ v hv
    rw [decide_eq_true_eq] at e
    rw [← e] at hv
    exact List.mem_of_mem_eraseIdx hv
  · intro h
    obtain ⟨j, hj, hs⟩ := sub_part (rising_sub hok'.2 hok.2 h) (by omega)
    refine ⟨j, List.mem_range.2 hj, ?_⟩
    rw [decide_eq_true_eq]
    exact (hs.eq_of_length (by rw [List.length_eraseIdx_of_lt hj]; omega)).symm
/-- A face without one vertex is a face. -/
theorem less_in {l all : List (List Int)} (hg : Good l all) {x : List Int} {d j : Nat} (hx : x ∈ all) (hl : x.length = d + 2) (hj : j < x.length) : x.eraseIdx j ∈ all ∧ (x.eraseIdx j).length = d + 1 := by
  have hlen : (x.eraseIdx j).length = d + 1 := by rw [List.length_eraseIdx_of_lt hj]; omega
  exact ⟨part_in hg hx (List.eraseIdx_sublist _ _) (fun e => by rw [e] at hlen; simp at hlen), hlen⟩
theorem dl_one {l all : List (List Int)} (hg : Good l all) {d k i : Nat} (hk : k < (ofDim all ((d + 1 : Nat) : Int)).length) (hi : i < (ofDim all (d : Int)).length) :
    dl (faceD all (d + 1) k) (fun y => decide (idxF all y = i)) = partB (faceD all d i) (faceD all (d + 1) k) := by
  obtain ⟨hm, hl⟩ := faceD_mem hk
  rw [← part_any hg hk hi, ← dl_hit _ _ (face_ok_of hg hm).1.2.1]
  refine dl_congr _ (fun j hj => ?_)
  obtain ⟨q1, q2⟩ := less_in hg (d := d) hm (by omega) hj
  obtain ⟨q3, q4⟩ := idxF_lt hg q1 q2
  refine decide_eq_decide.2 ⟨fun e => by rw [← q4, e], fun e => ?_⟩
  exact faceD_inj hg q3 hi (by rw [q4, e])
theorem foldl_xor {α : Type} (p : α → Bool) : ∀ (f : List α) (b : Bool), f.foldl (fun b i => b ^^ p i) b = (b ^^ f.foldl (fun b i => b ^^ p i) false)
  | [], b => by simp
  | a :: f, b => by
    rw [List.foldl_cons, List.foldl_cons, foldl_xor p f (b ^^ p a), foldl_xor p f (false ^^ p a)]
    cases b <;> cases p a <;> simp
theorem odd_dl {l all : List (List Int)} (hg : Good l all) {d k : Nat} (hk : k < (ofDim all ((d + 1 : Nat) : Int)).length) : ∀ (f : List Int), Rising f → (∀ v ∈ f, 0 ≤ v ∧ v < ((ofDim all (d : Int)).length : Int)) →
    oddL all d f k = dl (faceD all (d + 1) k) (fun y => f.contains (idxF all y : Int))
  | [], _, _ => by
    rw [dl_congr _ (g := fun _ => false) (fun j _ => rfl), dl_false]; rfl
  | a :: f, hr, h0 => by
    have hr' := List.pairwise_cons.1 hr
    have ih := odd_dl hg hk f hr'.2 (fun v hv => h0 v (List.mem_cons_of_mem _ hv))
    have ha := h0 a (List.mem_cons_self ..)
    have e : dl (faceD all (d + 1) k) (fun y => (a :: f).contains (idxF all y : Int)) = (dl (faceD all (d + 1) k) (fun y => decide (idxF all y = a.toNat)) ^^ dl (faceD all (d + 1) k) (fun y => f.contains (idxF all y : Int))) := by
      rw [← dl_xor]
      refine dl_congr _ (fun j _ => ?_)
      rw [List.contains_cons]
      generalize idxF all ((faceD all (d + 1) k).eraseIdx j) = z
      by_cases hz : (z : Int) = a
      · have e1 : ((z : Int) == a) = true := by simp [hz]
        have e2 : decide (z = a.toNat) = true := decide_eq_true (by omega)
        have e3 : f.contains (z : Int) = false := by
          rw [← Bool.not_eq_true, List.contains_iff_mem]
          intro hm
          have := hr'.1 _ hm
          omega
        rw [e1, e2, e3]; rfl
      · have e1 : ((z : Int) == a) = false := by simp [hz]
        have e2 : decide (z = a.toNat) = false := decide_eq_false (by omega)
        rw [e1, e2]; simp
    rw [e, dl_one hg hk (by omega), ← ih]
    unfold oddL
    rw [List.foldl_cons, foldl_xor (fun i => partB (faceD all d i.toNat) (faceD all (d + 1) k)) f]
    simp
/-- The delta of a word, at a face. -/
theorem delta_bit {l all : List (List Int)} (hg : Good l all) (h60 : all.length ≤ 60) {d k x : Nat} (hx : x < 2 ^ (ofDim all (d : Int)).length) (hk : k < (ofDim all ((d + 1 : Nat) : Int)).length) :
    (deltaW all d x).testBit k = dl (faceD all (d + 1) k) (ch all x) := by
  have hn : (ofDim all (d : Int)).length ≤ 64 := Nat.le_trans (ofDim_length _ _) (by omega)
  have ho := bitsI_ok hx hn
  have hm := mask_bitsI hx hn
  have h1 : (deltaW all d (maskN (bitsI x))).testBit k = (decide (k < (ofDim all ((d + 1 : Nat) : Int)).length) && oddL all d (bitsI x) k) := by
    unfold deltaW
    rw [bitsN_mask ho hn]
    exact dSum_bit all d (bitsI x) 0 false k (by simp)
  rw [hm, odd_dl hg hk _ ho.1 ho.2] at h1
  rw [h1, decide_eq_true hk, Bool.true_and]
  refine dl_congr _ (fun j _ => ?_)
  rw [bitsI_has (lt64 hx hn)]
  rfl
theorem delta_ch {l all : List (List Int)} (hg : Good l all) (h60 : all.length ≤ 60) {d x : Nat} (hx : x < 2 ^ (ofDim all (d : Int)).length) {y : List Int} (hy : y ∈ all) (hl : y.length = d + 2) :
    ch all (deltaW all d x) y = dl y (ch all x) := by
  obtain ⟨q1, q2⟩ := idxF_lt hg hy (d := d + 1) hl
  unfold ch
  rw [delta_bit hg h60 hx q1, q2]
  rfl
theorem cup_bit {all : List (List Int)} {i k f g x : Nat} (hx : x < (ofDim all ((i + k : Nat) : Int)).length) :
    (cupW all i k f g).testBit x = cp i (ch all f) (ch all g) (faceD all (i + k) x) := by
  unfold cupW
  rw [maskF_bit, decide_eq_true hx, Bool.true_and]
  rfl
theorem cup_ch {l all : List (List Int)} (hg : Good l all) {i k f g : Nat} {y : List Int} (hy : y ∈ all) (hl : y.length = i + k + 1) :
    ch all (cupW all i k f g) y = cp i (ch all f) (ch all g) y := by
  obtain ⟨q1, q2⟩ := idxF_lt hg hy (d := i + k) hl
  unfold ch
  rw [cup_bit q1, q2]
  rfl
/-- Words that say the same of each face. -/
theorem words_eq {x y n : Nat} (hx : x < 2 ^ n) (hy : y < 2 ^ n) (h : ∀ k, k < n → x.testBit k = y.testBit k) : x = y := by
  refine Nat.eq_of_testBit_eq (fun k => ?_)
  rcases Nat.lt_or_ge k n with h1 | h1
  · exact h k h1
  · rw [Nat.testBit_lt_two_pow (Nat.lt_of_lt_of_le hx (Nat.pow_le_pow_right (by decide) h1)), Nat.testBit_lt_two_pow (Nat.lt_of_lt_of_le hy (Nat.pow_le_pow_right (by decide) h1))]
/-- A DELTA HAS NONE. -/
theorem delta_delta {l all : List (List Int)} (hg : Good l all) (h60 : all.length ≤ 60) {d x : Nat} (hx : x < 2 ^ (ofDim all (d : Int)).length) : deltaW all (d + 1) (deltaW all d x) = 0 := by
  refine words_eq (deltaW_lt all (d + 1) _) (Nat.pow_pos (by decide)) (fun k hk => ?_)
  obtain ⟨hm, hl⟩ := faceD_mem hk
  rw [delta_bit hg h60 (deltaW_lt all d x) hk, dl_congr _ (g := fun y => dl y (ch all x)) (fun j hj => ?_), dl_dl]
  · simp
  · obtain ⟨q1, q2⟩ := less_in hg (d := d + 1) hm (by omega) hj
    exact delta_ch hg h60 hx q1 q2
/-- The ends of a face are faces. -/
theorem ends_of_face {l all : List (List Int)} (hg : Good l all) {y : List Int} {n i : Nat} (hy : y ∈ all) (hl : y.length = n) (hi : i < n) : (y.take (i + 1) ∈ all ∧ (y.take (i + 1)).length = i + 1) ∧ y.drop i ∈ all ∧ (y.drop i).length = n - i := by
  have h1 : (y.take (i + 1)).length = i + 1 := by rw [List.length_take]; omega
  have h2 : (y.drop i).length = n - i := by rw [List.length_drop]; omega
  exact ⟨⟨part_in hg hy (List.take_sublist _ _) (fun e => by rw [e] at h1; simp at h1), h1⟩, part_in hg hy (List.drop_sublist _ _) (fun e => by rw [e] at h2; simp at h2; omega), h2⟩
/-- LEIBNIZ, of words. -/
theorem leibniz_w {l all : List (List Int)} (hg : Good l all) (h60 : all.length ≤ 60) {i k f g : Nat} (hf : f < 2 ^ (ofDim all (i : Int)).length) (hgg : g < 2 ^ (ofDim all (k : Int)).length) :
    deltaW all (i + k) (cupW all i k f g) = cupW all (i + 1) k (deltaW all i f) g ^^^ cupW all i (k + 1) f (deltaW all k g) := by
  have e1 : i + 1 + k = i + k + 1 := by omega
  have h1 := cupW_lt all (i + 1) k (deltaW all i f) g
  rw [e1] at h1
  refine words_eq (deltaW_lt all (i + k) _) (xor_lt h1 (cupW_lt all i (k + 1) f (deltaW all k g))) (fun x hx => ?_)
  obtain ⟨hm, hl⟩ := faceD_mem hx
  rw [delta_bit hg h60 (cupW_lt ..) hx, Nat.testBit_xor, cup_bit (i := i) (k := k + 1) hx, cup_bit (i := i + 1) (k := k) (by rw [e1]; exact hx), e1]
  rw [show i + (k + 1) = i + k + 1 from rfl]
  obtain ⟨Y, hY⟩ : ∃ Y, faceD all (i + k + 1) x = Y := ⟨_, rfl⟩
  rw [hY] at hm hl ⊢
  rw [dl_congr Y (g := cp i (ch all f) (ch all g)) (fun j hj => ?_), leibniz i _ _ Y (by omega)]
  · obtain ⟨⟨a1, a2⟩, -, -⟩ := ends_of_face hg (i := i + 1) hm hl (by omega)
    obtain ⟨-, b1, b2⟩ := ends_of_face hg (i := i) hm hl (by omega)
    have c1 : cp (i + 1) (fun y => dl y (ch all f)) (ch all g) Y = cp (i + 1) (ch all (deltaW all i f)) (ch all g) Y := by
      unfold cp
      rw [delta_ch hg h60 hf a1 a2]
    have c2 : cp i (ch all f) (fun y => dl y (ch all g)) Y = cp i (ch all f) (ch all (deltaW all k g)) Y := by
      unfold cp
      rw [delta_ch hg h60 hgg b1 (by omega)]
    rw [c1, c2]
  · obtain ⟨q1, q2⟩ := less_in hg (d := i + k) hm (by omega) hj
    exact cup_ch hg q1 (by omega)
theorem ch_zero (all : List (List Int)) (y : List Int) : ch all 0 y = false := by simp [ch]
theorem cup_zero_left {l all : List (List Int)} (_hg : Good l all) (i k g : Nat) : cupW all i k 0 g = 0 := by
  refine words_eq (cupW_lt all i k 0 g) (Nat.pow_pos (by decide)) (fun x hx => ?_)
  rw [cup_bit hx]
  unfold cp
  rw [ch_zero]; simp
theorem cup_zero_right {l all : List (List Int)} (_hg : Good l all) (i k f : Nat) : cupW all i k f 0 = 0 := by
  refine words_eq (cupW_lt all i k f 0) (Nat.pow_pos (by decide)) (fun x hx => ?_)
  rw [cup_bit hx]
  unfold cp
  rw [ch_zero]; simp
/-- Products of cocycles are cocycles. -/
theorem cup_cocycle {l all : List (List Int)} (hg : Good l all) (h60 : all.length ≤ 60) {i k f g : Nat} (hf : f < 2 ^ (ofDim all (i : Int)).length) (hgg : g < 2 ^ (ofDim all (k : Int)).length) (h1 : deltaW all i f = 0) (h2 : deltaW all k g = 0) : deltaW all (i + k) (cupW all i k f g) = 0 := by
  rw [leibniz_w hg h60 hf hgg, h1, h2, cup_zero_left hg, cup_zero_right hg]; rfl
theorem cup_xor_left {all : List (List Int)} (i k f f' g : Nat) : cupW all i k (f ^^^ f') g = cupW all i k f g ^^^ cupW all i k f' g := by
  refine words_eq (cupW_lt ..) (xor_lt (cupW_lt ..) (cupW_lt ..)) (fun x hx => ?_)
  rw [Nat.testBit_xor, cup_bit hx, cup_bit hx, cup_bit hx, ← cp_left]
  unfold cp ch
  rw [Nat.testBit_xor]

/-- STEENROD's product of words, of dimension n. -/
def stW (all : List (List Int)) (i m f g : Nat) : Nat := maskF (fun x => c1 i m (ch all f) (ch all g) (faceD all (i + m) x)) (ofDim all ((i + m : Nat) : Int)).length
theorem stW_lt (all : List (List Int)) (i m f g : Nat) : stW all i m f g < 2 ^ (ofDim all ((i + m : Nat) : Int)).length := maskF_lt _ _
theorem st_ch {l all : List (List Int)} (hg : Good l all) {i m f g : Nat} {y : List Int} (hy : y ∈ all) (hl : y.length = i + m + 1) :
    ch all (stW all i m f g) y = c1 i m (ch all f) (ch all g) y := by
  obtain ⟨q1, q2⟩ := idxF_lt hg hy (d := i + m) hl
  unfold ch stW
  rw [maskF_bit, decide_eq_true q1, Bool.true_and, q2]
  rfl
theorem c1_no_left : ∀ (i m : Nat) (f g : List Int → Bool) (x : List Int), x.length = i + m + 1 → (∀ y, y.Sublist x → y.length = i + 1 → f y = false) → c1 i m f g x = false
  | 0, _, _, _, _, _, _ => rfl
  | _ + 1, _, _, _, [], _, _ => rfl
  | i + 1, m, f, g, a :: x, hl, h => by
    have hx : x.length = i + m + 1 := by simp at hl; omega
    have h1 : f (a :: x.drop m) = false := h _ ((List.drop_sublist _ _).cons_cons a) (by first | (simp [hx]; done) | (simp [hx]; omega))
    have h2 := c1_no_left i m (fun y => f (a :: y)) g x hx (fun y hy hyl => h _ (hy.cons_cons a) (by simp [hyl]))
    simp only [c1, cp]
    rw [h1, h2]; simp
theorem c1_no_right : ∀ (i m : Nat) (f g : List Int → Bool) (x : List Int), x.length = i + m + 1 → (∀ y, y.Sublist x → y.length = m + 2 → g y = false) → c1 i m f g x = false
  | 0, _, _, _, _, _, _ => rfl
  | _ + 1, _, _, _, [], _, _ => rfl
  | i + 1, m, f, g, a :: x, hl, h => by
    have hx : x.length = i + m + 1 := by simp at hl; omega
    have h1 : g (a :: x.take (m + 1)) = false := h _ ((List.take_sublist _ _).cons_cons a) (by first | (simp [hx]; done) | (simp [hx]; omega))
    have h2 := c1_no_right i m (fun y => f (a :: y)) g x hx (fun y hy hyl => h _ (hy.cons a) hyl)
    simp only [c1, cp]
    rw [h1, h2]; simp
/-- Of a cocycle the delta of its word is nought at each face. -/
theorem coc_dl {l all : List (List Int)} (hg : Good l all) (h60 : all.length ≤ 60) {i f : Nat} (hf : f < 2 ^ (ofDim all (i : Int)).length) (h1 : deltaW all i f = 0) {Y y : List Int} (hY : Y ∈ all) (hy : y.Sublist Y) (hl : y.length = i + 2) : dl y (ch all f) = false := by
  have hm : y ∈ all := part_in hg hY hy (fun e => by rw [e] at hl; simp at hl)
  rw [← delta_ch hg h60 hf hm hl, h1, ch_zero]
theorem cups_turned {l all : List (List Int)} (hg : Good l all) (h60 : all.length ≤ 60) {i m f g : Nat} (hf : f < 2 ^ (ofDim all (i : Int)).length) (hgg : g < 2 ^ (ofDim all ((m + 1 : Nat) : Int)).length) (h1 : deltaW all i f = 0) (h2 : deltaW all (m + 1) g = 0) :
    deltaW all (i + m) (stW all i m f g) = cupW all i (m + 1) f g ^^^ cupW all (m + 1) i g f := by
  have e1 : m + 1 + i = i + m + 1 := by omega
  have hc := cupW_lt all (m + 1) i g f
  rw [e1] at hc
  refine words_eq (deltaW_lt all (i + m) _) (xor_lt (cupW_lt all i (m + 1) f g) hc) (fun x hx => ?_)
  obtain ⟨hm, hl⟩ := faceD_mem hx
  rw [delta_bit hg h60 (stW_lt ..) hx, Nat.testBit_xor, cup_bit (i := i) (k := m + 1) hx, cup_bit (i := m + 1) (k := i) (by rw [e1]; exact hx), e1]
  rw [show i + (m + 1) = i + m + 1 from rfl]
  obtain ⟨Y, hY⟩ : ∃ Y, faceD all (i + m + 1) x = Y := ⟨_, rfl⟩
  rw [hY] at hm hl ⊢
  rw [dl_congr Y (g := c1 i m (ch all f) (ch all g)) (fun j hj => ?_), steenrod i m _ _ Y (by omega)]
  · rw [c1_no_left (i + 1) m (fun y => dl y (ch all f)) _ Y (by omega) (fun y hy hyl => coc_dl hg h60 hf h1 hm hy hyl), c1_no_right i (m + 1) _ (fun y => dl y (ch all g)) Y (by omega) (fun y hy hyl => coc_dl hg h60 hgg h2 hm hy hyl)]
    simp
  · obtain ⟨q1, q2⟩ := less_in hg (d := i + m) hm (by omega) hj
    exact st_ch hg q1 q2
/-- What is a delta is in the span of the deltas of faces. -/
theorem dSum_span (all : List (List Int)) (d : Nat) {ss : List Nat} : ∀ (is : List Nat) (x0 : Nat), InSpan ss x0 → (∀ i ∈ is, InSpan ss (dM all d i)) → InSpan ss (is.foldl (fun x i => x ^^^ dM all d i) x0)
  | [], x0, h, _ => h
  | a :: is, x0, h, h2 => by
    rw [List.foldl_cons]
    exact dSum_span all d is _ (span_add h (h2 a (List.mem_cons_self ..))) (fun i hi => h2 i (List.mem_cons_of_mem _ hi))
theorem delta_span {all : List (List Int)} (h60 : all.length ≤ 60) {d x : Nat} (hx : x < 2 ^ (ofDim all (d : Int)).length) : InSpan (rowsD all (d + 1)) (deltaW all d x) := by
  have hn : (ofDim all (d : Int)).length ≤ 64 := Nat.le_trans (ofDim_length _ _) (by omega)
  refine dSum_span all d _ 0 (span_zero _) (fun i hi => span_mem ?_)
  have hb := (bitsN_mem (lt64 hx hn)).1 hi
  refine List.mem_map.2 ⟨i, List.mem_range.2 ?_, rfl⟩
  rcases Nat.lt_or_ge i (ofDim all (d : Int)).length with h1 | h1
  · exact h1
  · rw [Nat.testBit_lt_two_pow (Nat.lt_of_lt_of_le hx (Nat.pow_le_pow_right (by decide) h1))] at hb; cases hb
theorem same_of {all : List (List Int)} (h60 : all.length ≤ 60) {d x y : Nat} (hx : x < 2 ^ (ofDim all (d : Int)).length) (hy : y < 2 ^ (ofDim all (d : Int)).length) (h1 : deltaW all d x = 0) (h2 : deltaW all d y = 0) (h3 : InSpan (rowsD all d) (x ^^^ y)) : sameP all d x y = true := by
  have hn : (ofDim all (d : Int)).length ≤ 64 := Nat.le_trans (ofDim_length _ _) (by omega)
  unfold sameP
  rw [decide_eq_true h1, decide_eq_true h2, decide_eq_true ((fedB_iff (rowsD_lt all d hn) (xor_lt (lt64 hx hn) (lt64 hy hn))).2 h3)]
  rfl
/-- In which order makes no difference. -/
theorem same_turned {l all : List (List Int)} (hg : Good l all) (h60 : all.length ≤ 60) {i k f g : Nat} (hf : f < 2 ^ (ofDim all (i : Int)).length) (hgg : g < 2 ^ (ofDim all (k : Int)).length) (h1 : deltaW all i f = 0) (h2 : deltaW all k g = 0) : sameP all (i + k) (cupW all i k f g) (cupW all k i g f) = true := by
  have e1 : k + i = i + k := by omega
  have hc := cupW_lt all k i g f
  rw [e1] at hc
  have hd := cup_cocycle hg h60 hgg hf h2 h1
  rw [e1] at hd
  refine same_of h60 (cupW_lt ..) hc (cup_cocycle hg h60 hf hgg h1 h2) hd ?_
  cases k with
  | succ m =>
    rw [← cups_turned hg h60 hf hgg h1 h2]
    exact delta_span h60 (stW_lt ..)
  | zero =>
    cases i with
    | succ m =>
      have h := cups_turned hg h60 hgg hf h2 h1
      have e2 : 0 + m = m := by omega
      have hlt := stW_lt all 0 m g f
      rw [e2] at h hlt
      rw [Nat.xor_comm, ← h]
      exact delta_span h60 hlt
    | zero =>
      have : cupW all 0 0 f g = cupW all 0 0 g f := words_eq (cupW_lt ..) (cupW_lt ..) (fun x hx => by
        obtain ⟨hm, hl⟩ := faceD_mem hx
        rw [cup_bit hx, cup_bit hx]
        generalize faceD all (0 + 0) x = Y at hl
        unfold cp
        rw [List.take_of_length_le (by omega), List.drop_zero, Bool.and_comm])
      rw [this, Nat.xor_self]
      exact span_zero _
/-- The class of a product hangs on classes alone. -/
theorem same_more {l all : List (List Int)} (hg : Good l all) (h60 : all.length ≤ 60) {i k f g h : Nat} (hf : f < 2 ^ (ofDim all ((i + 1 : Nat) : Int)).length) (hgg : g < 2 ^ (ofDim all (k : Int)).length) (hh : h < 2 ^ (ofDim all (i : Int)).length) (h1 : deltaW all (i + 1) f = 0) (h2 : deltaW all k g = 0) :
    sameP all (i + 1 + k) (cupW all (i + 1) k f g) (cupW all (i + 1) k (f ^^^ deltaW all i h) g) = true := by
  have e1 : i + 1 + k = i + k + 1 := by omega
  have hdl := deltaW_lt all i h
  have hx := cup_xor_left (all := all) (i + 1) k f (deltaW all i h) g
  have hb : deltaW all (i + k) (cupW all i k h g) = cupW all (i + 1) k (deltaW all i h) g := by
    rw [leibniz_w hg h60 hh hgg, h2, cup_zero_right hg, Nat.xor_zero]
  have hz : deltaW all (i + 1) (deltaW all i h) = 0 := delta_delta hg h60 hh
  have hc1 := cup_cocycle hg h60 hf hgg h1 h2
  have hc2 := cup_cocycle hg h60 hdl hgg hz h2
  have hf2 : deltaW all (i + 1) (f ^^^ deltaW all i h) = 0 := by
    refine words_eq (deltaW_lt ..) (Nat.pow_pos (by decide)) (fun x hx => ?_)
    have a1 := congrArg (fun z => z.testBit x) h1
    have a2 := congrArg (fun z => z.testBit x) hz
    simp only [Nat.zero_testBit] at a1 a2
    rw [delta_bit hg h60 hf hx] at a1
    rw [delta_bit hg h60 hdl hx] at a2
    rw [delta_bit hg h60 (xor_lt hf hdl) hx, Nat.zero_testBit]
    have e : dl (faceD all (i + 1 + 1) x) (ch all (f ^^^ deltaW all i h)) = dl (faceD all (i + 1 + 1) x) (fun y => ch all f y ^^ ch all (deltaW all i h) y) := dl_congr _ (fun j _ => by unfold ch; rw [Nat.testBit_xor])
    rw [e, dl_xor, a1, a2]; rfl
  refine same_of h60 (cupW_lt ..) (cupW_lt ..) hc1 (cup_cocycle hg h60 (xor_lt hf hdl) hgg hf2 h2) ?_
  rw [hx, ← Nat.xor_assoc, Nat.xor_self, Nat.zero_xor, ← hb, e1]
  exact delta_span h60 (cupW_lt ..)
theorem sum_told_w {x y : Nat} (h : x ^^^ y = 0) : x = y := xor_zero_eq h
/-- A word's list is no longer than there are faces. -/
theorem bitsI_few {n x : Nat} (h : x < 2 ^ n) (hn : n ≤ 64) : (bitsI x).length ≤ n := by
  have e := filter_bits (x := x) (p := fun k => x.testBit k) hn (lt64 h hn) (fun k => by
    rcases Nat.lt_or_ge k n with h1 | h1
    · rw [decide_eq_true h1, Bool.true_and]
    · rw [Nat.testBit_lt_two_pow (Nat.lt_of_lt_of_le h (Nat.pow_le_pow_right (by decide) h1)), decide_eq_false (by omega)]; rfl)
  rw [← e, natsI_len]
  have := List.length_filter_le (fun k => x.testBit k) (List.range n)
  rwa [List.length_range] at this

end Go.Proofs.YtldknhganoiajaaGreatDoor
