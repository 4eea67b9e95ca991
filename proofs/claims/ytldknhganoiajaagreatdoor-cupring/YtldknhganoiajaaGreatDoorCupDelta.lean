/- How many faces of a dimension a shape has. Deltas, without Go: of each face alone, which faces of one dimension more it is a part of. The deltas of the faces of a dimension, in memory. -/
import Derived.Test.YtldknhganoiajaaGreatDoorCupOpen2
import Derived.Test.YtldknhganoiajaaGreatDoorParts
namespace Go.Proofs.YtldknhganoiajaaGreatDoor
open Go.RowKit Go.Sort Go.Maps Go.Deep

theorem facesT_len (all : List (List Int)) : (facesT all).length = topN all := by simp [facesT]
theorem facesT_get {all : List (List Int)} {d : Nat} (h : d < topN all) : (facesT all)[d]?.getD [] = (ofDim all (d : Int)).map txt := by simp [facesT, h]
theorem ofDim_above {all : List (List Int)} {d : Nat} (h : topN all ≤ d) : ofDim all (d : Int) = [] := by
  unfold ofDim
  rw [List.filter_eq_nil_iff]
  intro x hx
  have := topN_le hx
  simp; omega

set_option maxRecDepth 100000 in
set_option maxHeartbeats 1000000 in
theorem count_ (v : Value) (all : List (List Int)) (d : Nat) (hd : d ≤ 1000) (h7 : topN all ≤ 7) (w : World) (h : ShapeAt w v all) :
    Calls Tryz.prog 50 #[v, .int .i64 (d : Int)] w fun e w' => e = .returned (.int .i64 ((ofDim all (d : Int)).length : Int)) ∧ Below w.heap.size w w' := by
  obtain ⟨vF, g, L, rfl, hF, hL, hN⟩ := h
  obtain ⟨aF, cF, rfl, hx⟩ := hF.open_
  rw [facesT_len] at hx ⊢
  have hB1 : Below w.heap.size w (w.alloc (.cells #[.slice aF (topN all) cF, .map (some g)] 46)) := (Below.refl _ w).alloc (Nat.le_refl _) _
  have q1 := cells_two w (.slice aF (topN all) cF) (.map (some g)) 46
  obtain ⟨W1, hW1⟩ : ∃ W1, w.alloc (.cells #[.slice aF (topN all) cF, .map (some g)] 46) = W1 := ⟨_, rfl⟩
  have c0 := q1.1.1
  rw [hW1] at hB1 c0
  have HW1 := Hid.mk' hW1
  obtain ⟨T, hT⟩ : ∃ T, topN all = T := ⟨_, rfl⟩
  have HT := Hid.mk' hT
  rw [hT] at h7 hx c0 HW1 ⊢
  by_cases hlt : d < T
  · obtain ⟨b, o, rfl, hbl, hcs⟩ := hx (by omega)
    obtain ⟨a', c', g1, -⟩ := hcs d hlt
    rw [facesT_get (by rw [hT]; exact hlt), List.length_map] at g1
    have g2 := (hB1.cell (p := ⟨b, o + d, none⟩) hbl).trans g1
    obtain ⟨m, hm⟩ : ∃ m, (ofDim all (d : Int)).length = m := ⟨_, rfl⟩
    rw [hm] at g2 ⊢
    have HB1 := Hid.mk' hB1
    clear hcs hbl hx g1 hm hN hF hL q1 hW1 hT hB1
    go_enter Tryz.func50, Tryz.ntmps50
    go_upto_region 1 with fail
    rw [HW1.out]
    go_wp2_with fail
    go_ret
    exact ⟨rfl, HB1.out⟩
  · have hm : (ofDim all (d : Int)).length = 0 := by rw [ofDim_above (by rw [hT]; omega)]; rfl
    rw [hm]
    have HB1 := Hid.mk' hB1
    clear hx hm hN hF hL q1 hW1 hT hB1
    go_enter Tryz.func50, Tryz.ntmps50
    go_upto_region 1 with fail
    rw [HW1.out]
    go_wp2_with fail
    go_ret
    exact ⟨rfl, HB1.out⟩

end Go.Proofs.YtldknhganoiajaaGreatDoor

namespace Go.Proofs.YtldknhganoiajaaGreatDoor

/-- The word of the numbers below n of which something holds. -/
def maskF (p : Nat → Bool) : Nat → Nat
  | 0 => 0
  | n + 1 => maskF p n ^^^ (if p n = true then 2 ^ n else 0)
theorem maskF_lt (p : Nat → Bool) : ∀ n, maskF p n < 2 ^ n
  | 0 => by simp [maskF]
  | n + 1 => by
    have h := maskF_lt p n
    have h2 : 2 ^ n < 2 ^ (n + 1) := Nat.pow_lt_pow_right (by decide) (by omega)
    unfold maskF
    refine xor_lt (by omega) ?_
    split
    · exact h2
    · exact Nat.pow_pos (by decide)
theorem maskF_bit (p : Nat → Bool) : ∀ n k, (maskF p n).testBit k = (decide (k < n) && p k)
  | 0, k => by simp [maskF]
  | n + 1, k => by
    unfold maskF
    rw [Nat.testBit_xor, maskF_bit p n k]
    by_cases hk : k = n
    · subst hk
      have e1 : decide (k < k) = false := by simp
      have e2 : decide (k < k + 1) = true := by simp
      rw [e1, e2]
      cases hp : p k <;> simp
    · have e1 : decide (k < n + 1) = decide (k < n) := decide_eq_decide.2 (by omega)
      rw [e1]
      split
      · rw [Nat.testBit_two_pow]
        have : decide (n = k) = false := decide_eq_false (fun e => hk e.symm)
        rw [this]; simp
      · simp
theorem maskF_congr {p q : Nat → Bool} : ∀ n, (∀ k, k < n → p k = q k) → maskF p n = maskF q n
  | 0, _ => rfl
  | n + 1, h => by
    unfold maskF
    rw [maskF_congr n (fun k hk => h k (by omega)), h n (by omega)]

/-- Are all of one's vertices another one's? -/
def partB (a b : List Int) : Bool := a.all (fun v => b.contains v)
theorem partB_iff (a b : List Int) : partB a b = true ↔ ∀ v ∈ a, v ∈ b := by simp [partB]
/-- A face of a dimension. -/
def faceD (all : List (List Int)) (d i : Nat) : List Int := (ofDim all (d : Int))[i]?.getD []
theorem faceD_mem {all : List (List Int)} {d i : Nat} (hi : i < (ofDim all (d : Int)).length) : faceD all d i ∈ all ∧ (faceD all d i).length = d + 1 := by
  have h : faceD all d i ∈ ofDim all (d : Int) := by unfold faceD; rw [List.getElem?_eq_getElem hi]; exact List.getElem_mem hi
  have := mem_ofDim h
  exact ⟨this.1, by omega⟩
theorem faceD_inj {l all : List (List Int)} (hg : Good l all) {d i j : Nat} (hi : i < (ofDim all (d : Int)).length) (hj : j < (ofDim all (d : Int)).length) (e : faceD all d i = faceD all d j) : i = j := by
  have h1 := idxF_at hg hi
  have h2 := idxF_at hg hj
  unfold faceD at e
  rw [e, h2] at h1
  exact h1.symm
/-- A face that is there has a number, and stands there. -/
theorem idxF_lt {l all : List (List Int)} (_hg : Good l all) {x : List Int} {d : Nat} (hx : x ∈ all) (hl : x.length = d + 1) : idxF all x < (ofDim all (d : Int)).length ∧ faceD all d (idxF all x) = x := by
  have hm : x ∈ ofDim all (d : Int) := List.mem_filter.2 ⟨hx, by simp; omega⟩
  have e : ((x.length : Int) - 1) = (d : Int) := by omega
  unfold idxF faceD
  rw [e]
  have h := List.idxOf_lt_length_iff.2 hm
  exact ⟨h, by rw [List.getElem?_eq_getElem h]; exact List.getElem_idxOf h⟩
theorem part_in {l all : List (List Int)} (hg : Good l all) {x y : List Int} (hx : x ∈ all) (hy : y.Sublist x) (h0 : y ≠ []) : y ∈ all := by
  obtain ⟨-, t, ht, hs⟩ := (hg.isAll.mem x).1 hx
  exact (hg.isAll.mem y).2 ⟨h0, t, ht, hy.trans hs⟩
/-- The delta of a face alone. -/
def dM (all : List (List Int)) (d i : Nat) : Nat := maskF (fun k => partB (faceD all d i) (faceD all (d + 1) k)) (ofDim all ((d + 1 : Nat) : Int)).length
/-- .. behind k faces, and j parts of the next one. -/
def dSt (all : List (List Int)) (d k j i : Nat) : Nat := maskF (fun k => partB (faceD all d i) (faceD all (d + 1) k)) k ^^^ (if (List.range j).any (fun j' => decide ((faceD all (d + 1) k).eraseIdx j' = faceD all d i)) = true then 2 ^ k else 0)
theorem dSt_zero (all : List (List Int)) (d i : Nat) : dSt all d 0 0 i = 0 := by simp [dSt, maskF]
theorem erase_ne : ∀ {x : List Int}, x.Nodup → ∀ {i j : Nat}, i < j → j < x.length → x.eraseIdx i ≠ x.eraseIdx j
  | [], _, i, j, _, h => by simp at h
  | a :: x, hn, 0, j + 1, _, h => by
    simp only [List.eraseIdx_cons_zero, List.eraseIdx_cons_succ]
    intro e
    cases x with
    | nil => simp at h
    | cons b x =>
      have : b = a := by
        have := congrArg List.head? e
        simpa using this
      subst this
      simp at hn
  | a :: x, hn, i + 1, j + 1, hij, h => by
    simp only [List.eraseIdx_cons_succ]
    intro e
    exact erase_ne (List.nodup_cons.1 hn).2 (show i < j by omega) (by simpa using h) (List.cons.inj e).2
theorem dSt_step {l all : List (List Int)} (hg : Good l all) {d k j i : Nat} (hk : k < (ofDim all ((d + 1 : Nat) : Int)).length) (hj : j < (faceD all (d + 1) k).length) (hi : i < (ofDim all (d : Int)).length) :
    dSt all d k (j + 1) i = if i = idxF all ((faceD all (d + 1) k).eraseIdx j) then dSt all d k j i ^^^ 2 ^ k else dSt all d k j i := by
  obtain ⟨hm, hl⟩ := faceD_mem hk
  have hok := face_ok_of hg hm
  have hlen : ((faceD all (d + 1) k).eraseIdx j).length = d + 1 := by rw [List.length_eraseIdx_of_lt hj]; omega
  have hme : (faceD all (d + 1) k).eraseIdx j ∈ all := part_in hg hm (List.eraseIdx_sublist _ _) (fun e => by rw [e] at hlen; simp at hlen)
  obtain ⟨q1, q2⟩ := idxF_lt hg hme hlen
  unfold dSt
  rw [List.range_succ, List.any_append]
  simp only [List.any_cons, List.any_nil, Bool.or_false]
  by_cases e : i = idxF all ((faceD all (d + 1) k).eraseIdx j)
  · have hlow : faceD all d i = (faceD all (d + 1) k).eraseIdx j := by rw [e]; exact q2
    have hno : (List.range j).any (fun j' => decide ((faceD all (d + 1) k).eraseIdx j' = faceD all d i)) = false := by
      rw [List.any_eq_false]
      intro j' hj'
      rw [List.mem_range] at hj'
      simp only [decide_eq_true_eq]
      rw [hlow]
      exact erase_ne hok.1.2.1 hj' hj
    have hyes : decide ((faceD all (d + 1) k).eraseIdx j = faceD all d i) = true := decide_eq_true hlow.symm
    rw [if_pos e, hno, hyes]
    simp
  · have : decide ((faceD all (d + 1) k).eraseIdx j = faceD all d i) = false := decide_eq_false (fun h => e (faceD_inj hg hi q1 (by rw [q2]; exact h.symm)))
    rw [if_neg e, this, Bool.or_false]
theorem dSt_end {l all : List (List Int)} (hg : Good l all) {d k i : Nat} (hk : k < (ofDim all ((d + 1 : Nat) : Int)).length) (hi : i < (ofDim all (d : Int)).length) :
    dSt all d k (faceD all (d + 1) k).length i = dSt all d (k + 1) 0 i := by
  obtain ⟨hm, hl⟩ := faceD_mem hk
  obtain ⟨hm', hl'⟩ := faceD_mem hi
  have hok := face_ok_of hg hm
  have hok' := face_ok_of hg hm'
  unfold dSt
  simp only [List.range_zero, List.any_nil, Bool.false_eq_true, if_false, Nat.xor_zero]
  conv => rhs; unfold maskF
  congr 1
  have : ((List.range (faceD all (d + 1) k).length).any (fun j' => decide ((faceD all (d + 1) k).eraseIdx j' = faceD all d i))) = partB (faceD all d i) (faceD all (d + 1) k) := by
    rw [Bool.eq_iff_iff, List.any_eq_true, partB_iff]
    constructor
    · rintro ⟨j, hj, e⟩ v hv
      rw [decide_eq_true_eq] at e
      rw [← e] at hv
      exact List.mem_of_mem_eraseIdx hv
    · intro h
      obtain ⟨j, hj, hs⟩ := sub_part (rising_sub hok'.2 hok.2 h) (by omega)
      refine ⟨j, List.mem_range.2 hj, ?_⟩
      rw [decide_eq_true_eq]
      exact (hs.eq_of_length (by rw [List.length_eraseIdx_of_lt hj]; omega)).symm
  rw [this]
theorem dSt_full (all : List (List Int)) (d i : Nat) : dSt all d (ofDim all ((d + 1 : Nat) : Int)).length 0 i = dM all d i := by simp [dSt, dM]
theorem dSt_lt (all : List (List Int)) (d k j i n : Nat) (hk : k < n) : dSt all d k j i < 2 ^ n := by
  unfold dSt
  have h := maskF_lt (fun k => partB (faceD all d i) (faceD all (d + 1) k)) k
  have h2 : 2 ^ k < 2 ^ n := Nat.pow_lt_pow_right (by decide) hk
  refine xor_lt (by omega) ?_
  split
  · exact h2
  · exact Nat.pow_pos (by decide)

end Go.Proofs.YtldknhganoiajaaGreatDoor

namespace Go.Proofs.YtldknhganoiajaaGreatDoor
open Go.RowKit Go.Sort Go.Maps Go.Deep

theorem WordIn.kept {S : Nat → Prop} {W W' : World} {v : Value} {n x : Nat} {row : Option Nat} (h : WordIn S W v n x) (hg : W.grownBy W' row) (hne : ∀ b, v.ownBlock = some b → row ≠ some b) : WordIn S W' v n x := by
  obtain ⟨h1, h2, h3 | ⟨h3, b, c, rfl, hc, hb, hl, h4, h5⟩⟩ := h
  · exact ⟨h1, h2, .inl h3⟩
  · have hn : some b ≠ row := fun e => hne b rfl e.symm
    exact ⟨h1, h2, .inr ⟨h3, b, c, rfl, hc, hb, Nat.lt_of_lt_of_le hl hg.size, by rw [World.cell?_of_block (hg.block b hl hn)]; exact h4, by rw [World.frozen?_of_block (hg.block b hl hn)]; exact h5⟩⟩
theorem WordIn.block_lt {S : Nat → Prop} {W : World} {v : Value} {n x b : Nat} (h : WordIn S W v n x) (e : v.ownBlock = some b) (h0 : 0 < n) : b < W.heap.size := by
  obtain ⟨h1, h2, ⟨h3, -⟩ | ⟨h3, b', c, rfl, hc, hb, hl, -⟩⟩ := h
  · omega
  · simp [Value.ownBlock] at e
    subst e
    exact hl

/-- A slice of rows, each in a block of its own; k of them are laid. -/
structure DlAt (B n M : Nat) (W : World) (G : Nat) (us : Nat → Value) (k : Nat) (xs : Nat → Nat) : Prop where
  outer : W.rowIs G 68 M (fun i => if i < k then us i else .slice none 0 0)
  word : ∀ i, i < k → WordIn (fun b => B ≤ b ∧ b ≠ G) W (us i) n (xs i)
  apart : 0 < n → ∀ i j, i < k → j < k → i ≠ j → ∀ b, (us i).ownBlock = some b → (us j).ownBlock ≠ some b
  base : B ≤ G
theorem DlAt.below {B n M : Nat} {W W' : World} {G : Nat} {us : Nat → Value} {k : Nat} {xs : Nat → Nat} (h : DlAt B n M W G us k xs) (hB : Below W.heap.size W W') : DlAt B n M W' G us k xs :=
  ⟨h.outer.of_block (hB.block _ h.outer.lt), fun i hi => (h.word i hi).below hB, h.apart, h.base⟩
theorem DlAt.congr {B n M : Nat} {W : World} {G : Nat} {us : Nat → Value} {k : Nat} {xs ys : Nat → Nat} (h : DlAt B n M W G us k xs) (e : ∀ i, i < k → xs i = ys i) : DlAt B n M W G us k ys :=
  ⟨h.outer, fun i hi => by rw [← e i hi]; exact h.word i hi, h.apart, h.base⟩
/-- One row's word is another one now. -/
theorem DlAt.flip {B n M : Nat} {W W' : World} {G : Nat} {us : Nat → Value} {k : Nat} {xs : Nat → Nat} (h : DlAt B n M W G us k xs) (hn : 0 < n) {i y : Nat} (hi : i < k) (hw : WordIn (fun b => B ≤ b ∧ b ≠ G) W' (us i) n y) (hg : W.grownBy W' (us i).ownBlock) :
    DlAt B n M W' G us k (fun j => if j = i then y else xs j) := by
  refine ⟨h.outer.of_block (hg.block G h.outer.lt (fun e => (own_block_of (h.word i hi) e.symm hn).2 rfl)), fun j hj => ?_, h.apart, h.base⟩
  by_cases e : j = i
  · subst e; rw [if_pos rfl]; exact hw
  · rw [if_neg e]
    exact (h.word j hj).kept hg (fun b hb hb' => h.apart hn i j hi hj (fun e' => e e'.symm) b hb' hb)
theorem DlAt.kept {B n M : Nat} {W W' : World} {G : Nat} {us : Nat → Value} {k : Nat} {xs : Nat → Nat} {b : Nat} (h : DlAt B n M W G us k xs) (hg : W.grownBy W' (some b)) (hG : G ≠ b) (hus : ∀ i, i < k → (us i).ownBlock ≠ some b) : DlAt B n M W' G us k xs :=
  ⟨h.outer.of_block (hg.block G h.outer.lt (fun e => hG (by cases e; rfl))), fun i hi => (h.word i hi).kept hg (fun b' e e' => hus i hi (by rw [e, ← e'])), h.apart, h.base⟩
/-- One row more is laid. -/
theorem DlAt.more {B n M : Nat} {W W' : World} {G : Nat} {us : Nat → Value} {k : Nat} {xs : Nat → Nat} (h : DlAt B n M W G us k xs) (hB : Below W.heap.size W W') {u : Value} {y : Nat} (hu : WordIn (fun b => W.heap.size ≤ b) W' u n y) (hxy : xs k = y) :
    DlAt B n M (W'.setCell ⟨G, k, none⟩ u) G (fun i => if i = k then u else us i) (k + 1) xs := by
  have h1 := h.below hB
  have hG := h.outer.lt
  have hb := h.base
  have hgr := grown_word W' ⟨G, k, none⟩ u
  have hpast : ∀ {S : Nat → Prop} {v : Value} {x : Nat}, WordIn S W' v n x → (∀ b, v.ownBlock = some b → 0 < n → b ≠ G) → WordIn S (W'.setCell ⟨G, k, none⟩ u) v n x := fun {S v x} hw hne => by
    rcases Nat.eq_zero_or_pos n with h0 | h0
    · obtain ⟨a1, a2, a3 | ⟨a3, -⟩⟩ := hw
      · exact ⟨a1, a2, .inl a3⟩
      · omega
    · exact hw.kept hgr (fun b e e' => hne b e h0 (by cases e'; rfl))
  refine ⟨(h1.outer.set k u).congr (fun i _ => ?_), fun i hi => ?_, fun hn i j hi hj hne b => ?_, hb⟩
  · by_cases e : i = k
    · subst e; simp
    · rw [if_neg e]
      by_cases e2 : i < k
      · rw [if_pos e2, if_pos (by omega), if_neg e]
      · rw [if_neg e2, if_neg (by omega)]
  · by_cases e : i = k
    · subst e
      simp only [if_true]
      rw [hxy]
      refine hpast (hu.mono (fun b _ hb' => ⟨by omega, by omega⟩)) (fun b e h0 => ?_)
      have := own_block_of hu e h0
      omega
    · simp only [if_neg e]
      exact hpast (h1.word i (by omega)) (fun b e' h0 => (own_block_of (h1.word i (by omega)) e' h0).2)
  · by_cases e : i = k <;> by_cases e2 : j = k
    · omega
    · simp only [e, e2, if_true, if_false]
      intro q1 q2
      have a1 := own_block_of hu q1 hn
      have a2 := (h.word j (by omega)).block_lt q2 hn
      omega
    · simp only [e, e2, if_true, if_false]
      intro q1 q2
      have a1 := own_block_of hu q2 hn
      have a2 := (h.word i (by omega)).block_lt q1 hn
      omega
    · simp only [e, e2, if_false]
      exact h.apart hn i j (by omega) (by omega) hne b

end Go.Proofs.YtldknhganoiajaaGreatDoor
