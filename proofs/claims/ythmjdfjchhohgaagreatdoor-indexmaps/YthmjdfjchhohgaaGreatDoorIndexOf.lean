/- The faces of a dimension, by slices that lie where all the faces do. What the reference's Numbered and CollapsePairs answer. What the reference's FixedOf answers: the faces that a map takes onto themselves. What the reference's IndexOf answers: where a face stands. -/
import Derived.Test.YthmjdfjchhohgaaGreatDoorTopOf
import Derived.BigQuiet
import Derived.Deep.QuietTactic
import Derived.Test.YthmjdfjchhohgaaGreatDoorIdxImage
import Derived.Test.YthmjdfjchhohgaaGreatDoorIdxCompact
import Derived.Test.YthmjdfjchhohgaaGreatDoorIdxRowBox
import Derived.Test.YthmjdfjchhohgaaGreatDoorSorted
import Derived.Test.YthmjdfjchhohgaaGreatDoorMade
namespace Go.Proofs.YthmjdfjchhohgaaGreatDoor
open Go.RowKit Go.Sort

/-- Slices that read as these rows, in blocks of S. -/
def HeadsS (S : Nat → Prop) (w : World) (us : List Value) (xss : List (List Int)) : Prop := us.length = xss.length ∧ ∀ (k : Nat) (u : Value) (x : List Int), us[k]? = some u → xss[k]? = some x → IntsIn S w u x
theorem HeadsS.snoc {S : Nat → Prop} {w : World} {us : List Value} {xss : List (List Int)} {u : Value} {x : List Int} (h : HeadsS S w us xss) (hu : IntsIn S w u x) : HeadsS S w (us ++ [u]) (xss ++ [x]) := by
  refine ⟨by simp [h.1], fun k u' x' h1 h2 => ?_⟩
  rw [List.getElem?_append] at h1 h2
  rw [h.1] at h1
  split at h1
  · rename_i hk
    rw [if_pos hk] at h2
    exact h.2 k u' x' h1 h2
  · rename_i hk
    rw [if_neg hk] at h2
    obtain ⟨j, hj⟩ : ∃ j, k - xss.length = j := ⟨_, rfl⟩
    rw [hj] at h1 h2
    match j with
    | 0 => simp at h1 h2; subst h1; subst h2; exact hu
    | j + 1 => simp at h1
theorem HeadsS.append {S : Nat → Prop} {w : World} {us vs : List Value} {xss yss : List (List Int)} (h : HeadsS S w us xss) (h' : HeadsS S w vs yss) : HeadsS S w (us ++ vs) (xss ++ yss) := by
  refine ⟨by simp [h.1, h'.1], fun k u' x' h1 h2 => ?_⟩
  rw [List.getElem?_append] at h1 h2
  rw [h.1] at h1
  split at h1
  · rename_i hk
    rw [if_pos hk] at h2
    exact h.2 k u' x' h1 h2
  · rename_i hk
    rw [if_neg hk] at h2
    exact h'.2 _ u' x' h1 h2
theorem HeadsS.keep {S : Nat → Prop} {w w' : World} {us : List Value} {xss : List (List Int)} (h : HeadsS S w us xss) (hk : ∀ b, b < w.heap.size → S b → w'.heap[b]? = w.heap[b]?) : HeadsS S w' us xss := ⟨h.1, fun k u x h1 h2 => SliceIn.keep (h.2 k u x h1 h2) hk⟩
theorem HeadsS.below {S : Nat → Prop} {w w' : World} {us : List Value} {xss : List (List Int)} (h : HeadsS S w us xss) (hB : Below w.heap.size w w') : HeadsS S w' us xss := h.keep (fun b hb _ => hB.block b hb)
theorem HeadsS.rows {S : Nat → Prop} {w : World} {v : Value} {us : List Value} {xss : List (List Int)} {base : Nat} (h : HeadsS S w us xss) (ho : w.ownsRow base 23 1 v us.length us) : Rows w v xss :=
  ⟨us, slice_of_owns ho (fun _ _ _ => trivial), h.1, fun k u x h1 h2 => (h.2 k u x h1 h2).any⟩
theorem rowsIn_of {w : World} {v : Value} {xss : List (List Int)} (h : Rows w v xss) : RowsIn (fun b => b < w.heap.size) w v xss := RowsIn.mono h (fun _ hb _ => hb)

set_option maxRecDepth 100000 in
set_option maxHeartbeats 1000000 in
theorem of_dim_in (S : Nat → Prop) (va : Value) (all : List (List Int)) (dim : Int) (w : World) (ha : RowsIn S w va all) (hl : all.length ≤ 1000) (hx : ∀ x ∈ all, x.length ≤ 1000) :
    Calls Tryz.prog 72 #[va, .int .i64 dim] w fun e w' => ∃ v us, e = .returned v ∧ w'.ownsRow w.heap.size 23 1 v us.length us ∧ HeadsS S w us (ofDim all dim) ∧ Below w.heap.size w w' := by
  obtain ⟨i0, hi, hz0, hz1, hz2⟩ := info_parts Tryz.info23
  obtain ⟨a, ca, rfl, -, hc⟩ := ha.open_
  have HX : Hid (∀ x ∈ all, x.length ≤ 1000) := hx
  clear hx ha
  go_enter Tryz.func72, Tryz.ntmps72
  go_wp2
  go_loopw [5, 6] (fun v p wr => ∃ (k : Nat) (us : List Value), k ≤ all.length ∧ p = .int .i64 k ∧ wr.ownsRow w.heap.size 23 1 v us.length us ∧ HeadsS S w us (ofDim (all.take k) dim) ∧ Below w.heap.size w wr)
    (fun _ p _ => all.length - (intOf p).toNat)
  case atStart => exact ⟨0, [], by omega, rfl, World.ownsRow_nil _ _ _ _, ⟨by simp [ofDim], fun k u x h => by simp at h⟩, Below.refl _ _⟩
  case round =>
    obtain ⟨k, us, hk, rfl, hown, hh, hB⟩ := hrel
    have HH : Hid (HeadsS S w us (ofDim (all.take k) dim)) := hh
    have hul : us.length ≤ 1000 := by have := hh.1; have := ofDim_length (all.take k) dim; simp at this; omega
    clear hh
    by_cases hlt : k < all.length
    · obtain ⟨b, o, rfl, -, hb, c⟩ := hc (by omega)
      obtain ⟨a1, p1, g1, i1⟩ := c k hlt
      have hlen : (all[k]?.getD []).length ≤ 1000 := HX.out _ (by rw [List.getElem?_eq_getElem hlt]; simp)
      obtain ⟨x, hxe⟩ : ∃ x, all[k]?.getD [] = x := ⟨_, rfl⟩
      rw [hxe] at g1 i1 hlen
      have g2 : wr.cell? ⟨b, o + k, none⟩ = some (.slice a1 x.length p1) := (hB.cell (p := ⟨b, o + k, none⟩) hb).trans g1
      have HI1 : Hid (IntsIn S w (.slice a1 x.length p1) x) := i1
      have HF : Hid (ofDim (all.take (k + 1)) dim = ofDim (all.take k) dim ++ (if (x.length : Int) - 1 = dim then [x] else [])) := by
        show ofDim (all.take (k + 1)) dim = _
        rw [ofDim_succ hlt, hxe]
      have hbs := hB.size
      clear hxe i1 g1 hc c
      by_cases hd : (x.length : Int) - 1 = dim
      · have hdb : ((x.length : Int) - 1 == dim) = true := beq_iff_eq.2 hd
        have HD : Hid ((x.length : Int) - 1 = dim) := hd
        clear hd
        go_wp2_with (first
          | (at_builtin; refine wpList_append_slice rfl (.tmp 21) (.tmp 26) 22 rfl w.heap.size 23 i0 (.slice none 0 0) 24 Tryz.underlying22 hi hz0 hz1 hz2 rfl _ _ _ rfl (hown.alloc _) _ [.slice a1 x.length p1] rfl (slice_one _ _ _) (by simp [Value.oneCell']) (by simp; omega) (by unfold maxLen; simp; omega) (by simp; omega) ?_; intro v3 w4 hown3 hg3 hl3)
          | go_in)
        (try go_frame)
        go_roundw
        case rel => exact ⟨k + 1, us ++ [.slice a1 x.length p1], by omega, by go_num, by simpa using hown3, by rw [HF.out, if_pos HD.out]; exact HH.out.snoc HI1.out, (hB.alloc hbs _).grown hg3 (by simp; omega) (fun j hj => (hown.lt j hj).1)⟩
        case measure => simp [intOf]; omega
      · have hdb : ((x.length : Int) - 1 == dim) = false := beq_false_of_ne hd
        have HD : Hid (¬ (x.length : Int) - 1 = dim) := hd
        clear hd
        go_wp2
        go_roundw
        case rel => exact ⟨k + 1, us, by omega, by go_num, hown, by rw [HF.out, if_neg HD.out, List.append_nil]; exact HH.out, hB⟩
        case measure => simp [intOf]; omega
    · obtain rfl : k = all.length := by omega
      clear hc
      go_wp2
      go_ret
      have hh := HH.out
      rw [List.take_length] at hh
      exact ⟨_, us, rfl, hown, hh, hB⟩

end Go.Proofs.YthmjdfjchhohgaaGreatDoor

namespace Go.Proofs.YthmjdfjchhohgaaGreatDoor
open Go.RowKit Go.Sort

theorem RowsIn.keep'' {S : Nat → Prop} {W W' : World} {v : Value} {xss : List (List Int)} (h : RowsIn S W v xss) (hk : ∀ b, b < W.heap.size → S b → W'.heap[b]? = W.heap[b]?) : RowsIn S W' v xss := h.keep' hk
theorem heads_one {S : Nat → Prop} {w : World} {us : List Value} {xss : List (List Int)} (h : HeadsS S w us xss) : ∀ c ∈ us, c.oneCell' = true := fun c hc => by
  obtain ⟨k, hk⟩ := List.mem_iff_getElem?.1 hc
  have hl : k < xss.length := by rw [← h.1]; exact (List.getElem?_eq_some_iff.1 hk).1
  obtain ⟨a, cap, e, _⟩ := h.2 k c _ hk (List.getElem?_eq_getElem hl)
  rw [e]; rfl

set_option maxRecDepth 100000 in
set_option maxHeartbeats 2000000 in
theorem numbered_ (va : Value) (all : List (List Int)) (w : World) (ha : Rows w va all) (hl : all.length ≤ 600) (hx : ∀ x ∈ all, x.length ≤ 7) (hnd : all.Nodup) :
    Calls Tryz.prog 43 #[va] w fun e w' => ∃ v, e = .returned v ∧ Rows w' v (numL all) ∧ Below w.heap.size w w' := by
  obtain ⟨i0, hi0, hz0, hz1, hz2⟩ := info_parts Tryz.info23
  have htop := fun W (hW : Below w.heap.size w W) => top_of va all W (ha.below hW) (by omega) (fun x h => by have := hx x h; omega)
  have hof : ∀ W (dim : Int), Below w.heap.size w W → Calls Tryz.prog 72 #[va, .int .i64 dim] W fun e w' => ∃ v us, e = .returned v ∧ w'.ownsRow W.heap.size 23 1 v us.length us ∧ HeadsS (fun b => b < w.heap.size) w us (ofDim all dim) ∧ Below W.heap.size W w' := fun W dim hW => (of_dim_in (fun b => b < w.heap.size) va all dim W ((rowsIn_of ha).keep'' (fun b hb hS => hW.block b hb)) (by omega) (fun x h => by have := hx x h; omega)).mono fun e w' h => by
    obtain ⟨v, us, h1, h2, h3, h4⟩ := h
    exact ⟨v, us, h1, h2, h3.keep (fun b _ hS => (hW.block b hS).symm), h4⟩
  have htl : topN all ≤ 7 := topN_upto hx
  have HNL : Hid (∀ d, (numTo all d).length ≤ 600) := fun d => by
    have h : (numTo all d).Perm (all.filter fun x => decide (1 ≤ x.length ∧ x.length ≤ d)) := (List.perm_ext_iff_of_nodup (numTo_nodup hnd d) (hnd.filter _)).2 fun x => by
      rw [numTo_mem, List.mem_filter, decide_eq_true_eq]
    rw [h.length_eq]
    exact Nat.le_trans (List.length_filter_le _ _) hl
  have HOL : Hid (∀ d : Int, (ofDim all d).length ≤ 600) := fun d => Nat.le_trans (ofDim_length all d) hl
  obtain ⟨aa, ca, rfl, -, -⟩ := ha.open_
  obtain ⟨top, htp⟩ : ∃ top, topN all = top := ⟨_, rfl⟩
  have HTP : Hid (topN all = top) := htp
  rw [htp] at htop htl
  clear ha hx hl hnd htp
  go_enter Tryz.func43, Tryz.ntmps43
  go_wp2_with fail
  go_loopw [3, 4] (fun v p W => ∃ (d : Nat) (us : List Value), d ≤ top ∧ p = .int .i64 d ∧ Hid (W.ownsRow w.heap.size 23 1 v us.length us ∧ HeadsS (fun b => b < w.heap.size) w us (numTo all d) ∧ Below w.heap.size w W)) (fun _ p _ => top - (intOf p).toNat)
  case atStart => exact ⟨0, [], by omega, rfl, World.ownsRow_nil _ _ _ _, ⟨rfl, fun k u x hu => by simp at hu⟩, Below.refl _ _⟩
  case round =>
    obtain ⟨d, us, hd, rfl, HD⟩ := hrel
    have ht := htop wr HD.out.2.2
    have hsz := HD.out.2.2.size
    by_cases hdt : d < top
    · have ho := hof wr (d : Int) HD.out.2.2
      obtain ⟨q, hq⟩ : ∃ q, us.length = q := ⟨_, rfl⟩
      have own := HD.out.1
      rw [hq] at own
      have hqb : q ≤ 600 := by rw [← hq, HD.out.2.1.1]; exact HNL.out d
      have HQ : Hid (us.length = q) := hq
      clear hq
      go_wp2_with (first
        | (go_at_call 71; refine ht.mono ?_; rintro e V ⟨rfl, rfl⟩)
        | (go_at_call 72; refine ho.mono ?_; rintro e V2 ⟨v2, us2, rfl, hown2, hh2, hB2⟩; have HH2 : Hid (HeadsS (fun b => b < w.heap.size) w us2 (ofDim all (d : Int))) := hh2; have HB2 : Hid (Below V.heap.size V V2) := hB2; have own2 := own.kept (Below.grownBy hB2) (by cases u3.ownBlock <;> simp); have hsl := slice_of_owns (S := anyBlock) hown2 (fun _ _ _ => trivial); have hq2 : us2.length ≤ 600 := (by rw [hh2.1]; exact HOL.out _); have hone : ∀ c ∈ us2, c.oneCell' = true := (fun c hc => heads_one hh2 c hc); have hsz2 := hB2.size; clear hh2 hB2 hown2)
        | (at_builtin; refine wpList_append_slice rfl (.tmp 11) (.tmp 14) 22 rfl w.heap.size 23 i0 (.slice none 0 0) 24 Tryz.underlying22 hi0 hz0 hz1 hz2 rfl _ _ _ rfl own2 _ us2 rfl hsl hone (by omega) (by unfold maxLen; omega) (by omega) ?_; intro v4 w4 hown4 hg4 hl4)
        | fail)
      go_roundw
      case rel =>
        refine ⟨d + 1, us ++ us2, by omega, by go_num, ?_, ?_, ?_⟩
        · rw [List.length_append, HQ.out]; exact hown4
        · rw [numTo_succ]; exact HD.out.2.1.append HH2.out
        · exact (HD.out.2.2.trans (HB2.out.mono hsz)).grown hg4 (by omega) (fun b hb => (own.lt b hb).1)
      case measure => simp [intOf]; omega
    · obtain rfl : d = top := by omega
      go_wp2_with (first
        | (go_at_call 71; refine ht.mono ?_; rintro e V ⟨rfl, rfl⟩)
        | fail)
      go_ret
      refine ⟨_, rfl, ?_, HD.out.2.2⟩
      have h1 := (HD.out.2.1.below HD.out.2.2).rows HD.out.1
      unfold numL
      rw [HTP.out]
      exact h1

end Go.Proofs.YthmjdfjchhohgaaGreatDoor

namespace Go.Proofs.YthmjdfjchhohgaaGreatDoor
open Go.RowKit Go.Sort Go.Lib

/-- Does a map take a face onto itself? -/
def fixB (ht : Int → Int) (x : List Int) : Bool := (x.all fun u => (x.map ht).contains u) && ((x.map ht).all fun u => x.contains u)
theorem fixB_iff {ht : Int → Int} {x : List Int} : fixB ht x = true ↔ ∀ u, u ∈ x ↔ u ∈ x.map ht := by
  unfold fixB
  rw [Bool.and_eq_true, List.all_eq_true, List.all_eq_true]
  constructor
  · intro ⟨h1, h2⟩ u
    exact ⟨fun h => List.contains_iff_mem.1 (h1 u h), fun h => List.contains_iff_mem.1 (h2 u h)⟩
  · intro h
    exact ⟨fun u hu => List.contains_iff_mem.2 ((h u).1 hu), fun u hu => List.contains_iff_mem.2 ((h u).2 hu)⟩
theorem fix_told {ht : Int → Int} {x out : List Int} (hx : Rising x) (ho : Rising out) (hm : ∀ u, u ∈ out ↔ u ∈ x.map ht) : (decide (x.map ht).Nodup && decide (out = x)) = fixB ht x := by
  rw [Bool.eq_iff_iff, Bool.and_eq_true, decide_eq_true_iff, decide_eq_true_iff, fixB_iff]
  constructor
  · rintro ⟨-, rfl⟩
    exact hm
  · intro h
    exact ⟨nodup_same hx h (by simp), rising_one ho hx fun u => (hm u).trans (h u).symm⟩
theorem filB_succ {p : List Int → Bool} {L : List (List Int)} {k : Nat} (hk : k < L.length) : (L.take (k + 1)).filter p = (L.take k).filter p ++ (if p (L[k]?.getD []) = true then [L[k]?.getD []] else []) := by
  rw [List.take_add_one, List.getElem?_eq_getElem hk, List.filter_append, Option.getD_some]
  congr 1
  by_cases h : p L[k] = true
  · simp [h]
  · simp [h]

set_option maxRecDepth 100000 in
set_option maxHeartbeats 4000000 in
theorem fixed_of (va vf : Value) (all : List (List Int)) (f : List Int) (w : World) (ha : Rows w va all) (hl : all.length ≤ 600) (hx7 : ∀ x ∈ all, x.length ≤ 7) (hdup : all.Nodup) (hris : ∀ x ∈ all, Rising x) (hver : ∀ x ∈ all, ∀ u ∈ x, u ∈ vertI all)
    (hf : Ints w vf f) (hfl : f.length ≤ 1000) (hlen : f.length = (vertI all).length) (hnd : (vertI all).Nodup) (hLl : (numL all).length ≤ 600) :
    Calls Tryz.prog 23 #[va, vf] w fun e w' => ∃ v, e = .returned v ∧ Rows w' v ((numL all).filter (fixB (hiF (vertI all) f))) ∧ Below w.heap.size w w' := by
  obtain ⟨j0, hj0, hy0, hy1, hy2⟩ := info_parts Tryz.info23
  have hnm : ∀ x ∈ numL all, x ∈ all := fun x hx => (numTo_mem.1 hx).1
  have HIM : Hid (∀ W vx x, Below w.heap.size w W → x ∈ numL all → Ints W vx x → Calls Tryz.prog 44 #[va, vf, vx] W fun e w' => ∃ v, e = .returned v ∧ Ints w' v (x.map (hiF (vertI all) f)) ∧ Below W.heap.size W w') := fun W vx x hB hx h =>
    (image_of va vf vx all f x W (ha.below hB) hl (hf.below hB) hfl h (hx7 x (hnm x hx)) hlen hnd (hver x (hnm x hx))).mono fun e w' ⟨v, h1, h2, h3⟩ => ⟨v, h1, h2.any, h3⟩
  have hnb := numbered_ va all w ha hl hx7 hdup
  have HNB : Hid (Calls Tryz.prog 43 #[va] w fun e w' => ∃ a c, e = .returned (.slice a (numL all).length c) ∧ Rows w' (.slice a (numL all).length c) (numL all) ∧ Below w.heap.size w w') := hnb.mono fun e w' ⟨v, h1, h2, h3⟩ => by
    have h4 := h2
    obtain ⟨a, c, rfl, -, -⟩ := h2.open_
    exact ⟨a, c, h1, h4, h3⟩
  have HL7 : Hid (∀ x ∈ numL all, x.length ≤ 7 ∧ Rising x) := fun x hx => ⟨hx7 x (hnm x hx), hris x (hnm x hx)⟩
  obtain ⟨L, hL⟩ : ∃ L, numL all = L := ⟨_, rfl⟩
  obtain ⟨ht, hht⟩ : ∃ ht, hiF (vertI all) f = ht := ⟨_, rfl⟩
  rw [hL] at HIM HNB hLl HL7 ⊢
  rw [hht] at HIM ⊢
  obtain ⟨n, hn⟩ : ∃ n, L.length = n := ⟨_, rfl⟩
  have HN : Hid (L.length = n) := hn
  rw [hn] at HNB hLl
  clear hnb hnm ha hl hx7 hdup hris hver hf hfl hlen hnd hL hht hn
  go_enter Tryz.func23, Tryz.ntmps23
  go_wp2_with fail
  refine HNB.out.mono ?_
  rintro e V1 ⟨aL, cL, rfl, hr, hB⟩
  have HB : Hid (Below w.heap.size w V1) := hB
  obtain ⟨a1, c1, e1, -, hrc⟩ := hr.open_
  obtain ⟨rfl, -, rfl⟩ : aL = a1 ∧ n = L.length ∧ cL = c1 := by simpa using e1
  rw [HN.out] at hrc
  have HRC := Hid.mk' hrc
  clear hB hr e1 hrc HNB
  go_wp2_with fail
  go_loopw [6, 7] (fun v p W => ∃ (m : Nat) (us : List Value), m ≤ n ∧ p = .int .i64 m ∧ Hid (W.ownsRow V1.heap.size 23 1 v us.length us ∧ HeadsIn anyBlock V1 us ((L.take m).filter (fixB ht)) ∧ Below V1.heap.size V1 W)) (fun _ p _ => n - (intOf p).toNat)
  case atStart => exact ⟨0, [], by omega, rfl, World.ownsRow_nil _ _ _ _, ⟨rfl, fun k u x h => by simp at h⟩, Below.refl _ _⟩
  case round =>
    obtain ⟨m, us, hm, rfl, HI⟩ := hrel
    obtain ⟨al, cl, rfl⟩ := own_slice HI.out.1
    by_cases hml : m < n
    · obtain ⟨b, o, rfl, -, hb, crow⟩ := HRC.out (by omega)
      obtain ⟨a2, p2, f0, i2⟩ := crow m hml
      have hfs := filB_succ (p := fixB ht) (L := L) (k := m) (by rw [HN.out]; exact hml)
      have hxm : L[m]?.getD [] ∈ L := by rw [List.getElem?_eq_getElem (by rw [HN.out]; exact hml)]; exact List.getElem_mem _
      obtain ⟨x, hxe⟩ : ∃ x, L[m]?.getD [] = x := ⟨_, rfl⟩
      rw [hxe] at f0 i2 hfs hxm
      have HFS := Hid.mk' hfs
      have hx7 := (HL7.out x hxm).1
      have HXR : Hid (Rising x) := (HL7.out x hxm).2
      have HI2 : Hid (Ints V1 (.slice a2 x.length p2) x) := i2
      have hBW : Below w.heap.size w wr := HB.out.trans (HI.out.2.2.mono HB.out.size)
      have him := HIM.out wr (.slice a2 x.length p2) x hBW hxm (i2.below HI.out.2.2)
      have hul : us.length ≤ 600 := by
        have h1 := HI.out.2.1.1
        have h2 := List.length_filter_le (fixB ht) (L.take m)
        have h3 : (L.take m).length ≤ m := by rw [List.length_take]; omega
        omega
      obtain ⟨xl, hxl⟩ : ∃ xl, x.length = xl := ⟨_, rfl⟩
      have HXL : Hid (x.length = xl) := hxl
      rw [hxl] at f0 him hx7
      have f1 := (HI.out.2.2.cell (p := ⟨b, o + m, none⟩) hb).trans f0
      have HF0 : Hid (V1.cell? ⟨b, o + m, none⟩ = some (.slice a2 xl p2) ∧ b < V1.heap.size) := ⟨f0, hb⟩
      clear crow hfs hxm hxe i2 hBW hxl f0
      go_wp2_with fail
      refine him.mono ?_
      clear him
      rintro e V2 ⟨v2, rfl, hi, hV⟩
      have HB2 : Hid (Below V1.heap.size V1 V2) := HI.out.2.2.trans (hV.mono HI.out.2.2.size)
      have HW2 : Hid (Below wr.heap.size wr V2) := hV
      have hso := sorted_ v2 (x.map ht) V2 hi (by rw [List.length_map, HXL.out]; omega)
      clear hV hi f1
      go_wp2_with fail
      refine hso.mono ?_
      clear hso
      rintro e V3 ⟨v3, out, rfl, hio, hro, hmo, hlo, hV⟩
      have HB3 : Hid (Below V1.heap.size V1 V3) := HB2.out.trans (hV.mono HB2.out.size)
      have HW3 : Hid (Below wr.heap.size wr V3) := HW2.out.trans (hV.mono HW2.out.size)
      have f1 := (HB3.out.cell (p := ⟨b, o + m, none⟩) HF0.out.2).trans HF0.out.1
      have hsi := same_ints v3 (.slice a2 x.length p2) out x V3 hio.any (HI2.out.below HB3.out) (by rw [List.length_map, HXL.out] at hlo; omega)
      rw [HXL.out] at hsi
      have htold := fix_told HXR.out hro hmo
      obtain ⟨q1, hq1⟩ : ∃ q, decide (x.map ht).Nodup = q := ⟨_, rfl⟩
      obtain ⟨q2, hq2⟩ : ∃ q, decide (out = x) = q := ⟨_, rfl⟩
      rw [hq1, hq2] at htold
      rw [hq1]
      rw [hq2] at hsi
      have HTO := Hid.mk' htold
      clear hV hio hro hmo hlo htold hq1 hq2
      go_wp2_with fail
      refine hsi.mono ?_
      clear hsi
      rintro e V4 ⟨rfl, nq, hV4⟩
      have hB4 : Below V3.heap.size V3 V4 := by rw [hV4]; exact ⟨rfl, rfl, rfl, Nat.le_refl _, fun _ _ => rfl⟩
      have HB4 : Hid (Below V1.heap.size V1 V4) := HB3.out.trans (hB4.mono HB3.out.size)
      have HW4 : Hid (Below wr.heap.size wr V4) := HW3.out.trans (hB4.mono HW3.out.size)
      have hown : V4.ownsRow V1.heap.size 23 1 (.slice al us.length cl) us.length us := HI.out.1.kept (Below.grownBy HW4.out) (by cases (Value.slice al us.length cl).ownBlock <;> simp)
      have f2 := (HB4.out.cell (p := ⟨b, o + m, none⟩) HF0.out.2).trans HF0.out.1
      have hbs := HB4.out.size
      clear hV4 hB4 f1
      by_cases hq : q1 = true ∧ q2 = true
      · obtain ⟨rfl, rfl⟩ := hq
        have HHI : Hid (HeadsIn anyBlock V1 (us ++ [.slice a2 xl p2]) ((L.take (m + 1)).filter (fixB ht))) := by
          have h1 := HI2.out
          rw [HXL.out] at h1
          have := HI.out.2.1.snoc h1
          show HeadsIn _ _ _ _
          rw [HFS.out, ← HTO.out, if_pos (show (true && true) = true from rfl)]
          exact this
        go_wp2_with (first
          | (at_builtin; refine wpList_append_slice rfl (.tmp 40) (.tmp 45) 22 rfl _ 23 j0 (.slice none 0 0) 24 Tryz.underlying22 hj0 hy0 hy1 hy2 rfl _ _ _ rfl (hown.alloc _) _ [.slice a2 xl p2] rfl (slice_one _ _ _) (by simp [Value.oneCell']) (by simp; omega) (by unfold maxLen; simp; omega) (by simp; omega) ?_; intro v5 w5 hown5 hg5 hl5)
          | fail)
        go_roundw
        case rel => exact ⟨m + 1, us ++ [.slice a2 xl p2], by omega, by go_num, by rw [List.length_append]; exact hown5, HHI.out, (HB4.out.alloc hbs _).grown hg5 (by simp; omega) (fun j hj => (hown.lt j hj).1)⟩
        case measure => simp [intOf]; omega
      · have HHI : Hid (HeadsIn anyBlock V1 us ((L.take (m + 1)).filter (fixB ht))) := by
          have := HI.out.2.1
          show HeadsIn _ _ _ _
          rw [HFS.out, ← HTO.out, if_neg (by rw [Bool.and_eq_true]; exact hq), List.append_nil]
          exact this
        have HNQ := Hid.mk' hq
        clear hq
        cases q1 with
        | false =>
          go_wp2_with fail
          go_roundw
          case rel => exact ⟨m + 1, us, by omega, by go_num, hown, HHI.out, HB4.out⟩
          case measure => simp [intOf]; omega
        | true =>
          obtain rfl : q2 = false := by
            cases q2 with
            | false => rfl
            | true => exact absurd ⟨rfl, rfl⟩ HNQ.out
          go_wp2_with fail
          go_roundw
          case rel => exact ⟨m + 1, us, by omega, by go_num, hown, HHI.out, HB4.out⟩
          case measure => simp [intOf]; omega
    · obtain rfl : m = n := by omega
      have HE : Hid (Rows wr (.slice al us.length cl) (L.filter (fixB ht))) := by
        have h1 := HI.out.2.1
        have h2 : L.take m = L := by rw [← HN.out, List.take_length]
        rw [h2] at h1
        exact h1.rows HI.out.2.2 HI.out.1 (fun _ _ => trivial)
      have HB9 : Hid (Below w.heap.size w wr) := HB.out.trans (HI.out.2.2.mono HB.out.size)
      go_wp2_with fail
      go_ret
      exact ⟨_, rfl, HE.out, HB9.out⟩

end Go.Proofs.YthmjdfjchhohgaaGreatDoor

namespace Go.Proofs.YthmjdfjchhohgaaGreatDoor
open Go.RowKit Go.Sort

set_option maxRecDepth 100000 in
theorem index_of (va vf : Value) (all : List (List Int)) (f : List Int) (w : World) (ha : Rows w va all) (hf : Ints w vf f) (hl : all.length ≤ 1000) (hx : ∀ x ∈ all, x.length ≤ 1000000) :
    Calls Tryz.prog 42 #[va, vf] w fun e w' => ∃ i : Int, e = .returned (.int .i64 i) ∧ (0 ≤ i ↔ f ∈ all) ∧ -1 ≤ i ∧ ∃ q, w' = w.drewN q := by
  obtain ⟨a, ca, rfl, -, hc⟩ := ha.open_
  have HX : Hid (∀ x ∈ all, x.length ≤ 1000000) := hx
  have HFI : Hid (Ints w vf f) := hf
  obtain ⟨af, cf, rfl, -, -⟩ := hf.open_
  clear hx ha hf
  go_enter Tryz.func42, Tryz.ntmps42
  go_wp2
  go_loopw [5] (fun p wr => ∃ k n : Nat, k ≤ all.length ∧ p = .int .i64 k ∧ wr = w.drewN n ∧ ∀ x ∈ all.take k, x ≠ f)
    (fun p _ => all.length - (intOf p).toNat)
  case atStart => exact ⟨0, 0, by omega, rfl, rfl, by simp⟩
  case round =>
    obtain ⟨k, n, hk, rfl, hw, hno⟩ := hrel
    have HW : Hid (wr = w.drewN n) := hw
    have HN : Hid (∀ x ∈ all.take k, x ≠ f) := hno
    by_cases hlt : k < all.length
    · obtain ⟨b, o, rfl, -, hb, c⟩ := hc (by omega)
      obtain ⟨a1, p1, g1, i1⟩ := c k hlt
      have hlen : (all[k]?.getD []).length ≤ 1000000 := HX.out _ (by rw [List.getElem?_eq_getElem hlt]; simp)
      have hmm : all[k]?.getD [] ∈ all := by rw [List.getElem?_eq_getElem hlt]; simp
      obtain ⟨x, hxe⟩ : ∃ x, all[k]?.getD [] = x := ⟨_, rfl⟩
      rw [hxe] at g1 i1 hlen hmm
      have g2 : wr.cell? ⟨b, o + k, none⟩ = some (.slice a1 x.length p1) := by rw [hw]; exact g1
      have hsi := same_ints (.slice a1 x.length p1) (.slice af f.length cf) x f wr (by rw [hw]; exact i1) (by rw [hw]; exact HFI.out) hlen
      have HXE : Hid (all[k]?.getD [] = x) := hxe
      clear hxe i1 g1 hc c hw hno
      by_cases he : x = f
      · rw [decide_eq_true he] at hsi
        have HM : Hid (f ∈ all) := by rw [← he]; exact hmm
        clear he
        go_wp2_with fail
        refine hsi.mono ?_
        rintro e w2 ⟨rfl, q, rfl⟩
        clear hsi
        go_wp2
        go_ret
        exact ⟨k, rfl, ⟨fun _ => HM.out, fun _ => by omega⟩, by omega, n + q, by rw [HW.out, World.drewN_drewN]⟩
      · rw [decide_eq_false he] at hsi
        have HNE : Hid (¬ x = f) := he
        clear he
        go_wp2_with fail
        refine hsi.mono ?_
        rintro e w2 ⟨rfl, q, rfl⟩
        clear hsi
        go_wp2
        go_roundw
        case rel =>
          refine ⟨k + 1, n + q, by omega, by go_num, by rw [HW.out, World.drewN_drewN], fun y hy => ?_⟩
          rw [List.take_add_one, List.getElem?_eq_getElem hlt] at hy
          rcases List.mem_append.1 hy with h | h
          · exact HN.out y h
          · have e : all[k] = x := by have := HXE.out; rwa [List.getElem?_eq_getElem hlt, Option.getD_some] at this
            simp at h; rw [h, e]; exact HNE.out
        case measure => simp [intOf]; omega
    · obtain rfl : k = all.length := by omega
      have hno' := HN.out
      rw [List.take_length] at hno'
      have HNN : Hid (∀ x ∈ all, x ≠ f) := hno'
      clear hc hno hno'
      go_wp2
      go_ret
      exact ⟨-1, rfl, ⟨fun h => by omega, fun h => absurd rfl (HNN.out f h)⟩, by omega, n, rfl⟩

end Go.Proofs.YthmjdfjchhohgaaGreatDoor
