/- The faces of a dimension, by slices that lie where all the faces do. What the reference's Numbered and CollapsePairs answer. -/
import Derived.Test.YthdmfeidcldafaaGreatDoorMorseRef2
namespace Go.Proofs.YthdmfeidcldafaaGreatDoor
open Go.RowKit Go.Sort

/-- Slices that read as these rows, in blocks of S. -/
def HeadsS (S : Nat → Prop) (w : World) (us : List Value) (xss : List (List Int)) : Prop := us.length = xss.length ∧ ∀ (k : Nat) (u : Value) (x : List Int), us[k]? = some u → xss[k]? = some x → IntsIn S w u x
theorem HeadsS.snoc {S : Nat → Prop} {w : World} {us : List Value} {xss : List (List Int)} {u : Value} {x : List Int} (h : HeadsS S w us xss) (hu : IntsIn S w u x) : HeadsS S w (us ++ [u]) (xss ++ [x]) := by
  refine ⟨by simp [h.1], fun k u' x' h1 h2 => ?_⟩
  rw [List.getElem?_append] at h1 h2
  rw [h.1] at h1
  split at h1
  · rename_i hk
    rw [if_pos hk] at h2
    exact h.2 k u' x' h1 h2
  · rename_i hk
    rw [if_neg hk] at h2
    obtain ⟨j, hj⟩ : ∃ j, k - xss.length = j := ⟨_, rfl⟩
    rw [hj] at h1 h2
    match j with
    | 0 => simp at h1 h2; subst h1; subst h2; exact hu
    | j + 1 => simp at h1
theorem HeadsS.append {S : Nat → Prop} {w : World} {us vs : List Value} {xss yss : List (List Int)} (h : HeadsS S w us xss) (h' : HeadsS S w vs yss) : HeadsS S w (us ++ vs) (xss ++ yss) := by
  refine ⟨by simp [h.1, h'.1], fun k u' x' h1 h2 => ?_⟩
  rw [List.getElem?_append] at h1 h2
  rw [h.1] at h1
  split at h1
  · rename_i hk
    rw [if_pos hk] at h2
    exact h.2 k u' x' h1 h2
  · rename_i hk
    rw [if_neg hk] at h2
    exact h'.2 _ u' x' h1 h2
theorem HeadsS.keep {S : Nat → Prop} {w w' : World} {us : List Value} {xss : List (List Int)} (h : HeadsS S w us xss) (hk : ∀ b, b < w.heap.size → S b → w'.heap[b]? = w.heap[b]?) : HeadsS S w' us xss := ⟨h.1, fun k u x h1 h2 => SliceIn.keep (h.2 k u x h1 h2) hk⟩
theorem HeadsS.below {S : Nat → Prop} {w w' : World} {us : List Value} {xss : List (List Int)} (h : HeadsS S w us xss) (hB : Below w.heap.size w w') : HeadsS S w' us xss := h.keep (fun b hb _ => hB.block b hb)
theorem HeadsS.rows {S : Nat → Prop} {w : World} {v : Value} {us : List Value} {xss : List (List Int)} {base : Nat} (h : HeadsS S w us xss) (ho : w.ownsRow base 51 1 v us.length us) : Rows w v xss :=
  ⟨us, slice_of_owns ho (fun _ _ _ => trivial), h.1, fun k u x h1 h2 => (h.2 k u x h1 h2).any⟩
theorem rowsIn_of {w : World} {v : Value} {xss : List (List Int)} (h : Rows w v xss) : RowsIn (fun b => b < w.heap.size) w v xss := RowsIn.mono h (fun _ hb _ => hb)

set_option maxRecDepth 100000 in
set_option maxHeartbeats 1000000 in
theorem of_dim_in (S : Nat → Prop) (va : Value) (all : List (List Int)) (dim : Int) (w : World) (ha : RowsIn S w va all) (hl : all.length ≤ 1000) (hx : ∀ x ∈ all, x.length ≤ 1000) :
    Calls Tryz.prog 32 #[va, .int .i64 dim] w fun e w' => ∃ v us, e = .returned v ∧ w'.ownsRow w.heap.size 51 1 v us.length us ∧ HeadsS S w us (ofDim all dim) ∧ Below w.heap.size w w' := by
  obtain ⟨i0, hi, hz0, hz1, hz2⟩ := info_parts Tryz.info51
  obtain ⟨a, ca, rfl, -, hc⟩ := ha.open_
  have HX : Hid (∀ x ∈ all, x.length ≤ 1000) := hx
  clear hx ha
  go_enter Tryz.func32, Tryz.ntmps32
  go_wp2
  go_loopw [5, 6] (fun v p wr => ∃ (k : Nat) (us : List Value), k ≤ all.length ∧ p = .int .i64 k ∧ wr.ownsRow w.heap.size 51 1 v us.length us ∧ HeadsS S w us (ofDim (all.take k) dim) ∧ Below w.heap.size w wr)
    (fun _ p _ => all.length - (intOf p).toNat)
  case atStart => exact ⟨0, [], by omega, rfl, World.ownsRow_nil _ _ _ _, ⟨by simp [ofDim], fun k u x h => by simp at h⟩, Below.refl _ _⟩
  case round =>
    obtain ⟨k, us, hk, rfl, hown, hh, hB⟩ := hrel
    have HH : Hid (HeadsS S w us (ofDim (all.take k) dim)) := hh
    have hul : us.length ≤ 1000 := by have := hh.1; have := ofDim_length (all.take k) dim; simp at this; omega
    clear hh
    by_cases hlt : k < all.length
    · obtain ⟨b, o, rfl, -, hb, c⟩ := hc (by omega)
      obtain ⟨a1, p1, g1, i1⟩ := c k hlt
      have hlen : (all[k]?.getD []).length ≤ 1000 := HX.out _ (by rw [List.getElem?_eq_getElem hlt]; simp)
      obtain ⟨x, hxe⟩ : ∃ x, all[k]?.getD [] = x := ⟨_, rfl⟩
      rw [hxe] at g1 i1 hlen
      have g2 : wr.cell? ⟨b, o + k, none⟩ = some (.slice a1 x.length p1) := (hB.cell (p := ⟨b, o + k, none⟩) hb).trans g1
      have HI1 : Hid (IntsIn S w (.slice a1 x.length p1) x) := i1
      have HF : Hid (ofDim (all.take (k + 1)) dim = ofDim (all.take k) dim ++ (if (x.length : Int) - 1 = dim then [x] else [])) := by
        show ofDim (all.take (k + 1)) dim = _
        rw [ofDim_succ hlt, hxe]
      have hbs := hB.size
      clear hxe i1 g1 hc c
      by_cases hd : (x.length : Int) - 1 = dim
      · have hdb : ((x.length : Int) - 1 == dim) = true := beq_iff_eq.2 hd
        have HD : Hid ((x.length : Int) - 1 = dim) := hd
        clear hd
        go_wp2_with (first
          | (at_builtin; refine wpList_append_slice rfl (.tmp 21) (.tmp 26) 22 rfl w.heap.size 51 i0 (.slice none 0 0) 24 Tryz.underlying22 hi hz0 hz1 hz2 rfl _ _ _ rfl (hown.alloc _) _ [.slice a1 x.length p1] rfl (slice_one _ _ _) (by simp [Value.oneCell']) (by simp; omega) (by unfold maxLen; simp; omega) (by simp; omega) ?_; intro v3 w4 hown3 hg3 hl3)
          | go_in)
        (try go_frame)
        go_roundw
        case rel => exact ⟨k + 1, us ++ [.slice a1 x.length p1], by omega, by go_num, by simpa using hown3, by rw [HF.out, if_pos HD.out]; exact HH.out.snoc HI1.out, (hB.alloc hbs _).grown hg3 (by simp; omega) (fun j hj => (hown.lt j hj).1)⟩
        case measure => simp [intOf]; omega
      · have hdb : ((x.length : Int) - 1 == dim) = false := beq_false_of_ne hd
        have HD : Hid (¬ (x.length : Int) - 1 = dim) := hd
        clear hd
        go_wp2
        go_roundw
        case rel => exact ⟨k + 1, us, by omega, by go_num, hown, by rw [HF.out, if_neg HD.out, List.append_nil]; exact HH.out, hB⟩
        case measure => simp [intOf]; omega
    · obtain rfl : k = all.length := by omega
      clear hc
      go_wp2
      go_ret
      have hh := HH.out
      rw [List.take_length] at hh
      exact ⟨_, us, rfl, hown, hh, hB⟩

end Go.Proofs.YthdmfeidcldafaaGreatDoor

namespace Go.Proofs.YthdmfeidcldafaaGreatDoor
open Go.RowKit Go.Sort

theorem RowsIn.keep'' {S : Nat → Prop} {W W' : World} {v : Value} {xss : List (List Int)} (h : RowsIn S W v xss) (hk : ∀ b, b < W.heap.size → S b → W'.heap[b]? = W.heap[b]?) : RowsIn S W' v xss := h.keep' hk
theorem heads_one {S : Nat → Prop} {w : World} {us : List Value} {xss : List (List Int)} (h : HeadsS S w us xss) : ∀ c ∈ us, c.oneCell' = true := fun c hc => by
  obtain ⟨k, hk⟩ := List.mem_iff_getElem?.1 hc
  have hl : k < xss.length := by rw [← h.1]; exact (List.getElem?_eq_some_iff.1 hk).1
  obtain ⟨a, cap, e, _⟩ := h.2 k c _ hk (List.getElem?_eq_getElem hl)
  rw [e]; rfl

set_option maxRecDepth 100000 in
set_option maxHeartbeats 2000000 in
theorem numbered_ (va : Value) (all : List (List Int)) (w : World) (ha : Rows w va all) (hl : all.length ≤ 600) (hx : ∀ x ∈ all, x.length ≤ 7) (hnd : all.Nodup) :
    Calls Tryz.prog 13 #[va] w fun e w' => ∃ v, e = .returned v ∧ Rows w' v (numL all) ∧ Below w.heap.size w w' := by
  obtain ⟨i0, hi0, hz0, hz1, hz2⟩ := info_parts Tryz.info51
  have htop := fun W (hW : Below w.heap.size w W) => top_of va all W (ha.below hW) (by omega) (fun x h => by have := hx x h; omega)
  have hof : ∀ W (dim : Int), Below w.heap.size w W → Calls Tryz.prog 32 #[va, .int .i64 dim] W fun e w' => ∃ v us, e = .returned v ∧ w'.ownsRow W.heap.size 51 1 v us.length us ∧ HeadsS (fun b => b < w.heap.size) w us (ofDim all dim) ∧ Below W.heap.size W w' := fun W dim hW => (of_dim_in (fun b => b < w.heap.size) va all dim W ((rowsIn_of ha).keep'' (fun b hb hS => hW.block b hb)) (by omega) (fun x h => by have := hx x h; omega)).mono fun e w' h => by
    obtain ⟨v, us, h1, h2, h3, h4⟩ := h
    exact ⟨v, us, h1, h2, h3.keep (fun b _ hS => (hW.block b hS).symm), h4⟩
  have htl : topN all ≤ 7 := topN_upto hx
  have HNL : Hid (∀ d, (numTo all d).length ≤ 600) := fun d => by
    have h : (numTo all d).Perm (all.filter fun x => decide (1 ≤ x.length ∧ x.length ≤ d)) := (List.perm_ext_iff_of_nodup (numTo_nodup hnd d) (hnd.filter _)).2 fun x => by
      rw [numTo_mem, List.mem_filter, decide_eq_true_eq]
    rw [h.length_eq]
    exact Nat.le_trans (List.length_filter_le _ _) hl
  have HOL : Hid (∀ d : Int, (ofDim all d).length ≤ 600) := fun d => Nat.le_trans (ofDim_length all d) hl
  obtain ⟨aa, ca, rfl, -, -⟩ := ha.open_
  obtain ⟨top, htp⟩ : ∃ top, topN all = top := ⟨_, rfl⟩
  have HTP : Hid (topN all = top) := htp
  rw [htp] at htop htl
  clear ha hx hl hnd htp
  go_enter Tryz.func13, Tryz.ntmps13
  go_wp2_with fail
  go_loopw [3, 4] (fun v p W => ∃ (d : Nat) (us : List Value), d ≤ top ∧ p = .int .i64 d ∧ Hid (W.ownsRow w.heap.size 51 1 v us.length us ∧ HeadsS (fun b => b < w.heap.size) w us (numTo all d) ∧ Below w.heap.size w W)) (fun _ p _ => top - (intOf p).toNat)
  case atStart => exact ⟨0, [], by omega, rfl, World.ownsRow_nil _ _ _ _, ⟨rfl, fun k u x hu => by simp at hu⟩, Below.refl _ _⟩
  case round =>
    obtain ⟨d, us, hd, rfl, HD⟩ := hrel
    have ht := htop wr HD.out.2.2
    have hsz := HD.out.2.2.size
    by_cases hdt : d < top
    · have ho := hof wr (d : Int) HD.out.2.2
      obtain ⟨q, hq⟩ : ∃ q, us.length = q := ⟨_, rfl⟩
      have own := HD.out.1
      rw [hq] at own
      have hqb : q ≤ 600 := by rw [← hq, HD.out.2.1.1]; exact HNL.out d
      have HQ : Hid (us.length = q) := hq
      clear hq
      go_wp2_with (first
        | (go_at_call 31; refine ht.mono ?_; rintro e V ⟨rfl, rfl⟩)
        | (go_at_call 32; refine ho.mono ?_; rintro e V2 ⟨v2, us2, rfl, hown2, hh2, hB2⟩; have HH2 : Hid (HeadsS (fun b => b < w.heap.size) w us2 (ofDim all (d : Int))) := hh2; have HB2 : Hid (Below V.heap.size V V2) := hB2; have own2 := own.kept (Below.grownBy hB2) (by cases u3.ownBlock <;> simp); have hsl := slice_of_owns (S := anyBlock) hown2 (fun _ _ _ => trivial); have hq2 : us2.length ≤ 600 := (by rw [hh2.1]; exact HOL.out _); have hone : ∀ c ∈ us2, c.oneCell' = true := (fun c hc => heads_one hh2 c hc); have hsz2 := hB2.size; clear hh2 hB2 hown2)
        | (at_builtin; refine wpList_append_slice rfl (.tmp 11) (.tmp 14) 22 rfl w.heap.size 51 i0 (.slice none 0 0) 24 Tryz.underlying22 hi0 hz0 hz1 hz2 rfl _ _ _ rfl own2 _ us2 rfl hsl hone (by omega) (by unfold maxLen; omega) (by omega) ?_; intro v4 w4 hown4 hg4 hl4)
        | fail)
      go_roundw
      case rel =>
        refine ⟨d + 1, us ++ us2, by omega, by go_num, ?_, ?_, ?_⟩
        · rw [List.length_append, HQ.out]; exact hown4
        · rw [numTo_succ]; exact HD.out.2.1.append HH2.out
        · exact (HD.out.2.2.trans (HB2.out.mono hsz)).grown hg4 (by omega) (fun b hb => (own.lt b hb).1)
      case measure => simp [intOf]; omega
    · obtain rfl : d = top := by omega
      go_wp2_with (first
        | (go_at_call 31; refine ht.mono ?_; rintro e V ⟨rfl, rfl⟩)
        | fail)
      go_ret
      refine ⟨_, rfl, ?_, HD.out.2.2⟩
      have h1 := (HD.out.2.1.below HD.out.2.2).rows HD.out.1
      unfold numL
      rw [HTP.out]
      exact h1

end Go.Proofs.YthdmfeidcldafaaGreatDoor
