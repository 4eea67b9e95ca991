/- What slices.Grow of no slice and slices.Concat of slices of rows answer. The faces of a dimension. A shape: the faces by dimension; all of them in a row. What gather answers: a map of all faces of the sets, or which error they have. -/
import Derived.Test.YthmjdfjchhohgaaGreatDoorIdxRowBox
import Derived.Test.YthmjdfjchhohgaaGreatDoorIdxNums
import Derived.Lib.AppendZerosOnto
import Derived.Lib.SliceRun
import Derived.Test.YthmjdfjchhohgaaGreatDoorMath2
import Derived.Test.YthmjdfjchhohgaaGreatDoorClosedDefs
namespace Go.Proofs.YthmjdfjchhohgaaGreatDoor
open Go.RowKit Go.Sort

theorem zerosR_size (n : Nat) : (Builtin.zeroCells #[Value.slice none 0 0] n).size = n := by
  simp [Builtin.zeroCells]

set_option maxRecDepth 100000 in
set_option maxHeartbeats 1000000 in
theorem growR_nil (n : Nat) (w : World) (hn : n ≤ 100000) :
    Calls Tryz.prog 111 #[.slice none 0 0, .int .i64 n] w fun e w' => ∃ v, e = .returned v ∧ w'.ownsRow w.heap.size 23 1 v 0 [] ∧ Below w.heap.size w w' := by
  obtain ⟨i0, hi, hz0, hz1, hz2⟩ := info_parts Tryz.info23
  by_cases h0 : n = 0
  · subst h0
    go_enter Tryz.func111, Tryz.ntmps111
    go_wp2
    go_ret
    exact ⟨_, rfl, World.ownsRow_nil _ _ _ _, Below.refl _ _⟩
  · have hold : (Builtin.firstCells i0.size 0 (.slice none 0 0)).run Tryz.prog w.drew = .ok ([] : List Value).toArray w.drew := run_firstCells_none w.drew i0.size 0 0 0
    have hrz := fun ty => Lib.run_append_grow_zeros w 22 3 ty 23 i0 (.slice none 0 0) .i64 .i64 Tryz.underlying22 Tryz.underlying3 hi hz0 none 0 0 [] hold n (by omega) (by omega) (by omega) (by omega) (by rw [hz2]; omega) (by rw [hz2]; exact growslice_fits (by omega) (by omega))
    simp only [Nat.zero_add] at hrz
    have hGn : n ≤ grownCap w n 0 23 := grownCap_ge w _ _ _
    have hGm : grownCap w n 0 23 ≤ maxLen := grownCap_le_maxLen w n 0 23 (by unfold maxLen; omega)
    obtain ⟨G, hG⟩ : ∃ G, grownCap w n 0 23 = G := ⟨_, rfl⟩
    rw [hG] at hrz hGn hGm
    have hG63 : G ≤ 9223372036854775807 := by unfold maxLen at hGm; exact hGm
    have hn0 : 0 < (n : Int) := by omega
    clear hG hold
    go_enter Tryz.func111, Tryz.ntmps111
    go_wp2_with (at_builtin; refine Lib.wpList_append_run _ rfl _ _ _ _ rfl _ _ rfl rfl _ _ (hrz _) ?_)
    go_ret
    refine ⟨_, rfl, ⟨rfl, .inr ⟨w.heap.size, G, _, rfl, Nat.le_refl _, World.alloc_heap_new w.drew _, Nat.zero_le _, hGm, ?_, by simp⟩⟩, ((Below.refl _ w).drew).alloc (Nat.le_refl _) _⟩
    rw [Array.size_append, zerosR_size, zerosR_size]
    omega

theorem HeadsIn.append {S : Nat → Prop} {w : World} {us vs : List Value} {xss yss : List (List Int)} (h : HeadsIn S w us xss) (h' : HeadsIn S w vs yss) : HeadsIn S w (us ++ vs) (xss ++ yss) := by
  refine ⟨by simp [h.1, h'.1], fun k u' x' h1 h2 => ?_⟩
  rw [List.getElem?_append] at h1 h2
  rw [h.1] at h1
  split at h1
  · rename_i hk
    rw [if_pos hk] at h2
    exact h.2 k u' x' h1 h2
  · rename_i hk
    rw [if_neg hk] at h2
    exact h'.2 _ u' x' h1 h2
/-- How many rows the first k slices hold. -/
def totN (Ls : List (List (List Int))) (k : Nat) : Nat := (Ls.take k).flatten.length
theorem totN_succ {Ls : List (List (List Int))} {k : Nat} (hk : k < Ls.length) : totN Ls (k + 1) = totN Ls k + (Ls[k]?.getD []).length := by
  unfold totN
  rw [List.take_add_one, List.getElem?_eq_getElem hk, List.flatten_append, List.length_append]
  simp
theorem totN_le (Ls : List (List (List Int))) (k : Nat) : totN Ls k ≤ Ls.flatten.length := by
  unfold totN
  conv => rhs; rw [← List.take_append_drop k Ls, List.flatten_append, List.length_append]
  omega
theorem flat_succ {Ls : List (List (List Int))} {k : Nat} (hk : k < Ls.length) : (Ls.take (k + 1)).flatten = (Ls.take k).flatten ++ Ls[k]?.getD [] := by
  rw [List.take_add_one, List.getElem?_eq_getElem hk, List.flatten_append]
  simp
/-- Slices of rows in a block. -/
def PartsAt (S : Nat → Prop) (w : World) (b o : Nat) (Ls : List (List (List Int))) : Prop := ∀ j, j < Ls.length → ∃ a c, w.cell? ⟨b, o + j, none⟩ = some (.slice a (Ls[j]?.getD []).length c) ∧ RowsIn S w (.slice a (Ls[j]?.getD []).length c) (Ls[j]?.getD [])

set_option maxRecDepth 100000 in
set_option maxHeartbeats 2000000 in
theorem concat_own {S : Nat → Prop} (b o cap : Nat) (Ls : List (List (List Int))) (w : World) (h : PartsAt S w b o Ls) (hb : b < w.heap.size) (hl : Ls.flatten.length ≤ 100000) (hn : Ls.length ≤ 1000) :
    Calls Tryz.prog 84 #[.slice (some ⟨b, o, none⟩) Ls.length cap] w fun e w' => ∃ v us, e = .returned v ∧ w'.ownsRow w.heap.size 23 1 v us.length us ∧ HeadsIn S w us Ls.flatten ∧ Below w.heap.size w w' := by
  obtain ⟨i0, hi, hz0, hz1, hz2⟩ := info_parts Tryz.info23
  have HH : Hid (PartsAt S w b o Ls) := h
  have HT : Hid (∀ k, totN Ls k ≤ 100000) := fun k => Nat.le_trans (totN_le Ls k) hl
  obtain ⟨R, hR⟩ : ∃ R, Ls.flatten = R := ⟨_, rfl⟩
  rw [hR]
  have HR : Hid (Ls.flatten = R) := hR
  clear h hl hR
  go_enter Tryz.func84, Tryz.ntmps84
  go_wp2
  go_loopw [3, 11] (fun v p W => ∃ k : Nat, k ≤ Ls.length ∧ p = .int .i64 k ∧ v = .int .i64 (totN Ls k) ∧ W = w) (fun _ p _ => Ls.length - (intOf p).toNat)
  case atStart => exact ⟨0, by omega, rfl, rfl, rfl⟩
  case round =>
    obtain ⟨k, hk, rfl, rfl, hW⟩ := hrel
    obtain rfl : w = wr := hW.symm
    have htk := HT.out k
    by_cases hlt : k < Ls.length
    · obtain ⟨a1, p1, g1, -⟩ := HH.out k hlt
      have hs := totN_succ hlt
      have htk1 := HT.out (k + 1)
      obtain ⟨n1, hn1⟩ : ∃ n, (Ls[k]?.getD []).length = n := ⟨_, rfl⟩
      rw [hn1] at g1 hs
      have HS : Hid (totN Ls (k + 1) = totN Ls k + n1) := hs
      obtain ⟨t, ht⟩ : ∃ t, totN Ls k = t := ⟨_, rfl⟩
      rw [ht] at htk hs ⊢
      have HTK : Hid (totN Ls k = t) := ht
      have hle : t + n1 ≤ 100000 := by omega
      clear hs ht htk1 hn1
      go_wp2_with fail
      go_roundw
      case rel => exact ⟨k + 1, by omega, by go_num, by rw [HS.out, HTK.out]; go_num, by first | trivial | rfl⟩
      case measure => simp [intOf]; omega
    · obtain rfl : k = Ls.length := by omega
      have hgr := growR_nil (totN Ls Ls.length) w (by omega)
      obtain ⟨t, ht⟩ : ∃ t, totN Ls Ls.length = t := ⟨_, rfl⟩
      rw [ht] at htk hgr ⊢
      clear ht
      go_wp2_with fail
      refine hgr.mono ?_
      clear hgr
      rintro e w2 ⟨v2, rfl, hown2, hB2⟩
      go_wp2_with fail
      go_loopw [6, 27] (fun v p W => ∃ (k : Nat) (us : List Value), k ≤ Ls.length ∧ p = .int .i64 k ∧ W.ownsRow w.heap.size 23 1 v us.length us ∧ HeadsIn S w us (Ls.take k).flatten ∧ Below w.heap.size w W) (fun _ p _ => Ls.length - (intOf p).toNat)
      case atStart => exact ⟨0, [], by omega, rfl, hown2, ⟨rfl, fun k u x h => by simp at h⟩, hB2⟩
      case round =>
        obtain ⟨k, us, hk, rfl, hown, hh, hB⟩ := hrel
        have HHd : Hid (HeadsIn S w us (Ls.take k).flatten) := hh
        have hul : us.length = totN Ls k := hh.1
        have hul2 : us.length ≤ 100000 := by have := HT.out k; omega
        clear hh hown2 hB2
        by_cases hlt : k < Ls.length
        · obtain ⟨a1, p1, g1, r1⟩ := HH.out k hlt
          have hf := flat_succ hlt
          obtain ⟨X, hX⟩ : ∃ X, Ls[k]?.getD [] = X := ⟨_, rfl⟩
          rw [hX] at g1 r1 hf
          obtain ⟨ns, hsl, hnl, hns⟩ := r1
          have HN : Hid (HeadsIn S w (us ++ ns) (Ls.take (k + 1)).flatten) := by rw [hf]; exact HHd.out.append ⟨hnl, hns⟩
          have g2 := (hB.cell (p := ⟨b, o + k, none⟩) hb).trans g1
          have hs : SliceIn S wr (.slice a1 X.length p1) ns := SliceIn.keep hsl (fun b hb _ => hB.block b hb)
          have hone : ∀ c ∈ ns, c.oneCell' = true := fun c hc => by
            obtain ⟨k, hk, rfl⟩ := List.getElem_of_mem hc
            obtain ⟨x, hx⟩ : ∃ x, X[k]? = some x := ⟨X[k], List.getElem?_eq_getElem (by omega)⟩
            obtain ⟨a', c', e, -⟩ := (hns k _ x (List.getElem?_eq_getElem hk) hx).open_
            rw [e]; rfl
          have hnl2 : us.length + ns.length ≤ 100000 := by
            have h1 := HT.out (k + 1)
            have h2 := HN.out.1
            rw [List.length_append] at h2
            have h3 : totN Ls (k + 1) = (Ls.take (k + 1)).flatten.length := rfl
            omega
          have hbs := hB.size
          obtain ⟨n1, hn1⟩ : ∃ n, X.length = n := ⟨_, rfl⟩
          rw [hn1] at g2 hs
          clear hX hf g1 hsl hns hnl hn1 hul
          go_wp2_with (first
            | (at_builtin; refine wpList_append_slice rfl (.tmp 31) (.tmp 32) 22 rfl _ 23 i0 (.slice none 0 0) 24 Tryz.underlying22 hi hz0 hz1 hz2 rfl _ _ _ rfl hown _ ns rfl hs hone (by omega) (by unfold maxLen; omega) hbs ?_; intro v4 w4 hown4 hg4 hl4)
            | go_in)
          (try go_frame)
          go_roundw
          case rel => exact ⟨k + 1, us ++ ns, by omega, by go_num, by rw [List.length_append]; exact hown4, HN.out, hB.grown hg4 hbs (fun j hj => (hown.lt j hj).1)⟩
          case measure => simp [intOf]; omega
        · obtain rfl : k = Ls.length := by omega
          have HE : Hid (HeadsIn S w us R) := by have := HHd.out; rw [List.take_length, HR.out] at this; exact this
          clear hul
          go_wp2_with fail
          go_ret
          exact ⟨_, us, rfl, hown, HE.out, hB⟩
theorem concat_rows {S : Nat → Prop} (b o cap : Nat) (Ls : List (List (List Int))) (w : World) (hS : ∀ b, w.heap.size ≤ b → S b) (h : PartsAt S w b o Ls) (hb : b < w.heap.size) (hl : Ls.flatten.length ≤ 100000) (hn : Ls.length ≤ 1000) :
    Calls Tryz.prog 84 #[.slice (some ⟨b, o, none⟩) Ls.length cap] w fun e w' => ∃ v, e = .returned v ∧ RowsIn S w' v Ls.flatten ∧ Below w.heap.size w w' :=
  (concat_own b o cap Ls w h hb hl hn).mono fun _e _w' ⟨v, _us, h1, h2, h3, h4⟩ => ⟨v, h1, h3.rows h4 h2 hS, h4⟩

end Go.Proofs.YthmjdfjchhohgaaGreatDoor

namespace Go.Proofs.YthmjdfjchhohgaaGreatDoor

/-- The faces of a dimension. -/
def ofDim (all : List (List Int)) (dim : Int) : List (List Int) := all.filter (fun x => decide ((x.length : Int) - 1 = dim))
theorem ofDim_length (all : List (List Int)) (dim : Int) : (ofDim all dim).length ≤ all.length := List.length_filter_le _ _
theorem ofDim_succ {all : List (List Int)} {k : Nat} (hk : k < all.length) (dim : Int) : ofDim (all.take (k + 1)) dim = ofDim (all.take k) dim ++ (if ((all[k]?.getD []).length : Int) - 1 = dim then [all[k]?.getD []] else []) := by
  unfold ofDim
  rw [List.take_add_one, List.getElem?_eq_getElem hk, List.filter_append, Option.getD_some]
  congr 1
  by_cases h : (all[k].length : Int) - 1 = dim <;> simp [h]

end Go.Proofs.YthmjdfjchhohgaaGreatDoor

namespace Go.Proofs.YthmjdfjchhohgaaGreatDoor
open Go.RowKit Go.Sort

/-- The faces of each dimension, one behind the other. -/
def allSh (all : List (List Int)) : List (List Int) := ((List.range 7).map fun d : Nat => ofDim all (d : Int)).flatten
theorem allSh_perm {all : List (List Int)} (h : ∀ x ∈ all, 1 ≤ x.length ∧ x.length ≤ 7) : (allSh all).Perm all := by
  have key : ∀ (m : Nat), ((List.range m).map fun d : Nat => ofDim all (d : Int)).flatten.Perm (all.filter fun x => decide (x.length ≤ m)) := by
    intro m
    induction m with
    | zero =>
      have : all.filter (fun x => decide (x.length ≤ 0)) = [] := List.filter_eq_nil_iff.2 fun x hx hc => by
        have := h x hx
        have := of_decide_eq_true hc
        omega
      rw [this]; exact List.Perm.refl _
    | succ m ih =>
      rw [List.range_succ, List.map_append, List.flatten_append]
      simp only [List.map_cons, List.map_nil, List.flatten_cons, List.flatten_nil, List.append_nil]
      refine (List.Perm.append_right _ ih).trans ?_
      clear ih
      induction all with
      | nil => exact List.Perm.refl _
      | cons x l ih =>
        have ih := ih (fun y hy => h y (List.mem_cons_of_mem _ hy))
        have hx := h x List.mem_cons_self
        unfold ofDim at ih ⊢
        by_cases h1 : x.length ≤ m
        · have h2 : ¬ (x.length : Int) - 1 = (m : Int) := by omega
          rw [List.filter_cons_of_pos (by simpa using h1), List.filter_cons_of_neg (by simpa using h2), List.filter_cons_of_pos (by simp; omega)]
          exact ih.cons x
        · by_cases h2 : x.length = m + 1
          · have h3 : (x.length : Int) - 1 = (m : Int) := by omega
            rw [List.filter_cons_of_neg (by simpa using h1), List.filter_cons_of_pos (by simpa using h3), List.filter_cons_of_pos (by simp; omega)]
            exact List.perm_middle.trans (ih.cons x)
          · have h3 : ¬ (x.length : Int) - 1 = (m : Int) := by omega
            rw [List.filter_cons_of_neg (by simpa using h1), List.filter_cons_of_neg (by simpa using h3), List.filter_cons_of_neg (by simp; omega)]
            exact ih
  have h7 : all.filter (fun x => decide (x.length ≤ 7)) = all := List.filter_eq_self.2 fun x hx => decide_eq_true (h x hx).2
  have := key 7
  rwa [h7] at this

/-- A shape that is handed over. -/
def ShpIn (S : Nat → Prop) (w : World) (v : Value) (all : List (List Int)) : Prop := ∃ (a : Nat → Option Addr) (c : Nat → Nat),
  v = .agg #[.slice (a 0) (ofDim all 0).length (c 0), .slice (a 1) (ofDim all 1).length (c 1), .slice (a 2) (ofDim all 2).length (c 2), .slice (a 3) (ofDim all 3).length (c 3), .slice (a 4) (ofDim all 4).length (c 4), .slice (a 5) (ofDim all 5).length (c 5), .slice (a 6) (ofDim all 6).length (c 6)] ∧
  ∀ d : Nat, d < 7 → RowsIn S w (.slice (a d) (ofDim all (d : Int)).length (c d)) (ofDim all (d : Int))
theorem ShpIn.below {S : Nat → Prop} {w w' : World} {v : Value} {all : List (List Int)} (h : ShpIn S w v all) (hB : Below w.heap.size w w') : ShpIn S w' v all := by
  obtain ⟨a, c, h1, h2⟩ := h
  exact ⟨a, c, h1, fun d hd => (h2 d hd).below hB⟩

theorem ShpIn.mono {S S' : Nat → Prop} {w : World} {v : Value} {all : List (List Int)} (h : ShpIn S w v all) (hs : ∀ b, b < w.heap.size → S b → S' b) : ShpIn S' w v all := by
  obtain ⟨a, c, h1, h2⟩ := h
  exact ⟨a, c, h1, fun d hd => (h2 d hd).mono hs⟩

theorem owns_base {W : World} {base base' n size : Nat} {e : TypeId} {v : Value} {us : List Value} (h : W.ownsRow base e size v n us) (hb : base' ≤ base) : W.ownsRow base' e size v n us := by
  obtain ⟨h0, h⟩ := h
  rcases h with h | ⟨g, cap, cur, h1, h2, h3⟩
  · exact ⟨h0, .inl h⟩
  · exact ⟨h0, .inr ⟨g, cap, cur, h1, Nat.le_trans hb h2, h3⟩⟩
theorem HeadsIn.belowH {S : Nat → Prop} {w w' : World} {us : List Value} {xss : List (List Int)} (h : HeadsIn S w us xss) (hB : Below w.heap.size w w') : HeadsIn S w' us xss := ⟨h.1, fun k u x h1 h2 => (h.2 k u x h1 h2).below hB⟩
theorem owns_slice {W : World} {base n : Nat} {e : TypeId} {v : Value} {us : List Value} (h : W.ownsRow base e 1 v n us) : ∃ a c, v = .slice a n c := by
  obtain ⟨-, h⟩ := h
  rcases h with ⟨rfl, rfl⟩ | ⟨g, cap, cur, rfl, -⟩
  · exact ⟨_, _, rfl⟩
  · exact ⟨_, _, rfl⟩

set_option maxRecDepth 100000 in
set_option maxHeartbeats 1000000 in
theorem all_own {S : Nat → Prop} (vs : Value) (all : List (List Int)) (w : World) (h : ShpIn S w vs all) (hl : (allSh all).length ≤ 100000) :
    Calls Tryz.prog 57 #[vs] w fun e w' => ∃ v us, e = .returned v ∧ w'.ownsRow w.heap.size 23 1 v us.length us ∧ HeadsIn S w' us (allSh all) ∧ Below w.heap.size w w' := by
  obtain ⟨a, c, rfl, hr⟩ := h
  obtain ⟨w1, hw1⟩ : ∃ w1, w.alloc (.cells #[.slice (a 0) (ofDim all 0).length (c 0), .slice (a 1) (ofDim all 1).length (c 1), .slice (a 2) (ofDim all 2).length (c 2), .slice (a 3) (ofDim all 3).length (c 3), .slice (a 4) (ofDim all 4).length (c 4), .slice (a 5) (ofDim all 5).length (c 5), .slice (a 6) (ofDim all 6).length (c 6)] 63) = w1 := ⟨_, rfl⟩
  have hB : Below w.heap.size w w1 := by rw [← hw1]; exact (Below.refl _ w).alloc (Nat.le_refl _) _
  have hp : PartsAt S w1 w.heap.size 0 ((List.range 7).map fun d : Nat => ofDim all (d : Int)) := fun j hj => by
    have hj7 : j < 7 := by simpa using hj
    have he : ((List.range 7).map fun d : Nat => ofDim all (d : Int))[j]?.getD [] = ofDim all (j : Int) := by simp [hj7]
    rw [he]
    refine ⟨a j, c j, ?_, (hr j hj7).below hB⟩
    rw [← hw1]
    rcases (show j = 0 ∨ j = 1 ∨ j = 2 ∨ j = 3 ∨ j = 4 ∨ j = 5 ∨ j = 6 by omega) with rfl | rfl | rfl | rfl | rfl | rfl | rfl <;> simp
  have hc := concat_own w.heap.size 0 7 _ w1 hp (by rw [← hw1]; simp) hl (by simp)
  rw [show ((List.range 7).map fun d : Nat => ofDim all (d : Int)).length = 7 by simp] at hc
  have HB : Hid (Below w.heap.size w w1) := hB
  have HC : Hid (Calls Tryz.prog 84 #[.slice (some ⟨w.heap.size, 0, none⟩) 7 7] w1 fun e w' => ∃ v us, e = .returned v ∧ w'.ownsRow w1.heap.size 23 1 v us.length us ∧ HeadsIn S w1 us (allSh all) ∧ Below w1.heap.size w1 w') := hc
  clear hr hp hB hc hl
  go_enter Tryz.func57, Tryz.ntmps57
  go_wp2_with fail
  refine HC.out.mono ?_
  rintro e V ⟨v, us, rfl, ho, hs, hV⟩
  have HV : Hid (Below w.heap.size w V) := HB.out.trans (hV.mono HB.out.size)
  have HO : Hid (V.ownsRow w.heap.size 23 1 v us.length us) := owns_base ho HB.out.size
  have HS : Hid (HeadsIn S V us (allSh all)) := hs.belowH hV
  obtain ⟨av, cv, rfl⟩ := owns_slice ho
  clear hV hs hw1 ho
  go_wp2_with fail
  go_ret
  exact ⟨_, us, rfl, HO.out, HS.out, HV.out⟩
theorem all_of_shape {S : Nat → Prop} (vs : Value) (all : List (List Int)) (w : World) (hS : ∀ b, w.heap.size ≤ b → S b) (h : ShpIn S w vs all) (hl : (allSh all).length ≤ 100000) :
    Calls Tryz.prog 57 #[vs] w fun e w' => ∃ v, e = .returned v ∧ RowsIn S w' v (allSh all) ∧ Below w.heap.size w w' :=
  (all_own vs all w h hl).mono fun _e _w' ⟨v, _us, h1, h2, h3, h4⟩ => ⟨v, h1, h3.rows (Below.refl _ _) h2 hS, h4⟩

end Go.Proofs.YthmjdfjchhohgaaGreatDoor

namespace Go.Proofs.YthmjdfjchhohgaaGreatDoor
open Go.RowKit Go.Shelf Go.Sort Go.Maps Go.Deep

/-- What gather answers. -/
def GatherSays (a : Nat → Addr) (l : List (List Int)) (w : World) (e : Ending) (w' : World) : Prop :=
  Below w.heap.size w w' ∧ ((¬ (∀ x ∈ l, SetOk x) ∧ e = .returned (.tuple #[.map none, .iface 233 (.pointer (some (a 3)))])) ∨
    ((∀ x ∈ l, SetOk x) ∧ ∃ ts : List (List UInt8), ts.map ints = l.map srt ∧
      ((∃ b F G, e = .returned (.tuple #[.map (some b), .nilIface]) ∧ PileAt w' b F G ∧ Heaped ts F G) ∨ (Over ts ∧ e = .returned (.tuple #[.map none, .iface 233 (.pointer (some (a 1)))])))))
theorem GatherSays.bad {a : Nat → Addr} {l : List (List Int)} {w : World} {e : Ending} {w' : World} (hB : Below w.heap.size w w') {k : Nat} (hk : k < l.length) (h : ¬ SetOk (l[k]?.getD [])) (he : e = .returned (.tuple #[.map none, .iface 233 (.pointer (some (a 3)))])) : GatherSays a l w e w' :=
  ⟨hB, .inl ⟨fun ha => h (by rw [List.getElem?_eq_getElem hk, Option.getD_some]; exact ha _ (List.getElem_mem hk)), he⟩⟩
theorem GatherSays.rest {a : Nat → Addr} {l : List (List Int)} {w w1 : World} {e : Ending} {w' : World} {ts : List (List UInt8)} (hB : Below w.heap.size w w1) (hk : ∀ x ∈ l, SetOk x) (ht : ts.map ints = l.map srt) (h : HeapSays a ts w1 e w') : GatherSays a l w e w' :=
  ⟨hB.trans (h.1.mono hB.size), .inr ⟨hk, ts, ht, h.2⟩⟩

theorem faces_of (ts : List (List UInt8)) (h : ∀ t ∈ ts, 0 < t.length ∧ t.length ≤ 1000) : ∃ xs : List Fc, xs.map Subtype.val = ts := by
  induction ts with
  | nil => exact ⟨[], rfl⟩
  | cons t ts ih =>
    obtain ⟨xs, e⟩ := ih (fun u hu => h u (by simp [hu]))
    exact ⟨⟨t, h t (by simp)⟩ :: xs, by simp [e]⟩
theorem sizes_of {ts : List (List UInt8)} {l : List (List Int)} (ht : ts.map ints = l.map srt) (hk : ∀ x ∈ l, SetOk x) (hl : ∀ x ∈ l, x.length ≤ 1000) : ∀ t ∈ ts, 0 < t.length ∧ t.length ≤ 1000 := fun t hm => by
  have : ints t ∈ l.map srt := by rw [← ht]; exact List.mem_map.2 ⟨t, hm, rfl⟩
  obtain ⟨x, hx, e⟩ := List.mem_map.1 this
  have h1 : t.length = x.length := by rw [← ints_length, ← e, srt_length]
  have h2 := (hk x hx).1
  have := hl x hx
  have : 0 < x.length := List.length_pos_iff.2 h2
  omega
theorem ok_snoc {l : List (List Int)} {k : Nat} (hk : k < l.length) (h : ∀ x ∈ l.take k, SetOk x) (hx : SetOk (l[k]?.getD [])) : ∀ x ∈ l.take (k + 1), SetOk x := by
  rw [List.getElem?_eq_getElem hk, Option.getD_some] at hx
  rw [List.take_add_one, List.getElem?_eq_getElem hk]
  intro x hm
  rcases List.mem_append.1 hm with a | a
  · exact h x a
  · simp at a; subst a; exact hx
theorem srt_snoc {l : List (List Int)} {k : Nat} (hk : k < l.length) : (l.take (k + 1)).map srt = (l.take k).map srt ++ [srt (l[k]?.getD [])] := by
  rw [List.take_add_one, List.getElem?_eq_getElem hk, List.map_append, Option.getD_some]
  rfl

/-- slices.Values of texts that lie so, for heap. -/
theorem values_seq (W : World) (b cap : Nat) (xs : List Fc) (hz : xs.length ≤ 100000) (hb : b < W.heap.size) (hc : ∀ j (hj : j < xs.length), W.cell? ⟨b, 0 + j, none⟩ = some (encStr xs[j].1)) :
    SeqStopsK Fence.wide 9 Tryz.prog 117 #[.pointer (some ⟨W.heap.size, 0, none⟩)] (fun x : Fc => #[encStr x.1]) (Below (W.alloc (.cells #[.slice (some ⟨b, 0, none⟩) xs.length cap] 129)).heap.size) (fun ys => ys = xs) (fun pre => pre <+: xs) xs.length (W.alloc (.cells #[.slice (some ⟨b, 0, none⟩) xs.length cap] 129)) := by
  intro l J Jx W2 hW _ _ hY h0
  have hbn := box_new W (.slice (some ⟨b, 0, none⟩) xs.length cap) 129
  refine values_rounds Fence.wide 9 trivial rfl (by decide) l W.heap.size _ b 0 cap xs hz (by simp; omega) J Jx hY W2 ((hW.cell (p := ⟨W.heap.size, 0, none⟩) (by simp)).trans hbn.1) (fun j hj => ?_) h0
  rw [hW.cell (p := ⟨b, 0 + j, none⟩) (by simp; omega)]
  exact cell_kept (hc j hj) (World.grownBy_alloc W _ none) (fun r e => by cases e)

set_option maxRecDepth 100000 in
set_option maxHeartbeats 2000000 in
theorem gather_ {a : Nat → Addr} {s : Nat → ByteArray} (vl : Value) (l : List (List Int)) (w : World) (hE : Errs a s w) (hl : Rows w vl l) (hll : l.length ≤ 100000) (hle : ∀ x ∈ l, x.length ≤ 1000) :
    Calls Tryz.prog 65 #[vl] w fun e w' => GatherSays a l w e w' := by
  have HE : Hid (∀ x ∈ l, x.length ≤ 1000) := hle
  obtain ⟨a0, ca, rfl, -, ha⟩ := hl.open_
  obtain ⟨n, hn⟩ : ∃ n, l.length = n := ⟨_, rfl⟩
  have HN : Hid (l.length = n) := hn
  rw [hn] at hll ⊢
  rw [hn] at ha
  have hmk := run_make_row' (P := Tryz.prog) 129 9 (.string ⟨#[]⟩) 16 Tryz.underlying129 Tryz.info9 rfl .i64 .i64 n (by omega) (by omega)
  clear hle hn hl
  go_enter Tryz.func65, Tryz.ntmps65
  go_wp2
  go_loopw [14] (fun p wr => ∃ k : Nat, k ≤ n ∧ p = .int .i64 k ∧ (∀ x ∈ l.take k, SetOk x) ∧ (∃ ts : List (List UInt8), ts.length = k ∧ ts.map ints = (l.take k).map srt ∧ wr.rowIs w.heap.size 9 n (fun j => encStr (ts[j]?.getD []))) ∧ Below w.heap.size w wr)
    (fun p _ => n - (intOf p).toNat)
  case atStart => exact ⟨0, by omega, rfl, by simp, ⟨[], rfl, by simp, (World.rowIs_made _ _ _ _).congr (fun j _ => by simp [encStr])⟩, (Below.refl _ _).alloc (Nat.le_refl _) _⟩
  case round =>
    obtain ⟨k, hk, rfl, hok, ⟨ts, htl, hti, hrow⟩, hB⟩ := hrel
    have HOK : Hid (∀ x ∈ l.take k, SetOk x) := hok
    have HTL : Hid (ts.length = k) := htl
    have HTI : Hid (ts.map ints = (l.take k).map srt) := hti
    have HR : Hid (wr.rowIs w.heap.size 9 n (fun j => encStr (ts[j]?.getD []))) := hrow
    clear hok htl hti
    by_cases hlt : k < n
    · have hkl : k < l.length := by rw [HN.out]; exact hlt
      obtain ⟨b, o, rfl, -, hb, c⟩ := ha (by omega)
      obtain ⟨a1, p1, g1, i1⟩ := c k hlt
      have hlen : (l[k]?.getD []).length ≤ 1000 := HE.out _ (by rw [List.getElem?_eq_getElem hkl]; simp)
      obtain ⟨x, hxe⟩ : ∃ x, l[k]?.getD [] = x := ⟨_, rfl⟩
      rw [hxe] at g1 i1 hlen
      have HX : Hid (l[k]?.getD [] = x) := hxe
      have g2 : wr.cell? ⟨b, o + k, none⟩ = some (.slice a1 x.length p1) := (hB.cell (p := ⟨b, o + k, none⟩) hb).trans g1
      have hc := set_text _ x wr (i1.below hB) hlen
      clear c ha g1 i1 hxe hrow
      go_wp2_with fail
      refine hc.mono ?_
      rintro e w2 ⟨hB2, ⟨hso, t, ht, rfl⟩ | ⟨hno, rfl⟩⟩
      · have hrow2 : w2.rowIs w.heap.size 9 n (fun j => encStr (ts[j]?.getD [])) := HR.out.of_block (hB2.block _ HR.out.lt)
        have HR2 : Hid (w2.rowIs w.heap.size 9 n (fun j => encStr (ts[j]?.getD []))) := hrow2
        have hcell := hrow2.cell hlt
        have hfz := hrow2.frozen k
        have HSO : Hid (SetOk x) := hso
        have HTX : Hid (TextOf x t) := ht
        have hB3 : Below w.heap.size w w2 := hB.trans (hB2.mono hB.size)
        obtain ⟨st, hst⟩ : ∃ s : ByteArray, encStr t = .string s := ⟨_, rfl⟩
        rw [hst]
        have HST : Hid (encStr t = .string st) := hst
        clear hso ht hc hrow2 hst
        go_wp2
        go_roundw
        case rel =>
          refine ⟨k + 1, by omega, by go_num, ok_snoc hkl HOK.out (by rw [HX.out]; exact HSO.out), ⟨ts ++ [t], by simp [HTL.out], by rw [List.map_append, HTI.out, srt_snoc hkl, HX.out]; simp [text_srt HSO.out HTX.out], ?_⟩, hB3.setCell (p := ⟨w.heap.size, k, none⟩) (Nat.le_refl _) _⟩
          refine (HR2.out.set k _).congr (fun j _ => ?_)
          by_cases e : j = k
          · subst e
            rw [if_pos rfl, ← HST.out, List.getElem?_append_right (by rw [HTL.out]; exact Nat.le_refl _)]
            simp [HTL.out]
          · rw [if_neg e]
            by_cases e2 : j < k
            · rw [List.getElem?_append_left (by rw [HTL.out]; exact e2)]
            · rw [List.getElem?_eq_none (by rw [HTL.out]; omega), List.getElem?_eq_none (by simp [HTL.out]; omega)]
        case measure => simp [intOf]; omega
      · have hB3 : Below w.heap.size w w2 := hB.trans (hB2.mono hB.size)
        have hgl : w2.cell? ⟨4, 0, none⟩ = some (.iface 233 (.pointer (some (a 3)))) := (hE.below hB3).glob 3 (by decide)
        have HNO : Hid (¬ SetOk x) := hno
        clear hno hc
        go_wp2_with fail
        go_quiet (fail)
        go_wp2
        go_ret2
        exact .bad (hB3.trans ⟨rfl, rfl, rfl, Nat.le_refl _, fun _ _ => rfl⟩) hkl (by rw [HX.out]; exact HNO.out) rfl
    · obtain rfl : k = n := by omega
      have hok := HOK.out
      have hti := HTI.out
      have hln := HN.out
      rw [List.take_of_length_le (by omega)] at hok hti
      obtain ⟨xs, hxs⟩ := faces_of ts (sizes_of hti hok HE.out)
      have hxl : xs.length = k := by rw [← HTL.out, ← hxs]; simp
      have hseq := values_seq wr w.heap.size k xs (by omega) hrow.lt (fun j hj => by
        have h1 := hrow.cell (show j < k by omega)
        rw [Nat.zero_add, h1, ← hxs]
        simp [hj])
      have hEw := (hE.below hB).below ((Below.refl _ wr).alloc (Nat.le_refl _) (.cells #[.slice (some ⟨w.heap.size, 0, none⟩) xs.length k] 129))
      have hheap := heap_ 117 _ xs _ hEw (enters_of Tryz.func117 (by kernel_rfl) rfl) hseq
      have hval := (callsIn_wide (n := 10)).1 (values_made Fence.wide 10 trivial rfl (some ⟨w.heap.size, 0, none⟩) k k wr)
      rw [hxl] at hheap
      have HXS : Hid (xs.map Subtype.val = ts) := hxs
      have HFI : Hid (ts.map ints = l.map srt) := hti
      have HFO : Hid (∀ x ∈ l, SetOk x) := hok
      clear hok hti hln hxs hxl hseq hEw hrow ha
      go_wp2_with (go_at_call 98; refine hval.mono ?_; rintro e w2 ⟨rfl, rfl⟩)
      refine hheap.mono ?_
      have hBa : Below w.heap.size w (wr.alloc (.cells #[.slice (some ⟨w.heap.size, 0, none⟩) k k] 129)) := hB.alloc hB.size _
      rintro e w3 ⟨hB3, ⟨b, F, G, rfl, hP, hH⟩ | ⟨hov, rfl⟩⟩
      · clear hheap hval
        go_wp2
        go_ret2
        refine .rest hBa HFO.out HFI.out ⟨hB3, .inl ⟨b, F, G, rfl, hP, ?_⟩⟩
        rw [← HXS.out]; exact hH
      · clear hheap hval
        go_wp2
        go_ret2
        refine .rest hBa HFO.out HFI.out ⟨hB3, .inr ⟨?_, rfl⟩⟩
        rw [← HXS.out]; exact hov

end Go.Proofs.YthmjdfjchhohgaaGreatDoor
