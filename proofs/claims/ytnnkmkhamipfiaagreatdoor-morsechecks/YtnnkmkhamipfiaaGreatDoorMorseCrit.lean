/- Partners: a row of one's own that is written in place; pairs that go away, pass by pass. The free pairs, as a list; what the program says of two types. critical: the faces of a dimension that are in no pair. -/
import Derived.Test.YtnnkmkhamipfiaaGreatDoorMorseUnder
import Derived.Test.YtnnkmkhamipfiaaGreatDoorMorseFieldOf
import Derived.Test.YtnnkmkhamipfiaaGreatDoorAppendTypes
import Derived.Test.YtnnkmkhamipfiaaGreatDoorMorseJoin
namespace Go.Proofs.YtnnkmkhamipfiaaGreatDoor
open Go.RowKit Go.Sort

/-- A row of one's own: numbers by their places. -/
def WithAt (base : Nat) (W : World) (v : Value) (n : Nat) (mt : Nat → Int) : Prop := W.ownsRow base 3 1 v n ((List.range n).map fun i => .int .i64 (mt i))
theorem WithAt.below {base : Nat} {W W' : World} {v : Value} {n : Nat} {mt : Nat → Int} (h : WithAt base W v n mt) (hB : Below W.heap.size W W') : WithAt base W' v n mt := World.ownsRow.kept h (Below.grownBy hB) (by cases v.ownBlock <;> simp)
theorem WithAt.nil {base : Nat} {W : World} {mt : Nat → Int} : WithAt base W (.slice none 0 0) 0 mt := World.ownsRow_nil _ _ _ _
theorem WithAt.open_ {base : Nat} {W : World} {v : Value} {n : Nat} {mt : Nat → Int} (h : WithAt base W v n mt) (hn : 0 < n) : ∃ g cap, v = .slice (some ⟨g, 0, none⟩) n cap ∧ base ≤ g ∧ g < W.heap.size ∧ (∀ i, i < n → W.cell? ⟨g, i, none⟩ = some (.int .i64 (mt i))) ∧ (∀ i, W.frozen? ⟨g, i, none⟩ = false) ∧
    ∀ i x, i < n → WithAt base (W.setCell ⟨g, i, none⟩ (.int .i64 x)) v n (fun k => if k = i then x else mt k) := by
  obtain ⟨hl, ⟨rfl, h0⟩ | ⟨g, cap, cur, rfl, hb, hg, hnc, hcm, hcs, ht⟩⟩ := h
  · omega
  rw [Nat.mul_one] at ht hcs hl
  have hcur : ∀ i, i < n → cur[i]? = some (.int .i64 (mt i)) := fun i hi => by
    have h1 : (cur.toList.take n)[i]? = some (.int .i64 (mt i)) := by rw [ht, List.getElem?_map, List.getElem?_range hi]; rfl
    rw [List.getElem?_take, if_pos hi, Array.getElem?_toList] at h1
    exact h1
  refine ⟨g, cap, rfl, hb, (Array.getElem?_eq_some_iff.1 hg).1, fun i hi => by simp [World.cell?, hg, hcur i hi], fun i => by simp [World.frozen?, hg], fun i x hi => ?_⟩
  have h2 := heap_setCell_same W g i cur 3 (.int .i64 x) hg
  refine ⟨by simp, .inr ⟨g, cap, _, rfl, hb, h2, hnc, hcm, by rw [Nat.mul_one]; simp [hcs], ?_⟩⟩
  rw [Nat.mul_one]
  refine List.ext_getElem? fun k => ?_
  rw [List.getElem?_take, List.getElem?_map]
  by_cases hk : k < n
  · rw [if_pos hk, List.getElem?_range hk, Array.getElem?_toList, Array.getElem?_setIfInBounds]
    by_cases e : i = k
    · subst e
      rw [if_pos rfl, if_pos (by omega)]; simp
    · rw [if_neg e, hcur k hk]; simp [Ne.symm e]
  · rw [if_neg hk, List.getElem?_eq_none (by simp; omega)]; rfl
theorem WithAt.ints {base : Nat} {W : World} {v : Value} {n : Nat} {mt : Nat → Int} (h : WithAt base W v n mt) : IntsIn (fun b => base ≤ b) W v ((List.range n).map mt) := by
  have h1 : SliceIn (fun b => base ≤ b) W v _ := slice_of_owns h (fun b hb _ => hb)
  unfold IntsIn
  rw [List.map_map]
  exact h1

/-! Pairs that go away. -/
/-- A pass: how far, and whether something went away in it. -/
structure PassAt (E : Nat → Nat → Prop) (m c0 i : Nat) (gone : Nat → Bool) (again : Bool) : Prop where
  down : GoneDown E gone m
  more : again = true → c0 < goneN gone m
  same : again = false → c0 = goneN gone m ∧ ∀ x, x < i → gone x = false → ∃ k, k < m ∧ gone k = false ∧ E x k
theorem pass_begin {E : Nat → Nat → Prop} {m : Nat} {gone : Nat → Bool} (h : GoneDown E gone m) : PassAt E m (goneN gone m) 0 gone false := ⟨h, (fun e => by cases e), fun _ => ⟨rfl, fun x hx => by omega⟩⟩
theorem pass_gone {E : Nat → Nat → Prop} {m c0 i : Nat} {gone : Nat → Bool} {again : Bool} (h : PassAt E m c0 i gone again) (hg : gone i = true) : PassAt E m c0 (i + 1) gone again :=
  ⟨h.down, h.more, fun e => ⟨(h.same e).1, fun x hx hx2 => by
    rcases Nat.lt_or_ge x i with h1 | h1
    · exact (h.same e).2 x h1 hx2
    · obtain rfl : x = i := by omega
      rw [hg] at hx2; cases hx2⟩⟩
theorem pass_on {E : Nat → Nat → Prop} {m c0 i : Nat} {gone : Nat → Bool} {again : Bool} (h : PassAt E m c0 i gone again) (hk : ∃ k, k < m ∧ gone k = false ∧ E i k) : PassAt E m c0 (i + 1) gone again :=
  ⟨h.down, h.more, fun e => ⟨(h.same e).1, fun x hx hx2 => by
    rcases Nat.lt_or_ge x i with h1 | h1
    · exact (h.same e).2 x h1 hx2
    · obtain rfl : x = i := by omega
      exact hk⟩⟩
theorem pass_put {E : Nat → Nat → Prop} {m c0 i : Nat} {gone : Nat → Bool} {again : Bool} (h : PassAt E m c0 i gone again) (hi : i < m) (hg : gone i = false) (hs : ¬ E i i) (hk : ∀ k, k < m → gone k = false → ¬ E i k) : PassAt E m c0 (i + 1) (fun k => if k = i then true else gone k) true := by
  have hc := goneN_put hg m
  rw [if_pos hi] at hc
  refine ⟨gone_put h.down hi hg (fun k hE hkm => ?_) hs, fun _ => ?_, fun e => by cases e⟩
  · cases hgk : gone k with
    | true => rfl
    | false => exact absurd hE (hk k hkm hgk)
  · rw [hc]
    cases again with
    | true => have := h.more rfl; omega
    | false => have := (h.same rfl).1; omega
theorem pass_end {E : Nat → Nat → Prop} {m c0 : Nat} {gone : Nat → Bool} (h : PassAt E m c0 m gone false) (hE : ∀ i k, E i k → i < m ∧ k < m) : (goneN gone m < m ∧ ∀ N, ¬ RankedN E N) ∨ (goneN gone m = m ∧ RankedN E (m + 1)) := by
  rcases Nat.lt_or_ge (goneN gone m) m with h1 | h1
  · exact .inl ⟨h1, fun N => gone_not h1 (h.same rfl).2⟩
  · have h2 : goneN gone m = m := Nat.le_antisymm (goneN_le _ _) h1
    exact .inr ⟨h2, gone_all h.down h2 hE⟩
theorem on_self (u : Nat → Nat → Bool) (ps : List Duo) (i : Nat) : ¬ OnP u ps i i := fun h => h.1 rfl

end Go.Proofs.YtnnkmkhamipfiaaGreatDoor

namespace Go.Proofs.YtnnkmkhamipfiaaGreatDoor
open Go.RowKit Go.Sort

theorem Tryz.infob : (Tryz.prog.info? 4).map (fun i => (i.zero, i.size, i.bytes)) = some (some (.bool false), 1, 1) := by kernel_rfl
theorem Tryz.infop : (Tryz.prog.info? 69).map (fun i => (i.zero, i.size, i.bytes)) = some (some (.agg #[.int .i64 0, .int .i64 0]), 2, 16) := by kernel_rfl

/-- The free pairs. -/
def freeP (L : List (List Int)) (left : Nat → Bool) (i : Nat) : List Duo := match grL L left i with
  | [k] => [((i : Int), (k : Int))]
  | _ => []
def freeTo (L : List (List Int)) (left : Nat → Bool) (k : Nat) : List Duo := (List.range k).flatMap (freeP L left)
theorem freeTo_succ (L : List (List Int)) (left : Nat → Bool) (k : Nat) : freeTo L left (k + 1) = freeTo L left k ++ freeP L left k := by simp [freeTo, List.range_succ]
theorem freeP_one {L : List (List Int)} {left : Nat → Bool} {i k : Nat} (h : grL L left i = [k]) : freeP L left i = [((i : Int), (k : Int))] := by unfold freeP; rw [h]
theorem freeP_no {L : List (List Int)} {left : Nat → Bool} {i : Nat} (h : (grL L left i).length ≠ 1) : freeP L left i = [] := by
  unfold freeP
  split
  · rename_i e; rw [e] at h; simp at h
  · rfl
theorem freeP_len (L : List (List Int)) (left : Nat → Bool) (i : Nat) : (freeP L left i).length ≤ 1 := by unfold freeP; split <;> simp
theorem freeTo_len (L : List (List Int)) (left : Nat → Bool) (k : Nat) : (freeTo L left k).length ≤ k := by
  induction k with
  | zero => simp [freeTo]
  | succ k ih => rw [freeTo_succ, List.length_append]; have := freeP_len L left k; omega

end Go.Proofs.YtnnkmkhamipfiaaGreatDoor

namespace Go.Proofs.YtnnkmkhamipfiaaGreatDoor
open Go.RowKit Go.Sort

theorem own_lower {W : World} {base base' size n : Nat} {t : TypeId} {v : Value} {xs : List Value} (h : W.ownsRow base t size v n xs) (hb : base' ≤ base) : W.ownsRow base' t size v n xs :=
  ⟨h.1, h.2.imp id fun ⟨g, cap, cur, e, h1, h2⟩ => ⟨g, cap, cur, e, Nat.le_trans hb h1, h2⟩⟩

/-- Which are critical, of those ahead of a number. -/
def critB (L : List (List Int)) (mt : Nat → Int) (d : Int) (f : Nat) : Bool := decide (((faceAt L f).length : Int) - 1 = d) && decide (mt f = -1)
def critTo (L : List (List Int)) (mt : Nat → Int) (d : Int) (k : Nat) : List Int := ((List.range k).filter (critB L mt d)).map fun (f : Nat) => (f : Int)
theorem critTo_yes {L : List (List Int)} {mt : Nat → Int} {d : Int} {k : Nat} (h : critB L mt d k = true) : critTo L mt d (k + 1) = critTo L mt d k ++ [(k : Int)] := by unfold critTo; rw [List.range_succ, List.filter_append]; simp [h]
theorem critTo_no {L : List (List Int)} {mt : Nat → Int} {d : Int} {k : Nat} (h : critB L mt d k = false) : critTo L mt d (k + 1) = critTo L mt d k := by unfold critTo; rw [List.range_succ, List.filter_append]; simp [h]
theorem critTo_len (L : List (List Int)) (mt : Nat → Int) (d : Int) (k : Nat) : (critTo L mt d k).length ≤ k := by
  unfold critTo
  rw [List.length_map]
  refine Nat.le_trans (List.length_filter_le _ _) ?_
  rw [List.length_range]; exact Nat.le_refl _

set_option maxRecDepth 100000 in
set_option maxHeartbeats 4000000 in
theorem critical_dim {S : Nat → Prop} {L : List (List Int)} {mt : Nat → Int} {ad aS ao : Option Addr} {cd cs co gm : Nat} (d : Int) (w : World) (hd : IntsIn S w (.slice ad L.length cd) (L.map fun x => (x.length : Int) - 1)) (hr : w.rowIs gm 3 L.length (fun i => .int .i64 (mt i))) (hL6 : L.length ≤ 600) :
    Calls Tryz.prog 39 #[fieldV L.length ad aS ao cd cs co gm, .int .i64 d] w fun e w' => ∃ v, e = .returned v ∧ w'.ownsRow w.heap.size 3 1 v (critTo L mt d L.length).length ((critTo L mt d L.length).map (Value.int .i64)) ∧ Below w.heap.size w w' := by
  obtain ⟨i0, hi0, hz0, hz1, hz2⟩ := info_parts Tryz.info3
  have HCR : Hid (∀ (f : Nat) (W : World), W.rowIs gm 3 L.length (fun i => .int .i64 (mt i)) → f < L.length → Calls Tryz.prog 38 #[fieldV L.length ad aS ao cd cs co gm, .int .i64 (f : Int)] W fun e w' => e = .returned (.bool (decide (mt f = -1))) ∧ Below W.heap.size W w') := fun f W h1 h2 => critical_ f L.length mt gm ad aS ao cd cs co W h1 h2 hL6
  have HR := Hid.mk' hr
  have HD := Hid.mk' hd
  obtain ⟨n, hn⟩ : ∃ n, L.length = n := ⟨_, rfl⟩
  have HNN : Hid (L.length = n) := hn
  have hce := field_cells w (.slice ad n cd) (.slice aS n cs) (.slice ao n co) (.slice (some ⟨gm, 0, none⟩) n n) 81
  have hBa : Below w.heap.size w (w.alloc (.cells #[.slice ad n cd, .slice aS n cs, .slice ao n co, .slice (some ⟨gm, 0, none⟩) n n] 81)) := (Below.refl _ w).alloc (Nat.le_refl _) _
  unfold fieldV at HCR ⊢
  rw [hn] at HCR hL6 ⊢
  have c0 := hce 0 _ rfl
  have c1 := hce 1 _ rfl
  have c2 := hce 2 _ rfl
  have c3 := hce 3 _ rfl
  clear hr hd hn hce
  go_enter Tryz.func39, Tryz.ntmps39
  go_wp2_with fail
  obtain ⟨X, hX⟩ : ∃ X, w.alloc (.cells #[.slice ad n cd, .slice aS n cs, .slice ao n co, .slice (some ⟨gm, 0, none⟩) n n] 81) = X := ⟨_, rfl⟩
  obtain ⟨xb, hxb⟩ : ∃ xb, w.heap.size = xb := ⟨_, rfl⟩
  have hxl : X.heap.size = xb + 1 := by rw [← hX, ← hxb]; simp
  rw [hX, hxb] at c0 c1 c2 c3
  rw [hX, hxb] at hBa
  try rw [hX]
  try rw [hxb]
  have HXB : Hid (w.heap.size = xb ∧ X.heap.size = xb + 1 ∧ Below xb w X) := ⟨hxb, hxl, hBa⟩
  clear hX hxb hBa hxl
  go_loopw [5, 10] (fun v p W => ∃ k : Nat, k ≤ n ∧ p = .int .i64 k ∧ Hid (W.ownsRow (xb + 1) 3 1 v (critTo L mt d k).length ((critTo L mt d k).map (Value.int .i64)) ∧ Below (xb + 1) X W)) (fun _ p _ => n - (intOf p).toNat)
  case atStart => exact ⟨0, by omega, rfl, World.ownsRow_nil _ _ _ _, (by have := Below.refl (xb + 1) X; exact this)⟩
  case round =>
    obtain ⟨k, hk, rfl, HK⟩ := hrel
    obtain ⟨av, cv, rfl⟩ := own_slice HK.out.1
    by_cases hkn : k < n
    · have hxs : xb < X.heap.size := by have := HXB.out.2.1; omega
      have b0 := (HK.out.2.cell (p := ⟨xb, 0, none⟩) (by simp)).trans c0
      have b1 := (HK.out.2.cell (p := ⟨xb, 1, none⟩) (by simp)).trans c1
      have b2 := (HK.out.2.cell (p := ⟨xb, 2, none⟩) (by simp)).trans c2
      have b3 := (HK.out.2.cell (p := ⟨xb, 3, none⟩) (by simp)).trans c3
      have HBW : Hid (Below xb w wr) := HXB.out.2.2.trans (HK.out.2.mono (by omega))
      obtain ⟨ad', cd', e, -, hc⟩ := HD.out.open_
      rw [List.length_map, HNN.out] at e hc
      cases e
      obtain ⟨bd, od, rfl, -, hbd, hcell⟩ := hc (by omega)
      have hdk := (HBW.out.cell (p := ⟨bd, od + k, none⟩) (by rw [← HXB.out.1]; exact hbd)).trans (hcell k hkn)
      have hkL : k < L.length := by rw [HNN.out]; exact hkn
      have hlen : (L.map fun x => (x.length : Int) - 1)[k]?.getD 0 = ((faceAt L k).length : Int) - 1 := by rw [List.getElem?_map, List.getElem?_eq_getElem hkL]; unfold faceAt; rw [List.getElem?_eq_getElem hkL]; rfl
      rw [hlen] at hdk
      obtain ⟨x, hx⟩ : ∃ x : Int, ((faceAt L k).length : Int) - 1 = x := ⟨_, rfl⟩
      rw [hx] at hdk
      have hcr := HCR.out k wr (by rw [← HNN.out]; exact HR.out.of_block (HBW.out.block gm (by rw [← HXB.out.1]; exact HR.out.lt))) hkn
      have hsz := HK.out.2.size
      have hXs := HXB.out.2.1
      have own := HK.out.1
      have z0 : (0 : Int) ≤ (k : Int) := by omega
      have z1 : (k : Int) < (n : Int) := by omega
      have hcl : (critTo L mt d k).length ≤ 1000 := by have := critTo_len L mt d k; omega
      obtain ⟨cl, hcl2⟩ : ∃ cl, (critTo L mt d k).length = cl := ⟨_, rfl⟩
      have HCL : Hid ((critTo L mt d k).length = cl) := hcl2
      rw [hcl2] at own hcl ⊢
      clear hc hcell hlen hcl2
      by_cases e1 : x = d
      · subst e1
        by_cases e2 : mt k = -1
        · rw [decide_eq_true e2] at hcr
          have HY : Hid (critTo L mt x (k + 1) = critTo L mt x k ++ [(k : Int)]) := critTo_yes (by unfold critB; rw [hx, decide_eq_true rfl, decide_eq_true e2]; rfl)
          clear hx e2
          go_wp2_with (first
            | (go_at_call 38; refine hcr.mono ?_; clear hcr; rintro e V ⟨rfl, hV⟩; have HV : Hid (Below wr.heap.size wr V) := hV; have ownV := own.kept (Below.grownBy hV) (by cases (Value.slice av cl cv).ownBlock <;> simp); have hszV := hV.size; clear hV)
            | (at_builtin; refine wpList_append_slice rfl (.tmp 26) (.tmp 28) 29 rfl (xb + 1) 3 i0 (.int .i64 0) 8 Tryz.underlying29 hi0 hz0 hz1 hz2 rfl _ _ _ rfl (ownV.alloc _) _ [.int .i64 (k : Int)] rfl (slice_one _ _ _) (by simp [Value.oneCell']) (by simp; omega) (by unfold maxLen; simp; omega) (by simp; omega) ?_; intro v4 w4 hown4 hg4 hl4)
            | fail)
          go_roundw
          case rel =>
            refine ⟨k + 1, by omega, by go_num, ?_, ?_⟩
            · rw [HY.out, List.map_append, List.length_append, HCL.out]; exact hown4
            · exact ((HK.out.2.trans (HV.out.mono (by omega))).alloc (by omega) _).grown hg4 (by simp; omega) (fun b hb => (ownV.lt b hb).1)
          case measure => simp [intOf]; omega
        · rw [decide_eq_false e2] at hcr
          have HNO : Hid (critTo L mt x (k + 1) = critTo L mt x k) := critTo_no (by unfold critB; rw [decide_eq_false e2, Bool.and_false])
          clear hx e2
          go_wp2_with (first
            | (go_at_call 38; refine hcr.mono ?_; clear hcr; rintro e V ⟨rfl, hV⟩; have HV : Hid (Below wr.heap.size wr V) := hV; have ownV := own.kept (Below.grownBy hV) (by cases (Value.slice av cl cv).ownBlock <;> simp); have hszV := hV.size; clear hV)
            | fail)
          go_roundw
          case rel => exact ⟨k + 1, by omega, by go_num, by rw [HNO.out, HCL.out]; exact ownV, HK.out.2.trans (HV.out.mono (by omega))⟩
          case measure => simp [intOf]; omega
      · have HNO : Hid (critTo L mt d (k + 1) = critTo L mt d k) := critTo_no (by unfold critB; rw [hx, decide_eq_false e1, Bool.false_and])
        have hb : (x == d) = false := beq_false_of_ne e1
        clear hx hcr
        go_wp2_with fail
        go_roundw
        case rel => exact ⟨k + 1, by omega, by go_num, by rw [HNO.out, HCL.out]; exact own, HK.out.2⟩
        case measure => simp [intOf]; omega
    · obtain rfl : k = n := by omega
      go_wp2_with fail
      go_ret
      try rw [HNN.out]
      try rw [HXB.out.1]
      exact ⟨_, rfl, own_lower HK.out.1 (by omega), HXB.out.2.2.trans (HK.out.2.mono (by omega))⟩

end Go.Proofs.YtnnkmkhamipfiaaGreatDoor
