/- What the reference's OfDim answers: the faces of a dimension. What the reference's TopOf answers. What the reference's AllLeft, FreePairs and Numbered answer. -/
import Derived.Test.YthdmfeidcldafaaGreatDoorFacetsOf
import Derived.Test.YthdmfeidcldafaaGreatDoorDimDef
import Derived.Test.YthdmfeidcldafaaGreatDoorParts
import Derived.Test.YthdmfeidcldafaaGreatDoorMorseRef
import Derived.Test.YthdmfeidcldafaaGreatDoorAppendTypes
namespace Go.Proofs.YthdmfeidcldafaaGreatDoor
open Go.RowKit Go.Sort

set_option maxRecDepth 100000 in
set_option maxHeartbeats 1000000 in
theorem of_dim (va : Value) (all : List (List Int)) (dim : Int) (w : World) (ha : Rows w va all) (hl : all.length ≤ 1000) (hx : ∀ x ∈ all, x.length ≤ 1000) :
    Calls Tryz.prog 32 #[va, .int .i64 dim] w fun e w' => ∃ v, e = .returned v ∧ Rows w' v (ofDim all dim) ∧ Below w.heap.size w w' := by
  obtain ⟨i0, hi, hz0, hz1, hz2⟩ := info_parts Tryz.info51
  obtain ⟨a, ca, rfl, -, hc⟩ := ha.open_
  have HX : Hid (∀ x ∈ all, x.length ≤ 1000) := hx
  clear hx ha
  go_enter Tryz.func32, Tryz.ntmps32
  go_wp2
  go_loopw [5, 6] (fun v p wr => ∃ (k : Nat) (us : List Value), k ≤ all.length ∧ p = .int .i64 k ∧ wr.ownsRow w.heap.size 51 1 v us.length us ∧ Heads w us (ofDim (all.take k) dim) ∧ Below w.heap.size w wr)
    (fun _ p _ => all.length - (intOf p).toNat)
  case atStart => exact ⟨0, [], by omega, rfl, World.ownsRow_nil _ _ _ _, ⟨by simp [ofDim], fun k u x h => by simp at h⟩, Below.refl _ _⟩
  case round =>
    obtain ⟨k, us, hk, rfl, hown, hh, hB⟩ := hrel
    have HH : Hid (Heads w us (ofDim (all.take k) dim)) := hh
    have hul : us.length ≤ 1000 := by have := hh.1; have := ofDim_length (all.take k) dim; simp at this; omega
    clear hh
    by_cases hlt : k < all.length
    · obtain ⟨b, o, rfl, -, hb, c⟩ := hc (by omega)
      obtain ⟨a1, p1, g1, i1⟩ := c k hlt
      have hlen : (all[k]?.getD []).length ≤ 1000 := HX.out _ (by rw [List.getElem?_eq_getElem hlt]; simp)
      obtain ⟨x, hxe⟩ : ∃ x, all[k]?.getD [] = x := ⟨_, rfl⟩
      rw [hxe] at g1 i1 hlen
      have g2 : wr.cell? ⟨b, o + k, none⟩ = some (.slice a1 x.length p1) := (hB.cell (p := ⟨b, o + k, none⟩) hb).trans g1
      have HI1 : Hid (Ints w (.slice a1 x.length p1) x) := i1
      have HF : Hid (ofDim (all.take (k + 1)) dim = ofDim (all.take k) dim ++ (if (x.length : Int) - 1 = dim then [x] else [])) := by
        show ofDim (all.take (k + 1)) dim = _
        rw [ofDim_succ hlt, hxe]
      have hbs := hB.size
      clear hxe i1 g1 hc c
      by_cases hd : (x.length : Int) - 1 = dim
      · have hdb : ((x.length : Int) - 1 == dim) = true := beq_iff_eq.2 hd
        have HD : Hid ((x.length : Int) - 1 = dim) := hd
        clear hd
        go_wp2_with (first
          | (at_builtin; refine wpList_append_slice rfl (.tmp 21) (.tmp 26) 22 rfl w.heap.size 51 i0 (.slice none 0 0) 24 Tryz.underlying22 hi hz0 hz1 hz2 rfl _ _ _ rfl (hown.alloc _) _ [.slice a1 x.length p1] rfl (slice_one _ _ _) (by simp [Value.oneCell']) (by simp; omega) (by unfold maxLen; simp; omega) (by simp; omega) ?_; intro v3 w4 hown3 hg3 hl3)
          | go_in)
        (try go_frame)
        go_roundw
        case rel => exact ⟨k + 1, us ++ [.slice a1 x.length p1], by omega, by go_num, by simpa using hown3, by rw [HF.out, if_pos HD.out]; exact HH.out.snoc HI1.out, (hB.alloc hbs _).grown hg3 (by simp; omega) (fun j hj => (hown.lt j hj).1)⟩
        case measure => simp [intOf]; omega
      · have hdb : ((x.length : Int) - 1 == dim) = false := beq_false_of_ne hd
        have HD : Hid (¬ (x.length : Int) - 1 = dim) := hd
        clear hd
        go_wp2
        go_roundw
        case rel => exact ⟨k + 1, us, by omega, by go_num, hown, by rw [HF.out, if_neg HD.out, List.append_nil]; exact HH.out, hB⟩
        case measure => simp [intOf]; omega
    · obtain rfl : k = all.length := by omega
      clear hc
      go_wp2
      go_ret
      have hh := HH.out
      rw [List.take_length] at hh
      exact ⟨_, rfl, hh.rows hB hown, hB⟩

end Go.Proofs.YthdmfeidcldafaaGreatDoor

namespace Go.Proofs.YthdmfeidcldafaaGreatDoor
open Go.RowKit Go.Sort

theorem top_take {all : List (List Int)} {k : Nat} (hk : k < all.length) : topN (all.take (k + 1)) = max (topN (all.take k)) (all[k]?.getD []).length := by
  rw [List.take_add_one, List.getElem?_eq_getElem hk, Option.getD_some]
  exact topN_snoc _ _
set_option maxRecDepth 100000 in
theorem top_of (va : Value) (all : List (List Int)) (w : World) (ha : Rows w va all) (hl : all.length ≤ 1000) (hx : ∀ x ∈ all, x.length ≤ 1000) :
    Calls Tryz.prog 31 #[va] w fun e w' => e = .returned (.int .i64 ((topN all : Int) - 1)) ∧ w' = w := by
  obtain ⟨a, ca, rfl, -, hc⟩ := ha.open_
  have HX : Hid (∀ x ∈ all, x.length ≤ 1000) := hx
  have HT : Hid (∀ k, topN (all.take k) ≤ 1000) := fun k => topN_upto (fun x h => hx x (List.mem_of_mem_take h))
  clear hx ha
  go_enter Tryz.func31, Tryz.ntmps31
  go_wp2
  go_loopw [3, 4] (fun v p wr => ∃ k t : Nat, k ≤ all.length ∧ p = .int .i64 k ∧ v = .int .i64 ((t : Int) - 1) ∧ t = topN (all.take k) ∧ wr = w)
    (fun _ p _ => all.length - (intOf p).toNat)
  case atStart => exact ⟨0, 0, by omega, rfl, rfl, rfl, rfl⟩
  case round =>
    obtain ⟨k, t, hk, rfl, rfl, ht, rfl⟩ := hrel
    have ht1 : t ≤ 1000 := by rw [ht]; exact HT.out k
    have HTK : Hid (t = topN (all.take k)) := ht
    clear ht
    by_cases hlt : k < all.length
    · obtain ⟨b, o, rfl, -, hb, c⟩ := hc (by omega)
      obtain ⟨a1, p1, g1, i1⟩ := c k hlt
      have hlen : (all[k]?.getD []).length ≤ 1000 := HX.out _ (by rw [List.getElem?_eq_getElem hlt]; simp)
      obtain ⟨x, hxe⟩ : ∃ x, all[k]?.getD [] = x := ⟨_, rfl⟩
      rw [hxe] at g1 i1 hlen
      have HS : Hid (topN (all.take (k + 1)) = max t x.length) := by
        show topN (all.take (k + 1)) = max t x.length
        rw [top_take hlt, hxe, HTK.out]
      clear hxe i1 hc c
      by_cases hd : t < x.length
      · have hdb : decide ((t : Int) - 1 < (x.length : Int) - 1) = true := decide_eq_true (by omega)
        go_wp2
        go_roundw
        case rel => exact ⟨k + 1, x.length, by omega, by go_num, rfl, by rw [HS.out]; omega, (by first | trivial | rfl)⟩
        case measure => simp [intOf]; omega
      · have hdb : decide ((t : Int) - 1 < (x.length : Int) - 1) = false := decide_eq_false (by omega)
        go_wp2
        go_roundw
        case rel => exact ⟨k + 1, t, by omega, by go_num, rfl, by rw [HS.out]; omega, (by first | trivial | rfl)⟩
        case measure => simp [intOf]; omega
    · obtain rfl : k = all.length := by omega
      clear hc
      go_wp2
      go_ret
      have e := HTK.out
      rw [List.take_length] at e
      exact ⟨by rw [← e]; rfl, rfl⟩

end Go.Proofs.YthdmfeidcldafaaGreatDoor

namespace Go.Proofs.YthdmfeidcldafaaGreatDoor
open Go.RowKit Go.Sort

theorem Tryz.infob : (Tryz.prog.info? 4).map (fun i => (i.zero, i.size, i.bytes)) = some (some (.bool false), 1, 1) := by kernel_rfl
theorem Tryz.infop : (Tryz.prog.info? 52).map (fun i => (i.zero, i.size, i.bytes)) = some (some (.agg #[.int .i64 0, .int .i64 0]), 2, 16) := by kernel_rfl

set_option maxRecDepth 100000 in
set_option maxHeartbeats 1000000 in
theorem all_left (n : Nat) (hn : n ≤ 1000) (w : World) :
    Calls Tryz.prog 16 #[.int .i64 (n : Int)] w fun e w' => ∃ v, e = .returned v ∧ w'.ownsRow w.heap.size 4 1 v n (List.replicate n (.bool true)) ∧ Below w.heap.size w w' := by
  obtain ⟨i0, hi0, hz0, hz1, hz2⟩ := info_parts Tryz.infob
  go_enter Tryz.func16, Tryz.ntmps16
  go_wp2_with fail
  go_loopw [3, 4] (fun v p W => ∃ k : Nat, k ≤ n ∧ p = .int .i64 k ∧ Hid (W.ownsRow w.heap.size 4 1 v k (List.replicate k (.bool true)) ∧ Below w.heap.size w W)) (fun _ p _ => n - (intOf p).toNat)
  case atStart => exact ⟨0, by omega, rfl, World.ownsRow_nil _ _ _ _, Below.refl _ _⟩
  case round =>
    obtain ⟨k, hk, rfl, HK⟩ := hrel
    obtain ⟨av, cv, rfl⟩ := own_slice HK.out.1
    by_cases hkn : k < n
    · have own := HK.out.1
      have hsz := HK.out.2.size
      go_wp2_with (first
        | (at_builtin; refine wpList_append_slice rfl (.tmp 10) (.tmp 11) 43 rfl w.heap.size 4 i0 (.bool false) 1 Tryz.underlying43 hi0 hz0 hz1 hz2 rfl _ _ _ rfl (own.alloc _) _ [.bool true] rfl (slice_one _ _ _) (by simp [Value.oneCell']) (by simp; omega) (by unfold maxLen; simp; omega) (by simp; omega) ?_; intro v4 w4 hown4 hg4 hl4)
        | fail)
      go_roundw
      case rel =>
        refine ⟨k + 1, by omega, by go_num, ?_, ?_⟩
        · rw [List.replicate_succ']; exact hown4
        · exact (HK.out.2.alloc hsz _).grown hg4 (by simp; omega) (fun b hb => (own.lt b hb).1)
      case measure => simp [intOf]; omega
    · obtain rfl : k = n := by omega
      go_wp2_with fail
      go_ret
      exact ⟨_, rfl, HK.out.1, HK.out.2⟩

/-- The free pairs. -/
def freeP (L : List (List Int)) (left : Nat → Bool) (i : Nat) : List Duo := match grL L left i with
  | [k] => [((i : Int), (k : Int))]
  | _ => []
def freeTo (L : List (List Int)) (left : Nat → Bool) (k : Nat) : List Duo := (List.range k).flatMap (freeP L left)
theorem freeTo_succ (L : List (List Int)) (left : Nat → Bool) (k : Nat) : freeTo L left (k + 1) = freeTo L left k ++ freeP L left k := by simp [freeTo, List.range_succ]
theorem freeP_one {L : List (List Int)} {left : Nat → Bool} {i k : Nat} (h : grL L left i = [k]) : freeP L left i = [((i : Int), (k : Int))] := by unfold freeP; rw [h]
theorem freeP_no {L : List (List Int)} {left : Nat → Bool} {i : Nat} (h : (grL L left i).length ≠ 1) : freeP L left i = [] := by
  unfold freeP
  split
  · rename_i e; rw [e] at h; simp at h
  · rfl
theorem freeP_len (L : List (List Int)) (left : Nat → Bool) (i : Nat) : (freeP L left i).length ≤ 1 := by unfold freeP; split <;> simp
theorem freeTo_len (L : List (List Int)) (left : Nat → Bool) (k : Nat) : (freeTo L left k).length ≤ k := by
  induction k with
  | zero => simp [freeTo]
  | succ k ih => rw [freeTo_succ, List.length_append]; have := freeP_len L left k; omega

set_option maxRecDepth 100000 in
set_option maxHeartbeats 2000000 in
theorem free_pairs {L : List (List Int)} (vL : Value) (gl cl : Nat) (w : World) (hL : Rows w vL L) (hm : MarksAt w gl L.length allL) (hL6 : L.length ≤ 1000) (hx : ∀ x ∈ L, x.length ≤ 1000) :
    Calls Tryz.prog 15 #[vL, .slice (some ⟨gl, 0, none⟩) L.length cl] w fun e w' => ∃ v, e = .returned v ∧ DuoRow w.heap.size 52 w' v (freeTo L allL L.length) ∧ Below w.heap.size w w' := by
  obtain ⟨i0, hi0, hz0, hz1, hz2⟩ := info_parts Tryz.infop
  have HGR : Hid (∀ (i : Nat) (W : World), i < L.length → Below w.heap.size w W → Calls Tryz.prog 33 #[vL, .slice (some ⟨gl, 0, none⟩) L.length cl, .int .i64 (i : Int)] W fun e w' => e = .returned (.tuple #[.int .i64 (lastI (grL L allL i)), .int .i64 ((grL L allL i).length : Int)]) ∧ Below W.heap.size W w') := fun i W hi hW => greater_ vL gl cl i W (hL.below hW) (fun j hj => (hW.cell (p := ⟨gl, j, none⟩) (cell_lt (hm j hj))).trans (hm j hj)) hi hL6 hx
  have HMM : Hid (MarksAt w gl L.length allL) := hm
  obtain ⟨aL, cL, rfl, -, -⟩ := hL.open_
  obtain ⟨n, hn⟩ : ∃ n, L.length = n := ⟨_, rfl⟩
  have HNN : Hid (L.length = n) := hn
  rw [hn] at HGR HMM hL6 ⊢
  clear hL hm hx hn
  go_enter Tryz.func15, Tryz.ntmps15
  go_wp2_with fail
  go_loopw [5, 6] (fun v p W => ∃ k : Nat, k ≤ n ∧ p = .int .i64 k ∧ Hid (DuoRow w.heap.size 52 W v (freeTo L allL k) ∧ Below w.heap.size w W)) (fun _ p _ => n - (intOf p).toNat)
  case atStart => exact ⟨0, by omega, rfl, World.ownsRow_nil _ _ _ _, Below.refl _ _⟩
  case round =>
    obtain ⟨k, hk, rfl, HK⟩ := hrel
    by_cases hkn : k < n
    · have hg := HGR.out k wr hkn HK.out.2
      have mk0 := HMM.out k hkn
      have hglw : gl < w.heap.size := cell_lt mk0
      have z0 : (0 : Int) ≤ (k : Int) := by omega
      have z1 : (k : Int) < (n : Int) := by omega
      by_cases h1 : (grL L allL k).length = 1
      · obtain ⟨q, hq⟩ := one_ex h1
        have HF : Hid (freeTo L allL (k + 1) = freeTo L allL k ++ [((k : Int), (q : Int))]) := by show _ = _; rw [freeTo_succ, freeP_one hq]
        rw [hq, show lastI [q] = (q : Int) from rfl, show (([q] : List Nat).length : Int) = 1 from rfl] at hg
        obtain ⟨fs, hfs⟩ : ∃ fs, freeTo L allL k = fs := ⟨_, rfl⟩
        have hfl : fs.length ≤ 1000 := by rw [← hfs]; have := freeTo_len L allL k; omega
        rw [hfs] at HK HF
        have own : wr.ownsRow w.heap.size 52 2 u5 fs.length (duoCells fs) := HK.out.1
        obtain ⟨fn, hfn⟩ : ∃ fn, fs.length = fn := ⟨_, rfl⟩
        have HFN : Hid (fs.length = fn) := hfn
        rw [hfn] at own hfl
        have hsz := HK.out.2.size
        clear hfs h1 hq hfn
        go_wp2_with (first
          | (go_at_call 33; refine hg.mono ?_; rintro e V ⟨rfl, hV⟩; have HV : Hid (Below wr.heap.size wr V) := hV; have mk := ((HK.out.2.trans (hV.mono hsz)).cell (p := ⟨gl, k, none⟩) hglw).trans mk0; have ownV := own.kept (Below.grownBy hV) (by cases u5.ownBlock <;> simp); have hszV := hV.size; clear hV hg)
          | (at_builtin; refine wpList_append_own_at _ rfl (.tmp 30) (.tmp 34) 23 rfl w.heap.size 52 i0 (.agg #[.int .i64 0, .int .i64 0]) 2 16 Tryz.underlying23 hi0 hz0 hz1 hz2 rfl (by decide) _ fn _ rfl (ownV.alloc _) ⟨_, 0, none⟩ 1 1 [.int .i64 (k : Int), .int .i64 (q : Int)] rfl rfl (cells_new _ _ _) (by simp [Value.oneCell']) (by unfold maxLen; omega) (by omega) (by simp; omega) ?_; intro v5 w5 hown5 hg5 hn5 hl5)
          | fail)
        go_roundw
        case rel =>
          refine ⟨k + 1, by omega, by go_num, ?_, ?_⟩
          · rw [HF.out]
            unfold DuoRow
            rw [duoCells_snoc, List.length_append, HFN.out]
            exact hown5
          · exact ((HK.out.2.trans (HV.out.mono hsz)).alloc (by omega) _).grown hg5 (by simp; omega) (fun b hb => (own.lt b hb).1)
        case measure => simp [intOf]; omega
      · have HF : Hid (freeTo L allL (k + 1) = freeTo L allL k) := by show _ = _; rw [freeTo_succ, freeP_no h1, List.append_nil]
        obtain ⟨gn, hgn⟩ : ∃ gn : Int, ((grL L allL k).length : Int) = gn := ⟨_, rfl⟩
        have hg1 : (gn == 1) = false := beq_false_of_ne (by omega)
        obtain ⟨la, hla⟩ : ∃ la, lastI (grL L allL k) = la := ⟨_, rfl⟩
        rw [hgn, hla] at hg
        have hsz := HK.out.2.size
        clear hgn hla h1
        go_wp2_with (first
          | (go_at_call 33; refine hg.mono ?_; rintro e V ⟨rfl, hV⟩; have HV : Hid (Below wr.heap.size wr V) := hV; have mk := ((HK.out.2.trans (hV.mono hsz)).cell (p := ⟨gl, k, none⟩) hglw).trans mk0; clear hV hg)
          | fail)
        go_roundw
        case rel => exact ⟨k + 1, by omega, by go_num, by rw [HF.out]; exact HK.out.1.below HV.out, HK.out.2.trans (HV.out.mono hsz)⟩
        case measure => simp [intOf]; omega
    · obtain rfl : k = n := by omega
      go_wp2_with fail
      go_ret
      exact ⟨_, rfl, HK.out.1, HK.out.2⟩

end Go.Proofs.YthdmfeidcldafaaGreatDoor
