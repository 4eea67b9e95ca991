/- What Link answers. What slices.Grow of no slice and slices.Concat of two slices of texts answer. -/
import Derived.Test.YtkmecdgnoemimaaDoorAround
import Derived.Test.YtkmecdgnoemimaaDoorKept2
import Derived.Test.YtkmecdgnoemimaaDoorBuilt
import Derived.Lib.AppendZerosOnto
import Derived.Lib.SliceRun
namespace Go.Proofs.YtkmecdgnoemimaaDoor
open Go.RowKit Go.Shelf Go.Sort Go.Maps Go.Deep

/-- What is left of facets without a face, where anything is. -/
def restsU (tf : List UInt8) (fs : List (List UInt8)) : List (List UInt8) := (fs.map (fun t => minusU t tf)).filter (fun r => decide (r ≠ []))
theorem restsU_succ {fs : List (List UInt8)} {k : Nat} (hk : k < fs.length) (tf : List UInt8) : restsU tf (fs.take (k + 1)) = restsU tf (fs.take k) ++ (if minusU (fs[k]?.getD []) tf = [] then [] else [minusU (fs[k]?.getD []) tf]) := by
  unfold restsU
  rw [List.take_add_one, List.getElem?_eq_getElem hk, List.map_append, List.filter_append, Option.getD_some]
  congr 1
  by_cases h : minusU fs[k] tf = [] <;> simp [h]
theorem restsU_length (tf : List UInt8) (fs : List (List UInt8)) : (restsU tf fs).length ≤ fs.length := by
  unfold restsU
  have := List.length_filter_le (fun r : List UInt8 => decide (r ≠ [])) (fs.map (fun t => minusU t tf))
  simpa using this
theorem rests_mem {tf : List UInt8} {fs : List (List UInt8)} {f : List Int} (htf : ints tf = f) (r : List Int) : r ∈ (restsU tf fs).map ints ↔ r ≠ [] ∧ ∃ t ∈ fs.map ints, r = minusI t f := by
  rw [List.mem_map]
  unfold restsU
  constructor
  · rintro ⟨x, hx, rfl⟩
    obtain ⟨h1, h2⟩ := List.mem_filter.1 hx
    obtain ⟨t, ht, rfl⟩ := List.mem_map.1 h1
    refine ⟨fun e => ?_, ints t, List.mem_map.2 ⟨t, ht, rfl⟩, by rw [minusU_ints, htf]⟩
    have : minusU t tf = [] := ints_inj (y := []) e
    rw [this] at h2; simp at h2
  · rintro ⟨h1, t', ht', rfl⟩
    obtain ⟨t, ht, rfl⟩ := List.mem_map.1 ht'
    refine ⟨minusU t tf, List.mem_filter.2 ⟨List.mem_map.2 ⟨t, ht, rfl⟩, ?_⟩, by rw [minusU_ints, htf]⟩
    refine decide_eq_true (fun e => h1 ?_)
    rw [← htf, ← minusU_ints, e]; rfl

theorem loop_length (bs : ByteArray) : ∀ (n i : Nat) (r : List UInt8), bs.size - i = n → (ByteArray.toList.loop bs i r).length = r.length + n := by
  intro n
  induction n with
  | zero =>
    intro i r h
    unfold ByteArray.toList.loop
    rw [if_neg (by omega)]
    simp
  | succ n ih =>
    intro i r h
    unfold ByteArray.toList.loop
    rw [if_pos (by omega), ih (i + 1) _ (by omega)]
    simp
    omega
theorem not_empty (bs : ByteArray) (h : 0 < bs.size) : (!bs.toList.isEmpty) = true := by
  have h1 := loop_length bs bs.size 0 [] (by omega)
  have h2 : bs.toList.length = bs.size := by unfold ByteArray.toList; rw [h1]; simp
  cases e : bs.toList with
  | nil => rw [e] at h2; simp at h2; omega
  | cons a l => rfl

set_option maxRecDepth 100000 in
set_option maxHeartbeats 2000000 in
theorem link_call {a : Nat → Addr} {s : Nat → ByteArray} (vl vf : Value) (c : List (List Int)) (f : List Int) (w : World) (hE : Errs a s w) (hl : Rows w vl c) (hll : c.length ≤ 100000) (hle : ∀ x ∈ c, x.length ≤ 1000) (hf : Ints w vf f) (hfl : f.length ≤ 1000) :
    Calls Tryd.prog 20 #[.agg #[vl], vf] w fun e w' => PartG a (PErr c f) (fun L => ∃ all, Good c all ∧ f ∈ all ∧ IsFacets (linkI all f) L) w e w' := by
  obtain ⟨i0, hi, hz0, hz1, hz2⟩ := info_parts Tryd.info9
  obtain ⟨al, cl, rfl, -, -⟩ := hl.open_
  have hBa := two_below w (.slice al c.length cl) (.slice none 0 0) 27 27
  have hbx := two_boxes w (.slice al c.length cl) (.slice none 0 0) 27 27
  have har := around_ _ vf c f _ (hE.below hBa) (hl.below hBa) hll hle (hf.below hBa) hfl
  have hbc := hbx.1.1
  clear hl hf
  go_enter Tryd.func20, Tryd.ntmps20
  go_wp2_with fail
  refine har.mono ?_
  clear har
  rintro e w2 ⟨hB2, ⟨i, hbad, rfl⟩ | ⟨all, v, fs, tf, hg, hm, rfl, hs, htf, har, h6, h7⟩⟩
  · rw [two_size] at hB2
    have c1 : w2.cell? ⟨w.heap.size + 1, 0, none⟩ = some (.slice none 0 0) := (hB2.cell (p := ⟨w.heap.size + 1, 0, none⟩) (by show w.heap.size + 1 < w.heap.size + 2; omega)).trans hbx.2.1
    have z1 : w2.frozen? ⟨w.heap.size + 1, 0, none⟩ = false := (hB2.frozen (p := ⟨w.heap.size + 1, 0, none⟩) (by show w.heap.size + 1 < w.heap.size + 2; omega)).trans hbx.2.2
    have c2 := World.cell?_setCell_same' w2 ⟨w.heap.size + 1, 0, none⟩ (.slice none 0 0) (by rw [c1]; rfl)
    have HBD : Hid (PErr c f i) := hbad
    clear hbad
    go_wp2
    refine bodyPost_ret (v := .tuple #[.agg #[.slice none 0 0], .iface 165 (.pointer (some (a i)))]) ?_ rfl ?_
    · simp [results, Tryd.f20, go_sem, c2]
    · exact ⟨(hBa.trans (hB2.mono (by omega))).setCell (p := ⟨w.heap.size + 1, 0, none⟩) (by show w.heap.size ≤ w.heap.size + 1; omega) _, .inl ⟨i, HBD.out, rfl⟩⟩
  · obtain ⟨av, cv, rfl, -, hcv⟩ := hs.open_
    have HBw2 : Hid (Below w.heap.size w w2) := hBa.trans (hB2.mono (by rw [two_size]; omega))
    have HB02 : Hid (Below (w.heap.size + 2) ((w.alloc (.cells #[.slice al c.length cl] 27)).alloc (.cells #[.slice none 0 0] 27)) w2) := by
      rw [two_size] at hB2; exact hB2
    have HG : Hid (Good c all ∧ f ∈ all ∧ AroundOf all f (fs.map ints)) := ⟨hg, hm, har⟩
    have HTF : Hid (ints tf = f) := htf
    have HS7 : Hid (∀ x ∈ fs, x ≠ [] ∧ x.length ≤ 7) := h7
    have HNO : Hid (¬ Over (restsU tf fs)) := by
      refine sub_over hg (fun t ht => ?_)
      obtain ⟨h1, x, hx, rfl⟩ := (rests_mem htf t).1 ht
      exact hg.sub ((har x).1 hx).1 List.filter_sublist h1
    clear hg hm har hs h7 hB2 htf
    obtain ⟨sf, hsf⟩ : ∃ s : ByteArray, (⟨tf.toArray⟩ : ByteArray) = s := ⟨_, rfl⟩
    have hef : encStr tf = .string sf := by rw [← hsf, encStr]
    have HEF : Hid (encStr tf = .string sf) := hef
    rw [hef]
    clear hsf hef
    go_wp2
    go_loopw [9, 26] (fun v p W => ∃ k : Nat, k ≤ fs.length ∧ p = .int .i64 k ∧ W.ownsRow w2.heap.size 9 1 v (restsU tf (fs.take k)).length ((restsU tf (fs.take k)).map encStr) ∧ Below w2.heap.size w2 W)
      (fun _ p _ => fs.length - (intOf p).toNat)
    case atStart => exact ⟨0, by omega, rfl, by simp [restsU]; exact World.ownsRow_nil _ _ _ _, Below.refl _ _⟩
    case round =>
      obtain ⟨k, hk, rfl, hown, hB⟩ := hrel
      have hrl : (restsU tf (fs.take k)).length ≤ 600 := by have := restsU_length tf (fs.take k); simp at this; omega
      obtain ⟨rs, hrs⟩ : ∃ rs, restsU tf (fs.take k) = rs := ⟨_, rfl⟩
      rw [hrs] at hown hrl
      have HRS : Hid (restsU tf (fs.take k) = rs) := hrs
      have hbs := hB.size
      clear hrs
      by_cases hlt : k < fs.length
      · obtain ⟨b6, o6, rfl, -, hb6, c6⟩ := hcv (by omega)
        have g6 := (hB.cell (p := ⟨b6, o6 + k, none⟩) hb6).trans (c6 k hlt)
        have hx7 := HS7.out (fs[k]?.getD []) (by rw [List.getElem?_eq_getElem hlt]; simp)
        have hst := restsU_succ hlt tf
        obtain ⟨t, hte⟩ : ∃ t, fs[k]?.getD [] = t := ⟨_, rfl⟩
        rw [hte] at g6 hx7 hst
        rw [HRS.out] at hst
        have hwo := without_ t tf wr (by omega)
        obtain ⟨m, hm⟩ : ∃ m, minusU t tf = m := ⟨_, rfl⟩
        rw [hm] at hwo hst
        have HST : Hid (restsU tf (fs.take (k + 1)) = rs ++ (if m = [] then [] else [m])) := hst
        obtain ⟨st, hstt⟩ : ∃ s : ByteArray, (⟨t.toArray⟩ : ByteArray) = s := ⟨_, rfl⟩
        have he : encStr t = .string st := by rw [← hstt, encStr]
        rw [he] at g6
        rw [he, HEF.out] at hwo
        clear hte hst hx7 hstt he hm c6 hcv
        cases m with
        | nil =>
          go_wp2_with fail
          refine hwo.mono ?_
          clear hwo
          rintro e w6 ⟨rfl, hB6⟩
          have hown6 := hown.kept (Below.grownBy hB6) (by cases Value.ownBlock _ <;> simp)
          have hB56 : Below w2.heap.size w2 w6 := hB.trans (hB6.mono hbs)
          have he0 : encStr [] = .string ⟨#[]⟩ := rfl
          rw [he0]
          clear hown hB6
          go_wp2
          go_roundw
          case rel => exact ⟨k + 1, by omega, by go_num, by rw [HST.out]; simpa using hown6, hB56⟩
          case measure => simp [intOf]; omega
        | cons b0 m =>
          obtain ⟨sm, hsm⟩ : ∃ s : ByteArray, (⟨(b0 :: m).toArray⟩ : ByteArray) = s := ⟨_, rfl⟩
          have hem : encStr (b0 :: m) = .string sm := by rw [← hsm, encStr]
          have hneb : (!sm.toList.isEmpty) = true := not_empty sm (by rw [← hsm]; simp [ByteArray.size])
          have HEM : Hid (encStr (b0 :: m) = .string sm) := hem
          rw [hem] at hwo
          clear hsm hem
          go_wp2_with fail
          refine hwo.mono ?_
          clear hwo
          rintro e w6 ⟨rfl, hB6⟩
          have hown6 := hown.kept (Below.grownBy hB6) (by cases Value.ownBlock _ <;> simp)
          have hB56 : Below w2.heap.size w2 w6 := hB.trans (hB6.mono hbs)
          have hbs6 := hB56.size
          clear hown hB6
          go_wp2_with (first
            | (at_builtin; refine wpList_append_slice rfl (.tmp 35) (.tmp 37) 52 rfl w2.heap.size 9 i0 (.string ⟨#[]⟩) 16 Tryd.underlying52 hi hz0 hz1 hz2 rfl _ _ _ rfl (hown6.alloc _) _ [.string sm] rfl (slice_one _ _ _) (by simp [Value.oneCell']) (by simp; omega) (by unfold maxLen; simp; omega) (by simp; omega) ?_; intro v7 w7 hown7 hg7 hl7)
            | go_in)
          (try go_frame)
          go_roundw
          case rel => exact ⟨k + 1, by omega, by go_num, by rw [HST.out, if_neg (by simp), List.map_append]; simp only [List.map_cons, List.map_nil, HEM.out]; simpa using hown7, (hB56.alloc hbs6 _).grown hg7 (by simp; omega) (fun j hj => (hown6.lt j hj).1)⟩
          case measure => simp [intOf]; omega
      · obtain rfl : k = fs.length := by omega
        have HR2 : Hid (restsU tf fs = rs) := by
          have := HRS.out
          rwa [List.take_length] at this
        have hst := slice_of_owns (S := anyBlock) hown (fun _ _ _ => trivial)
        have hst' : Strs wr u9 rs := hst
        obtain ⟨av2, cv2, rfl, -, -⟩ := hst'.open_
        have hBw : Below w.heap.size w wr := HBw2.out.trans (hB.mono HBw2.out.size)
        have hval := (callsIn_wide (n := 10)).1 (values_made Fence.wide 10 trivial rfl av2 rs.length cv2 wr)
        have hbu := built_values wr av2 rs.length cv2 rs rfl (by omega) (fun x hx => by
          rw [← HR2.out] at hx
          obtain ⟨h1, h2⟩ := List.mem_filter.1 hx
          obtain ⟨t, ht, rfl⟩ := List.mem_map.1 h1
          have := minusU_length t tf
          have := (HS7.out t ht).2
          exact ⟨List.length_pos_iff.2 (of_decide_eq_true h2), by omega⟩) hst' (hE.below hBw)
        clear hcv hown hst hst'
        go_wp2_with (go_at_call 42; refine hval.mono ?_; rintro e w3 ⟨rfl, rfl⟩)
        refine hbu.mono ?_
        clear hbu hval
        rintro e w4 ⟨hB4, ⟨hov, rfl⟩ | ⟨-, v4, ss, rfl, hown, hnd, hmm⟩⟩
        · exact absurd (by rw [HR2.out]; exact hov) HNO.out
        · have HL : Hid (IsFacets (linkI all f) ((srtS ss).map ints)) := by
            refine isFacets_of (link_same HG.out.1 HG.out.2.2 (rests_mem HTF.out)) ?_
            rw [HR2.out]; exact facets_built hnd hmm
          have hB24 : Below wr.heap.size wr w4 := ((Below.refl _ wr).alloc (Nat.le_refl _) _).trans (hB4.mono (by simp))
          have hB04 := (HB02.out.trans (hB.mono (by have := HB02.out.size; rw [two_size] at this; exact this))).trans (hB24.mono (by have := HB02.out.size; rw [two_size] at this; omega))
          have c1 : w4.cell? ⟨w.heap.size + 1, 0, none⟩ = some (.slice none 0 0) := (hB04.cell (p := ⟨w.heap.size + 1, 0, none⟩) (by show w.heap.size + 1 < w.heap.size + 2; omega)).trans hbx.2.1
          have z1 : w4.frozen? ⟨w.heap.size + 1, 0, none⟩ = false := (hB04.frozen (p := ⟨w.heap.size + 1, 0, none⟩) (by show w.heap.size + 1 < w.heap.size + 2; omega)).trans hbx.2.2
          have hs2 : w.heap.size + 2 ≤ wr.heap.size := by have := HB02.out.size; rw [two_size] at this; omega
          have H1 : Hid (OwnRows (wr.alloc (.cells #[.slice av2 rs.length cv2] 52)).heap.size w4 v4 ((srtS ss).map ints)) := hown
          obtain ⟨a4, c4, rfl, -, -⟩ := hown.rows.open_
          have c2 := World.cell?_setCell_same' w4 ⟨w.heap.size + 1, 0, none⟩ (.slice a4 ((srtS ss).map ints).length c4) (by rw [c1]; rfl)
          rw [List.length_map] at c2
          clear hown hnd hmm hB4 hB24
          go_wp2
          refine bodyPost_ret (v := .tuple #[.agg #[.slice a4 (srtS ss).length c4], .nilIface]) ?_ rfl ?_
          · simp [results, Tryd.f20, go_sem, c2]
          · have h1 := H1.out
            rw [List.length_map, World.size_alloc] at h1
            refine ⟨(hBa.trans (hB04.mono (by omega))).setCell (p := ⟨w.heap.size + 1, 0, none⟩) (by show w.heap.size ≤ w.heap.size + 1; omega) _, .inr ⟨_, _, ⟨all, HG.out.1, HG.out.2.1, HL.out⟩, rfl, ?_⟩⟩
            exact (h1.setCell (p := ⟨w.heap.size + 1, 0, none⟩) (by show w.heap.size + 1 < wr.heap.size + 1; omega) _).lower (by omega)

end Go.Proofs.YtkmecdgnoemimaaDoor

namespace Go.Proofs.YtkmecdgnoemimaaDoor
open Go.RowKit Go.Sort

theorem zeros_size (n : Nat) : (Builtin.zeroCells #[Value.string ⟨#[]⟩] n).size = n := by
  simp [Builtin.zeroCells]

set_option maxRecDepth 100000 in
set_option maxHeartbeats 1000000 in
theorem grow_nil (n : Nat) (w : World) (hn : n ≤ 100000) :
    Calls Tryd.prog 64 #[.slice none 0 0, .int .i64 n] w fun e w' => ∃ v, e = .returned v ∧ w'.ownsRow w.heap.size 9 1 v 0 [] ∧ Below w.heap.size w w' := by
  obtain ⟨i0, hi, hz0, hz1, hz2⟩ := info_parts Tryd.info9
  by_cases h0 : n = 0
  · subst h0
    go_enter Tryd.func64, Tryd.ntmps64
    go_wp2
    go_ret
    exact ⟨_, rfl, World.ownsRow_nil _ _ _ _, Below.refl _ _⟩
  · have hold : (Builtin.firstCells i0.size 0 (.slice none 0 0)).run Tryd.prog w.drew = .ok ([] : List Value).toArray w.drew := run_firstCells_none w.drew i0.size 0 0 0
    have hrz := fun ty => Lib.run_append_grow_zeros w 52 3 ty 9 i0 (.string ⟨#[]⟩) .i64 .i64 Tryd.underlying52 Tryd.underlying3 hi hz0 none 0 0 [] hold n (by omega) (by omega) (by omega) (by omega) (by rw [hz2]; omega) (by rw [hz2]; exact growslice_fits (by omega) (by omega))
    simp only [Nat.zero_add] at hrz
    have hGn : n ≤ grownCap w n 0 9 := grownCap_ge w _ _ _
    have hGm : grownCap w n 0 9 ≤ maxLen := grownCap_le_maxLen w n 0 9 (by unfold maxLen; omega)
    obtain ⟨G, hG⟩ : ∃ G, grownCap w n 0 9 = G := ⟨_, rfl⟩
    rw [hG] at hrz hGn hGm
    have hG63 : G ≤ 9223372036854775807 := by unfold maxLen at hGm; exact hGm
    have hn0 : 0 < (n : Int) := by omega
    clear hG hold
    go_enter Tryd.func64, Tryd.ntmps64
    go_wp2_with (at_builtin; refine Lib.wpList_append_run _ rfl _ _ _ _ rfl _ _ rfl rfl _ _ (hrz _) ?_)
    go_ret
    refine ⟨_, rfl, ⟨rfl, .inr ⟨w.heap.size, G, _, rfl, Nat.le_refl _, World.alloc_heap_new w.drew _, Nat.zero_le _, hGm, ?_, by simp⟩⟩, ((Below.refl _ w).drew).alloc (Nat.le_refl _) _⟩
    rw [Array.size_append, zeros_size, zeros_size]
    omega

set_option maxRecDepth 100000 in
set_option maxHeartbeats 2000000 in
theorem concat_two (b o cap : Nat) (ax ay : Option Addr) (px py : Nat) (xs ys : List (List UInt8)) (w : World) (hx : Strs w (.slice ax xs.length px) xs) (hy : Strs w (.slice ay ys.length py) ys) (hxl : xs.length ≤ 1000) (hyl : ys.length ≤ 1000)
    (h0 : w.cell? ⟨b, o, none⟩ = some (.slice ax xs.length px)) (h1 : w.cell? ⟨b, o + 1, none⟩ = some (.slice ay ys.length py)) :
    Calls Tryd.prog 43 #[.slice (some ⟨b, o, none⟩) 2 cap] w fun e w' => ∃ v, e = .returned v ∧ StrsIn (fun b => w.heap.size ≤ b) w' v (xs ++ ys) ∧ Below w.heap.size w w' := by
  obtain ⟨i0, hi, hz0, hz1, hz2⟩ := info_parts Tryd.info9
  have HX : Hid (Strs w (.slice ax xs.length px) xs) := hx
  have HY : Hid (Strs w (.slice ay ys.length py) ys) := hy
  have hlt := cell_lt h0
  clear hx hy
  go_enter Tryd.func43, Tryd.ntmps43
  go_wp2
  go_loopw [3, 11] (fun v p W => ∃ k n : Nat, p = .int .i64 k ∧ v = .int .i64 n ∧ W = w ∧ ((k = 0 ∧ n = 0) ∨ (k = 1 ∧ n = xs.length) ∨ (k = 2 ∧ n = xs.length + ys.length))) (fun _ p _ => 2 - (intOf p).toNat)
  case atStart => exact ⟨0, 0, rfl, rfl, rfl, .inl ⟨rfl, rfl⟩⟩
  case round =>
    obtain ⟨k, n, rfl, rfl, rfl, ⟨rfl, rfl⟩ | ⟨rfl, rfl⟩ | ⟨rfl, rfl⟩⟩ := hrel
    · go_wp2
      go_roundw
      case rel => exact ⟨1, xs.length, by go_num, by go_num, (by first | trivial | rfl), .inr (.inl ⟨rfl, rfl⟩)⟩
      case measure => simp [intOf]
    · go_wp2
      go_roundw
      case rel => exact ⟨2, xs.length + ys.length, by go_num, by go_num, (by first | trivial | rfl), .inr (.inr ⟨rfl, rfl⟩)⟩
      case measure => simp [intOf]
    · have hgr := grow_nil (xs.length + ys.length) wr (by omega)
      rw [Int.natCast_add] at hgr
      go_wp2_with fail
      refine hgr.mono ?_
      clear hgr
      rintro e w2 ⟨v2, rfl, hown2, hB2⟩
      go_wp2
      go_loopw [6, 27] (fun v p W => ∃ (k : Nat) (zs : List (List UInt8)), p = .int .i64 k ∧ W.ownsRow wr.heap.size 9 1 v zs.length (zs.map encStr) ∧ Below wr.heap.size wr W ∧ ((k = 0 ∧ zs = []) ∨ (k = 1 ∧ zs = xs) ∨ (k = 2 ∧ zs = xs ++ ys))) (fun _ p _ => 2 - (intOf p).toNat)
      case atStart => exact ⟨0, [], rfl, hown2, hB2, .inl ⟨rfl, rfl⟩⟩
      case round =>
        obtain ⟨k, zs, rfl, hown, hB, ⟨rfl, rfl⟩ | ⟨rfl, rfl⟩ | ⟨rfl, rfl⟩⟩ := hrel
        · have g0 := (hB.cell (p := ⟨b, o, none⟩) hlt).trans h0
          have hs := HX.out.below hB
          have hbs := hB.size
          clear hown2 hB2
          go_wp2_with (first
            | (at_builtin; refine wpList_append_slice rfl (.tmp 31) (.tmp 32) 52 rfl _ 9 i0 (.string ⟨#[]⟩) 16 Tryd.underlying52 hi hz0 hz1 hz2 rfl _ _ _ rfl hown _ (xs.map encStr) rfl hs (fun c hc => by obtain ⟨y, _, rfl⟩ := List.mem_map.1 hc; rfl) (by simp; omega) (by unfold maxLen; simp; omega) hbs ?_; intro v4 w4 hown4 hg4 hl4)
            | go_in)
          (try go_frame)
          go_roundw
          case rel => exact ⟨1, xs, by go_num, by simpa using hown4, hB.grown hg4 hbs (fun j hj => (hown.lt j hj).1), .inr (.inl ⟨rfl, rfl⟩)⟩
          case measure => simp [intOf]
        · have g0 := (hB.cell (p := ⟨b, o + 1, none⟩) hlt).trans h1
          have hs := HY.out.below hB
          have hbs := hB.size
          clear hown2 hB2
          go_wp2_with (first
            | (at_builtin; refine wpList_append_slice rfl (.tmp 31) (.tmp 32) 52 rfl _ 9 i0 (.string ⟨#[]⟩) 16 Tryd.underlying52 hi hz0 hz1 hz2 rfl _ _ _ rfl hown _ (ys.map encStr) rfl hs (fun c hc => by obtain ⟨y, _, rfl⟩ := List.mem_map.1 hc; rfl) (by simp; omega) (by unfold maxLen; simp; omega) hbs ?_; intro v4 w4 hown4 hg4 hl4)
            | go_in)
          (try go_frame)
          go_roundw
          case rel => exact ⟨2, _, by go_num, by rw [List.map_append, List.length_append]; simpa using hown4, hB.grown hg4 hbs (fun j hj => (hown.lt j hj).1), .inr (.inr ⟨rfl, rfl⟩)⟩
          case measure => simp [intOf]
        · clear hown2 hB2
          go_wp2
          go_ret
          exact ⟨_, rfl, slice_of_owns hown (fun b hb _ => hb), hB⟩

end Go.Proofs.YtkmecdgnoemimaaDoor
