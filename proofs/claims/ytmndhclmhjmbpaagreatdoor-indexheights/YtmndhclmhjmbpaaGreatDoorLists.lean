/- What slices.Grow of no slice and slices.Concat of slices of rows answer. The faces of a dimension. What the map of faces tells and what the reference tells are the same. What lists answers: the vertices that texts stand for, in new memory. -/
import Derived.Test.YtmndhclmhjmbpaaGreatDoorFacetsIn
import Derived.Test.YtmndhclmhjmbpaaGreatDoorHeap
import Derived.Lib.AppendZerosOnto
import Derived.Lib.SliceRun
import Derived.Test.YtmndhclmhjmbpaaGreatDoorMath2
import Derived.Test.YtmndhclmhjmbpaaGreatDoorFaces
import Derived.Test.YtmndhclmhjmbpaaGreatDoorMathV
namespace Go.Proofs.YtmndhclmhjmbpaaGreatDoor
open Go.RowKit Go.Sort

theorem zerosR_size (n : Nat) : (Builtin.zeroCells #[Value.slice none 0 0] n).size = n := by
  simp [Builtin.zeroCells]

set_option maxRecDepth 100000 in
set_option maxHeartbeats 1000000 in
theorem growR_nil (n : Nat) (w : World) (hn : n ≤ 100000) :
    Calls Tryz.prog 111 #[.slice none 0 0, .int .i64 n] w fun e w' => ∃ v, e = .returned v ∧ w'.ownsRow w.heap.size 23 1 v 0 [] ∧ Below w.heap.size w w' := by
  obtain ⟨i0, hi, hz0, hz1, hz2⟩ := info_parts Tryz.info23
  by_cases h0 : n = 0
  · subst h0
    go_enter Tryz.func111, Tryz.ntmps111
    go_wp2
    go_ret
    exact ⟨_, rfl, World.ownsRow_nil _ _ _ _, Below.refl _ _⟩
  · have hold : (Builtin.firstCells i0.size 0 (.slice none 0 0)).run Tryz.prog w.drew = .ok ([] : List Value).toArray w.drew := run_firstCells_none w.drew i0.size 0 0 0
    have hrz := fun ty => Lib.run_append_grow_zeros w 22 3 ty 23 i0 (.slice none 0 0) .i64 .i64 Tryz.underlying22 Tryz.underlying3 hi hz0 none 0 0 [] hold n (by omega) (by omega) (by omega) (by omega) (by rw [hz2]; omega) (by rw [hz2]; exact growslice_fits (by omega) (by omega))
    simp only [Nat.zero_add] at hrz
    have hGn : n ≤ grownCap w n 0 23 := grownCap_ge w _ _ _
    have hGm : grownCap w n 0 23 ≤ maxLen := grownCap_le_maxLen w n 0 23 (by unfold maxLen; omega)
    obtain ⟨G, hG⟩ : ∃ G, grownCap w n 0 23 = G := ⟨_, rfl⟩
    rw [hG] at hrz hGn hGm
    have hG63 : G ≤ 9223372036854775807 := by unfold maxLen at hGm; exact hGm
    have hn0 : 0 < (n : Int) := by omega
    clear hG hold
    go_enter Tryz.func111, Tryz.ntmps111
    go_wp2_with (at_builtin; refine Lib.wpList_append_run _ rfl _ _ _ _ rfl _ _ rfl rfl _ _ (hrz _) ?_)
    go_ret
    refine ⟨_, rfl, ⟨rfl, .inr ⟨w.heap.size, G, _, rfl, Nat.le_refl _, World.alloc_heap_new w.drew _, Nat.zero_le _, hGm, ?_, by simp⟩⟩, ((Below.refl _ w).drew).alloc (Nat.le_refl _) _⟩
    rw [Array.size_append, zerosR_size, zerosR_size]
    omega

theorem HeadsIn.append {S : Nat → Prop} {w : World} {us vs : List Value} {xss yss : List (List Int)} (h : HeadsIn S w us xss) (h' : HeadsIn S w vs yss) : HeadsIn S w (us ++ vs) (xss ++ yss) := by
  refine ⟨by simp [h.1, h'.1], fun k u' x' h1 h2 => ?_⟩
  rw [List.getElem?_append] at h1 h2
  rw [h.1] at h1
  split at h1
  · rename_i hk
    rw [if_pos hk] at h2
    exact h.2 k u' x' h1 h2
  · rename_i hk
    rw [if_neg hk] at h2
    exact h'.2 _ u' x' h1 h2
/-- How many rows the first k slices hold. -/
def totN (Ls : List (List (List Int))) (k : Nat) : Nat := (Ls.take k).flatten.length
theorem totN_succ {Ls : List (List (List Int))} {k : Nat} (hk : k < Ls.length) : totN Ls (k + 1) = totN Ls k + (Ls[k]?.getD []).length := by
  unfold totN
  rw [List.take_add_one, List.getElem?_eq_getElem hk, List.flatten_append, List.length_append]
  simp
theorem totN_le (Ls : List (List (List Int))) (k : Nat) : totN Ls k ≤ Ls.flatten.length := by
  unfold totN
  conv => rhs; rw [← List.take_append_drop k Ls, List.flatten_append, List.length_append]
  omega
theorem flat_succ {Ls : List (List (List Int))} {k : Nat} (hk : k < Ls.length) : (Ls.take (k + 1)).flatten = (Ls.take k).flatten ++ Ls[k]?.getD [] := by
  rw [List.take_add_one, List.getElem?_eq_getElem hk, List.flatten_append]
  simp
/-- Slices of rows in a block. -/
def PartsAt (S : Nat → Prop) (w : World) (b o : Nat) (Ls : List (List (List Int))) : Prop := ∀ j, j < Ls.length → ∃ a c, w.cell? ⟨b, o + j, none⟩ = some (.slice a (Ls[j]?.getD []).length c) ∧ RowsIn S w (.slice a (Ls[j]?.getD []).length c) (Ls[j]?.getD [])

set_option maxRecDepth 100000 in
set_option maxHeartbeats 2000000 in
theorem concat_rows {S : Nat → Prop} (b o cap : Nat) (Ls : List (List (List Int))) (w : World) (hS : ∀ b, w.heap.size ≤ b → S b) (h : PartsAt S w b o Ls) (hb : b < w.heap.size) (hl : Ls.flatten.length ≤ 100000) (hn : Ls.length ≤ 1000) :
    Calls Tryz.prog 84 #[.slice (some ⟨b, o, none⟩) Ls.length cap] w fun e w' => ∃ v, e = .returned v ∧ RowsIn S w' v Ls.flatten ∧ Below w.heap.size w w' := by
  obtain ⟨i0, hi, hz0, hz1, hz2⟩ := info_parts Tryz.info23
  have HH : Hid (PartsAt S w b o Ls) := h
  have HT : Hid (∀ k, totN Ls k ≤ 100000) := fun k => Nat.le_trans (totN_le Ls k) hl
  obtain ⟨R, hR⟩ : ∃ R, Ls.flatten = R := ⟨_, rfl⟩
  rw [hR]
  have HR : Hid (Ls.flatten = R) := hR
  clear h hl hR
  go_enter Tryz.func84, Tryz.ntmps84
  go_wp2
  go_loopw [3, 11] (fun v p W => ∃ k : Nat, k ≤ Ls.length ∧ p = .int .i64 k ∧ v = .int .i64 (totN Ls k) ∧ W = w) (fun _ p _ => Ls.length - (intOf p).toNat)
  case atStart => exact ⟨0, by omega, rfl, rfl, rfl⟩
  case round =>
    obtain ⟨k, hk, rfl, rfl, hW⟩ := hrel
    obtain rfl : w = wr := hW.symm
    have htk := HT.out k
    by_cases hlt : k < Ls.length
    · obtain ⟨a1, p1, g1, -⟩ := HH.out k hlt
      have hs := totN_succ hlt
      have htk1 := HT.out (k + 1)
      obtain ⟨n1, hn1⟩ : ∃ n, (Ls[k]?.getD []).length = n := ⟨_, rfl⟩
      rw [hn1] at g1 hs
      have HS : Hid (totN Ls (k + 1) = totN Ls k + n1) := hs
      obtain ⟨t, ht⟩ : ∃ t, totN Ls k = t := ⟨_, rfl⟩
      rw [ht] at htk hs ⊢
      have HTK : Hid (totN Ls k = t) := ht
      have hle : t + n1 ≤ 100000 := by omega
      clear hs ht htk1 hn1
      go_wp2_with fail
      go_roundw
      case rel => exact ⟨k + 1, by omega, by go_num, by rw [HS.out, HTK.out]; go_num, by first | trivial | rfl⟩
      case measure => simp [intOf]; omega
    · obtain rfl : k = Ls.length := by omega
      have hgr := growR_nil (totN Ls Ls.length) w (by omega)
      obtain ⟨t, ht⟩ : ∃ t, totN Ls Ls.length = t := ⟨_, rfl⟩
      rw [ht] at htk hgr ⊢
      clear ht
      go_wp2_with fail
      refine hgr.mono ?_
      clear hgr
      rintro e w2 ⟨v2, rfl, hown2, hB2⟩
      go_wp2_with fail
      go_loopw [6, 27] (fun v p W => ∃ (k : Nat) (us : List Value), k ≤ Ls.length ∧ p = .int .i64 k ∧ W.ownsRow w.heap.size 23 1 v us.length us ∧ HeadsIn S w us (Ls.take k).flatten ∧ Below w.heap.size w W) (fun _ p _ => Ls.length - (intOf p).toNat)
      case atStart => exact ⟨0, [], by omega, rfl, hown2, ⟨rfl, fun k u x h => by simp at h⟩, hB2⟩
      case round =>
        obtain ⟨k, us, hk, rfl, hown, hh, hB⟩ := hrel
        have HHd : Hid (HeadsIn S w us (Ls.take k).flatten) := hh
        have hul : us.length = totN Ls k := hh.1
        have hul2 : us.length ≤ 100000 := by have := HT.out k; omega
        clear hh hown2 hB2
        by_cases hlt : k < Ls.length
        · obtain ⟨a1, p1, g1, r1⟩ := HH.out k hlt
          have hf := flat_succ hlt
          obtain ⟨X, hX⟩ : ∃ X, Ls[k]?.getD [] = X := ⟨_, rfl⟩
          rw [hX] at g1 r1 hf
          obtain ⟨ns, hsl, hnl, hns⟩ := r1
          have HN : Hid (HeadsIn S w (us ++ ns) (Ls.take (k + 1)).flatten) := by rw [hf]; exact HHd.out.append ⟨hnl, hns⟩
          have g2 := (hB.cell (p := ⟨b, o + k, none⟩) hb).trans g1
          have hs : SliceIn S wr (.slice a1 X.length p1) ns := SliceIn.keep hsl (fun b hb _ => hB.block b hb)
          have hone : ∀ c ∈ ns, c.oneCell' = true := fun c hc => by
            obtain ⟨k, hk, rfl⟩ := List.getElem_of_mem hc
            obtain ⟨x, hx⟩ : ∃ x, X[k]? = some x := ⟨X[k], List.getElem?_eq_getElem (by omega)⟩
            obtain ⟨a', c', e, -⟩ := (hns k _ x (List.getElem?_eq_getElem hk) hx).open_
            rw [e]; rfl
          have hnl2 : us.length + ns.length ≤ 100000 := by
            have h1 := HT.out (k + 1)
            have h2 := HN.out.1
            rw [List.length_append] at h2
            have h3 : totN Ls (k + 1) = (Ls.take (k + 1)).flatten.length := rfl
            omega
          have hbs := hB.size
          obtain ⟨n1, hn1⟩ : ∃ n, X.length = n := ⟨_, rfl⟩
          rw [hn1] at g2 hs
          clear hX hf g1 hsl hns hnl hn1 hul
          go_wp2_with (first
            | (at_builtin; refine wpList_append_slice rfl (.tmp 31) (.tmp 32) 22 rfl _ 23 i0 (.slice none 0 0) 24 Tryz.underlying22 hi hz0 hz1 hz2 rfl _ _ _ rfl hown _ ns rfl hs hone (by omega) (by unfold maxLen; omega) hbs ?_; intro v4 w4 hown4 hg4 hl4)
            | go_in)
          (try go_frame)
          go_roundw
          case rel => exact ⟨k + 1, us ++ ns, by omega, by go_num, by rw [List.length_append]; exact hown4, HN.out, hB.grown hg4 hbs (fun j hj => (hown.lt j hj).1)⟩
          case measure => simp [intOf]; omega
        · obtain rfl : k = Ls.length := by omega
          have HE : Hid (HeadsIn S w us R) := by have := HHd.out; rw [List.take_length, HR.out] at this; exact this
          clear hul
          go_wp2_with fail
          go_ret
          exact ⟨_, rfl, HE.out.rows hB hown hS, hB⟩

end Go.Proofs.YtmndhclmhjmbpaaGreatDoor

namespace Go.Proofs.YtmndhclmhjmbpaaGreatDoor

/-- The faces of a dimension. -/
def ofDim (all : List (List Int)) (dim : Int) : List (List Int) := all.filter (fun x => decide ((x.length : Int) - 1 = dim))
theorem ofDim_length (all : List (List Int)) (dim : Int) : (ofDim all dim).length ≤ all.length := List.length_filter_le _ _
theorem ofDim_succ {all : List (List Int)} {k : Nat} (hk : k < all.length) (dim : Int) : ofDim (all.take (k + 1)) dim = ofDim (all.take k) dim ++ (if ((all[k]?.getD []).length : Int) - 1 = dim then [all[k]?.getD []] else []) := by
  unfold ofDim
  rw [List.take_add_one, List.getElem?_eq_getElem hk, List.filter_append, Option.getD_some]
  congr 1
  by_cases h : (all[k].length : Int) - 1 = dim <;> simp [h]

end Go.Proofs.YtmndhclmhjmbpaaGreatDoor

namespace Go.Proofs.YtmndhclmhjmbpaaGreatDoor
open Go.RowKit Go.Sort

theorem told_same {l : List (List Int)} {ts ss : List (List UInt8)} {all : List (List Int)} (hok : ∀ x ∈ l, SetOk x) (hts : ts.map ints = l.map srt) (hn : ss.Nodup) (hm : ∀ x, x ∈ ss ↔ FaceOf ts x ∧ ¬ InnerOf ts x)
    (hal : IsAll (l.map srt) all) : (srtS ss).map ints = facetsI all := by
  refine facets_same (ts := ts) (fun t ht => ?_) (by rw [hts]; exact hal) hn hm
  have : ints t ∈ l.map srt := by rw [← hts]; exact List.mem_map.2 ⟨t, ht, rfl⟩
  obtain ⟨x, hx, e⟩ := List.mem_map.1 this
  rw [← e]
  exact srt_rising (hok x hx).2.1
theorem over_told {l : List (List Int)} {ts : List (List UInt8)} (hts : ts.map ints = l.map srt) (h : Over (l.map srt)) : Over ts := over_ints.1 (by rw [hts]; exact h)
theorem over_back {l : List (List Int)} {ts : List (List UInt8)} (hts : ts.map ints = l.map srt) (h : Over ts) : Over (l.map srt) := by rw [← hts]; exact over_ints.2 h

end Go.Proofs.YtmndhclmhjmbpaaGreatDoor

namespace Go.Proofs.YtmndhclmhjmbpaaGreatDoor
open Go.RowKit Go.Sort Go.Maps Go.Deep

theorem ints_at (t : List UInt8) {i : Nat} (hi : i < t.length) : (ints t)[i]?.getD 0 = ((t[i]).toNat : Int) := by
  simp [ints, hi]

theorem byte_at {t : List UInt8} {s : ByteArray} (h : (⟨t.toArray⟩ : ByteArray) = s) {i : Nat} (hi : i < s.size) (hi' : i < t.length) : wrap64 ((s[i]'hi).toNat : Int) = (ints t)[i]?.getD 0 := by
  subst h
  rw [ints_at t hi']
  have e : ((⟨t.toArray⟩ : ByteArray)[i]'hi) = t[i] := rfl
  rw [e]
  have := (t[i]).toNat_lt
  unfold wrap64
  omega
/-- A row of numbers reads as a slice. -/
theorem ints_of_row {w : World} {b : Nat} {xs : List Int} {S : Nat → Prop} (h : w.rowIs b 3 xs.length (fun j => .int .i64 (xs[j]?.getD 0))) (hS : S b) : IntsIn S w (.slice (some ⟨b, 0, none⟩) xs.length xs.length) xs := by
  refine ⟨some ⟨b, 0, none⟩, xs.length, by simp, ⟨by simp, fun h => by cases h⟩, fun _ => ⟨b, 0, rfl, hS, fun k u hu => ?_⟩⟩
  have hk : k < xs.length := by have := (List.getElem?_eq_some_iff.1 hu).1; simpa using this
  rw [Nat.zero_add, h.cell hk, ← hu]
  simp [hk]
theorem take_ints {ts : List (List UInt8)} {k : Nat} (hk : k < ts.length) : (ts.take (k + 1)).map ints = (ts.take k).map ints ++ [ints (ts[k]?.getD [])] := by
  rw [List.take_add_one, List.getElem?_eq_getElem hk, List.map_append, Option.getD_some]
  rfl

set_option maxRecDepth 100000 in
set_option maxHeartbeats 2000000 in
theorem lists_ (vt : Value) (ts : List (List UInt8)) (w : World) (ht : Strs w vt ts) (hl : ts.length ≤ 100000) (hx : ∀ t ∈ ts, t.length ≤ 1000) :
    Calls Tryz.prog 87 #[vt] w fun e w' => ∃ v, e = .returned v ∧ OwnRows w.heap.size w' v (ts.map ints) ∧ Below w.heap.size w w' := by
  obtain ⟨i0, hi, hz0, hz1, hz2⟩ := info_parts Tryz.info23
  obtain ⟨a, ca, rfl, -, ha⟩ := ht.open_
  have HX : Hid (∀ t ∈ ts, t.length ≤ 1000) := hx
  clear hx ht
  go_enter Tryz.func87, Tryz.ntmps87
  go_wp2
  go_loopw [3, 10] (fun v p wr => ∃ k : Nat, k ≤ ts.length ∧ p = .int .i64 k ∧ OwnRows w.heap.size wr v ((ts.take k).map ints) ∧ Below w.heap.size w wr)
    (fun _ p _ => ts.length - (intOf p).toNat)
  case atStart => exact ⟨0, by omega, rfl, OwnRows.nil _ _, Below.refl _ _⟩
  case round =>
    obtain ⟨k, hk, rfl, hown, hB⟩ := hrel
    have HOW : Hid (OwnRows w.heap.size wr u3 ((ts.take k).map ints)) := hown
    clear hown
    by_cases hlt : k < ts.length
    · obtain ⟨b, o, rfl, -, hb, c⟩ := ha (by omega)
      have g0 := (hB.cell (p := ⟨b, o + k, none⟩) hb).trans (c k hlt)
      have hlen : (ts[k]?.getD []).length ≤ 1000 := HX.out _ (by rw [List.getElem?_eq_getElem hlt]; simp)
      obtain ⟨t, hte⟩ : ∃ t, ts[k]?.getD [] = t := ⟨_, rfl⟩
      rw [hte] at g0 hlen
      have HT : Hid (ts[k]?.getD [] = t) := hte
      obtain ⟨s, hs⟩ : ∃ s : ByteArray, (⟨t.toArray⟩ : ByteArray) = s := ⟨_, rfl⟩
      have hsz : s.size = t.length := by rw [← hs]; rfl
      have he : encStr t = .string s := by rw [← hs, encStr]
      rw [he] at g0
      have HS : Hid ((⟨t.toArray⟩ : ByteArray) = s) := hs
      have hmk := run_make_row' (P := Tryz.prog) 23 3 (.int .i64 0) 8 Tryz.underlying23 Tryz.info3 rfl .i64 .i64 t.length (by omega) (by omega)
      obtain ⟨wo, hwo⟩ : ∃ W, W = wr := ⟨_, rfl⟩
      subst hwo
      clear hte hs he c ha
      go_wp2
      go_loopw [19] (fun p W => ∃ i : Nat, i ≤ t.length ∧ p = .int .i64 i ∧ W.rowIs wo.heap.size 3 t.length (fun j => .int .i64 (if j < i then (ints t)[j]?.getD 0 else 0)) ∧ Below wo.heap.size wo W)
        (fun p _ => t.length - (intOf p).toNat)
      case atStart => exact ⟨0, by omega, rfl, (World.rowIs_made _ _ _ _).congr (fun j _ => by simp), (Below.refl _ _).alloc (Nat.le_refl _) _⟩
      case round =>
        obtain ⟨i, hit, rfl, hrow, hB2⟩ := hrel
        by_cases hlt2 : i < t.length
        · have hcell := hrow.cell hlt2
          have hfz := hrow.frozen i
          have HR : Hid (wr.rowIs wo.heap.size 3 t.length (fun j => .int .i64 (if j < i then (ints t)[j]?.getD 0 else 0))) := hrow
          simp only [Nat.lt_irrefl, if_false] at hcell
          clear hrow
          go_wp2
          go_roundw
          case rel =>
            refine ⟨i + 1, by omega, by go_num, (HR.out.set i _).congr (fun j _ => ?_), hB2.setCell (p := ⟨wo.heap.size, i, none⟩) (Nat.le_refl _) _⟩
            by_cases e : j = i
            · subst e
              rw [if_pos rfl, if_pos (Nat.lt_succ_self _), byte_at HS.out (by omega) hlt2]
            · rw [if_neg e]
              by_cases e2 : j < i
              · rw [if_pos e2, if_pos (by omega)]
              · rw [if_neg e2, if_neg (by omega)]
          case measure => simp [intOf]; omega
        · obtain rfl : i = t.length := by omega
          have hil : (ints t).length = t.length := ints_length t
          have hnew : IntsIn (fun b => w.heap.size ≤ b ∧ some b ≠ Value.ownBlock u3) wr (.slice (some ⟨wo.heap.size, 0, none⟩) t.length t.length) (ints t) := by
            rw [← hil]
            refine ints_of_row (hrow.congr (fun j hj => by rw [if_pos hj]) |> fun h => by rw [hil]; exact h) ⟨hB.size, fun e => ?_⟩
            have := (HOW.out.block e.symm).2
            omega
          obtain ⟨vs, ho1, ho2⟩ := HOW.out.below hB2
          have HO1 : Hid (wr.ownsRow w.heap.size 23 1 u3 ((ts.take k).map ints).length vs) := ho1
          have HO2 : Hid (∀ (k' : Nat) (u : Value) (x : List Int), vs[k']? = some u → ((ts.take k).map ints)[k']? = some x → IntsIn (fun b => w.heap.size ≤ b ∧ some b ≠ u3.ownBlock) wr u x) := ho2
          have HNW : Hid (IntsIn (fun b => w.heap.size ≤ b ∧ some b ≠ Value.ownBlock u3) wr (.slice (some ⟨wo.heap.size, 0, none⟩) t.length t.length) (ints t)) := hnew
          have hks : ((ts.take k).map ints).length = k := by simp; omega
          rw [hks] at ho1
          have hBw : Below w.heap.size w wr := hB.trans (hB2.mono hB.size)
          have hbs := hBw.size
          clear hnew ho2 hrow hil
          go_wp2_with (first
            | (at_builtin; refine wpList_append_slice rfl (.tmp 30) (.tmp 32) 22 rfl w.heap.size 23 i0 (.slice none 0 0) 24 Tryz.underlying22 hi hz0 hz1 hz2 rfl _ _ _ rfl (ho1.alloc _) _ [.slice (some ⟨wo.heap.size, 0, none⟩) t.length t.length] rfl (slice_one _ _ _) (by simp [Value.oneCell']) (by simp; omega) (by unfold maxLen; simp; omega) (by simp; omega) ?_; intro v3 w4 hown3 hg3 hl3)
            | go_in)
          (try go_frame)
          go_roundw
          case rel =>
            have hown4 : w4.ownsRow w.heap.size 23 1 v3 (((ts.take k).map ints).length + 1) (vs ++ [.slice (some ⟨wo.heap.size, 0, none⟩) t.length t.length]) := by rw [hks]; exact hown3
            exact ⟨k + 1, by omega, by go_num, by rw [take_ints hlt, HT.out]; exact OwnRows.push HO1.out HO2.out HNW.out hown4 hg3 hl3, (hBw.alloc hbs _).grown hg3 (by simp; omega) (fun j hj => (ho1.lt j hj).1)⟩
          case measure => simp [intOf]; omega
    · obtain rfl : k = ts.length := by omega
      have hfin := HOW.out
      rw [List.take_length] at hfin
      have HF : Hid (OwnRows w.heap.size wr u3 (ts.map ints)) := hfin
      clear ha hfin
      go_wp2
      go_ret
      exact ⟨_, rfl, HF.out, hB⟩

end Go.Proofs.YtmndhclmhjmbpaaGreatDoor
