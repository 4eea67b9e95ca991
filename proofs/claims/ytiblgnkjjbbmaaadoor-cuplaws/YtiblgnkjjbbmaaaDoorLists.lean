/- The faces of a dimension. What the map of faces tells and what the reference tells are the same. What facets answers: the faces that are parts of no greater one, in order. What lists answers: the vertices that texts stand for, in new memory. -/
import Derived.Test.YtiblgnkjjbbmaaaDoorMath2
import Derived.Test.YtiblgnkjjbbmaaaDoorMathV
import Derived.Maps.OwnOps
namespace Go.Proofs.YtiblgnkjjbbmaaaDoor

/-- The faces of a dimension. -/
def ofDim (all : List (List Int)) (dim : Int) : List (List Int) := all.filter (fun x => decide ((x.length : Int) - 1 = dim))
theorem ofDim_length (all : List (List Int)) (dim : Int) : (ofDim all dim).length ≤ all.length := List.length_filter_le _ _
theorem ofDim_succ {all : List (List Int)} {k : Nat} (hk : k < all.length) (dim : Int) : ofDim (all.take (k + 1)) dim = ofDim (all.take k) dim ++ (if ((all[k]?.getD []).length : Int) - 1 = dim then [all[k]?.getD []] else []) := by
  unfold ofDim
  rw [List.take_add_one, List.getElem?_eq_getElem hk, List.filter_append, Option.getD_some]
  congr 1
  by_cases h : (all[k].length : Int) - 1 = dim <;> simp [h]

end Go.Proofs.YtiblgnkjjbbmaaaDoor

namespace Go.Proofs.YtiblgnkjjbbmaaaDoor
open Go.RowKit Go.Sort

theorem told_same {l : List (List Int)} {ts ss : List (List UInt8)} {all : List (List Int)} (hok : ∀ x ∈ l, SetOk x) (hts : ts.map ints = l.map srt) (hn : ss.Nodup) (hm : ∀ x, x ∈ ss ↔ FaceOf ts x ∧ ¬ InnerOf ts x)
    (hal : IsAll (l.map srt) all) : (srtS ss).map ints = facetsI all := by
  refine facets_same (ts := ts) (fun t ht => ?_) (by rw [hts]; exact hal) hn hm
  have : ints t ∈ l.map srt := by rw [← hts]; exact List.mem_map.2 ⟨t, ht, rfl⟩
  obtain ⟨x, hx, e⟩ := List.mem_map.1 this
  rw [← e]
  exact srt_rising (hok x hx).2.1
theorem over_told {l : List (List Int)} {ts : List (List UInt8)} (hts : ts.map ints = l.map srt) (h : Over (l.map srt)) : Over ts := over_ints.1 (by rw [hts]; exact h)
theorem over_back {l : List (List Int)} {ts : List (List UInt8)} (hts : ts.map ints = l.map srt) (h : Over ts) : Over (l.map srt) := by rw [← hts]; exact over_ints.2 h

end Go.Proofs.YtiblgnkjjbbmaaaDoor

namespace Go.Proofs.YtiblgnkjjbbmaaaDoor
open Go.RowKit Go.Sort Go.Maps

theorem outer_ (b : Nat) (F : List (List UInt8)) (G : List UInt8 → Prop) (x : List UInt8) (Bx : Nat) (q : Bool) (w : World) (hP : PileAt w b F G) (hB : w.cell? ⟨Bx, 0, none⟩ = some (.map (some b))) (hx : x ∈ F) (hl : x.length ≤ 1000) (hq : q = true ↔ ¬ G x) :
    Calls Tryd.prog 65 #[encStr x, .pointer (some ⟨Bx, 0, none⟩)] w fun e w' => e = .returned (.bool q) ∧ w' = w := by
  obtain ⟨D, d1, -, -, d4⟩ := hP
  have hkey := key_of x (by unfold maxLen; omega)
  have h4 := d4 x hx
  have HV : Hid (∀ c : Int, D.atKey (.string x) (.lit (.int .i64 0)) = .lit (.int .i64 c) → (c == 0) = q) := fun c hc => by
    cases q with
    | true =>
      rw [h4.2 (hq.1 rfl)] at hc
      cases hc; rfl
    | false =>
      have hg : G x := Classical.byContradiction (fun h => by have := hq.2 h; cases this)
      rw [h4.1 hg] at hc
      cases hc; rfl
  clear d4 h4 hq
  go_enter Tryd.func65, Tryd.ntmps65
  go_wp2_with (first
    | (at_lookup; refine wpList_lookup_own_int _ rfl _ _ 90 rfl 9 3 .i64 law_string Tryd.underlying90 Tryd.underlying3 (zero_int _) b _ _ rfl d1 _ _ rfl hkey ?_; intro c hat hwc)
    | go_in)
  go_ret
  exact ⟨by rw [← HV.out c hat]; rfl, rfl⟩

/-- What facets answers. -/
def FacetsSays (F : List (List UInt8)) (G : List UInt8 → Prop) (w : World) (e : Ending) (w' : World) : Prop :=
  ∃ v ss, e = .returned v ∧ StrsIn (fun b => w.heap.size ≤ b) w' v (srtS ss) ∧ ss.Nodup ∧ (∀ x, x ∈ ss ↔ x ∈ F ∧ ¬ G x) ∧ Below w.heap.size w w'

open Classical in
set_option maxRecDepth 100000 in
theorem facets_ (b : Nat) (F : List (List UInt8)) (G : List UInt8 → Prop) (w : World) (hP : PileAt w b F G) (hF : F.length ≤ 100000) (hx : ∀ x ∈ F, x.length ≤ 1000) :
    Calls Tryd.prog 61 #[.map (some b)] w fun e w' => FacetsSays F G w e w' := by
  have hP1 := hP.below ((Below.refl _ w).alloc (Nat.le_refl _) (.cells #[.map (some b)] 90))
  have hbox := box_new w (.map (some b)) 90
  have hkept := kept_ b F G 65 #[.pointer (some ⟨w.heap.size, 0, none⟩)] (fun x => decide (¬ G x)) (w.alloc (.cells #[.map (some b)] 90)) hP1 hF hx (enters_of Tryd.func65 (by kernel_rfl) rfl)
    (fun x hxF W hW => outer_ b F G x w.heap.size _ W (hP1.below hW) ((hW.cell (p := ⟨w.heap.size, 0, none⟩) (by simp)).trans hbox.1) hxF (hx x hxF) (by simp))
  clear hP1
  have hb := hbox.1
  clear hbox
  go_enter Tryd.func61, Tryd.ntmps61
  go_wp2_with fail
  refine hkept.mono ?_
  rintro e w2 ⟨v, ss, rfl, h1, h2, h3, h4⟩
  go_wp2
  go_ret
  refine ⟨_, ss, rfl, h1.mono (fun b _ h => by simp at h; omega), h2, fun x => by rw [h3]; simp, ((Below.refl _ w).alloc (Nat.le_refl _) _).trans (h4.mono (by simp))⟩

end Go.Proofs.YtiblgnkjjbbmaaaDoor

namespace Go.Proofs.YtiblgnkjjbbmaaaDoor
open Go.RowKit Go.Sort Go.Maps Go.Deep

theorem ints_at (t : List UInt8) {i : Nat} (hi : i < t.length) : (ints t)[i]?.getD 0 = ((t[i]).toNat : Int) := by
  simp [ints, hi]

theorem byte_at {t : List UInt8} {s : ByteArray} (h : (⟨t.toArray⟩ : ByteArray) = s) {i : Nat} (hi : i < s.size) (hi' : i < t.length) : wrap64 ((s[i]'hi).toNat : Int) = (ints t)[i]?.getD 0 := by
  subst h
  rw [ints_at t hi']
  have e : ((⟨t.toArray⟩ : ByteArray)[i]'hi) = t[i] := rfl
  rw [e]
  have := (t[i]).toNat_lt
  unfold wrap64
  omega
/-- A row of numbers reads as a slice. -/
theorem ints_of_row {w : World} {b : Nat} {xs : List Int} {S : Nat → Prop} (h : w.rowIs b 3 xs.length (fun j => .int .i64 (xs[j]?.getD 0))) (hS : S b) : IntsIn S w (.slice (some ⟨b, 0, none⟩) xs.length xs.length) xs := by
  refine ⟨some ⟨b, 0, none⟩, xs.length, by simp, ⟨by simp, fun h => by cases h⟩, fun _ => ⟨b, 0, rfl, hS, fun k u hu => ?_⟩⟩
  have hk : k < xs.length := by have := (List.getElem?_eq_some_iff.1 hu).1; simpa using this
  rw [Nat.zero_add, h.cell hk, ← hu]
  simp [hk]
theorem take_ints {ts : List (List UInt8)} {k : Nat} (hk : k < ts.length) : (ts.take (k + 1)).map ints = (ts.take k).map ints ++ [ints (ts[k]?.getD [])] := by
  rw [List.take_add_one, List.getElem?_eq_getElem hk, List.map_append, Option.getD_some]
  rfl

set_option maxRecDepth 100000 in
set_option maxHeartbeats 2000000 in
theorem lists_ (vt : Value) (ts : List (List UInt8)) (w : World) (ht : Strs w vt ts) (hl : ts.length ≤ 100000) (hx : ∀ t ∈ ts, t.length ≤ 1000) :
    Calls Tryd.prog 50 #[vt] w fun e w' => ∃ v, e = .returned v ∧ OwnRows w.heap.size w' v (ts.map ints) ∧ Below w.heap.size w w' := by
  obtain ⟨i0, hi, hz0, hz1, hz2⟩ := info_parts Tryd.info23
  obtain ⟨a, ca, rfl, -, ha⟩ := ht.open_
  have HX : Hid (∀ t ∈ ts, t.length ≤ 1000) := hx
  clear hx ht
  go_enter Tryd.func50, Tryd.ntmps50
  go_wp2
  go_loopw [3, 10] (fun v p wr => ∃ k : Nat, k ≤ ts.length ∧ p = .int .i64 k ∧ OwnRows w.heap.size wr v ((ts.take k).map ints) ∧ Below w.heap.size w wr)
    (fun _ p _ => ts.length - (intOf p).toNat)
  case atStart => exact ⟨0, by omega, rfl, OwnRows.nil _ _, Below.refl _ _⟩
  case round =>
    obtain ⟨k, hk, rfl, hown, hB⟩ := hrel
    have HOW : Hid (OwnRows w.heap.size wr u3 ((ts.take k).map ints)) := hown
    clear hown
    by_cases hlt : k < ts.length
    · obtain ⟨b, o, rfl, -, hb, c⟩ := ha (by omega)
      have g0 := (hB.cell (p := ⟨b, o + k, none⟩) hb).trans (c k hlt)
      have hlen : (ts[k]?.getD []).length ≤ 1000 := HX.out _ (by rw [List.getElem?_eq_getElem hlt]; simp)
      obtain ⟨t, hte⟩ : ∃ t, ts[k]?.getD [] = t := ⟨_, rfl⟩
      rw [hte] at g0 hlen
      have HT : Hid (ts[k]?.getD [] = t) := hte
      obtain ⟨s, hs⟩ : ∃ s : ByteArray, (⟨t.toArray⟩ : ByteArray) = s := ⟨_, rfl⟩
      have hsz : s.size = t.length := by rw [← hs]; rfl
      have he : encStr t = .string s := by rw [← hs, encStr]
      rw [he] at g0
      have HS : Hid ((⟨t.toArray⟩ : ByteArray) = s) := hs
      have hmk := run_make_row' (P := Tryd.prog) 23 3 (.int .i64 0) 8 Tryd.underlying23 Tryd.info3 rfl .i64 .i64 t.length (by omega) (by omega)
      obtain ⟨wo, hwo⟩ : ∃ W, W = wr := ⟨_, rfl⟩
      subst hwo
      clear hte hs he c ha
      go_wp2
      go_loopw [19] (fun p W => ∃ i : Nat, i ≤ t.length ∧ p = .int .i64 i ∧ W.rowIs wo.heap.size 3 t.length (fun j => .int .i64 (if j < i then (ints t)[j]?.getD 0 else 0)) ∧ Below wo.heap.size wo W)
        (fun p _ => t.length - (intOf p).toNat)
      case atStart => exact ⟨0, by omega, rfl, (World.rowIs_made _ _ _ _).congr (fun j _ => by simp), (Below.refl _ _).alloc (Nat.le_refl _) _⟩
      case round =>
        obtain ⟨i, hit, rfl, hrow, hB2⟩ := hrel
        by_cases hlt2 : i < t.length
        · have hcell := hrow.cell hlt2
          have hfz := hrow.frozen i
          have HR : Hid (wr.rowIs wo.heap.size 3 t.length (fun j => .int .i64 (if j < i then (ints t)[j]?.getD 0 else 0))) := hrow
          simp only [Nat.lt_irrefl, if_false] at hcell
          clear hrow
          go_wp2
          go_roundw
          case rel =>
            refine ⟨i + 1, by omega, by go_num, (HR.out.set i _).congr (fun j _ => ?_), hB2.setCell (p := ⟨wo.heap.size, i, none⟩) (Nat.le_refl _) _⟩
            by_cases e : j = i
            · subst e
              rw [if_pos rfl, if_pos (Nat.lt_succ_self _), byte_at HS.out (by omega) hlt2]
            · rw [if_neg e]
              by_cases e2 : j < i
              · rw [if_pos e2, if_pos (by omega)]
              · rw [if_neg e2, if_neg (by omega)]
          case measure => simp [intOf]; omega
        · obtain rfl : i = t.length := by omega
          have hil : (ints t).length = t.length := ints_length t
          have hnew : IntsIn (fun b => w.heap.size ≤ b ∧ some b ≠ Value.ownBlock u3) wr (.slice (some ⟨wo.heap.size, 0, none⟩) t.length t.length) (ints t) := by
            rw [← hil]
            refine ints_of_row (hrow.congr (fun j hj => by rw [if_pos hj]) |> fun h => by rw [hil]; exact h) ⟨hB.size, fun e => ?_⟩
            have := (HOW.out.block e.symm).2
            omega
          obtain ⟨vs, ho1, ho2⟩ := HOW.out.below hB2
          have HO1 : Hid (wr.ownsRow w.heap.size 23 1 u3 ((ts.take k).map ints).length vs) := ho1
          have HO2 : Hid (∀ (k' : Nat) (u : Value) (x : List Int), vs[k']? = some u → ((ts.take k).map ints)[k']? = some x → IntsIn (fun b => w.heap.size ≤ b ∧ some b ≠ u3.ownBlock) wr u x) := ho2
          have HNW : Hid (IntsIn (fun b => w.heap.size ≤ b ∧ some b ≠ Value.ownBlock u3) wr (.slice (some ⟨wo.heap.size, 0, none⟩) t.length t.length) (ints t)) := hnew
          have hks : ((ts.take k).map ints).length = k := by simp; omega
          rw [hks] at ho1
          have hBw : Below w.heap.size w wr := hB.trans (hB2.mono hB.size)
          have hbs := hBw.size
          clear hnew ho2 hrow hil
          go_wp2_with (first
            | (at_builtin; refine wpList_append_slice rfl (.tmp 30) (.tmp 32) 22 rfl w.heap.size 23 i0 (.slice none 0 0) 24 Tryd.underlying22 hi hz0 hz1 hz2 rfl _ _ _ rfl (ho1.alloc _) _ [.slice (some ⟨wo.heap.size, 0, none⟩) t.length t.length] rfl (slice_one _ _ _) (by simp [Value.oneCell']) (by simp; omega) (by unfold maxLen; simp; omega) (by simp; omega) ?_; intro v3 w4 hown3 hg3 hl3)
            | go_in)
          (try go_frame)
          go_roundw
          case rel =>
            have hown4 : w4.ownsRow w.heap.size 23 1 v3 (((ts.take k).map ints).length + 1) (vs ++ [.slice (some ⟨wo.heap.size, 0, none⟩) t.length t.length]) := by rw [hks]; exact hown3
            exact ⟨k + 1, by omega, by go_num, by rw [take_ints hlt, HT.out]; exact OwnRows.push HO1.out HO2.out HNW.out hown4 hg3 hl3, (hBw.alloc hbs _).grown hg3 (by simp; omega) (fun j hj => (ho1.lt j hj).1)⟩
          case measure => simp [intOf]; omega
    · obtain rfl : k = ts.length := by omega
      have hfin := HOW.out
      rw [List.take_length] at hfin
      have HF : Hid (OwnRows w.heap.size wr u3 (ts.map ints)) := hfin
      clear ha hfin
      go_wp2
      go_ret
      exact ⟨_, rfl, HF.out, hB⟩

end Go.Proofs.YtiblgnkjjbbmaaaDoor
