/- What the map of faces tells and what the reference tells are the same. What facets answers: the faces that are parts of no greater one, in order. What lists answers: the vertices that texts stand for, in new memory. What told answers: the complex of the facets that a map of faces tells. A world behind two calls, and behind a box. What slices.Equal and slices.EqualFunc answer: whether two lists are the same; nothing is written. What open answers of a complex that was handed in: the map of its faces, or which error it has. -/
import Derived.Test.YthmjdfjchhohgaaGreatDoorMathV
import Derived.Test.YthmjdfjchhohgaaGreatDoorGather
import Derived.Maps.OwnOps
import Derived.Deep.RegionHeld3
namespace Go.Proofs.YthmjdfjchhohgaaGreatDoor
open Go.RowKit Go.Sort

theorem told_same {l : List (List Int)} {ts ss : List (List UInt8)} {all : List (List Int)} (hok : ∀ x ∈ l, SetOk x) (hts : ts.map ints = l.map srt) (hn : ss.Nodup) (hm : ∀ x, x ∈ ss ↔ FaceOf ts x ∧ ¬ InnerOf ts x)
    (hal : IsAll (l.map srt) all) : (srtS ss).map ints = facetsI all := by
  refine facets_same (ts := ts) (fun t ht => ?_) (by rw [hts]; exact hal) hn hm
  have : ints t ∈ l.map srt := by rw [← hts]; exact List.mem_map.2 ⟨t, ht, rfl⟩
  obtain ⟨x, hx, e⟩ := List.mem_map.1 this
  rw [← e]
  exact srt_rising (hok x hx).2.1
theorem over_told {l : List (List Int)} {ts : List (List UInt8)} (hts : ts.map ints = l.map srt) (h : Over (l.map srt)) : Over ts := over_ints.1 (by rw [hts]; exact h)
theorem over_back {l : List (List Int)} {ts : List (List UInt8)} (hts : ts.map ints = l.map srt) (h : Over ts) : Over (l.map srt) := by rw [← hts]; exact over_ints.2 h

end Go.Proofs.YthmjdfjchhohgaaGreatDoor

namespace Go.Proofs.YthmjdfjchhohgaaGreatDoor
open Go.RowKit Go.Sort Go.Maps

theorem outer_ (b : Nat) (F : List (List UInt8)) (G : List UInt8 → Prop) (x : List UInt8) (Bx : Nat) (q : Bool) (w : World) (hP : PileAt w b F G) (hB : w.cell? ⟨Bx, 0, none⟩ = some (.map (some b))) (hx : x ∈ F) (hl : x.length ≤ 1000) (hq : q = true ↔ ¬ G x) :
    Calls Tryz.prog 118 #[encStr x, .pointer (some ⟨Bx, 0, none⟩)] w fun e w' => e = .returned (.bool q) ∧ w' = w := by
  obtain ⟨D, d1, -, -, d4⟩ := hP
  have hkey := key_of x (by unfold maxLen; omega)
  have h4 := d4 x hx
  have HV : Hid (∀ c : Int, D.atKey (.string x) (.lit (.int .i64 0)) = .lit (.int .i64 c) → (c == 0) = q) := fun c hc => by
    cases q with
    | true =>
      rw [h4.2 (hq.1 rfl)] at hc
      cases hc; rfl
    | false =>
      have hg : G x := Classical.byContradiction (fun h => by have := hq.2 h; cases this)
      rw [h4.1 hg] at hc
      cases hc; rfl
  clear d4 h4 hq
  go_enter Tryz.func118, Tryz.ntmps118
  go_wp2_with (first
    | (at_lookup; refine wpList_lookup_own_int _ rfl _ _ 71 rfl 9 3 .i64 law_string Tryz.underlying71 Tryz.underlying3 (zero_int _) b _ _ rfl d1 _ _ rfl hkey ?_; intro c hat hwc)
    | go_in)
  go_ret
  exact ⟨by rw [← HV.out c hat]; rfl, rfl⟩

/-- What facets answers. -/
def FacetsSays (F : List (List UInt8)) (G : List UInt8 → Prop) (w : World) (e : Ending) (w' : World) : Prop :=
  ∃ v ss, e = .returned v ∧ StrsIn (fun b => w.heap.size ≤ b) w' v (srtS ss) ∧ ss.Nodup ∧ (∀ x, x ∈ ss ↔ x ∈ F ∧ ¬ G x) ∧ Below w.heap.size w w'

open Classical in
set_option maxRecDepth 100000 in
theorem facets_ (b : Nat) (F : List (List UInt8)) (G : List UInt8 → Prop) (w : World) (hP : PileAt w b F G) (hF : F.length ≤ 100000) (hx : ∀ x ∈ F, x.length ≤ 1000) :
    Calls Tryz.prog 99 #[.map (some b)] w fun e w' => FacetsSays F G w e w' := by
  have hP1 := hP.below ((Below.refl _ w).alloc (Nat.le_refl _) (.cells #[.map (some b)] 71))
  have hbox := box_new w (.map (some b)) 71
  have hkept := kept_ b F G 118 #[.pointer (some ⟨w.heap.size, 0, none⟩)] (fun x => decide (¬ G x)) (w.alloc (.cells #[.map (some b)] 71)) hP1 hF hx (enters_of Tryz.func118 (by kernel_rfl) rfl)
    (fun x hxF W hW => outer_ b F G x w.heap.size _ W (hP1.below hW) ((hW.cell (p := ⟨w.heap.size, 0, none⟩) (by simp)).trans hbox.1) hxF (hx x hxF) (by simp))
  clear hP1
  have hb := hbox.1
  clear hbox
  go_enter Tryz.func99, Tryz.ntmps99
  go_wp2_with fail
  refine hkept.mono ?_
  rintro e w2 ⟨v, ss, rfl, h1, h2, h3, h4⟩
  go_wp2
  go_ret
  refine ⟨_, ss, rfl, h1.mono (fun b _ h => by simp at h; omega), h2, fun x => by rw [h3]; simp, ((Below.refl _ w).alloc (Nat.le_refl _) _).trans (h4.mono (by simp))⟩

end Go.Proofs.YthmjdfjchhohgaaGreatDoor

namespace Go.Proofs.YthmjdfjchhohgaaGreatDoor
open Go.RowKit Go.Sort Go.Maps Go.Deep

theorem ints_at (t : List UInt8) {i : Nat} (hi : i < t.length) : (ints t)[i]?.getD 0 = ((t[i]).toNat : Int) := by
  simp [ints, hi]

theorem byte_at {t : List UInt8} {s : ByteArray} (h : (⟨t.toArray⟩ : ByteArray) = s) {i : Nat} (hi : i < s.size) (hi' : i < t.length) : wrap64 ((s[i]'hi).toNat : Int) = (ints t)[i]?.getD 0 := by
  subst h
  rw [ints_at t hi']
  have e : ((⟨t.toArray⟩ : ByteArray)[i]'hi) = t[i] := rfl
  rw [e]
  have := (t[i]).toNat_lt
  unfold wrap64
  omega
/-- A row of numbers reads as a slice. -/
theorem ints_of_row {w : World} {b : Nat} {xs : List Int} {S : Nat → Prop} (h : w.rowIs b 3 xs.length (fun j => .int .i64 (xs[j]?.getD 0))) (hS : S b) : IntsIn S w (.slice (some ⟨b, 0, none⟩) xs.length xs.length) xs := by
  refine ⟨some ⟨b, 0, none⟩, xs.length, by simp, ⟨by simp, fun h => by cases h⟩, fun _ => ⟨b, 0, rfl, hS, fun k u hu => ?_⟩⟩
  have hk : k < xs.length := by have := (List.getElem?_eq_some_iff.1 hu).1; simpa using this
  rw [Nat.zero_add, h.cell hk, ← hu]
  simp [hk]
theorem take_ints {ts : List (List UInt8)} {k : Nat} (hk : k < ts.length) : (ts.take (k + 1)).map ints = (ts.take k).map ints ++ [ints (ts[k]?.getD [])] := by
  rw [List.take_add_one, List.getElem?_eq_getElem hk, List.map_append, Option.getD_some]
  rfl

set_option maxRecDepth 100000 in
set_option maxHeartbeats 2000000 in
theorem lists_ (vt : Value) (ts : List (List UInt8)) (w : World) (ht : Strs w vt ts) (hl : ts.length ≤ 100000) (hx : ∀ t ∈ ts, t.length ≤ 1000) :
    Calls Tryz.prog 87 #[vt] w fun e w' => ∃ v, e = .returned v ∧ OwnRows w.heap.size w' v (ts.map ints) ∧ Below w.heap.size w w' := by
  obtain ⟨i0, hi, hz0, hz1, hz2⟩ := info_parts Tryz.info23
  obtain ⟨a, ca, rfl, -, ha⟩ := ht.open_
  have HX : Hid (∀ t ∈ ts, t.length ≤ 1000) := hx
  clear hx ht
  go_enter Tryz.func87, Tryz.ntmps87
  go_wp2
  go_loopw [3, 10] (fun v p wr => ∃ k : Nat, k ≤ ts.length ∧ p = .int .i64 k ∧ OwnRows w.heap.size wr v ((ts.take k).map ints) ∧ Below w.heap.size w wr)
    (fun _ p _ => ts.length - (intOf p).toNat)
  case atStart => exact ⟨0, by omega, rfl, OwnRows.nil _ _, Below.refl _ _⟩
  case round =>
    obtain ⟨k, hk, rfl, hown, hB⟩ := hrel
    have HOW : Hid (OwnRows w.heap.size wr u3 ((ts.take k).map ints)) := hown
    clear hown
    by_cases hlt : k < ts.length
    · obtain ⟨b, o, rfl, -, hb, c⟩ := ha (by omega)
      have g0 := (hB.cell (p := ⟨b, o + k, none⟩) hb).trans (c k hlt)
      have hlen : (ts[k]?.getD []).length ≤ 1000 := HX.out _ (by rw [List.getElem?_eq_getElem hlt]; simp)
      obtain ⟨t, hte⟩ : ∃ t, ts[k]?.getD [] = t := ⟨_, rfl⟩
      rw [hte] at g0 hlen
      have HT : Hid (ts[k]?.getD [] = t) := hte
      obtain ⟨s, hs⟩ : ∃ s : ByteArray, (⟨t.toArray⟩ : ByteArray) = s := ⟨_, rfl⟩
      have hsz : s.size = t.length := by rw [← hs]; rfl
      have he : encStr t = .string s := by rw [← hs, encStr]
      rw [he] at g0
      have HS : Hid ((⟨t.toArray⟩ : ByteArray) = s) := hs
      have hmk := run_make_row' (P := Tryz.prog) 23 3 (.int .i64 0) 8 Tryz.underlying23 Tryz.info3 rfl .i64 .i64 t.length (by omega) (by omega)
      obtain ⟨wo, hwo⟩ : ∃ W, W = wr := ⟨_, rfl⟩
      subst hwo
      clear hte hs he c ha
      go_wp2
      go_loopw [19] (fun p W => ∃ i : Nat, i ≤ t.length ∧ p = .int .i64 i ∧ W.rowIs wo.heap.size 3 t.length (fun j => .int .i64 (if j < i then (ints t)[j]?.getD 0 else 0)) ∧ Below wo.heap.size wo W)
        (fun p _ => t.length - (intOf p).toNat)
      case atStart => exact ⟨0, by omega, rfl, (World.rowIs_made _ _ _ _).congr (fun j _ => by simp), (Below.refl _ _).alloc (Nat.le_refl _) _⟩
      case round =>
        obtain ⟨i, hit, rfl, hrow, hB2⟩ := hrel
        by_cases hlt2 : i < t.length
        · have hcell := hrow.cell hlt2
          have hfz := hrow.frozen i
          have HR : Hid (wr.rowIs wo.heap.size 3 t.length (fun j => .int .i64 (if j < i then (ints t)[j]?.getD 0 else 0))) := hrow
          simp only [Nat.lt_irrefl, if_false] at hcell
          clear hrow
          go_wp2
          go_roundw
          case rel =>
            refine ⟨i + 1, by omega, by go_num, (HR.out.set i _).congr (fun j _ => ?_), hB2.setCell (p := ⟨wo.heap.size, i, none⟩) (Nat.le_refl _) _⟩
            by_cases e : j = i
            · subst e
              rw [if_pos rfl, if_pos (Nat.lt_succ_self _), byte_at HS.out (by omega) hlt2]
            · rw [if_neg e]
              by_cases e2 : j < i
              · rw [if_pos e2, if_pos (by omega)]
              · rw [if_neg e2, if_neg (by omega)]
          case measure => simp [intOf]; omega
        · obtain rfl : i = t.length := by omega
          have hil : (ints t).length = t.length := ints_length t
          have hnew : IntsIn (fun b => w.heap.size ≤ b ∧ some b ≠ Value.ownBlock u3) wr (.slice (some ⟨wo.heap.size, 0, none⟩) t.length t.length) (ints t) := by
            rw [← hil]
            refine ints_of_row (hrow.congr (fun j hj => by rw [if_pos hj]) |> fun h => by rw [hil]; exact h) ⟨hB.size, fun e => ?_⟩
            have := (HOW.out.block e.symm).2
            omega
          obtain ⟨vs, ho1, ho2⟩ := HOW.out.below hB2
          have HO1 : Hid (wr.ownsRow w.heap.size 23 1 u3 ((ts.take k).map ints).length vs) := ho1
          have HO2 : Hid (∀ (k' : Nat) (u : Value) (x : List Int), vs[k']? = some u → ((ts.take k).map ints)[k']? = some x → IntsIn (fun b => w.heap.size ≤ b ∧ some b ≠ u3.ownBlock) wr u x) := ho2
          have HNW : Hid (IntsIn (fun b => w.heap.size ≤ b ∧ some b ≠ Value.ownBlock u3) wr (.slice (some ⟨wo.heap.size, 0, none⟩) t.length t.length) (ints t)) := hnew
          have hks : ((ts.take k).map ints).length = k := by simp; omega
          rw [hks] at ho1
          have hBw : Below w.heap.size w wr := hB.trans (hB2.mono hB.size)
          have hbs := hBw.size
          clear hnew ho2 hrow hil
          go_wp2_with (first
            | (at_builtin; refine wpList_append_slice rfl (.tmp 30) (.tmp 32) 22 rfl w.heap.size 23 i0 (.slice none 0 0) 24 Tryz.underlying22 hi hz0 hz1 hz2 rfl _ _ _ rfl (ho1.alloc _) _ [.slice (some ⟨wo.heap.size, 0, none⟩) t.length t.length] rfl (slice_one _ _ _) (by simp [Value.oneCell']) (by simp; omega) (by unfold maxLen; simp; omega) (by simp; omega) ?_; intro v3 w4 hown3 hg3 hl3)
            | go_in)
          (try go_frame)
          go_roundw
          case rel =>
            have hown4 : w4.ownsRow w.heap.size 23 1 v3 (((ts.take k).map ints).length + 1) (vs ++ [.slice (some ⟨wo.heap.size, 0, none⟩) t.length t.length]) := by rw [hks]; exact hown3
            exact ⟨k + 1, by omega, by go_num, by rw [take_ints hlt, HT.out]; exact OwnRows.push HO1.out HO2.out HNW.out hown4 hg3 hl3, (hBw.alloc hbs _).grown hg3 (by simp; omega) (fun j hj => (ho1.lt j hj).1)⟩
          case measure => simp [intOf]; omega
    · obtain rfl : k = ts.length := by omega
      have hfin := HOW.out
      rw [List.take_length] at hfin
      have HF : Hid (OwnRows w.heap.size wr u3 (ts.map ints)) := hfin
      clear ha hfin
      go_wp2
      go_ret
      exact ⟨_, rfl, HF.out, hB⟩

end Go.Proofs.YthmjdfjchhohgaaGreatDoor

namespace Go.Proofs.YthmjdfjchhohgaaGreatDoor
open Go.RowKit Go.Sort Go.Maps Go.Deep

/-- What told answers. -/
def ToldSays (F : List (List UInt8)) (G : List UInt8 → Prop) (w : World) (e : Ending) (w' : World) : Prop :=
  ∃ v ss, e = .returned (.agg #[v]) ∧ OwnRows w.heap.size w' v ((srtS ss).map ints) ∧ ss.Nodup ∧ (∀ x, x ∈ ss ↔ x ∈ F ∧ ¬ G x) ∧ Below w.heap.size w w'

theorem OwnRows.lower {base base' : Nat} {w : World} {v : Value} {xss : List (List Int)} (h : OwnRows base w v xss) (hb : base' ≤ base) : OwnRows base' w v xss := by
  obtain ⟨vs, ⟨h1, h2⟩, h3⟩ := h
  refine ⟨vs, ⟨h1, ?_⟩, fun k u x hu hx => SliceIn.mono (h3 k u x hu hx) (fun b _ h => ⟨Nat.le_trans hb h.1, h.2⟩)⟩
  rcases h2 with h2 | ⟨g, cap, cur, e1, e2, e3⟩
  · exact .inl h2
  · exact .inr ⟨g, cap, cur, e1, Nat.le_trans hb e2, e3⟩

theorem OwnRows.setCell {base : Nat} {w : World} {v : Value} {xss : List (List Int)} (h : OwnRows base w v xss) {p : Addr} (hp : p.block < base) (u : Value) : OwnRows base (w.setCell p u) v xss := by
  obtain ⟨vs, h1, h3⟩ := h
  refine ⟨vs, ownsRow_setCell_below h1 hp u, fun k u' x hu hx => SliceIn.keep (h3 k u' x hu hx) (fun b _ h => ?_)⟩
  exact blk_setCell_other w p u b (fun e => by omega)

set_option maxRecDepth 100000 in
theorem told_ (b : Nat) (F : List (List UInt8)) (G : List UInt8 → Prop) (w : World) (hP : PileAt w b F G) (hF : F.length ≤ 100000) (hx : ∀ x ∈ F, x.length ≤ 1000) :
    Calls Tryz.prog 67 #[.map (some b)] w fun e w' => ToldSays F G w e w' := by
  have hP1 := hP.below ((Below.refl _ w).alloc (Nat.le_refl _) (.cells #[.slice none 0 0] 33))
  have hfac := facets_ b F G (w.alloc (.cells #[.slice none 0 0] 33)) hP1 hF hx
  clear hP1
  have hbox := box_new w (.slice none 0 0) 33
  go_enter Tryz.func67, Tryz.ntmps67
  go_wp2_with fail
  refine hfac.mono ?_
  rintro e w2 ⟨v, ss, rfl, h1, h2, h3, h4⟩
  have hmm : ∀ t ∈ srtS ss, t ∈ F := fun t ht => ((h3 t).1 ((List.mergeSort_perm ss _).mem_iff.1 ht)).1
  have hlen : (srtS ss).length ≤ 100000 := by
    have e1 : (srtS ss).length = ss.length := (List.mergeSort_perm ss _).length_eq
    have := nodup_le h2 (fun x hx => ((h3 x).1 hx).1)
    omega
  have hlis := lists_ v (srtS ss) w2 (SliceIn.mono h1 (fun _ _ _ => trivial)) hlen (fun t ht => hx t (hmm t ht))
  go_wp2_with fail
  refine hlis.mono ?_
  rintro e w3 ⟨v3, rfl, h5, h6⟩
  have hB3 : Below (w.heap.size + 1) (w.alloc (.cells #[.slice none 0 0] 33)) w3 := by
    have h4' := h4
    rw [World.size_alloc] at h4'
    exact h4'.trans (h6.mono (by have := h4.size; simp at this; omega))
  have c1 : w3.cell? ⟨w.heap.size, 0, none⟩ = some (.slice none 0 0) := (hB3.cell (p := ⟨w.heap.size, 0, none⟩) (by simp)).trans hbox.1
  have z1 : w3.frozen? ⟨w.heap.size, 0, none⟩ = false := (hB3.frozen (p := ⟨w.heap.size, 0, none⟩) (by simp)).trans hbox.2
  have H5 : Hid (OwnRows w2.heap.size w3 v3 ((srtS ss).map ints)) := h5
  obtain ⟨a3, c3, rfl, -, -⟩ := h5.rows.open_
  clear h5 hfac hlis hlen hmm h1
  go_wp2
  have c2 := World.cell?_setCell_same' w3 ⟨w.heap.size, 0, none⟩ (.slice a3 ((srtS ss).map ints).length c3) (by rw [c1]; rfl)
  rw [List.length_map] at c2
  refine bodyPost_ret (v := .agg #[.slice a3 (srtS ss).length c3]) ?_ rfl ?_
  · simp [results, Tryz.f67, go_sem, c2]
  · have h5 := H5.out
    rw [List.length_map] at h5
    refine ⟨_, ss, rfl, ?_, h2, h3, ?_⟩
    · exact (h5.setCell (p := ⟨w.heap.size, 0, none⟩) (by have := h4.size; simp at this; show w.heap.size < w2.heap.size; omega) _).lower (by have := h4.size; simp at this; omega)
    · exact (((Below.refl _ w).alloc (Nat.le_refl _) _).trans (hB3.mono (by omega))).setCell (p := ⟨w.heap.size, 0, none⟩) (Nat.le_refl _) _

end Go.Proofs.YthmjdfjchhohgaaGreatDoor

namespace Go.Proofs.YthmjdfjchhohgaaGreatDoor
open Go.RowKit Go.Sort Go.Maps Go.Deep

theorem below_after {w w1 w2 : World} {o : Obj} (h1 : Below (w.alloc o).heap.size (w.alloc o) w1) (h2 : Below w1.heap.size w1 w2) : Below (w.heap.size + 1) (w.alloc o) w2 := by
  rw [World.size_alloc] at h1
  exact h1.trans (h2.mono (by have := h1.size; simp at this; omega))
theorem below_out {w w1 : World} {o : Obj} (h1 : Below (w.heap.size + 1) (w.alloc o) w1) : Below w.heap.size w w1 :=
  ((Below.refl _ w).alloc (Nat.le_refl _) o).trans (h1.mono (by omega))

end Go.Proofs.YthmjdfjchhohgaaGreatDoor

namespace Go.Proofs.YthmjdfjchhohgaaGreatDoor
open Go.RowKit Go.Sort

set_option maxRecDepth 100000 in
theorem equal_ints (va vb : Value) (xs ys : List Int) (w : World) (ha : Ints w va xs) (hb : Ints w vb ys) (hx : xs.length ≤ 1000000) :
    Calls Tryz.prog 68 #[va, vb] w fun e w' => e = .returned (.bool (decide (xs = ys))) ∧ ∃ q, w' = w.drewN q := by
  obtain ⟨a, ca, rfl, -, ha⟩ := ha.open_
  obtain ⟨b, cb, rfl, -, hb⟩ := hb.open_
  by_cases hl : xs.length = ys.length
  · rw [← hl]
    have HL : Hid (xs.length = ys.length) := hl
    clear hl
    go_enter Tryz.func68, Tryz.ntmps68
    go_wp2
    go_loopw [13] (fun v W => ∃ k q : Nat, k ≤ xs.length ∧ v = .int .i64 k ∧ W = w.drewN q ∧ xs.take k = ys.take k) (fun v _ => xs.length - (intOf v).toNat)
    case atStart => exact ⟨0, 0, by omega, rfl, rfl, by simp⟩
    case round =>
      obtain ⟨k, q, hk, rfl, rfl, ht⟩ := hrel
      have HT : Hid (xs.take k = ys.take k) := ht
      have hy' : k < xs.length → k < ys.length := by have := HL.out; omega
      clear ht
      by_cases hlt : k < xs.length
      · obtain ⟨b1, o1, rfl, -, -, c1⟩ := ha (by omega)
        obtain ⟨b2, o2, rfl, -, -, c2⟩ := hb (by have := hy' hlt; omega)
        have g1 := c1 k hlt
        have g2 := c2 k (hy' hlt)
        clear c1 c2 ha hb
        obtain ⟨x, hxe⟩ : ∃ x, xs[k]?.getD 0 = x := ⟨_, rfl⟩
        obtain ⟨y, hye⟩ : ∃ y, ys[k]?.getD 0 = y := ⟨_, rfl⟩
        rw [hxe] at g1
        rw [hye] at g2
        have HX : Hid (xs[k]?.getD 0 = x) := hxe
        have HY : Hid (ys[k]?.getD 0 = y) := hye
        clear hxe hye
        by_cases heq : x = y
        · subst heq
          go_wp2_with fail
          go_quiet (fail)
          go_wp2
          go_roundw
          case rel => exact ⟨k + 1, _, by omega, by go_num, rfl, take_snoc HT.out hlt (hy' hlt) (HX.out.trans HY.out.symm)⟩
          case measure => simp [intOf]; omega
        · have hne : (x != y) = true := by simpa using heq
          have HE : Hid (¬ x = y) := heq
          clear heq
          go_wp2_with fail
          go_quiet (fail)
          go_wp2
          go_ret
          exact ⟨by rw [decide_eq_false (ne_at (fun h => HE.out (by rw [← HX.out, ← HY.out, h])))]; rfl, q + nq, by rw [World.drewN_drewN]⟩
      · clear ha hb
        go_wp2
        go_ret
        refine ⟨?_, q, rfl⟩
        have h1 := HT.out
        have h2 := HL.out
        rw [List.take_of_length_le (by omega), List.take_of_length_le (by omega)] at h1
        rw [decide_eq_true h1]; rfl
  · have hne : xs ≠ ys := fun h => hl (by rw [h])
    go_enter Tryz.func68, Tryz.ntmps68
    clear ha hb
    go_wp2
    go_ret
    exact ⟨by rw [decide_eq_false hne]; rfl, 0, rfl⟩


set_option maxRecDepth 100000 in
theorem equal_lists (va vb : Value) (xs ys : List (List Int)) (w : World) (ha : Rows w va xs) (hb : Rows w vb ys) (hx : xs.length ≤ 1000000) (hm : ∀ x ∈ xs, x.length ≤ 1000000) :
    Calls Tryz.prog 66 #[va, vb, .func (.func 68) #[] #[]] w fun e w' => e = .returned (.bool (decide (xs = ys))) ∧ ∃ q, w' = w.drewN q := by
  obtain ⟨a, ca, rfl, -, ha⟩ := ha.open_
  obtain ⟨b, cb, rfl, -, hb⟩ := hb.open_
  by_cases hl : xs.length = ys.length
  · rw [← hl]
    have HL : Hid (xs.length = ys.length) := hl
    clear hl
    go_enter Tryz.func66, Tryz.ntmps66
    go_wp2
    go_loopw [17] (fun v W => ∃ k q : Nat, k ≤ xs.length ∧ v = .int .i64 k ∧ W = w.drewN q ∧ xs.take k = ys.take k) (fun v _ => xs.length - (intOf v).toNat)
    case atStart => exact ⟨0, 0, by omega, rfl, rfl, by simp⟩
    case round =>
      obtain ⟨k, q, hk, rfl, hw, ht⟩ := hrel
      have HW : Hid (wr = w.drewN q) := hw
      have HT : Hid (xs.take k = ys.take k) := ht
      have HM : Hid (∀ x ∈ xs, x.length ≤ 1000000) := hm
      have hy' : k < xs.length → k < ys.length := by have := HL.out; omega
      clear ht hm
      by_cases hlt : k < xs.length
      · obtain ⟨b1, o1, rfl, -, -, c1⟩ := ha (by omega)
        obtain ⟨b2, o2, rfl, -, -, c2⟩ := hb (by have := hy' hlt; omega)
        obtain ⟨a1, p1, g1, i1⟩ := c1 k hlt
        obtain ⟨a2, p2, g2, i2⟩ := c2 k (hy' hlt)
        clear c1 c2 ha hb
        have hlen : (xs[k]?.getD []).length ≤ 1000000 := HM.out _ (by simp [hlt])
        obtain ⟨x, hxe⟩ : ∃ x, xs[k]?.getD [] = x := ⟨_, rfl⟩
        obtain ⟨y, hye⟩ : ∃ y, ys[k]?.getD [] = y := ⟨_, rfl⟩
        rw [hxe] at g1 i1 hlen
        rw [hye] at g2 i2
        have g1 : wr.cell? ⟨b1, o1 + k, none⟩ = some (.slice a1 x.length p1) := by rw [hw]; exact g1
        have g2 : wr.cell? ⟨b2, o2 + k, none⟩ = some (.slice a2 y.length p2) := by rw [hw]; exact g2
        have i1 : Ints wr (.slice a1 x.length p1) x := by rw [hw]; exact i1
        have i2 : Ints wr (.slice a2 y.length p2) y := by rw [hw]; exact i2
        clear hw
        have HX : Hid (xs[k]?.getD [] = x) := hxe
        have HY : Hid (ys[k]?.getD [] = y) := hye
        clear hxe hye
        have hc := equal_ints _ _ x y wr i1 i2 hlen
        obtain ⟨c, hce⟩ : ∃ c, decide (x = y) = c := ⟨_, rfl⟩
        rw [hce] at hc
        have HC : Hid (decide (x = y) = c) := hce
        clear hce i1 i2
        cases c with
        | true =>
          go_wp2_with (go_at_call 68; refine hc.mono ?_; rintro e w' ⟨rfl, nq, rfl⟩)
          go_roundw
          case rel => exact ⟨k + 1, q + nq, by omega, by go_num, by rw [HW.out, World.drewN_drewN], takes_snoc HT.out hlt (hy' hlt) (by rw [HX.out, HY.out]; exact of_decide_eq_true HC.out)⟩
          case measure => simp [intOf]; omega
        | false =>
          go_wp2_with (go_at_call 68; refine hc.mono ?_; rintro e w' ⟨rfl, nq, rfl⟩)
          go_ret
          refine ⟨?_, q + nq, by rw [HW.out, World.drewN_drewN]⟩
          have : xs ≠ ys := fun h => (of_decide_eq_false HC.out) (by rw [← HX.out, ← HY.out, h])
          rw [decide_eq_false this]; rfl
      · clear ha hb hw
        go_wp2
        go_ret
        refine ⟨?_, q, HW.out⟩
        have h1 := HT.out
        have h2 := HL.out
        rw [List.take_of_length_le (by omega), List.take_of_length_le (by omega)] at h1
        rw [decide_eq_true h1]; rfl
  · have hne : xs ≠ ys := fun h => hl (by rw [h])
    go_enter Tryz.func66, Tryz.ntmps66
    clear ha hb
    go_wp2
    go_ret
    exact ⟨by rw [decide_eq_false hne]; rfl, 0, rfl⟩


end Go.Proofs.YthmjdfjchhohgaaGreatDoor

namespace Go.Proofs.YthmjdfjchhohgaaGreatDoor
open Go.RowKit Go.Sort Go.Maps Go.Deep

/-- What open answers. -/
def OpenSays (a : Nat → Addr) (l : List (List Int)) (w : World) (e : Ending) (w' : World) : Prop :=
  Below w.heap.size w w' ∧ ((¬ (∀ x ∈ l, SetOk x) ∧ e = .returned (.tuple #[.map none, .iface 233 (.pointer (some (a 3)))])) ∨
    ((∀ x ∈ l, SetOk x) ∧ ∃ ts : List (List UInt8), ts.map ints = l.map srt ∧
      ((Over ts ∧ e = .returned (.tuple #[.map none, .iface 233 (.pointer (some (a 1)))])) ∨
       (¬ Over ts ∧ ∃ ss : List (List UInt8), ss.Nodup ∧ (∀ x, x ∈ ss ↔ FaceOf ts x ∧ ¬ InnerOf ts x) ∧
         ((¬ (srtS ss).map ints = l ∧ e = .returned (.tuple #[.map none, .iface 233 (.pointer (some (a 2)))])) ∨
          ((srtS ss).map ints = l ∧ ∃ b F G, e = .returned (.tuple #[.map (some b), .nilIface]) ∧ PileAt w' b F G ∧ Heaped ts F G))))))

theorem told_sizes {F ss : List (List UInt8)} {G : List UInt8 → Prop} (h2 : ss.Nodup) (h3 : ∀ x, x ∈ ss ↔ x ∈ F ∧ ¬ G x) (hF : F.length ≤ 100000) (hx : ∀ x ∈ F, x.length ≤ 1000) :
    ((srtS ss).map ints).length ≤ 1000000 ∧ ∀ x ∈ (srtS ss).map ints, x.length ≤ 1000000 := by
  have e1 : (srtS ss).length = ss.length := (List.mergeSort_perm ss _).length_eq
  have := nodup_le h2 (fun x hx => ((h3 x).1 hx).1)
  refine ⟨by rw [List.length_map]; omega, fun x hm => ?_⟩
  obtain ⟨t, ht, rfl⟩ := List.mem_map.1 hm
  have := hx t ((h3 t).1 ((List.mergeSort_perm ss _).mem_iff.1 ht)).1
  rw [ints_length]; omega

theorem field_facets (a : Option Addr) (n c : Nat) (W : World) : (Instr.field 33 (.agg #[.slice a n c]) 0).run Tryz.prog W = .ok (.slice a n c) W := by kernel_rfl

set_option maxRecDepth 100000 in
set_option maxHeartbeats 2000000 in
theorem open_c {a : Nat → Addr} {s : Nat → ByteArray} (vl : Value) (l : List (List Int)) (w : World) (hE : Errs a s w) (hl : Rows w vl l) (hll : l.length ≤ 100000) (hle : ∀ x ∈ l, x.length ≤ 1000) :
    Calls Tryz.prog 36 #[.agg #[vl]] w fun e w' => OpenSays a l w e w' := by
  have HR : Hid (Rows w vl l) := hl
  obtain ⟨al, cl, rfl, -, -⟩ := hl.open_
  have hBa : Below w.heap.size w (w.alloc (.cells #[.slice al l.length cl] 33)) := (Below.refl _ w).alloc (Nat.le_refl _) _
  have hgat := gather_ _ l (w.alloc (.cells #[.slice al l.length cl] 33)) (hE.below hBa) (hl.below hBa) hll hle
  have hbox := box_new w (.slice al l.length cl) 33
  have hbc := hbox.1
  clear hl
  go_enter Tryz.func36, Tryz.ntmps36
  go_wp2_with fail
  refine hgat.mono ?_
  rintro e w2 ⟨hB2, ⟨hno, rfl⟩ | ⟨hok, ts, hts, ⟨b, F, G, rfl, hP, hH⟩ | ⟨hov, rfl⟩⟩⟩
  · clear hgat
    go_wp2
    go_ret2
    exact ⟨below_out (below_after hB2 (Below.refl _ w2)), .inl ⟨hno, rfl⟩⟩
  · have hfew := (hH.pile 0).few
    have hsh := (hH.pile 0).short
    have HH : Hid (Heaped ts F G) := hH
    have HOK : Hid ((∀ x ∈ l, SetOk x) ∧ ts.map ints = l.map srt) := ⟨hok, hts⟩
    have HPP : Hid (PileAt w2 b F G) := hP
    have hx7 : ∀ x ∈ F, x.length ≤ 1000 := fun x hx => by have := hsh x hx; omega
    have hF6 : F.length ≤ 100000 := by omega
    have hB3 := below_after hB2 (Below.refl _ w2)
    have c1 : w2.cell? ⟨w.heap.size, 0, none⟩ = some (.slice al l.length cl) := (hB3.cell (p := ⟨w.heap.size, 0, none⟩) (by simp)).trans hbox.1
    have HLL : Hid (l.length ≤ 100000 ∧ ∀ x ∈ l, x.length ≤ 1000) := ⟨hll, hle⟩
    clear hgat hP hH hsh hok hts hfew hle hbc hbox
    have HBw : Hid (Below w.heap.size w w2) := below_out hB3
    have hlt1 := cell_lt c1
    have hff := field_facets
    go_wp2_with fail
    go_region_held3 (fun W => W.cell? ⟨w.heap.size, 0, none⟩ = some (.slice al l.length cl)) (go_keep) (first
      | (go_at_call 67; refine (told_ b F G _ ?_ hF6 hx7).mono ?_; exact HPP.out; rintro e w3 ⟨v, ss, rfl, h1, h2, h3, h4⟩; obtain ⟨a3, c3, rfl, -, -⟩ := h1.rows.open_; have R1 := h1.rows; rw [List.length_map] at R1; have hBt : Below w.heap.size w w3 := (by first | exact HBw.out.drew.trans (h4.mono HBw.out.size) | exact HBw.out.trans (h4.mono HBw.out.size)); have hP3 : PileAt w3 b F G := (by exact PileAt.below (by exact HPP.out) h4); have cb : w3.cell? ⟨w.heap.size, 0, none⟩ = some (.slice al l.length cl) := (h4.cell (p := ⟨w.heap.size, 0, none⟩) hlt1).trans c1)
      | (go_at_call 66; refine (equal_lists _ _ ((srtS ss).map ints) l _ ?_ ?_ ?_ ?_).mono ?_; exact R1; exact HR.out.below hBt; exact (told_sizes h2 h3 hF6 hx7).1; exact (told_sizes h2 h3 hF6 hx7).2; rintro e w4 ⟨rfl, q, rfl⟩))
    have HIN : Hid (ss.Nodup ∧ ∀ x, x ∈ ss ↔ FaceOf ts x ∧ ¬ InnerOf ts x) := ⟨h2, fun x => by rw [h3, HH.out.mem, HH.out.memG]⟩
    have hBq : Below w.heap.size w (w3.drewN q) := hBt.trans ⟨rfl, rfl, rfl, Nat.le_refl _, fun _ _ => rfl⟩
    have hPq : PileAt (w3.drewN q) b F G := hP3
    have hgl : (w3.drewN q).cell? ⟨1, 0, none⟩ = some (.iface 233 (.pointer (some (a 2)))) := (hE.below hBq).glob 2 (by decide)
    generalize w3.drewN q = W4 at hBq hPq hgl ⊢
    clear h2 h3 h1 R1 hx7
    by_cases hq : (srtS ss).map ints = l
    · rw [decide_eq_true hq]
      have HQ : Hid ((srtS ss).map ints = l) := hq
      clear hq
      go_wp2
      go_ret2
      exact ⟨hBq, .inr ⟨HOK.out.1, ts, HOK.out.2, .inr ⟨HH.out.notOver, ss, HIN.out.1, HIN.out.2, .inr ⟨HQ.out, b, F, G, rfl, hPq, HH.out⟩⟩⟩⟩
    · rw [decide_eq_false hq]
      have HQ : Hid (¬ (srtS ss).map ints = l) := hq
      clear hq
      go_wp2_with fail
      go_quiet (fail)
      go_wp2
      go_ret2
      exact ⟨hBq.trans ⟨rfl, rfl, rfl, Nat.le_refl _, fun _ _ => rfl⟩, .inr ⟨HOK.out.1, ts, HOK.out.2, .inr ⟨HH.out.notOver, ss, HIN.out.1, HIN.out.2, .inl ⟨HQ.out, rfl⟩⟩⟩⟩
  · have HOK : Hid (((∀ x ∈ l, SetOk x) ∧ ts.map ints = l.map srt) ∧ Over ts) := ⟨⟨hok, hts⟩, hov⟩
    clear hgat hok hts hov
    go_wp2
    go_ret2
    exact ⟨below_out (below_after hB2 (Below.refl _ w2)), .inr ⟨HOK.out.1.1, ts, HOK.out.1.2, .inl ⟨HOK.out.2, rfl⟩⟩⟩

end Go.Proofs.YthmjdfjchhohgaaGreatDoor
