/- What told answers: the complex of the facets that a map of faces tells. A world behind two calls, and behind a box. What slices.Equal and slices.EqualFunc answer: whether two lists are the same; nothing is written. What open answers of a complex that was handed in: the map of its faces, or which error it has. What the reference's Put answers: the sorted list of faces with one more, in new memory or the very same. -/
import Derived.Test.YtnnkmkhamipfiaaGreatDoorLists
import Derived.Deep.RegionHeld3
import Derived.Test.YtnnkmkhamipfiaaGreatDoorSorted
namespace Go.Proofs.YtnnkmkhamipfiaaGreatDoor
open Go.RowKit Go.Sort Go.Maps Go.Deep

/-- What told answers. -/
def ToldSays (F : List (List UInt8)) (G : List UInt8 → Prop) (w : World) (e : Ending) (w' : World) : Prop :=
  ∃ v ss, e = .returned (.agg #[v]) ∧ OwnRows w.heap.size w' v ((srtS ss).map ints) ∧ ss.Nodup ∧ (∀ x, x ∈ ss ↔ x ∈ F ∧ ¬ G x) ∧ Below w.heap.size w w'

theorem OwnRows.lower {base base' : Nat} {w : World} {v : Value} {xss : List (List Int)} (h : OwnRows base w v xss) (hb : base' ≤ base) : OwnRows base' w v xss := by
  obtain ⟨vs, ⟨h1, h2⟩, h3⟩ := h
  refine ⟨vs, ⟨h1, ?_⟩, fun k u x hu hx => SliceIn.mono (h3 k u x hu hx) (fun b _ h => ⟨Nat.le_trans hb h.1, h.2⟩)⟩
  rcases h2 with h2 | ⟨g, cap, cur, e1, e2, e3⟩
  · exact .inl h2
  · exact .inr ⟨g, cap, cur, e1, Nat.le_trans hb e2, e3⟩

theorem OwnRows.setCell {base : Nat} {w : World} {v : Value} {xss : List (List Int)} (h : OwnRows base w v xss) {p : Addr} (hp : p.block < base) (u : Value) : OwnRows base (w.setCell p u) v xss := by
  obtain ⟨vs, h1, h3⟩ := h
  refine ⟨vs, ownsRow_setCell_below h1 hp u, fun k u' x hu hx => SliceIn.keep (h3 k u' x hu hx) (fun b _ h => ?_)⟩
  exact blk_setCell_other w p u b (fun e => by omega)

set_option maxRecDepth 100000 in
theorem told_ (b : Nat) (F : List (List UInt8)) (G : List UInt8 → Prop) (w : World) (hP : PileAt w b F G) (hF : F.length ≤ 100000) (hx : ∀ x ∈ F, x.length ≤ 1000) :
    Calls Tryz.prog 129 #[.map (some b)] w fun e w' => ToldSays F G w e w' := by
  have hP1 := hP.below ((Below.refl _ w).alloc (Nat.le_refl _) (.cells #[.slice none 0 0] 39))
  have hfac := facets_ b F G (w.alloc (.cells #[.slice none 0 0] 39)) hP1 hF hx
  clear hP1
  have hbox := box_new w (.slice none 0 0) 39
  go_enter Tryz.func129, Tryz.ntmps129
  go_wp2_with fail
  refine hfac.mono ?_
  rintro e w2 ⟨v, ss, rfl, h1, h2, h3, h4⟩
  have hmm : ∀ t ∈ srtS ss, t ∈ F := fun t ht => ((h3 t).1 ((List.mergeSort_perm ss _).mem_iff.1 ht)).1
  have hlen : (srtS ss).length ≤ 100000 := by
    have e1 : (srtS ss).length = ss.length := (List.mergeSort_perm ss _).length_eq
    have := nodup_le h2 (fun x hx => ((h3 x).1 hx).1)
    omega
  have hlis := lists_ v (srtS ss) w2 (SliceIn.mono h1 (fun _ _ _ => trivial)) hlen (fun t ht => hx t (hmm t ht))
  go_wp2_with fail
  refine hlis.mono ?_
  rintro e w3 ⟨v3, rfl, h5, h6⟩
  have hB3 : Below (w.heap.size + 1) (w.alloc (.cells #[.slice none 0 0] 39)) w3 := by
    have h4' := h4
    rw [World.size_alloc] at h4'
    exact h4'.trans (h6.mono (by have := h4.size; simp at this; omega))
  have c1 : w3.cell? ⟨w.heap.size, 0, none⟩ = some (.slice none 0 0) := (hB3.cell (p := ⟨w.heap.size, 0, none⟩) (by simp)).trans hbox.1
  have z1 : w3.frozen? ⟨w.heap.size, 0, none⟩ = false := (hB3.frozen (p := ⟨w.heap.size, 0, none⟩) (by simp)).trans hbox.2
  have H5 : Hid (OwnRows w2.heap.size w3 v3 ((srtS ss).map ints)) := h5
  obtain ⟨a3, c3, rfl, -, -⟩ := h5.rows.open_
  clear h5 hfac hlis hlen hmm h1
  go_wp2
  have c2 := World.cell?_setCell_same' w3 ⟨w.heap.size, 0, none⟩ (.slice a3 ((srtS ss).map ints).length c3) (by rw [c1]; rfl)
  rw [List.length_map] at c2
  refine bodyPost_ret (v := .agg #[.slice a3 (srtS ss).length c3]) ?_ rfl ?_
  · simp [results, Tryz.f129, go_sem, c2]
  · have h5 := H5.out
    rw [List.length_map] at h5
    refine ⟨_, ss, rfl, ?_, h2, h3, ?_⟩
    · exact (h5.setCell (p := ⟨w.heap.size, 0, none⟩) (by have := h4.size; simp at this; show w.heap.size < w2.heap.size; omega) _).lower (by have := h4.size; simp at this; omega)
    · exact (((Below.refl _ w).alloc (Nat.le_refl _) _).trans (hB3.mono (by omega))).setCell (p := ⟨w.heap.size, 0, none⟩) (Nat.le_refl _) _

end Go.Proofs.YtnnkmkhamipfiaaGreatDoor

namespace Go.Proofs.YtnnkmkhamipfiaaGreatDoor
open Go.RowKit Go.Sort Go.Maps Go.Deep

theorem below_after {w w1 w2 : World} {o : Obj} (h1 : Below (w.alloc o).heap.size (w.alloc o) w1) (h2 : Below w1.heap.size w1 w2) : Below (w.heap.size + 1) (w.alloc o) w2 := by
  rw [World.size_alloc] at h1
  exact h1.trans (h2.mono (by have := h1.size; simp at this; omega))
theorem below_out {w w1 : World} {o : Obj} (h1 : Below (w.heap.size + 1) (w.alloc o) w1) : Below w.heap.size w w1 :=
  ((Below.refl _ w).alloc (Nat.le_refl _) o).trans (h1.mono (by omega))

end Go.Proofs.YtnnkmkhamipfiaaGreatDoor

namespace Go.Proofs.YtnnkmkhamipfiaaGreatDoor
open Go.RowKit Go.Sort

set_option maxRecDepth 100000 in
theorem equal_ints (va vb : Value) (xs ys : List Int) (w : World) (ha : Ints w va xs) (hb : Ints w vb ys) (hx : xs.length ≤ 1000000) :
    Calls Tryz.prog 130 #[va, vb] w fun e w' => e = .returned (.bool (decide (xs = ys))) ∧ ∃ q, w' = w.drewN q := by
  obtain ⟨a, ca, rfl, -, ha⟩ := ha.open_
  obtain ⟨b, cb, rfl, -, hb⟩ := hb.open_
  by_cases hl : xs.length = ys.length
  · rw [← hl]
    have HL : Hid (xs.length = ys.length) := hl
    clear hl
    go_enter Tryz.func130, Tryz.ntmps130
    go_wp2
    go_loopw [13] (fun v W => ∃ k q : Nat, k ≤ xs.length ∧ v = .int .i64 k ∧ W = w.drewN q ∧ xs.take k = ys.take k) (fun v _ => xs.length - (intOf v).toNat)
    case atStart => exact ⟨0, 0, by omega, rfl, rfl, by simp⟩
    case round =>
      obtain ⟨k, q, hk, rfl, rfl, ht⟩ := hrel
      have HT : Hid (xs.take k = ys.take k) := ht
      have hy' : k < xs.length → k < ys.length := by have := HL.out; omega
      clear ht
      by_cases hlt : k < xs.length
      · obtain ⟨b1, o1, rfl, -, -, c1⟩ := ha (by omega)
        obtain ⟨b2, o2, rfl, -, -, c2⟩ := hb (by have := hy' hlt; omega)
        have g1 := c1 k hlt
        have g2 := c2 k (hy' hlt)
        clear c1 c2 ha hb
        obtain ⟨x, hxe⟩ : ∃ x, xs[k]?.getD 0 = x := ⟨_, rfl⟩
        obtain ⟨y, hye⟩ : ∃ y, ys[k]?.getD 0 = y := ⟨_, rfl⟩
        rw [hxe] at g1
        rw [hye] at g2
        have HX : Hid (xs[k]?.getD 0 = x) := hxe
        have HY : Hid (ys[k]?.getD 0 = y) := hye
        clear hxe hye
        by_cases heq : x = y
        · subst heq
          go_wp2_with fail
          go_quiet (fail)
          go_wp2
          go_roundw
          case rel => exact ⟨k + 1, _, by omega, by go_num, rfl, take_snoc HT.out hlt (hy' hlt) (HX.out.trans HY.out.symm)⟩
          case measure => simp [intOf]; omega
        · have hne : (x != y) = true := by simpa using heq
          have HE : Hid (¬ x = y) := heq
          clear heq
          go_wp2_with fail
          go_quiet (fail)
          go_wp2
          go_ret
          exact ⟨by rw [decide_eq_false (ne_at (fun h => HE.out (by rw [← HX.out, ← HY.out, h])))]; rfl, q + nq, by rw [World.drewN_drewN]⟩
      · clear ha hb
        go_wp2
        go_ret
        refine ⟨?_, q, rfl⟩
        have h1 := HT.out
        have h2 := HL.out
        rw [List.take_of_length_le (by omega), List.take_of_length_le (by omega)] at h1
        rw [decide_eq_true h1]; rfl
  · have hne : xs ≠ ys := fun h => hl (by rw [h])
    go_enter Tryz.func130, Tryz.ntmps130
    clear ha hb
    go_wp2
    go_ret
    exact ⟨by rw [decide_eq_false hne]; rfl, 0, rfl⟩


set_option maxRecDepth 100000 in
theorem equal_lists (va vb : Value) (xs ys : List (List Int)) (w : World) (ha : Rows w va xs) (hb : Rows w vb ys) (hx : xs.length ≤ 1000000) (hm : ∀ x ∈ xs, x.length ≤ 1000000) :
    Calls Tryz.prog 128 #[va, vb, .func (.func 130) #[] #[]] w fun e w' => e = .returned (.bool (decide (xs = ys))) ∧ ∃ q, w' = w.drewN q := by
  obtain ⟨a, ca, rfl, -, ha⟩ := ha.open_
  obtain ⟨b, cb, rfl, -, hb⟩ := hb.open_
  by_cases hl : xs.length = ys.length
  · rw [← hl]
    have HL : Hid (xs.length = ys.length) := hl
    clear hl
    go_enter Tryz.func128, Tryz.ntmps128
    go_wp2
    go_loopw [17] (fun v W => ∃ k q : Nat, k ≤ xs.length ∧ v = .int .i64 k ∧ W = w.drewN q ∧ xs.take k = ys.take k) (fun v _ => xs.length - (intOf v).toNat)
    case atStart => exact ⟨0, 0, by omega, rfl, rfl, by simp⟩
    case round =>
      obtain ⟨k, q, hk, rfl, hw, ht⟩ := hrel
      have HW : Hid (wr = w.drewN q) := hw
      have HT : Hid (xs.take k = ys.take k) := ht
      have HM : Hid (∀ x ∈ xs, x.length ≤ 1000000) := hm
      have hy' : k < xs.length → k < ys.length := by have := HL.out; omega
      clear ht hm
      by_cases hlt : k < xs.length
      · obtain ⟨b1, o1, rfl, -, -, c1⟩ := ha (by omega)
        obtain ⟨b2, o2, rfl, -, -, c2⟩ := hb (by have := hy' hlt; omega)
        obtain ⟨a1, p1, g1, i1⟩ := c1 k hlt
        obtain ⟨a2, p2, g2, i2⟩ := c2 k (hy' hlt)
        clear c1 c2 ha hb
        have hlen : (xs[k]?.getD []).length ≤ 1000000 := HM.out _ (by simp [hlt])
        obtain ⟨x, hxe⟩ : ∃ x, xs[k]?.getD [] = x := ⟨_, rfl⟩
        obtain ⟨y, hye⟩ : ∃ y, ys[k]?.getD [] = y := ⟨_, rfl⟩
        rw [hxe] at g1 i1 hlen
        rw [hye] at g2 i2
        have g1 : wr.cell? ⟨b1, o1 + k, none⟩ = some (.slice a1 x.length p1) := by rw [hw]; exact g1
        have g2 : wr.cell? ⟨b2, o2 + k, none⟩ = some (.slice a2 y.length p2) := by rw [hw]; exact g2
        have i1 : Ints wr (.slice a1 x.length p1) x := by rw [hw]; exact i1
        have i2 : Ints wr (.slice a2 y.length p2) y := by rw [hw]; exact i2
        clear hw
        have HX : Hid (xs[k]?.getD [] = x) := hxe
        have HY : Hid (ys[k]?.getD [] = y) := hye
        clear hxe hye
        have hc := equal_ints _ _ x y wr i1 i2 hlen
        obtain ⟨c, hce⟩ : ∃ c, decide (x = y) = c := ⟨_, rfl⟩
        rw [hce] at hc
        have HC : Hid (decide (x = y) = c) := hce
        clear hce i1 i2
        cases c with
        | true =>
          go_wp2_with (go_at_call 130; refine hc.mono ?_; rintro e w' ⟨rfl, nq, rfl⟩)
          go_roundw
          case rel => exact ⟨k + 1, q + nq, by omega, by go_num, by rw [HW.out, World.drewN_drewN], takes_snoc HT.out hlt (hy' hlt) (by rw [HX.out, HY.out]; exact of_decide_eq_true HC.out)⟩
          case measure => simp [intOf]; omega
        | false =>
          go_wp2_with (go_at_call 130; refine hc.mono ?_; rintro e w' ⟨rfl, nq, rfl⟩)
          go_ret
          refine ⟨?_, q + nq, by rw [HW.out, World.drewN_drewN]⟩
          have : xs ≠ ys := fun h => (of_decide_eq_false HC.out) (by rw [← HX.out, ← HY.out, h])
          rw [decide_eq_false this]; rfl
      · clear ha hb hw
        go_wp2
        go_ret
        refine ⟨?_, q, HW.out⟩
        have h1 := HT.out
        have h2 := HL.out
        rw [List.take_of_length_le (by omega), List.take_of_length_le (by omega)] at h1
        rw [decide_eq_true h1]; rfl
  · have hne : xs ≠ ys := fun h => hl (by rw [h])
    go_enter Tryz.func128, Tryz.ntmps128
    clear ha hb
    go_wp2
    go_ret
    exact ⟨by rw [decide_eq_false hne]; rfl, 0, rfl⟩


end Go.Proofs.YtnnkmkhamipfiaaGreatDoor

namespace Go.Proofs.YtnnkmkhamipfiaaGreatDoor
open Go.RowKit Go.Sort Go.Maps Go.Deep

/-- What open answers. -/
def OpenSays (a : Nat → Addr) (l : List (List Int)) (w : World) (e : Ending) (w' : World) : Prop :=
  Below w.heap.size w w' ∧ ((¬ (∀ x ∈ l, SetOk x) ∧ e = .returned (.tuple #[.map none, .iface 250 (.pointer (some (a 3)))])) ∨
    ((∀ x ∈ l, SetOk x) ∧ ∃ ts : List (List UInt8), ts.map ints = l.map srt ∧
      ((Over ts ∧ e = .returned (.tuple #[.map none, .iface 250 (.pointer (some (a 1)))])) ∨
       (¬ Over ts ∧ ∃ ss : List (List UInt8), ss.Nodup ∧ (∀ x, x ∈ ss ↔ FaceOf ts x ∧ ¬ InnerOf ts x) ∧
         ((¬ (srtS ss).map ints = l ∧ e = .returned (.tuple #[.map none, .iface 250 (.pointer (some (a 2)))])) ∨
          ((srtS ss).map ints = l ∧ ∃ b F G, e = .returned (.tuple #[.map (some b), .nilIface]) ∧ PileAt w' b F G ∧ Heaped ts F G))))))

theorem told_sizes {F ss : List (List UInt8)} {G : List UInt8 → Prop} (h2 : ss.Nodup) (h3 : ∀ x, x ∈ ss ↔ x ∈ F ∧ ¬ G x) (hF : F.length ≤ 100000) (hx : ∀ x ∈ F, x.length ≤ 1000) :
    ((srtS ss).map ints).length ≤ 1000000 ∧ ∀ x ∈ (srtS ss).map ints, x.length ≤ 1000000 := by
  have e1 : (srtS ss).length = ss.length := (List.mergeSort_perm ss _).length_eq
  have := nodup_le h2 (fun x hx => ((h3 x).1 hx).1)
  refine ⟨by rw [List.length_map]; omega, fun x hm => ?_⟩
  obtain ⟨t, ht, rfl⟩ := List.mem_map.1 hm
  have := hx t ((h3 t).1 ((List.mergeSort_perm ss _).mem_iff.1 ht)).1
  rw [ints_length]; omega

theorem field_facets (a : Option Addr) (n c : Nat) (W : World) : (Instr.field 39 (.agg #[.slice a n c]) 0).run Tryz.prog W = .ok (.slice a n c) W := by kernel_rfl

set_option maxRecDepth 100000 in
set_option maxHeartbeats 2000000 in
theorem open_c {a : Nat → Addr} {s : Nat → ByteArray} (vl : Value) (l : List (List Int)) (w : World) (hE : Errs a s w) (hl : Rows w vl l) (hll : l.length ≤ 100000) (hle : ∀ x ∈ l, x.length ≤ 1000) :
    Calls Tryz.prog 108 #[.agg #[vl]] w fun e w' => OpenSays a l w e w' := by
  have HR : Hid (Rows w vl l) := hl
  obtain ⟨al, cl, rfl, -, -⟩ := hl.open_
  have hBa : Below w.heap.size w (w.alloc (.cells #[.slice al l.length cl] 39)) := (Below.refl _ w).alloc (Nat.le_refl _) _
  have hgat := gather_ _ l (w.alloc (.cells #[.slice al l.length cl] 39)) (hE.below hBa) (hl.below hBa) hll hle
  have hbox := box_new w (.slice al l.length cl) 39
  have hbc := hbox.1
  clear hl
  go_enter Tryz.func108, Tryz.ntmps108
  go_wp2_with fail
  refine hgat.mono ?_
  rintro e w2 ⟨hB2, ⟨hno, rfl⟩ | ⟨hok, ts, hts, ⟨b, F, G, rfl, hP, hH⟩ | ⟨hov, rfl⟩⟩⟩
  · clear hgat
    go_wp2
    go_ret2
    exact ⟨below_out (below_after hB2 (Below.refl _ w2)), .inl ⟨hno, rfl⟩⟩
  · have hfew := (hH.pile 0).few
    have hsh := (hH.pile 0).short
    have HH : Hid (Heaped ts F G) := hH
    have HOK : Hid ((∀ x ∈ l, SetOk x) ∧ ts.map ints = l.map srt) := ⟨hok, hts⟩
    have HPP : Hid (PileAt w2 b F G) := hP
    have hx7 : ∀ x ∈ F, x.length ≤ 1000 := fun x hx => by have := hsh x hx; omega
    have hF6 : F.length ≤ 100000 := by omega
    have hB3 := below_after hB2 (Below.refl _ w2)
    have c1 : w2.cell? ⟨w.heap.size, 0, none⟩ = some (.slice al l.length cl) := (hB3.cell (p := ⟨w.heap.size, 0, none⟩) (by simp)).trans hbox.1
    have HLL : Hid (l.length ≤ 100000 ∧ ∀ x ∈ l, x.length ≤ 1000) := ⟨hll, hle⟩
    clear hgat hP hH hsh hok hts hfew hle hbc hbox
    have HBw : Hid (Below w.heap.size w w2) := below_out hB3
    have hlt1 := cell_lt c1
    have hff := field_facets
    go_wp2_with fail
    go_region_held3 (fun W => W.cell? ⟨w.heap.size, 0, none⟩ = some (.slice al l.length cl)) (go_keep) (first
      | (go_at_call 129; refine (told_ b F G _ ?_ hF6 hx7).mono ?_; exact HPP.out; rintro e w3 ⟨v, ss, rfl, h1, h2, h3, h4⟩; obtain ⟨a3, c3, rfl, -, -⟩ := h1.rows.open_; have R1 := h1.rows; rw [List.length_map] at R1; have hBt : Below w.heap.size w w3 := (by first | exact HBw.out.drew.trans (h4.mono HBw.out.size) | exact HBw.out.trans (h4.mono HBw.out.size)); have hP3 : PileAt w3 b F G := (by exact PileAt.below (by exact HPP.out) h4); have cb : w3.cell? ⟨w.heap.size, 0, none⟩ = some (.slice al l.length cl) := (h4.cell (p := ⟨w.heap.size, 0, none⟩) hlt1).trans c1)
      | (go_at_call 128; refine (equal_lists _ _ ((srtS ss).map ints) l _ ?_ ?_ ?_ ?_).mono ?_; exact R1; exact HR.out.below hBt; exact (told_sizes h2 h3 hF6 hx7).1; exact (told_sizes h2 h3 hF6 hx7).2; rintro e w4 ⟨rfl, q, rfl⟩))
    have HIN : Hid (ss.Nodup ∧ ∀ x, x ∈ ss ↔ FaceOf ts x ∧ ¬ InnerOf ts x) := ⟨h2, fun x => by rw [h3, HH.out.mem, HH.out.memG]⟩
    have hBq : Below w.heap.size w (w3.drewN q) := hBt.trans ⟨rfl, rfl, rfl, Nat.le_refl _, fun _ _ => rfl⟩
    have hPq : PileAt (w3.drewN q) b F G := hP3
    have hgl : (w3.drewN q).cell? ⟨4, 0, none⟩ = some (.iface 250 (.pointer (some (a 2)))) := (hE.below hBq).glob 2 (by decide)
    generalize w3.drewN q = W4 at hBq hPq hgl ⊢
    clear h2 h3 h1 R1 hx7
    by_cases hq : (srtS ss).map ints = l
    · rw [decide_eq_true hq]
      have HQ : Hid ((srtS ss).map ints = l) := hq
      clear hq
      go_wp2
      go_ret2
      exact ⟨hBq, .inr ⟨HOK.out.1, ts, HOK.out.2, .inr ⟨HH.out.notOver, ss, HIN.out.1, HIN.out.2, .inr ⟨HQ.out, b, F, G, rfl, hPq, HH.out⟩⟩⟩⟩
    · rw [decide_eq_false hq]
      have HQ : Hid (¬ (srtS ss).map ints = l) := hq
      clear hq
      go_wp2_with fail
      go_quiet (fail)
      go_wp2
      go_ret2
      exact ⟨hBq.trans ⟨rfl, rfl, rfl, Nat.le_refl _, fun _ _ => rfl⟩, .inr ⟨HOK.out.1, ts, HOK.out.2, .inr ⟨HH.out.notOver, ss, HIN.out.1, HIN.out.2, .inl ⟨HQ.out, rfl⟩⟩⟩⟩
  · have HOK : Hid (((∀ x ∈ l, SetOk x) ∧ ts.map ints = l.map srt) ∧ Over ts) := ⟨⟨hok, hts⟩, hov⟩
    clear hgat hok hts hov
    go_wp2
    go_ret2
    exact ⟨below_out (below_after hB2 (Below.refl _ w2)), .inr ⟨HOK.out.1.1, ts, HOK.out.1.2, .inl ⟨HOK.out.2, rfl⟩⟩⟩

end Go.Proofs.YtnnkmkhamipfiaaGreatDoor

namespace Go.Proofs.YtnnkmkhamipfiaaGreatDoor
open Go.RowKit Go.Sort

theorem order_at {l : List (List Int)} (h : Order l) {i j : Nat} (hi : i < j) (hj : j < l.length) : ahead (l[i]?.getD []) (l[j]?.getD []) = true := by
  have hi' : i < l.length := by omega
  have := (List.pairwise_iff_getElem.1 h) i j hi' hj hi
  simpa [hi', hj] using this

theorem ins_order {l : List (List Int)} {f : List Int} {j : Nat} (h : Order l) (hj : j ≤ l.length) (hlo : ∀ t, t < j → ahead (l[t]?.getD []) f = true) (hhi : ∀ t, j ≤ t → t < l.length → ahead (l[t]?.getD []) f = false) (hne : j < l.length → ¬ l[j]?.getD [] = f) :
    Order (l.take j ++ ([f] ++ l.drop j)) := by
  have hsp := List.pairwise_append.1 (show Order (l.take j ++ l.drop j) by rw [List.take_append_drop]; exact h)
  have h1 : ∀ a ∈ l.take j, ahead a f = true := fun a ha => by
    obtain ⟨t, ht, e⟩ := List.getElem_of_mem ha
    have ht' : t < j ∧ t < l.length := by simp at ht; omega
    have := hlo t ht'.1
    rw [List.getElem_take] at e
    simpa [ht'.2, e] using this
  have h2 : ∀ b ∈ l.drop j, ahead f b = true := fun b hb => by
    obtain ⟨t, ht, e⟩ := List.getElem_of_mem hb
    have hjl : j < l.length := by simp at ht; omega
    have h0 : ahead f (l[j]?.getD []) = true := by
      rcases ahead_total (l[j]?.getD []) f (hne hjl) with h3 | h3
      · rw [hhi j (Nat.le_refl _) hjl] at h3; cases h3
      · exact h3
    cases t with
    | zero =>
      rw [List.getElem_drop] at e
      simp only [Nat.add_zero] at e
      simpa [hjl, e] using h0
    | succ t =>
      have hlt : j + (t + 1) < l.length := by simp at ht; omega
      have h4 := order_at h (show j < j + (t + 1) by omega) hlt
      rw [List.getElem_drop] at e
      have := ahead_trans _ _ _ h0 h4
      simpa [hlt, e] using this
  rw [Order, List.pairwise_append]
  refine ⟨hsp.1, List.pairwise_append.2 ⟨by simp, hsp.2.1, fun a ha b hb => ?_⟩, fun a ha b hb => ?_⟩
  · simp at ha; subst ha; exact h2 b hb
  · rcases List.mem_append.1 hb with hb | hb
    · simp at hb; subst hb; exact h1 a ha
    · exact ahead_trans _ _ _ (h1 a ha) (h2 b hb)

theorem ins_mem' {α : Type} {out : List α} {j : Nat} {x : α} (v : α) : v ∈ out.take j ++ ([x] ++ out.drop j) ↔ v ∈ out ∨ v = x := by
  have : v ∈ out ↔ v ∈ out.take j ∨ v ∈ out.drop j := by rw [← List.mem_append, List.take_append_drop]
  rw [this]
  simp only [List.mem_append, List.mem_singleton]
  constructor
  · rintro (h | h | h)
    · exact .inl (.inl h)
    · exact .inr h
    · exact .inl (.inr h)
  · rintro ((h | h) | h)
    · exact .inl h
    · exact .inr (.inr h)
    · exact .inr (.inl h)

theorem IntsIn.one {S : Nat → Prop} {w : World} {v : Value} {xs : List Int} (h : IntsIn S w v xs) : v.oneCell' = true := by
  obtain ⟨a, cap, rfl, _⟩ := h
  rfl

/-- Rows, one of which is put among them, in new memory. -/
theorem rows_ins {S : Nat → Prop} {w w' : World} {vs : List Value} {l : List (List Int)} {vf v : Value} {f : List Int} {j base n : Nat} (hB : Below w.heap.size w w') (hl : vs.length = l.length) (hr : ∀ (k : Nat) (u : Value) (x : List Int), vs[k]? = some u → l[k]? = some x → IntsIn S w u x) (hf : IntsIn S w vf f) (hj : j ≤ l.length) (hS : ∀ b, base ≤ b → S b)
    (hown : w'.ownsRow base 29 1 v n (([] ++ vs.take j) ++ [vf] ++ vs.drop j)) : RowsIn S w' v (l.take j ++ ([f] ++ l.drop j)) := by
  have hs := slice_of_owns (S := S) hown (fun b h _ => hS b h)
  refine ⟨vs.take j ++ ([vf] ++ vs.drop j), by simpa using hs, by simp [hl], fun k u x hu hx => ?_⟩
  have hlt : (vs.take j).length = j := by simp; omega
  have hlt' : (l.take j).length = j := by simp; omega
  rw [List.getElem?_append] at hu hx
  rw [hlt] at hu
  rw [hlt'] at hx
  split at hu
  · rename_i hk
    rw [if_pos hk] at hx
    rw [List.getElem?_take, if_pos hk] at hu hx
    exact (hr k u x hu hx).below hB
  · rename_i hk
    rw [if_neg hk] at hx
    rw [List.getElem?_append] at hu hx
    simp only [List.length_singleton] at hu hx
    split at hu
    · rename_i hk2
      rw [if_pos hk2] at hx
      have : k - j = 0 := by omega
      rw [this] at hu hx
      simp at hu hx
      subst hu; subst hx
      exact hf.below hB
    · rename_i hk2
      rw [if_neg hk2] at hx
      rw [List.getElem?_drop] at hu hx
      exact (hr _ u x hu hx).below hB

theorem half_int (lo hi : Nat) : ((lo : Int) + hi).tdiv 2 = (((lo + hi) / 2 : Nat) : Int) := by
  rw [← Int.natCast_add, Int.tdiv_eq_ediv_of_nonneg (by omega)]
  omega

/-- What Put answers. -/
def PutSays (base : Nat) (l : List (List Int)) (f : List Int) (w : World) (e : Ending) (w' : World) : Prop :=
  ∃ v r, e = .returned v ∧ RowsIn (fun bl => base ≤ bl) w' v r ∧ Order r ∧ (∀ x, x ∈ r ↔ x ∈ l ∨ x = f) ∧ Below w.heap.size w w'
theorem PutSays.mk {base : Nat} {l : List (List Int)} {f : List Int} {w w' : World} {e : Ending} (v : Value) (r : List (List Int)) (h1 : e = .returned v) (h2 : RowsIn (fun bl => base ≤ bl) w' v r) (h3 : Order r) (h4 : ∀ x, x ∈ r ↔ x ∈ l ∨ x = f) (h5 : Below w.heap.size w w') : PutSays base l f w e w' := ⟨v, r, h1, h2, h3, h4, h5⟩

set_option maxRecDepth 100000 in
set_option maxHeartbeats 1000000 in
theorem put_ {base : Nat} (vl vf : Value) (l : List (List Int)) (f : List Int) (w : World) (hbase : base ≤ w.heap.size) (hl : RowsIn (fun bl => base ≤ bl) w vl l) (hf : IntsIn (fun bl => base ≤ bl) w vf f) (ho : Order l) (hll : l.length ≤ 1000) (hle : ∀ x ∈ l, x.length ≤ 1000) :
    Calls Tryz.prog 33 #[vl, vf] w fun e w' => PutSays base l f w e w' := by
  obtain ⟨i0, hi, hz0, hz1, hz2⟩ := info_parts Tryz.info29
  have HL : Hid (RowsIn (fun bl => base ≤ bl) w vl l) := hl
  have HO : Hid (Order l) := ho
  have HE : Hid (∀ x ∈ l, x.length ≤ 1000) := hle
  have HF : Hid (IntsIn (fun bl => base ≤ bl) w vf f) := hf
  obtain ⟨a, ca, rfl, hca, ha⟩ := hl.open_
  obtain ⟨af, cf, rfl, -, -⟩ := hf.open_
  clear ho hle hf
  go_enter Tryz.func33, Tryz.ntmps33
  go_wp2
  go_loopw [5, 6] (fun p q W => ∃ lo hi n : Nat, lo ≤ hi ∧ hi ≤ l.length ∧ p = .int .i64 lo ∧ q = .int .i64 hi ∧ W = w.drewN n ∧ (∀ t, t < lo → ahead (l[t]?.getD []) f = true) ∧ (∀ t, hi ≤ t → t < l.length → ahead (l[t]?.getD []) f = false))
    (fun p q _ => (intOf q).toNat - (intOf p).toNat)
  case atStart => exact ⟨0, l.length, 0, by omega, by omega, rfl, rfl, rfl, fun t ht => by omega, fun t h1 h2 => by omega⟩
  case round =>
    obtain ⟨lo, hi', n, hlh, hhl, rfl, rfl, hw, hlo, hhi⟩ := hrel
    have HW : Hid (wr = w.drewN n) := hw
    have HLO : Hid (∀ t, t < lo → ahead (l[t]?.getD []) f = true) := hlo
    have HHI : Hid (∀ t, hi' ≤ t → t < l.length → ahead (l[t]?.getD []) f = false) := hhi
    clear hlo hhi
    by_cases hlt : lo < hi'
    · obtain ⟨b, o, rfl, -, -, c⟩ := ha (by omega)
      have hm := half_int lo hi'
      obtain ⟨m, hme⟩ : ∃ m, (lo + hi') / 2 = m := ⟨_, rfl⟩
      have hm1 : lo ≤ m := by omega
      have hm2 : m < hi' := by omega
      rw [hme] at hm
      obtain ⟨a1, p1, g1, i1⟩ := c m (by omega)
      have hlen : (l[m]?.getD []).length ≤ 1000 := HE.out _ (by rw [List.getElem?_eq_getElem (by omega)]; simp)
      obtain ⟨x, hxe⟩ : ∃ x, l[m]?.getD [] = x := ⟨_, rfl⟩
      rw [hxe] at g1 i1 hlen
      have HX : Hid (l[m]?.getD [] = x) := hxe
      have g2 : wr.cell? ⟨b, o + m, none⟩ = some (.slice a1 x.length p1) := by rw [hw]; exact g1
      have hc := ahead_ _ _ x f wr (by rw [hw]; exact i1.any) (by rw [hw]; exact HF.out.any) (by omega)
      obtain ⟨c0, hce⟩ : ∃ c, ahead x f = c := ⟨_, rfl⟩
      rw [hce] at hc
      have HC : Hid (ahead x f = c0) := hce
      clear hce hxe g1 i1 c ha hme hw hl
      cases c0 with
      | true =>
        go_wp2_with (go_at_call 59; refine hc.mono ?_; rintro e w' ⟨rfl, q2, rfl⟩)
        go_roundw
        case rel => exact ⟨m + 1, hi', n + q2, by omega, by omega, by go_num, rfl, by rw [HW.out, World.drewN_drewN], fun t ht => by
          by_cases e : t = m
          · subst e; rw [HX.out]; exact HC.out
          · by_cases e2 : t < lo
            · exact HLO.out t e2
            · have := order_at HO.out (show t < m by omega) (by omega)
              rw [HX.out] at this
              exact ahead_trans _ _ _ this HC.out, HHI.out⟩
        case measure => simp [intOf]; omega
      | false =>
        go_wp2_with (go_at_call 59; refine hc.mono ?_; rintro e w' ⟨rfl, q2, rfl⟩)
        go_roundw
        case rel => exact ⟨lo, m, n + q2, by omega, by omega, rfl, by go_num, by rw [HW.out, World.drewN_drewN], HLO.out, fun t h1 h2 => by
          by_cases e : t = m
          · subst e; rw [HX.out]; exact HC.out
          · have := order_at HO.out (show m < t by omega) h2
            rw [HX.out] at this
            cases hh : ahead (l[t]?.getD []) f with
            | false => rfl
            | true => rw [ahead_trans _ _ _ this hh] at HC; exact HC.out⟩
        case measure => simp [intOf]; omega
    · obtain rfl : lo = hi' := by omega
      by_cases hll2 : lo < l.length
      · obtain ⟨b, o, rfl, -, -, c⟩ := ha (by omega)
        obtain ⟨a1, p1, g1, i1⟩ := c lo hll2
        have hlen : (l[lo]?.getD []).length ≤ 1000 := HE.out _ (by rw [List.getElem?_eq_getElem hll2]; simp)
        obtain ⟨x, hxe⟩ : ∃ x, l[lo]?.getD [] = x := ⟨_, rfl⟩
        rw [hxe] at g1 i1 hlen
        have HX : Hid (l[lo]?.getD [] = x) := hxe
        have g2 : wr.cell? ⟨b, o + lo, none⟩ = some (.slice a1 x.length p1) := by rw [hw]; exact g1
        have hc := same_ints _ _ x f wr (by rw [hw]; exact i1.any) (by rw [hw]; exact HF.out.any) (by omega)
        obtain ⟨c0, hce⟩ : ∃ c, decide (x = f) = c := ⟨_, rfl⟩
        rw [hce] at hc
        have HC : Hid (decide (x = f) = c0) := hce
        clear hce hxe g1 i1 c ha hw hl
        cases c0 with
        | true =>
          go_wp2_with (go_at_call 17; refine hc.mono ?_; rintro e w' ⟨rfl, q2, rfl⟩)
          go_ret
          have hin : f ∈ l := by
            have h1 := HX.out
            rw [of_decide_eq_true HC.out, List.getElem?_eq_getElem hll2, Option.getD_some] at h1
            exact List.mem_of_getElem h1
          refine .mk _ l rfl ?_ HO.out (fun x => ⟨.inl, fun h => h.elim id (fun e => e ▸ hin)⟩) ?_
          · rw [HW.out, World.drewN_drewN]; exact HL.out
          · rw [HW.out, World.drewN_drewN]; exact ⟨rfl, rfl, rfl, Nat.le_refl _, fun _ _ => rfl⟩
        | false =>
          have hBq : ∀ q2 W1, W1 = wr.drewN q2 → Below w.heap.size w W1 := fun q2 W1 h => by rw [h, HW.out, World.drewN_drewN]; exact ⟨rfl, rfl, rfl, Nat.le_refl _, fun _ _ => rfl⟩
          obtain ⟨vs, hs0, hvl, hvr⟩ := HL.out
          have hs := SliceIn.mono (S' := anyBlock) hs0 (fun _ _ _ => trivial)
          have hvone : ∀ c ∈ vs, c.oneCell' = true := fun c hc => by
            obtain ⟨t, ht, e⟩ := List.getElem_of_mem hc
            exact (hvr t c (l[t]'(by omega)) (by rw [List.getElem?_eq_getElem ht, e]) (List.getElem?_eq_getElem (by omega))).one
          have HVR : Hid (∀ (k : Nat) (u : Value) (x : List Int), vs[k]? = some u → l[k]? = some x → IntsIn (fun bl => base ≤ bl) w u x) := hvr
          clear hvr
          go_wp2_with (first
            | (go_at_call 17; refine hc.mono ?_; rintro e W1 ⟨rfl, q2, hW1⟩; have hB1 := hBq q2 W1 hW1; clear hW1; have hs1 := hs.below hB1)
                      | (at_builtin; refine wpList_append_slice rfl (.tmp 42) (.tmp 45) 22 rfl W1.heap.size 29 i0 (.slice none 0 0) 24 Tryz.underlying22 hi hz0 hz1 hz2 rfl (.slice none 0 0) 0 [] rfl (World.ownsRow_nil _ _ _ _) _ (vs.take lo) rfl (hs1.upto (by omega)) (one_take hvone _) (by simp; omega) (by unfold maxLen; simp; omega) (Nat.le_refl _) ?_; intro v1 w2 hown1 hg1 hl1)
            | (at_builtin; refine wpList_append_slice rfl (.tmp 47) (.tmp 49) 22 rfl W1.heap.size 29 i0 (.slice none 0 0) 24 Tryz.underlying22 hi hz0 hz1 hz2 rfl _ _ _ rfl (hown1.alloc _) _ [.slice af f.length cf] rfl (slice_one _ _ _) (by simp [Value.oneCell']) (by simp; omega) (by unfold maxLen; simp; omega) (by have := hg1.size; simp; omega) ?_; intro v2 w3 hown2 hg2 hl2; have hB3 := below_two hg1 hown1 hg2; have i4 := hs1.below hB3)
            | (at_builtin; refine wpList_append_slice rfl (.tmp 51) (.tmp 54) 22 rfl W1.heap.size 29 i0 (.slice none 0 0) 24 Tryz.underlying22 hi hz0 hz1 hz2 rfl _ _ _ rfl hown2 _ (vs.drop lo) rfl (by first | exact i4.behind (by omega) | exact i4.behind_at (by omega) | exact i4.behind_some (by omega)) (one_drop hvone _) (by simp; omega) (by unfold maxLen; simp; omega) hB3.size ?_; intro v3 w4 hown3 hg3 hl3; have hB4 := below_three hB3 hown2 hg3)
            | go_in)
          go_ret
          have hBw : Below w.heap.size w w4 := hB1.trans (hB4.mono hB1.size)
          exact .mk _ (l.take lo ++ ([f] ++ l.drop lo)) rfl (rows_ins hBw hvl HVR.out HF.out (by omega) (fun b h => Nat.le_trans hbase (Nat.le_trans hB1.size h)) hown3) (ins_order HO.out (by omega) HLO.out HHI.out (fun _ => by rw [HX.out]; exact of_decide_eq_false HC.out)) (fun x => ins_mem' x) hBw
      · obtain ⟨W1, hW1⟩ : ∃ W, W = wr := ⟨_, rfl⟩
        have hB1 : Below w.heap.size w W1 := by rw [hW1, hw]; exact ⟨rfl, rfl, rfl, Nat.le_refl _, fun _ _ => rfl⟩
        subst hW1
        clear ha hw hl
        obtain ⟨vs, hs0, hvl, hvr⟩ := HL.out
        have hs := SliceIn.mono (S' := anyBlock) hs0 (fun _ _ _ => trivial)
        have hvone : ∀ c ∈ vs, c.oneCell' = true := fun c hc => by
          obtain ⟨t, ht, e⟩ := List.getElem_of_mem hc
          exact (hvr t c (l[t]'(by omega)) (by rw [List.getElem?_eq_getElem ht, e]) (List.getElem?_eq_getElem (by omega))).one
        have HVR : Hid (∀ (k : Nat) (u : Value) (x : List Int), vs[k]? = some u → l[k]? = some x → IntsIn (fun bl => base ≤ bl) w u x) := hvr
        clear hvr
        have hs1 := hs.below hB1
        have hdn : vs.drop lo = [] := List.drop_of_length_le (by omega)
        by_cases hcl : ca = lo
        · subst hcl
          have HE2 : Hid (∀ W, SliceIn anyBlock W (.slice a 0 0) (vs.drop ca)) := fun W => SliceIn.empty (fun _ => rfl) rfl hdn
          clear hdn
          go_wp2_with (first
            | (at_builtin; refine wpList_append_slice rfl (.tmp 42) (.tmp 45) 22 rfl W1.heap.size 29 i0 (.slice none 0 0) 24 Tryz.underlying22 hi hz0 hz1 hz2 rfl (.slice none 0 0) 0 [] rfl (World.ownsRow_nil _ _ _ _) _ (vs.take ca) rfl (hs1.upto (by omega)) (one_take hvone _) (by simp; omega) (by unfold maxLen; simp; omega) (Nat.le_refl _) ?_; intro v1 w2 hown1 hg1 hl1)
            | (at_builtin; refine wpList_append_slice rfl (.tmp 47) (.tmp 49) 22 rfl W1.heap.size 29 i0 (.slice none 0 0) 24 Tryz.underlying22 hi hz0 hz1 hz2 rfl _ _ _ rfl (hown1.alloc _) _ [.slice af f.length cf] rfl (slice_one _ _ _) (by simp [Value.oneCell']) (by simp; omega) (by unfold maxLen; simp; omega) (by have := hg1.size; simp; omega) ?_; intro v2 w3 hown2 hg2 hl2; have hB3 := below_two hg1 hown1 hg2)
            | (at_builtin; refine wpList_append_slice rfl (.tmp 51) (.tmp 54) 22 rfl W1.heap.size 29 i0 (.slice none 0 0) 24 Tryz.underlying22 hi hz0 hz1 hz2 rfl _ _ _ rfl hown2 _ (vs.drop ca) rfl (HE2.out _) (one_drop hvone _) (by simp; omega) (by unfold maxLen; simp; omega) hB3.size ?_; intro v3 w4 hown3 hg3 hl3; have hB4 := below_three hB3 hown2 hg3)
            | go_in)
          go_ret
          have hBw : Below w.heap.size w w4 := hB1.trans (hB4.mono hB1.size)
          exact .mk _ (l.take ca ++ ([f] ++ l.drop ca)) rfl (rows_ins hBw hvl HVR.out HF.out (by omega) (fun b h => Nat.le_trans hbase (Nat.le_trans hB1.size h)) hown3) (ins_order HO.out (by omega) HLO.out HHI.out (fun h => absurd h hll2)) (fun x => ins_mem' x) hBw
        · have HE2 : Hid (∀ W, SliceIn anyBlock W (.slice (Option.map (fun x => x.add lo) a) (l.length - lo) (ca - lo)) (vs.drop lo)) := fun W => SliceIn.empty (fun h => by
            have := hca.2 (by simpa using h)
            omega) (by omega) hdn
          clear hdn
          go_wp2_with (first
            | (at_builtin; refine wpList_append_slice rfl (.tmp 42) (.tmp 45) 22 rfl W1.heap.size 29 i0 (.slice none 0 0) 24 Tryz.underlying22 hi hz0 hz1 hz2 rfl (.slice none 0 0) 0 [] rfl (World.ownsRow_nil _ _ _ _) _ (vs.take lo) rfl (hs1.upto (by omega)) (one_take hvone _) (by simp; omega) (by unfold maxLen; simp; omega) (Nat.le_refl _) ?_; intro v1 w2 hown1 hg1 hl1)
            | (at_builtin; refine wpList_append_slice rfl (.tmp 47) (.tmp 49) 22 rfl W1.heap.size 29 i0 (.slice none 0 0) 24 Tryz.underlying22 hi hz0 hz1 hz2 rfl _ _ _ rfl (hown1.alloc _) _ [.slice af f.length cf] rfl (slice_one _ _ _) (by simp [Value.oneCell']) (by simp; omega) (by unfold maxLen; simp; omega) (by have := hg1.size; simp; omega) ?_; intro v2 w3 hown2 hg2 hl2; have hB3 := below_two hg1 hown1 hg2)
            | (at_builtin; refine wpList_append_slice rfl (.tmp 51) (.tmp 54) 22 rfl W1.heap.size 29 i0 (.slice none 0 0) 24 Tryz.underlying22 hi hz0 hz1 hz2 rfl _ _ _ rfl hown2 _ (vs.drop lo) rfl (HE2.out _) (one_drop hvone _) (by simp; omega) (by unfold maxLen; simp; omega) hB3.size ?_; intro v3 w4 hown3 hg3 hl3; have hB4 := below_three hB3 hown2 hg3)
            | go_in)
          go_ret
          have hBw : Below w.heap.size w w4 := hB1.trans (hB4.mono hB1.size)
          exact .mk _ (l.take lo ++ ([f] ++ l.drop lo)) rfl (rows_ins hBw hvl HVR.out HF.out (by omega) (fun b h => Nat.le_trans hbase (Nat.le_trans hB1.size h)) hown3) (ins_order HO.out (by omega) HLO.out HHI.out (fun h => absurd h hll2)) (fun x => ins_mem' x) hBw

end Go.Proofs.YtnnkmkhamipfiaaGreatDoor
