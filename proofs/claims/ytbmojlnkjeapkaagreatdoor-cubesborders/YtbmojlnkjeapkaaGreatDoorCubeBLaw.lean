/- CubesBorders answers true of whatever image and dimension. -/
import Derived.Test.YtbmojlnkjeapkaaGreatDoorCubeEnds
import Derived.Test.YtbmojlnkjeapkaaGreatDoorCubeBoundary
import Derived.Test.YtbmojlnkjeapkaaGreatDoorCubeComplex
import Derived.Test.YtbmojlnkjeapkaaGreatDoorCubeRefBorder
import Derived.Test.YtbmojlnkjeapkaaGreatDoorClosed
import Derived.Test.YtbmojlnkjeapkaaGreatDoorMade0
import Derived.Test.YtbmojlnkjeapkaaGreatDoorAllEx0
namespace Go.Proofs.YtbmojlnkjeapkaaGreatDoor
open Go.RowKit Go.Sort Go.Maps

theorem srt_ok0 {x : List Int} (h : SetOk x) : SetOk (srt x) := by
  refine ⟨fun e => ?_, ?_, fun v hv => h.2.2 v ((srt_mem x v).1 hv)⟩
  · obtain ⟨v, hv⟩ := List.exists_mem_of_ne_nil x h.1
    have := (srt_mem x v).2 hv
    rw [e] at this; cases this
  · exact (srt_rising h.2.1).imp (fun hlt e => by omega)

set_option maxRecDepth 100000 in
theorem same_matrix2 (va vb : Value) (r c : Int) (L : List Int) (w : World) (ha : Ints w va L) (hb : Ints w vb L) (hl : L.length ≤ 1000000) :
    Calls Tryz.prog 14 #[.agg #[.int .i64 r, .int .i64 c, va], .agg #[.int .i64 r, .int .i64 c, vb]] w fun e w' => e = .returned (.bool true) ∧ Below w.heap.size w w' := by
  have HA : Hid (Ints w va L) := ha
  have HB : Hid (Ints w vb L) := hb
  obtain ⟨aa, ca, rfl, -, -⟩ := ha.open_
  obtain ⟨ab, cb, rfl, -, -⟩ := hb.open_
  have hBa : Below w.heap.size w ((w.alloc (.cells #[.int .i64 r, .int .i64 c, .slice aa L.length ca] 46)).alloc (.cells #[.int .i64 r, .int .i64 c, .slice ab L.length cb] 46)) := ((Below.refl _ w).alloc (Nat.le_refl _) _).alloc (by simp) _
  have hsi := same_ints _ _ L L _ (HA.out.below hBa) (HB.out.below hBa) hl
  rw [decide_eq_true rfl] at hsi
  clear ha hb
  go_enter Tryz.func14, Tryz.ntmps14
  go_wp2_with fail
  refine hsi.mono ?_
  clear hsi
  rintro e w2 ⟨rfl, q, hw2⟩
  have hB2 : Below w.heap.size w w2 := by rw [hw2]; exact hBa.trans ⟨rfl, rfl, rfl, Nat.le_refl _, fun _ _ => rfl⟩
  clear hw2
  go_wp2
  go_ret
  exact ⟨rfl, hB2⟩

set_option maxRecDepth 100000 in
theorem ref2_ (v : Value) (r c : Int) (L : List Int) (w : World) (h : Ints w v L) :
    Calls Tryz.prog 15 #[.agg #[.int .i64 r, .int .i64 c, v]] w fun e w' => e = .returned (.agg #[.int .i64 r, .int .i64 c, v]) ∧ Below w.heap.size w w' := by
  obtain ⟨av, cv, rfl, -, -⟩ := h.open_
  have hb := matBox_new (w.alloc (.cells #[.int .i64 r, .int .i64 c, .slice av L.length cv] 42)) r c (.slice av L.length cv) 46
  rw [World.size_alloc] at hb
  have t0 := hb.c0.1
  have t1 := hb.c1.1
  have t2 := hb.c2.1
  clear hb h
  go_enter Tryz.func15, Tryz.ntmps15
  go_wp2
  refine bodyPost_ret (v := .agg #[.int .i64 r, .int .i64 c, .slice av L.length cv]) ?_ rfl ⟨rfl, ((Below.refl _ w).alloc (Nat.le_refl _) _).alloc (by simp) _⟩
  simp [results, Tryz.f15, go_sem, t0, t1, t2]

/-- What Complex and the reference's Made answer, told in one way: an error's value and number, and the facets. -/
structure Both2 (a : Nat → Addr) (m : List (List UInt8)) (F : List (List Int)) (f : Int) (eC : Value) : Prop where
  code : (∃ i, i < 8 ∧ eC = errV (a i) ∧ f = (i : Int) + 1) ∨ (eC = .nilIface ∧ f = 0)
  few : F.length ≤ 1000000 ∧ ∀ x ∈ F, x.length ≤ 1000000
  cpx : ∀ (s : Nat → ByteArray) (vm : Value) (w : World), Errs a s w → Strs w vm m → m.length ≤ 1000 → Calls Tryz.prog 7 #[vm] w fun e w' => ∃ v, e = .returned (.tuple #[.agg #[v], eC]) ∧ Rows w' v F ∧ Below w.heap.size w w'
  made : ∀ (vl : Value) (w : World), Rows w vl (triI (wide m) (squaresL (fullI m) (cornersI m))) → Calls Tryz.prog 9 #[vl] w fun e w' => ∃ v, e = .returned (.tuple #[v, .int .i64 f]) ∧ Rows w' v F ∧ Below w.heap.size w w'

theorem rows_nil (w : World) : Rows w (.slice none 0 0) [] := (OwnRows.nil 0 w).rows

theorem both2 (a : Nat → Addr) {m : List (List UInt8)} (hok : OkImg m) : ∃ F f eC, Both2 a m F f eC := by
  obtain ⟨l, hl⟩ : ∃ l, triI (wide m) (squaresL (fullI m) (cornersI m)) = l := ⟨_, rfl⟩
  have hll : l.length ≤ 100000 := by rw [← hl, triI_len, squaresL_len]; have := (counts_le m hok).2.2; omega
  have hle : ∀ x ∈ l, x.length ≤ 1000 := by rw [← hl]; exact triI_three _ _
  by_cases h1 : ∀ x ∈ l, SetOk x
  · by_cases h2 : Over (l.map srt)
    · refine ⟨[], 2, errV (a 1), .inl ⟨1, by decide, rfl, rfl⟩, ⟨by simp, fun x hx => by cases hx⟩, fun s vm w hE hm hml => (complex_ vm m w hE hm hml).mono fun e w' h => ?_, fun vl w hr => ?_⟩
      · rcases h.2 with ⟨i, hb, _⟩ | ⟨_, ⟨h3, _⟩ | ⟨_, ts, hts, ⟨_, he⟩ | ⟨h3, _⟩⟩⟩
        · exact (ok_not_bad hok hb).elim
        · rw [hl] at h3; exact absurd h1 h3
        · exact ⟨_, he, rows_nil _, h.1⟩
        · rw [hl] at hts; exact absurd (over_told hts h2) h3
      · rw [hl] at hr
        refine (made_ closed_ vl l w hr hll hle).mono fun e w' h => ?_
        rcases h.2 with ⟨h3, _⟩ | ⟨_, _, he⟩ | ⟨_, h3, _⟩
        · exact absurd h1 h3
        · exact ⟨_, he, rows_nil _, h.1⟩
        · exact absurd h2 h3
    · obtain ⟨all, hal⟩ := all_ex (g := l.map srt) (fun t ht => by obtain ⟨x, hx, rfl⟩ := List.mem_map.1 ht; exact srt_ok0 (h1 x hx))
      have h6 : all.length ≤ 600 := by
        rcases Nat.lt_or_ge 600 all.length with h | h
        · exact absurd (.inr ⟨all, order_nodup hal.order, h, fun x hx => (hal.mem x).1 hx⟩) h2
        · exact h
      refine ⟨facetsI all, 0, .nilIface, .inr ⟨rfl, rfl⟩, ⟨?_, fun x hx => ?_⟩, fun s vm w hE hm hml => (complex_ vm m w hE hm hml).mono fun e w' h => ?_, fun vl w hr => ?_⟩
      · have : (facetsI all).length ≤ all.length := List.length_filter_le _ _
        omega
      · have := all_short hal h2 x (List.mem_filter.1 hx).1
        omega
      · rcases h.2 with ⟨i, hb, _⟩ | ⟨_, ⟨h3, _⟩ | ⟨_, ts, hts, ⟨h3, _⟩ | ⟨_, v, ss, he, hr, hn, hm'⟩⟩⟩
        · exact (ok_not_bad hok hb).elim
        · rw [hl] at h3; exact absurd h1 h3
        · rw [hl] at hts; exact absurd (over_back hts h3) h2
        · rw [hl] at hts
          refine ⟨v, he, ?_, h.1⟩
          rw [← told_same h1 hts hn hm' hal]
          exact hr
      · rw [hl] at hr
        refine (made_ closed_ vl l w hr hll hle).mono fun e w' h => ?_
        rcases h.2 with ⟨h3, _⟩ | ⟨_, h3, _⟩ | ⟨_, _, v, all', he, hr', hal', _⟩
        · exact absurd h1 h3
        · exact absurd h3 h2
        · obtain rfl : all = all' := order_told hal.order hal'.order (fun x => by rw [hal.mem, hal'.mem])
          exact ⟨v, he, hr', h.1⟩
  · refine ⟨[], 4, errV (a 3), .inl ⟨3, by decide, rfl, rfl⟩, ⟨by simp, fun x hx => by cases hx⟩, fun s vm w hE hm hml => (complex_ vm m w hE hm hml).mono fun e w' h => ?_, fun vl w hr => ?_⟩
    · rcases h.2 with ⟨i, hb, _⟩ | ⟨_, ⟨_, he⟩ | ⟨h3, _⟩⟩
      · exact (ok_not_bad hok hb).elim
      · exact ⟨_, he, rows_nil _, h.1⟩
      · rw [hl] at h3; exact absurd h3 h1
    · rw [hl] at hr
      refine (made_ closed_ vl l w hr hll hle).mono fun e w' h => ?_
      rcases h.2 with ⟨_, he⟩ | ⟨h3, _⟩ | ⟨h3, _⟩
      · exact ⟨_, he, rows_nil _, h.1⟩
      · exact absurd h3 h1
      · exact absurd h3 h1

theorem coded2 {a : Nat → Addr} {s : Nat → ByteArray} {m : List (List UInt8)} {F : List (List Int)} {f : Int} {eC : Value} (h : Both2 a m F f eC) (w : World) (hE : Errs a s w) : Calls Tryz.prog 12 #[eC, .int .i64 f] w fun e w' => e = .returned (.bool true) ∧ Below w.heap.size w w' := by
  rcases h.code with ⟨i, hi, rfl, rfl⟩ | ⟨rfl, rfl⟩
  · exact coded_bad w hE hi
  · exact coded_ok w

theorem border_few {m : List (List UInt8)} (hok : OkImg m) {d : Int} (hd : 0 ≤ d ∧ d ≤ 3) : (borderC m d).length ≤ 1000000 := by
  have h := counts_le m hok
  unfold borderC
  rw [matL_len]
  have h1 : (cornersL (fullI m) (cornersI m)).length ≤ 625 := by rw [cornersL_len]; exact h.1
  have h2 : (edgesL (fullI m) (cornersI m)).length ≤ 1250 := by rw [edgesL_len]; exact h.2.1
  have h3 : (squaresL (fullI m) (cornersI m)).length ≤ 625 := by rw [squaresL_len]; exact h.2.2
  obtain rfl | rfl | rfl | rfl : d = 0 ∨ d = 1 ∨ d = 2 ∨ d = 3 := by omega
  · unfold rowsC; simp
  · rw [rowsC_one, colsC_one, List.length_map, List.length_map]
    exact Nat.le_trans (Nat.mul_le_mul h1 h2) (by decide)
  · rw [rowsC_two, colsC_two, List.length_map, List.length_map]
    exact Nat.le_trans (Nat.mul_le_mul h2 h3) (by decide)
  · rw [colsC_three]; simp

/-- The struct of a complex, of a matrix, in a variable: in each later world. -/
theorem one_later {w V : World} {v : Value} {t : TypeId} (h : Below (w.alloc (.cells #[v] t)).heap.size (w.alloc (.cells #[v] t)) V) : V.cell? ⟨w.heap.size, 0, none⟩ = some v := (h.cell (p := ⟨w.heap.size, 0, none⟩) (by simp)).trans (box_new w v t).1
theorem mat_later {w V : World} {r c : Int} {v : Value} {t : TypeId} (h : Below (w.alloc (.cells #[.int .i64 r, .int .i64 c, v] t)).heap.size (w.alloc (.cells #[.int .i64 r, .int .i64 c, v] t)) V) : MatBox w.heap.size V r c v := (matBox_new w r c v t).below h

theorem errs_coded {a : Nat → Addr} {s : Nat → ByteArray} (w : World) (hE : Errs a s w) {i : Nat} (hi : i < 8) {E : Int} (h : (i : Int) + 1 = E) : Calls Tryz.prog 12 #[errV (a i), .int .i64 E] w fun e w' => e = .returned (.bool true) ∧ Below w.heap.size w w' := by rw [← h]; exact coded_bad w hE hi

set_option maxRecDepth 100000 in
set_option maxHeartbeats 4000000 in
theorem borders_law {a : Nat → Addr} {s : Nat → ByteArray} (vm : Value) (m : List (List UInt8)) (d : Int) (w : World) (hE : Errs a s w) (hm : Strs w vm m) (hlen : m.length ≤ maxLen) (hrow : ∀ r ∈ m, r.length ≤ maxLen) :
    Calls Tryz.prog 3 #[vm, .int .i64 d] w fun e w' => e = .returned (.bool true) ∧ Below w.heap.size w w' := by
  have hri := ring_ w hE
  have hli : ∀ V, Below w.heap.size w V → _ := fun V hV => little_ vm m V (hm.below hV) hlen 60
  have HH : Hid (Errs a s w ∧ Strs w vm m ∧ ∀ r ∈ m, r.length ≤ maxLen) := ⟨hE, hm, hrow⟩
  clear hE hm hlen hrow
  go_enter Tryz.func3, Tryz.ntmps3
  go_wp2_with fail
  refine hri.mono ?_
  rintro e w1 ⟨rfl, hB1⟩
  have hl1 := hli w1 hB1
  have HC : Hid (Below w.heap.size w w1) := hB1
  clear hri hli hB1
  go_wp2_with fail
  refine hl1.mono ?_
  rintro e w2 ⟨q, rfl, rfl, hq⟩
  clear hl1
  cases q with
  | false =>
    clear hq
    go_wp2_with fail
    go_ret
    exact ⟨rfl, HC.out⟩
  | true =>
    have h60 : m.length ≤ 1000 := by have := hq rfl; omega
    clear hq
    have hie : ∀ V, Below w.heap.size w V → Calls Tryz.prog 6 #[vm] V fun e w' => e = .returned (.int .i64 (errN m)) ∧ Below V.heap.size V w' := fun V hV => (image_error vm m V (HH.out.2.1.below hV) h60 HH.out.2.2).mono fun e w' h => ⟨h.1, h.2.below⟩
    have hpi : ∀ V, Below w.heap.size w V → Calls Tryz.prog 8 #[vm] V fun e w' => ∃ v, e = .returned v ∧ Strs w' v m ∧ Below V.heap.size V w' := fun V hV => (picture_ vm m V (HH.out.2.1.below hV) h60).mono fun e w' h => by
      obtain ⟨v, h1, h2, h3⟩ := h
      exact ⟨v, h1, SliceIn.mono h2 (fun _ _ _ => trivial), h3⟩
    rcases ok_or_bad m with hok | ⟨i, hbad⟩
    · obtain ⟨F, f, eC, hbt⟩ := both2 a hok
      have hcx : ∀ V v, Below w.heap.size w V → Strs V v m → Calls Tryz.prog 7 #[v] V fun e w' => ∃ u, e = .returned (.tuple #[.agg #[u], eC]) ∧ Rows w' u F ∧ Below V.heap.size V w' := fun V v hV hs => hbt.cpx s v V (HH.out.1.below hV) hs h60
      obtain ⟨l, hl⟩ : ∃ l, triI (wide m) (squaresL (fullI m) (cornersI m)) = l := ⟨_, rfl⟩
      have his : ∀ V, Below w.heap.size w V → Calls Tryz.prog 10 #[vm] V fun e w' => ∃ u, e = .returned u ∧ Rows w' u l ∧ Below V.heap.size V w' := fun V hV => (image_sets vm m V (HH.out.2.1.below hV) hok.img.1 hok.img.2.1 hok.img.2.2.1).mono fun e w' h => by
        obtain ⟨u, h1, h2, h3⟩ := h
        refine ⟨u, h1, ?_, h3⟩
        rw [← hl, show squaresL (fullI m) (cornersI m) = _ from squares_full m (wide m) m.length]
        exact h2.rows
      have hma : ∀ V u, Rows V u l → Calls Tryz.prog 9 #[u] V fun e w' => ∃ v, e = .returned (.tuple #[v, .int .i64 f]) ∧ Rows w' v F ∧ Below V.heap.size V w' := fun V u h => hbt.made u V (by rw [hl]; exact h)
      have hcd : ∀ V, Below w.heap.size w V → Calls Tryz.prog 12 #[eC, .int .i64 f] V fun e w' => e = .returned (.bool true) ∧ Below V.heap.size V w' := fun V hV => coded2 hbt V (HH.out.1.below hV)
      have hsl : ∀ V u v, Rows V u F → Rows V v F → Calls Tryz.prog 11 #[u, v] V fun e w' => e = .returned (.bool true) ∧ Below V.heap.size V w' := fun V u v h1 h2 => (same_lists _ _ F F V h1 h2 hbt.few.1 hbt.few.2).mono fun e w' h => by
        obtain ⟨h1, q, h2⟩ := h
        exact ⟨by rw [h1, decide_eq_true rfl], by rw [h2]; exact ⟨rfl, rfl, rfl, Nat.le_refl _, fun _ _ => rfl⟩⟩
      rw [errN_ok hok] at hie
      have HO : Hid (OkImg m) := hok
      clear hl hbt hok
      go_upto_region 7 with (first
        | (go_at_call 6; refine (hie _ HC.out).mono ?_; rintro e V ⟨rfl, hV⟩; replace HC : Hid (Below w.heap.size w V) := HC.out.trans (hV.mono HC.out.size); clear hV)
        | (go_at_call 8; refine (hpi _ HC.out).mono ?_; rintro e V ⟨v, rfl, hs, hV⟩; replace HC : Hid (Below w.heap.size w V) := HC.out.trans (hV.mono HC.out.size); have HS : Hid (Strs V v m) := hs; clear hV hs)
        | (go_at_call 7; refine (hcx _ _ HC.out HS.out).mono ?_; rintro e V8 ⟨u8, rfl, hu, hV⟩; have H8 : Hid (Rows V8 u8 F) := hu; obtain ⟨a8, c8, rfl, -, -⟩ := hu.open_; replace HC : Hid (Below w.heap.size w V8) := HC.out.trans (hV.mono HC.out.size); clear hV HS hu))
      have k8 := (box_new V8 (.slice a8 F.length c8) 28).1
      replace HC : Hid (Below w.heap.size w (V8.alloc (.cells #[.slice a8 F.length c8] 28))) := HC.out.alloc HC.out.size _
      replace H8 : Hid (Rows (V8.alloc (.cells #[.slice a8 F.length c8] 28)) (.slice a8 F.length c8) F) := H8.out.below ((Below.refl _ V8).alloc (Nat.le_refl _) _)
      have hb8 : V8.heap.size < (V8.alloc (.cells #[.slice a8 F.length c8] 28)).heap.size := by simp
      obtain ⟨W8, hW8⟩ : ∃ W8, V8.alloc (.cells #[.slice a8 F.length c8] 28) = W8 := ⟨_, rfl⟩
      obtain ⟨b8, hb8e⟩ : ∃ b8, V8.heap.size = b8 := ⟨_, rfl⟩
      rw [hW8, hb8e] at k8 hb8
      rw [hW8] at HC H8
      rw [hW8, hb8e]
      have HD : Hid (Below W8.heap.size W8 W8) := Below.refl _ _
      clear hW8 hb8e hie hcx
      go_upto_region 14 with (first
        | (go_at_call 10; refine (his _ (HC.out.trans (HD.out.mono HC.out.size))).mono ?_; rintro e V ⟨u, rfl, hu, hV⟩; have HU : Hid (Rows V u l) := hu; obtain ⟨au, cu, rfl, -, -⟩ := hu.open_; replace HD : Hid (Below W8.heap.size W8 V) := HD.out.trans (hV.mono HD.out.size); clear hV hu)
        | (go_at_call 9; refine (hma _ _ HU.out).mono ?_; rintro e V ⟨u, rfl, hu, hV⟩; have HT : Hid (Rows V u F) := hu; obtain ⟨au, cu, rfl, -, -⟩ := hu.open_; replace HD : Hid (Below W8.heap.size W8 V) := HD.out.trans (hV.mono HD.out.size); have j8 := (HD.out.cell (p := ⟨b8, 0, none⟩) hb8).trans k8; clear hV hu HU)
        | (go_at_call 11; refine (hsl _ _ _ (H8.out.below HD.out) HT.out).mono ?_; rintro e V ⟨rfl, hV⟩; replace HD : Hid (Below W8.heap.size W8 V) := HD.out.trans (hV.mono HD.out.size); clear hV)
        | (go_at_call 12; refine (hcd _ (HC.out.trans (HD.out.mono HC.out.size))).mono ?_; rintro e V14 ⟨rfl, hV⟩; replace HD : Hid (Below W8.heap.size W8 V14) := HD.out.trans (hV.mono HD.out.size); clear hV))
      replace HC : Hid (Below w.heap.size w V14) := HC.out.trans (HD.out.mono HC.out.size)
      clear HD H8 k8 hb8 his hma hsl hcd j8 HT
      by_cases hd : 0 ≤ d ∧ d ≤ 3
      · have hbo : ∀ V v, Below w.heap.size w V → Strs V v m → Calls Tryz.prog 13 #[v, .int .i64 d] V fun e w' => ∃ u, e = .returned (.tuple #[.agg #[.int .i64 (rowsC m d).length, .int .i64 (colsC m d).length, u], .nilIface]) ∧ Ints w' u (borderC m d) ∧ Below V.heap.size V w' := fun V v hV hs => (boundary_i v m d V (HH.out.1.below hV) hs h60).mono fun e w' h => by
          rcases h.2 with ⟨j, hj, _⟩ | h2 | ⟨_, _, u, h3, h4⟩
          · exact (ok_not_bad HO.out hj).elim
          · exact absurd hd h2.2.1
          · exact ⟨u, h3, h4, h.1⟩
        have hcb : ∀ V, Below w.heap.size w V → Calls Tryz.prog 16 #[vm, .int .i64 d] V fun e w' => ∃ v, e = .returned (.agg #[.int .i64 (rowsC m d).length, .int .i64 (colsC m d).length, v]) ∧ Ints w' v (borderC m d) ∧ Below V.heap.size V w' := fun V hV => cell_border vm m V (HH.out.2.1.below hV) HO.out d hd
        have hfew := border_few HO.out hd
        obtain ⟨R, hR⟩ : ∃ R, (rowsC m d).length = R := ⟨_, rfl⟩
        obtain ⟨C, hC⟩ : ∃ C, (colsC m d).length = C := ⟨_, rfl⟩
        obtain ⟨L, hL⟩ : ∃ L, borderC m d = L := ⟨_, rfl⟩
        rw [hR, hC, hL] at hbo hcb
        rw [hL] at hfew
        have hsm : ∀ V u v, Ints V u L → Ints V v L → Calls Tryz.prog 14 #[.agg #[.int .i64 (R : Int), .int .i64 (C : Int), u], .agg #[.int .i64 (R : Int), .int .i64 (C : Int), v]] V fun e w' => e = .returned (.bool true) ∧ Below V.heap.size V w' := fun V u v h1 h2 => same_matrix2 u v R C L V h1 h2 hfew
        have hrf : ∀ V u, Ints V u L → Calls Tryz.prog 15 #[.agg #[.int .i64 (R : Int), .int .i64 (C : Int), u]] V fun e w' => e = .returned (.agg #[.int .i64 (R : Int), .int .i64 (C : Int), u]) ∧ Below V.heap.size V w' := fun V u h1 => ref2_ u R C L V h1
        clear hR hC hL h60
        go_upto_region 17 with (first
          | (go_at_call 8; refine (hpi _ HC.out).mono ?_; rintro e V ⟨v, rfl, hs, hV⟩; replace HC : Hid (Below w.heap.size w V) := HC.out.trans (hV.mono HC.out.size); have HS : Hid (Strs V v m) := hs; clear hV hs)
          | (go_at_call 13; refine (hbo _ _ HC.out HS.out).mono ?_; rintro e V13 ⟨u13, rfl, hu, hV⟩; have H13 : Hid (Ints V13 u13 L) := hu; obtain ⟨a13, c13, rfl, -, -⟩ := hu.open_; replace HC : Hid (Below w.heap.size w V13) := HC.out.trans (hV.mono HC.out.size); clear hV HS hu))
        have m13 := matBox_new V13 R C (.slice a13 L.length c13) 42
        replace HC : Hid (Below w.heap.size w (V13.alloc (.cells #[.int .i64 (R : Int), .int .i64 (C : Int), .slice a13 L.length c13] 42))) := HC.out.alloc HC.out.size _
        replace H13 : Hid (Ints (V13.alloc (.cells #[.int .i64 (R : Int), .int .i64 (C : Int), .slice a13 L.length c13] 42)) (.slice a13 L.length c13) L) := H13.out.below ((Below.refl _ V13).alloc (Nat.le_refl _) _)
        obtain ⟨W13, hW13⟩ : ∃ W13, V13.alloc (.cells #[.int .i64 (R : Int), .int .i64 (C : Int), .slice a13 L.length c13] 42) = W13 := ⟨_, rfl⟩
        rw [hW13] at m13 HC H13 ⊢
        have k0 := m13.c0.1
        have k1 := m13.c1.1
        have k2 := m13.c2.1
        have HD : Hid (Below W13.heap.size W13 W13) := Below.refl _ _
        clear hW13 m13 hpi hbo
        go_wp2_with (first
          | (go_at_call 15; refine (hrf _ _ (H13.out.below HD.out)).mono ?_; rintro e V ⟨rfl, hV⟩; replace HD : Hid (Below W13.heap.size W13 V) := HD.out.trans (hV.mono HD.out.size); clear hV)
          | (go_at_call 16; refine (hcb _ (HC.out.trans (HD.out.mono HC.out.size))).mono ?_; rintro e V ⟨u, rfl, hu, hV⟩; have HU : Hid (Ints V u L) := hu; obtain ⟨au, cu, rfl, -, -⟩ := hu.open_; replace HD : Hid (Below W13.heap.size W13 V) := HD.out.trans (hV.mono HD.out.size); clear hV hu)
          | (go_at_call 14; refine (hsm _ _ _ (H13.out.below HD.out) HU.out).mono ?_; rintro e V ⟨rfl, hV⟩; replace HD : Hid (Below W13.heap.size W13 V) := HD.out.trans (hV.mono HD.out.size); clear hV)
          | fail)
        go_ret
        exact ⟨rfl, HC.out.trans (HD.out.mono HC.out.size)⟩
      · have hbo : ∀ V v, Below w.heap.size w V → Strs V v m → Calls Tryz.prog 13 #[v, .int .i64 d] V fun e w' => e = .returned (.tuple #[.agg #[.int .i64 0, .int .i64 0, .slice none 0 0], errV (a 1)]) ∧ Below V.heap.size V w' := fun V v hV hs => (boundary_i v m d V (HH.out.1.below hV) hs h60).mono fun e w' h => by
          rcases h.2 with ⟨j, hj, _⟩ | h2 | h2
          · exact (ok_not_bad HO.out hj).elim
          · exact ⟨h2.2.2, h.1⟩
          · exact absurd h2.2.1 hd
        have hcd : ∀ V, Below w.heap.size w V → Calls Tryz.prog 12 #[errV (a 1), .int .i64 2] V fun e w' => e = .returned (.bool true) ∧ Below V.heap.size V w' := fun V hV => errs_coded V (HH.out.1.below hV) (by decide) (by decide)
        obtain ⟨ev, hev⟩ : ∃ ev, errV (a 1) = ev := ⟨_, rfl⟩
        rw [hev] at hbo hcd
        have hd2 : d < 0 ∨ 3 < d := by omega
        clear hev h60 hd
        rcases hd2 with hd2 | hd2
        · skip
          go_upto_region 17 with (first
            | (go_at_call 8; refine (hpi _ HC.out).mono ?_; rintro e V ⟨v, rfl, hs, hV⟩; replace HC : Hid (Below w.heap.size w V) := HC.out.trans (hV.mono HC.out.size); have HS : Hid (Strs V v m) := hs; clear hV hs)
            | (go_at_call 13; refine (hbo _ _ HC.out HS.out).mono ?_; rintro e V13 ⟨rfl, hV⟩; replace HC : Hid (Below w.heap.size w V13) := HC.out.trans (hV.mono HC.out.size); clear hV HS))
          have m13 := matBox_new V13 0 0 (.slice none 0 0) 42
          replace HC : Hid (Below w.heap.size w (V13.alloc (.cells #[.int .i64 0, .int .i64 0, .slice none 0 0] 42))) := HC.out.alloc HC.out.size _
          obtain ⟨W13, hW13⟩ : ∃ W13, V13.alloc (.cells #[.int .i64 0, .int .i64 0, .slice none 0 0] 42) = W13 := ⟨_, rfl⟩
          rw [hW13] at m13 HC ⊢
          have hcd13 := hcd W13 HC.out
          clear hW13 hcd hpi hbo
          go_wp2_with (first
            | (go_at_call 12; refine hcd13.mono ?_; rintro e V ⟨rfl, hV⟩; replace HC : Hid (Below w.heap.size w V) := HC.out.trans (hV.mono HC.out.size); have k := m13.below hV; have k0 := k.c0.1; have k1 := k.c1.1; have k2 := k.c2.1; clear hV k)
            | fail)
          go_ret
          exact ⟨rfl, HC.out⟩
        · skip
          go_upto_region 17 with (first
            | (go_at_call 8; refine (hpi _ HC.out).mono ?_; rintro e V ⟨v, rfl, hs, hV⟩; replace HC : Hid (Below w.heap.size w V) := HC.out.trans (hV.mono HC.out.size); have HS : Hid (Strs V v m) := hs; clear hV hs)
            | (go_at_call 13; refine (hbo _ _ HC.out HS.out).mono ?_; rintro e V13 ⟨rfl, hV⟩; replace HC : Hid (Below w.heap.size w V13) := HC.out.trans (hV.mono HC.out.size); clear hV HS))
          have m13 := matBox_new V13 0 0 (.slice none 0 0) 42
          replace HC : Hid (Below w.heap.size w (V13.alloc (.cells #[.int .i64 0, .int .i64 0, .slice none 0 0] 42))) := HC.out.alloc HC.out.size _
          obtain ⟨W13, hW13⟩ : ∃ W13, V13.alloc (.cells #[.int .i64 0, .int .i64 0, .slice none 0 0] 42) = W13 := ⟨_, rfl⟩
          rw [hW13] at m13 HC ⊢
          have hcd13 := hcd W13 HC.out
          clear hW13 hcd hpi hbo
          go_wp2_with (first
            | (go_at_call 12; refine hcd13.mono ?_; rintro e V ⟨rfl, hV⟩; replace HC : Hid (Below w.heap.size w V) := HC.out.trans (hV.mono HC.out.size); have k := m13.below hV; have k0 := k.c0.1; have k1 := k.c1.1; have k2 := k.c2.1; clear hV k)
            | fail)
          go_ret
          exact ⟨rfl, HC.out⟩
    · have hi8 := bad_lt hbad
      have hcx : ∀ V v, Below w.heap.size w V → Strs V v m → Calls Tryz.prog 7 #[v] V fun e w' => e = .returned (.tuple #[.agg #[.slice none 0 0], errV (a i)]) ∧ Below V.heap.size V w' := fun V v hV hs => (complex_ v m V (HH.out.1.below hV) hs h60).mono fun e w' h => by
        rcases h.2 with ⟨j, hj, he⟩ | h2
        · rw [bad_one hbad hj]; exact ⟨he, h.1⟩
        · exact (ok_not_bad h2.1 hbad).elim
      have hbo : ∀ V v, Below w.heap.size w V → Strs V v m → Calls Tryz.prog 13 #[v, .int .i64 d] V fun e w' => e = .returned (.tuple #[.agg #[.int .i64 0, .int .i64 0, .slice none 0 0], errV (a i)]) ∧ Below V.heap.size V w' := fun V v hV hs => (boundary_i v m d V (HH.out.1.below hV) hs h60).mono fun e w' h => by
        rcases h.2 with ⟨j, hj, he⟩ | h2 | h2
        · rw [bad_one hbad hj]; exact ⟨he, h.1⟩
        · exact (ok_not_bad h2.1 hbad).elim
        · exact (ok_not_bad h2.1 hbad).elim
      have hsl : ∀ V, Calls Tryz.prog 11 #[.slice none 0 0, .slice none 0 0] V fun e w' => e = .returned (.bool true) ∧ Below V.heap.size V w' := fun V => (same_lists _ _ [] [] V (rows_nil V) (rows_nil V) (by simp) (fun x hx => by cases hx)).mono fun e w' h => by
        obtain ⟨h1, q, h2⟩ := h
        exact ⟨by rw [h1]; rfl, by rw [h2]; exact ⟨rfl, rfl, rfl, Nat.le_refl _, fun _ _ => rfl⟩⟩
      rw [errN_bad hbad] at hie
      obtain ⟨E, hEn⟩ : ∃ E : Int, (i : Int) + 1 = E := ⟨_, rfl⟩
      have hcd : ∀ V, Below w.heap.size w V → Calls Tryz.prog 12 #[errV (a i), .int .i64 E] V fun e w' => e = .returned (.bool true) ∧ Below V.heap.size V w' := fun V hV => errs_coded V (HH.out.1.below hV) hi8 hEn
      have hE1 : 0 < E := by omega
      have hE0 : (E == 0) = false := beq_false_of_ne (by omega)
      obtain ⟨ev, hev⟩ : ∃ ev, errV (a i) = ev := ⟨_, rfl⟩
      rw [hEn] at hie
      rw [hev] at hcx hbo hcd
      clear hEn hev hbad hi8 h60
      go_upto_region 7 with (first
        | (go_at_call 6; refine (hie _ HC.out).mono ?_; rintro e V ⟨rfl, hV⟩; replace HC : Hid (Below w.heap.size w V) := HC.out.trans (hV.mono HC.out.size); clear hV)
        | (go_at_call 8; refine (hpi _ HC.out).mono ?_; rintro e V ⟨v, rfl, hs, hV⟩; replace HC : Hid (Below w.heap.size w V) := HC.out.trans (hV.mono HC.out.size); have HS : Hid (Strs V v m) := hs; clear hV hs)
        | (go_at_call 7; refine (hcx _ _ HC.out HS.out).mono ?_; rintro e V8 ⟨rfl, hV⟩; replace HC : Hid (Below w.heap.size w V8) := HC.out.trans (hV.mono HC.out.size); clear hV HS))
      have c8 := (box_new V8 (.slice none 0 0) 28).1
      replace HC : Hid (Below w.heap.size w (V8.alloc (.cells #[.slice none 0 0] 28))) := HC.out.alloc HC.out.size _
      obtain ⟨W8, hW8⟩ : ∃ W8, V8.alloc (.cells #[.slice none 0 0] 28) = W8 := ⟨_, rfl⟩
      rw [hW8] at c8 HC ⊢
      clear hW8
      go_upto_region 17 with (first
        | (go_at_call 11; refine (hsl _).mono ?_; rintro e V ⟨rfl, hV⟩; replace HC : Hid (Below w.heap.size w V) := HC.out.trans (hV.mono HC.out.size); clear hV)
        | (go_at_call 12; refine (hcd _ HC.out).mono ?_; rintro e V ⟨rfl, hV⟩; replace HC : Hid (Below w.heap.size w V) := HC.out.trans (hV.mono HC.out.size); clear hV)
        | (go_at_call 8; refine (hpi _ HC.out).mono ?_; rintro e V ⟨v, rfl, hs, hV⟩; replace HC : Hid (Below w.heap.size w V) := HC.out.trans (hV.mono HC.out.size); have HS : Hid (Strs V v m) := hs; clear hV hs)
        | (go_at_call 13; refine (hbo _ _ HC.out HS.out).mono ?_; rintro e V13 ⟨rfl, hV⟩; replace HC : Hid (Below w.heap.size w V13) := HC.out.trans (hV.mono HC.out.size); clear hV HS))
      have m13 := matBox_new V13 0 0 (.slice none 0 0) 42
      replace HC : Hid (Below w.heap.size w (V13.alloc (.cells #[.int .i64 0, .int .i64 0, .slice none 0 0] 42))) := HC.out.alloc HC.out.size _
      obtain ⟨W13, hW13⟩ : ∃ W13, V13.alloc (.cells #[.int .i64 0, .int .i64 0, .slice none 0 0] 42) = W13 := ⟨_, rfl⟩
      rw [hW13] at m13 HC ⊢
      have hcd13 := hcd W13 HC.out
      clear hW13 hcd hie hpi hcx hbo hsl c8
      go_wp2_with (first
        | (go_at_call 12; refine hcd13.mono ?_; rintro e V ⟨rfl, hV⟩; replace HC : Hid (Below w.heap.size w V) := HC.out.trans (hV.mono HC.out.size); have k := m13.below hV; have k0 := k.c0.1; have k1 := k.c1.1; have k2 := k.c2.1; clear hV k)
        | fail)
      go_ret
      exact ⟨rfl, HC.out⟩

end Go.Proofs.YtbmojlnkjeapkaaGreatDoor
