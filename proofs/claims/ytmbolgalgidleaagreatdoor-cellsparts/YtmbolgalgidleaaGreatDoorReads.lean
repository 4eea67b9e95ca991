/- What the calls answer that read a complex: Faces, Vector, Euler, Has. -/
import Derived.Test.YtmbolgalgidleaaGreatDoorGate
import Derived.Test.YtmbolgalgidleaaGreatDoorVector
import Derived.Test.YtmbolgalgidleaaGreatDoorIsSorted
namespace Go.Proofs.YtmbolgalgidleaaGreatDoor
open Go.RowKit Go.Sort Go.Maps Go.Deep

/-- A face as it is told: a set whose numbers rise. -/
def FaceOk (f : List Int) : Prop := SetOk f ∧ Rising f

set_option maxRecDepth 100000 in
theorem face_text (vf : Value) (f : List Int) (w : World) (hf : Ints w vf f) (hl : f.length ≤ 1000) :
    Calls Tryz.prog 46 #[vf] w fun e w' => Below w.heap.size w w' ∧ ((FaceOk f ∧ ∃ t, ints t = f ∧ e = .returned (.tuple #[encStr t, .bool true])) ∨ (¬ FaceOk f ∧ e = .returned (.tuple #[encStr [], .bool false]))) := by
  have hst := set_text vf f w hf hl
  have HF : Hid (Ints w vf f) := hf
  clear hf
  go_enter Tryz.func46, Tryz.ntmps46
  go_wp2_with fail
  refine hst.mono ?_
  rintro e w2 ⟨hB, ⟨hok, t, ht, rfl⟩ | ⟨hno, rfl⟩⟩
  · have his := is_sorted vf f w2 (HF.out.below hB) (by omega)
    have HT : Hid (SetOk f ∧ TextOf f t) := ⟨hok, ht⟩
    clear hst hok ht
    go_wp2_with fail
    refine his.mono ?_
    rintro e w3 ⟨q, rfl, hq, n, rfl⟩
    have HB3 : Hid (Below w.heap.size w (w2.drewN n)) := hB.trans ⟨rfl, rfl, rfl, Nat.le_refl _, fun _ _ => rfl⟩
    cases q with
    | true =>
      have hr := steady_rising (hq.1 rfl) HT.out.1.2.1
      have HI : Hid (FaceOk f ∧ ints t = f) := ⟨⟨HT.out.1, hr⟩, text_sorted HT.out.2 hr (fun _ => Iff.rfl)⟩
      clear his hq hr
      go_wp2
      go_ret2
      exact ⟨HB3.out, .inl ⟨HI.out.1, t, HI.out.2, rfl⟩⟩
    | false =>
      have HN : Hid (¬ FaceOk f) := fun h => by have := hq.2 (rising_steady h.2); cases this
      clear his hq
      go_wp2
      go_ret2
      exact ⟨HB3.out, .inr ⟨HN.out, rfl⟩⟩
  · have HN : Hid (¬ FaceOk f) := fun h => hno h.1
    clear hst hno
    go_wp2
    go_ret2
    exact ⟨hB, .inr ⟨HN.out, rfl⟩⟩

theorem told_small_dim {F ss : List (List UInt8)} {all : List (List Int)} (h : Told F all) (h2 : ss.Nodup) {dim : Int} (h3 : ∀ x, x ∈ ss ↔ x ∈ F ∧ (x.length : Int) - 1 = dim) : (srtS ss).length ≤ 100000 ∧ ∀ t ∈ srtS ss, t.length ≤ 1000 := by
  have e1 : (srtS ss).length = ss.length := (List.mergeSort_perm ss _).length_eq
  have := nodup_le h2 (fun x hx => ((h3 x).1 hx).1)
  have hf := h.few
  refine ⟨by omega, fun t ht => ?_⟩
  have := h.short t ((h3 t).1 ((List.mergeSort_perm ss _).mem_iff.1 ht)).1
  omega

/-- What Faces answers. -/
def FacesG (a : Nat → Addr) (l : List (List Int)) (dim : Int) (w : World) (e : Ending) (w' : World) : Prop :=
  Below w.heap.size w w' ∧ ((∃ i, BadAt l i ∧ e = .returned (.tuple #[.slice none 0 0, .iface 168 (.pointer (some (a i)))])) ∨
    ∃ all v, Good l all ∧ e = .returned (.tuple #[v, .nilIface]) ∧ Rows w' v (ofDim all dim))

set_option maxRecDepth 100000 in
set_option maxHeartbeats 1000000 in
theorem faces_call {a : Nat → Addr} {s : Nat → ByteArray} (vl : Value) (l : List (List Int)) (dim : Int) (w : World) (hE : Errs a s w) (hl : Rows w vl l) (hll : l.length ≤ 100000) (hle : ∀ x ∈ l, x.length ≤ 1000) :
    Calls Tryz.prog 10 #[.agg #[vl], .int .i64 dim] w fun e w' => FacesG a l dim w e w' := by
  obtain ⟨al, cl, rfl, -, -⟩ := hl.open_
  have hBa : Below w.heap.size w (w.alloc (.cells #[.slice al l.length cl] 34)) := (Below.refl _ w).alloc (Nat.le_refl _) _
  have hop := open_g _ l (w.alloc (.cells #[.slice al l.length cl] 34)) (hE.below hBa) (hl.below hBa) hll hle
  have hbc := (box_new w (.slice al l.length cl) 34).1
  clear hl
  go_enter Tryz.func10, Tryz.ntmps10
  go_wp2_with fail
  refine hop.mono ?_
  clear hop
  rintro e w2 ⟨hB2, ⟨i, hbad, rfl⟩ | ⟨all, b, F, G, hg, ht, rfl, hP, -⟩⟩
  · have HBD : Hid (BadAt l i) := hbad
    clear hbad
    go_wp2
    go_ret2
    exact ⟨below_out (below_after hB2 (Below.refl _ w2)), .inl ⟨i, HBD.out, rfl⟩⟩
  · have hfa := faces_ b F G dim w2 hP (by have := ht.few; omega) (fun x hx => by have := ht.short x hx; omega)
    have HG : Hid (Good l all ∧ Told F all) := ⟨hg, ht⟩
    clear hg ht hP
    go_wp2_with fail
    refine hfa.mono ?_
    clear hfa
    rintro e w3 ⟨v3, ss, rfl, h1, h2, h3, h4⟩
    have hsm := told_small_dim HG.out.2 h2 h3
    have hli := lists_ v3 (srtS ss) w3 (SliceIn.mono h1 (fun _ _ _ => trivial)) hsm.1 hsm.2
    have HD : Hid ((srtS ss).map ints = ofDim all dim) := told_dim HG.out.2 h2 h3
    have HB3 : Hid (Below w.heap.size w w3) := below_out (below_after hB2 h4)
    clear h1 h2 h3 h4 hsm
    go_wp2_with fail
    refine hli.mono ?_
    clear hli
    rintro e w4 ⟨v4, rfl, h5, h6⟩
    have hr := h5.rows
    rw [HD.out] at hr
    have HR : Hid (Rows w4 v4 (ofDim all dim)) := hr
    clear hr h5
    go_wp2
    go_ret2
    exact ⟨HB3.out.trans (h6.mono HB3.out.size), .inr ⟨all, v4, HG.out.1, rfl, HR.out⟩⟩

/-- What Vector answers. -/
def VectorG (a : Nat → Addr) (l : List (List Int)) (w : World) (e : Ending) (w' : World) : Prop :=
  Below w.heap.size w w' ∧ ((∃ i, BadAt l i ∧ e = .returned (.tuple #[.slice none 0 0, .iface 168 (.pointer (some (a i)))])) ∨
    ∃ all v, Good l all ∧ e = .returned (.tuple #[v, .nilIface]) ∧ Ints w' v (vecOf all))

set_option maxRecDepth 100000 in
set_option maxHeartbeats 1000000 in
theorem vector_call {a : Nat → Addr} {s : Nat → ByteArray} (vl : Value) (l : List (List Int)) (w : World) (hE : Errs a s w) (hl : Rows w vl l) (hll : l.length ≤ 100000) (hle : ∀ x ∈ l, x.length ≤ 1000) :
    Calls Tryz.prog 15 #[.agg #[vl]] w fun e w' => VectorG a l w e w' := by
  obtain ⟨al, cl, rfl, -, -⟩ := hl.open_
  have hBa : Below w.heap.size w (w.alloc (.cells #[.slice al l.length cl] 34)) := (Below.refl _ w).alloc (Nat.le_refl _) _
  have hop := open_g _ l (w.alloc (.cells #[.slice al l.length cl] 34)) (hE.below hBa) (hl.below hBa) hll hle
  have hbc := (box_new w (.slice al l.length cl) 34).1
  clear hl
  go_enter Tryz.func15, Tryz.ntmps15
  go_wp2_with fail
  refine hop.mono ?_
  clear hop
  rintro e w2 ⟨hB2, ⟨i, hbad, rfl⟩ | ⟨all, b, F, G, hg, ht, rfl, hP, -⟩⟩
  · have HBD : Hid (BadAt l i) := hbad
    clear hbad
    go_wp2
    go_ret2
    exact ⟨below_out (below_after hB2 (Below.refl _ w2)), .inl ⟨i, HBD.out, rfl⟩⟩
  · have hve := vector_ b F G w2 hP (by have := ht.few; omega) ht.nodup (fun x hx => by have := ht.short x hx; omega) ht.some_
    have HG : Hid (Good l all ∧ Told F all) := ⟨hg, ht⟩
    clear hg ht hP
    go_wp2_with fail
    refine hve.mono ?_
    clear hve
    rintro e w3 ⟨v3, rfl, h1, h4⟩
    have hr := h1.any
    rw [HG.out.2.vec] at hr
    have HR : Hid (Ints w3 v3 (vecOf all)) := hr
    clear hr h1
    go_wp2
    go_ret2
    exact ⟨below_out (below_after hB2 h4), .inr ⟨all, v3, HG.out.1, rfl, HR.out⟩⟩

theorem sign_ (d : Nat) (w : World) (hd : d ≤ 1000) : Calls Tryz.prog 45 #[.int .i64 d] w fun e w' => e = .returned (.int .i64 (sg d)) ∧ w' = w := by
  have hs : sg d = 1 - 2 * ((d : Int) % 2) := by unfold sg; omega
  rw [hs]
  go_enter Tryz.func45, Tryz.ntmps45
  go_wp2
  go_ret
  exact ⟨by rfl, by rfl⟩

/-- What Euler answers. -/
def EulerG (a : Nat → Addr) (l : List (List Int)) (w : World) (e : Ending) (w' : World) : Prop :=
  Below w.heap.size w w' ∧ ((∃ i, BadAt l i ∧ e = .returned (.tuple #[.int .i64 0, .iface 168 (.pointer (some (a i)))])) ∨
    ∃ all, Good l all ∧ e = .returned (.tuple #[.int .i64 (eulerOf all), .nilIface]))

theorem vec_entry {α : Type} (l : List (List α)) : ∀ x ∈ vecOf l, 0 ≤ x ∧ x ≤ l.length := fun x hx => by
  unfold vecOf at hx
  obtain ⟨d, _, rfl⟩ := List.mem_map.1 hx
  have := cnt_le l d
  omega

set_option maxRecDepth 100000 in
set_option maxHeartbeats 1000000 in
theorem euler_call {a : Nat → Addr} {s : Nat → ByteArray} (vl : Value) (l : List (List Int)) (w : World) (hE : Errs a s w) (hl : Rows w vl l) (hll : l.length ≤ 100000) (hle : ∀ x ∈ l, x.length ≤ 1000) :
    Calls Tryz.prog 17 #[.agg #[vl]] w fun e w' => EulerG a l w e w' := by
  obtain ⟨al, cl, rfl, -, -⟩ := hl.open_
  have hBa : Below w.heap.size w (w.alloc (.cells #[.slice al l.length cl] 34)) := (Below.refl _ w).alloc (Nat.le_refl _) _
  have hop := open_g _ l (w.alloc (.cells #[.slice al l.length cl] 34)) (hE.below hBa) (hl.below hBa) hll hle
  have hbc := (box_new w (.slice al l.length cl) 34).1
  clear hl
  go_enter Tryz.func17, Tryz.ntmps17
  go_wp2_with fail
  refine hop.mono ?_
  clear hop
  rintro e w2 ⟨hB2, ⟨i, hbad, rfl⟩ | ⟨all, b, F, G, hg, ht, rfl, hP, -⟩⟩
  · have HBD : Hid (BadAt l i) := hbad
    clear hbad
    go_wp2
    go_ret2
    exact ⟨below_out (below_after hB2 (Below.refl _ w2)), .inl ⟨i, HBD.out, rfl⟩⟩
  · have hve := vector_ b F G w2 hP (by have := ht.few; omega) ht.nodup (fun x hx => by have := ht.short x hx; omega) ht.some_
    have HG : Hid (Good l all ∧ Told F all) := ⟨hg, ht⟩
    have htop : topN F ≤ 7 := topN_upto ht.short
    have hfew := ht.few
    clear hg ht hP
    go_wp2_with fail
    refine hve.mono ?_
    clear hve
    rintro e w3 ⟨v3, rfl, h1, h4⟩
    obtain ⟨av, cv, rfl, -, hcv⟩ := h1.open_
    obtain ⟨V, hV⟩ : ∃ V, vecOf F = V := ⟨_, rfl⟩
    have hVl : V.length ≤ 7 := by rw [← hV, vecOf_length]; exact htop
    have HVE : Hid (∀ x ∈ V, 0 ≤ x ∧ x ≤ 600) := fun x hx => by rw [← hV] at hx; have := vec_entry F x hx; omega
    have HVA : Hid (altTo V V.length = eulerOf all) := by
      show altTo V V.length = eulerOf all
      rw [← hV]; exact HG.out.2.euler
    rw [hV] at hcv
    rw [hV]
    have HB3 : Hid (Below w.heap.size w w3) := below_out (below_after hB2 h4)
    clear h1 h4 htop hV
    go_wp2
    go_loopw [6, 20] (fun v p W => ∃ (k : Nat) (t : Int), k ≤ V.length ∧ p = .int .i64 k ∧ v = .int .i64 t ∧ t = altTo V k ∧ W = w3) (fun _ p _ => V.length - (intOf p).toNat)
    case atStart => exact ⟨0, 0, by omega, rfl, rfl, rfl, rfl⟩
    case round =>
      obtain ⟨k, t, hk, rfl, rfl, ht, rfl⟩ := hrel
      have hts : -4200 ≤ t ∧ t ≤ 4200 := by
        have := alt_small V 600 HVE.out k hk
        rw [← ht] at this
        have hk7 : k * 600 ≤ 4200 := by omega
        omega
      obtain ⟨ht1, ht2⟩ := hts
      have HTK : Hid (t = altTo V k) := ht
      clear ht
      by_cases hlt : k < V.length
      · obtain ⟨b2, o2, rfl, -, -, c⟩ := hcv (by omega)
        have g := c k hlt
        have hxb := HVE.out (V[k]?.getD 0) (by rw [List.getElem?_eq_getElem hlt]; simp)
        obtain ⟨x, hxe⟩ : ∃ x, V[k]?.getD 0 = x := ⟨_, rfl⟩
        rw [hxe] at g hxb
        obtain ⟨hx0, hx1⟩ := hxb
        have HS : Hid (altTo V (k + 1) = t + sg k * x) := by
          show altTo V k + sg k * (V[k]?.getD 0) = t + sg k * x
          rw [hxe, HTK.out]
        have hsg := sign_ k wr (by omega)
        have hs : sg k = 1 ∨ sg k = -1 := by unfold sg; omega
        obtain ⟨z, hz⟩ : ∃ z, sg k = z := ⟨_, rfl⟩
        rw [hz] at hsg hs
        have HZ : Hid (sg k = z) := hz
        clear c hcv hxe hz
        rcases hs with rfl | rfl
        · go_wp2_with (go_at_call 45; refine hsg.mono ?_; rintro e w5 ⟨rfl, rfl⟩)
          go_roundw
          case rel => exact ⟨k + 1, t + x, by omega, by go_num, by go_num, by rw [HS.out, HZ.out]; omega, (by first | trivial | rfl)⟩
          case measure => simp [intOf]; omega
        · go_wp2_with (go_at_call 45; refine hsg.mono ?_; rintro e w5 ⟨rfl, rfl⟩)
          go_roundw
          case rel => exact ⟨k + 1, t + -1 * x, by omega, by go_num, by go_num, by rw [HS.out, HZ.out], (by first | trivial | rfl)⟩
          case measure => simp [intOf]; omega
      · obtain rfl : k = V.length := by omega
        clear hcv
        go_wp2
        go_ret2
        have e := HTK.out.trans HVA.out
        exact ⟨HB3.out, .inr ⟨all, HG.out.1, by rw [← e]; rfl⟩⟩

end Go.Proofs.YtmbolgalgidleaaGreatDoor
