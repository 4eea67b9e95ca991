/- What greatest answers: the greatest vertex of all faces. What Union and Join answer. -/
import Derived.Test.YtkmecdgnoemimaaDoorKept
import Derived.Test.YtkmecdgnoemimaaDoorJoinMath
import Derived.Deep.AppendLies
import Derived.Test.YtkmecdgnoemimaaDoorProductGood
import Derived.Test.YtkmecdgnoemimaaDoorUnions
import Derived.Test.YtkmecdgnoemimaaDoorRaised
namespace Go.Proofs.YtkmecdgnoemimaaDoor
open Go.RowKit Go.Sort Go.Maps

theorem kept_all {F ss : List (List UInt8)} {left : Lit → Bool} (hF : F.Nodup) (h : KeptSo F (fun _ => true) left ss) (hl : ∀ z, left z = false) : ss.Perm F :=
  (List.perm_ext_iff_of_nodup h.1 hF).2 (fun x => by rw [h.2 x, hl]; simp)
theorem text_string (x : List UInt8) : encStr x = .string ⟨x.toArray⟩ := rfl
theorem last_ints {x : List UInt8} {L : Nat} (hL : x.length = L + 1) {c : UInt8} (hc : x[L]? = some c) : (ints x).getLast?.getD (-1) = (c.toNat : Int) := by
  rw [List.getLast?_eq_getElem?, ints_length, hL, Nat.add_sub_cancel]
  unfold ints
  rw [List.getElem?_map, hc]; rfl

set_option maxRecDepth 100000 in
set_option maxHeartbeats 2000000 in
theorem greatest_ (b : Nat) (F : List (List UInt8)) (G : List UInt8 → Prop) (w : World) (hP : PileAt w b F G) (_hF : F.length ≤ 100000) (hn : F.Nodup) (hx : ∀ x ∈ F, x.length ≤ 1000) (hne : ∀ x ∈ F, x ≠ []) :
    Calls Tryd.prog 38 #[.map (some b)] w fun e w' => e = .returned (.int .i64 (topV (F.map ints))) ∧ Below w.heap.size w w' := by
  obtain ⟨D, d1, d2, d3, -⟩ := hP
  have hbl := d1.lt
  have HD2 : Hid (∀ x : List UInt8, Maps.has D (.string x) = true ↔ x ∈ F) := d2
  have HFX : Hid (F.Nodup ∧ (∀ x ∈ F, x.length ≤ 1000) ∧ ∀ x ∈ F, x ≠ []) := ⟨hn, hx, hne⟩
  clear d2 hn hx hne
  go_enter Tryd.func38, Tryd.ntmps38
  go_wp2_with (first
    | (at_range; refine wpList_range_own _ rfl _ 49 rfl 9 3 law_string Tryd.underlying49 _ b _ _ rfl d1 ?_; intro w0 hrg0 hg0 hs0)
    | go_in)
  (try go_frame)
  go_loopw [3] (fun v wr => ∃ (left : Lit → Bool) (cnt : Nat) (ss : List (List UInt8)), wr.ranges Tryd.prog 9 (plainElem Tryd.prog 3) b w.heap.size F.length D left cnt ∧ ss.length + cnt ≤ F.length ∧
      v = .int .i64 (topV (ss.map ints)) ∧ KeptSo F (fun _ => true) left ss ∧ Below w.heap.size w wr)
    (fun _ wr => wr.rangeLeft b w.heap.size)
  case atStart =>
    refine ⟨_, _, [], hrg0, by rw [← d3]; simp, rfl, ⟨List.nodup_nil, fun x => ⟨fun h => (by cases h), fun ⟨⟨h1, _⟩, h2⟩ => ?_⟩⟩, (Below.refl _ _).grown hg0 (Nat.le_refl _) (fun j hj => by cases hj)⟩
    rw [(HD2.out x).2 h1] at h2; cases h2
  case round =>
    obtain ⟨left, cnt, ss, hrg, hcs, rfl, hso, hnx⟩ := hrel
    go_wp2_with (first
      | (at_next; refine wpList_next_ranges _ rfl _ rfl 9 law_string (plainElem Tryd.prog 3) encStr (Value.int .i64) (fun key kl hk => by obtain ⟨x, hx, _⟩ := Maps.keyOf_str Tryd.underlying9 hk; exact ⟨x, hx⟩) (fun v y hv => by obtain ⟨c, rfl, _⟩ := plainElem_int_inv Tryd.underlying3 hv; exact ⟨c, rfl⟩) b w.heap.size F.length _ _ _ rfl hrg ?_ ?_)
      | go_in)
    · intro hc0 hl0
      have HE : Hid (topV (ss.map ints) = topV (F.map ints)) := topV_perm ((kept_all HFX.out.1 hso hl0).map ints)
      clear hso hl0 hrg
      go_wp2
      go_ret
      exact ⟨by rw [HE.out]; rfl, hnx⟩
    · intro x c kl yd yp w2 cnt2 hkey hlk hv hat hrg2 hlt hg2 hs2 hen
      obtain ⟨x', ex, rfl, _⟩ := Maps.keyOf_str Tryd.underlying9 hkey
      obtain rfl : x = x' := encStr_inj ex
      have hxF : x ∈ F := (HD2.out x).1 (has_true_of_atKey hat)
      have hB2 : Below w.heap.size w w2 := hnx.grown hg2 hnx.size (fun j hj => by cases hj; exact Nat.le_refl _)
      have hst := kept_step hso hlk hxF
      rw [if_pos rfl] at hst
      have HST : Hid (KeptSo F (fun _ => true) (fun z => left z && !z.sameKey (.string x)) (ss ++ [x])) := hst
      have hxl : x.length ≤ 1000 := HFX.out.2.1 x hxF
      have hxp : 0 < x.length := List.length_pos_iff.2 (HFX.out.2.2 x hxF)
      have HLT : Hid (wr.rangeLeft b w.heap.size = cnt) := hrg.left_eq
      obtain ⟨L, hL⟩ : ∃ L, x.length = L + 1 := ⟨x.length - 1, by omega⟩
      obtain ⟨s, hs⟩ : ∃ s : ByteArray, (⟨x.toArray⟩ : ByteArray) = s := ⟨_, rfl⟩
      have hsz : s.size = L + 1 := by rw [← hs, ← hL]; rfl
      have hks : L < s.size := by omega
      obtain ⟨z, hz⟩ : ∃ z, s[L]'hks = z := ⟨_, rfl⟩
      have hxz : x[L]? = some z := by
        rw [List.getElem?_eq_getElem (by omega), ← hz]
        subst hs
        rfl
      have HZX : Hid (∀ h : x.length - 1 < (⟨x.toArray⟩ : ByteArray).size, ((⟨x.toArray⟩ : ByteArray)[x.length - 1]'h) = z) := fun h => by
        have e : x.length - 1 = L := by omega
        have h2 : x[x.length - 1]? = some z := by rw [e]; exact hxz
        rw [List.getElem?_eq_getElem (by omega)] at h2
        exact Option.some.inj h2
      have HTP : Hid (topV ((ss ++ [x]).map ints) = max (topV (ss.map ints)) (z.toNat : Int)) := by
        show topV ((ss ++ [x]).map ints) = _
        rw [List.map_append, List.map_cons, List.map_nil, topV_snoc, last_ints hL hxz]
      obtain ⟨T, hT⟩ : ∃ T, topV (ss.map ints) = T := ⟨_, rfl⟩
      rw [hT] at HTP ⊢
      have hx1 : (1 : Int) ≤ (x.length : Int) := by omega
      have hx2 : (x.length : Int) - 1 < (x.length : Int) := by omega
      have hn0 : (0 : Int) ≤ (L : Int) := by omega
      have hz8 : z.toNat < 256 := z.toNat_lt
      rw [text_string, hs]
      clear hs2 hst hso hkey hv hat ex hrg hnx hg2 hT hxz hs hL hxp
      go_wp2
      go_roundw
      case rel => exact ⟨_, cnt2, ss ++ [x], hrg2, by simp; omega, by rw [HTP.out, HZX.out, show wrap64 (z.toNat : Int) = (z.toNat : Int) by unfold wrap64; omega], HST.out, hB2⟩
      case measure => rw [hrg2.left_eq, HLT.out]; exact hlt

end Go.Proofs.YtkmecdgnoemimaaDoor

namespace Go.Proofs.YtkmecdgnoemimaaDoor
open Go.RowKit Go.Shelf Go.Sort Go.Maps Go.Deep

/-- The facets of a pile, as texts. -/
theorem facets_g {p : List (List Int)} (b : Nat) (F : List (List UInt8)) (G : List UInt8 → Prop) (w : World) (hP : PileAt w b F G) (ht : Told F p) (hG : ∀ x ∈ F, G x ↔ innerB p (ints x) = true) :
    Calls Tryd.prog 40 #[.map (some b)] w fun e w' => ∃ v fs, e = .returned v ∧ StrsIn (fun b => w.heap.size ≤ b) w' v fs ∧ (∀ t, t ∈ fs.map ints ↔ t ∈ facetsI p) ∧ fs.length ≤ 600 ∧ (∀ x ∈ fs, x ≠ [] ∧ x.length ≤ 7) ∧ Below w.heap.size w w' := by
  refine (facets_ b F G w hP (by have := ht.few; omega) (fun x hx => by have := ht.short x hx; omega)).mono ?_
  rintro e w' ⟨v, ss, rfl, h1, h2, h3, h4⟩
  have hm : ∀ x, x ∈ srtS ss ↔ x ∈ ss := fun x => (List.mergeSort_perm ss _).mem_iff
  have hF : ∀ x ∈ srtS ss, x ∈ F := fun x hx => ((h3 x).1 ((hm x).1 hx)).1
  refine ⟨v, srtS ss, rfl, h1, fun t => ?_, ?_, fun x hx => ⟨ht.some_ x (hF x hx), ht.short x (hF x hx)⟩, h4⟩
  · unfold facetsI
    rw [List.mem_filter, List.mem_map]
    constructor
    · rintro ⟨x, hx, rfl⟩
      have h5 := (h3 x).1 ((hm x).1 hx)
      refine ⟨(mem_told ht x).1 h5.1, ?_⟩
      cases h6 : innerB p (ints x)
      · rfl
      · exact absurd ((hG x h5.1).2 h6) h5.2
    · rintro ⟨h5, h6⟩
      obtain ⟨x, hx, rfl⟩ := List.mem_map.1 (ht.perm.mem_iff.2 h5)
      refine ⟨x, (hm x).2 ((h3 x).2 ⟨hx, fun hg => ?_⟩), rfl⟩
      rw [(hG x hx).1 hg] at h6; cases h6
  · have e1 : (srtS ss).length = ss.length := (List.mergeSort_perm ss _).length_eq
    have := nodup_le h2 (fun x hx => ((h3 x).1 hx).1)
    have := ht.few
    omega

/-- The error or the facets of what is made of two complexes. -/
def TwoG (a : Nat → Addr) (l m : List (List Int)) (sets : List (List Int) → List (List Int) → List (List Int)) (w : World) (e : Ending) (w' : World) : Prop :=
  Below w.heap.size w w' ∧ ((∃ i, JErr l m i ∧ e = .returned (.tuple #[.agg #[.slice none 0 0], .iface 165 (.pointer (some (a i)))])) ∨
    ∃ p q, (Good l p ∧ Good m q) ∧ ((¬ (∀ x ∈ sets p q, SetOk x) ∧ e = .returned (.tuple #[.agg #[.slice none 0 0], .iface 165 (.pointer (some (a 3)))])) ∨
      ((∀ x ∈ sets p q, SetOk x) ∧ Over (sets p q) ∧ e = .returned (.tuple #[.agg #[.slice none 0 0], .iface 165 (.pointer (some (a 1)))])) ∨
      ((∀ x ∈ sets p q, SetOk x) ∧ ¬ Over (sets p q) ∧ ∃ v L, IsFacets (sets p q) L ∧ e = .returned (.tuple #[.agg #[v], .nilIface]) ∧ OwnRows w.heap.size w' v L)))

theorem union_ok {a b p q : List (List Int)} (ga : Good a p) (gb : Good b q) : ∀ x ∈ p ++ q, SetOk x := fun x hx => by
  rcases List.mem_append.1 hx with h | h
  · exact (face_ok_of ga h).1
  · exact (face_ok_of gb h).1

theorem mem_cat {f1 f2 : List (List UInt8)} {p q : List (List Int)} (h1 : ∀ t, t ∈ f1.map ints ↔ t ∈ facetsI p) (h2 : ∀ t, t ∈ f2.map ints ↔ t ∈ facetsI q) (t : List Int) : t ∈ (f1 ++ f2).map ints ↔ t ∈ facetsI p ++ facetsI q := by
  rw [List.map_append, List.mem_append, List.mem_append, h1, h2]

set_option maxRecDepth 100000 in
set_option maxHeartbeats 2000000 in
theorem union_call {a : Nat → Addr} {s : Nat → ByteArray} (vl vm : Value) (l m : List (List Int)) (w : World) (hE : Errs a s w) (hl : Rows w vl l) (hm : Rows w vm m) (hll : l.length ≤ 100000) (hle : ∀ x ∈ l, x.length ≤ 1000) (hml : m.length ≤ 100000) (hme : ∀ x ∈ m, x.length ≤ 1000) :
    Calls Tryd.prog 17 #[.agg #[vl], .agg #[vm]] w fun e w' => TwoG a l m (fun p q => p ++ q) w e w' := by
  obtain ⟨al, cl, rfl, -, -⟩ := hl.open_
  obtain ⟨am, cm, rfl, -, -⟩ := hm.open_
  have hBa := three_below w (.slice al l.length cl) (.slice am m.length cm) (.slice none 0 0) 27 27 27
  have hbx := three_boxes w (.slice al l.length cl) (.slice am m.length cm) (.slice none 0 0) 27 27 27
  have hop := both_g _ _ l m _ (hE.below hBa) (hl.below hBa) (hm.below hBa) hll hle hml hme
  have hbc := hbx.1
  have hbd := hbx.2.1
  clear hl hm
  go_enter Tryd.func17, Tryd.ntmps17
  go_wp2_with fail
  refine hop.mono ?_
  clear hop
  rintro e w2 ⟨hB2, ⟨i, v1, v2, hbad, rfl⟩ | ⟨p, q, b1, b2, F1, G1, F2, G2, hg, ht, rfl, hP, hG1, hG2⟩⟩
  · rw [three_size] at hB2
    have c1 : w2.cell? ⟨w.heap.size + 1 + 1, 0, none⟩ = some (.slice none 0 0) := (hB2.cell (p := ⟨w.heap.size + 1 + 1, 0, none⟩) (by show w.heap.size + 1 + 1 < w.heap.size + 3; omega)).trans hbx.2.2.1
    have z1 : w2.frozen? ⟨w.heap.size + 1 + 1, 0, none⟩ = false := (hB2.frozen (p := ⟨w.heap.size + 1 + 1, 0, none⟩) (by show w.heap.size + 1 + 1 < w.heap.size + 3; omega)).trans hbx.2.2.2
    have c2 := World.cell?_setCell_same' w2 ⟨w.heap.size + 1 + 1, 0, none⟩ (.slice none 0 0) (by rw [c1]; rfl)
    have HBD : Hid (JErr l m i) := hbad
    clear hbad
    go_wp2
    refine bodyPost_ret (v := .tuple #[.agg #[.slice none 0 0], .iface 165 (.pointer (some (a i)))]) ?_ rfl ?_
    · simp [results, Tryd.f17, go_sem, c2]
    · exact ⟨(hBa.trans (hB2.mono (by omega))).setCell (p := ⟨w.heap.size + 1 + 1, 0, none⟩) (by show w.heap.size ≤ w.heap.size + 1 + 1; omega) _, .inl ⟨i, HBD.out, rfl⟩⟩
  · have HBw2 : Hid (Below w.heap.size w w2) := hBa.trans (hB2.mono (by rw [three_size]; omega))
    have hf1 := facets_g b1 F1 G1 w2 hP.1 ht.1 hG1
    have HG : Hid ((Good l p ∧ Good m q) ∧ Told F2 q ∧ (∀ x ∈ F2, G2 x ↔ innerB q (ints x) = true) ∧ PileAt w2 b2 F2 G2) := ⟨hg, ht.2, hG2, hP.2⟩
    clear hg ht hP hG1 hG2
    go_wp2_with fail
    refine hf1.mono ?_
    clear hf1
    rintro e w3 ⟨v3, f1, rfl, hs1, hm1, hl1, hx1, hB3⟩
    have hf2 := facets_g b2 F2 G2 w3 (HG.out.2.2.2.below hB3) HG.out.2.1 HG.out.2.2.1
    have HS1 : Hid (StrsIn (fun b => w2.heap.size ≤ b) w3 v3 f1) := hs1
    have HM1 : Hid ((∀ t, t ∈ f1.map ints ↔ t ∈ facetsI p) ∧ ∀ x ∈ f1, x ≠ [] ∧ x.length ≤ 7) := ⟨hm1, hx1⟩
    obtain ⟨a3, c3, rfl, -, -⟩ := hs1.open_
    clear hs1 hm1 hx1
    go_wp2_with fail
    refine hf2.mono ?_
    clear hf2
    rintro e w4 ⟨v4, f2, rfl, hs2, hm2, hl2, hx2, hB4⟩
    have HM2 : Hid ((∀ t, t ∈ f2.map ints ↔ t ∈ facetsI q) ∧ ∀ x ∈ f2, x ≠ [] ∧ x.length ≤ 7) := ⟨hm2, hx2⟩
    obtain ⟨a4, c4, rfl, -, -⟩ := hs2.open_
    have hBr : Below w4.heap.size w4 (w4.alloc (.cells #[.slice a3 f1.length c3, .slice a4 f2.length c4] 52)) := (Below.refl _ w4).alloc (Nat.le_refl _) _
    have hrw := two_row w4 (.slice a3 f1.length c3) (.slice a4 f2.length c4) 52
    have hcc := concat_two w4.heap.size 0 2 a3 a4 c3 c4 f1 f2 (w4.alloc (.cells #[.slice a3 f1.length c3, .slice a4 f2.length c4] 52)) (SliceIn.mono ((HS1.out.below hB4).below hBr) (fun _ _ _ => trivial)) (SliceIn.mono (hs2.below hBr) (fun _ _ _ => trivial)) (by omega) (by omega) hrw.1 hrw.2
    have HB4 : Hid (Below w.heap.size w (w4.alloc (.cells #[.slice a3 f1.length c3, .slice a4 f2.length c4] 52))) := HBw2.out.trans (((hB3.trans (hB4.mono hB3.size)).trans (hBr.mono (Nat.le_trans hB3.size hB4.size))).mono HBw2.out.size)
    have HB24 : Hid (Below w2.heap.size w2 (w4.alloc (.cells #[.slice a3 f1.length c3, .slice a4 f2.length c4] 52))) := (hB3.trans (hB4.mono hB3.size)).trans (hBr.mono (Nat.le_trans hB3.size hB4.size))
    clear hs2 hm2 hx2 hrw hBr hB4 hB3
    go_wp2_with fail
    refine hcc.mono ?_
    clear hcc
    rintro e w5 ⟨v5, rfl, hs5, hB5⟩
    have HFL : Hid ((f1 ++ f2).length ≤ 1200 ∧ ∀ x ∈ f1 ++ f2, x ≠ [] ∧ x.length ≤ 7) := ⟨by simp; omega, fun x hx => (List.mem_append.1 hx).elim (HM1.out.2 x) (HM2.out.2 x)⟩
    have HSA : Hid (∀ y, FaceOf ((f1 ++ f2).map ints) y ↔ FaceOf (p ++ q) y) := fun y => by
      rw [face_members (mem_cat HM1.out.1 HM2.out.1) y]; exact union_same HG.out.1.1 HG.out.1.2 y
    obtain ⟨fs, hfs⟩ : ∃ fs, f1 ++ f2 = fs := ⟨_, rfl⟩
    rw [hfs] at hs5 HFL HSA
    have HB25 : Hid (Below w2.heap.size w2 w5) := HB24.out.trans (hB5.mono HB24.out.size)
    have hBw5 : Below w.heap.size w w5 := HB4.out.trans (hB5.mono HB4.out.size)
    obtain ⟨av, cv, rfl, -, -⟩ := hs5.open_
    have hval := (callsIn_wide (n := 10)).1 (values_made Fence.wide 10 trivial rfl av fs.length cv w5)
    have hbu := built_values w5 av fs.length cv fs rfl (by have := HFL.out.1; omega) (fun x hx => ⟨List.length_pos_iff.2 (HFL.out.2 x hx).1, by have := (HFL.out.2 x hx).2; omega⟩) (SliceIn.mono hs5 (fun _ _ _ => trivial)) (hE.below hBw5)
    clear hs5 hfs hB5
    go_wp2_with (go_at_call 42; refine hval.mono ?_; rintro e w6 ⟨rfl, rfl⟩)
    refine hbu.mono ?_
    clear hbu hval
    rintro e w7 ⟨hB7, hcase⟩
    have hB27 : Below w2.heap.size w2 w7 := HB25.out.trans ((((Below.refl _ w5).alloc (Nat.le_refl _) _).trans (hB7.mono (by simp))).mono HB25.out.size)
    have hB07 := hB2.trans (hB27.mono hB2.size)
    rw [three_size] at hB07
    have c1 : w7.cell? ⟨w.heap.size + 1 + 1, 0, none⟩ = some (.slice none 0 0) := (hB07.cell (p := ⟨w.heap.size + 1 + 1, 0, none⟩) (by show w.heap.size + 1 + 1 < w.heap.size + 3; omega)).trans hbx.2.2.1
    have z1 : w7.frozen? ⟨w.heap.size + 1 + 1, 0, none⟩ = false := (hB07.frozen (p := ⟨w.heap.size + 1 + 1, 0, none⟩) (by show w.heap.size + 1 + 1 < w.heap.size + 3; omega)).trans hbx.2.2.2
    rcases hcase with ⟨hov, rfl⟩ | ⟨hno, v8, ss, rfl, hown, hnd, hmm⟩
    · have c2 := World.cell?_setCell_same' w7 ⟨w.heap.size + 1 + 1, 0, none⟩ (.slice none 0 0) (by rw [c1]; rfl)
      have HOV : Hid (Over (p ++ q)) := (over_same HSA.out).1 (over_ints.2 hov)
      clear hov
      go_wp2
      refine bodyPost_ret (v := .tuple #[.agg #[.slice none 0 0], .iface 165 (.pointer (some (a 1)))]) ?_ rfl ?_
      · simp [results, Tryd.f17, go_sem, c2]
      · exact ⟨(hBa.trans (hB07.mono (by omega))).setCell (p := ⟨w.heap.size + 1 + 1, 0, none⟩) (by show w.heap.size ≤ w.heap.size + 1 + 1; omega) _, .inr ⟨p, q, HG.out.1, .inr (.inl ⟨union_ok HG.out.1.1 HG.out.1.2, HOV.out, rfl⟩)⟩⟩
    · have HL : Hid (IsFacets (p ++ q) ((srtS ss).map ints)) := isFacets_of HSA.out (facets_built hnd hmm)
      have HNO : Hid (¬ Over (p ++ q)) := fun ho => hno (over_ints.1 ((over_same HSA.out).2 ho))
      have hs2 : w.heap.size + 3 ≤ w5.heap.size := by have h1 := hB2.size; have h2 := HB25.out.size; rw [three_size] at h1; omega
      have H1 : Hid (OwnRows (w5.alloc (.cells #[.slice av fs.length cv] 52)).heap.size w7 v8 ((srtS ss).map ints)) := hown
      obtain ⟨a8, c8, rfl, -, -⟩ := hown.rows.open_
      have c2 := World.cell?_setCell_same' w7 ⟨w.heap.size + 1 + 1, 0, none⟩ (.slice a8 ((srtS ss).map ints).length c8) (by rw [c1]; rfl)
      rw [List.length_map] at c2
      clear hown hnd hmm hB7 hB27 hno
      go_wp2
      refine bodyPost_ret (v := .tuple #[.agg #[.slice a8 (srtS ss).length c8], .nilIface]) ?_ rfl ?_
      · simp [results, Tryd.f17, go_sem, c2]
      · have h1 := H1.out
        rw [List.length_map, World.size_alloc] at h1
        refine ⟨(hBa.trans (hB07.mono (by omega))).setCell (p := ⟨w.heap.size + 1 + 1, 0, none⟩) (by show w.heap.size ≤ w.heap.size + 1 + 1; omega) _, .inr ⟨p, q, HG.out.1, .inr (.inr ⟨union_ok HG.out.1.1 HG.out.1.2, HNO.out, _, _, HL.out, rfl, ?_⟩)⟩⟩
        exact (h1.setCell (p := ⟨w.heap.size + 1 + 1, 0, none⟩) (by show w.heap.size + 1 + 1 < w5.heap.size + 1; omega) _).lower (by omega)

end Go.Proofs.YtkmecdgnoemimaaDoor
