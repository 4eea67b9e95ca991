/- What Star, Link and Skeleton answer. What Link and Skeleton answer. -/
import Derived.Test.YtmbolgalgidleaaGreatDoorAround
namespace Go.Proofs.YtmbolgalgidleaaGreatDoor
open Go.RowKit Go.Shelf Go.Sort Go.Maps Go.Deep

theorem isFacets_of {g g' L : List (List Int)} (h : ∀ x, FaceOf g x ↔ FaceOf g' x) (hL : IsFacets g L) : IsFacets g' L where
  order := hL.order
  mem := fun x => by
    rw [hL.mem, inner_face, inner_face, h]
    simp only [h]

/-- What a call answers that makes a complex: an error, or the facets of one. -/
def PartG (a : Nat → Addr) (bad : Nat → Prop) (good : List (List Int) → Prop) (w : World) (e : Ending) (w' : World) : Prop :=
  Below w.heap.size w w' ∧ ((∃ i, bad i ∧ e = .returned (.tuple #[.agg #[.slice none 0 0], .iface 168 (.pointer (some (a i)))])) ∨
    ∃ v L, good L ∧ e = .returned (.tuple #[.agg #[v], .nilIface]) ∧ OwnRows w.heap.size w' v L)

/-- Two variables, laid one behind the other. -/
theorem two_boxes (w : World) (v u : Value) (t t' : TypeId) : (((w.alloc (.cells #[v] t)).alloc (.cells #[u] t')).cell? ⟨w.heap.size, 0, none⟩ = some v ∧ ((w.alloc (.cells #[v] t)).alloc (.cells #[u] t')).frozen? ⟨w.heap.size, 0, none⟩ = false) ∧
    (((w.alloc (.cells #[v] t)).alloc (.cells #[u] t')).cell? ⟨w.heap.size + 1, 0, none⟩ = some u ∧ ((w.alloc (.cells #[v] t)).alloc (.cells #[u] t')).frozen? ⟨w.heap.size + 1, 0, none⟩ = false) := by
  refine ⟨box_alloc _ (box_new w v t), ?_⟩
  have := box_new (w.alloc (.cells #[v] t)) u t'
  rwa [World.size_alloc] at this
theorem two_below (w : World) (v u : Value) (t t' : TypeId) : Below w.heap.size w ((w.alloc (.cells #[v] t)).alloc (.cells #[u] t')) := ((Below.refl _ w).alloc (Nat.le_refl _) _).alloc (by simp) _
theorem two_size (w : World) (o o' : Obj) : ((w.alloc o).alloc o').heap.size = w.heap.size + 2 := by simp

/-- Texts that lie somewhere are built. -/
theorem built_values {a : Nat → Addr} {s : Nat → ByteArray} (W : World) (av : Option Addr) (n cv : Nat) (fs : List (List UInt8)) (hn : fs.length = n) (h6 : fs.length ≤ 100000) (hf : ∀ x ∈ fs, 0 < x.length ∧ x.length ≤ 1000) (hs : Strs W (.slice av n cv) fs) (hE : Errs a s W) :
    Calls Tryz.prog 49 #[.func (.func 75) #[] #[.pointer (some ⟨W.heap.size, 0, none⟩)]] (W.alloc (.cells #[.slice av n cv] 66)) fun e w' => BuiltSays a fs (W.alloc (.cells #[.slice av n cv] 66)) e w' := by
  obtain ⟨xs, hxs⟩ := faces_of fs hf
  have hxl : xs.length = fs.length := by rw [← hxs]; simp
  have hb := built_ 75 _ xs _ (hE.below ((Below.refl _ W).alloc (Nat.le_refl _) (.cells #[.slice av n cv] 66))) (enters_of Tryz.func75 (by kernel_rfl) rfl) (values_any W av n cv xs (by omega) (by omega) (by rw [hxs]; exact hs))
  rw [hxs] at hb
  exact hb

theorem sub_over {l all : List (List Int)} {fs : List (List UInt8)} (g : Good l all) (h : ∀ t ∈ fs.map ints, t ∈ all) : ¬ Over fs := fun ho => g.notOver h (over_ints.2 ho)

set_option maxRecDepth 100000 in
set_option maxHeartbeats 1000000 in
theorem star_call {a : Nat → Addr} {s : Nat → ByteArray} (vl vf : Value) (c : List (List Int)) (f : List Int) (w : World) (hE : Errs a s w) (hl : Rows w vl c) (hll : c.length ≤ 100000) (hle : ∀ x ∈ c, x.length ≤ 1000) (hf : Ints w vf f) (hfl : f.length ≤ 1000) :
    Calls Tryz.prog 21 #[.agg #[vl], vf] w fun e w' => PartG a (PErr c f) (fun L => ∃ all, Good c all ∧ f ∈ all ∧ IsFacets (starI all f) L) w e w' := by
  obtain ⟨al, cl, rfl, -, -⟩ := hl.open_
  have hBa := two_below w (.slice al c.length cl) (.slice none 0 0) 34 34
  have hbx := two_boxes w (.slice al c.length cl) (.slice none 0 0) 34 34
  have har := around_ _ vf c f _ (hE.below hBa) (hl.below hBa) hll hle (hf.below hBa) hfl
  have hbc := hbx.1.1
  clear hl hf
  go_enter Tryz.func21, Tryz.ntmps21
  go_wp2_with fail
  refine har.mono ?_
  clear har
  rintro e w2 ⟨hB2, ⟨i, hbad, rfl⟩ | ⟨all, v, fs, tf, hg, hm, rfl, hs, -, har, h6, h7⟩⟩
  · rw [two_size] at hB2
    have c1 : w2.cell? ⟨w.heap.size + 1, 0, none⟩ = some (.slice none 0 0) := (hB2.cell (p := ⟨w.heap.size + 1, 0, none⟩) (by show w.heap.size + 1 < w.heap.size + 2; omega)).trans hbx.2.1
    have z1 : w2.frozen? ⟨w.heap.size + 1, 0, none⟩ = false := (hB2.frozen (p := ⟨w.heap.size + 1, 0, none⟩) (by show w.heap.size + 1 < w.heap.size + 2; omega)).trans hbx.2.2
    have c2 := World.cell?_setCell_same' w2 ⟨w.heap.size + 1, 0, none⟩ (.slice none 0 0) (by rw [c1]; rfl)
    have HBD : Hid (PErr c f i) := hbad
    clear hbad
    go_wp2
    refine bodyPost_ret (v := .tuple #[.agg #[.slice none 0 0], .iface 168 (.pointer (some (a i)))]) ?_ rfl ?_
    · simp [results, Tryz.f21, go_sem, c2]
    · exact ⟨(hBa.trans (hB2.mono (by omega))).setCell (p := ⟨w.heap.size + 1, 0, none⟩) (by show w.heap.size ≤ w.heap.size + 1; omega) _, .inl ⟨i, HBD.out, rfl⟩⟩
  · obtain ⟨av, cv, rfl, -, -⟩ := hs.open_
    have hBw2 : Below w.heap.size w w2 := hBa.trans (hB2.mono (by rw [two_size]; omega))
    have hval := (callsIn_wide (n := 10)).1 (values_made Fence.wide 10 trivial rfl av fs.length cv w2)
    have hbu := built_values w2 av fs.length cv fs rfl (by omega) (fun x hx => ⟨List.length_pos_iff.2 (h7 x hx).1, by have := (h7 x hx).2; omega⟩) (SliceIn.mono hs (fun _ _ _ => trivial)) (hE.below hBw2)
    have HG : Hid (Good c all ∧ f ∈ all ∧ AroundOf all f (fs.map ints)) := ⟨hg, hm, har⟩
    have HNO : Hid (¬ Over fs) := sub_over hg (fun t ht => ((har t).1 ht).1)
    clear hg hm har hs h7
    go_wp2_with (go_at_call 50; refine hval.mono ?_; rintro e w3 ⟨rfl, rfl⟩)
    refine hbu.mono ?_
    clear hbu hval
    rintro e w4 ⟨hB4, ⟨hov, rfl⟩ | ⟨-, v4, ss, rfl, hown, hnd, hmm⟩⟩
    · exact absurd hov HNO.out
    · have HL : Hid (IsFacets (starI all f) ((srtS ss).map ints)) := isFacets_of (star_same HG.out.1 HG.out.2.2) (facets_built hnd hmm)
      have hB24 : Below w2.heap.size w2 w4 := ((Below.refl _ w2).alloc (Nat.le_refl _) _).trans (hB4.mono (by simp))
      have hB04 := hB2.trans (hB24.mono hB2.size)
      rw [two_size] at hB04
      have c1 : w4.cell? ⟨w.heap.size + 1, 0, none⟩ = some (.slice none 0 0) := (hB04.cell (p := ⟨w.heap.size + 1, 0, none⟩) (by show w.heap.size + 1 < w.heap.size + 2; omega)).trans hbx.2.1
      have z1 : w4.frozen? ⟨w.heap.size + 1, 0, none⟩ = false := (hB04.frozen (p := ⟨w.heap.size + 1, 0, none⟩) (by show w.heap.size + 1 < w.heap.size + 2; omega)).trans hbx.2.2
      have hs2 : w.heap.size + 2 ≤ w2.heap.size := by have := hB2.size; rw [two_size] at this; exact this
      have H1 : Hid (OwnRows (w2.alloc (.cells #[.slice av fs.length cv] 66)).heap.size w4 v4 ((srtS ss).map ints)) := hown
      obtain ⟨a4, c4, rfl, -, -⟩ := hown.rows.open_
      have c2 := World.cell?_setCell_same' w4 ⟨w.heap.size + 1, 0, none⟩ (.slice a4 ((srtS ss).map ints).length c4) (by rw [c1]; rfl)
      rw [List.length_map] at c2
      clear hown hnd hmm hB4 hB24
      go_wp2
      refine bodyPost_ret (v := .tuple #[.agg #[.slice a4 (srtS ss).length c4], .nilIface]) ?_ rfl ?_
      · simp [results, Tryz.f21, go_sem, c2]
      · have h1 := H1.out
        rw [List.length_map, World.size_alloc] at h1
        refine ⟨(hBa.trans (hB04.mono (by omega))).setCell (p := ⟨w.heap.size + 1, 0, none⟩) (by show w.heap.size ≤ w.heap.size + 1; omega) _, .inr ⟨_, _, ⟨all, HG.out.1, HG.out.2.1, HL.out⟩, rfl, ?_⟩⟩
        exact (h1.setCell (p := ⟨w.heap.size + 1, 0, none⟩) (by show w.heap.size + 1 < w2.heap.size + 1; omega) _).lower (by omega)

end Go.Proofs.YtmbolgalgidleaaGreatDoor

namespace Go.Proofs.YtmbolgalgidleaaGreatDoor
open Go.RowKit Go.Shelf Go.Sort Go.Maps Go.Deep

/-- What is left of facets without a face, where anything is. -/
def restsU (tf : List UInt8) (fs : List (List UInt8)) : List (List UInt8) := (fs.map (fun t => minusU t tf)).filter (fun r => decide (r ≠ []))
theorem restsU_succ {fs : List (List UInt8)} {k : Nat} (hk : k < fs.length) (tf : List UInt8) : restsU tf (fs.take (k + 1)) = restsU tf (fs.take k) ++ (if minusU (fs[k]?.getD []) tf = [] then [] else [minusU (fs[k]?.getD []) tf]) := by
  unfold restsU
  rw [List.take_add_one, List.getElem?_eq_getElem hk, List.map_append, List.filter_append, Option.getD_some]
  congr 1
  by_cases h : minusU fs[k] tf = [] <;> simp [h]
theorem restsU_length (tf : List UInt8) (fs : List (List UInt8)) : (restsU tf fs).length ≤ fs.length := by
  unfold restsU
  have := List.length_filter_le (fun r : List UInt8 => decide (r ≠ [])) (fs.map (fun t => minusU t tf))
  simpa using this
theorem rests_mem {tf : List UInt8} {fs : List (List UInt8)} {f : List Int} (htf : ints tf = f) (r : List Int) : r ∈ (restsU tf fs).map ints ↔ r ≠ [] ∧ ∃ t ∈ fs.map ints, r = minusI t f := by
  rw [List.mem_map]
  unfold restsU
  constructor
  · rintro ⟨x, hx, rfl⟩
    obtain ⟨h1, h2⟩ := List.mem_filter.1 hx
    obtain ⟨t, ht, rfl⟩ := List.mem_map.1 h1
    refine ⟨fun e => ?_, ints t, List.mem_map.2 ⟨t, ht, rfl⟩, by rw [minusU_ints, htf]⟩
    have : minusU t tf = [] := ints_inj (y := []) e
    rw [this] at h2; simp at h2
  · rintro ⟨h1, t', ht', rfl⟩
    obtain ⟨t, ht, rfl⟩ := List.mem_map.1 ht'
    refine ⟨minusU t tf, List.mem_filter.2 ⟨List.mem_map.2 ⟨t, ht, rfl⟩, ?_⟩, by rw [minusU_ints, htf]⟩
    refine decide_eq_true (fun e => h1 ?_)
    rw [← htf, ← minusU_ints, e]; rfl

theorem loop_length (bs : ByteArray) : ∀ (n i : Nat) (r : List UInt8), bs.size - i = n → (ByteArray.toList.loop bs i r).length = r.length + n := by
  intro n
  induction n with
  | zero =>
    intro i r h
    unfold ByteArray.toList.loop
    rw [if_neg (by omega)]
    simp
  | succ n ih =>
    intro i r h
    unfold ByteArray.toList.loop
    rw [if_pos (by omega), ih (i + 1) _ (by omega)]
    simp
    omega
theorem not_empty (bs : ByteArray) (h : 0 < bs.size) : (!bs.toList.isEmpty) = true := by
  have h1 := loop_length bs bs.size 0 [] (by omega)
  have h2 : bs.toList.length = bs.size := by unfold ByteArray.toList; rw [h1]; simp
  cases e : bs.toList with
  | nil => rw [e] at h2; simp at h2; omega
  | cons a l => rfl

set_option maxRecDepth 100000 in
set_option maxHeartbeats 2000000 in
theorem link_call {a : Nat → Addr} {s : Nat → ByteArray} (vl vf : Value) (c : List (List Int)) (f : List Int) (w : World) (hE : Errs a s w) (hl : Rows w vl c) (hll : c.length ≤ 100000) (hle : ∀ x ∈ c, x.length ≤ 1000) (hf : Ints w vf f) (hfl : f.length ≤ 1000) :
    Calls Tryz.prog 25 #[.agg #[vl], vf] w fun e w' => PartG a (PErr c f) (fun L => ∃ all, Good c all ∧ f ∈ all ∧ IsFacets (linkI all f) L) w e w' := by
  obtain ⟨i0, hi, hz0, hz1, hz2⟩ := info_parts Tryz.info9
  obtain ⟨al, cl, rfl, -, -⟩ := hl.open_
  have hBa := two_below w (.slice al c.length cl) (.slice none 0 0) 34 34
  have hbx := two_boxes w (.slice al c.length cl) (.slice none 0 0) 34 34
  have har := around_ _ vf c f _ (hE.below hBa) (hl.below hBa) hll hle (hf.below hBa) hfl
  have hbc := hbx.1.1
  clear hl hf
  go_enter Tryz.func25, Tryz.ntmps25
  go_wp2_with fail
  refine har.mono ?_
  clear har
  rintro e w2 ⟨hB2, ⟨i, hbad, rfl⟩ | ⟨all, v, fs, tf, hg, hm, rfl, hs, htf, har, h6, h7⟩⟩
  · rw [two_size] at hB2
    have c1 : w2.cell? ⟨w.heap.size + 1, 0, none⟩ = some (.slice none 0 0) := (hB2.cell (p := ⟨w.heap.size + 1, 0, none⟩) (by show w.heap.size + 1 < w.heap.size + 2; omega)).trans hbx.2.1
    have z1 : w2.frozen? ⟨w.heap.size + 1, 0, none⟩ = false := (hB2.frozen (p := ⟨w.heap.size + 1, 0, none⟩) (by show w.heap.size + 1 < w.heap.size + 2; omega)).trans hbx.2.2
    have c2 := World.cell?_setCell_same' w2 ⟨w.heap.size + 1, 0, none⟩ (.slice none 0 0) (by rw [c1]; rfl)
    have HBD : Hid (PErr c f i) := hbad
    clear hbad
    go_wp2
    refine bodyPost_ret (v := .tuple #[.agg #[.slice none 0 0], .iface 168 (.pointer (some (a i)))]) ?_ rfl ?_
    · simp [results, Tryz.f25, go_sem, c2]
    · exact ⟨(hBa.trans (hB2.mono (by omega))).setCell (p := ⟨w.heap.size + 1, 0, none⟩) (by show w.heap.size ≤ w.heap.size + 1; omega) _, .inl ⟨i, HBD.out, rfl⟩⟩
  · obtain ⟨av, cv, rfl, -, hcv⟩ := hs.open_
    have HBw2 : Hid (Below w.heap.size w w2) := hBa.trans (hB2.mono (by rw [two_size]; omega))
    have HB02 : Hid (Below (w.heap.size + 2) ((w.alloc (.cells #[.slice al c.length cl] 34)).alloc (.cells #[.slice none 0 0] 34)) w2) := by
      rw [two_size] at hB2; exact hB2
    have HG : Hid (Good c all ∧ f ∈ all ∧ AroundOf all f (fs.map ints)) := ⟨hg, hm, har⟩
    have HTF : Hid (ints tf = f) := htf
    have HS7 : Hid (∀ x ∈ fs, x ≠ [] ∧ x.length ≤ 7) := h7
    have HNO : Hid (¬ Over (restsU tf fs)) := by
      refine sub_over hg (fun t ht => ?_)
      obtain ⟨h1, x, hx, rfl⟩ := (rests_mem htf t).1 ht
      exact hg.sub ((har x).1 hx).1 List.filter_sublist h1
    clear hg hm har hs h7 hB2 htf
    obtain ⟨sf, hsf⟩ : ∃ s : ByteArray, (⟨tf.toArray⟩ : ByteArray) = s := ⟨_, rfl⟩
    have hef : encStr tf = .string sf := by rw [← hsf, encStr]
    have HEF : Hid (encStr tf = .string sf) := hef
    rw [hef]
    clear hsf hef
    go_wp2
    go_loopw [9, 26] (fun v p W => ∃ k : Nat, k ≤ fs.length ∧ p = .int .i64 k ∧ W.ownsRow w2.heap.size 9 1 v (restsU tf (fs.take k)).length ((restsU tf (fs.take k)).map encStr) ∧ Below w2.heap.size w2 W)
      (fun _ p _ => fs.length - (intOf p).toNat)
    case atStart => exact ⟨0, by omega, rfl, by simp [restsU]; exact World.ownsRow_nil _ _ _ _, Below.refl _ _⟩
    case round =>
      obtain ⟨k, hk, rfl, hown, hB⟩ := hrel
      have hrl : (restsU tf (fs.take k)).length ≤ 600 := by have := restsU_length tf (fs.take k); simp at this; omega
      obtain ⟨rs, hrs⟩ : ∃ rs, restsU tf (fs.take k) = rs := ⟨_, rfl⟩
      rw [hrs] at hown hrl
      have HRS : Hid (restsU tf (fs.take k) = rs) := hrs
      have hbs := hB.size
      clear hrs
      by_cases hlt : k < fs.length
      · obtain ⟨b6, o6, rfl, -, hb6, c6⟩ := hcv (by omega)
        have g6 := (hB.cell (p := ⟨b6, o6 + k, none⟩) hb6).trans (c6 k hlt)
        have hx7 := HS7.out (fs[k]?.getD []) (by rw [List.getElem?_eq_getElem hlt]; simp)
        have hst := restsU_succ hlt tf
        obtain ⟨t, hte⟩ : ∃ t, fs[k]?.getD [] = t := ⟨_, rfl⟩
        rw [hte] at g6 hx7 hst
        rw [HRS.out] at hst
        have hwo := without_ t tf wr (by omega)
        obtain ⟨m, hm⟩ : ∃ m, minusU t tf = m := ⟨_, rfl⟩
        rw [hm] at hwo hst
        have HST : Hid (restsU tf (fs.take (k + 1)) = rs ++ (if m = [] then [] else [m])) := hst
        obtain ⟨st, hstt⟩ : ∃ s : ByteArray, (⟨t.toArray⟩ : ByteArray) = s := ⟨_, rfl⟩
        have he : encStr t = .string st := by rw [← hstt, encStr]
        rw [he] at g6
        rw [he, HEF.out] at hwo
        clear hte hst hx7 hstt he hm c6 hcv
        cases m with
        | nil =>
          go_wp2_with fail
          refine hwo.mono ?_
          clear hwo
          rintro e w6 ⟨rfl, hB6⟩
          have hown6 := hown.kept (Below.grownBy hB6) (by cases Value.ownBlock _ <;> simp)
          have hB56 : Below w2.heap.size w2 w6 := hB.trans (hB6.mono hbs)
          have he0 : encStr [] = .string ⟨#[]⟩ := rfl
          rw [he0]
          clear hown hB6
          go_wp2
          go_roundw
          case rel => exact ⟨k + 1, by omega, by go_num, by rw [HST.out]; simpa using hown6, hB56⟩
          case measure => simp [intOf]; omega
        | cons b0 m =>
          obtain ⟨sm, hsm⟩ : ∃ s : ByteArray, (⟨(b0 :: m).toArray⟩ : ByteArray) = s := ⟨_, rfl⟩
          have hem : encStr (b0 :: m) = .string sm := by rw [← hsm, encStr]
          have hneb : (!sm.toList.isEmpty) = true := not_empty sm (by rw [← hsm]; simp [ByteArray.size])
          have HEM : Hid (encStr (b0 :: m) = .string sm) := hem
          rw [hem] at hwo
          clear hsm hem
          go_wp2_with fail
          refine hwo.mono ?_
          clear hwo
          rintro e w6 ⟨rfl, hB6⟩
          have hown6 := hown.kept (Below.grownBy hB6) (by cases Value.ownBlock _ <;> simp)
          have hB56 : Below w2.heap.size w2 w6 := hB.trans (hB6.mono hbs)
          have hbs6 := hB56.size
          clear hown hB6
          go_wp2_with (first
            | (at_builtin; refine wpList_append_slice rfl (.tmp 35) (.tmp 37) 66 rfl w2.heap.size 9 i0 (.string ⟨#[]⟩) 16 Tryz.underlying66 hi hz0 hz1 hz2 rfl _ _ _ rfl (hown6.alloc _) _ [.string sm] rfl (slice_one _ _ _) (by simp [Value.oneCell']) (by simp; omega) (by unfold maxLen; simp; omega) (by simp; omega) ?_; intro v7 w7 hown7 hg7 hl7)
            | go_in)
          (try go_frame)
          go_roundw
          case rel => exact ⟨k + 1, by omega, by go_num, by rw [HST.out, if_neg (by simp), List.map_append]; simp only [List.map_cons, List.map_nil, HEM.out]; simpa using hown7, (hB56.alloc hbs6 _).grown hg7 (by simp; omega) (fun j hj => (hown6.lt j hj).1)⟩
          case measure => simp [intOf]; omega
      · obtain rfl : k = fs.length := by omega
        have HR2 : Hid (restsU tf fs = rs) := by
          have := HRS.out
          rwa [List.take_length] at this
        have hst := slice_of_owns (S := anyBlock) hown (fun _ _ _ => trivial)
        have hst' : Strs wr u9 rs := hst
        obtain ⟨av2, cv2, rfl, -, -⟩ := hst'.open_
        have hBw : Below w.heap.size w wr := HBw2.out.trans (hB.mono HBw2.out.size)
        have hval := (callsIn_wide (n := 10)).1 (values_made Fence.wide 10 trivial rfl av2 rs.length cv2 wr)
        have hbu := built_values wr av2 rs.length cv2 rs rfl (by omega) (fun x hx => by
          rw [← HR2.out] at hx
          obtain ⟨h1, h2⟩ := List.mem_filter.1 hx
          obtain ⟨t, ht, rfl⟩ := List.mem_map.1 h1
          have := minusU_length t tf
          have := (HS7.out t ht).2
          exact ⟨List.length_pos_iff.2 (of_decide_eq_true h2), by omega⟩) hst' (hE.below hBw)
        clear hcv hown hst hst'
        go_wp2_with (go_at_call 50; refine hval.mono ?_; rintro e w3 ⟨rfl, rfl⟩)
        refine hbu.mono ?_
        clear hbu hval
        rintro e w4 ⟨hB4, ⟨hov, rfl⟩ | ⟨-, v4, ss, rfl, hown, hnd, hmm⟩⟩
        · exact absurd (by rw [HR2.out]; exact hov) HNO.out
        · have HL : Hid (IsFacets (linkI all f) ((srtS ss).map ints)) := by
            refine isFacets_of (link_same HG.out.1 HG.out.2.2 (rests_mem HTF.out)) ?_
            rw [HR2.out]; exact facets_built hnd hmm
          have hB24 : Below wr.heap.size wr w4 := ((Below.refl _ wr).alloc (Nat.le_refl _) _).trans (hB4.mono (by simp))
          have hB04 := (HB02.out.trans (hB.mono (by have := HB02.out.size; rw [two_size] at this; exact this))).trans (hB24.mono (by have := HB02.out.size; rw [two_size] at this; omega))
          have c1 : w4.cell? ⟨w.heap.size + 1, 0, none⟩ = some (.slice none 0 0) := (hB04.cell (p := ⟨w.heap.size + 1, 0, none⟩) (by show w.heap.size + 1 < w.heap.size + 2; omega)).trans hbx.2.1
          have z1 : w4.frozen? ⟨w.heap.size + 1, 0, none⟩ = false := (hB04.frozen (p := ⟨w.heap.size + 1, 0, none⟩) (by show w.heap.size + 1 < w.heap.size + 2; omega)).trans hbx.2.2
          have hs2 : w.heap.size + 2 ≤ wr.heap.size := by have := HB02.out.size; rw [two_size] at this; omega
          have H1 : Hid (OwnRows (wr.alloc (.cells #[.slice av2 rs.length cv2] 66)).heap.size w4 v4 ((srtS ss).map ints)) := hown
          obtain ⟨a4, c4, rfl, -, -⟩ := hown.rows.open_
          have c2 := World.cell?_setCell_same' w4 ⟨w.heap.size + 1, 0, none⟩ (.slice a4 ((srtS ss).map ints).length c4) (by rw [c1]; rfl)
          rw [List.length_map] at c2
          clear hown hnd hmm hB4 hB24
          go_wp2
          refine bodyPost_ret (v := .tuple #[.agg #[.slice a4 (srtS ss).length c4], .nilIface]) ?_ rfl ?_
          · simp [results, Tryz.f25, go_sem, c2]
          · have h1 := H1.out
            rw [List.length_map, World.size_alloc] at h1
            refine ⟨(hBa.trans (hB04.mono (by omega))).setCell (p := ⟨w.heap.size + 1, 0, none⟩) (by show w.heap.size ≤ w.heap.size + 1; omega) _, .inr ⟨_, _, ⟨all, HG.out.1, HG.out.2.1, HL.out⟩, rfl, ?_⟩⟩
            exact (h1.setCell (p := ⟨w.heap.size + 1, 0, none⟩) (by show w.heap.size + 1 < wr.heap.size + 1; omega) _).lower (by omega)

theorem low_ (x : List UInt8) (dim : Int) (Bx : Nat) (w : World) (hB : w.cell? ⟨Bx, 0, none⟩ = some (.int .i64 dim)) (hl : x.length ≤ 1000) :
    Calls Tryz.prog 55 #[encStr x, .pointer (some ⟨Bx, 0, none⟩)] w fun e w' => e = .returned (.bool (decide ((x.length : Int) - 1 ≤ dim))) ∧ w' = w := by
  have hsz : (⟨x.toArray⟩ : ByteArray).size = x.length := by simp [ByteArray.size]
  show Calls Tryz.prog 55 #[.string ⟨x.toArray⟩, .pointer (some ⟨Bx, 0, none⟩)] w _
  go_enter Tryz.func55, Tryz.ntmps55
  go_wp2
  go_ret
  exact ⟨rfl, rfl⟩

theorem three_size (w : World) (o o' o'' : Obj) : (((w.alloc o).alloc o').alloc o'').heap.size = w.heap.size + 3 := by simp
theorem three_boxes (w : World) (v u z : Value) (t t' t'' : TypeId) : (((w.alloc (.cells #[v] t)).alloc (.cells #[u] t')).alloc (.cells #[z] t'')).cell? ⟨w.heap.size, 0, none⟩ = some v ∧
    (((w.alloc (.cells #[v] t)).alloc (.cells #[u] t')).alloc (.cells #[z] t'')).cell? ⟨w.heap.size + 1, 0, none⟩ = some u ∧
    ((((w.alloc (.cells #[v] t)).alloc (.cells #[u] t')).alloc (.cells #[z] t'')).cell? ⟨w.heap.size + 1 + 1, 0, none⟩ = some z ∧ (((w.alloc (.cells #[v] t)).alloc (.cells #[u] t')).alloc (.cells #[z] t'')).frozen? ⟨w.heap.size + 1 + 1, 0, none⟩ = false) := by
  have h2 := two_boxes w v u t t'
  refine ⟨(box_alloc _ h2.1).1, (box_alloc _ h2.2).1, ?_⟩
  have := box_new ((w.alloc (.cells #[v] t)).alloc (.cells #[u] t')) z t''
  rwa [World.size_alloc, World.size_alloc] at this
theorem three_below (w : World) (v u z : Value) (t t' t'' : TypeId) : Below w.heap.size w (((w.alloc (.cells #[v] t)).alloc (.cells #[u] t')).alloc (.cells #[z] t'')) := (two_below w v u t t').alloc (by simp; omega) _

set_option maxRecDepth 100000 in
set_option maxHeartbeats 2000000 in
theorem skel_call {a : Nat → Addr} {s : Nat → ByteArray} (vl : Value) (c : List (List Int)) (dim : Int) (w : World) (hE : Errs a s w) (hl : Rows w vl c) (hll : c.length ≤ 100000) (hle : ∀ x ∈ c, x.length ≤ 1000) :
    Calls Tryz.prog 27 #[.agg #[vl], .int .i64 dim] w fun e w' => PartG a (BadAt c) (fun L => ∃ all, Good c all ∧ IsFacets (lowI all dim) L) w e w' := by
  obtain ⟨al, cl, rfl, -, -⟩ := hl.open_
  have hBa := three_below w (.slice al c.length cl) (.int .i64 dim) (.slice none 0 0) 34 3 34
  have hbx := three_boxes w (.slice al c.length cl) (.int .i64 dim) (.slice none 0 0) 34 3 34
  have hop := open_g _ c _ (hE.below hBa) (hl.below hBa) hll hle
  have hbc := hbx.1
  clear hl
  go_enter Tryz.func27, Tryz.ntmps27
  go_wp2_with fail
  refine hop.mono ?_
  clear hop
  rintro e w2 ⟨hB2, ⟨i, hbad, rfl⟩ | ⟨all, b, F, G, hg, ht, rfl, hP, -⟩⟩
  · rw [three_size] at hB2
    have c1 : w2.cell? ⟨w.heap.size + 1 + 1, 0, none⟩ = some (.slice none 0 0) := (hB2.cell (p := ⟨w.heap.size + 1 + 1, 0, none⟩) (by show w.heap.size + 1 + 1 < w.heap.size + 3; omega)).trans hbx.2.2.1
    have z1 : w2.frozen? ⟨w.heap.size + 1 + 1, 0, none⟩ = false := (hB2.frozen (p := ⟨w.heap.size + 1 + 1, 0, none⟩) (by show w.heap.size + 1 + 1 < w.heap.size + 3; omega)).trans hbx.2.2.2
    have c2 := World.cell?_setCell_same' w2 ⟨w.heap.size + 1 + 1, 0, none⟩ (.slice none 0 0) (by rw [c1]; rfl)
    have HBD : Hid (BadAt c i) := hbad
    clear hbad
    go_wp2
    refine bodyPost_ret (v := .tuple #[.agg #[.slice none 0 0], .iface 168 (.pointer (some (a i)))]) ?_ rfl ?_
    · simp [results, Tryz.f27, go_sem, c2]
    · exact ⟨(hBa.trans (hB2.mono (by omega))).setCell (p := ⟨w.heap.size + 1 + 1, 0, none⟩) (by show w.heap.size ≤ w.heap.size + 1 + 1; omega) _, .inl ⟨i, HBD.out, rfl⟩⟩
  · have hBw2 : Below w.heap.size w w2 := hBa.trans (hB2.mono (by rw [three_size]; omega))
    have hkept := kept_ b F G 55 #[.pointer (some ⟨w.heap.size + 1, 0, none⟩)] (fun x => decide ((x.length : Int) - 1 ≤ dim)) w2 hP (by have := ht.few; omega) (fun x hx => by have := ht.short x hx; omega) (enters_of Tryz.func55 (by kernel_rfl) rfl)
      (fun x hxF W hW => low_ x dim (w.heap.size + 1) W ((hW.cell (p := ⟨w.heap.size + 1, 0, none⟩) (by have := hB2.size; rw [three_size] at this; show w.heap.size + 1 < w2.heap.size; omega)).trans ((hB2.cell (p := ⟨w.heap.size + 1, 0, none⟩) (by rw [three_size]; show w.heap.size + 1 < w.heap.size + 3; omega)).trans hbx.2.1)) (by have := ht.short x hxF; omega))
    have HG : Hid (Good c all ∧ Told F all) := ⟨hg, ht⟩
    clear hg ht hP
    go_wp2_with fail
    refine hkept.mono ?_
    clear hkept
    rintro e w3 ⟨v, ks, rfl, hs, hkn, hkm, hB3⟩
    obtain ⟨fs, hfs⟩ : ∃ fs, srtS ks = fs := ⟨_, rfl⟩
    rw [hfs] at hs
    have HM : Hid (∀ x, x ∈ fs ↔ x ∈ F ∧ (x.length : Int) - 1 ≤ dim) := fun x => by
      rw [← hfs]
      have e1 : x ∈ srtS ks ↔ x ∈ ks := (List.mergeSort_perm ks _).mem_iff
      rw [e1, hkm]; simp
    have hfl : fs.length ≤ 600 := by
      have e1 : (srtS ks).length = ks.length := (List.mergeSort_perm ks _).length_eq
      have := nodup_le hkn (fun x hx => ((hkm x).1 hx).1)
      have := HG.out.2.few
      rw [← hfs]; omega
    have hsame : ∀ t, t ∈ fs.map ints ↔ t ∈ lowI all dim := fun t => by
      unfold lowI
      rw [List.mem_filter, List.mem_map]
      constructor
      · rintro ⟨x, hx, rfl⟩
        have := (HM.out x).1 hx
        exact ⟨(mem_told HG.out.2 x).1 this.1, by rw [ints_length]; exact decide_eq_true this.2⟩
      · rintro ⟨h1, h2⟩
        obtain ⟨x, hx, rfl⟩ := List.mem_map.1 (HG.out.2.perm.mem_iff.2 h1)
        rw [ints_length] at h2
        exact ⟨x, (HM.out x).2 ⟨hx, of_decide_eq_true h2⟩, rfl⟩
    have HSA : Hid (∀ t, t ∈ fs.map ints ↔ t ∈ lowI all dim) := hsame
    have HNO : Hid (¬ Over fs) := sub_over HG.out.1 (fun t ht => (List.mem_filter.1 ((hsame t).1 ht)).1)
    obtain ⟨av, cv, rfl, -, -⟩ := hs.open_
    have hBw3 : Below w.heap.size w w3 := hBw2.trans (hB3.mono hBw2.size)
    have hval := (callsIn_wide (n := 10)).1 (values_made Fence.wide 10 trivial rfl av fs.length cv w3)
    have hbu := built_values w3 av fs.length cv fs rfl (by omega) (fun x hx => by
      have h1 := ((HM.out x).1 hx).1
      exact ⟨List.length_pos_iff.2 (HG.out.2.some_ x h1), by have := HG.out.2.short x h1; omega⟩) (SliceIn.mono hs (fun _ _ _ => trivial)) (hE.below hBw3)
    clear hs hkn hkm hfs hsame
    go_wp2_with (go_at_call 50; refine hval.mono ?_; rintro e w5 ⟨rfl, rfl⟩)
    refine hbu.mono ?_
    clear hbu hval
    rintro e w4 ⟨hB4, ⟨hov, rfl⟩ | ⟨-, v4, ss, rfl, hown, hnd, hmm⟩⟩
    · exact absurd hov HNO.out
    · have HL : Hid (IsFacets (lowI all dim) ((srtS ss).map ints)) := isFacets_of (face_members HSA.out) (facets_built hnd hmm)
      have hB24 : Below w2.heap.size w2 w4 := hB3.trans ((((Below.refl _ w3).alloc (Nat.le_refl _) _).trans (hB4.mono (by simp))).mono hB3.size)
      have hB04 := hB2.trans (hB24.mono hB2.size)
      rw [three_size] at hB04
      have c1 : w4.cell? ⟨w.heap.size + 1 + 1, 0, none⟩ = some (.slice none 0 0) := (hB04.cell (p := ⟨w.heap.size + 1 + 1, 0, none⟩) (by show w.heap.size + 1 + 1 < w.heap.size + 3; omega)).trans hbx.2.2.1
      have z1 : w4.frozen? ⟨w.heap.size + 1 + 1, 0, none⟩ = false := (hB04.frozen (p := ⟨w.heap.size + 1 + 1, 0, none⟩) (by show w.heap.size + 1 + 1 < w.heap.size + 3; omega)).trans hbx.2.2.2
      have hs2 : w.heap.size + 3 ≤ w3.heap.size := by have h1 := hB2.size; have h2 := hB3.size; rw [three_size] at h1; omega
      have H1 : Hid (OwnRows (w3.alloc (.cells #[.slice av fs.length cv] 66)).heap.size w4 v4 ((srtS ss).map ints)) := hown
      obtain ⟨a4, c4, rfl, -, -⟩ := hown.rows.open_
      have c2 := World.cell?_setCell_same' w4 ⟨w.heap.size + 1 + 1, 0, none⟩ (.slice a4 ((srtS ss).map ints).length c4) (by rw [c1]; rfl)
      rw [List.length_map] at c2
      clear hown hnd hmm hB4 hB24
      go_wp2
      refine bodyPost_ret (v := .tuple #[.agg #[.slice a4 (srtS ss).length c4], .nilIface]) ?_ rfl ?_
      · simp [results, Tryz.f27, go_sem, c2]
      · have h1 := H1.out
        rw [List.length_map, World.size_alloc] at h1
        refine ⟨(hBa.trans (hB04.mono (by omega))).setCell (p := ⟨w.heap.size + 1 + 1, 0, none⟩) (by show w.heap.size ≤ w.heap.size + 1 + 1; omega) _, .inr ⟨_, _, ⟨all, HG.out.1, HL.out⟩, rfl, ?_⟩⟩
        exact (h1.setCell (p := ⟨w.heap.size + 1 + 1, 0, none⟩) (by show w.heap.size + 1 + 1 < w3.heap.size + 1; omega) _).lower (by omega)

end Go.Proofs.YtmbolgalgidleaaGreatDoor
