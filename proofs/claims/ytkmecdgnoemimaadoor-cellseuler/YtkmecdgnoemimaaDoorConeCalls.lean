/- What Cone answers. -/
import Derived.Test.YtkmecdgnoemimaaDoorJoinCalls2
namespace Go.Proofs.YtkmecdgnoemimaaDoor
open Go.RowKit Go.Shelf Go.Sort Go.Maps Go.Deep

theorem single_faces {g : List (List Int)} (h : ∀ t ∈ g, t.length = 1) (x : List Int) : FaceOf g x ↔ x ∈ g := by
  constructor
  · rintro ⟨h1, t, ht, hs⟩
    have h2 := h t ht
    have h3 := List.length_pos_iff.2 h1
    rw [hs.eq_of_length (by have := hs.length_le; omega)]; exact ht
  · intro hx
    exact ⟨fun e => by have := h x hx; rw [e] at this; simp at this, x, hx, List.Sublist.refl _⟩
theorem single_over {g : List (List Int)} (h : ∀ t ∈ g, t.length = 1) (hl : g.length ≤ 600) : ¬ Over g := by
  rintro (⟨t, ht, h7⟩ | ⟨X, hn, h6, hx⟩)
  · have := h t ht; omega
  · have := nodup_le hn (fun x hx' => (single_faces h x).1 (hx x hx'))
    omega
theorem good_single {g : List (List Int)} (h : ∀ t ∈ g, t.length = 1) (hl : g.length ≤ 600) (hok : ∀ t ∈ g, SetOk t) (ho : Order g) (hf : facetsI g = g) : Good g g := by
  have hr : ∀ t ∈ g, Rising t := fun t ht => by
    obtain ⟨u, rfl⟩ := List.length_eq_one_iff.1 (h t ht)
    exact List.pairwise_singleton _ _
  refine ⟨hok, ?_, ?_, hf⟩
  · rw [map_srt hr]; exact single_over h hl
  · rw [map_srt hr]; exact ⟨ho, fun x => (single_faces h x).symm⟩
theorem set_one (v : Int) (h0 : 0 ≤ v) (h9 : v ≤ 99) : SetOk [v] := ⟨by simp, by simp, fun u hu => by simp at hu; subst hu; exact ⟨h0, h9⟩⟩
theorem good_point : Good [[0]] [[0]] :=
  good_single (fun t ht => by simp at ht; subst ht; rfl) (by decide) (fun t ht => by simp at ht; subst ht; exact set_one 0 (by decide) (by decide)) (List.pairwise_singleton _ _) (by decide)
theorem good_two : Good [[0], [1]] [[0], [1]] :=
  good_single (fun t ht => by simp at ht; rcases ht with rfl | rfl <;> rfl) (by decide) (fun t ht => by simp at ht; rcases ht with rfl | rfl <;> exact set_one _ (by decide) (by decide)) (by simp [Order, ahead]) (by decide)

/-- One point, laid. -/
theorem rows_point (W : World) (t t' : TypeId) : Rows ((W.alloc (.cells #[.int .i64 0] t)).alloc (.cells #[.slice (some ⟨W.heap.size, 0, none⟩) 1 1] t')) (.slice (some ⟨W.heap.size + 1, 0, none⟩) 1 1) [[0]] := by
  have h1 := slice_one W (.int .i64 0) t
  have h2 := slice_one (W.alloc (.cells #[.int .i64 0] t)) (.slice (some ⟨W.heap.size, 0, none⟩) 1 1) t'
  rw [World.size_alloc] at h2
  refine ⟨_, h2, rfl, fun k u x hu hx => ?_⟩
  cases k with
  | zero =>
    simp at hu hx
    subst hu; subst hx
    exact SliceIn.below h1 ((Below.refl _ _).alloc (Nat.le_refl _) _)
  | succ k => simp at hu
/-- Two points, laid. -/
theorem rows_two (W : World) (t t' : TypeId) : Rows (((W.alloc (.cells #[.int .i64 0] t)).alloc (.cells #[.int .i64 1] t)).alloc (.cells #[.slice (some ⟨W.heap.size, 0, none⟩) 1 1, .slice (some ⟨W.heap.size + 1, 0, none⟩) 1 1] t')) (.slice (some ⟨W.heap.size + 1 + 1, 0, none⟩) 2 2) [[0], [1]] := by
  have h1 := slice_one W (.int .i64 0) t
  have h2 := slice_one (W.alloc (.cells #[.int .i64 0] t)) (.int .i64 1) t
  rw [World.size_alloc] at h2
  have hB2 : Below (W.alloc (.cells #[.int .i64 0] t)).heap.size (W.alloc (.cells #[.int .i64 0] t)) ((W.alloc (.cells #[.int .i64 0] t)).alloc (.cells #[.int .i64 1] t)) := (Below.refl _ _).alloc (Nat.le_refl _) _
  have hB3 := (Below.refl _ ((W.alloc (.cells #[.int .i64 0] t)).alloc (.cells #[.int .i64 1] t))).alloc (Nat.le_refl _) (.cells #[.slice (some ⟨W.heap.size, 0, none⟩) 1 1, .slice (some ⟨W.heap.size + 1, 0, none⟩) 1 1] t')
  have hr := two_row ((W.alloc (.cells #[.int .i64 0] t)).alloc (.cells #[.int .i64 1] t)) (.slice (some ⟨W.heap.size, 0, none⟩) 1 1) (.slice (some ⟨W.heap.size + 1, 0, none⟩) 1 1) t'
  rw [World.size_alloc, World.size_alloc] at hr
  refine ⟨[.slice (some ⟨W.heap.size, 0, none⟩) 1 1, .slice (some ⟨W.heap.size + 1, 0, none⟩) 1 1], ⟨_, _, rfl, ⟨Nat.le_refl _, fun h => by cases h⟩, fun _ => ⟨_, _, rfl, trivial, fun k u hu => ?_⟩⟩, rfl, fun k u x hu hx => ?_⟩
  · match k, hu with
    | 0, hu => simp at hu; subst hu; exact hr.1
    | 1, hu => simp at hu; subst hu; exact hr.2
    | k + 2, hu => simp at hu
  · match k, hu, hx with
    | 0, hu, hx => simp at hu hx; subst hu; subst hx; exact SliceIn.below (SliceIn.below h1 hB2) hB3
    | 1, hu, hx => simp at hu hx; subst hu; subst hx; exact SliceIn.below h2 hB3
    | k + 2, hu, _ => simp at hu

theorem join_point {a : Nat → Addr} {s : Nat → ByteArray} (vl : Value) (l : List (List Int)) (W : World) (hE : Errs a s W) (hl : Rows W vl l) (hll : l.length ≤ 100000) (hle : ∀ x ∈ l, x.length ≤ 1000) :
    Calls Tryd.prog 16 #[.agg #[vl], .agg #[.slice (some ⟨W.heap.size + 1, 0, none⟩) 1 1]] ((W.alloc (.cells #[.int .i64 0] 3)).alloc (.cells #[.slice (some ⟨W.heap.size, 0, none⟩) 1 1] 37)) fun e w' =>
      Below W.heap.size W w' ∧ TwoG a l [[0]] joinS ((W.alloc (.cells #[.int .i64 0] 3)).alloc (.cells #[.slice (some ⟨W.heap.size, 0, none⟩) 1 1] 37)) e w' := by
  have hB := two_below W (.int .i64 0) (.slice (some ⟨W.heap.size, 0, none⟩) 1 1) 3 37
  refine (join_call vl (.slice (some ⟨W.heap.size + 1, 0, none⟩) 1 1) l [[0]] _ (hE.below hB) (hl.below hB) (rows_point W 3 37) hll hle (by decide) (fun x hx => by simp at hx; subst hx; decide)).mono ?_
  exact fun e w' h => ⟨hB.trans (h.1.mono hB.size), h⟩
theorem join_two {a : Nat → Addr} {s : Nat → ByteArray} (vl : Value) (l : List (List Int)) (W : World) (hE : Errs a s W) (hl : Rows W vl l) (hll : l.length ≤ 100000) (hle : ∀ x ∈ l, x.length ≤ 1000) :
    Calls Tryd.prog 16 #[.agg #[vl], .agg #[.slice (some ⟨W.heap.size + 1 + 1, 0, none⟩) 2 2]] (((W.alloc (.cells #[.int .i64 0] 3)).alloc (.cells #[.int .i64 1] 3)).alloc (.cells #[.slice (some ⟨W.heap.size, 0, none⟩) 1 1, .slice (some ⟨W.heap.size + 1, 0, none⟩) 1 1] 37)) fun e w' =>
      Below W.heap.size W w' ∧ TwoG a l [[0], [1]] joinS (((W.alloc (.cells #[.int .i64 0] 3)).alloc (.cells #[.int .i64 1] 3)).alloc (.cells #[.slice (some ⟨W.heap.size, 0, none⟩) 1 1, .slice (some ⟨W.heap.size + 1, 0, none⟩) 1 1] 37)) e w' := by
  have hB : Below W.heap.size W (((W.alloc (.cells #[.int .i64 0] 3)).alloc (.cells #[.int .i64 1] 3)).alloc (.cells #[.slice (some ⟨W.heap.size, 0, none⟩) 1 1, .slice (some ⟨W.heap.size + 1, 0, none⟩) 1 1] 37)) := (two_below W (.int .i64 0) (.int .i64 1) 3 3).alloc (by simp; omega) _
  refine (join_call vl (.slice (some ⟨W.heap.size + 1 + 1, 0, none⟩) 2 2) l [[0], [1]] _ (hE.below hB) (hl.below hB) (rows_two W 3 37) hll hle (by decide) (fun x hx => by simp at hx; rcases hx with rfl | rfl <;> decide)).mono ?_
  exact fun e w' h => ⟨hB.trans (h.1.mono hB.size), h⟩

set_option maxRecDepth 100000 in
set_option maxHeartbeats 1000000 in
theorem cone_call {a : Nat → Addr} {s : Nat → ByteArray} (vl : Value) (l : List (List Int)) (w : World) (hE : Errs a s w) (hl : Rows w vl l) (hll : l.length ≤ 100000) (hle : ∀ x ∈ l, x.length ≤ 1000) :
    Calls Tryd.prog 19 #[.agg #[vl]] w fun e w' => TwoG a l [[0]] joinS w e w' := by
  obtain ⟨al, cl, rfl, -, -⟩ := hl.open_
  have hBa := two_below w (.slice al l.length cl) (.slice none 0 0) 27 27
  have hbx := two_boxes w (.slice al l.length cl) (.slice none 0 0) 27 27
  have hjo := join_point (.slice al l.length cl) l _ (hE.below hBa) (hl.below hBa) hll hle
  have hbc := hbx.1.1
  simp only [World.size_alloc] at hjo
  clear hl
  go_enter Tryd.func19, Tryd.ntmps19
  go_wp2_with fail
  refine hjo.mono ?_
  clear hjo
  rintro e w2 ⟨hB2, -, hcase⟩
  have c1 : w2.cell? ⟨w.heap.size + 1, 0, none⟩ = some (.slice none 0 0) := (hB2.cell (p := ⟨w.heap.size + 1, 0, none⟩) (by show w.heap.size + 1 < w.heap.size + 1 + 1; omega)).trans hbx.2.1
  have z1 : w2.frozen? ⟨w.heap.size + 1, 0, none⟩ = false := (hB2.frozen (p := ⟨w.heap.size + 1, 0, none⟩) (by show w.heap.size + 1 < w.heap.size + 1 + 1; omega)).trans hbx.2.2
  have c2 := World.cell?_setCell_same' w2 ⟨w.heap.size + 1, 0, none⟩ (.slice none 0 0) (by rw [c1]; rfl)
  have hBw : ∀ v, Below w.heap.size w (w2.setCell ⟨w.heap.size + 1, 0, none⟩ v) := fun v => (hBa.trans (hB2.mono (by omega))).setCell (p := ⟨w.heap.size + 1, 0, none⟩) (by show w.heap.size ≤ w.heap.size + 1; omega) v
  rcases hcase with ⟨i, hi, rfl⟩ | ⟨p, q, hg, ⟨hn, rfl⟩ | ⟨hn, ho, rfl⟩ | ⟨hn, ho, v, L, hL, rfl, hown⟩⟩
  · have H : Hid (JErr l [[0]] i) := hi
    clear hi
    go_wp2
    refine bodyPost_ret (v := .tuple #[.agg #[.slice none 0 0], .iface 165 (.pointer (some (a i)))]) ?_ rfl ⟨hBw _, .inl ⟨i, H.out, rfl⟩⟩
    simp [results, Tryd.f19, go_sem, c2]
  · have H : Hid ((Good l p ∧ Good [[0]] q) ∧ ¬ ∀ x ∈ joinS p q, SetOk x) := ⟨hg, hn⟩
    clear hg hn
    go_wp2
    refine bodyPost_ret (v := .tuple #[.agg #[.slice none 0 0], .iface 165 (.pointer (some (a 3)))]) ?_ rfl ⟨hBw _, .inr ⟨p, q, H.out.1, .inl ⟨H.out.2, rfl⟩⟩⟩
    simp [results, Tryd.f19, go_sem, c2]
  · have H : Hid ((Good l p ∧ Good [[0]] q) ∧ (∀ x ∈ joinS p q, SetOk x) ∧ Over (joinS p q)) := ⟨hg, hn, ho⟩
    clear hg hn ho
    go_wp2
    refine bodyPost_ret (v := .tuple #[.agg #[.slice none 0 0], .iface 165 (.pointer (some (a 1)))]) ?_ rfl ⟨hBw _, .inr ⟨p, q, H.out.1, .inr (.inl ⟨H.out.2.1, H.out.2.2, rfl⟩)⟩⟩
    simp [results, Tryd.f19, go_sem, c2]
  · have H : Hid ((Good l p ∧ Good [[0]] q) ∧ (∀ x ∈ joinS p q, SetOk x) ∧ ¬ Over (joinS p q) ∧ IsFacets (joinS p q) L) := ⟨hg, hn, ho, hL⟩
    simp only [World.size_alloc] at hown
    have HO : Hid (OwnRows (w.heap.size + 1 + 1 + 1 + 1) w2 v L) := hown
    obtain ⟨a4, c4, rfl, -, -⟩ := hown.rows.open_
    have c3 := World.cell?_setCell_same' w2 ⟨w.heap.size + 1, 0, none⟩ (.slice a4 L.length c4) (by rw [c1]; rfl)
    clear hg hn ho hL hown
    go_wp2
    refine bodyPost_ret (v := .tuple #[.agg #[.slice a4 L.length c4], .nilIface]) ?_ rfl ⟨hBw _, .inr ⟨p, q, H.out.1, .inr (.inr ⟨H.out.2.1, H.out.2.2.1, _, L, H.out.2.2.2, rfl, ?_⟩)⟩⟩
    · simp [results, Tryd.f19, go_sem, c3]
    · exact (HO.out.setCell (p := ⟨w.heap.size + 1, 0, none⟩) (by show w.heap.size + 1 < w.heap.size + 1 + 1 + 1 + 1; omega) _).lower (by omega)

end Go.Proofs.YtkmecdgnoemimaaDoor
