/- What Classify answers of one good word; what the statement makes of it; two lists of one piece. -/
import Derived.Test.YtkaplnjknobdpaaDoorSurfNormal4
namespace Go.Proofs.YtkaplnjknobdpaaDoor
open Go.RowKit Go.Sort

/-- One piece in a slice. -/
def PieceAt (W : World) (v : Value) (t : Bool) (g r : Int) : Prop := ∃ b c, v = .slice (some ⟨b, 0, none⟩) 1 c ∧ W.cell? ⟨b, 0, none⟩ = some (.bool t) ∧ W.cell? ⟨b, 1, none⟩ = some (.int .i64 g) ∧ W.cell? ⟨b, 2, none⟩ = some (.int .i64 r)
theorem PieceAt.below {W W' : World} {v : Value} {t : Bool} {g r : Int} (h : PieceAt W v t g r) (hB : Below W.heap.size W W') : PieceAt W' v t g r := by
  obtain ⟨b, c, e, h0, h1, h2⟩ := h
  exact ⟨b, c, e, (hB.cell (p := ⟨b, 0, none⟩) (cell_lt h0)).trans h0, (hB.cell (p := ⟨b, 1, none⟩) (cell_lt h1)).trans h1, (hB.cell (p := ⟨b, 2, none⟩) (cell_lt h2)).trans h2⟩

set_option maxRecDepth 100000 in
set_option maxHeartbeats 1000000 in
theorem classify_ {ws : List Int} (v : Value) (w : World) (h : Rows w v [ws]) (hok : WordOk ws) :
    Calls Tryd.prog 9 #[v] w fun e w' => ∃ u, e = .returned (.tuple #[.agg #[u], .nilIface]) ∧ PieceAt w' u (turnI ws) (genusI (turnI ws) (eulI ws) (rimsI ws)) (rimsI ws) ∧ Below w.heap.size w w' := by
  have hBa : Below w.heap.size w (w.alloc (.cells #[.slice none 0 0] 37)) := (Below.refl _ w).alloc (Nat.le_refl _) _
  have hva := valid_ v _ (h.below hBa) hok
  have hpi : ∀ V, Below w.heap.size w V → Calls Tryd.prog 15 #[v] V _ := fun V hV => pieces_ v V (h.below hV) hok
  obtain ⟨g, o, cap, a, c, rfl, hc, -⟩ := one_word h
  have hb0 : (w.alloc (.cells #[.slice none 0 0] 37)).cell? ⟨w.heap.size, 0, none⟩ = some (.slice none 0 0) ∧ (w.alloc (.cells #[.slice none 0 0] 37)).frozen? ⟨w.heap.size, 0, none⟩ = false := by
    have hg : (w.alloc (.cells #[.slice none 0 0] 37)).heap[w.heap.size]? = some (.cells #[.slice none 0 0] 37) := (Go.MapKept.heap_alloc w _).1
    have h0 := cells_new w [.slice none 0 0] 37 0 _ rfl
    rw [Addr.add_lit, Nat.zero_add] at h0
    refine ⟨h0, ?_⟩
    simp only [World.frozen?, hg]
    simp
  obtain ⟨X, hX⟩ : ∃ X, w.alloc (.cells #[.slice none 0 0] 37) = X := ⟨_, rfl⟩
  obtain ⟨p, hp⟩ : ∃ p, w.heap.size = p := ⟨_, rfl⟩
  have HX : Hid (w.alloc (.cells #[.slice none 0 0] 37) = X ∧ w.heap.size = p ∧ Below w.heap.size w X) := ⟨hX, hp, by rw [← hX]; exact hBa⟩
  rw [hX, hp] at hb0
  rw [hX] at hva
  obtain ⟨tt, htt⟩ : ∃ tt, turnI ws = tt := ⟨_, rfl⟩
  obtain ⟨gg, hgg⟩ : ∃ gg, genusI (turnI ws) (eulI ws) (rimsI ws) = gg := ⟨_, rfl⟩
  obtain ⟨rr, hrr⟩ : ∃ rr, rimsI ws = rr := ⟨_, rfl⟩
  have hpi2 : ∀ V, Below w.heap.size w V → Calls Tryd.prog 15 #[.slice (some ⟨g, o, none⟩) 1 cap] V fun e w' => ∃ u, e = .returned u ∧ PieceAt w' u tt gg rr ∧ Below V.heap.size V w' := fun V hV => (hpi V hV).mono fun e w' hh => by
    obtain ⟨b, c, h1, h2, h3⟩ := hh
    rw [← htt, ← hgg, ← hrr]
    exact ⟨_, h1, ⟨b, c, rfl, h2⟩, h3⟩
  rw [hgg, htt, hrr]
  clear h hok hBa hpi hX hp htt hgg hrr hc
  go_enter Tryd.func9, Tryd.ntmps9
  go_upto_region 1 with fail
  rw [HX.out.1, HX.out.2.1]
  go_upto_region 4 with (go_at_call 14; refine hva.mono ?_; rintro e V ⟨rfl, hV⟩; have HV : Hid (Below w.heap.size w V ∧ Below X.heap.size X V) := ⟨HX.out.2.2.trans (hV.mono HX.out.2.2.size), hV⟩; clear hV hva)
  have hp2 := hpi2 V HV.out.1
  clear hpi2
  go_wp2_with fail
  refine hp2.mono ?_
  clear hp2
  rintro e V2 ⟨u, rfl, hP, hB2⟩
  have HP : Hid (PieceAt V2 u tt gg rr ∧ Below V.heap.size V V2) := ⟨hP, hB2⟩
  have hpl : p < X.heap.size := cell_lt hb0.1
  have hBX : Below X.heap.size X V2 := HV.out.2.trans (hB2.mono HV.out.2.size)
  have d0 := (hBX.cell (p := ⟨p, 0, none⟩) hpl).trans hb0.1
  have d1 := (hBX.frozen (p := ⟨p, 0, none⟩) hpl).trans hb0.2
  obtain ⟨b, c', rfl, e0, e1, e2⟩ := hP
  have hbX : b ≠ p ∨ b = p := by omega
  have hbp : b ≠ p := by
    intro e
    rw [e, d0] at e0
    cases e0
  have hset : ∀ j u, V2.cell? ⟨b, j, none⟩ = some u → (V2.setCell ⟨p, 0, none⟩ (.slice (some ⟨b, 0, none⟩) 1 c')).cell? ⟨b, j, none⟩ = some u := fun j u hu => (World.cell?_setCell_other _ _ _ _ (fun e => hbp (by cases e; rfl))).trans hu
  have hsp : (V2.setCell ⟨p, 0, none⟩ (.slice (some ⟨b, 0, none⟩) 1 c')).cell? ⟨p, 0, none⟩ = some (.slice (some ⟨b, 0, none⟩) 1 c') := World.cell?_setCell_same' _ _ _ (by rw [d0]; rfl)
  have HE : Hid (PieceAt (V2.setCell ⟨p, 0, none⟩ (.slice (some ⟨b, 0, none⟩) 1 c')) (.slice (some ⟨b, 0, none⟩) 1 c') tt gg rr ∧ Below w.heap.size w (V2.setCell ⟨p, 0, none⟩ (.slice (some ⟨b, 0, none⟩) 1 c'))) := by
    have h1 : Below w.heap.size w V2 := HV.out.1.trans (HP.out.2.mono HV.out.1.size)
    exact ⟨⟨b, c', rfl, hset _ _ e0, hset _ _ e1, hset _ _ e2⟩, h1.grown (grown_at V2 ⟨p, 0, none⟩ _) h1.size (fun b e => by cases e; rw [HX.out.2.1]; exact Nat.le_refl _)⟩
  clear hset e0 e1 e2 hbX hB2 hBX
  go_wp2_with fail
  refine bodyPost_ret (v := .tuple #[.agg #[.slice (some ⟨b, 0, none⟩) 1 c'], .nilIface]) ?_ rfl ⟨_, rfl, HE.out.1, HE.out.2⟩
  simp [results, Tryd.f9, go_sem, hsp]

theorem new_app (V : World) (A B : Array Value) (t : TypeId) (j : Nat) (u : Value) (h : A[j]? = some u) : (V.alloc (.cells (A ++ B) t)).cell? ⟨V.heap.size, j, none⟩ = some u := by
  have hg : (V.alloc (.cells (A ++ B) t)).heap[V.heap.size]? = some (.cells (A ++ B) t) := (Go.MapKept.heap_alloc V _).1
  simp only [World.cell?, hg]
  rw [Array.getElem?_append_left (Array.getElem?_eq_some_iff.1 h).1]
  exact h

theorem Tryd.infopr : (Tryd.prog.info? 23).map (fun i => (i.zero, i.size, i.bytes)) = some (some (.agg #[.bool false, .int .i64 0, .int .i64 0]), 3, 24) := by kernel_rfl

set_option maxRecDepth 100000 in
set_option maxHeartbeats 1000000 in
theorem law_pieces (u : Value) (t : Bool) (g r : Int) (w : World) (h : PieceAt w u t g r) :
    Calls Tryd.prog 11 #[.agg #[u]] w fun e w' => ∃ v, e = .returned v ∧ PieceAt w' v t g r ∧ Below w.heap.size w w' := by
  obtain ⟨i0, hi0, hz0, hz1, hz2⟩ := info_parts Tryd.infopr
  obtain ⟨b, c, rfl, h0, h1, h2⟩ := h
  have hbl : b < w.heap.size := cell_lt h0
  have hB : Below w.heap.size w (w.alloc (.cells #[.slice (some ⟨b, 0, none⟩) 1 c] 37)) := (Below.refl _ w).alloc (Nat.le_refl _) _
  have x0 := (hB.cell (p := ⟨b, 0, none⟩) hbl).trans h0
  have x1 := (hB.cell (p := ⟨b, 1, none⟩) hbl).trans h1
  have x2 := (hB.cell (p := ⟨b, 2, none⟩) hbl).trans h2
  have y0 := cells_new w [.slice (some ⟨b, 0, none⟩) 1 c] 37 0 _ rfl
  rw [Addr.add_lit, Nat.zero_add] at y0
  obtain ⟨X, hX⟩ : ∃ X, w.alloc (.cells #[.slice (some ⟨b, 0, none⟩) 1 c] 37) = X := ⟨_, rfl⟩
  obtain ⟨p, hp⟩ : ∃ p, w.heap.size = p := ⟨_, rfl⟩
  have HX : Hid (w.alloc (.cells #[.slice (some ⟨b, 0, none⟩) 1 c] 37) = X ∧ w.heap.size = p ∧ Below w.heap.size w X) := ⟨hX, hp, by rw [← hX]; exact hB⟩
  have y0' : X.cell? ⟨p, 0, none⟩ = some (.slice (some ⟨b, 0, none⟩) 1 c) := by rw [← hX, ← hp]; exact y0
  rw [hX] at x0 x1 x2
  clear hB hX hp h0 h1 h2 y0
  go_enter Tryd.func11, Tryd.ntmps11
  go_upto_region 1 with fail
  rw [HX.out.1, HX.out.2.1]
  go_wp2_with fail
  go_loopw [3, 4] (fun v q W => (v = .slice none 0 0 ∧ q = .int .i64 0 ∧ W = X) ∨ (q = .int .i64 1 ∧ Hid (PieceAt W v t g r ∧ Below w.heap.size w W ∧ W.cell? ⟨p, 0, none⟩ = some (.slice (some ⟨b, 0, none⟩) 1 c)))) (fun _ q _ => 1 - (intOf q).toNat)
  case atStart => exact .inl ⟨rfl, rfl, rfl⟩
  case round =>
    obtain ⟨rfl, rfl, rfl⟩ | ⟨rfl, HK⟩ := hrel
    · go_wp2_with fail
      go_roundw
      case rel =>
        refine .inr ⟨by go_num, ?_⟩
        have key := new_app ((wr.alloc (.cells #[.bool t, .int .i64 g, .int .i64 r] 30)).alloc (.cells #[.bool t, .int .i64 g, .int .i64 r] 23)) #[.bool t, .int .i64 g, .int .i64 r] (Builtin.zeroCells #[.bool false, .int .i64 0, .int .i64 0] ((Question.appendCap 1 0 23).cut (wr.tape wr.drawn (Question.appendCap 1 0 23)) - 1)) 23
        rw [World.size_alloc, World.size_alloc] at key
        have hBB : Below wr.heap.size wr (((wr.alloc (.cells #[.bool t, .int .i64 g, .int .i64 r] 30)).alloc (.cells #[.bool t, .int .i64 g, .int .i64 r] 23)).alloc (.cells (#[.bool t, .int .i64 g, .int .i64 r] ++ Builtin.zeroCells #[.bool false, .int .i64 0, .int .i64 0] ((Question.appendCap 1 0 23).cut (wr.tape wr.drawn (Question.appendCap 1 0 23)) - 1)) 23)).drew := ((((Below.refl _ wr).alloc (Nat.le_refl _) _).alloc (by simp) _).alloc (by simp; omega) _).drew
        exact ⟨⟨_, _, rfl, key 0 _ rfl, key 1 _ rfl, key 2 _ rfl⟩, HX.out.2.2.trans (hBB.mono HX.out.2.2.size), (hBB.cell (p := ⟨p, 0, none⟩) (cell_lt y0')).trans y0'⟩
      case measure => simp [intOf]
    · have z0 := HK.out.2.2
      obtain ⟨b5, c5, rfl, -⟩ := HK.out.1
      go_wp2_with fail
      go_ret
      exact ⟨_, rfl, HK.out.1, HK.out.2.1⟩

set_option maxRecDepth 100000 in
set_option maxHeartbeats 1000000 in
theorem same_one (u v : Value) (t : Bool) (g r : Int) (w : World) (h : PieceAt w u t g r) (h' : PieceAt w v t g r) :
    Calls Tryd.prog 10 #[u, v] w fun e w' => e = .returned (.bool true) ∧ Below w.heap.size w w' := by
  obtain ⟨b, c, rfl, h0, h1, h2⟩ := h
  obtain ⟨b', c', rfl, k0, k1, k2⟩ := h'
  go_enter Tryd.func10, Tryd.ntmps10
  go_wp2_with fail
  go_loopw [5] (fun q W => (q = .int .i64 0 ∧ W = w) ∨ (q = .int .i64 1 ∧ Hid (Below w.heap.size w W))) (fun q _ => 1 - (intOf q).toNat)
  case atStart => exact .inl ⟨rfl, rfl⟩
  case round =>
    obtain ⟨rfl, rfl⟩ | ⟨rfl, HK⟩ := hrel
    · go_wp2_with fail
      go_region
      all_goals go_wp2_with fail
      all_goals go_roundw
      all_goals first
        | exact .inr ⟨by go_num, (Below.refl _ _).drew⟩
        | simp [intOf]
    · go_wp2_with fail
      go_ret
      exact ⟨rfl, HK.out⟩

end Go.Proofs.YtkaplnjknobdpaaDoor
