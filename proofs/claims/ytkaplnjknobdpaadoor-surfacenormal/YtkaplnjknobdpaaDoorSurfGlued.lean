/- What glued answers, of one good word: the edges, and what is one thing once the sides are glued. -/
import Derived.Test.YtkaplnjknobdpaaDoorSurfGlue
namespace Go.Proofs.YtkaplnjknobdpaaDoor
open Go.RowKit Go.Sort

/-- What the x-th name joins. -/
def cornJ (ws : List Int) (x : Nat) : List (Nat × Nat) := match rowN ws x with
  | [i, j] => [(frI ws i, frI ws j), (toI ws i, toI ws j)]
  | _ => []
def rimJ (ws : List Int) (x : Nat) : List (Nat × Nat) := match rowN ws x with
  | [i, j] => [(frI ws i, frI ws j), (toI ws i, toI ws j)]
  | [i] => [(frI ws i, toI ws i)]
  | _ => []
def faceJ (ws : List Int) (x : Nat) : List (Nat × Nat) := match rowN ws x with
  | [i, j] => [(0, if ltI ws i = ltI ws j then 1 else 0), (1, if ltI ws i = ltI ws j then 0 else 1)]
  | _ => []
def wordJ (ws : List Int) (x : Nat) : List (Nat × Nat) := match rowN ws x with
  | [_, _] => [(0, 0)]
  | _ => []
/-- All that the first x names join. -/
def upJ (J : Nat → List (Nat × Nat)) (x : Nat) : List (Nat × Nat) := (List.range x).flatMap J
theorem upJ_succ (J : Nat → List (Nat × Nat)) (x : Nat) : upJ J (x + 1) = upJ J x ++ J x := by simp [upJ, List.range_succ]
theorem joinAll_app (J K : List (Nat × Nat)) : joinAll (J ++ K) = K.foldl joinC (joinAll J) := by unfold joinAll; rw [List.foldl_append]

theorem frI_lt {ws : List Int} (h : 0 < ws.length) {k : Nat} (hk : k < ws.length) : frI ws k < ws.length := by
  unfold frI
  split
  · exact Nat.mod_lt _ h
  · exact hk
theorem toI_lt {ws : List Int} (h : 0 < ws.length) {k : Nat} (hk : k < ws.length) : toI ws k < ws.length := by
  unfold toI
  split
  · exact hk
  · exact Nat.mod_lt _ h
theorem rowN_lt {ws : List Int} {x k : Nat} (hk : k ∈ rowN ws x) : k < ws.length := List.mem_range.1 (List.mem_filter.1 hk).1
theorem places_times (ws : List Int) (name : Nat) : (placesI ws ws.length name).length = (ws.filter fun l => l.natAbs == name).length := by
  have key : ∀ m, m ≤ ws.length → (placesI ws m name).length = timesI ws m name := by
    intro m
    induction m with
    | zero => intro _; rfl
    | succ m ih =>
      intro hm
      have hm' : m < ws.length := hm
      have e : ltI ws m = ws[m] := by unfold ltI; rw [List.getElem?_eq_getElem hm']; rfl
      rw [placesI_succ, timesI_succ hm', e]
      by_cases h : ws[m].natAbs = name
      · rw [if_pos h, if_pos h.symm, List.length_append, ih (by omega)]; rfl
      · rw [if_neg h, if_neg (fun h' => h h'.symm), ih (by omega)]
  rw [key _ (Nat.le_refl _)]
  unfold timesI
  rw [List.take_length]
theorem rowN_two {ws : List Int} (hok : WordOk ws) {x : Nat} (hx : x < (namesI ws).length) : (∃ i, rowN ws x = [i]) ∨ ∃ i j, rowN ws x = [i, j] := by
  have h1 := rowN_pos hx
  have h2 : (rowN ws x).length ≤ 2 := by rw [rowN_at hx, places_times]; exact hok.twice _
  match h : rowN ws x with
  | [] => rw [h] at h1; simp at h1
  | [i] => exact .inl ⟨i, rfl⟩
  | [i, j] => exact .inr ⟨i, j, rfl⟩
  | i :: j :: k :: l => rw [h] at h2; simp at h2

/-- The plan's four rows when the first x names are glued. -/
def FourJ (W : World) (gw gf gc gr : Nat) (ws : List Int) (x : Nat) : Prop := Four W gw gf gc gr ws.length (joinAll (upJ (wordJ ws) x)) (joinAll (upJ (faceJ ws) x)) (joinAll (upJ (cornJ ws) x)) (joinAll (upJ (rimJ ws) x))

theorem fourJ_two {W : World} {gw gf gc gr : Nat} {ws : List Int} {x i j : Nat} (hr : rowN ws x = [i, j])
    (h : Four W gw gf gc gr ws.length (joinC (joinAll (upJ (wordJ ws) x)) (0, 0)) (joinC (joinC (joinAll (upJ (faceJ ws) x)) (0, if ltI ws i = ltI ws j then 1 else 0)) (1, if ltI ws i = ltI ws j then 0 else 1)) (joinC (joinC (joinAll (upJ (cornJ ws) x)) (frI ws i, frI ws j)) (toI ws i, toI ws j)) (joinC (joinC (joinAll (upJ (rimJ ws) x)) (frI ws i, frI ws j)) (toI ws i, toI ws j))) :
    FourJ W gw gf gc gr ws (x + 1) := by
  have e1 : wordJ ws x = [(0, 0)] := by unfold wordJ; rw [hr]
  have e2 : faceJ ws x = [(0, if ltI ws i = ltI ws j then 1 else 0), (1, if ltI ws i = ltI ws j then 0 else 1)] := by unfold faceJ; rw [hr]
  have e3 : cornJ ws x = [(frI ws i, frI ws j), (toI ws i, toI ws j)] := by unfold cornJ; rw [hr]
  have e4 : rimJ ws x = [(frI ws i, frI ws j), (toI ws i, toI ws j)] := by unfold rimJ; rw [hr]
  unfold FourJ
  rw [upJ_succ, upJ_succ, upJ_succ, upJ_succ, joinAll_app, joinAll_app, joinAll_app, joinAll_app, e1, e2, e3, e4]
  exact h
theorem fourJ_one {W : World} {gw gf gc gr : Nat} {ws : List Int} {x i : Nat} (hr : rowN ws x = [i])
    (h : Four W gw gf gc gr ws.length (joinAll (upJ (wordJ ws) x)) (joinAll (upJ (faceJ ws) x)) (joinAll (upJ (cornJ ws) x)) (joinC (joinAll (upJ (rimJ ws) x)) (frI ws i, toI ws i))) :
    FourJ W gw gf gc gr ws (x + 1) := by
  have e1 : wordJ ws x = [] := by unfold wordJ; rw [hr]
  have e2 : faceJ ws x = [] := by unfold faceJ; rw [hr]
  have e3 : cornJ ws x = [] := by unfold cornJ; rw [hr]
  have e4 : rimJ ws x = [(frI ws i, toI ws i)] := by unfold rimJ; rw [hr]
  unfold FourJ
  rw [upJ_succ, upJ_succ, upJ_succ, upJ_succ, joinAll_app, joinAll_app, joinAll_app, joinAll_app, e1, e2, e3, e4]
  exact h

theorem EdgesIn.mono {S S' : Nat → Prop} {W : World} {g : Nat} {ws : List Int} (h : EdgesIn S W g ws) (hs : ∀ b, S b → S' b) : EdgesIn S' W g ws :=
  ⟨hs g h.1, fun x hx => by obtain ⟨b, c, h1, h2, h3⟩ := h.2 x hx; exact ⟨b, c, hs b h1, h2, h3⟩⟩

/-- Five cells that are stored. -/
theorem five_cells {W : World} {B : Nat} (v0 v1 v2 v3 v4 : Value) (h : ∀ j, j < 5 → (W.cell? ⟨B, j, none⟩).isSome = true) :
    ∀ j u, [v0, v1, v2, v3, v4][j]? = some u → (((((W.setCell ⟨B, 0, none⟩ v0).setCell ⟨B, 1, none⟩ v1).setCell ⟨B, 2, none⟩ v2).setCell ⟨B, 3, none⟩ v3).setCell ⟨B, 4, none⟩ v4).cell? ⟨B, j, none⟩ = some u := by
  have ne : ∀ {i j : Nat}, i ≠ j → (⟨B, i, none⟩ : Addr) ≠ ⟨B, j, none⟩ := fun h e => h (by cases e; rfl)
  intro j u hu
  have hj : j < 5 := by simpa using (List.getElem?_eq_some_iff.1 hu).1
  have hc : j = 0 ∨ j = 1 ∨ j = 2 ∨ j = 3 ∨ j = 4 := by omega
  rcases hc with rfl | rfl | rfl | rfl | rfl <;> cases hu
  · rw [World.cell?_setCell_other _ _ _ _ (ne (by decide)), World.cell?_setCell_other _ _ _ _ (ne (by decide)), World.cell?_setCell_other _ _ _ _ (ne (by decide)), World.cell?_setCell_other _ _ _ _ (ne (by decide))]
    exact World.cell?_setCell_same' _ _ _ (h 0 (by omega))
  · rw [World.cell?_setCell_other _ _ _ _ (ne (by decide)), World.cell?_setCell_other _ _ _ _ (ne (by decide)), World.cell?_setCell_other _ _ _ _ (ne (by decide))]
    exact World.cell?_setCell_same' _ _ _ (by rw [World.cell?_setCell_other _ _ _ _ (ne (by decide))]; exact h 1 (by omega))
  · rw [World.cell?_setCell_other _ _ _ _ (ne (by decide)), World.cell?_setCell_other _ _ _ _ (ne (by decide))]
    exact World.cell?_setCell_same' _ _ _ (by rw [World.cell?_setCell_other _ _ _ _ (ne (by decide)), World.cell?_setCell_other _ _ _ _ (ne (by decide))]; exact h 2 (by omega))
  · rw [World.cell?_setCell_other _ _ _ _ (ne (by decide))]
    exact World.cell?_setCell_same' _ _ _ (by rw [World.cell?_setCell_other _ _ _ _ (ne (by decide)), World.cell?_setCell_other _ _ _ _ (ne (by decide)), World.cell?_setCell_other _ _ _ _ (ne (by decide))]; exact h 3 (by omega))
  · exact World.cell?_setCell_same' _ _ _ (by rw [World.cell?_setCell_other _ _ _ _ (ne (by decide)), World.cell?_setCell_other _ _ _ _ (ne (by decide)), World.cell?_setCell_other _ _ _ _ (ne (by decide)), World.cell?_setCell_other _ _ _ _ (ne (by decide))]; exact h 4 (by omega))
theorem KeepS.set {S : Nat → Prop} {W0 W : World} (h : KeepS S W0 W) (p : Addr) (v : Value) (hs : S p.block) : KeepS S W0 (W.setCell p v) := by
  have hg := grown_at W p v
  exact ⟨hg.os.trans h.os, hg.tape.trans h.tape, hg.output.trans h.output, Nat.le_trans h.size hg.size, fun b hb hn => (hg.block b (Nat.lt_of_lt_of_le hb h.size) (fun e => by cases e; exact hn hs)).trans (h.block b hb hn)⟩
theorem five_keeps (W : World) (B : Nat) (v0 v1 v2 v3 v4 : Value) : KeepS (fun b => b = B) W (((((W.setCell ⟨B, 0, none⟩ v0).setCell ⟨B, 1, none⟩ v1).setCell ⟨B, 2, none⟩ v2).setCell ⟨B, 3, none⟩ v3).setCell ⟨B, 4, none⟩ v4) :=
  (((((KeepS.refl (fun b => b = B) W).set ⟨B, 0, none⟩ v0 rfl).set ⟨B, 1, none⟩ v1 rfl).set ⟨B, 2, none⟩ v2 rfl).set ⟨B, 3, none⟩ v3 rfl).set ⟨B, 4, none⟩ v4 rfl

/-- What glued answers. -/
structure GluedAt (B : Nat) (W : World) (ws : List Int) (ge gw gf gc gr : Nat) : Prop where
  four : FourJ W gw gf gc gr ws (namesI ws).length
  edges : EdgesIn (fun b => B ≤ b ∧ b < W.heap.size ∧ ¬ fourS gw gf gc gr b) W ge ws
  apart : gw ≠ gf ∧ gw ≠ gc ∧ gw ≠ gr ∧ gf ≠ gc ∧ gf ≠ gr ∧ gc ≠ gr
  old : B ≤ gw ∧ B ≤ gf ∧ B ≤ gc ∧ B ≤ gr

set_option maxRecDepth 100000 in
set_option maxHeartbeats 4000000 in
theorem glued_ {ws : List Int} (v : Value) (w : World) (h : Rows w v [ws]) (hok : WordOk ws) :
    Calls Tryd.prog 21 #[v] w fun e w' => ∃ ge gw gf gc gr, e = .returned (planV ge (namesI ws).length gw gf gc gr ws.length) ∧ GluedAt w.heap.size w' ws ge gw gf gc gr ∧ Below w.heap.size w w' := by
  have hBa : Below w.heap.size w (w.alloc (.cells #[.slice none 0 0, .slice none 0 0, .slice none 0 0, .slice none 0 0, .slice none 0 0] 65)) := (Below.refl _ w).alloc (Nat.le_refl _) _
  have HH : Hid (Rows w v [ws] ∧ WordOk ws) := ⟨h, hok⟩
  have hle := letters_ v _ (h.below hBa) hok.few
  have hed := edges_ v _ (h.below hBa) hok
  obtain ⟨g, o, cap, a, c, rfl, hc, -⟩ := one_word h
  obtain ⟨n, hn⟩ : ∃ n, ws.length = n := ⟨_, rfl⟩
  obtain ⟨E, hE⟩ : ∃ E, (namesI ws).length = E := ⟨_, rfl⟩
  have HN : Hid (ws.length = n ∧ (namesI ws).length = E) := ⟨hn, hE⟩
  have hn1 : n ≤ 120 := by rw [← hn]; exact hok.few
  have hE1 : E ≤ 61 := by
    rw [← hE]
    unfold namesI kpS
    refine Nat.le_trans (List.length_filter_le _ _) ?_
    rw [List.length_range]; exact Nat.le_refl _
  rw [hn] at hle
  rw [hE] at hed
  have hc1 := new_classes 1 (by omega)
  have hc2 := new_classes 2 (by omega)
  have hcn := new_classes n (by omega)
  rw [show ((1 : Nat) : Int) = 1 from rfl] at hc1
  rw [show ((2 : Nat) : Int) = 2 from rfl] at hc2
  have hr0 := fun j (hj : j < 5) => cells_new w [.slice none 0 0, .slice none 0 0, .slice none 0 0, .slice none 0 0, .slice none 0 0] 65 j (.slice none 0 0) (by
    have : j = 0 ∨ j = 1 ∨ j = 2 ∨ j = 3 ∨ j = 4 := by omega
    rcases this with rfl | rfl | rfl | rfl | rfl <;> rfl)
  have hf0 : ∀ j, (w.alloc (.cells #[.slice none 0 0, .slice none 0 0, .slice none 0 0, .slice none 0 0, .slice none 0 0] 65)).frozen? ⟨w.heap.size, j, none⟩ = false := fun j => by
    have hg : (w.alloc (.cells #[.slice none 0 0, .slice none 0 0, .slice none 0 0, .slice none 0 0, .slice none 0 0] 65)).heap[w.heap.size]? = some (.cells #[.slice none 0 0, .slice none 0 0, .slice none 0 0, .slice none 0 0, .slice none 0 0] 65) := (Go.MapKept.heap_alloc w _).1
    simp only [World.frozen?, hg]
    simp
  clear h hok hn hE
  go_enter Tryd.func21, Tryd.ntmps21
  go_upto_region 2 with (go_at_call 18; refine hle.mono ?_; rintro e V ⟨rfl, rfl⟩; clear hle)
  obtain ⟨X0, hX0⟩ : ∃ X0, w.alloc (.cells #[.slice none 0 0, .slice none 0 0, .slice none 0 0, .slice none 0 0, .slice none 0 0] 65) = X0 := ⟨_, rfl⟩
  obtain ⟨r0, hr0e⟩ : ∃ r0, w.heap.size = r0 := ⟨_, rfl⟩
  have HZ : Hid (X0.heap.size = r0 + 1 ∧ w.heap.size = r0) := by rw [← hX0, ← hr0e]; exact ⟨by simp, rfl⟩
  have HR0 : Hid ((∀ j, j < 5 → X0.cell? ⟨r0, j, none⟩ = some (.slice none 0 0)) ∧ ∀ j, X0.frozen? ⟨r0, j, none⟩ = false) := by
    rw [← hX0, ← hr0e]
    exact ⟨fun j hj => by have := hr0 j hj; rwa [Addr.add_lit, Nat.zero_add] at this, hf0⟩
  rw [hX0] at hed hBa
  rw [hX0, hr0e]
  have HB0 : Hid (Below w.heap.size w X0) := hBa
  clear hX0 hr0e hr0 hf0 hBa hc
  go_wp2_with fail
  refine hed.mono ?_
  clear hed
  rintro e V1 ⟨ge, rfl, hE1, hB1⟩
  have HE1 := Hid.mk' hE1
  have HB1 := Hid.mk' hB1
  clear hE1 hB1
  go_wp2_with fail
  refine (hc1 V1).mono ?_
  clear hc1
  rintro e V2 ⟨gw, rfl, hw2, hg2, hB2⟩
  have H2 : Hid (ClsAt V2 gw 1 (joinAll []) ∧ V1.heap.size ≤ gw ∧ Below V1.heap.size V1 V2) := ⟨hw2, hg2, hB2⟩
  clear hw2 hg2 hB2
  go_wp2_with fail
  refine (hc2 V2).mono ?_
  clear hc2
  rintro e V3 ⟨gf, rfl, hw3, hg3, hB3⟩
  have H3 : Hid (ClsAt V3 gf 2 (joinAll []) ∧ V2.heap.size ≤ gf ∧ Below V2.heap.size V2 V3) := ⟨hw3, hg3, hB3⟩
  clear hw3 hg3 hB3
  go_wp2_with fail
  refine (hcn V3).mono ?_
  rintro e V4 ⟨gc, rfl, hw4, hg4, hB4⟩
  have H4 : Hid (ClsAt V4 gc n (joinAll []) ∧ V3.heap.size ≤ gc ∧ Below V3.heap.size V3 V4) := ⟨hw4, hg4, hB4⟩
  clear hw4 hg4 hB4
  go_wp2_with fail
  refine (hcn V4).mono ?_
  clear hcn
  rintro e V5 ⟨gr, rfl, hw5, hg5, hB5⟩
  have H5 : Hid (ClsAt V5 gr n (joinAll []) ∧ V4.heap.size ≤ gr ∧ Below V4.heap.size V4 V5) := ⟨hw5, hg5, hB5⟩
  clear hw5 hg5 hB5
  go_upto_region 3 with fail
  have hBb : Below V5.heap.size V5 (V5.alloc (.cells #[.slice (some ⟨ge, 0, none⟩) E 61, .slice (some ⟨gw, 0, none⟩) 1 1, .slice (some ⟨gf, 0, none⟩) 2 2, .slice (some ⟨gc, 0, none⟩) n n, .slice (some ⟨gr, 0, none⟩) n n] 65)) := (Below.refl _ V5).alloc (Nat.le_refl _) _
  have q5 := cells_new V5 [.slice (some ⟨ge, 0, none⟩) E 61, .slice (some ⟨gw, 0, none⟩) 1 1, .slice (some ⟨gf, 0, none⟩) 2 2, .slice (some ⟨gc, 0, none⟩) n n, .slice (some ⟨gr, 0, none⟩) n n] 65
  obtain ⟨X, hX⟩ : ∃ X, V5.alloc (.cells #[.slice (some ⟨ge, 0, none⟩) E 61, .slice (some ⟨gw, 0, none⟩) 1 1, .slice (some ⟨gf, 0, none⟩) 2 2, .slice (some ⟨gc, 0, none⟩) n n, .slice (some ⟨gr, 0, none⟩) n n] 65) = X := ⟨_, rfl⟩
  obtain ⟨p, hp⟩ : ∃ p, V5.heap.size = p := ⟨_, rfl⟩
  have HP : Hid (∀ j u, [Value.slice (some ⟨ge, 0, none⟩) E 61, .slice (some ⟨gw, 0, none⟩) 1 1, .slice (some ⟨gf, 0, none⟩) 2 2, .slice (some ⟨gc, 0, none⟩) n n, .slice (some ⟨gr, 0, none⟩) n n][j]? = some u → X.cell? ⟨p, j, none⟩ = some u) := fun j u hu => by
    have := q5 j u hu
    rw [Addr.add_lit, Nat.zero_add] at this
    rw [← hX, ← hp]
    exact this
  rw [hX] at hBb ⊢
  have l2 := H2.out.1.lt
  have l3 := H3.out.1.lt
  have l4 := H4.out.1.lt
  have l5 := H5.out.1.lt
  have m2 := H2.out.2.1
  have m3 := H3.out.2.1
  have m4 := H4.out.2.1
  have m5 := H5.out.2.1
  have e1 := HB1.out.size
  have e2 := H2.out.2.2.size
  have e3 := H3.out.2.2.size
  have e4 := H4.out.2.2.size
  have e5 := H5.out.2.2.size
  have e6 := hBb.size
  have eZ := HZ.out
  have HA : Hid ((gw ≠ gf ∧ gw ≠ gc ∧ gw ≠ gr ∧ gf ≠ gc ∧ gf ≠ gr ∧ gc ≠ gr) ∧ (w.heap.size ≤ gw ∧ w.heap.size ≤ gf ∧ w.heap.size ≤ gc ∧ w.heap.size ≤ gr) ∧ ¬ fourS gw gf gc gr p ∧ ¬ fourS gw gf gc gr r0 ∧ p ≠ r0) := by
    refine ⟨⟨?_, ?_, ?_, ?_, ?_, ?_⟩, ⟨?_, ?_, ?_, ?_⟩, ?_, ?_, ?_⟩ <;> (try unfold fourS) <;> omega
  have HX5 : Hid (Below V1.heap.size V1 X) := H2.out.2.2.trans ((H3.out.2.2.trans ((H4.out.2.2.trans ((H5.out.2.2.trans (hBb.mono e5)).mono e4)).mono e3)).mono e2)
  have HXX : Hid (Below w.heap.size w X ∧ Below X0.heap.size X0 X) := ⟨HB0.out.trans ((HB1.out.trans (HX5.out.mono e1)).mono HB0.out.size), HB1.out.trans (HX5.out.mono e1)⟩
  have HE : Hid (EdgesIn (fun b => r0 + 1 ≤ b ∧ b < X.heap.size ∧ ¬ fourS gw gf gc gr b) X ge ws) := by
    refine (HE1.out.keep (W' := X) (fun b hb => HX5.out.block b hb.2)).mono (fun b hb => ⟨?_, ?_, ?_⟩) <;> (try unfold fourS) <;> omega
  have HF : Hid (FourJ X gw gf gc gr ws 0) := by
    show FourJ X gw gf gc gr ws 0
    unfold FourJ
    rw [HN.out.1]
    exact ⟨H2.out.1.below (H3.out.2.2.trans ((H4.out.2.2.trans ((H5.out.2.2.trans (hBb.mono e5)).mono e4)).mono e3)), H3.out.1.below (H4.out.2.2.trans ((H5.out.2.2.trans (hBb.mono e5)).mono e4)), H4.out.1.below (H5.out.2.2.trans (hBb.mono e5)), H5.out.1.below hBb⟩
  rw [hp]
  clear hX hp q5 hBb l2 l3 l4 l5 m2 m3 m4 m5 e1 e2 e3 e4 e5 e6 eZ H2 H3 H4 H5 HE1 HX5
  have p0 := HP.out 0 _ rfl
  go_wp2_with fail
  clear p0
  go_loopw [26] (fun q W => ∃ x : Nat, x ≤ E ∧ q = .int .i64 x ∧ Hid (KeepS (fourS gw gf gc gr) X W ∧ FourJ W gw gf gc gr ws x)) (fun q _ => E - (intOf q).toNat)
  case atStart => exact ⟨0, by omega, rfl, KeepS.refl _ _, HF.out⟩
  case round =>
    obtain ⟨x, hx, rfl, HK⟩ := hrel
    by_cases hxe : x < E
    · have hS := HA.out.2.2
      obtain ⟨b, c', hSb, hcell, hs⟩ := (HE.out.keep (W' := wr) (fun b hb => HK.out.1.block b hb.2.1 hb.2.2)).2 x (by rw [HN.out.2]; exact hxe)
      have pc : ∀ j u, [Value.slice (some ⟨ge, 0, none⟩) E 61, .slice (some ⟨gw, 0, none⟩) 1 1, .slice (some ⟨gf, 0, none⟩) 2 2, .slice (some ⟨gc, 0, none⟩) n n, .slice (some ⟨gr, 0, none⟩) n n][j]? = some u → wr.cell? ⟨p, j, none⟩ = some u := fun j u hu => (HK.out.1.cell (p := ⟨p, j, none⟩) (cell_lt (HP.out j u hu)) hS.1).trans (HP.out j u hu)
      have p0 := pc 0 _ rfl
      have p1 := pc 1 _ rfl
      have p2 := pc 2 _ rfl
      have p3 := pc 3 _ rfl
      have p4 := pc 4 _ rfl
      have hw0 : 0 < ws.length := HH.out.2.some
      have z0 : (0 : Int) ≤ (x : Int) := by omega
      have z1 : (x : Int) < (E : Int) := by omega
      have HFJ : Hid (Four wr gw gf gc gr n (joinAll (upJ (wordJ ws) x)) (joinAll (upJ (faceJ ws) x)) (joinAll (upJ (cornJ ws) x)) (joinAll (upJ (rimJ ws) x))) := by
        have h1 := HK.out.2
        unfold FourJ at h1
        rw [HN.out.1] at h1
        exact h1
      rcases rowN_two HH.out.2 (x := x) (by rw [HN.out.2]; exact hxe) with ⟨i, hr⟩ | ⟨i, j, hr⟩
      · rw [hr] at hcell hs
        obtain ⟨-, -, s2, s3⟩ := hs 0 (by simp)
        rw [show ([i] : List Nat).length = 1 from rfl] at hcell
        rw [List.getElem_cons_zero, Nat.zero_mul, Nat.zero_add] at s2 s3
        have hil : i < ws.length := rowN_lt (x := x) (by rw [hr]; exact List.mem_singleton.2 rfl)
        have hb1 := frI_lt hw0 hil
        have hb2 := toI_lt hw0 hil
        rw [HN.out.1] at hb1 hb2
        have HR : Hid (rowN ws x = [i]) := hr
        have hjn := join_ gr n n (frI ws i) (toI ws i) wr.drew (HFJ.out.rims.of_block rfl) hb1 hb2 (by omega)
        have HUP : Hid (∀ V, ClsAt V gr n (joinC (joinAll (upJ (rimJ ws) x)) (frI ws i, toI ws i)) → KeepBut wr V gr gr → FourJ V gw gf gc gr ws (x + 1) ∧ KeepS (fourS gw gf gc gr) X V) := fun V hc hk => ⟨fourJ_one HR.out (by rw [HN.out.1]; exact ⟨HFJ.out.words.but hk HA.out.1.2.2.1, HFJ.out.faces.but hk HA.out.1.2.2.2.2.1, HFJ.out.corners.but hk HA.out.1.2.2.2.2.2, hc⟩), HK.out.1.but hk (.inr (.inr (.inr rfl)))⟩
        obtain ⟨fi, hfi⟩ : ∃ fi, frI ws i = fi := ⟨_, rfl⟩
        obtain ⟨ti, hti⟩ : ∃ ti, toI ws i = ti := ⟨_, rfl⟩
        rw [hfi, hti] at hjn HUP
        rw [hfi] at s2
        rw [hti] at s3
        clear hr hs pc hSb hfi hti hb1 hb2 hil p0 p1 p2 p3 hS
        go_wp2_with fail
        go_region_with (go_at_call 37; refine hjn.mono ?_; rintro e V2 ⟨rfl, hc2, hk2⟩)
        all_goals go_wp2_with fail
        all_goals go_roundw
        all_goals first
          | (have h9 := HUP.out _ hc2 ⟨hk2.os, hk2.tape, hk2.output, hk2.size, hk2.block⟩; exact ⟨x + 1, by omega, by go_num, h9.2, h9.1⟩)
          | (simp [intOf]; omega)
      · rw [hr] at hcell hs
        obtain ⟨s0, s1, s2, s3⟩ := hs 0 (by simp)
        obtain ⟨t0, t1, t2, t3⟩ := hs 1 (by simp)
        rw [show ([i, j] : List Nat).length = 2 from rfl] at hcell
        rw [List.getElem_cons_zero] at s0 s2 s3
        rw [Nat.zero_mul] at s0 s1 s2 s3
        rw [Nat.zero_add] at s1 s2 s3
        rw [List.getElem_cons_succ, List.getElem_cons_zero] at t0 t2 t3
        rw [Nat.one_mul] at t0 t1 t2 t3
        have hil : i < ws.length := rowN_lt (x := x) (by rw [hr]; exact List.mem_cons_self ..)
        have hjl : j < ws.length := rowN_lt (x := x) (by rw [hr]; exact List.mem_cons_of_mem _ (List.mem_singleton.2 rfl))
        have hb1 := frI_lt hw0 hil
        have hb2 := toI_lt hw0 hil
        have hb3 := frI_lt hw0 hjl
        have hb4 := toI_lt hw0 hjl
        rw [HN.out.1] at hb1 hb2 hb3 hb4
        have HR : Hid (rowN ws x = [i, j]) := hr
        have hgl := glue_ ge E gw gf gc gr n (ltI ws i) (ltI ws j) (frI ws i) (toI ws i) (frI ws j) (toI ws j) wr.drew ⟨HFJ.out.words.of_block rfl, HFJ.out.faces.of_block rfl, HFJ.out.corners.of_block rfl, HFJ.out.rims.of_block rfl⟩ HA.out.1 (by omega) ⟨hb1, hb2, hb3, hb4⟩
        have HUP : Hid (∀ V, Four V gw gf gc gr n (joinC (joinAll (upJ (wordJ ws) x)) (0, 0)) (joinC (joinC (joinAll (upJ (faceJ ws) x)) (0, if ltI ws i = ltI ws j then 1 else 0)) (1, if ltI ws i = ltI ws j then 0 else 1)) (joinC (joinC (joinAll (upJ (cornJ ws) x)) (frI ws i, frI ws j)) (toI ws i, toI ws j)) (joinC (joinC (joinAll (upJ (rimJ ws) x)) (frI ws i, frI ws j)) (toI ws i, toI ws j)) → KeepS (fourS gw gf gc gr) wr V → FourJ V gw gf gc gr ws (x + 1) ∧ KeepS (fourS gw gf gc gr) X V) := fun V hc hk => ⟨fourJ_two HR.out (by rw [HN.out.1]; exact hc), HK.out.1.trans hk⟩
        unfold planV sideV at hgl
        obtain ⟨F4, hF4⟩ : ∃ F4 : World → Prop, F4 = fun V => Four V gw gf gc gr n (joinC (joinAll (upJ (wordJ ws) x)) (0, 0)) (joinC (joinC (joinAll (upJ (faceJ ws) x)) (0, if ltI ws i = ltI ws j then 1 else 0)) (1, if ltI ws i = ltI ws j then 0 else 1)) (joinC (joinC (joinAll (upJ (cornJ ws) x)) (frI ws i, frI ws j)) (toI ws i, toI ws j)) (joinC (joinC (joinAll (upJ (rimJ ws) x)) (frI ws i, frI ws j)) (toI ws i, toI ws j)) := ⟨_, rfl⟩
        have hgl2 : Calls Tryd.prog 36 #[.agg #[.slice (some ⟨ge, 0, none⟩) E 61, .slice (some ⟨gw, 0, none⟩) 1 1, .slice (some ⟨gf, 0, none⟩) 2 2, .slice (some ⟨gc, 0, none⟩) n n, .slice (some ⟨gr, 0, none⟩) n n], .agg #[.int .i64 (ltI ws i), .int .i64 0, .int .i64 (frI ws i : Int), .int .i64 (toI ws i : Int)], .agg #[.int .i64 (ltI ws j), .int .i64 0, .int .i64 (frI ws j : Int), .int .i64 (toI ws j : Int)]] wr.drew fun e w' => e = .returned (.tuple #[]) ∧ F4 w' ∧ KeepS (fourS gw gf gc gr) wr w' := hgl.mono fun e w' hh => ⟨hh.1, by rw [hF4]; exact hh.2.1, ⟨hh.2.2.os, hh.2.2.tape, hh.2.2.output, hh.2.2.size, hh.2.2.block⟩⟩
        have HU2 : Hid (∀ V, F4 V → KeepS (fourS gw gf gc gr) wr V → FourJ V gw gf gc gr ws (x + 1) ∧ KeepS (fourS gw gf gc gr) X V) := fun V h1 h2 => HUP.out V (by rw [hF4] at h1; exact h1) h2
        obtain ⟨fi, hfi⟩ : ∃ fi, frI ws i = fi := ⟨_, rfl⟩
        obtain ⟨ti, hti⟩ : ∃ ti, toI ws i = ti := ⟨_, rfl⟩
        obtain ⟨fj, hfj⟩ : ∃ fj, frI ws j = fj := ⟨_, rfl⟩
        obtain ⟨tj, htj⟩ : ∃ tj, toI ws j = tj := ⟨_, rfl⟩
        obtain ⟨li, hli⟩ : ∃ li, ltI ws i = li := ⟨_, rfl⟩
        obtain ⟨lj, hlj⟩ : ∃ lj, ltI ws j = lj := ⟨_, rfl⟩
        rw [hfi, hti, hfj, htj, hli, hlj] at hgl2
        rw [hli] at s0
        rw [hfi] at s2
        rw [hti] at s3
        rw [hlj] at t0
        rw [hfj] at t2
        rw [htj] at t3
        clear hr hs pc hSb hfi hti hfj htj hli hlj hb1 hb2 hb3 hb4 hil hjl hS hgl HUP hF4
        go_wp2_with fail
        go_region_with (go_at_call 36; refine hgl2.mono ?_; rintro e V2 ⟨rfl, hc2, hk2⟩)
        all_goals go_wp2_with fail
        all_goals go_roundw
        all_goals first
          | (have h9 := HU2.out _ hc2 hk2; exact ⟨x + 1, by omega, by go_num, h9.2, h9.1⟩)
          | (simp [intOf]; omega)
    · obtain rfl : x = E := by omega
      have hS := HA.out.2.2
      have pc : ∀ j u, [Value.slice (some ⟨ge, 0, none⟩) x 61, .slice (some ⟨gw, 0, none⟩) 1 1, .slice (some ⟨gf, 0, none⟩) 2 2, .slice (some ⟨gc, 0, none⟩) n n, .slice (some ⟨gr, 0, none⟩) n n][j]? = some u → wr.cell? ⟨p, j, none⟩ = some u := fun j u hu => (HK.out.1.cell (p := ⟨p, j, none⟩) (cell_lt (HP.out j u hu)) hS.1).trans (HP.out j u hu)
      have p0 := pc 0 _ rfl
      have p1 := pc 1 _ rfl
      have p2 := pc 2 _ rfl
      have p3 := pc 3 _ rfl
      have p4 := pc 4 _ rfl
      have rc : ∀ j, j < 5 → wr.cell? ⟨r0, j, none⟩ = some (.slice none 0 0) := fun j hj => by
        have h1 := HR0.out.1 j hj
        have h2 := (HXX.out.2.cell (p := ⟨r0, j, none⟩) (cell_lt h1)).trans h1
        exact (HK.out.1.cell (p := ⟨r0, j, none⟩) (cell_lt h2) hS.2.1).trans h2
      have rf : ∀ j, wr.frozen? ⟨r0, j, none⟩ = false := fun j => by
        have h1 := HR0.out.1 0 (by omega)
        have h2 := (HXX.out.2.cell (p := ⟨r0, 0, none⟩) (cell_lt h1)).trans h1
        have h3 := (HXX.out.2.frozen (p := ⟨r0, j, none⟩) (show r0 < X0.heap.size from cell_lt h1)).trans (HR0.out.2 j)
        exact (World.frozen?_of_block (HK.out.1.block r0 (cell_lt h2) hS.2.1)).trans h3
      have r0' := rc 0 (by omega)
      have r1' := rc 1 (by omega)
      have r2' := rc 2 (by omega)
      have r3' := rc 3 (by omega)
      have r4' := rc 4 (by omega)
      have f0' := rf 0
      have f1' := rf 1
      have f2' := rf 2
      have f3' := rf 3
      have f4' := rf 4
      have hfp := five_cells (W := wr) (B := r0) (.slice (some ⟨ge, 0, none⟩) x 61) (.slice (some ⟨gw, 0, none⟩) 1 1) (.slice (some ⟨gf, 0, none⟩) 2 2) (.slice (some ⟨gc, 0, none⟩) n n) (.slice (some ⟨gr, 0, none⟩) n n) (fun j hj => by rw [rc j hj]; rfl)
      have hkp := five_keeps wr r0 (.slice (some ⟨ge, 0, none⟩) x 61) (.slice (some ⟨gw, 0, none⟩) 1 1) (.slice (some ⟨gf, 0, none⟩) 2 2) (.slice (some ⟨gc, 0, none⟩) n n) (.slice (some ⟨gr, 0, none⟩) n n)
      have HFP := Hid.mk' hfp
      have HKP := Hid.mk' hkp
      clear pc rc rf hfp hkp
      go_wp2_with fail
      obtain ⟨Z, hZ⟩ : ∃ Z, ((((wr.setCell ⟨r0, 0, none⟩ (.slice (some ⟨ge, 0, none⟩) x 61)).setCell ⟨r0, 1, none⟩ (.slice (some ⟨gw, 0, none⟩) 1 1)).setCell ⟨r0, 2, none⟩ (.slice (some ⟨gf, 0, none⟩) 2 2)).setCell ⟨r0, 3, none⟩ (.slice (some ⟨gc, 0, none⟩) n n)).setCell ⟨r0, 4, none⟩ (.slice (some ⟨gr, 0, none⟩) n n) = Z := ⟨_, rfl⟩
      rw [hZ] at HFP HKP ⊢
      have y0 := HFP.out 0 _ rfl
      have y1 := HFP.out 1 _ rfl
      have y2 := HFP.out 2 _ rfl
      have y3 := HFP.out 3 _ rfl
      have y4 := HFP.out 4 _ rfl
      have hK2 : KeepS (fun b => b = r0) wr Z := HKP.out
      have hfour : FourJ Z gw gf gc gr ws (namesI ws).length := by
        rw [HN.out.2]
        have h1 := HK.out.2
        have hne : ∀ b, fourS gw gf gc gr b → b ≠ r0 := fun b hb e => hS.2.1 (by rw [← e]; exact hb)
        exact ⟨h1.words.of_block (hK2.block _ h1.words.lt (hne _ (.inl rfl))), h1.faces.of_block (hK2.block _ h1.faces.lt (hne _ (.inr (.inl rfl)))), h1.corners.of_block (hK2.block _ h1.corners.lt (hne _ (.inr (.inr (.inl rfl))))), h1.rims.of_block (hK2.block _ h1.rims.lt (hne _ (.inr (.inr (.inr rfl)))))⟩
      have hedg : EdgesIn (fun b => w.heap.size ≤ b ∧ b < Z.heap.size ∧ ¬ fourS gw gf gc gr b) Z ge ws := by
        have hsz := HK.out.1.size
        have hsz2 := hK2.size
        have hz := HZ.out.2
        refine (HE.out.keep (W' := Z) (fun b hb => ?_)).mono (fun b hb => ⟨by omega, by omega, hb.2.2⟩)
        exact (hK2.block b (by omega) (by omega)).trans (HK.out.1.block b hb.2.1 hb.2.2)
      have hbel : Below w.heap.size w Z := by
        have h1 := HXX.out.1
        have hz := HZ.out.2
        refine ⟨hK2.os.trans (HK.out.1.os.trans h1.os), hK2.tape.trans (HK.out.1.tape.trans h1.tape), hK2.output.trans (HK.out.1.output.trans h1.output), Nat.le_trans h1.size (Nat.le_trans HK.out.1.size hK2.size), fun b hb => ?_⟩
        have h2 := HA.out.2.1
        rw [hK2.block b (by have := h1.size; have := HK.out.1.size; omega) (by omega), HK.out.1.block b (by have := h1.size; omega) (by unfold fourS; omega)]
        exact h1.block b hb
      refine bodyPost_ret (v := planV ge x gw gf gc gr n) ?_ rfl ⟨ge, gw, gf, gc, gr, by rw [HN.out.1, HN.out.2], ⟨hfour, hedg, HA.out.1, HA.out.2.1⟩, hbel⟩
      unfold planV
      simp [results, Tryd.f21, go_sem, y0, y1, y2, y3, y4]

end Go.Proofs.YtkaplnjknobdpaaDoor
