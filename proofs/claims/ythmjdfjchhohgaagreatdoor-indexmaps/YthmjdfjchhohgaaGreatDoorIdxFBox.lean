/- Which error a map has: one, told by both sides; what open ends with. What the second law file's faulted answers of an error and of what is wanted. What the walks of IndexMaps share: a fault in its box; an error that faulted knows. -/
import Derived.Test.YthmjdfjchhohgaaGreatDoorIdxMCheck
import Derived.Test.YthmjdfjchhohgaaGreatDoorOrderInv
import Derived.Test.YthmjdfjchhohgaaGreatDoorFault0
import Derived.Test.YthmjdfjchhohgaaGreatDoorCode
import Derived.Test.YthmjdfjchhohgaaGreatDoorTopOf
import Derived.BigQuiet
import Derived.Deep.QuietTactic
namespace Go.Proofs.YthmjdfjchhohgaaGreatDoor
open Go.RowKit Go.Sort Go.Lib

theorem first_of (P : Nat → Prop) : ∀ n : Nat, (∃ i, i < n ∧ P i ∧ ∀ j, j < i → ¬ P j) ∨ ∀ j, j < n → ¬ P j
  | 0 => .inr fun j hj => by omega
  | n + 1 => by
    rcases first_of P n with ⟨i, h1, h2, h3⟩ | h
    · exact .inl ⟨i, by omega, h2, h3⟩
    · by_cases hn : P n
      · exact .inl ⟨n, by omega, hn, h⟩
      · exact .inr fun j hj => by
          by_cases e : j = n
          · subst e; exact hn
          · exact h j (by omega)
theorem mapSays_some (f : List Int) (q L : List (List Int)) (ht : Int → Int) : ∃ c d, MapSays f q L ht c d := by
  rcases first_of (fun i => [f[i]?.getD 0] ∉ q) f.length with ⟨i, h1, h2, h3⟩ | h
  · exact ⟨4, i, .inl ⟨i, h1, rfl, rfl, h2, fun j hj => Classical.byContradiction (h3 j hj)⟩⟩
  · have h' : ∀ j, j < f.length → [f[j]?.getD 0] ∈ q := fun j hj => Classical.byContradiction (h j hj)
    rcases first_of (fun i => ¬ takesP q ht (L[i]?.getD [])) L.length with ⟨i, h1, h2, h3⟩ | h4
    · exact ⟨7, i, .inr ⟨h', .inl ⟨i, h1, rfl, rfl, h2, fun j hj => Classical.byContradiction (h3 j hj)⟩⟩⟩
    · exact ⟨0, -1, .inr ⟨h', .inr ⟨rfl, rfl, fun j hj => Classical.byContradiction (h4 j hj)⟩⟩⟩
theorem mapSays_one {f : List Int} {q L : List (List Int)} {ht : Int → Int} {c d c' d' : Int} (h : MapSays f q L ht c d) (h' : MapSays f q L ht c' d') : c = c' ∧ d = d' := by
  rcases h with ⟨i, h1, rfl, rfl, h2, h3⟩ | ⟨h0, ⟨i, h1, rfl, rfl, h2, h3⟩ | ⟨rfl, rfl, h3⟩⟩ <;> rcases h' with ⟨i', h1', rfl, rfl, h2', h3'⟩ | ⟨h0', ⟨i', h1', rfl, rfl, h2', h3'⟩ | ⟨rfl, rfl, h3'⟩⟩
  · rcases Nat.lt_trichotomy i i' with h | h | h
    · exact absurd (h3' i h) h2
    · subst h; exact ⟨rfl, rfl⟩
    · exact absurd (h3 i' h) h2'
  · exact absurd (h0' i h1) h2
  · exact absurd (h0' i h1) h2
  · exact absurd (h0 i' h1') h2'
  · rcases Nat.lt_trichotomy i i' with h | h | h
    · exact absurd (h3' i h) h2
    · subst h; exact ⟨rfl, rfl⟩
    · exact absurd (h3 i' h) h2'
  · exact absurd (h3' i h1) h2
  · exact absurd (h0 i' h1') h2'
  · exact absurd (h3 i' h1') h2'
  · exact ⟨rfl, rfl⟩

/-- Which error a map has: its number and place. -/
def MapErr (f : List Int) (p q : List (List Int)) (c d : Int) : Prop :=
  (f.length ≠ (vertI p).length ∧ c = 3 ∧ d = -1) ∨ (f.length = (vertI p).length ∧ MapSays f q (numL p) (hiF (vertI p) f) c d)
theorem mapErr_some (f : List Int) (p q : List (List Int)) : ∃ c d, MapErr f p q c d := by
  by_cases h : f.length = (vertI p).length
  · obtain ⟨c, d, h1⟩ := mapSays_some f q (numL p) (hiF (vertI p) f)
    exact ⟨c, d, .inr ⟨h, h1⟩⟩
  · exact ⟨3, -1, .inl ⟨h, rfl, rfl⟩⟩
theorem MapErr.zero {f : List Int} {p q : List (List Int)} {c d : Int} (h : MapErr f p q c d) : 0 ≤ c := by
  rcases h with ⟨-, rfl, -⟩ | ⟨-, ⟨i, -, rfl, -⟩ | ⟨-, ⟨i, -, rfl, -⟩ | ⟨rfl, -⟩⟩⟩ <;> omega
theorem MapErr.len {f : List Int} {p q : List (List Int)} {d : Int} (h : MapErr f p q 0 d) : f.length = (vertI p).length := by
  rcases h with ⟨-, h, -⟩ | ⟨h, -⟩
  · omega
  · exact h

theorem good_num {l p : List (List Int)} (g : Good l p) : allSh p = numL p := allSh_num g.short
theorem good_numLen {l p : List (List Int)} (g : Good l p) : (numL p).length ≤ 600 := by
  rw [← good_num g, (allSh_perm fun x hx => ⟨List.length_pos_iff.2 (face_ok_of g hx).1.1, g.short x hx⟩).length_eq]
  exact g.length
theorem good_numIn {l p : List (List Int)} (g : Good l p) : ∀ x ∈ numL p, x ≠ [] ∧ x.length ≤ 7 ∧ (∀ v ∈ x, 0 ≤ v ∧ v ≤ 99) ∧ Rising x ∧ ∀ u ∈ x, u ∈ vertI p := fun x hx => by
  have hx' : x ∈ p := (numTo_mem.1 hx).1
  have hv : ∀ u ∈ x, u ∈ vertI p := fun u hu => vertI_mem.2 (g.sub hx' (List.singleton_sublist.2 hu) (by simp))
  exact ⟨(face_ok_of g hx').1.1, g.short x hx', fun v hv' => verts_in g v (hv v hv'), g.rising x hx', hv⟩
theorem map_hgt {l p : List (List Int)} (g : Good l p) (f : List Int) {x : List Int} (hx : x ∈ numL p) : x.map (hgt (vertI p) f) = x.map (hiF (vertI p) f) :=
  List.map_congr_left fun u hu => hgt_hiF ((good_numIn g x hx).2.2.1 u hu).1
theorem takes_hgt {l p q : List (List Int)} (g : Good l p) (f : List Int) {x : List Int} (hx : x ∈ numL p) : takesP q (hgt (vertI p) f) x ↔ takesP q (hiF (vertI p) f) x := by
  unfold takesP
  rw [map_hgt g f hx]
theorem fix_hgt {l p : List (List Int)} (g : Good l p) (f : List Int) {x : List Int} (hx : x ∈ numL p) : fixB (hgt (vertI p) f) x = fixB (hiF (vertI p) f) x := by
  unfold fixB
  rw [map_hgt g f hx]

/-- What open ends with, where both are complexes. -/
theorem open_end {a : Nat → Addr} {s : Nat → ByteArray} {la lb p q : List (List Int)} {f : List Int} {c d : Int} (va vb vf : Value) (w : World) (hE : Errs a s w) (hla : Rows w va la) (hlla : la.length ≤ 100000) (hlea : ∀ x ∈ la, x.length ≤ 1000) (hg : Good la p)
    (hlb : Rows w vb lb) (hllb : lb.length ≤ 100000) (hleb : ∀ x ∈ lb, x.length ≤ 1000) (hgb : Good lb q) (hf : Ints w vf f) (hfl : f.length ≤ 1000) (hm : MapErr f p q c d) :
    Calls Tryz.prog 45 #[.agg #[va], .agg #[vb], vf] w fun e w' => OpenEnd a c d (fun k => hiF (vertI p) f (k : Int)) (numL p) w e w' := by
  rcases hm with ⟨hne, rfl, rfl⟩ | ⟨hne, hs⟩
  · refine (mopen_len va vb vf la lb f w hE hla hlla hlea hg hlb hllb hleb hgb hf hfl hne (by have := verts_len hg; omega)).mono fun e w' ⟨h1, h2⟩ => ⟨h2, .inl ⟨by omega, _, h1, 2, by omega, rfl, .inl ⟨rfl, rfl⟩⟩⟩
  · refine (mopen_good va vb vf la lb f w hE hla hlla hlea hg hlb hllb hleb hgb hf hfl hne).mono fun e w' ⟨hB, h⟩ => ⟨hB, ?_⟩
    rw [good_num hg] at h
    have htk : ∀ j, j < (numL p).length → (takesP q (hgt (vertI p) f) ((numL p)[j]?.getD []) ↔ takesP q (hiF (vertI p) f) ((numL p)[j]?.getD [])) := fun j hj => takes_hgt hg f (by rw [List.getElem?_eq_getElem hj]; exact List.getElem_mem _)
    rcases h with ⟨i, ⟨h1, h2, h3⟩, ve, he, hfa⟩ | ⟨h0, ⟨i, ⟨h1, h2, h3⟩, ve, he, hfa⟩ | ⟨h3, v, he, hmi⟩⟩
    · obtain ⟨rfl, rfl⟩ := mapSays_one hs (.inl ⟨i, h1, rfl, rfl, h2, h3⟩)
      exact .inl ⟨by omega, ve, he, 3, by omega, rfl, .inr hfa⟩
    · obtain ⟨rfl, rfl⟩ := mapSays_one hs (.inr ⟨h0, .inl ⟨i, h1, rfl, rfl, fun h => h2 ((htk i h1).2 h), fun j hj => (htk j (by omega)).1 (h3 j hj)⟩⟩)
      exact .inl ⟨by omega, ve, he, 6, by omega, rfl, .inr hfa⟩
    · obtain ⟨rfl, rfl⟩ := mapSays_one hs (.inr ⟨h0, .inr ⟨rfl, rfl, fun j hj => (htk j hj).1 (h3 j hj)⟩⟩)
      exact .inr ⟨rfl, v, he, hmi⟩
theorem open_bad1 {a : Nat → Addr} {s : Nat → ByteArray} {la : List (List Int)} {i : Nat} (va vb vf : Value) (w : World) (hE : Errs a s w) (hla : Rows w va la) (hlla : la.length ≤ 100000) (hlea : ∀ x ∈ la, x.length ≤ 1000) (hb : BadAt la i) (F : Nat → Int) (L : List (List Int)) :
    Calls Tryz.prog 45 #[.agg #[va], .agg #[vb], vf] w fun e w' => OpenEnd a ((i : Int) + 1) (-1) F L w e w' :=
  (mopen_bad va vb vf la i w hE hla hlla hlea hb).mono fun e w' ⟨h1, h2⟩ => ⟨h2, .inl ⟨by omega, _, h1, i, hb.lt, rfl, .inl ⟨rfl, rfl⟩⟩⟩
theorem open_bad2 {a : Nat → Addr} {s : Nat → ByteArray} {la lb p : List (List Int)} {i : Nat} (va vb vf : Value) (w : World) (hE : Errs a s w) (hla : Rows w va la) (hlla : la.length ≤ 100000) (hlea : ∀ x ∈ la, x.length ≤ 1000) (hg : Good la p)
    (hlb : Rows w vb lb) (hllb : lb.length ≤ 100000) (hleb : ∀ x ∈ lb, x.length ≤ 1000) (hb : BadAt lb i) (F : Nat → Int) (L : List (List Int)) :
    Calls Tryz.prog 45 #[.agg #[va], .agg #[vb], vf] w fun e w' => OpenEnd a ((i : Int) + 1) (-1) F L w e w' :=
  (mopen_bad2 va vb vf la lb i w hE hla hlla hlea hg hlb hllb hleb hb).mono fun e w' ⟨h1, h2⟩ => ⟨h2, .inl ⟨by omega, _, h1, i, hb.lt, rfl, .inl ⟨rfl, rfl⟩⟩⟩

/-- What the reference's MapFault answers. -/
theorem fault_of {la p q : List (List Int)} {f : List Int} {c d : Int} (va vb vf : Value) (w : World) (hg : Good la p) (ha : Rows w va p) (hb : Rows w vb q) (hql : q.length ≤ 600) (hq7 : ∀ x ∈ q, x.length ≤ 7) (hf : Ints w vf f) (hfl : f.length ≤ 1000) (hm : MapErr f p q c d) :
    Calls Tryz.prog 17 #[va, vb, vf] w fun e w' => e = .returned (.agg #[.int .i64 c, .int .i64 d]) ∧ Below w.heap.size w w' := by
  rcases hm with ⟨hne, rfl, rfl⟩ | ⟨hne, hs⟩
  · exact map_fault_len va vb vf p f w ha hg.length hf hfl hne
  · have hnd : (vertI p).Nodup := rising_nodup (vertI_rising hg.isAll.order)
    refine (map_fault (ht := hiF (vertI p) f) (L := numL p) va vb vf p f w ha hg.length hb hql hq7 hf hfl hne (good_numLen hg) (fun x hx => (good_numIn hg x hx).2.1)
      (fun W hB => numbered_ va p W (ha.below hB) hg.length hg.short (order_nodup hg.isAll.order))
      (fun W vx x hB hx hix => (image_of va vf vx p f x W (ha.below hB) hg.length (hf.below hB) hfl hix (good_numIn hg x hx).2.1 hne hnd (good_numIn hg x hx).2.2.2.2).mono fun e w' ⟨v, h1, h2, h3⟩ => ⟨v, h1, h2.mono fun _ _ _ => trivial, h3⟩)).mono fun e w' ⟨⟨c', d', h1, h2⟩, h3⟩ => ?_
    obtain ⟨rfl, rfl⟩ := mapSays_one hs h2
    exact ⟨h1, h3⟩

end Go.Proofs.YthmjdfjchhohgaaGreatDoor

namespace Go.Proofs.YthmjdfjchhohgaaGreatDoor
open Go.RowKit Go.Sort

set_option maxRecDepth 100000 in
theorem faulted_at {a : Nat → Addr} {t : Nat → ByteArray} {ve : Value} {i : Nat} {p : Int} (w : World) (hE : Errs a t w) (h : FaultAt a w ve i p) (hi : i < 8) :
    Calls Tryz.prog 18 #[ve, .agg #[.int .i64 ((i : Int) + 1), .int .i64 p]] w fun e w' => e = .returned (.bool true) ∧ Below w.heap.size w w' := by
  obtain ⟨q, rfl, h0, h1⟩ := h
  have hBa : Below w.heap.size w (w.alloc (.cells #[.int .i64 ((i : Int) + 1), .int .i64 p] 44)) := (Below.refl _ w).alloc (Nat.le_refl _) _
  have hb := fault_cells w (.int .i64 ((i : Int) + 1)) (.int .i64 p) 44
  have hco := code_fault (w.alloc (.cells #[.int .i64 ((i : Int) + 1), .int .i64 p] 44)) (hE.below hBa) q i hi p ((hBa.cell (p := ⟨q, 0, none⟩) (cell_lt h0)).trans h0) ((hBa.cell (p := ⟨q, 0 + 1, none⟩) (cell_lt h1)).trans h1)
  clear h0 h1 hE
  go_enter Tryz.func18, Tryz.ntmps18
  go_wp2_with fail
  refine hco.mono ?_
  clear hco
  rintro e w2 ⟨rfl, hB2⟩
  have c0 := (hB2.cell (p := ⟨w.heap.size, 0, none⟩) (by simp)).trans hb.1
  have c1 : w2.cell? ⟨w.heap.size, 1, none⟩ = some (.int .i64 p) := (hB2.cell (p := ⟨w.heap.size, 0 + 1, none⟩) (by simp)).trans hb.2
  have hn : (((i : Int) + 1) == 0) = false := beq_false_of_ne (by omega)
  have HB2 : Hid (Below w.heap.size w w2) := hBa.trans (hB2.mono (by simp))
  clear hB2 hb
  go_wp2
  go_ret
  exact ⟨rfl, HB2.out⟩
set_option maxRecDepth 100000 in
theorem faulted_nil (p : Int) (w : World) :
    Calls Tryz.prog 18 #[.nilIface, .agg #[.int .i64 0, .int .i64 p]] w fun e w' => e = .returned (.bool true) ∧ Below w.heap.size w w' := by
  have hBa : Below w.heap.size w (w.alloc (.cells #[.int .i64 0, .int .i64 p] 44)) := (Below.refl _ w).alloc (Nat.le_refl _) _
  have hb := (fault_cells w (.int .i64 0) (.int .i64 p) 44).1
  have hco := code_nil (w.alloc (.cells #[.int .i64 0, .int .i64 p] 44))
  go_enter Tryz.func18, Tryz.ntmps18
  go_wp2_with fail
  refine hco.mono ?_
  clear hco
  rintro e w2 ⟨rfl, rfl⟩
  go_wp2
  go_ret
  exact ⟨rfl, hBa⟩

end Go.Proofs.YthmjdfjchhohgaaGreatDoor

namespace Go.Proofs.YthmjdfjchhohgaaGreatDoor
open Go.RowKit Go.Sort

theorem setCell_self {W : World} {b j : Nat} {x : Value} (h : W.cell? ⟨b, j, none⟩ = some x) : W.setCell ⟨b, j, none⟩ x = W := by
  have e : (W.setCell ⟨b, j, none⟩ x).heap = W.heap := by
    unfold World.setCell
    unfold World.cell? at h
    simp only [Option.isSome_none, Bool.false_eq_true, if_false] at h ⊢
    refine Array.ext (by simp) fun i h1 h2 => ?_
    rw [Array.getElem_modify]
    by_cases ei : b = i
    · subst ei
      rw [if_pos rfl]
      rw [Array.getElem?_eq_getElem h2] at h
      cases ho : W.heap[b] with
      | cells cs t f =>
        rw [ho] at h
        simp only at h ⊢
        have e : cs.setIfInBounds j x = cs := by
          refine Array.ext (by simp) fun i h1 h2 => ?_
          rw [Array.getElem_setIfInBounds (by simpa using h1)]
          by_cases e : j = i
          · subst e; rw [if_pos rfl]; rw [Array.getElem?_eq_getElem h2] at h; exact (Option.some.inj h).symm
          · rw [if_neg e]
        rw [e]
      | _ => rfl
    · rw [if_neg ei]
  show ({ heap := (W.setCell ⟨b, j, none⟩ x).heap, tape := W.tape, drawn := W.drawn, os := W.os, output := W.output } : World) = W
  rw [e]

/-- A fault in its box. -/
structure FBox (b : Nat) (W : World) (c p : Int) : Prop where
  c0 : W.cell? ⟨b, 0, none⟩ = some (.int .i64 c)
  c1 : W.cell? ⟨b, 1, none⟩ = some (.int .i64 p)
  two : ∃ cs t, W.heap[b]? = some (.cells cs t (0, 0)) ∧ cs.size = 2
theorem fbox_new (W : World) (c p : Int) (t : TypeId) : FBox W.heap.size (W.alloc (.cells #[.int .i64 c, .int .i64 p] t)) c p := by
  have hg : (W.alloc (.cells #[.int .i64 c, .int .i64 p] t)).heap[W.heap.size]? = some (.cells #[.int .i64 c, .int .i64 p] t) := (Go.MapKept.heap_alloc W _).1
  exact ⟨(fault_cells W _ _ t).1, (fault_cells W _ _ t).2, _, _, hg, rfl⟩
theorem FBox.below {b : Nat} {W W' : World} {c p : Int} (h : FBox b W c p) (hB : Below W.heap.size W W') : FBox b W' c p := by
  have hl : b < W.heap.size := cell_lt h.c0
  obtain ⟨cs, t, h1, h2⟩ := h.two
  exact ⟨(hB.cell (p := ⟨b, 0, none⟩) hl).trans h.c0, (hB.cell (p := ⟨b, 1, none⟩) hl).trans h.c1, cs, t, (hB.block b hl).trans h1, h2⟩
theorem FBox.same {b : Nat} {W : World} {c p : Int} (h : FBox b W c p) : (W.setCell ⟨b, 0, none⟩ (.int .i64 c)).setCell ⟨b, 1, none⟩ (.int .i64 p) = W := by
  rw [setCell_self h.c0, setCell_self h.c1]
theorem FBox.put {b : Nat} {W : World} {c p : Int} (h : FBox b W c p) (c' p' : Int) : FBox b ((W.setCell ⟨b, 0, none⟩ (.int .i64 c')).setCell ⟨b, 1, none⟩ (.int .i64 p')) c' p' := by
  obtain ⟨cs, t, h1, h2⟩ := h.two
  have h3 := heap_setCell_same W b 0 _ t (.int .i64 c') h1
  have h4 := heap_setCell_same _ b 1 _ t (.int .i64 p') h3
  have ne : (⟨b, 0, none⟩ : Addr) ≠ ⟨b, 1, none⟩ := fun e => by cases e
  refine ⟨?_, World.cell?_setCell_same' _ _ _ ?_, _, _, h4, by simp [h2]⟩
  · rw [World.cell?_setCell_other _ _ _ _ (Ne.symm ne)]
    exact World.cell?_setCell_same' _ _ _ (by rw [h.c0]; rfl)
  · rw [World.cell?_setCell_other _ _ _ _ ne, h.c1]; rfl
theorem FBox.froz {b : Nat} {W : World} {c p : Int} (h : FBox b W c p) (k : Nat) : W.frozen? ⟨b, k, none⟩ = false := by
  obtain ⟨cs, t, h1, h2⟩ := h.two
  simp [World.frozen?, h1]
set_option maxRecDepth 100000 in
theorem faulted_es {a : Nat → Addr} {s : Nat → ByteArray} (w : World) (hE : Errs a s w) {i : Nat} (hi : i < 8) {c : Int} (hc : (i : Int) + 1 = c) :
    Calls Tryz.prog 18 #[.iface 233 (.pointer (some (a i))), .agg #[.int .i64 c, .int .i64 (-1)]] w fun e w' => e = .returned (.bool true) ∧ Below w.heap.size w w' := by
  subst hc
  have hBa : Below w.heap.size w (w.alloc (.cells #[.int .i64 ((i : Int) + 1), .int .i64 (-1)] 44)) := (Below.refl _ w).alloc (Nat.le_refl _) _
  have hb := fault_cells w (.int .i64 ((i : Int) + 1)) (.int .i64 (-1)) 44
  have hEa := hE.below hBa
  have ha : ∀ k, k < 8 → (a i = a k ↔ k = i) := fun k hk => ⟨fun h => by
    rcases Nat.decEq k i with h' | h'
    · exact absurd h.symm (hE.apart k i hk hi h')
    · exact h', fun h => by rw [h]⟩
  have hco := code_es _ hEa (a i) i (Nat.le_of_lt hi) ha (hEa.row i hi)
  rw [codeOf_lt hi] at hco
  clear hE hEa ha
  go_enter Tryz.func18, Tryz.ntmps18
  go_wp2_with fail
  refine hco.mono ?_
  clear hco
  rintro e w2 ⟨rfl, hB2⟩
  have c0 := (hB2.cell (p := ⟨w.heap.size, 0, none⟩) (by simp)).trans hb.1
  have c1 : w2.cell? ⟨w.heap.size, 1, none⟩ = some (.int .i64 (-1)) := (hB2.cell (p := ⟨w.heap.size, 0 + 1, none⟩) (by simp)).trans hb.2
  have hn : (((i : Int) + 1) == 0) = false := beq_false_of_ne (by omega)
  have HB2 : Hid (Below w.heap.size w w2) := hBa.trans (hB2.mono (by simp))
  clear hB2 hb
  go_wp2
  go_ret
  exact ⟨rfl, HB2.out⟩

end Go.Proofs.YthmjdfjchhohgaaGreatDoor
