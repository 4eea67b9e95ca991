/- What the statements' Cx answers: the same sets, in memory of its own. All faces of sets: there is a list of them, in order. What the program and the reference say of one complex and one list of pairs, in one way. -/
import Derived.Test.YthdmfeidcldafaaGreatDoorOpen
import Derived.Test.YthdmfeidcldafaaGreatDoorMorseShape
import Derived.Deep.RegionLaw
import Derived.Deep.RegionHeld3
import Derived.Deep.AppendLies
import Derived.Deep.Light
import Derived.Test.YthdmfeidcldafaaGreatDoorLists
import Derived.Test.YthdmfeidcldafaaGreatDoorRangeA
import Derived.Test.YthdmfeidcldafaaGreatDoorErrorK
import Derived.Test.YthdmfeidcldafaaGreatDoorKind0
import Derived.Test.YthdmfeidcldafaaGreatDoorClosed
namespace Go.Proofs.YthdmfeidcldafaaGreatDoor
open Go.RowKit Go.Sort

/-- Where Cx stands: its two variables, and the first k rows. -/
structure CxAt (l : List (List Int)) (w : World) (k : Nat) (vo : Value) (wr : World) : Prop where
  two : wr.cell? ⟨w.heap.size, 0, none⟩ = some (.slice none 0 0) ∧ wr.frozen? ⟨w.heap.size, 0, none⟩ = false
  out : wr.cell? ⟨w.heap.size + 1, 0, none⟩ = some vo ∧ wr.frozen? ⟨w.heap.size + 1, 0, none⟩ = false
  own : OwnRows (w.heap.size + 2) wr vo (l.take k)
  size : w.heap.size + 2 ≤ wr.heap.size
  below : Below w.heap.size w wr

theorem cx_start (l : List (List Int)) (w : World) : CxAt l w 0 (.slice none 0 0) ((w.alloc (.cells #[.slice none 0 0] 32)).alloc (.cells #[.slice none 0 0] 32)) where
  two := box_alloc _ (box_new w _ _)
  out := by
    have := box_new (w.alloc (.cells #[.slice none 0 0] 32)) (.slice none 0 0) 32
    rwa [World.size_alloc] at this
  own := OwnRows.nil _ _
  size := by simp
  below := ((Below.refl _ w).alloc (Nat.le_refl _) _).alloc (by simp) _

theorem cx_step {l : List (List Int)} {w wr w1 w2 : World} {k : Nat} {vo v2 : Value} {x : List Int} {vs : List Value} {u : Value} {o : Obj} (hlt : k < l.length) (hx : l[k]?.getD [] = x) (h : CxAt l w k vo wr) (hB1 : Below wr.heap.size wr w1)
    (ho1 : w1.ownsRow (w.heap.size + 2) 51 1 vo (l.take k).length vs) (ho2 : ∀ (k' : Nat) (u : Value) (x : List Int), vs[k']? = some u → (l.take k)[k']? = some x → IntsIn (fun b => w.heap.size + 2 ≤ b ∧ some b ≠ vo.ownBlock) w1 u x)
    (hf : IntsIn (fun b => wr.heap.size ≤ b) w1 u x) (hown : w2.ownsRow (w.heap.size + 2) 51 1 v2 (k + 1) (vs ++ [u])) (hg : (w1.alloc o).grownBy w2 vo.ownBlock) (hl : v2.ownBlock = vo.ownBlock ∨ v2.ownBlock = some (w1.alloc o).heap.size)
    (d0 : w2.cell? ⟨w.heap.size, 0, none⟩ = some (.slice none 0 0) ∧ w2.frozen? ⟨w.heap.size, 0, none⟩ = false) (d1 : w2.cell? ⟨w.heap.size + 1, 0, none⟩ = some vo ∧ w2.frozen? ⟨w.heap.size + 1, 0, none⟩ = false) :
    CxAt l w (k + 1) v2 (w2.setCell ⟨w.heap.size + 1, 0, none⟩ v2) := by
  have htk : (l.take k).length = k := by simp; omega
  have hu : IntsIn (fun b => w.heap.size + 2 ≤ b ∧ some b ≠ vo.ownBlock) w1 u x := SliceIn.mono hf (fun b _ hge => ⟨Nat.le_trans h.size hge, fun e => by
    have := (h.own.block e.symm).2
    omega⟩)
  have hpush := OwnRows.push ho1 ho2 hu (by rw [htk]; exact hown) hg hl
  have hsz0 := h.size
  have hsz1 := hB1.size
  have hsz2 := hg.size
  rw [World.size_alloc] at hsz2
  have hBw1 : Below w.heap.size w w1 := h.below.trans (hB1.mono h.below.size)
  have hBw2 : Below w.heap.size w w2 := (hBw1.alloc (by omega) o).grown hg (by simp; omega) (fun j hj => by have := (h.own.block hj).1; omega)
  refine ⟨⟨?_, ?_⟩, ⟨?_, ?_⟩, ?_, ?_, hBw2.setCell (p := ⟨w.heap.size + 1, 0, none⟩) (by show w.heap.size ≤ w.heap.size + 1; omega) _⟩
  · rw [World.cell?_setCell_other _ _ _ _ (fun e => by have := congrArg Addr.block e; simp at this)]; exact d0.1
  · rw [World.frozen?_setCell]; exact d0.2
  · exact World.cell?_setCell_same' _ _ _ (by rw [d1.1]; rfl)
  · rw [World.frozen?_setCell]; exact d1.2
  · have e : l.take (k + 1) = l.take k ++ [x] := by
      rw [List.take_add_one, List.getElem?_eq_getElem hlt]
      rw [List.getElem?_eq_getElem hlt, Option.getD_some] at hx
      rw [hx]; rfl
    rw [e]
    exact hpush.setCell (p := ⟨w.heap.size + 1, 0, none⟩) (by show w.heap.size + 1 < w.heap.size + 2; omega) _
  · rw [World.size_setCell]; omega

set_option maxRecDepth 100000 in
set_option maxHeartbeats 2000000 in
theorem cx_ (vl : Value) (l : List (List Int)) (w : World) (hl : Rows w vl l) (hll : l.length ≤ 100000) (hle : ∀ x ∈ l, x.length ≤ 1000) :
    Calls Tryz.prog 8 #[vl] w fun e w' => ∃ v, e = .returned (.agg #[v]) ∧ Rows w' v l ∧ Below w.heap.size w w' := by
  obtain ⟨i0, hi, hz0, hz1, hz2⟩ := info_parts Tryz.info51
  obtain ⟨j0, hj0, hy0, hy1, hy2⟩ := info_parts Tryz.info3
  have HE : Hid (∀ x ∈ l, x.length ≤ 1000) := hle
  obtain ⟨a, ca, rfl, -, ha⟩ := hl.open_
  clear hle
  go_enter Tryz.func8, Tryz.ntmps8
  go_wp2
  go_loopw [4] (fun i wr => ∃ (k : Nat) (vo : Value), k ≤ l.length ∧ i = .int .i64 k ∧ CxAt l w k vo wr)
    (fun i _ => l.length - (intOf i).toNat)
  case atStart => exact ⟨0, _, by omega, rfl, cx_start l w⟩
  case round =>
    obtain ⟨k, vo, hk, rfl, hat⟩ := hrel
    have HAT : Hid (CxAt l w k vo wr) := hat
    obtain ⟨⟨hc0, hf0⟩, ⟨hc1, hf1⟩, -, hbk, hB⟩ := hat
    by_cases hlt : k < l.length
    · obtain ⟨b, o, rfl, -, hb, c⟩ := ha (by omega)
      obtain ⟨a1, p1, g1, i1⟩ := c k hlt
      have hlen : (l[k]?.getD []).length ≤ 1000 := HE.out _ (by rw [List.getElem?_eq_getElem hlt]; simp)
      obtain ⟨x, hxe⟩ : ∃ x, l[k]?.getD [] = x := ⟨_, rfl⟩
      rw [hxe] at g1 i1 hlen
      have HX : Hid (l[k]?.getD [] = x) := hxe
      have HTK : Hid ((l.take k).length = k) := by show (l.take k).length = k; simp; omega
      have g2 : wr.cell? ⟨b, o + k, none⟩ = some (.slice a1 x.length p1) := (hB.cell (p := ⟨b, o + k, none⟩) hb).trans g1
      have i2 : Ints wr.drew (.slice a1 x.length p1) x := (i1.below hB).below ⟨rfl, rfl, rfl, Nat.le_refl _, fun _ _ => rfl⟩
      have hn0 : (0 : Int) ≤ (k : Int) := by omega
      have hn1 : (k : Int) < (l.length : Int) := by omega
      clear c ha hl g1 i1 hxe
      have hne : ∀ g, vo.ownBlock = some g → w.heap.size + 2 ≤ g := fun g hg => (HAT.out.own.block hg).1
      have q1 : some (w.heap.size + 1) ≠ vo.ownBlock := fun e => by have := hne _ e.symm; omega
      have q0 : some w.heap.size ≠ vo.ownBlock := fun e => by have := hne _ e.symm; omega
      have hl0 := cell_lt hc0
      have hl1 := cell_lt hc1
      clear hne
      go_wp2_with fail
      go_region_law (first
        | (refine step_append_slice (by rfl) (.tmp 15) (.tmp 19) 51 (by rfl) wr.heap.size 3 j0 (.int .i64 0) 8 Tryz.underlying51 hj0 hy0 hy1 hy2 (by rfl) (.slice none 0 0) 0 [] (by simp [Act.eval]) (World.ownsRow_nil _ _ _ _) (.slice a1 x.length p1) (x.map (Value.int .i64)) (by simp [Act.eval]) i2 (ints_one x) (by simp; omega) (by unfold maxLen; simp; omega) (Nat.le_refl _) ?_; intro v1 w1 hown1 hg1 hl1'; have hB1 : Below wr.heap.size wr w1 := below_nil hg1; have c1 : w1.cell? ⟨w.heap.size + 1, 0, none⟩ = some vo := (hB1.cell (p := ⟨w.heap.size + 1, 0, none⟩) hl1).trans hc1; have hfm := ints_made hown1; have HFM : Hid (IntsIn (fun b => wr.heap.size ≤ b) w1 v1 x) := hfm; obtain ⟨a2, p2, rfl, -, -⟩ := hfm.open_; have c1a : ∀ o, (w1.alloc o).cell? ⟨w.heap.size + 1, 0, none⟩ = some vo := fun o => cell_kept c1 (World.grownBy_alloc w1 o none) (fun r e => by cases e); obtain ⟨vs, ho1, ho2⟩ := HAT.out.own.below hB1; have HO1 : Hid (w1.ownsRow (w.heap.size + 2) 51 1 vo (l.take k).length vs) := ho1; have HO2 : Hid (∀ (k' : Nat) (u : Value) (x : List Int), vs[k']? = some u → (l.take k)[k']? = some x → IntsIn (fun b => w.heap.size + 2 ≤ b ∧ some b ≠ vo.ownBlock) w1 u x) := ho2; rw [HTK.out] at ho1; have hbs1 := hB1.size; have z1 : w1.frozen? ⟨w.heap.size + 1, 0, none⟩ = false := (hB1.frozen (p := ⟨w.heap.size + 1, 0, none⟩) hl1).trans hf1; have c0 : w1.cell? ⟨w.heap.size, 0, none⟩ = some (.slice none 0 0) ∧ w1.frozen? ⟨w.heap.size, 0, none⟩ = false := ⟨(hB1.cell (p := ⟨w.heap.size, 0, none⟩) hl0).trans hc0, (hB1.frozen (p := ⟨w.heap.size, 0, none⟩) hl0).trans hf0⟩; clear hown1 hg1 hl1' hfm ho2)
        | (refine step_append_slice (by rfl) (.tmp 14) (.tmp 21) 22 (by rfl) (w.heap.size + 2) 51 i0 (.slice none 0 0) 24 Tryz.underlying22 hi hz0 hz1 hz2 (by rfl) vo k vs (by simp [Act.eval]) (ho1.alloc _) (.slice (some ⟨w1.heap.size, 0, none⟩) 1 1) [.slice a2 x.length p2] (by simp [Act.eval]) (slice_one _ _ _) (by simp [Value.oneCell']) (by simp; omega) (by unfold maxLen; simp; omega) (by simp; omega) ?_; intro v2 w2 hown2 hg2 hl2'; have d1 := far_kept hg2 (p := ⟨w.heap.size + 1, 0, none⟩) ⟨c1, z1⟩ q1; have d0 := far_kept hg2 (p := ⟨w.heap.size, 0, none⟩) c0 q0; have e1 := d1.1; have f1 := d1.2; obtain ⟨g3, p3, rfl, -, -⟩ := hown2.form (by simp); have HC : Hid (CxAt l w (k + 1) (.slice (some ⟨g3, 0, none⟩) (k + 1) p3) (w2.setCell ⟨w.heap.size + 1, 0, none⟩ (.slice (some ⟨g3, 0, none⟩) (k + 1) p3))) := cx_step hlt HX.out HAT.out hB1 HO1.out HO2.out HFM.out hown2 hg2 hl2' d0 d1; clear hown2 hg2 hl2'))
      all_goals go_wp2
      all_goals go_roundw
      all_goals first
        | (go_light; exact ⟨k + 1, _, hlt, by go_num, HC.out⟩)
        | (go_light; simp [intOf]; omega)
    · obtain rfl : k = l.length := by omega
      have hrow := HAT.out.own.rows
      rw [List.take_length] at hrow
      have HRW : Hid (Rows wr vo l) := hrow
      obtain ⟨a4, p4, rfl, -, -⟩ := hrow.open_
      clear hrow ha hl
      have c2 := World.cell?_setCell_same' wr ⟨w.heap.size, 0, none⟩ (.slice a4 l.length p4) (by rw [hc0]; rfl)
      go_wp2
      refine bodyPost_ret (v := .agg #[.slice a4 l.length p4]) ?_ rfl ?_
      · simp [results, Tryz.f8, go_sem, c2]
      · have hB1 := HAT.out.below.setCell (p := ⟨w.heap.size, 0, none⟩) (Nat.le_refl _) (.slice a4 l.length p4)
        refine ⟨_, rfl, ?_, hB1⟩
        have hown := HAT.out.own.setCell (p := ⟨w.heap.size, 0, none⟩) (by show w.heap.size < w.heap.size + 2; omega) (.slice a4 l.length p4)
        rw [List.take_length] at hown
        exact hown.rows

end Go.Proofs.YthdmfeidcldafaaGreatDoor

namespace Go.Proofs.YthdmfeidcldafaaGreatDoor
open Go.RowKit Go.Sort

/-- All parts of a list. -/
def subsL {α : Type} : List α → List (List α)
  | [] => [[]]
  | a :: l => subsL l ++ (subsL l).map (fun t => a :: t)
theorem subs_mem {α : Type} {l x : List α} : x ∈ subsL l ↔ x.Sublist l := by
  induction l generalizing x with
  | nil => simp [subsL]
  | cons a l ih =>
    simp only [subsL]
    rw [List.mem_append, List.mem_map, List.sublist_cons_iff]
    simp only [ih]
    constructor
    · rintro (h | ⟨t, ht, rfl⟩)
      · exact .inl h
      · exact .inr ⟨t, rfl, ht⟩
    · rintro (h | ⟨t, rfl, ht⟩)
      · exact .inl h
      · exact .inr ⟨t, ht, rfl⟩
/-- Each text once. -/
def onceL : List (List UInt8) → List (List UInt8)
  | [] => []
  | x :: l => if x ∈ onceL l then onceL l else x :: onceL l
theorem once_mem {l : List (List UInt8)} {x : List UInt8} : x ∈ onceL l ↔ x ∈ l := by
  induction l with
  | nil => simp [onceL]
  | cons y l ih =>
    simp only [onceL]
    split
    · rename_i h
      rw [ih, List.mem_cons]
      exact ⟨.inr, fun e => e.elim (fun e => by subst e; exact ih.1 h) id⟩
    · rw [List.mem_cons, List.mem_cons, ih]
theorem once_nodup (l : List (List UInt8)) : (onceL l).Nodup := by
  induction l with
  | nil => exact List.Pairwise.nil
  | cons y l ih =>
    simp only [onceL]
    split
    · exact ih
    · rename_i h
      exact List.nodup_cons.2 ⟨h, ih⟩
theorem texts_ex {g : List (List Int)} (hok : ∀ t ∈ g, SetOk t) : ∃ ts : List (List UInt8), ts.map ints = g := by
  refine ⟨g.map (fun x => x.map (fun v => UInt8.ofNat v.toNat)), ?_⟩
  rw [List.map_map]
  refine (List.map_congr_left (fun x hx => ?_)).trans (List.map_id g)
  show ints (x.map (fun v => UInt8.ofNat v.toNat)) = x
  unfold ints
  rw [List.map_map]
  refine (List.map_congr_left (fun v hv => ?_)).trans (List.map_id x)
  have := (hok x hx).2.2 v hv
  simp only [Function.comp, UInt8.toNat_ofNat', id]
  omega
theorem all_ex {g : List (List Int)} (hok : ∀ t ∈ g, SetOk t) : ∃ all, IsAll g all := by
  obtain ⟨ts, rfl⟩ := texts_ex hok
  refine ⟨(srtS (onceL ((ts.flatMap subsL).filter (fun x => decide (x ≠ []))))).map ints, sorted_order (once_nodup _), fun y => ?_⟩
  have key : ∀ x, x ∈ srtS (onceL ((ts.flatMap subsL).filter (fun x => decide (x ≠ [])))) ↔ FaceOf ts x := fun x => by
    have e1 : x ∈ srtS (onceL ((ts.flatMap subsL).filter (fun x => decide (x ≠ [])))) ↔ x ∈ onceL ((ts.flatMap subsL).filter (fun x => decide (x ≠ []))) := (List.mergeSort_perm _ _).mem_iff
    rw [e1, once_mem, List.mem_filter, List.mem_flatMap, decide_eq_true_eq, and_comm]
    simp only [subs_mem]
    exact Iff.rfl
  rw [List.mem_map]
  constructor
  · rintro ⟨x, hx, rfl⟩; exact face_ints.2 ((key x).1 hx)
  · intro h
    obtain ⟨x, rfl⟩ := face_from h
    exact ⟨x, (key x).2 (face_ints.1 h), rfl⟩

end Go.Proofs.YthdmfeidcldafaaGreatDoor

namespace Go.Proofs.YthdmfeidcldafaaGreatDoor
open Go.RowKit Go.Sort

theorem goes_or (L : List (List Int)) : ∀ (ps : List Duo) (left : Nat → Bool), Goes L left ps ∨ ∃ k, ∃ h : k < ps.length, Goes L left (ps.take k) ∧ ¬ FreeP L (leftBy left (ps.take k)) ps[k]
  | [], _ => .inl trivial
  | p :: ps, left => by
    by_cases h : FreeP L left p
    · rcases goes_or L ps (lessP left p) with h1 | ⟨k, hk, h1, h2⟩
      · exact .inl ⟨h, h1⟩
      · exact .inr ⟨k + 1, Nat.succ_lt_succ hk, ⟨h, h1⟩, h2⟩
    · exact .inr ⟨0, Nat.succ_pos _, trivial, h⟩

/-- Of no faces there are no free pairs. -/
theorem free_pairs0 (cl : Nat) (vL : Value) (w : World) (hL : Rows w vL []) :
    Calls Tryz.prog 15 #[vL, .slice none 0 cl] w fun e w' => ∃ v, e = .returned v ∧ DuoRow w.heap.size 52 w' v [] ∧ Below w.heap.size w w' := by
  obtain ⟨aL, cL, rfl, -, -⟩ := hL.open_
  rw [show ([] : List (List Int)).length = 0 from rfl]
  clear hL
  go_enter Tryz.func15, Tryz.ntmps15
  go_wp2_with fail
  go_loopw [5, 6] (fun v p W => p = .int .i64 0 ∧ v = .slice none 0 0 ∧ W = w) (fun _ _ _ => 0)
  case atStart => exact ⟨rfl, rfl, rfl⟩
  case round =>
    obtain ⟨rfl, rfl, rfl⟩ := hrel
    go_wp2_with fail
    go_ret
    exact ⟨_, rfl, World.ownsRow_nil _ _ _ _, Below.refl _ _⟩

theorem free_pairs_all {L : List (List Int)} {base : Nat} (vL v : Value) (w : World) (hL : Rows w vL L) (hm : w.ownsRow base 4 1 v L.length (List.replicate L.length (.bool true))) (hL6 : L.length ≤ 1000) (hx : ∀ x ∈ L, x.length ≤ 1000) :
    Calls Tryz.prog 15 #[vL, v] w fun e w' => ∃ v, e = .returned v ∧ DuoRow w.heap.size 52 w' v (freeTo L allL L.length) ∧ Below w.heap.size w w' := by
  obtain ⟨al, cap, rfl, h1, h2⟩ := marks_open hm
  cases L with
  | nil =>
    rcases hm.2 with ⟨e, _⟩ | ⟨g, cap', cur, e, _⟩
    · cases e
      exact free_pairs0 0 vL w hL
    · cases e
      exact free_pairs (L := []) vL g cap w hL (h2 g rfl).at (by simp) (fun x hx => by cases hx)
  | cons x xs =>
    obtain ⟨g, rfl, _⟩ := h1 (by simp)
    exact free_pairs vL g cap w hL (h2 g rfl).at hL6 hx

theorem numL_len {l all : List (List Int)} (g : Good l all) : (numL all).length ≤ 600 := Nat.le_trans (num_len (order_nodup g.isAll.order) _) g.length
theorem numL_short {l all : List (List Int)} (g : Good l all) : ∀ x ∈ numL all, x.length ≤ 1000 := fun x hx => by
  have := g.short x (numTo_mem.1 hx).1
  omega

theorem rows_nil2 (w : World) : Rows w (.slice none 0 0) [] := (OwnRows.nil 0 w).rows

theorem srt_ok2 {x : List Int} (h : SetOk x) : SetOk (srt x) := by
  refine ⟨fun e => ?_, ?_, fun v hv => h.2.2 v ((srt_mem x v).1 hv)⟩
  · obtain ⟨v, hv⟩ := List.exists_mem_of_ne_nil x h.1
    have := (srt_mem x v).2 hv
    rw [e] at this; cases this
  · exact (srt_rising h.2.1).imp (fun hlt e => by omega)

/-- What is said of a good complex: the faces that are left, their facets, all calls. -/
structure BothM (a : Nat → Addr) (l : List (List Int)) (ps : List Duo) (all L LT F : List (List Int)) (FL : List Duo) : Prop where
  few : F.length ≤ 1000000 ∧ ∀ x ∈ F, x.length ≤ 1000000
  fewL : L.length ≤ 600 ∧ FL.length ≤ 1000
  free : ∀ (s : Nat → ByteArray) (v : Value) (w : World), Errs a s w → Rows w v l → Calls Tryz.prog 7 #[.agg #[v]] w fun e w' => ∃ u, e = .returned (.tuple #[u, .nilIface]) ∧ DuoRow w.heap.size 52 w' u FL ∧ Below w.heap.size w w'
  closed : ∀ (v : Value) (w : World), Rows w v l → Calls Tryz.prog 12 #[v] w fun e w' => ∃ u, e = .returned (.tuple #[u, .int .i64 0]) ∧ Rows w' u all ∧ Below w.heap.size w w'
  numbered : ∀ (v : Value) (w : World), Rows w v all → Calls Tryz.prog 13 #[v] w fun e w' => ∃ u, e = .returned u ∧ Rows w' u L ∧ Below w.heap.size w w'
  pairs : ∀ (vL v : Value) (base : Nat) (w : World), Rows w vL L → w.ownsRow base 4 1 v L.length (List.replicate L.length (.bool true)) → Calls Tryz.prog 15 #[vL, v] w fun e w' => ∃ u, e = .returned u ∧ DuoRow w.heap.size 52 w' u FL ∧ Below w.heap.size w w'

structure GoesM (a : Nat → Addr) (l : List (List Int)) (ps : List Duo) (L LT F : List (List Int)) : Prop where
  coll : ∀ (s : Nat → ByteArray) (v u : Value) (w : World), Errs a s w → Rows w v l → DuoIn anyBlock w u ps → Calls Tryz.prog 9 #[.agg #[v], u] w fun e w' => ∃ x, e = .returned (.tuple #[.agg #[x], .nilIface]) ∧ Rows w' x F ∧ Below w.heap.size w w'
  ref : ∀ (vL u : Value) (w : World), Rows w vL L → DuoIn anyBlock w u ps → Calls Tryz.prog 17 #[vL, u] w fun e w' => ∃ x, e = .returned (.tuple #[x, .int .i64 (-1)]) ∧ Rows w' x LT ∧ Below w.heap.size w w'
  made : ∀ (v : Value) (w : World), Rows w v LT → Calls Tryz.prog 19 #[v] w fun e w' => ∃ u, e = .returned (.tuple #[u, .int .i64 0]) ∧ Rows w' u F ∧ Below w.heap.size w w'

structure WrongM (a : Nat → Addr) (l : List (List Int)) (ps : List Duo) (L : List (List Int)) (k : Nat) : Prop where
  coll : ∀ (s : Nat → ByteArray) (v u : Value) (w : World), Errs a s w → Rows w v l → DuoIn anyBlock w u ps → Calls Tryz.prog 9 #[.agg #[v], u] w fun e w' => ∃ ve, e = .returned (.tuple #[.agg #[.slice none 0 0], ve]) ∧ FaultAt a w' ve 3 (k : Int) ∧ Below w.heap.size w w'
  ref : ∀ (vL u : Value) (w : World), Rows w vL L → DuoIn anyBlock w u ps → Calls Tryz.prog 17 #[vL, u] w fun e w' => e = .returned (.tuple #[.slice none 0 0, .int .i64 (k : Int)]) ∧ Below w.heap.size w w'

theorem both_m (a : Nat → Addr) {l all : List (List Int)} (g : Good l all) (ps : List Duo) (hps : ps.length ≤ 1000) (hll : l.length ≤ 100000) (hle : ∀ x ∈ l, x.length ≤ 1000) :
    ∃ L LT F FL, BothM a l ps all L LT F FL ∧ (GoesM a l ps L LT F ∨ ∃ k, WrongM a l ps L k) := by
  have hL := numL_len g
  have hx := numL_short g
  obtain ⟨all2, hal⟩ := all_ex (g := (leftTo (numL all) (leftBy allL ps) (numL all).length).map srt) (fun t ht => by obtain ⟨x, hx, rfl⟩ := List.mem_map.1 ht; exact srt_ok2 (left_ok g _ x hx))
  have hfew := left_few g (leftBy allL ps)
  have h6 : all2.length ≤ 600 := by
    rcases Nat.lt_or_ge 600 all2.length with h | h
    · exact absurd (.inr ⟨all2, order_nodup hal.order, h, fun x hx => (hal.mem x).1 hx⟩) hfew
    · exact h
  have hlt : (leftTo (numL all) (leftBy allL ps) (numL all).length).length ≤ 100000 := Nat.le_trans (leftTo_len _ _ _) (by omega)
  have hlx : ∀ x ∈ leftTo (numL all) (leftBy allL ps) (numL all).length, x.length ≤ 1000 := fun x hx => by have := g.short x (left_mem hx); omega
  refine ⟨numL all, leftTo (numL all) (leftBy allL ps) (numL all).length, facetsI all2, freeTo (numL all) allL (numL all).length, ⟨⟨?_, fun x hx => ?_⟩, ⟨hL, ?_⟩, fun s v w hE hr => ?_, fun v w hr => closed_g closed_ v l all w hr hll hle g, fun v w hr => numbered_ v all w hr g.length g.short (order_nodup g.isAll.order), fun vL v base w hr hm => free_pairs_all vL v w hr hm (by omega) hx⟩, ?_⟩
  · have : (facetsI all2).length ≤ all2.length := List.length_filter_le _ _
    omega
  · have := all_short hal hfew x (List.mem_filter.1 hx).1
    omega
  · exact Nat.le_trans (freeTo_len _ _ _) (by omega)
  · refine (free_ v l w hE hr hll hle).mono fun e w' h => ?_
    rcases h.2 with ⟨i, hb, _⟩ | ⟨all', u, hg, he, hd⟩
    · exact (bad_good hb g).elim
    · rw [good_one g hg]
      exact ⟨u, he, hd, h.1⟩
  · rcases goes_or (numL all) ps allL with hgo | ⟨k, hk, hgo, hno⟩
    · refine .inl ⟨fun s v u w hE hr hp => (collapse_ v u l ps w hE hr hll hle hp hps).mono fun e w' h => ?_, fun vL u w hr hp => (collapse_pairs vL u ps w hr hp (by omega) hps hx).mono fun e w' h => ?_, fun v w hr => (made_ closed_ v _ w hr hlt hlx).mono fun e w' h => ?_⟩
      · rcases h.2 with ⟨i, hb, _⟩ | ⟨all', hg, ⟨_, hm⟩ | ⟨k, hk, _, hno, _⟩⟩
        · exact (bad_good hb g).elim
        · rw [← good_one g hg] at hm
          rcases hm.2 with ⟨h3, _⟩ | ⟨hok, ts, hts, ⟨h3, _⟩ | ⟨_, x, ss, he, hr', hn, hmm⟩⟩
          · exact absurd (left_ok g _) h3
          · exact absurd (over_back hts h3) hfew
          · refine ⟨x, he, ?_, h.1⟩
            rw [← told_same hok hts hn hmm hal]
            exact hr'.rows
        · rw [← good_one g hg] at hno
          exact absurd (goes_free hk hgo) hno
      · rcases h.2 with ⟨_, v, he, hr'⟩ | ⟨k, hk, _, hno, _⟩
        · exact ⟨v, he, hr', h.1⟩
        · exact absurd (goes_free hk hgo) hno
      · rcases h.2 with ⟨h3, _⟩ | ⟨_, h3, _⟩ | ⟨_, _, u, all', he, hr', hal', _⟩
        · exact absurd (left_ok g _) h3
        · exact absurd h3 hfew
        · obtain rfl : all2 = all' := all_one hal hal'
          exact ⟨u, he, hr', h.1⟩
    · refine .inr ⟨k, fun s v u w hE hr hp => (collapse_ v u l ps w hE hr hll hle hp hps).mono fun e w' h => ?_, fun vL u w hr hp => (collapse_pairs vL u ps w hr hp (by omega) hps hx).mono fun e w' h => ?_⟩
      · rcases h.2 with ⟨i, hb, _⟩ | ⟨all', hg, ⟨hgo', _⟩ | ⟨j, hj, hgo', hno', ve, hf, he⟩⟩
        · exact (bad_good hb g).elim
        · rw [← good_one g hg] at hgo'
          exact absurd (goes_free hk hgo') hno
        · rw [← good_one g hg] at hgo' hno'
          obtain rfl := wrong_one hj hk hgo' hgo hno' hno
          exact ⟨ve, he, hf, h.1⟩
      · rcases h.2 with ⟨hgo', _⟩ | ⟨j, hj, hgo', hno', he⟩
        · exact absurd (goes_free hk hgo') hno
        · obtain rfl := wrong_one hj hk hgo' hgo hno' hno
          exact ⟨he, h.1⟩

end Go.Proofs.YthdmfeidcldafaaGreatDoor
