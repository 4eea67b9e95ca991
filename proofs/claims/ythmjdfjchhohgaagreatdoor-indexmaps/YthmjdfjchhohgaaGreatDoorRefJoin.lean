/- What the statements' Cx answers: the same sets, in memory of its own. What the reference's Together answers. What the reference's VerticesOf answers, and that the last vertex is the greatest one. -/
import Derived.Test.YthmjdfjchhohgaaGreatDoorOpen
import Derived.Test.YthmjdfjchhohgaaGreatDoorFar
import Derived.Deep.RegionLaw
import Derived.Deep.RegionHeld3
import Derived.Deep.AppendLies
import Derived.Deep.Light
namespace Go.Proofs.YthmjdfjchhohgaaGreatDoor
open Go.RowKit Go.Sort

/-- Where Cx stands: its two variables, and the first k rows. -/
structure CxAt (l : List (List Int)) (w : World) (k : Nat) (vo : Value) (wr : World) : Prop where
  two : wr.cell? ⟨w.heap.size, 0, none⟩ = some (.slice none 0 0) ∧ wr.frozen? ⟨w.heap.size, 0, none⟩ = false
  out : wr.cell? ⟨w.heap.size + 1, 0, none⟩ = some vo ∧ wr.frozen? ⟨w.heap.size + 1, 0, none⟩ = false
  own : OwnRows (w.heap.size + 2) wr vo (l.take k)
  size : w.heap.size + 2 ≤ wr.heap.size
  below : Below w.heap.size w wr

theorem cx_start (l : List (List Int)) (w : World) : CxAt l w 0 (.slice none 0 0) ((w.alloc (.cells #[.slice none 0 0] 33)).alloc (.cells #[.slice none 0 0] 33)) where
  two := box_alloc _ (box_new w _ _)
  out := by
    have := box_new (w.alloc (.cells #[.slice none 0 0] 33)) (.slice none 0 0) 33
    rwa [World.size_alloc] at this
  own := OwnRows.nil _ _
  size := by simp
  below := ((Below.refl _ w).alloc (Nat.le_refl _) _).alloc (by simp) _

theorem cx_step {l : List (List Int)} {w wr w1 w2 : World} {k : Nat} {vo v2 : Value} {x : List Int} {vs : List Value} {u : Value} {o : Obj} (hlt : k < l.length) (hx : l[k]?.getD [] = x) (h : CxAt l w k vo wr) (hB1 : Below wr.heap.size wr w1)
    (ho1 : w1.ownsRow (w.heap.size + 2) 23 1 vo (l.take k).length vs) (ho2 : ∀ (k' : Nat) (u : Value) (x : List Int), vs[k']? = some u → (l.take k)[k']? = some x → IntsIn (fun b => w.heap.size + 2 ≤ b ∧ some b ≠ vo.ownBlock) w1 u x)
    (hf : IntsIn (fun b => wr.heap.size ≤ b) w1 u x) (hown : w2.ownsRow (w.heap.size + 2) 23 1 v2 (k + 1) (vs ++ [u])) (hg : (w1.alloc o).grownBy w2 vo.ownBlock) (hl : v2.ownBlock = vo.ownBlock ∨ v2.ownBlock = some (w1.alloc o).heap.size)
    (d0 : w2.cell? ⟨w.heap.size, 0, none⟩ = some (.slice none 0 0) ∧ w2.frozen? ⟨w.heap.size, 0, none⟩ = false) (d1 : w2.cell? ⟨w.heap.size + 1, 0, none⟩ = some vo ∧ w2.frozen? ⟨w.heap.size + 1, 0, none⟩ = false) :
    CxAt l w (k + 1) v2 (w2.setCell ⟨w.heap.size + 1, 0, none⟩ v2) := by
  have htk : (l.take k).length = k := by simp; omega
  have hu : IntsIn (fun b => w.heap.size + 2 ≤ b ∧ some b ≠ vo.ownBlock) w1 u x := SliceIn.mono hf (fun b _ hge => ⟨Nat.le_trans h.size hge, fun e => by
    have := (h.own.block e.symm).2
    omega⟩)
  have hpush := OwnRows.push ho1 ho2 hu (by rw [htk]; exact hown) hg hl
  have hsz0 := h.size
  have hsz1 := hB1.size
  have hsz2 := hg.size
  rw [World.size_alloc] at hsz2
  have hBw1 : Below w.heap.size w w1 := h.below.trans (hB1.mono h.below.size)
  have hBw2 : Below w.heap.size w w2 := (hBw1.alloc (by omega) o).grown hg (by simp; omega) (fun j hj => by have := (h.own.block hj).1; omega)
  refine ⟨⟨?_, ?_⟩, ⟨?_, ?_⟩, ?_, ?_, hBw2.setCell (p := ⟨w.heap.size + 1, 0, none⟩) (by show w.heap.size ≤ w.heap.size + 1; omega) _⟩
  · rw [World.cell?_setCell_other _ _ _ _ (fun e => by have := congrArg Addr.block e; simp at this)]; exact d0.1
  · rw [World.frozen?_setCell]; exact d0.2
  · exact World.cell?_setCell_same' _ _ _ (by rw [d1.1]; rfl)
  · rw [World.frozen?_setCell]; exact d1.2
  · have e : l.take (k + 1) = l.take k ++ [x] := by
      rw [List.take_add_one, List.getElem?_eq_getElem hlt]
      rw [List.getElem?_eq_getElem hlt, Option.getD_some] at hx
      rw [hx]; rfl
    rw [e]
    exact hpush.setCell (p := ⟨w.heap.size + 1, 0, none⟩) (by show w.heap.size + 1 < w.heap.size + 2; omega) _
  · rw [World.size_setCell]; omega

set_option maxRecDepth 100000 in
set_option maxHeartbeats 2000000 in
theorem cx_ (vl : Value) (l : List (List Int)) (w : World) (hl : Rows w vl l) (hll : l.length ≤ 100000) (hle : ∀ x ∈ l, x.length ≤ 1000) :
    Calls Tryz.prog 9 #[vl] w fun e w' => ∃ v, e = .returned (.agg #[v]) ∧ Rows w' v l ∧ Below w.heap.size w w' := by
  obtain ⟨i0, hi, hz0, hz1, hz2⟩ := info_parts Tryz.info23
  obtain ⟨j0, hj0, hy0, hy1, hy2⟩ := info_parts Tryz.info3
  have HE : Hid (∀ x ∈ l, x.length ≤ 1000) := hle
  obtain ⟨a, ca, rfl, -, ha⟩ := hl.open_
  clear hle
  go_enter Tryz.func9, Tryz.ntmps9
  go_wp2
  go_loopw [4] (fun i wr => ∃ (k : Nat) (vo : Value), k ≤ l.length ∧ i = .int .i64 k ∧ CxAt l w k vo wr)
    (fun i _ => l.length - (intOf i).toNat)
  case atStart => exact ⟨0, _, by omega, rfl, cx_start l w⟩
  case round =>
    obtain ⟨k, vo, hk, rfl, hat⟩ := hrel
    have HAT : Hid (CxAt l w k vo wr) := hat
    obtain ⟨⟨hc0, hf0⟩, ⟨hc1, hf1⟩, -, hbk, hB⟩ := hat
    by_cases hlt : k < l.length
    · obtain ⟨b, o, rfl, -, hb, c⟩ := ha (by omega)
      obtain ⟨a1, p1, g1, i1⟩ := c k hlt
      have hlen : (l[k]?.getD []).length ≤ 1000 := HE.out _ (by rw [List.getElem?_eq_getElem hlt]; simp)
      obtain ⟨x, hxe⟩ : ∃ x, l[k]?.getD [] = x := ⟨_, rfl⟩
      rw [hxe] at g1 i1 hlen
      have HX : Hid (l[k]?.getD [] = x) := hxe
      have HTK : Hid ((l.take k).length = k) := by show (l.take k).length = k; simp; omega
      have g2 : wr.cell? ⟨b, o + k, none⟩ = some (.slice a1 x.length p1) := (hB.cell (p := ⟨b, o + k, none⟩) hb).trans g1
      have i2 : Ints wr.drew (.slice a1 x.length p1) x := (i1.below hB).below ⟨rfl, rfl, rfl, Nat.le_refl _, fun _ _ => rfl⟩
      have hn0 : (0 : Int) ≤ (k : Int) := by omega
      have hn1 : (k : Int) < (l.length : Int) := by omega
      clear c ha hl g1 i1 hxe
      have hne : ∀ g, vo.ownBlock = some g → w.heap.size + 2 ≤ g := fun g hg => (HAT.out.own.block hg).1
      have q1 : some (w.heap.size + 1) ≠ vo.ownBlock := fun e => by have := hne _ e.symm; omega
      have q0 : some w.heap.size ≠ vo.ownBlock := fun e => by have := hne _ e.symm; omega
      have hl0 := cell_lt hc0
      have hl1 := cell_lt hc1
      clear hne
      go_wp2_with fail
      go_region_law (first
        | (refine step_append_slice (by rfl) (.tmp 15) (.tmp 19) 23 (by rfl) wr.heap.size 3 j0 (.int .i64 0) 8 Tryz.underlying23 hj0 hy0 hy1 hy2 (by rfl) (.slice none 0 0) 0 [] (by simp [Act.eval]) (World.ownsRow_nil _ _ _ _) (.slice a1 x.length p1) (x.map (Value.int .i64)) (by simp [Act.eval]) i2 (ints_one x) (by simp; omega) (by unfold maxLen; simp; omega) (Nat.le_refl _) ?_; intro v1 w1 hown1 hg1 hl1'; have hB1 : Below wr.heap.size wr w1 := below_nil hg1; have c1 : w1.cell? ⟨w.heap.size + 1, 0, none⟩ = some vo := (hB1.cell (p := ⟨w.heap.size + 1, 0, none⟩) hl1).trans hc1; have hfm := ints_made hown1; have HFM : Hid (IntsIn (fun b => wr.heap.size ≤ b) w1 v1 x) := hfm; obtain ⟨a2, p2, rfl, -, -⟩ := hfm.open_; have c1a : ∀ o, (w1.alloc o).cell? ⟨w.heap.size + 1, 0, none⟩ = some vo := fun o => cell_kept c1 (World.grownBy_alloc w1 o none) (fun r e => by cases e); obtain ⟨vs, ho1, ho2⟩ := HAT.out.own.below hB1; have HO1 : Hid (w1.ownsRow (w.heap.size + 2) 23 1 vo (l.take k).length vs) := ho1; have HO2 : Hid (∀ (k' : Nat) (u : Value) (x : List Int), vs[k']? = some u → (l.take k)[k']? = some x → IntsIn (fun b => w.heap.size + 2 ≤ b ∧ some b ≠ vo.ownBlock) w1 u x) := ho2; rw [HTK.out] at ho1; have hbs1 := hB1.size; have z1 : w1.frozen? ⟨w.heap.size + 1, 0, none⟩ = false := (hB1.frozen (p := ⟨w.heap.size + 1, 0, none⟩) hl1).trans hf1; have c0 : w1.cell? ⟨w.heap.size, 0, none⟩ = some (.slice none 0 0) ∧ w1.frozen? ⟨w.heap.size, 0, none⟩ = false := ⟨(hB1.cell (p := ⟨w.heap.size, 0, none⟩) hl0).trans hc0, (hB1.frozen (p := ⟨w.heap.size, 0, none⟩) hl0).trans hf0⟩; clear hown1 hg1 hl1' hfm ho2)
        | (refine step_append_slice (by rfl) (.tmp 14) (.tmp 21) 22 (by rfl) (w.heap.size + 2) 23 i0 (.slice none 0 0) 24 Tryz.underlying22 hi hz0 hz1 hz2 (by rfl) vo k vs (by simp [Act.eval]) (ho1.alloc _) (.slice (some ⟨w1.heap.size, 0, none⟩) 1 1) [.slice a2 x.length p2] (by simp [Act.eval]) (slice_one _ _ _) (by simp [Value.oneCell']) (by simp; omega) (by unfold maxLen; simp; omega) (by simp; omega) ?_; intro v2 w2 hown2 hg2 hl2'; have d1 := far_kept hg2 (p := ⟨w.heap.size + 1, 0, none⟩) ⟨c1, z1⟩ q1; have d0 := far_kept hg2 (p := ⟨w.heap.size, 0, none⟩) c0 q0; have e1 := d1.1; have f1 := d1.2; obtain ⟨g3, p3, rfl, -, -⟩ := hown2.form (by simp); have HC : Hid (CxAt l w (k + 1) (.slice (some ⟨g3, 0, none⟩) (k + 1) p3) (w2.setCell ⟨w.heap.size + 1, 0, none⟩ (.slice (some ⟨g3, 0, none⟩) (k + 1) p3))) := cx_step hlt HX.out HAT.out hB1 HO1.out HO2.out HFM.out hown2 hg2 hl2' d0 d1; clear hown2 hg2 hl2'))
      all_goals go_wp2
      all_goals go_roundw
      all_goals first
        | (go_light; exact ⟨k + 1, _, hlt, by go_num, HC.out⟩)
        | (go_light; simp [intOf]; omega)
    · obtain rfl : k = l.length := by omega
      have hrow := HAT.out.own.rows
      rw [List.take_length] at hrow
      have HRW : Hid (Rows wr vo l) := hrow
      obtain ⟨a4, p4, rfl, -, -⟩ := hrow.open_
      clear hrow ha hl
      have c2 := World.cell?_setCell_same' wr ⟨w.heap.size, 0, none⟩ (.slice a4 l.length p4) (by rw [hc0]; rfl)
      go_wp2
      refine bodyPost_ret (v := .agg #[.slice a4 l.length p4]) ?_ rfl ?_
      · simp [results, Tryz.f9, go_sem, c2]
      · have hB1 := HAT.out.below.setCell (p := ⟨w.heap.size, 0, none⟩) (Nat.le_refl _) (.slice a4 l.length p4)
        refine ⟨_, rfl, ?_, hB1⟩
        have hown := HAT.out.own.setCell (p := ⟨w.heap.size, 0, none⟩) (by show w.heap.size < w.heap.size + 2; omega) (.slice a4 l.length p4)
        rw [List.take_length] at hown
        exact hown.rows

end Go.Proofs.YthmjdfjchhohgaaGreatDoor

namespace Go.Proofs.YthmjdfjchhohgaaGreatDoor
open Go.RowKit Go.Sort

set_option maxRecDepth 100000 in
theorem together_in (vf vg : Value) (f g : List Int) (w : World) (hf : Ints w vf f) (hg : Ints w vg g) (hfl : f.length ≤ 400) (hgl : g.length ≤ 400) :
    Calls Tryz.prog 64 #[vf, vg] w fun e w' => ∃ v out, e = .returned v ∧ IntsIn (fun b => w.heap.size ≤ b) w' v out ∧ Rising out ∧ (∀ x, x ∈ out ↔ x ∈ f ∨ x ∈ g) ∧ Below w.heap.size w w' := by
  obtain ⟨j0, hj0, hy0, hy1, hy2⟩ := info_parts Tryz.info3
  have HG : Hid (Ints w vg g) := hg
  obtain ⟨af, cf, rfl, -, -⟩ := hf.open_
  obtain ⟨ag, cg, rfl, -, -⟩ := hg.open_
  go_enter Tryz.func64, Tryz.ntmps64
  go_wp2_with (first
    | (at_builtin; refine wpList_append_slice rfl (.tmp 8) (.tmp 9) 23 rfl w.heap.size 3 j0 (.int .i64 0) 8 Tryz.underlying23 hj0 hy0 hy1 hy2 rfl _ _ _ rfl (World.ownsRow_nil _ _ _ _) _ (f.map (Value.int .i64)) rfl hf (ints_one f) (by simp; omega) (by unfold maxLen; simp; omega) (Nat.le_refl _) ?_; intro v1 w1 hown1 hg1 hl1; have hB1 : Below w.heap.size w w1 := (Below.refl _ w).grown hg1 (Nat.le_refl _) (fun j hj => by cases hj); have hbs := hB1.size; have hgi : Ints w1 (.slice ag g.length cg) g := HG.out.below hB1; rw [Nat.zero_add, List.nil_append] at hown1)
    | (at_builtin; refine wpList_append_slice rfl (.tmp 11) (.tmp 12) 23 rfl w.heap.size 3 j0 (.int .i64 0) 8 Tryz.underlying23 hj0 hy0 hy1 hy2 rfl _ _ _ rfl hown1 _ (g.map (Value.int .i64)) rfl hgi (ints_one g) (by simp; omega) (by unfold maxLen; simp; omega) hbs ?_; intro v2 w2 hown2 hg2 hl2)
    | fail)
  have hB2 : Below w.heap.size w w2 := hB1.grown hg2 hbs (fun j hj => (hown1.lt j hj).1)
  have hi2 : Ints w2 v2 (f ++ g) := by
    have := slice_of_owns (S := anyBlock) hown2 (fun _ _ _ => trivial)
    rw [← List.map_append] at this
    exact this
  have hso := sorted_ v2 (f ++ g) w2 hi2 (by simp; omega)
  obtain ⟨a2, c2, rfl, -, -⟩ := hi2.open_
  clear hown1 hown2 hg1 hl1 hg2 hl2 hi2 hgi hf hg
  go_wp2_with fail
  refine hso.mono ?_
  clear hso
  rintro e w3 ⟨v3, out, rfl, h1, h2, h3, -, h5⟩
  have HO : Hid (IntsIn (fun b => w.heap.size ≤ b) w3 v3 out ∧ Rising out ∧ ∀ x, x ∈ out ↔ x ∈ f ∨ x ∈ g) := ⟨SliceIn.mono h1 (fun b _ h => Nat.le_trans hB2.size h), h2, fun x => by rw [h3, List.mem_append]⟩
  clear h1 h2 h3
  go_wp2
  go_ret
  exact ⟨_, out, rfl, HO.out.1, HO.out.2.1, HO.out.2.2, hB2.trans (h5.mono hB2.size)⟩

theorem together_ (vf vg : Value) (f g : List Int) (w : World) (hf : Ints w vf f) (hg : Ints w vg g) (hfl : f.length ≤ 400) (hgl : g.length ≤ 400) :
    Calls Tryz.prog 64 #[vf, vg] w fun e w' => ∃ v out, e = .returned v ∧ Ints w' v out ∧ Rising out ∧ (∀ x, x ∈ out ↔ x ∈ f ∨ x ∈ g) ∧ Below w.heap.size w w' := by
  refine (together_in vf vg f g w hf hg hfl hgl).mono ?_
  rintro e w' ⟨v, out, h1, h2, h3⟩
  exact ⟨v, out, h1, h2.any, h3⟩

end Go.Proofs.YthmjdfjchhohgaaGreatDoor

namespace Go.Proofs.YthmjdfjchhohgaaGreatDoor
open Go.RowKit Go.Sort

/-- The vertices of all faces. -/
def vertI (p : List (List Int)) : List Int := p.flatMap (fun x => if x.length = 1 then x else [])
theorem vertI_succ {p : List (List Int)} {k : Nat} (hk : k < p.length) : vertI (p.take (k + 1)) = vertI (p.take k) ++ (if (p[k]?.getD []).length = 1 then p[k]?.getD [] else []) := by
  unfold vertI
  rw [List.take_add_one, List.getElem?_eq_getElem hk, List.flatMap_append, Option.getD_some]
  simp
theorem vertI_length (p : List (List Int)) : (vertI p).length ≤ p.length := by
  unfold vertI
  induction p with
  | nil => simp
  | cons x p ih =>
    rw [List.flatMap_cons, List.length_append, List.length_cons]
    by_cases h : x.length = 1
    · rw [if_pos h]; omega
    · rw [if_neg h, List.length_nil]; omega
theorem vertI_mem {p : List (List Int)} {v : Int} : v ∈ vertI p ↔ [v] ∈ p := by
  unfold vertI
  rw [List.mem_flatMap]
  constructor
  · rintro ⟨x, hx, hv⟩
    split at hv
    · rename_i h1
      obtain ⟨u, rfl⟩ := List.length_eq_one_iff.1 h1
      simp at hv; subst hv; exact hx
    · cases hv
  · intro h
    exact ⟨[v], h, by simp⟩
theorem ahead_one {u v : Int} (h : ahead [u] [v] = true) : u < v := by
  rcases Int.lt_trichotomy u v with h1 | h1 | h1
  · exact h1
  · subst h1; rw [ahead_irrefl] at h; cases h
  · have := ahead_asymm [u] [v] h
    have h2 : ahead [v] [u] = true := by unfold ahead; rw [if_neg (by omega)]; exact decide_eq_true h1
    rw [h2] at this; cases this
theorem vertI_rising {p : List (List Int)} (h : Order p) : Rising (vertI p) := by
  induction p with
  | nil => exact List.Pairwise.nil
  | cons x p ih =>
    have h' := List.pairwise_cons.1 h
    show Rising ((if x.length = 1 then x else []) ++ vertI p)
    refine List.pairwise_append.2 ⟨?_, ih h'.2, ?_⟩
    · split
      · rename_i h1
        obtain ⟨u, rfl⟩ := List.length_eq_one_iff.1 h1
        simp
      · exact List.Pairwise.nil
    · intro u hu v hv
      split at hu
      · rename_i h1
        obtain ⟨u', rfl⟩ := List.length_eq_one_iff.1 h1
        simp at hu; subst hu
        exact ahead_one (h'.1 _ (vertI_mem.1 hv))
      · cases hu
/-- The last vertex is the greatest one. -/
theorem vertI_last {l p : List (List Int)} (g : Good l p) : (vertI p = [] ∧ topV p = -1) ∨ (vertI p ≠ [] ∧ (vertI p).getLast?.getD (-1) = topV p) := by
  have hr := vertI_rising g.isAll.order
  have hone : ∀ x ∈ p, ∀ v ∈ x, v ∈ vertI p := fun x hx v hv => vertI_mem.2 (g.sub hx (List.singleton_sublist.2 hv) (by simp))
  have hin := topV_in g.nonneg
  by_cases h0 : vertI p = []
  · refine .inl ⟨h0, ?_⟩
    rcases hin with h | ⟨x, hx, hv⟩
    · exact h
    · have := hone x hx _ hv
      rw [h0] at this; cases this
  · refine .inr ⟨h0, ?_⟩
    cases e : (vertI p).getLast? with
    | none => exact absurd (List.getLast?_eq_none_iff.1 e) h0
    | some v =>
      have hv : v ∈ vertI p := List.mem_of_getLast? e
      have h1 := topV_max g.rising (vertI_mem.1 hv) (List.mem_singleton.2 rfl)
      have h2 := g.nonneg _ (vertI_mem.1 hv) v (by simp)
      rw [Option.getD_some]
      rcases hin with h | ⟨x, hx, hv'⟩
      · omega
      · have h3 := last_max hr (hone x hx _ hv')
        rw [e, Option.getD_some] at h3
        omega

set_option maxRecDepth 100000 in
set_option maxHeartbeats 1000000 in
theorem vertices_ (va : Value) (p : List (List Int)) (w : World) (ha : Rows w va p) (hl : p.length ≤ 1000) :
    Calls Tryz.prog 32 #[va] w fun e w' => ∃ v, e = .returned v ∧ IntsIn (fun b => w.heap.size ≤ b) w' v (vertI p) ∧ Below w.heap.size w w' := by
  obtain ⟨j0, hj0, hy0, hy1, hy2⟩ := info_parts Tryz.info3
  obtain ⟨a, ca, rfl, -, hc⟩ := ha.open_
  clear ha
  go_enter Tryz.func32, Tryz.ntmps32
  go_wp2
  go_loopw [3, 4] (fun v q W => ∃ k : Nat, k ≤ p.length ∧ q = .int .i64 k ∧ W.ownsRow w.heap.size 3 1 v (vertI (p.take k)).length ((vertI (p.take k)).map (Value.int .i64)) ∧ Below w.heap.size w W)
    (fun _ q _ => p.length - (intOf q).toNat)
  case atStart => exact ⟨0, by omega, rfl, by simp [vertI]; exact World.ownsRow_nil _ _ _ _, Below.refl _ _⟩
  case round =>
    obtain ⟨k, hk, rfl, hown, hB⟩ := hrel
    have hml : (vertI (p.take k)).length ≤ 1000 := by have := vertI_length (p.take k); simp at this; omega
    obtain ⟨t, ht⟩ : ∃ t, vertI (p.take k) = t := ⟨_, rfl⟩
    rw [ht] at hown hml
    have HT : Hid (vertI (p.take k) = t) := ht
    have hbs := hB.size
    clear ht
    by_cases hlt : k < p.length
    · obtain ⟨b, o, rfl, -, hb, c⟩ := hc (by omega)
      obtain ⟨a1, p1, g1, i1⟩ := c k hlt
      have hst := vertI_succ hlt
      obtain ⟨x, hxe⟩ : ∃ x, p[k]?.getD [] = x := ⟨_, rfl⟩
      rw [hxe] at g1 i1 hst
      rw [HT.out] at hst
      have HST : Hid (vertI (p.take (k + 1)) = t ++ (if x.length = 1 then x else [])) := hst
      have g2 : wr.cell? ⟨b, o + k, none⟩ = some (.slice a1 x.length p1) := (hB.cell (p := ⟨b, o + k, none⟩) hb).trans g1
      clear hxe hst c hc
      by_cases hq : x.length = 1
      · obtain ⟨y, rfl⟩ := List.length_eq_one_iff.1 hq
        obtain ⟨a1', p1', e1, -, hx1⟩ := i1.open_
        obtain ⟨rfl, rfl⟩ : a1 = a1' ∧ p1 = p1' := by simpa using e1
        obtain ⟨b1, o1, rfl, -, hb1, hc1⟩ := hx1 (by simp)
        have g3 := (hB.cell (p := ⟨b1, o1 + 0, none⟩) hb1).trans (hc1 0 (by simp))
        simp only [List.length_cons, List.length_nil, Nat.zero_add, Nat.add_zero, List.getElem?_cons_zero, Option.getD_some] at g2 g3
        clear hq e1 hx1 hc1 i1 g1
        go_wp2_with (first
          | (at_builtin; refine wpList_append_slice rfl (.tmp 17) (.tmp 24) 23 rfl w.heap.size 3 j0 (.int .i64 0) 8 Tryz.underlying23 hj0 hy0 hy1 hy2 rfl _ _ _ rfl (hown.alloc _) _ [.int .i64 y] rfl (slice_one _ _ _) (by simp [Value.oneCell']) (by simp; omega) (by unfold maxLen; simp; omega) (by simp; omega) ?_; intro v3 w4 hown3 hg3 hl3)
          | go_in)
        (try go_frame)
        go_roundw
        case rel => exact ⟨k + 1, by omega, by go_num, by rw [HST.out, if_pos (by simp)]; simpa using hown3, (hB.alloc hbs _).grown hg3 (by simp; omega) (fun j hj => (hown.lt j hj).1)⟩
        case measure => simp [intOf]; omega
      · have hqb : ((x.length : Int) == 1) = false := beq_false_of_ne (by omega)
        have HQ : Hid (¬ x.length = 1) := hq
        clear hq i1 g1
        go_wp2
        go_roundw
        case rel => exact ⟨k + 1, by omega, by go_num, by rw [HST.out, if_neg HQ.out, List.append_nil]; exact hown, hB⟩
        case measure => simp [intOf]; omega
    · obtain rfl : k = p.length := by omega
      have HTX : Hid (vertI p = t) := by
        have := HT.out
        rwa [List.take_length] at this
      have HI : Hid (IntsIn (fun b => w.heap.size ≤ b) wr u3 t) := slice_of_owns hown (fun b hb _ => hb)
      clear hc hown
      go_wp2
      go_ret
      exact ⟨_, rfl, by rw [HTX.out]; exact HI.out, hB⟩

end Go.Proofs.YthmjdfjchhohgaaGreatDoor
