/- What the statements' Cx answers: the same sets, in memory of its own. -/
import Derived.Test.YtklagnmkfbjagaaGreatDoorMake
import Derived.Deep.RegionLaw
import Derived.Deep.RegionHeld3
import Derived.Deep.AppendLies
import Derived.Deep.Light
namespace Go.Proofs.YtklagnmkfbjagaaGreatDoor
open Go.RowKit Go.Sort

/-- A slice is appended onto a row of the call's own, as a run. -/
theorem run_append_slice {P : Program} (w : World) (t ty : TypeId) (base : Nat) (e : TypeId) (i : TypeInfo) (z : Value) (bytes : Nat) (ht : P.underlying t = some (.slice e)) (hi : P.info? e = some i) (hz : i.zero = some z)
    (hsize : i.size = 1) (hby : i.bytes = bytes) (hzs : z.cells.size = 1) (v : Value) (n : Nat) (xs : List Value) (hown : w.ownsRow base e 1 v n xs)
    {S : Nat → Prop} (u : Value) (news : List Value) (hu : SliceIn S w u news) (h1 : ∀ c ∈ news, c.oneCell' = true)
    (hbytes : (n + news.length) * bytes ≤ 140737488355328) (h63 : n + news.length ≤ maxLen) (hbase : base ≤ w.heap.size) :
    ∃ v' w', (Builtin.append_ #[t, t] ty #[v, u]).run P w = .ok v' w' ∧ w'.ownsRow base e 1 v' (n + news.length) (xs ++ news) ∧ w.grownBy w' v.ownBlock ∧ (v'.ownBlock = v.ownBlock ∨ v'.ownBlock = some w.heap.size) := by
  obtain ⟨ao, cap, rfl, ⟨hc, hn⟩, hcs⟩ := hu
  cases ao with
  | none =>
    obtain rfl := hn rfl
    have hnil : news = [] := List.eq_nil_of_length_eq_zero (by omega)
    subst hnil
    exact ⟨v, w, run_append_owned_none (P := P) (w := w) base t ty e i 1 ht hi v n xs hown, by simpa using hown, ⟨rfl, rfl, rfl, Nat.le_refl _, fun _ _ _ => rfl⟩, .inl rfl⟩
  | some ad =>
    obtain ⟨v', w', hr, h2, h3, _, h5⟩ := run_append_own_at (P := P) w base t ty e i z 1 bytes ht hi hz hsize hby hzs (by decide) v n xs hown ad news.length cap news (by simp) (fun j c hj => by
      have hl : 0 < news.length := by
        have := (List.getElem?_eq_some_iff.1 hj).1
        omega
      obtain ⟨b, off, e1, _, e3⟩ := hcs hl
      cases e1
      rw [Addr.add_lit]
      exact e3 j c hj) h1 h63 hbytes hbase
    exact ⟨v', w', hr, h2, h3, h5⟩

/-- The same at a step of a region that draws its order. -/
theorem step_append_slice {P : Program} {w : World} {ops : Array Oper} {o : Oper} {a : Act} {K : Act → World → Prop} {Q : Exit → Act → World → Prop} {E : Prop} (hgd : o.guard = none) (s x : Operand) (t : TypeId)
    (ho : o.op = .call { callee := .builtin .append, args := #[s, x], argTypes := #[t, t] })
    (base : Nat) (e : TypeId) (i : TypeInfo) (z : Value) (bytes : Nat) (ht : P.underlying t = some (.slice e)) (hi : P.info? e = some i) (hz : i.zero = some z)
    (hsize : i.size = 1) (hby : i.bytes = bytes) (hzs : z.cells.size = 1) (v : Value) (n : Nat) (xs : List Value) (hs : a.eval s = v) (hown : w.ownsRow base e 1 v n xs)
    {S : Nat → Prop} (u : Value) (news : List Value) (hx : a.eval x = u) (hu : SliceIn S w u news) (h1 : ∀ c ∈ news, c.oneCell' = true)
    (hbytes : (n + news.length) * bytes ≤ 140737488355328) (h63 : n + news.length ≤ maxLen) (hbase : base ≤ w.heap.size)
    (h : ∀ v' w', w'.ownsRow base e 1 v' (n + news.length) (xs ++ news) → w.grownBy w' v.ownBlock → (v'.ownBlock = v.ownBlock ∨ v'.ownBlock = some w.heap.size) → K (a.put o.dst v') w') :
    if Region.wanted o (yielded ops a.tmps) = true then Oper.wp P o a w K Q else E := by
  have hw : Region.wanted o (yielded ops a.tmps) = true := by simp [Region.wanted, hgd]
  rw [if_pos hw]
  obtain ⟨v', w', hr, h2, h3, h4⟩ := run_append_slice (P := P) w t o.type base e i z bytes ht hi hz hsize hby hzs v n xs hown u news hu h1 hbytes h63 hbase
  unfold Oper.wp execOp
  simp only [ho, resolve, invoke, builtin, Sem.run_bind, Sem.run_pure, Result.andThen_ok, List.map_toArray, List.map_cons, List.map_nil, hs, hx, hr]
  exact h v' w' h2 h3 h4

theorem below_nil {W W' : World} (h : W.drew.grownBy W' (Value.slice none 0 0).ownBlock) : Below W.heap.size W W' := ⟨h.os, h.tape, h.output, h.size, fun k hk => h.block k hk (by simp [Value.ownBlock])⟩
theorem far_kept {w1 w2 : World} {o : Obj} {row : Option Nat} (hg : (w1.alloc o).grownBy w2 row) {p : Addr} {v : Value} (h : w1.cell? p = some v ∧ w1.frozen? p = false) (hne : some p.block ≠ row) : w2.cell? p = some v ∧ w2.frozen? p = false := by
  have hb := box_alloc o h
  have hlt := cell_lt hb.1
  exact ⟨(hg.cell_far p hlt hne).trans hb.1, (hg.frozen_far p hlt hne).trans hb.2⟩
theorem far_cell {w1 w2 : World} {o : Obj} {row : Option Nat} (hg : (w1.alloc o).grownBy w2 row) {p : Addr} {v : Value} (h : w1.cell? p = some v) (hne : some p.block ≠ row) : w2.cell? p = some v := by
  have hlt := cell_lt h
  exact (hg.cell_far p (by simp; omega) hne).trans (cell_kept h (World.grownBy_alloc w1 o none) (fun r e => by cases e))
theorem ints_made {W : World} {base : Nat} {t : TypeId} {v : Value} {x : List Int} (h : W.ownsRow base t 1 v (0 + (x.map (Value.int .i64)).length) ([] ++ x.map (Value.int .i64))) : IntsIn (fun b => base ≤ b) W v x := by
  have := slice_of_owns (S := fun b => base ≤ b) h (fun b hb _ => hb)
  rw [List.nil_append] at this
  exact this

/-- Where Cx stands: its two variables, and the first k rows. -/
structure CxAt (l : List (List Int)) (w : World) (k : Nat) (vo : Value) (wr : World) : Prop where
  two : wr.cell? ⟨w.heap.size, 0, none⟩ = some (.slice none 0 0) ∧ wr.frozen? ⟨w.heap.size, 0, none⟩ = false
  out : wr.cell? ⟨w.heap.size + 1, 0, none⟩ = some vo ∧ wr.frozen? ⟨w.heap.size + 1, 0, none⟩ = false
  own : OwnRows (w.heap.size + 2) wr vo (l.take k)
  size : w.heap.size + 2 ≤ wr.heap.size
  below : Below w.heap.size w wr

theorem cx_start (l : List (List Int)) (w : World) : CxAt l w 0 (.slice none 0 0) ((w.alloc (.cells #[.slice none 0 0] 31)).alloc (.cells #[.slice none 0 0] 31)) where
  two := box_alloc _ (box_new w _ _)
  out := by
    have := box_new (w.alloc (.cells #[.slice none 0 0] 31)) (.slice none 0 0) 31
    rwa [World.size_alloc] at this
  own := OwnRows.nil _ _
  size := by simp
  below := ((Below.refl _ w).alloc (Nat.le_refl _) _).alloc (by simp) _

theorem cx_step {l : List (List Int)} {w wr w1 w2 : World} {k : Nat} {vo v2 : Value} {x : List Int} {vs : List Value} {u : Value} {o : Obj} (hlt : k < l.length) (hx : l[k]?.getD [] = x) (h : CxAt l w k vo wr) (hB1 : Below wr.heap.size wr w1)
    (ho1 : w1.ownsRow (w.heap.size + 2) 45 1 vo (l.take k).length vs) (ho2 : ∀ (k' : Nat) (u : Value) (x : List Int), vs[k']? = some u → (l.take k)[k']? = some x → IntsIn (fun b => w.heap.size + 2 ≤ b ∧ some b ≠ vo.ownBlock) w1 u x)
    (hf : IntsIn (fun b => wr.heap.size ≤ b) w1 u x) (hown : w2.ownsRow (w.heap.size + 2) 45 1 v2 (k + 1) (vs ++ [u])) (hg : (w1.alloc o).grownBy w2 vo.ownBlock) (hl : v2.ownBlock = vo.ownBlock ∨ v2.ownBlock = some (w1.alloc o).heap.size)
    (d0 : w2.cell? ⟨w.heap.size, 0, none⟩ = some (.slice none 0 0) ∧ w2.frozen? ⟨w.heap.size, 0, none⟩ = false) (d1 : w2.cell? ⟨w.heap.size + 1, 0, none⟩ = some vo ∧ w2.frozen? ⟨w.heap.size + 1, 0, none⟩ = false) :
    CxAt l w (k + 1) v2 (w2.setCell ⟨w.heap.size + 1, 0, none⟩ v2) := by
  have htk : (l.take k).length = k := by simp; omega
  have hu : IntsIn (fun b => w.heap.size + 2 ≤ b ∧ some b ≠ vo.ownBlock) w1 u x := SliceIn.mono hf (fun b _ hge => ⟨Nat.le_trans h.size hge, fun e => by
    have := (h.own.block e.symm).2
    omega⟩)
  have hpush := OwnRows.push ho1 ho2 hu (by rw [htk]; exact hown) hg hl
  have hsz0 := h.size
  have hsz1 := hB1.size
  have hsz2 := hg.size
  rw [World.size_alloc] at hsz2
  have hBw1 : Below w.heap.size w w1 := h.below.trans (hB1.mono h.below.size)
  have hBw2 : Below w.heap.size w w2 := (hBw1.alloc (by omega) o).grown hg (by simp; omega) (fun j hj => by have := (h.own.block hj).1; omega)
  refine ⟨⟨?_, ?_⟩, ⟨?_, ?_⟩, ?_, ?_, hBw2.setCell (p := ⟨w.heap.size + 1, 0, none⟩) (by show w.heap.size ≤ w.heap.size + 1; omega) _⟩
  · rw [World.cell?_setCell_other _ _ _ _ (fun e => by have := congrArg Addr.block e; simp at this)]; exact d0.1
  · rw [World.frozen?_setCell]; exact d0.2
  · exact World.cell?_setCell_same' _ _ _ (by rw [d1.1]; rfl)
  · rw [World.frozen?_setCell]; exact d1.2
  · have e : l.take (k + 1) = l.take k ++ [x] := by
      rw [List.take_add_one, List.getElem?_eq_getElem hlt]
      rw [List.getElem?_eq_getElem hlt, Option.getD_some] at hx
      rw [hx]; rfl
    rw [e]
    exact hpush.setCell (p := ⟨w.heap.size + 1, 0, none⟩) (by show w.heap.size + 1 < w.heap.size + 2; omega) _
  · rw [World.size_setCell]; omega

set_option maxRecDepth 100000 in
set_option maxHeartbeats 2000000 in
theorem cx_ (vl : Value) (l : List (List Int)) (w : World) (hl : Rows w vl l) (hll : l.length ≤ 100000) (hle : ∀ x ∈ l, x.length ≤ 1000) :
    Calls Tryz.prog 8 #[vl] w fun e w' => ∃ v, e = .returned (.agg #[v]) ∧ Rows w' v l ∧ Below w.heap.size w w' := by
  obtain ⟨i0, hi, hz0, hz1, hz2⟩ := info_parts Tryz.info45
  obtain ⟨j0, hj0, hy0, hy1, hy2⟩ := info_parts Tryz.info3
  have HE : Hid (∀ x ∈ l, x.length ≤ 1000) := hle
  obtain ⟨a, ca, rfl, -, ha⟩ := hl.open_
  clear hle
  go_enter Tryz.func8, Tryz.ntmps8
  go_wp2
  go_loopw [4] (fun i wr => ∃ (k : Nat) (vo : Value), k ≤ l.length ∧ i = .int .i64 k ∧ CxAt l w k vo wr)
    (fun i _ => l.length - (intOf i).toNat)
  case atStart => exact ⟨0, _, by omega, rfl, cx_start l w⟩
  case round =>
    obtain ⟨k, vo, hk, rfl, hat⟩ := hrel
    have HAT : Hid (CxAt l w k vo wr) := hat
    obtain ⟨⟨hc0, hf0⟩, ⟨hc1, hf1⟩, -, hbk, hB⟩ := hat
    by_cases hlt : k < l.length
    · obtain ⟨b, o, rfl, -, hb, c⟩ := ha (by omega)
      obtain ⟨a1, p1, g1, i1⟩ := c k hlt
      have hlen : (l[k]?.getD []).length ≤ 1000 := HE.out _ (by rw [List.getElem?_eq_getElem hlt]; simp)
      obtain ⟨x, hxe⟩ : ∃ x, l[k]?.getD [] = x := ⟨_, rfl⟩
      rw [hxe] at g1 i1 hlen
      have HX : Hid (l[k]?.getD [] = x) := hxe
      have HTK : Hid ((l.take k).length = k) := by show (l.take k).length = k; simp; omega
      have g2 : wr.cell? ⟨b, o + k, none⟩ = some (.slice a1 x.length p1) := (hB.cell (p := ⟨b, o + k, none⟩) hb).trans g1
      have i2 : Ints wr.drew (.slice a1 x.length p1) x := (i1.below hB).below ⟨rfl, rfl, rfl, Nat.le_refl _, fun _ _ => rfl⟩
      have hn0 : (0 : Int) ≤ (k : Int) := by omega
      have hn1 : (k : Int) < (l.length : Int) := by omega
      clear c ha hl g1 i1 hxe
      have hne : ∀ g, vo.ownBlock = some g → w.heap.size + 2 ≤ g := fun g hg => (HAT.out.own.block hg).1
      have q1 : some (w.heap.size + 1) ≠ vo.ownBlock := fun e => by have := hne _ e.symm; omega
      have q0 : some w.heap.size ≠ vo.ownBlock := fun e => by have := hne _ e.symm; omega
      have hl0 := cell_lt hc0
      have hl1 := cell_lt hc1
      clear hne
      go_wp2_with fail
      go_region_law (first
        | (refine step_append_slice (by rfl) (.tmp 15) (.tmp 19) 45 (by rfl) wr.heap.size 3 j0 (.int .i64 0) 8 Tryz.underlying45 hj0 hy0 hy1 hy2 (by rfl) (.slice none 0 0) 0 [] (by simp [Act.eval]) (World.ownsRow_nil _ _ _ _) (.slice a1 x.length p1) (x.map (Value.int .i64)) (by simp [Act.eval]) i2 (ints_one x) (by simp; omega) (by unfold maxLen; simp; omega) (Nat.le_refl _) ?_; intro v1 w1 hown1 hg1 hl1'; have hB1 : Below wr.heap.size wr w1 := below_nil hg1; have c1 : w1.cell? ⟨w.heap.size + 1, 0, none⟩ = some vo := (hB1.cell (p := ⟨w.heap.size + 1, 0, none⟩) hl1).trans hc1; have hfm := ints_made hown1; have HFM : Hid (IntsIn (fun b => wr.heap.size ≤ b) w1 v1 x) := hfm; obtain ⟨a2, p2, rfl, -, -⟩ := hfm.open_; have c1a : ∀ o, (w1.alloc o).cell? ⟨w.heap.size + 1, 0, none⟩ = some vo := fun o => cell_kept c1 (World.grownBy_alloc w1 o none) (fun r e => by cases e); obtain ⟨vs, ho1, ho2⟩ := HAT.out.own.below hB1; have HO1 : Hid (w1.ownsRow (w.heap.size + 2) 45 1 vo (l.take k).length vs) := ho1; have HO2 : Hid (∀ (k' : Nat) (u : Value) (x : List Int), vs[k']? = some u → (l.take k)[k']? = some x → IntsIn (fun b => w.heap.size + 2 ≤ b ∧ some b ≠ vo.ownBlock) w1 u x) := ho2; rw [HTK.out] at ho1; have hbs1 := hB1.size; have z1 : w1.frozen? ⟨w.heap.size + 1, 0, none⟩ = false := (hB1.frozen (p := ⟨w.heap.size + 1, 0, none⟩) hl1).trans hf1; have c0 : w1.cell? ⟨w.heap.size, 0, none⟩ = some (.slice none 0 0) ∧ w1.frozen? ⟨w.heap.size, 0, none⟩ = false := ⟨(hB1.cell (p := ⟨w.heap.size, 0, none⟩) hl0).trans hc0, (hB1.frozen (p := ⟨w.heap.size, 0, none⟩) hl0).trans hf0⟩; clear hown1 hg1 hl1' hfm ho2)
        | (refine step_append_slice (by rfl) (.tmp 14) (.tmp 21) 22 (by rfl) (w.heap.size + 2) 45 i0 (.slice none 0 0) 24 Tryz.underlying22 hi hz0 hz1 hz2 (by rfl) vo k vs (by simp [Act.eval]) (ho1.alloc _) (.slice (some ⟨w1.heap.size, 0, none⟩) 1 1) [.slice a2 x.length p2] (by simp [Act.eval]) (slice_one _ _ _) (by simp [Value.oneCell']) (by simp; omega) (by unfold maxLen; simp; omega) (by simp; omega) ?_; intro v2 w2 hown2 hg2 hl2'; have d1 := far_kept hg2 (p := ⟨w.heap.size + 1, 0, none⟩) ⟨c1, z1⟩ q1; have d0 := far_kept hg2 (p := ⟨w.heap.size, 0, none⟩) c0 q0; have e1 := d1.1; have f1 := d1.2; obtain ⟨g3, p3, rfl, -, -⟩ := hown2.form (by simp); have HC : Hid (CxAt l w (k + 1) (.slice (some ⟨g3, 0, none⟩) (k + 1) p3) (w2.setCell ⟨w.heap.size + 1, 0, none⟩ (.slice (some ⟨g3, 0, none⟩) (k + 1) p3))) := cx_step hlt HX.out HAT.out hB1 HO1.out HO2.out HFM.out hown2 hg2 hl2' d0 d1; clear hown2 hg2 hl2'))
      all_goals go_wp2
      all_goals go_roundw
      all_goals first
        | (go_light; exact ⟨k + 1, _, hlt, by go_num, HC.out⟩)
        | (go_light; simp [intOf]; omega)
    · obtain rfl : k = l.length := by omega
      have hrow := HAT.out.own.rows
      rw [List.take_length] at hrow
      have HRW : Hid (Rows wr vo l) := hrow
      obtain ⟨a4, p4, rfl, -, -⟩ := hrow.open_
      clear hrow ha hl
      have c2 := World.cell?_setCell_same' wr ⟨w.heap.size, 0, none⟩ (.slice a4 l.length p4) (by rw [hc0]; rfl)
      go_wp2
      refine bodyPost_ret (v := .agg #[.slice a4 l.length p4]) ?_ rfl ?_
      · simp [results, Tryz.f8, go_sem, c2]
      · have hB1 := HAT.out.below.setCell (p := ⟨w.heap.size, 0, none⟩) (Nat.le_refl _) (.slice a4 l.length p4)
        refine ⟨_, rfl, ?_, hB1⟩
        have hown := HAT.out.own.setCell (p := ⟨w.heap.size, 0, none⟩) (by show w.heap.size < w.heap.size + 2; omega) (.slice a4 l.length p4)
        rw [List.take_length] at hown
        exact hown.rows

end Go.Proofs.YtklagnmkfbjagaaGreatDoor
