/- What the reference's JoinOf answers: the sets of a join. -/
import Derived.Test.YtopopbhpclhinaaGreatDoorRefJoin
namespace Go.Proofs.YtopopbhpclhinaaGreatDoor
open Go.RowKit Go.Sort

/-- A row of the call's own whose elements are slices of numbers that lie elsewhere. -/
def FreeRows (base : Nat) (w : World) (v : Value) (xss : List (List Int)) : Prop :=
  ∃ vs : List Value, w.ownsRow base 39 1 v xss.length vs ∧ ∀ (k : Nat) (u : Value) (x : List Int), vs[k]? = some u → xss[k]? = some x → IntsIn (fun b => some b ≠ v.ownBlock) w u x
theorem FreeRows.nil (base : Nat) (w : World) : FreeRows base w (.slice none 0 0) [] := ⟨[], World.ownsRow_nil _ _ _ _, fun k u x hu => by simp at hu⟩
theorem FreeRows.below {base : Nat} {w w' : World} {v : Value} {xss : List (List Int)} (h : FreeRows base w v xss) (hB : Below w.heap.size w w') : FreeRows base w' v xss := by
  obtain ⟨vs, h1, h2⟩ := h
  exact ⟨vs, h1.kept (Below.grownBy hB) (by cases v.ownBlock <;> simp), fun k u x hu hx => (h2 k u x hu hx).below hB⟩
theorem FreeRows.rows {base : Nat} {w : World} {v : Value} {xss : List (List Int)} (h : FreeRows base w v xss) : Rows w v xss := by
  obtain ⟨vs, h1, h2⟩ := h
  exact ⟨vs, slice_of_owns h1 (fun _ _ _ => trivial), by have := h1.1; simpa using this, fun k u x hu hx => (h2 k u x hu hx).any⟩
theorem FreeRows.append {base : Nat} {w w3 : World} {v v' : Value} {xss yss : List (List Int)} {vs news : List Value}
    (h1 : w.ownsRow base 39 1 v xss.length vs) (h2 : ∀ (k : Nat) (u : Value) (x : List Int), vs[k]? = some u → xss[k]? = some x → IntsIn (fun b => some b ≠ v.ownBlock) w u x)
    (hn : news.length = yss.length) (hy : ∀ (k : Nat) (u : Value) (x : List Int), news[k]? = some u → yss[k]? = some x → IntsIn (fun b => some b ≠ v.ownBlock) w u x)
    (hown : w3.ownsRow base 39 1 v' (xss.length + news.length) (vs ++ news)) (hg : w.grownBy w3 v.ownBlock) (hl : v'.ownBlock = v.ownBlock ∨ v'.ownBlock = some w.heap.size) :
    FreeRows base w3 v' (xss ++ yss) := by
  have key : ∀ {u : Value} {x : List Int}, IntsIn (fun b => some b ≠ v.ownBlock) w u x → IntsIn (fun b => some b ≠ v'.ownBlock) w3 u x := fun {u x} h => by
    have h' : IntsIn (fun b => some b ≠ v.ownBlock ∧ some b ≠ v'.ownBlock) w u x := SliceIn.mono h (fun b hb hne => ⟨hne, fun e => by
      rcases hl with hl | hl
      · exact hne (e.trans hl)
      · rw [hl] at e; simp at e; omega⟩)
    have h'' : IntsIn (fun b => some b ≠ v.ownBlock ∧ some b ≠ v'.ownBlock) w3 u x := SliceIn.keep h' (fun b hb hne => hg.block b hb hne.1)
    exact SliceIn.mono h'' (fun b _ hne => hne.2)
  have hvl : vs.length = xss.length := by have := h1.1; simpa using this
  refine ⟨vs ++ news, by rw [List.length_append, ← hn]; exact hown, fun k u x hu hx => ?_⟩
  rw [List.getElem?_append] at hu hx
  rw [hvl] at hu
  by_cases hk : k < xss.length
  · rw [if_pos hk] at hu hx
    exact key (h2 k u x hu hx)
  · rw [if_neg hk] at hu hx
    exact key (hy _ u x hu hx)
/-- One more row, behind its append. -/
theorem FreeRows.push {base : Nat} {w w3 : World} {v v' u : Value} {xss : List (List Int)} {x : List Int} {vs : List Value} {o : Obj}
    (h1 : w.ownsRow base 39 1 v xss.length vs) (h2 : ∀ (k : Nat) (u : Value) (x : List Int), vs[k]? = some u → xss[k]? = some x → IntsIn (fun b => some b ≠ v.ownBlock) w u x)
    (hu : IntsIn (fun b => some b ≠ v.ownBlock) w u x) (hown : w3.ownsRow base 39 1 v' (xss.length + 1) (vs ++ [u])) (hg : (w.alloc o).grownBy w3 v.ownBlock) (hl : v'.ownBlock = v.ownBlock ∨ v'.ownBlock = some (w.alloc o).heap.size) :
    FreeRows base w3 v' (xss ++ [x]) := by
  have hB : Below w.heap.size w (w.alloc o) := (Below.refl _ w).alloc (Nat.le_refl _) o
  refine FreeRows.append (news := [u]) (yss := [x]) (h1.alloc o) (fun k u x hu hx => (h2 k u x hu hx).below hB) rfl (fun k u' x' hu' hx' => ?_) hown hg hl
  cases k with
  | zero =>
    simp at hu' hx'
    subst hu'; subst hx'
    exact hu.below hB
  | succ k => simp at hu'

theorem raise_succ {x : List Int} {k : Nat} (hk : k < x.length) (up : Int) : raise up (x.take (k + 1)) = raise up (x.take k) ++ [x[k]?.getD 0 + up] := by
  unfold raise
  rw [List.take_add_one, List.getElem?_eq_getElem hk, List.map_append]; rfl
theorem raise_len (up : Int) (x : List Int) : (raise up x).length = x.length := by simp [raise]
theorem map_succ {q : List (List Int)} {k : Nat} (hk : k < q.length) (f : List Int → List Int) : (q.take (k + 1)).map f = (q.take k).map f ++ [f (q[k]?.getD [])] := by
  rw [List.take_add_one, List.getElem?_eq_getElem hk, List.map_append]; rfl
/-- The sets so far. -/
def stepTo (f g : List (List Int)) (i : Nat) : List (List Int) := f ++ g ++ (f.take i).flatMap (fun x => g.map (fun y => x ++ y))
theorem stepTo_succ {f g : List (List Int)} {i : Nat} (hi : i < f.length) : stepTo f g (i + 1) = stepTo f g i ++ g.map (fun y => (f[i]?.getD []) ++ y) := by
  unfold stepTo
  rw [List.take_add_one, List.getElem?_eq_getElem hi, List.flatMap_append, ← List.append_assoc]
  simp
theorem stepTo_all (f g : List (List Int)) : stepTo f g f.length = stepI f g := by
  unfold stepTo stepI
  rw [List.take_length]
theorem stepTo_len (f g : List (List Int)) (i : Nat) : (stepTo f g i).length ≤ f.length + g.length + i * g.length := by
  unfold stepTo
  rw [List.length_append, List.length_append]
  have : ∀ l : List (List Int), (l.flatMap (fun x => g.map (fun y => x ++ y))).length = l.length * g.length := by
    intro l
    induction l with
    | nil => simp
    | cons x l ih => rw [List.flatMap_cons, List.length_append, ih]; simp [Nat.succ_mul]; omega
  rw [this, List.length_take]
  have := Nat.mul_le_mul_right g.length (Nat.min_le_left i f.length)
  omega
theorem drew_below (W : World) : Below W.heap.size W W.drew := ⟨rfl, rfl, rfl, Nat.le_refl _, fun _ _ => rfl⟩

set_option maxRecDepth 100000 in
set_option maxHeartbeats 4000000 in
theorem join_of {la lb : List (List Int)} (va vb : Value) (p q : List (List Int)) (ga : Good la p) (gb : Good lb q) (w : World) (ha : Rows w va p) (hb : Rows w vb q) (hp : p.length ≤ 40) (hq : q.length ≤ 40) :
    Calls Tryz.prog 11 #[va, vb] w fun e w' => ∃ v, e = .returned v ∧ Rows w' v (joinS p q) ∧ Below w.heap.size w w' := by
  obtain ⟨i0, hi, hz0, hz1, hz2⟩ := info_parts Tryz.info39
  obtain ⟨j0, hj0, hy0, hy1, hy2⟩ := info_parts Tryz.info3
  have hve := vertices_ va p w ha (by omega)
  have HA : Hid (Rows w va p) := ha
  have HB : Hid (Rows w vb q) := hb
  have HG : Hid (Good la p ∧ Good lb q) := ⟨ga, gb⟩
  have hp1 := topV_ge (l := p)
  have hp2 := ga.top
  have hlast := vertI_last ga
  obtain ⟨aa, ca, rfl, -, -⟩ := ha.open_
  obtain ⟨ab, cb, rfl, -, -⟩ := hb.open_
  obtain ⟨P, hPe⟩ : ∃ P, topV p = P := ⟨_, rfl⟩
  have HPE : Hid (topV p = P) := hPe
  rw [hPe] at hp1 hp2 hlast
  clear ha hb ga gb hPe
  go_enter Tryz.func11, Tryz.ntmps11
  go_wp2_with fail
  refine hve.mono ?_
  clear hve
  rintro e w1 ⟨v1, rfl, hv1, hB1⟩
  obtain ⟨a1, c1, rfl, -, hx1⟩ := hv1.open_
  have hvl : (vertI p).length ≤ 40 := by have := vertI_length p; omega
  obtain ⟨vs, hvs⟩ : ∃ vs, vertI p = vs := ⟨_, rfl⟩
  rw [hvs] at hx1 hlast hvl ⊢
  have HB1 : Hid (Below w.heap.size w w1) := hB1
  clear hv1 hB1 hvs
  have hmore : vs.length = 0 ∧ P = -1 ∨ 0 < vs.length ∧ ∃ b off, a1 = some ⟨b, off, none⟩ ∧ w1.cell? ⟨b, off + (vs.length - 1), none⟩ = some (.int .i64 P) := by
    rcases hlast with ⟨h0, h1⟩ | ⟨h0, h1⟩
    · exact .inl ⟨by rw [h0]; rfl, h1⟩
    · have h2 := List.length_pos_iff.2 h0
      obtain ⟨b, off, e1, -, -, h3⟩ := hx1 h2
      refine .inr ⟨h2, b, off, e1, ?_⟩
      rw [h3 (vs.length - 1) (by omega), ← h1, List.getLast?_eq_getElem?, List.getElem?_eq_getElem (by omega)]; rfl
  clear hx1 hlast
  rcases hmore with ⟨hv0, hP0⟩ | ⟨hv0, b1, o1, rfl, hcell⟩
  · have hvb : decide ((vs.length : Int) > 0) = false := decide_eq_false (by omega)
    have hU0 : 0 ≤ 0 := by omega
    have hU9 : 0 ≤ 100 := by omega
    have HUP : Hid (topV p + 1 = 0) := by
      show topV p + 1 = 0
      have := HPE.out
      omega
    go_wp2
    go_loopw [7, 8] (fun v r wr => ∃ i : Nat, i ≤ q.length ∧ r = .int .i64 i ∧ OwnRows w.heap.size wr v ((q.take i).map (raise 0)) ∧ Below w.heap.size w wr) (fun _ r _ => q.length - (intOf r).toNat)
    case atStart => exact ⟨0, by omega, rfl, by simp; exact OwnRows.nil _ _, HB1.out⟩
    case round =>
      obtain ⟨i, hil, rfl, hown, hB⟩ := hrel
      obtain ⟨wo, hwo⟩ : ∃ wo : World, wo = wr := ⟨_, rfl⟩
      subst hwo
      obtain ⟨rs, hrs⟩ : ∃ rs, (q.take i).map (raise 0) = rs := ⟨_, rfl⟩
      have hrl : rs.length = i := by rw [← hrs]; simp; omega
      rw [hrs] at hown
      have HRS : Hid ((q.take i).map (raise 0) = rs) := hrs
      have HRL : Hid (rs.length = i) := hrl
      have HOW : Hid (OwnRows w.heap.size wo u7 rs) := hown
      have hbs := hB.size
      clear hrs hrl hown
      by_cases hlt : i < q.length
      · obtain ⟨ab', cb', ebb, -, hcb⟩ := HB.out.open_
        obtain ⟨rfl, rfl⟩ : ab = ab' ∧ cb = cb' := by simpa using ebb
        obtain ⟨b, o, rfl, -, hb, c⟩ := hcb (by omega)
        obtain ⟨ax, cx, g1, i1⟩ := c i hlt
        have hmem : q[i]?.getD [] ∈ q := by rw [List.getElem?_eq_getElem hlt]; simp
        have HMS : Hid ((q.take (i + 1)).map (raise 0) = rs ++ [raise 0 (q[i]?.getD [])]) := by
          show (q.take (i + 1)).map (raise 0) = _
          rw [map_succ hlt, HRS.out]
        obtain ⟨x, hxe⟩ : ∃ x, q[i]?.getD [] = x := ⟨_, rfl⟩
        rw [hxe] at g1 i1 hmem HMS
        have hxl : x.length ≤ 7 := HG.out.2.short x hmem
        have HX9 : Hid (∀ v ∈ x, 0 ≤ v ∧ v ≤ 99) := (face_ok_of HG.out.2 hmem).1.2.2
        obtain ⟨ax', cx', exx, -, hcx⟩ := i1.open_
        have HCX : Hid (0 < x.length → ∃ b off, ax = some ⟨b, off, none⟩ ∧ True ∧ b < w.heap.size ∧ ∀ k, k < x.length → w.cell? ⟨b, off + k, none⟩ = some (.int .i64 (x[k]?.getD 0))) := by
          cases exx; exact hcx
        have HG1 : Hid (w.cell? ⟨b, o + i, none⟩ = some (.slice ax x.length cx)) := g1
        clear c hcb ebb hxe i1 exx hcx g1 hmem
        go_wp2
        go_loopw [9, 10] (fun v r wr => ∃ k : Nat, k ≤ x.length ∧ r = .int .i64 k ∧ wr.ownsRow wo.heap.size 3 1 v k ((raise 0 (x.take k)).map (Value.int .i64)) ∧ Below wo.heap.size wo wr) (fun _ r _ => x.length - (intOf r).toNat)
        case atStart => exact ⟨0, by omega, rfl, by simp [raise]; exact World.ownsRow_nil _ _ _ _, Below.refl _ _⟩
        case round =>
          obtain ⟨k, hk, rfl, hok, hBk⟩ := hrel
          obtain ⟨wk, hwk⟩ : ∃ wk : World, wk = wr := ⟨_, rfl⟩
          subst hwk
          have hBwk : Below w.heap.size w wk := hB.trans (hBk.mono hB.size)
          have g2 : wk.cell? ⟨b, o + i, none⟩ = some (.slice ax x.length cx) := (hBwk.cell (p := ⟨b, o + i, none⟩) hb).trans HG1.out
          have hbk := hBk.size
          by_cases hkl : k < x.length
          · obtain ⟨bx, ox, rfl, -, hbx, hcc⟩ := HCX.out (by omega)
            have g3 := (hBwk.cell (p := ⟨bx, ox + k, none⟩) hbx).trans (hcc k hkl)
            have hy9 := HX9.out (x[k]?.getD 0) (by rw [List.getElem?_eq_getElem hkl]; simp)
            have HRA := raise_succ hkl 0
            obtain ⟨y, hye⟩ : ∃ y, x[k]?.getD 0 = y := ⟨_, rfl⟩
            rw [hye] at g3 hy9 HRA
            obtain ⟨hy90, hy99⟩ := hy9
            obtain ⟨t, ht⟩ : ∃ t, (raise 0 (x.take k)) = t := ⟨_, rfl⟩
            rw [ht] at hok HRA
            have HRA2 : Hid (raise 0 (x.take (k + 1)) = t ++ [y]) := by
              show raise 0 (x.take (k + 1)) = t ++ [y]
              rw [HRA]; simp
            clear hcc hye HRA ht
            go_wp2_with (first
              | (at_builtin; refine wpList_append_slice rfl (.tmp 41) (.tmp 51) 39 rfl wo.heap.size 3 j0 (.int .i64 0) 8 Tryz.underlying39 hj0 hy0 hy1 hy2 rfl _ _ _ rfl (hok.alloc _) _ [.int .i64 (y)] rfl (slice_one _ _ _) (by simp [Value.oneCell']) (by simp; omega) (by unfold maxLen; simp; omega) (by simp; omega) ?_; intro v3 w4 hown3 hg3 hl3)
              | go_in)
            (try go_frame)
            have hB4 : Below wo.heap.size wo w4 := (hBk.alloc hbk _).grown hg3 (by simp; omega) (fun j hj => (hok.lt j hj).1)
            have hown5 : w4.ownsRow wo.heap.size 3 1 v3 (k + 1) ((raise 0 (x.take (k + 1))).map (Value.int .i64)) := by
              rw [HRA2.out, List.map_append]; exact hown3
            clear hown3 hg3 hl3
            go_roundw
            case rel => exact ⟨k + 1, by omega, by go_num, hown5, hB4⟩
            case measure => simp [intOf]; omega
          · obtain rfl : k = x.length := by omega
            rw [List.take_length] at hok
            have HI : Hid (IntsIn (fun b => wo.heap.size ≤ b) wk u9 (raise 0 x)) := slice_of_owns hok (fun b hb _ => hb)
            obtain ⟨a9, c9, e9, -, -⟩ := HI.out.open_
            rw [raise_len] at e9
            subst e9
            obtain ⟨vs2, ho1, ho2⟩ := HOW.out.below hBk
            have HO1 : Hid (wk.ownsRow w.heap.size 39 1 u7 rs.length vs2) := ho1
            have HO2 : Hid (∀ (k' : Nat) (u : Value) (x : List Int), vs2[k']? = some u → rs[k']? = some x → IntsIn (fun b => w.heap.size ≤ b ∧ some b ≠ Value.ownBlock u7) wk u x) := ho2
            rw [HRL.out] at ho1
            have HU : Hid (IntsIn (fun b => w.heap.size ≤ b ∧ some b ≠ Value.ownBlock u7) wk (.slice a9 x.length c9) (raise 0 x)) := SliceIn.mono HI.out (fun b _ hge => ⟨Nat.le_trans hB.size hge, fun e => by
              have := (HOW.out.block e.symm).2
              omega⟩)
            clear ho2 hok HI
            go_wp2_with (first
              | (at_builtin; refine wpList_append_slice rfl (.tmp 53) (.tmp 55) 22 rfl w.heap.size 39 i0 (.slice none 0 0) 24 Tryz.underlying22 hi hz0 hz1 hz2 rfl _ _ _ rfl (ho1.alloc _) _ [.slice a9 x.length c9] rfl (slice_one _ _ _) (by simp [Value.oneCell']) (by simp; omega) (by unfold maxLen; simp; omega) (by simp; omega) ?_; intro v5 w5 hown5 hg5 hl5)
              | go_in)
            (try go_frame)
            have hpush : OwnRows w.heap.size w5 v5 (rs ++ [raise 0 x]) := OwnRows.push HO1.out HO2.out HU.out (by rw [HRL.out]; exact hown5) hg5 hl5
            have hB5 : Below w.heap.size w w5 := (hBwk.alloc hBwk.size _).grown hg5 (by have := hBwk.size; simp; omega) (fun j hj => (ho1.lt j hj).1)
            clear hown5 hg5 hl5
            go_roundw
            case rel => exact ⟨i + 1, by omega, by go_num, by rw [HMS.out]; exact hpush, hB5⟩
            case measure => simp [intOf]; omega
      · obtain rfl : i = q.length := by omega
        have HQ : Hid (rs = q.map (raise 0)) := by
          have := HRS.out
          rw [List.take_length] at this
          exact this.symm
        have HRR : Hid (Rows wo u7 rs) := HOW.out.rows
        have HAA : Hid (Rows wo (.slice aa p.length ca) p) := HA.out.below hB
        obtain ⟨a7, c7, e7, -, -⟩ := HRR.out.open_
        rw [HRL.out] at e7
        subst e7
        obtain ⟨us, hus1, hus2, hus3⟩ := HAA.out
        obtain ⟨ts, hts1, hts2, hts3⟩ := HRR.out
        have HUS : Hid (∀ (k : Nat) (u : Value) (x : List Int), us[k]? = some u → p[k]? = some x → Ints wo u x) := hus3
        have HTS : Hid (∀ (k : Nat) (u : Value) (x : List Int), ts[k]? = some u → rs[k]? = some x → Ints wo u x) := hts3
        have hsu : ∀ c ∈ us, c.oneCell' = true := fun c hc => by
          obtain ⟨k, hk, rfl⟩ := List.mem_iff_getElem.1 hc
          obtain ⟨_, _, e, _⟩ := HUS.out k _ (p[k]'(by omega)) (List.getElem?_eq_getElem hk) (List.getElem?_eq_getElem (by omega))
          rw [e]; rfl
        have hst : ∀ c ∈ ts, c.oneCell' = true := fun c hc => by
          obtain ⟨k, hk, rfl⟩ := List.mem_iff_getElem.1 hc
          obtain ⟨_, _, e, _⟩ := HTS.out k _ (rs[k]'(by omega)) (List.getElem?_eq_getElem hk) (List.getElem?_eq_getElem (by omega))
          rw [e]; rfl
        have htl : ts.length ≤ 40 := by rw [hts2, HRL.out]; exact hq
        have hul : us.length ≤ 40 := by rw [hus2]; exact hp
        clear hus3 hts3
        go_wp2_with (first
          | (at_builtin; refine wpList_append_slice rfl (.tmp 57) (.tmp 58) 22 rfl wo.heap.size 39 i0 (.slice none 0 0) 24 Tryz.underlying22 hi hz0 hz1 hz2 rfl _ _ _ rfl (World.ownsRow_nil _ _ _ _) _ us rfl hus1 hsu (by simp; omega) (by unfold maxLen; simp; omega) (Nat.le_refl _) ?_; intro v5 w5 hown5 hg5 hl5; have hB5 : Below wo.heap.size wo w5 := (Below.refl _ _).grown hg5 (Nat.le_refl _) (fun j hj => by cases hj); have hf5 : FreeRows wo.heap.size w5 v5 p := FreeRows.append (xss := []) (vs := []) (World.ownsRow_nil _ _ _ _) (fun k u x hu => by simp at hu) hus2 (fun k u x hu hx => SliceIn.mono (HUS.out k u x hu hx) (fun b _ _ => by simp [Value.ownBlock])) hown5 hg5 hl5; have HF5 : Hid (FreeRows wo.heap.size w5 v5 p) := hf5; obtain ⟨vs5, h51, h52⟩ := hf5; have H52 : Hid (∀ (k : Nat) (u : Value) (x : List Int), vs5[k]? = some u → p[k]? = some x → IntsIn (fun b => some b ≠ v5.ownBlock) w5 u x) := h52; have hbs5 := hB5.size; have HL5 : Hid (v5.ownBlock = none ∨ v5.ownBlock = some wo.heap.size) := hl5; clear hown5 hg5 hl5 h52; have hts5 := SliceIn.below hts1 hB5)
          | (at_builtin; refine wpList_append_slice rfl (.tmp 60) (.tmp 61) 22 rfl wo.heap.size 39 i0 (.slice none 0 0) 24 Tryz.underlying22 hi hz0 hz1 hz2 rfl _ _ _ rfl h51 _ ts rfl hts5 hst (by omega) (by unfold maxLen; omega) hbs5 ?_; intro v6 w6 hown6 hg6 hl6)
          | fail)
        (try go_frame)
        have hf6 : FreeRows wo.heap.size w6 v6 (p ++ rs) := FreeRows.append h51 H52.out hts2 (fun k u x hu hx => SliceIn.mono (SliceIn.below (SliceIn.mono (S' := fun b => b < wo.heap.size) (HTS.out k u x hu hx) (fun b hb _ => hb)) hB5) (fun b _ hlt e => by
          rcases HL5.out with h | h
          · rw [h] at e; cases e
          · rw [h] at e; cases e; omega)) hown6 hg6 hl6
        have hB6 : Below wo.heap.size wo w6 := hB5.grown hg6 hbs5 (fun j hj => (h51.lt j hj).1)
        obtain ⟨av, cv, ev⟩ : ∃ a c, v6 = .slice a (p ++ rs).length c := by
          obtain ⟨a, c, e, -, -⟩ := hf6.rows.open_
          exact ⟨a, c, e⟩
        have HF6 : Hid (FreeRows wo.heap.size w6 v6 (p ++ rs)) := hf6
        have HB6 : Hid (Below wo.heap.size wo w6) := hB6
        have HBW : Hid (Below w.heap.size w wo) := hB
        clear hf6 hown6 hg6 hl6 h51 H52 hts5 hB5 hbs5 HF5 HL5 hus1 hus2 hts1 hts2 hsu hst htl hul HUS HTS hB6 ev hB
        go_wp2
        go_loopw [11, 12] (fun v r wr => ∃ i : Nat, i ≤ p.length ∧ r = .int .i64 i ∧ FreeRows wo.heap.size wr v (stepTo p rs i) ∧ Below wo.heap.size wo wr) (fun _ r _ => p.length - (intOf r).toNat)
        case atStart => exact ⟨0, by omega, rfl, by simp [stepTo]; exact HF6.out, HB6.out⟩
        case round =>
          obtain ⟨i, hil, rfl, hfr, hBi⟩ := hrel
          obtain ⟨wi, hwi⟩ : ∃ wi : World, wi = wr := ⟨_, rfl⟩
          subst hwi
          have HFI : Hid (FreeRows wo.heap.size wi u11 (stepTo p rs i)) := hfr
          have HBI : Hid (Below wo.heap.size wo wi) := hBi
          clear hfr hBi HF6 HB6
          by_cases hlt2 : i < p.length
          · obtain ⟨aa', ca', eaa, -, hca⟩ := HA.out.open_
            obtain ⟨rfl, rfl⟩ : aa = aa' ∧ ca = ca' := by simpa using eaa
            obtain ⟨b, o, rfl, -, hb, c⟩ := hca (by omega)
            obtain ⟨ax, cx, g1, i1⟩ := c i hlt2
            have hmem : p[i]?.getD [] ∈ p := by rw [List.getElem?_eq_getElem hlt2]; simp
            have hsl : (stepTo p rs i).length ≤ 2000 := by
              have h1 := stepTo_len p rs i
              have h2 := HRL.out
              have h3 : i * rs.length ≤ 40 * 40 := Nat.mul_le_mul (by omega) (by omega)
              omega
            have HSU : Hid (stepTo p rs (i + 1) = stepTo p rs i ++ rs.map (fun y => (p[i]?.getD []) ++ y)) := stepTo_succ hlt2
            obtain ⟨x, hxe⟩ : ∃ x, p[i]?.getD [] = x := ⟨_, rfl⟩
            rw [hxe] at g1 i1 hmem HSU
            have hxl : x.length ≤ 7 := HG.out.1.short x hmem
            have HXM : Hid (x ∈ p) := hmem
            have HG1 : Hid (w.cell? ⟨b, o + i, none⟩ = some (.slice ax x.length cx)) := g1
            have HI1 : Hid (Ints w (.slice ax x.length cx) x) := i1
            obtain ⟨acc, hacc⟩ : ∃ acc, stepTo p rs i = acc := ⟨_, rfl⟩
            rw [hacc] at hsl HFI HSU
            clear c hca eaa hxe i1 g1 hmem hacc
            go_wp2
            go_loopw [11, 13] (fun v r wr => ∃ k : Nat, k ≤ q.length ∧ r = .int .i64 k ∧ FreeRows wo.heap.size wr v (acc ++ (rs.take k).map (fun y => x ++ y)) ∧ Below wo.heap.size wo wr) (fun _ r _ => q.length - (intOf r).toNat)
            case atStart => exact ⟨0, by omega, rfl, by simp; exact HFI.out, HBI.out⟩
            case round =>
              obtain ⟨k, hk, rfl, hfr, hBk⟩ := hrel
              obtain ⟨wk, hwk⟩ : ∃ wk : World, wk = wr := ⟨_, rfl⟩
              subst hwk
              have HFK : Hid (FreeRows wo.heap.size wk u11 (acc ++ (rs.take k).map (fun y => x ++ y))) := hfr
              have HBK : Hid (Below wo.heap.size wo wk) := hBk
              have hbk := hBk.size
              clear hfr hBk HFI HBI
              by_cases hkl : k < q.length
              · obtain ⟨a7', c7', e77, -, hc7⟩ := HRR.out.open_
                have hkr : k < rs.length := by rw [HRL.out]; exact hkl
                rw [HRL.out] at e77 hc7
                obtain ⟨rfl, rfl⟩ : a7 = a7' ∧ c7 = c7' := by simpa using e77
                obtain ⟨b7, o7, rfl, -, hb7, c7x⟩ := hc7 (by omega)
                obtain ⟨ay, cy, gy, iy⟩ := c7x k hkl
                have hmy : rs[k]?.getD [] ∈ rs := by rw [List.getElem?_eq_getElem hkr]; simp
                have HMS : Hid ((rs.take (k + 1)).map (fun y => x ++ y) = (rs.take k).map (fun y => x ++ y) ++ [x ++ (rs[k]?.getD [])]) := map_succ hkr _
                obtain ⟨y, hye⟩ : ∃ y, rs[k]?.getD [] = y := ⟨_, rfl⟩
                rw [hye] at gy iy hmy HMS
                have hyq : ∃ y0 ∈ q, y = raise (topV p + 1) y0 := by
                  rw [HQ.out, ← HUP.out] at hmy
                  obtain ⟨y0, h1, h2⟩ := List.mem_map.1 hmy
                  exact ⟨y0, h1, h2.symm⟩
                have hyl : y.length ≤ 7 := by
                  obtain ⟨y0, h1, rfl⟩ := hyq
                  rw [raise_len]; exact HG.out.2.short y0 h1
                have HCAT : Hid (Rising (x ++ y)) := by
                  obtain ⟨y0, h1, rfl⟩ := hyq
                  exact cat_rising (HG.out.1.rising x HXM.out) (raise_rising (HG.out.2.rising y0 h1)) (join_low HG.out.1 HG.out.2 HXM.out h1)
                have hBwk : Below w.heap.size w wk := HBW.out.trans (HBK.out.mono HBW.out.size)
                have hBd : Below wk.heap.size wk wk.drew := drew_below wk
                have g2 : wk.cell? ⟨b, o + i, none⟩ = some (.slice ax x.length cx) := (hBwk.cell (p := ⟨b, o + i, none⟩) hb).trans HG1.out
                have g3 : wk.cell? ⟨b7, o7 + k, none⟩ = some (.slice ay y.length cy) := (HBK.out.cell (p := ⟨b7, o7 + k, none⟩) hb7).trans gy
                have hto := together_in (.slice ax x.length cx) (.slice ay y.length cy) x y wk.drew ((HI1.out.below hBwk).below hBd) ((iy.below HBK.out).below hBd) (by omega) (by omega)
                have hn0 : (0 : Int) ≤ (i : Int) := by omega
                have hn1 : (i : Int) < (p.length : Int) := by omega
                have hn2 : (0 : Int) ≤ (k : Int) := by omega
                have hn3 : (k : Int) < (q.length : Int) := by omega
                have hal : acc.length + k ≤ 2100 := by omega
                have HAL : Hid ((acc ++ (rs.take k).map (fun y => x ++ y)).length = acc.length + k) := by
                  show (acc ++ (rs.take k).map (fun y => x ++ y)).length = acc.length + k
                  simp; omega
                obtain ⟨zs, hzs⟩ : ∃ zs, acc ++ (rs.take k).map (fun y => x ++ y) = zs := ⟨_, rfl⟩
                have HZS : Hid (acc ++ (rs.take (k + 1)).map (fun y => x ++ y) = zs ++ [x ++ y]) := by
                  show acc ++ (rs.take (k + 1)).map (fun y => x ++ y) = zs ++ [x ++ y]
                  rw [HMS.out, ← List.append_assoc, hzs]
                rw [hzs] at HFK HAL
                have hzl : zs.length ≤ 2100 := by rw [HAL.out]; exact hal
                clear e77 hc7 c7x hye hmy gy iy hyq hyl hzs hal hBd
                go_wp2_with fail
                go_region_law (first
                  | (go_simp; go_at_call 31; refine hto.mono ?_; rintro e w5 ⟨v5, oo, rfl, hoo, hor, hom, hB5⟩; obtain rfl : oo = x ++ y := (rising_told hor HCAT.out (fun z => by rw [hom, List.mem_append])); obtain ⟨a5, c5, e5, -, -⟩ := hoo.open_; obtain ⟨n5, hn5⟩ : ∃ n, (x ++ y).length = n := ⟨_, rfl⟩; rw [hn5] at e5; subst e5; have hBk5 : Below wk.heap.size wk w5 := (drew_below wk).trans hB5; obtain ⟨vs5, h51, h52⟩ := HFK.out.below hBk5; have H52 : Hid (∀ (k : Nat) (u : Value) (x : List Int), vs5[k]? = some u → zs[k]? = some x → IntsIn (fun b => some b ≠ Value.ownBlock u11) w5 u x) := h52; have HU5 : Hid (IntsIn (fun b => some b ≠ Value.ownBlock u11) w5 (.slice a5 n5 c5) (x ++ y)) := SliceIn.mono hoo (fun b _ hge e => by obtain ⟨_, h5, _⟩ := HFK.out; have h6 := (h5.lt b e.symm).2; have h7 : wk.heap.size ≤ b := hge; omega); have hb5 : wo.heap.size ≤ w5.heap.size := Nat.le_trans hbk hBk5.size; have HB5 : Hid (Below wo.heap.size wo w5) := HBK.out.trans (hBk5.mono hbk); clear hoo hor hom hB5 h52 hn5 hBk5)
                  | (refine step_append_slice (by rfl) (.tmp 75) (.tmp 85) 22 (by rfl) wo.heap.size 39 i0 (.slice none 0 0) 24 Tryz.underlying22 hi hz0 hz1 hz2 (by rfl) u11 zs.length vs5 (by simp [Act.eval]) (h51.alloc _) (.slice (some ⟨w5.heap.size, 0, none⟩) 1 1) [.slice a5 n5 c5] (by simp [Act.eval]) (slice_one _ _ _) (by simp [Value.oneCell']) (by simp; omega) (by unfold maxLen; simp; omega) (by simp; omega) ?_; intro v6 w6 hown6 hg6 hl6; have HC : Hid (FreeRows wo.heap.size w6 v6 (zs ++ [x ++ y])) := FreeRows.push h51 H52.out HU5.out hown6 hg6 hl6; have HB6 : Hid (Below wo.heap.size wo w6) := (HB5.out.alloc hb5 _).grown hg6 (by simp; omega) (fun j hj => (h51.lt j hj).1); clear hown6 hg6 hl6))
                all_goals go_wp2
                all_goals go_roundw
                all_goals first
                  | (go_light; exact ⟨k + 1, hkl, by go_num, by rw [HZS.out]; exact HC.out, HB6.out⟩)
                  | (go_light; simp [intOf]; omega)
              · obtain rfl : k = q.length := by omega
                have HFE : Hid (FreeRows wo.heap.size wk u11 (stepTo p rs (i + 1))) := by
                  show FreeRows wo.heap.size wk u11 (stepTo p rs (i + 1))
                  have h1 := HFK.out
                  have h2 := HRL.out
                  rw [List.take_of_length_le (by omega)] at h1
                  rw [HSU.out]; exact h1
                clear HFK
                go_wp2
                go_roundw
                case rel => exact ⟨i + 1, by omega, by go_num, HFE.out, HBK.out⟩
                case measure => simp [intOf]; omega
          · obtain rfl : i = p.length := by omega
            have HFE : Hid (Rows wi u11 (joinS p q)) := by
              show Rows wi u11 (joinS p q)
              have h1 := HFI.out.rows
              rw [stepTo_all, HQ.out] at h1
              unfold joinS
              rw [HUP.out]; exact h1
            clear HFI
            go_wp2
            go_ret
            exact ⟨_, rfl, HFE.out, HBW.out.trans (HBI.out.mono HBW.out.size)⟩
  · have hvb : decide ((vs.length : Int) > 0) = true := decide_eq_true (by omega)
    have hn1 : (1 : Int) ≤ (vs.length : Int) := by omega
    have hnn : ((vs.length : Int) - 1).toNat = vs.length - 1 := by omega
    have hU0 : 0 ≤ (P + 1) := by omega
    have hU9 : (P + 1) ≤ 100 := by omega
    have HUP : Hid (topV p + 1 = (P + 1)) := by
      show topV p + 1 = (P + 1)
      have := HPE.out
      omega
    go_wp2
    go_loopw [7, 8] (fun v r wr => ∃ i : Nat, i ≤ q.length ∧ r = .int .i64 i ∧ OwnRows w.heap.size wr v ((q.take i).map (raise (P + 1))) ∧ Below w.heap.size w wr) (fun _ r _ => q.length - (intOf r).toNat)
    case atStart => exact ⟨0, by omega, rfl, by simp; exact OwnRows.nil _ _, HB1.out⟩
    case round =>
      obtain ⟨i, hil, rfl, hown, hB⟩ := hrel
      obtain ⟨wo, hwo⟩ : ∃ wo : World, wo = wr := ⟨_, rfl⟩
      subst hwo
      obtain ⟨rs, hrs⟩ : ∃ rs, (q.take i).map (raise (P + 1)) = rs := ⟨_, rfl⟩
      have hrl : rs.length = i := by rw [← hrs]; simp; omega
      rw [hrs] at hown
      have HRS : Hid ((q.take i).map (raise (P + 1)) = rs) := hrs
      have HRL : Hid (rs.length = i) := hrl
      have HOW : Hid (OwnRows w.heap.size wo u7 rs) := hown
      have hbs := hB.size
      clear hrs hrl hown
      by_cases hlt : i < q.length
      · obtain ⟨ab', cb', ebb, -, hcb⟩ := HB.out.open_
        obtain ⟨rfl, rfl⟩ : ab = ab' ∧ cb = cb' := by simpa using ebb
        obtain ⟨b, o, rfl, -, hb, c⟩ := hcb (by omega)
        obtain ⟨ax, cx, g1, i1⟩ := c i hlt
        have hmem : q[i]?.getD [] ∈ q := by rw [List.getElem?_eq_getElem hlt]; simp
        have HMS : Hid ((q.take (i + 1)).map (raise (P + 1)) = rs ++ [raise (P + 1) (q[i]?.getD [])]) := by
          show (q.take (i + 1)).map (raise (P + 1)) = _
          rw [map_succ hlt, HRS.out]
        obtain ⟨x, hxe⟩ : ∃ x, q[i]?.getD [] = x := ⟨_, rfl⟩
        rw [hxe] at g1 i1 hmem HMS
        have hxl : x.length ≤ 7 := HG.out.2.short x hmem
        have HX9 : Hid (∀ v ∈ x, 0 ≤ v ∧ v ≤ 99) := (face_ok_of HG.out.2 hmem).1.2.2
        obtain ⟨ax', cx', exx, -, hcx⟩ := i1.open_
        have HCX : Hid (0 < x.length → ∃ b off, ax = some ⟨b, off, none⟩ ∧ True ∧ b < w.heap.size ∧ ∀ k, k < x.length → w.cell? ⟨b, off + k, none⟩ = some (.int .i64 (x[k]?.getD 0))) := by
          cases exx; exact hcx
        have HG1 : Hid (w.cell? ⟨b, o + i, none⟩ = some (.slice ax x.length cx)) := g1
        clear c hcb ebb hxe i1 exx hcx g1 hmem
        go_wp2
        go_loopw [9, 10] (fun v r wr => ∃ k : Nat, k ≤ x.length ∧ r = .int .i64 k ∧ wr.ownsRow wo.heap.size 3 1 v k ((raise (P + 1) (x.take k)).map (Value.int .i64)) ∧ Below wo.heap.size wo wr) (fun _ r _ => x.length - (intOf r).toNat)
        case atStart => exact ⟨0, by omega, rfl, by simp [raise]; exact World.ownsRow_nil _ _ _ _, Below.refl _ _⟩
        case round =>
          obtain ⟨k, hk, rfl, hok, hBk⟩ := hrel
          obtain ⟨wk, hwk⟩ : ∃ wk : World, wk = wr := ⟨_, rfl⟩
          subst hwk
          have hBwk : Below w.heap.size w wk := hB.trans (hBk.mono hB.size)
          have g2 : wk.cell? ⟨b, o + i, none⟩ = some (.slice ax x.length cx) := (hBwk.cell (p := ⟨b, o + i, none⟩) hb).trans HG1.out
          have hbk := hBk.size
          by_cases hkl : k < x.length
          · obtain ⟨bx, ox, rfl, -, hbx, hcc⟩ := HCX.out (by omega)
            have g3 := (hBwk.cell (p := ⟨bx, ox + k, none⟩) hbx).trans (hcc k hkl)
            have hy9 := HX9.out (x[k]?.getD 0) (by rw [List.getElem?_eq_getElem hkl]; simp)
            have HRA := raise_succ hkl (P + 1)
            obtain ⟨y, hye⟩ : ∃ y, x[k]?.getD 0 = y := ⟨_, rfl⟩
            rw [hye] at g3 hy9 HRA
            obtain ⟨hy90, hy99⟩ := hy9
            obtain ⟨t, ht⟩ : ∃ t, (raise (P + 1) (x.take k)) = t := ⟨_, rfl⟩
            rw [ht] at hok HRA
            have HRA2 : Hid (raise (P + 1) (x.take (k + 1)) = t ++ [y + (P + 1)]) := by
              show raise (P + 1) (x.take (k + 1)) = t ++ [y + (P + 1)]
              rw [HRA]
            clear hcc hye HRA ht
            go_wp2_with (first
              | (at_builtin; refine wpList_append_slice rfl (.tmp 41) (.tmp 51) 39 rfl wo.heap.size 3 j0 (.int .i64 0) 8 Tryz.underlying39 hj0 hy0 hy1 hy2 rfl _ _ _ rfl (hok.alloc _) _ [.int .i64 (y + (P + 1))] rfl (slice_one _ _ _) (by simp [Value.oneCell']) (by simp; omega) (by unfold maxLen; simp; omega) (by simp; omega) ?_; intro v3 w4 hown3 hg3 hl3)
              | go_in)
            (try go_frame)
            have hB4 : Below wo.heap.size wo w4 := (hBk.alloc hbk _).grown hg3 (by simp; omega) (fun j hj => (hok.lt j hj).1)
            have hown5 : w4.ownsRow wo.heap.size 3 1 v3 (k + 1) ((raise (P + 1) (x.take (k + 1))).map (Value.int .i64)) := by
              rw [HRA2.out, List.map_append]; exact hown3
            clear hown3 hg3 hl3
            go_roundw
            case rel => exact ⟨k + 1, by omega, by go_num, hown5, hB4⟩
            case measure => simp [intOf]; omega
          · obtain rfl : k = x.length := by omega
            rw [List.take_length] at hok
            have HI : Hid (IntsIn (fun b => wo.heap.size ≤ b) wk u9 (raise (P + 1) x)) := slice_of_owns hok (fun b hb _ => hb)
            obtain ⟨a9, c9, e9, -, -⟩ := HI.out.open_
            rw [raise_len] at e9
            subst e9
            obtain ⟨vs2, ho1, ho2⟩ := HOW.out.below hBk
            have HO1 : Hid (wk.ownsRow w.heap.size 39 1 u7 rs.length vs2) := ho1
            have HO2 : Hid (∀ (k' : Nat) (u : Value) (x : List Int), vs2[k']? = some u → rs[k']? = some x → IntsIn (fun b => w.heap.size ≤ b ∧ some b ≠ Value.ownBlock u7) wk u x) := ho2
            rw [HRL.out] at ho1
            have HU : Hid (IntsIn (fun b => w.heap.size ≤ b ∧ some b ≠ Value.ownBlock u7) wk (.slice a9 x.length c9) (raise (P + 1) x)) := SliceIn.mono HI.out (fun b _ hge => ⟨Nat.le_trans hB.size hge, fun e => by
              have := (HOW.out.block e.symm).2
              omega⟩)
            clear ho2 hok HI
            go_wp2_with (first
              | (at_builtin; refine wpList_append_slice rfl (.tmp 53) (.tmp 55) 22 rfl w.heap.size 39 i0 (.slice none 0 0) 24 Tryz.underlying22 hi hz0 hz1 hz2 rfl _ _ _ rfl (ho1.alloc _) _ [.slice a9 x.length c9] rfl (slice_one _ _ _) (by simp [Value.oneCell']) (by simp; omega) (by unfold maxLen; simp; omega) (by simp; omega) ?_; intro v5 w5 hown5 hg5 hl5)
              | go_in)
            (try go_frame)
            have hpush : OwnRows w.heap.size w5 v5 (rs ++ [raise (P + 1) x]) := OwnRows.push HO1.out HO2.out HU.out (by rw [HRL.out]; exact hown5) hg5 hl5
            have hB5 : Below w.heap.size w w5 := (hBwk.alloc hBwk.size _).grown hg5 (by have := hBwk.size; simp; omega) (fun j hj => (ho1.lt j hj).1)
            clear hown5 hg5 hl5
            go_roundw
            case rel => exact ⟨i + 1, by omega, by go_num, by rw [HMS.out]; exact hpush, hB5⟩
            case measure => simp [intOf]; omega
      · obtain rfl : i = q.length := by omega
        have HQ : Hid (rs = q.map (raise (P + 1))) := by
          have := HRS.out
          rw [List.take_length] at this
          exact this.symm
        have HRR : Hid (Rows wo u7 rs) := HOW.out.rows
        have HAA : Hid (Rows wo (.slice aa p.length ca) p) := HA.out.below hB
        obtain ⟨a7, c7, e7, -, -⟩ := HRR.out.open_
        rw [HRL.out] at e7
        subst e7
        obtain ⟨us, hus1, hus2, hus3⟩ := HAA.out
        obtain ⟨ts, hts1, hts2, hts3⟩ := HRR.out
        have HUS : Hid (∀ (k : Nat) (u : Value) (x : List Int), us[k]? = some u → p[k]? = some x → Ints wo u x) := hus3
        have HTS : Hid (∀ (k : Nat) (u : Value) (x : List Int), ts[k]? = some u → rs[k]? = some x → Ints wo u x) := hts3
        have hsu : ∀ c ∈ us, c.oneCell' = true := fun c hc => by
          obtain ⟨k, hk, rfl⟩ := List.mem_iff_getElem.1 hc
          obtain ⟨_, _, e, _⟩ := HUS.out k _ (p[k]'(by omega)) (List.getElem?_eq_getElem hk) (List.getElem?_eq_getElem (by omega))
          rw [e]; rfl
        have hst : ∀ c ∈ ts, c.oneCell' = true := fun c hc => by
          obtain ⟨k, hk, rfl⟩ := List.mem_iff_getElem.1 hc
          obtain ⟨_, _, e, _⟩ := HTS.out k _ (rs[k]'(by omega)) (List.getElem?_eq_getElem hk) (List.getElem?_eq_getElem (by omega))
          rw [e]; rfl
        have htl : ts.length ≤ 40 := by rw [hts2, HRL.out]; exact hq
        have hul : us.length ≤ 40 := by rw [hus2]; exact hp
        clear hus3 hts3
        go_wp2_with (first
          | (at_builtin; refine wpList_append_slice rfl (.tmp 57) (.tmp 58) 22 rfl wo.heap.size 39 i0 (.slice none 0 0) 24 Tryz.underlying22 hi hz0 hz1 hz2 rfl _ _ _ rfl (World.ownsRow_nil _ _ _ _) _ us rfl hus1 hsu (by simp; omega) (by unfold maxLen; simp; omega) (Nat.le_refl _) ?_; intro v5 w5 hown5 hg5 hl5; have hB5 : Below wo.heap.size wo w5 := (Below.refl _ _).grown hg5 (Nat.le_refl _) (fun j hj => by cases hj); have hf5 : FreeRows wo.heap.size w5 v5 p := FreeRows.append (xss := []) (vs := []) (World.ownsRow_nil _ _ _ _) (fun k u x hu => by simp at hu) hus2 (fun k u x hu hx => SliceIn.mono (HUS.out k u x hu hx) (fun b _ _ => by simp [Value.ownBlock])) hown5 hg5 hl5; have HF5 : Hid (FreeRows wo.heap.size w5 v5 p) := hf5; obtain ⟨vs5, h51, h52⟩ := hf5; have H52 : Hid (∀ (k : Nat) (u : Value) (x : List Int), vs5[k]? = some u → p[k]? = some x → IntsIn (fun b => some b ≠ v5.ownBlock) w5 u x) := h52; have hbs5 := hB5.size; have HL5 : Hid (v5.ownBlock = none ∨ v5.ownBlock = some wo.heap.size) := hl5; clear hown5 hg5 hl5 h52; have hts5 := SliceIn.below hts1 hB5)
          | (at_builtin; refine wpList_append_slice rfl (.tmp 60) (.tmp 61) 22 rfl wo.heap.size 39 i0 (.slice none 0 0) 24 Tryz.underlying22 hi hz0 hz1 hz2 rfl _ _ _ rfl h51 _ ts rfl hts5 hst (by omega) (by unfold maxLen; omega) hbs5 ?_; intro v6 w6 hown6 hg6 hl6)
          | fail)
        (try go_frame)
        have hf6 : FreeRows wo.heap.size w6 v6 (p ++ rs) := FreeRows.append h51 H52.out hts2 (fun k u x hu hx => SliceIn.mono (SliceIn.below (SliceIn.mono (S' := fun b => b < wo.heap.size) (HTS.out k u x hu hx) (fun b hb _ => hb)) hB5) (fun b _ hlt e => by
          rcases HL5.out with h | h
          · rw [h] at e; cases e
          · rw [h] at e; cases e; omega)) hown6 hg6 hl6
        have hB6 : Below wo.heap.size wo w6 := hB5.grown hg6 hbs5 (fun j hj => (h51.lt j hj).1)
        obtain ⟨av, cv, ev⟩ : ∃ a c, v6 = .slice a (p ++ rs).length c := by
          obtain ⟨a, c, e, -, -⟩ := hf6.rows.open_
          exact ⟨a, c, e⟩
        have HF6 : Hid (FreeRows wo.heap.size w6 v6 (p ++ rs)) := hf6
        have HB6 : Hid (Below wo.heap.size wo w6) := hB6
        have HBW : Hid (Below w.heap.size w wo) := hB
        clear hf6 hown6 hg6 hl6 h51 H52 hts5 hB5 hbs5 HF5 HL5 hus1 hus2 hts1 hts2 hsu hst htl hul HUS HTS hB6 ev hB
        go_wp2
        go_loopw [11, 12] (fun v r wr => ∃ i : Nat, i ≤ p.length ∧ r = .int .i64 i ∧ FreeRows wo.heap.size wr v (stepTo p rs i) ∧ Below wo.heap.size wo wr) (fun _ r _ => p.length - (intOf r).toNat)
        case atStart => exact ⟨0, by omega, rfl, by simp [stepTo]; exact HF6.out, HB6.out⟩
        case round =>
          obtain ⟨i, hil, rfl, hfr, hBi⟩ := hrel
          obtain ⟨wi, hwi⟩ : ∃ wi : World, wi = wr := ⟨_, rfl⟩
          subst hwi
          have HFI : Hid (FreeRows wo.heap.size wi u11 (stepTo p rs i)) := hfr
          have HBI : Hid (Below wo.heap.size wo wi) := hBi
          clear hfr hBi HF6 HB6
          by_cases hlt2 : i < p.length
          · obtain ⟨aa', ca', eaa, -, hca⟩ := HA.out.open_
            obtain ⟨rfl, rfl⟩ : aa = aa' ∧ ca = ca' := by simpa using eaa
            obtain ⟨b, o, rfl, -, hb, c⟩ := hca (by omega)
            obtain ⟨ax, cx, g1, i1⟩ := c i hlt2
            have hmem : p[i]?.getD [] ∈ p := by rw [List.getElem?_eq_getElem hlt2]; simp
            have hsl : (stepTo p rs i).length ≤ 2000 := by
              have h1 := stepTo_len p rs i
              have h2 := HRL.out
              have h3 : i * rs.length ≤ 40 * 40 := Nat.mul_le_mul (by omega) (by omega)
              omega
            have HSU : Hid (stepTo p rs (i + 1) = stepTo p rs i ++ rs.map (fun y => (p[i]?.getD []) ++ y)) := stepTo_succ hlt2
            obtain ⟨x, hxe⟩ : ∃ x, p[i]?.getD [] = x := ⟨_, rfl⟩
            rw [hxe] at g1 i1 hmem HSU
            have hxl : x.length ≤ 7 := HG.out.1.short x hmem
            have HXM : Hid (x ∈ p) := hmem
            have HG1 : Hid (w.cell? ⟨b, o + i, none⟩ = some (.slice ax x.length cx)) := g1
            have HI1 : Hid (Ints w (.slice ax x.length cx) x) := i1
            obtain ⟨acc, hacc⟩ : ∃ acc, stepTo p rs i = acc := ⟨_, rfl⟩
            rw [hacc] at hsl HFI HSU
            clear c hca eaa hxe i1 g1 hmem hacc
            go_wp2
            go_loopw [11, 13] (fun v r wr => ∃ k : Nat, k ≤ q.length ∧ r = .int .i64 k ∧ FreeRows wo.heap.size wr v (acc ++ (rs.take k).map (fun y => x ++ y)) ∧ Below wo.heap.size wo wr) (fun _ r _ => q.length - (intOf r).toNat)
            case atStart => exact ⟨0, by omega, rfl, by simp; exact HFI.out, HBI.out⟩
            case round =>
              obtain ⟨k, hk, rfl, hfr, hBk⟩ := hrel
              obtain ⟨wk, hwk⟩ : ∃ wk : World, wk = wr := ⟨_, rfl⟩
              subst hwk
              have HFK : Hid (FreeRows wo.heap.size wk u11 (acc ++ (rs.take k).map (fun y => x ++ y))) := hfr
              have HBK : Hid (Below wo.heap.size wo wk) := hBk
              have hbk := hBk.size
              clear hfr hBk HFI HBI
              by_cases hkl : k < q.length
              · obtain ⟨a7', c7', e77, -, hc7⟩ := HRR.out.open_
                have hkr : k < rs.length := by rw [HRL.out]; exact hkl
                rw [HRL.out] at e77 hc7
                obtain ⟨rfl, rfl⟩ : a7 = a7' ∧ c7 = c7' := by simpa using e77
                obtain ⟨b7, o7, rfl, -, hb7, c7x⟩ := hc7 (by omega)
                obtain ⟨ay, cy, gy, iy⟩ := c7x k hkl
                have hmy : rs[k]?.getD [] ∈ rs := by rw [List.getElem?_eq_getElem hkr]; simp
                have HMS : Hid ((rs.take (k + 1)).map (fun y => x ++ y) = (rs.take k).map (fun y => x ++ y) ++ [x ++ (rs[k]?.getD [])]) := map_succ hkr _
                obtain ⟨y, hye⟩ : ∃ y, rs[k]?.getD [] = y := ⟨_, rfl⟩
                rw [hye] at gy iy hmy HMS
                have hyq : ∃ y0 ∈ q, y = raise (topV p + 1) y0 := by
                  rw [HQ.out, ← HUP.out] at hmy
                  obtain ⟨y0, h1, h2⟩ := List.mem_map.1 hmy
                  exact ⟨y0, h1, h2.symm⟩
                have hyl : y.length ≤ 7 := by
                  obtain ⟨y0, h1, rfl⟩ := hyq
                  rw [raise_len]; exact HG.out.2.short y0 h1
                have HCAT : Hid (Rising (x ++ y)) := by
                  obtain ⟨y0, h1, rfl⟩ := hyq
                  exact cat_rising (HG.out.1.rising x HXM.out) (raise_rising (HG.out.2.rising y0 h1)) (join_low HG.out.1 HG.out.2 HXM.out h1)
                have hBwk : Below w.heap.size w wk := HBW.out.trans (HBK.out.mono HBW.out.size)
                have hBd : Below wk.heap.size wk wk.drew := drew_below wk
                have g2 : wk.cell? ⟨b, o + i, none⟩ = some (.slice ax x.length cx) := (hBwk.cell (p := ⟨b, o + i, none⟩) hb).trans HG1.out
                have g3 : wk.cell? ⟨b7, o7 + k, none⟩ = some (.slice ay y.length cy) := (HBK.out.cell (p := ⟨b7, o7 + k, none⟩) hb7).trans gy
                have hto := together_in (.slice ax x.length cx) (.slice ay y.length cy) x y wk.drew ((HI1.out.below hBwk).below hBd) ((iy.below HBK.out).below hBd) (by omega) (by omega)
                have hn0 : (0 : Int) ≤ (i : Int) := by omega
                have hn1 : (i : Int) < (p.length : Int) := by omega
                have hn2 : (0 : Int) ≤ (k : Int) := by omega
                have hn3 : (k : Int) < (q.length : Int) := by omega
                have hal : acc.length + k ≤ 2100 := by omega
                have HAL : Hid ((acc ++ (rs.take k).map (fun y => x ++ y)).length = acc.length + k) := by
                  show (acc ++ (rs.take k).map (fun y => x ++ y)).length = acc.length + k
                  simp; omega
                obtain ⟨zs, hzs⟩ : ∃ zs, acc ++ (rs.take k).map (fun y => x ++ y) = zs := ⟨_, rfl⟩
                have HZS : Hid (acc ++ (rs.take (k + 1)).map (fun y => x ++ y) = zs ++ [x ++ y]) := by
                  show acc ++ (rs.take (k + 1)).map (fun y => x ++ y) = zs ++ [x ++ y]
                  rw [HMS.out, ← List.append_assoc, hzs]
                rw [hzs] at HFK HAL
                have hzl : zs.length ≤ 2100 := by rw [HAL.out]; exact hal
                clear e77 hc7 c7x hye hmy gy iy hyq hyl hzs hal hBd
                go_wp2_with fail
                go_region_law (first
                  | (go_simp; go_at_call 31; refine hto.mono ?_; rintro e w5 ⟨v5, oo, rfl, hoo, hor, hom, hB5⟩; obtain rfl : oo = x ++ y := (rising_told hor HCAT.out (fun z => by rw [hom, List.mem_append])); obtain ⟨a5, c5, e5, -, -⟩ := hoo.open_; obtain ⟨n5, hn5⟩ : ∃ n, (x ++ y).length = n := ⟨_, rfl⟩; rw [hn5] at e5; subst e5; have hBk5 : Below wk.heap.size wk w5 := (drew_below wk).trans hB5; obtain ⟨vs5, h51, h52⟩ := HFK.out.below hBk5; have H52 : Hid (∀ (k : Nat) (u : Value) (x : List Int), vs5[k]? = some u → zs[k]? = some x → IntsIn (fun b => some b ≠ Value.ownBlock u11) w5 u x) := h52; have HU5 : Hid (IntsIn (fun b => some b ≠ Value.ownBlock u11) w5 (.slice a5 n5 c5) (x ++ y)) := SliceIn.mono hoo (fun b _ hge e => by obtain ⟨_, h5, _⟩ := HFK.out; have h6 := (h5.lt b e.symm).2; have h7 : wk.heap.size ≤ b := hge; omega); have hb5 : wo.heap.size ≤ w5.heap.size := Nat.le_trans hbk hBk5.size; have HB5 : Hid (Below wo.heap.size wo w5) := HBK.out.trans (hBk5.mono hbk); clear hoo hor hom hB5 h52 hn5 hBk5)
                  | (refine step_append_slice (by rfl) (.tmp 75) (.tmp 85) 22 (by rfl) wo.heap.size 39 i0 (.slice none 0 0) 24 Tryz.underlying22 hi hz0 hz1 hz2 (by rfl) u11 zs.length vs5 (by simp [Act.eval]) (h51.alloc _) (.slice (some ⟨w5.heap.size, 0, none⟩) 1 1) [.slice a5 n5 c5] (by simp [Act.eval]) (slice_one _ _ _) (by simp [Value.oneCell']) (by simp; omega) (by unfold maxLen; simp; omega) (by simp; omega) ?_; intro v6 w6 hown6 hg6 hl6; have HC : Hid (FreeRows wo.heap.size w6 v6 (zs ++ [x ++ y])) := FreeRows.push h51 H52.out HU5.out hown6 hg6 hl6; have HB6 : Hid (Below wo.heap.size wo w6) := (HB5.out.alloc hb5 _).grown hg6 (by simp; omega) (fun j hj => (h51.lt j hj).1); clear hown6 hg6 hl6))
                all_goals go_wp2
                all_goals go_roundw
                all_goals first
                  | (go_light; exact ⟨k + 1, hkl, by go_num, by rw [HZS.out]; exact HC.out, HB6.out⟩)
                  | (go_light; simp [intOf]; omega)
              · obtain rfl : k = q.length := by omega
                have HFE : Hid (FreeRows wo.heap.size wk u11 (stepTo p rs (i + 1))) := by
                  show FreeRows wo.heap.size wk u11 (stepTo p rs (i + 1))
                  have h1 := HFK.out
                  have h2 := HRL.out
                  rw [List.take_of_length_le (by omega)] at h1
                  rw [HSU.out]; exact h1
                clear HFK
                go_wp2
                go_roundw
                case rel => exact ⟨i + 1, by omega, by go_num, HFE.out, HBK.out⟩
                case measure => simp [intOf]; omega
          · obtain rfl : i = p.length := by omega
            have HFE : Hid (Rows wi u11 (joinS p q)) := by
              show Rows wi u11 (joinS p q)
              have h1 := HFI.out.rows
              rw [stepTo_all, HQ.out] at h1
              unfold joinS
              rw [HUP.out]; exact h1
            clear HFI
            go_wp2
            go_ret
            exact ⟨_, rfl, HFE.out, HBW.out.trans (HBI.out.mono HBW.out.size)⟩

end Go.Proofs.YtopopbhpclhinaaGreatDoor
