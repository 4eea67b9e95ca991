/- What rimsOfPieces answers, of one good word: how many classes of corners sides have that stand alone. -/
import Derived.Test.YtkaplnjknobdpaaDoorSurfEuler
namespace Go.Proofs.YtkaplnjknobdpaaDoor
open Go.RowKit Go.Sort

/-- The class of the x-th name's side, if it stands alone; whether it was seen; how many were. -/
def rimC (cr : Nat → Nat) (ws : List Int) (x : Nat) : Option Nat := match rowN ws x with
  | [i] => some (cr (frI ws i))
  | _ => none
def seenB (cr : Nat → Nat) (ws : List Int) (x r : Nat) : Bool := (List.range x).any fun y => rimC cr ws y == some r
def newB (cr : Nat → Nat) (ws : List Int) (x : Nat) : Bool := match rimC cr ws x with
  | some r => !seenB cr ws x r
  | none => false
def rimsN (cr : Nat → Nat) (ws : List Int) (x : Nat) : Nat := ((List.range x).filter (newB cr ws)).length
theorem rimsN_yes {cr : Nat → Nat} {ws : List Int} {x : Nat} (h : newB cr ws x = true) : rimsN cr ws (x + 1) = rimsN cr ws x + 1 := by unfold rimsN; rw [List.range_succ, List.filter_append]; simp [h]
theorem rimsN_no {cr : Nat → Nat} {ws : List Int} {x : Nat} (h : newB cr ws x = false) : rimsN cr ws (x + 1) = rimsN cr ws x := by unfold rimsN; rw [List.range_succ, List.filter_append]; simp [h]
theorem rimsN_le (cr : Nat → Nat) (ws : List Int) (x : Nat) : rimsN cr ws x ≤ x := by
  unfold rimsN
  refine Nat.le_trans (List.length_filter_le _ _) ?_
  rw [List.length_range]; exact Nat.le_refl _
theorem seenB_succ (cr : Nat → Nat) (ws : List Int) (x r : Nat) : seenB cr ws (x + 1) r = (seenB cr ws x r || rimC cr ws x == some r) := by unfold seenB; rw [List.range_succ, List.any_append]; simp
theorem seenB_none {cr : Nat → Nat} {ws : List Int} {x : Nat} (h : rimC cr ws x = none) (r : Nat) : seenB cr ws (x + 1) r = seenB cr ws x r := by rw [seenB_succ, h]; simp
theorem seenB_old {cr : Nat → Nat} {ws : List Int} {x q : Nat} (h : rimC cr ws x = some q) (hq : seenB cr ws x q = true) (r : Nat) : seenB cr ws (x + 1) r = seenB cr ws x r := by
  rw [seenB_succ, h]
  by_cases e : q = r
  · rw [← e, hq]; rfl
  · rw [show ((some q : Option Nat) == some r) = false from beq_false_of_ne (fun h => e (Option.some.inj h)), Bool.or_false]
theorem seenB_new {cr : Nat → Nat} {ws : List Int} {x q : Nat} (h : rimC cr ws x = some q) (r : Nat) : seenB cr ws (x + 1) r = if r = q then true else seenB cr ws x r := by
  rw [seenB_succ, h]
  by_cases e : r = q
  · rw [if_pos e, e, beq_self_eq_true, Bool.or_true]
  · rw [if_neg e, show ((some q : Option Nat) == some r) = false from beq_false_of_ne (fun h => e (Option.some.inj h).symm), Bool.or_false]

theorem KeepS.mono {S S' : Nat → Prop} {W0 W : World} (h : KeepS S W0 W) (hs : ∀ b, S b → S' b) : KeepS S' W0 W := ⟨h.os, h.tape, h.output, h.size, fun b hb hn => h.block b hb (fun h' => hn (hs b h'))⟩
theorem keepS_drew {S : Nat → Prop} {W0 W : World} (h : KeepS S W0 W) : KeepS S W0 W.drew := ⟨h.os, h.tape, h.output, h.size, h.block⟩
theorem Tryd.infobb : (Tryd.prog.info? 4).map (fun i => (i.zero, i.size, i.bytes)) = some (some (.bool false), 1, 1) := by kernel_rfl

theorem boxes2b (w : World) (L0 : List Value) (t0 t t' : TypeId) (z z' : Value) (m m' : Nat) :
    (∀ j u, L0[j]? = some u → (((w.alloc (.cells L0.toArray t0)).alloc (.cells (madeCells #[z] m) t)).alloc (.cells (madeCells #[z'] m') t')).cell? ⟨w.heap.size, j, none⟩ = some u) ∧ (((w.alloc (.cells L0.toArray t0)).alloc (.cells (madeCells #[z] m) t)).alloc (.cells (madeCells #[z'] m') t')).rowIs (w.heap.size + 1) t m (fun _ => z) ∧ (((w.alloc (.cells L0.toArray t0)).alloc (.cells (madeCells #[z] m) t)).alloc (.cells (madeCells #[z'] m') t')).rowIs (w.heap.size + 1 + 1) t' m' (fun _ => z') := by
  have h1 := boxes2 w L0 t0 t z m
  refine ⟨fun j u hu => ?_, h1.2.alloc _, ?_⟩
  · exact (World.cell?_alloc_lt _ _ ⟨w.heap.size, j, none⟩ (by simp; omega)).trans (h1.1 j u hu)
  · have h := World.rowIs_made ((w.alloc (.cells L0.toArray t0)).alloc (.cells (madeCells #[z] m) t)) z' m' t'
    rw [World.size_alloc, World.size_alloc] at h
    exact h

set_option maxRecDepth 100000 in
set_option maxHeartbeats 4000000 in
theorem rims_ {ws : List Int} {S : Nat → Prop} {cw cf cc cr : Nat → Nat} (ge gw gf gc gr : Nat) (v : Value) (w : World) (h : Rows w v [ws]) (hok : WordOk ws) (hF : Four w gw gf gc gr ws.length cw cf cc cr) (hE : EdgesIn S w ge ws) (hS : ∀ b, S b → b < w.heap.size) :
    Calls Tryd.prog 23 #[planV ge (namesI ws).length gw gf gc gr ws.length, v] w fun e w' => ∃ go, e = .returned (.slice (some ⟨go, 0, none⟩) 1 1) ∧ w'.cell? ⟨go, 0, none⟩ = some (.int .i64 (rimsN cr ws (namesI ws).length : Int)) ∧ Below w.heap.size w w' := by
  obtain ⟨g, o, cap, a, c, rfl, hc, -⟩ := one_word h
  obtain ⟨n, hn⟩ : ∃ n, ws.length = n := ⟨_, rfl⟩
  obtain ⟨E, hEn⟩ : ∃ E, (namesI ws).length = E := ⟨_, rfl⟩
  have hn1 : n ≤ 120 := by rw [← hn]; exact hok.few
  have hE1 : E ≤ 61 := by
    rw [← hEn]
    unfold namesI kpS
    refine Nat.le_trans (List.length_filter_le _ _) ?_
    rw [List.length_range]; exact Nat.le_refl _
  have HE : Hid (EdgesIn S w ge ws ∧ (∀ b, S b → b < w.heap.size) ∧ (namesI ws).length = E ∧ WordOk ws ∧ ws.length = n) := ⟨hE, hS, hEn, hok, hn⟩
  rw [hn] at hF ⊢
  rw [hEn]
  have hcw : cw 0 = 0 := by
    obtain ⟨_, _, hl⟩ := hF.words
    have := hl.is.le 0
    omega
  have hcr : ∀ i, cr i ≤ i := by
    obtain ⟨_, _, hl⟩ := hF.rims
    exact hl.is.le
  have HF : Hid (Four w gw gf gc gr n cw cf cc cr ∧ cw 0 = 0 ∧ ∀ i, cr i ≤ i) := ⟨hF, hcw, hcr⟩
  have hmk := run_make_row' (P := Tryd.prog) 25 3 (.int .i64 0) 8 Tryd.underlying25 Tryd.infoi rfl .i64 .i64 1 (by omega) (by omega)
  rw [show ((1 : Nat) : Int) = 1 from rfl] at hmk
  have hmb := run_make_row' (P := Tryd.prog) 92 4 (.bool false) 1 Tryd.underlying92 Tryd.infobb rfl .i64 .i64 n (by omega) (by omega)
  have hB0 := boxes2b w [.slice (some ⟨ge, 0, none⟩) E 61, .slice (some ⟨gw, 0, none⟩) 1 1, .slice (some ⟨gf, 0, none⟩) 2 2, .slice (some ⟨gc, 0, none⟩) n n, .slice (some ⟨gr, 0, none⟩) n n] 65 3 4 (.int .i64 0) (.bool false) 1 n
  have hBx : Below w.heap.size w (((w.alloc (.cells #[.slice (some ⟨ge, 0, none⟩) E 61, .slice (some ⟨gw, 0, none⟩) 1 1, .slice (some ⟨gf, 0, none⟩) 2 2, .slice (some ⟨gc, 0, none⟩) n n, .slice (some ⟨gr, 0, none⟩) n n] 65)).alloc (.cells (madeCells #[.int .i64 0] 1) 3)).alloc (.cells (madeCells #[.bool false] n) 4)) := (((Below.refl _ w).alloc (Nat.le_refl _) _).alloc (by simp) _).alloc (by simp; omega) _
  unfold planV
  clear h hok hF hE hS hn hEn hcw hcr hc
  go_enter Tryd.func23, Tryd.ntmps23
  go_upto_region 3 with fail
  obtain ⟨X, hX⟩ : ∃ X, ((w.alloc (.cells #[.slice (some ⟨ge, 0, none⟩) E 61, .slice (some ⟨gw, 0, none⟩) 1 1, .slice (some ⟨gf, 0, none⟩) 2 2, .slice (some ⟨gc, 0, none⟩) n n, .slice (some ⟨gr, 0, none⟩) n n] 65)).alloc (.cells (madeCells #[.int .i64 0] 1) 3)).alloc (.cells (madeCells #[.bool false] n) 4) = X := ⟨_, rfl⟩
  obtain ⟨p, hp⟩ : ∃ p, w.heap.size = p := ⟨_, rfl⟩
  have HX : Hid ((∀ j u, [Value.slice (some ⟨ge, 0, none⟩) E 61, .slice (some ⟨gw, 0, none⟩) 1 1, .slice (some ⟨gf, 0, none⟩) 2 2, .slice (some ⟨gc, 0, none⟩) n n, .slice (some ⟨gr, 0, none⟩) n n][j]? = some u → X.cell? ⟨p, j, none⟩ = some u) ∧ X.rowIs (p + 1) 3 1 (fun _ => .int .i64 0) ∧ X.rowIs (p + 1 + 1) 4 n (fun _ => .bool false) ∧ Below w.heap.size w X ∧ w.heap.size = p) := by
    rw [← hX, ← hp]
    exact ⟨hB0.1, hB0.2.1, hB0.2.2, hBx, rfl⟩
  rw [hX, hp]
  clear hX hp hB0 hBx hmk hmb
  have HW : Hid (∀ W, KeepS (fun b => b = p + 1 ∨ b = p + 1 + 1) X W → ClsAt W gw 1 cw ∧ ClsAt W gr n cr ∧ EdgesIn S W ge ws ∧ W.cell? ⟨p, 0, none⟩ = some (.slice (some ⟨ge, 0, none⟩) E 61) ∧ W.cell? ⟨p, 1, none⟩ = some (.slice (some ⟨gw, 0, none⟩) 1 1) ∧ W.cell? ⟨p, 4, none⟩ = some (.slice (some ⟨gr, 0, none⟩) n n)) := fun W hk => by
    have hz := HX.out.2.2.2.2
    have hB := HX.out.2.2.2.1
    have old : ∀ b, b < w.heap.size → W.heap[b]? = w.heap[b]? := fun b hb => (hk.block b (Nat.lt_of_lt_of_le hb hB.size) (by omega)).trans (hB.block b hb)
    have pl : ∀ j u, [Value.slice (some ⟨ge, 0, none⟩) E 61, .slice (some ⟨gw, 0, none⟩) 1 1, .slice (some ⟨gf, 0, none⟩) 2 2, .slice (some ⟨gc, 0, none⟩) n n, .slice (some ⟨gr, 0, none⟩) n n][j]? = some u → W.cell? ⟨p, j, none⟩ = some u := fun j u hu => (hk.cell (p := ⟨p, j, none⟩) (cell_lt (HX.out.1 j u hu)) (by simp only; omega)).trans (HX.out.1 j u hu)
    exact ⟨HF.out.1.words.of_block (old _ HF.out.1.words.lt), HF.out.1.rims.of_block (old _ HF.out.1.rims.lt), HE.out.1.keep (fun b hb => old b (HE.out.2.1 b hb)), pl 0 _ rfl, pl 1 _ rfl, pl 4 _ rfl⟩
  obtain ⟨-, -, -, d0, -, -⟩ := HW.out X (KeepS.refl _ _)
  go_wp2_with fail
  clear d0
  go_loopw [20] (fun q W => ∃ x : Nat, x ≤ E ∧ q = .int .i64 x ∧ Hid (W.rowIs (p + 1) 3 1 (fun _ => .int .i64 (rimsN cr ws x : Int)) ∧ W.rowIs (p + 1 + 1) 4 n (fun r => .bool (seenB cr ws x r)) ∧ KeepS (fun b => b = p + 1 ∨ b = p + 1 + 1) X W)) (fun q _ => E - (intOf q).toNat)
  case atStart => exact ⟨0, by omega, rfl, HX.out.2.1, HX.out.2.2.1, KeepS.refl _ _⟩
  case round =>
    obtain ⟨x, hx, rfl, HM⟩ := hrel
    by_cases hxe : x < E
    · obtain ⟨k1, k4, ke, -, d1, d4⟩ := HW.out wr HM.out.2.2
      have hxe' : x < (namesI ws).length := by rw [HE.out.2.2.1]; exact hxe
      obtain ⟨b, c', hSb, hcell, hs⟩ := ke.2 x hxe'
      have z0 : (0 : Int) ≤ (x : Int) := by omega
      have z1 : (x : Int) < (E : Int) := by omega
      obtain ⟨-, s1, s2, -⟩ := hs 0 (rowN_pos hxe')
      rw [Nat.zero_mul, Nat.zero_add] at s1 s2
      have hw0 : 0 < ws.length := HE.out.2.2.2.1.some
      have hi0 : (rowN ws x)[0]'(rowN_pos hxe') < ws.length := rowN_lt (List.getElem_mem _)
      obtain ⟨i0, hi0e⟩ : ∃ i0, (rowN ws x)[0]'(rowN_pos hxe') = i0 := ⟨_, rfl⟩
      rw [hi0e] at hi0 s2
      have hfb := frI_lt hw0 hi0
      rw [HE.out.2.2.2.2] at hfb
      have hof := of_ gr n n (frI ws i0) wr.drew (k4.of_block rfl) hfb (by omega)
      have hrl := HF.out.2.2 (frI ws i0)
      obtain ⟨fi, hfi⟩ : ∃ fi, frI ws i0 = fi := ⟨_, rfl⟩
      obtain ⟨r, hr⟩ : ∃ r, cr (frI ws i0) = r := ⟨_, rfl⟩
      have HR : Hid (cr (frI ws i0) = r) := hr
      rw [hr] at hof hrl
      rw [hfi] at hof hfb hrl s2
      have hrn : r < n := by omega
      have x2 := HM.out.2.1.cell (i := r) hrn
      have x3 := HM.out.2.1.frozen r
      have x0 := HM.out.1.cell (i := 0) (by omega)
      have x1 := HM.out.1.frozen 0
      have y0 : (0 : Int) ≤ (r : Int) := by omega
      have y1 : (r : Int) < (n : Int) := by omega
      rcases rowN_two HE.out.2.2.2.1 (x := x) hxe' with ⟨i, hrw⟩ | ⟨i, j, hrw⟩
      · have hii : i = i0 := by
          have h1 : (rowN ws x)[0]? = some i := by rw [hrw]; rfl
          rw [List.getElem?_eq_getElem (rowN_pos hxe'), hi0e] at h1
          exact (Option.some.inj h1).symm
        have hrc : rimC cr ws x = some r := by unfold rimC; rw [hrw]; dsimp only; rw [hii, hr]
        rw [hrw, show ([i] : List Nat).length = 1 from rfl] at hcell
        cases hsb : seenB cr ws x r with
        | true =>
          have HNO : Hid (rimsN cr ws (x + 1) = rimsN cr ws x ∧ ∀ q, seenB cr ws (x + 1) q = seenB cr ws x q) := ⟨rimsN_no (by unfold newB; rw [hrc]; dsimp only; rw [hsb]; rfl), seenB_old hrc hsb⟩
          rw [hsb] at x2
          clear hs hSb ke k1 k4 hrw hi0e hi0 hfi hr hii hrc hsb s1 hw0
          go_wp2_with fail
          go_region_with (go_at_call 24; refine hof.mono ?_; rintro e V2 ⟨rfl, rfl⟩)
          all_goals go_wp2_with fail
          all_goals go_roundw
          all_goals first
            | exact ⟨x + 1, by omega, by go_num, by rw [HNO.out.1]; exact HM.out.1.drew, HM.out.2.1.drew.congr (fun q _ => by rw [HNO.out.2]), keepS_drew HM.out.2.2⟩
            | (simp [intOf]; omega)
        | false =>
          have HNO : Hid (rimsN cr ws (x + 1) = rimsN cr ws x + 1 ∧ ∀ q, seenB cr ws (x + 1) q = if q = r then true else seenB cr ws x q) := ⟨rimsN_yes (by unfold newB; rw [hrc]; dsimp only; rw [hsb]; rfl), seenB_new hrc⟩
          rw [hsb] at x2
          have HK1 := Hid.mk' k1
          have hgp : gw < p := by have := HF.out.1.words.lt; have := HX.out.2.2.2.2; omega
          have hbp : b < p := by have := HE.out.2.1 b hSb; have := HX.out.2.2.2.2; omega
          have hgep : ge < p := by have := HE.out.2.1 ge HE.out.1.1; have := HX.out.2.2.2.2; omega
          have hsz : p + 1 + 1 < wr.heap.size := HM.out.2.1.lt
          have hrle := rimsN_le cr ws x
          clear hs ke k1 k4 hrw hi0e hi0 hfi hr hii hrc hsb hw0
          go_upto_region 6 with fail
          go_cut [9] from 24 to 30 (fun q9 wx => q9 = .int .i64 (r : Int) ∧ wx = wr.drew)
          case first =>
            go_wp2_with fail
            go_region_with (go_at_call 24; refine hof.mono ?_; rintro e V2 ⟨rfl, rfl⟩)
            all_goals go_wp2_with fail
            all_goals go_meet
            all_goals exact ⟨rfl, rfl⟩
          obtain ⟨rfl, rfl⟩ := hcut
          go_upto_region 9 with fail
          have hkY : KeepS (fun b => b = p + 1 + 1) wr (wr.setCell ⟨p + 1 + 1, r, none⟩ (.bool true)).drew := keepS_drew ((KeepS.refl (fun b => b = p + 1 + 1) wr).set ⟨p + 1 + 1, r, none⟩ (.bool true) rfl)
          have HSE : Hid ((wr.setCell ⟨p + 1 + 1, r, none⟩ (.bool true)).drew.rowIs (p + 1 + 1) 4 n (fun q => .bool (seenB cr ws (x + 1) q))) := (HM.out.2.1.set r (.bool true)).drew.congr (fun q _ => by
            rw [HNO.out.2]
            by_cases e : q = r
            · rw [if_pos e, if_pos e]
            · rw [if_neg e, if_neg e])
          obtain ⟨Y, hY⟩ : ∃ Y, (wr.setCell ⟨p + 1 + 1, r, none⟩ (.bool true)).drew = Y := ⟨_, rfl⟩
          rw [hY] at hkY HSE ⊢
          have d1' := (hkY.cell (p := ⟨p, 1, none⟩) (by simp only; omega) (by simp only; omega)).trans d1
          have s1' := (hkY.cell (p := ⟨b, 1, none⟩) (by simp only; omega) (by simp only; omega)).trans s1
          have x0' := (hkY.cell (p := ⟨p + 1, 0, none⟩) (by simp only; omega) (by simp only; omega)).trans x0
          have HRO : Hid (Y.rowIs (p + 1) 3 1 (fun _ => .int .i64 (rimsN cr ws x : Int))) := HM.out.1.of_block (hkY.block _ (by omega) (by omega))
          have x1' := HRO.out.frozen 0
          have hof2 := of_ gw 1 1 0 Y.drew (HK1.out.of_block (hkY.block gw (by omega) (by omega))) (by omega) (by omega)
          rw [HF.out.2.1, show ((0 : Nat) : Int) = 0 from rfl] at hof2
          have HKY := Hid.mk' hkY
          obtain ⟨y, hy⟩ : ∃ y, rimsN cr ws x = y := ⟨_, rfl⟩
          have HYY : Hid (rimsN cr ws x = y) := hy
          rw [hy] at x0' hrle
          clear hY hkY d1 d4 s1 s2 x0 x1 x2 x3 hcell hof hy hSb
          go_wp2_with fail
          go_region_with (go_at_call 24; refine hof2.mono ?_; rintro e V2 ⟨rfl, rfl⟩)
          all_goals go_wp2_with fail
          all_goals go_roundw
          all_goals first
            | (refine ⟨x + 1, by omega, by go_num, (HRO.out.set 0 _).drew.congr (fun i hi => ?_), (HSE.out.setOther (by simp) _).drew, ?_⟩
               · rw [if_pos (by omega), HNO.out.1, HYY.out]
                 go_num
               · exact keepS_drew ((HM.out.2.2.trans (HKY.out.mono (fun b hb => .inr hb))).set _ _ (.inl rfl)))
            | (simp [intOf]; omega)
      · have HNO : Hid (rimsN cr ws (x + 1) = rimsN cr ws x ∧ ∀ q, seenB cr ws (x + 1) q = seenB cr ws x q) := by
          have hrc : rimC cr ws x = none := by unfold rimC; rw [hrw]
          exact ⟨rimsN_no (by unfold newB; rw [hrc]), seenB_none hrc⟩
        rw [hrw, show ([i, j] : List Nat).length = 2 from rfl] at hcell
        clear hs hSb ke k1 k4 hrw hi0e hi0 hfi hr s1 hw0
        go_wp2_with fail
        go_region_with (go_at_call 24; refine hof.mono ?_; rintro e V2 ⟨rfl, rfl⟩)
        all_goals go_wp2_with fail
        all_goals go_roundw
        all_goals first
          | exact ⟨x + 1, by omega, by go_num, by rw [HNO.out.1]; exact HM.out.1.drew, HM.out.2.1.drew.congr (fun q _ => by rw [HNO.out.2]), keepS_drew HM.out.2.2⟩
          | (simp [intOf]; omega)
    · obtain rfl : x = E := by omega
      go_wp2_with fail
      go_ret
      have hz := HX.out.2.2.2.2
      have hB := HX.out.2.2.2.1
      have hK := HM.out.2.2
      exact ⟨p + 1, rfl, HM.out.1.cell (i := 0) (by omega), ⟨hK.os.trans hB.os, hK.tape.trans hB.tape, hK.output.trans hB.output, Nat.le_trans hB.size hK.size, fun b hb => (hK.block b (Nat.lt_of_lt_of_le hb hB.size) (by omega)).trans (hB.block b hb)⟩⟩

end Go.Proofs.YtkaplnjknobdpaaDoor
