/- Boundary of a good gradient. -/
import Derived.Test.YtnnkmkhamipfiaaGreatDoorMorseChk2
import Derived.Test.YtnnkmkhamipfiaaGreatDoorMorseSumsTo
namespace Go.Proofs.YtnnkmkhamipfiaaGreatDoor
open Go.RowKit Go.Sort

def critN (L : List (List Int)) (mt : Nat → Int) (d : Int) : List Nat := (List.range L.length).filter (critB L mt d)
theorem critTo_is (L : List (List Int)) (mt : Nat → Int) (d : Int) : critTo L mt d L.length = (critN L mt d).map fun (f : Nat) => (f : Int) := rfl
def entL (L : List (List Int)) (Pf : Nat → Nat → Nat × Nat) (r c : Nat) : Int := netP (downP (sgL L) (downsL L) (Pf r) c (-1))
/-- The first entries, row by row. -/
def entsTo (L : List (List Int)) (Pf : Nat → Nat → Nat × Nat) (R C : List Nat) (i j : Nat) : List Int := ((R.take i).flatMap fun r => C.map fun c => entL L Pf r c) ++ (match R[i]? with | some r => (C.take j).map fun c => entL L Pf r c | none => [])
theorem wrap_dim : ∀ d : Nat, d ≤ 7 → IntKind.i64.wrap ((d : Int) - 1) = (d : Int) - 1 := by decide

/-- Block b is a matrix. -/
def matTy (b : Nat) (W : World) : Prop := ∃ cur, W.heap[b]? = some (.cells cur 45 (0, 0))
theorem matTy.lt {b : Nat} {W : World} (h : matTy b W) : b < W.heap.size := by obtain ⟨c, e⟩ := h; exact (Array.getElem?_eq_some_iff.1 e).1
theorem matTy.of {b : Nat} {W W' : World} (h : matTy b W) (e : W'.heap[b]? = W.heap[b]?) : matTy b W' := by obtain ⟨c, e2⟩ := h; exact ⟨c, e.trans e2⟩
theorem matTy.set {b : Nat} {W : World} (h : matTy b W) (j : Nat) (x : Value) : matTy b (W.setCell ⟨b, j, none⟩ x) := by obtain ⟨c, e⟩ := h; exact ⟨_, heap_setCell_same W b j c _ x e⟩
theorem own_typed {W : World} {base n : Nat} {t : TypeId} {v : Value} {l : List Value} (h : W.ownsRow base t 1 v n l) {b : Nat} (e : v.ownBlock = some b) : ∃ cur, W.heap[b]? = some (.cells cur t (0, 0)) := by
  rcases h.2 with ⟨rfl, _⟩ | ⟨g, cap, cur, rfl, _, hg, _⟩
  · cases e
  · cases e; exact ⟨cur, hg⟩
theorem put_keep (W : World) (b j : Nat) (x : Value) : KeepBut W (W.setCell ⟨b, j, none⟩ x) b b := ⟨rfl, rfl, rfl, by simp, fun k _ hk _ => Below.heap_setCell _ _ _ k (fun e => hk e)⟩
theorem ents_zero (L : List (List Int)) (Pf : Nat → Nat → Nat × Nat) (R C : List Nat) : entsTo L Pf R C 0 0 = [] := by
  unfold entsTo
  cases R[0]? <;> simp
theorem ents_step {L : List (List Int)} {Pf : Nat → Nat → Nat × Nat} {R C : List Nat} {i j r c : Nat} (hr : R[i]? = some r) (hc : C[j]? = some c) : entsTo L Pf R C i (j + 1) = entsTo L Pf R C i j ++ [entL L Pf r c] := by
  unfold entsTo
  rw [hr]
  simp only
  rw [List.take_add_one, hc, List.map_append, ← List.append_assoc]; rfl
theorem ents_row {L : List (List Int)} {Pf : Nat → Nat → Nat × Nat} {R C : List Nat} {i r : Nat} (hr : R[i]? = some r) : entsTo L Pf R C i C.length = entsTo L Pf R C (i + 1) 0 := by
  unfold entsTo
  rw [hr, List.take_add_one, hr]
  simp only [Option.toList_some, List.flatMap_append, List.take_length]
  cases R[i + 1]? <;> simp
theorem ents_all {L : List (List Int)} {Pf : Nat → Nat → Nat × Nat} {R C : List Nat} : entsTo L Pf R C R.length 0 = R.flatMap fun r => C.map fun c => entL L Pf r c := by
  unfold entsTo
  rw [List.take_length]
  cases R[R.length]? <;> simp
theorem flat_len {f : Nat → List Int} {k : Nat} (hf : ∀ r, (f r).length ≤ k) : ∀ l : List Nat, (l.flatMap f).length ≤ l.length * k
  | [] => by simp
  | r :: l => by
    rw [List.flatMap_cons, List.length_append, List.length_cons, Nat.succ_mul]
    have := hf r
    have := flat_len hf l
    omega
theorem ents_len {L : List (List Int)} {Pf : Nat → Nat → Nat × Nat} {R C : List Nat} (hR : R.length ≤ 600) (hC : C.length ≤ 600) (i j : Nat) : (entsTo L Pf R C i j).length ≤ 360000 + 600 := by
  unfold entsTo
  rw [List.length_append]
  have h1 := flat_len (f := fun r => C.map fun c => entL L Pf r c) (k := 600) (fun r => by rw [List.length_map]; exact hC) (R.take i)
  have h2 : (R.take i).length * 600 ≤ 600 * 600 := Nat.mul_le_mul_right _ (by rw [List.length_take]; omega)
  have h3 : (match R[i]? with | some r => (C.take j).map fun c => entL L Pf r c | none => []).length ≤ 600 := by
    cases R[i]? with
    | none => simp
    | some r => simp only [List.length_map, List.length_take]; omega
  omega
/-- What the drawn region's slots are. -/
def dstW (i : Nat) : Nat := if i < 7 then 38 + i else 3 + i
theorem dstW_inj (i j : Nat) (hi : i < 9) (hj : j < 9) (h : dstW i = dstW j) : i = j := by
  unfold dstW at h
  split at h <;> split at h <;> omega
theorem dstW_is (i : Nat) (h : i < 9) : (10 ≤ dstW i ∧ dstW i < 12) ∨ (38 ≤ dstW i ∧ dstW i < 45) := by unfold dstW; split <;> omega
def rowC (b : Nat) (w : World) (v : Value) (l : List Int) : Prop := w.ownsRow b 3 1 v l.length (l.map (Value.int .i64))
theorem rowC.below {b : Nat} {w w' : World} {v : Value} {l : List Int} (h : rowC b w v l) (hB : Below w.heap.size w w') : rowC b w' v l := World.ownsRow.kept h (Below.grownBy hB) (by cases v.ownBlock <;> simp)
def spW (b : Nat) (fv : Value) (d : Int) (Lr Lc : List Int) (i : Nat) (w : World) (v : Value) : Prop := match i with
  | 0 => v = fv
  | 1 => v = .int .i64 d
  | 2 => v = .int .i64 (d - 1)
  | 3 => rowC b w v Lr
  | 4 => v = fv
  | 5 => v = .int .i64 d
  | 6 => rowC b w v Lc
  | 7 => rowC b w v Lr
  | _ => rowC b w v Lc
theorem spW_below {b : Nat} {fv : Value} {d : Int} {Lr Lc : List Int} : ∀ (i : Nat) (w w' : World) (v : Value), i < 9 → Below w.heap.size w w' → spW b fv d Lr Lc i w v → spW b fv d Lr Lc i w' v := by
  intro i w w' v hi hB h
  match i, hi with
  | 0, _ | 1, _ | 2, _ | 4, _ | 5, _ => exact h
  | 3, _ | 6, _ | 7, _ | 8, _ => exact rowC.below h hB
  | k + 9, hk => exact absurd hk (by omega)

set_option maxRecDepth 100000 in
set_option maxHeartbeats 8000000 in
theorem bound_good {a : Nat → Addr} {s : Nat → ByteArray} {L : List (List Int)} {mt : Nat → Int} {ρ : Nat → Nat} {N M : Nat} {Pf : Nat → Nat → Nat × Nat} (hL6 : L.length ≤ 600) (hM : ∀ r x, (Pf r x).1 + (Pf r x).2 ≤ M) (hMT : 600 * M < NatTop) (hP : ∀ r, PEq (upW mt) (sgL L) (downsL L) r (Pf r))
    (hrk : ∀ i, ρ i < N) (hrank : ∀ x y, leadL L mt x y → ρ y < ρ x) (hmt : ∀ x y, upW mt x = some y → y < L.length ∧ x ∈ downsL L y)
    (al au : Option Addr) (ml cl mu cu d : Nat) (hd : d ≤ 7) (w : World) (hE : Errs a s w) (hf : ∀ V, Below w.heap.size w V → Calls Tryz.prog 37 #[.agg #[.slice al ml cl], .slice au mu cu] V fun e w' => GoodF L mt V e w') :
    Calls Tryz.prog 15 #[.agg #[.slice al ml cl], .slice au mu cu, .int .i64 (d : Int)] w fun e w' => Below w.heap.size w w' ∧
      ((∃ v, e = .returned (.tuple #[.agg #[.int .i64 ((critN L mt ((d : Int) - 1)).length : Int), .int .i64 ((critN L mt d).length : Int), v], .nilIface]) ∧ Ints w' v (entsTo L Pf (critN L mt ((d : Int) - 1)) (critN L mt d) (critN L mt ((d : Int) - 1)).length 0)) ∨
       ((∃ r ∈ critN L mt ((d : Int) - 1), ∃ c ∈ critN L mt d, ¬ (entL L Pf r c).natAbs ≤ 1048576) ∧ e = .returned (.tuple #[.agg #[.int .i64 0, .int .i64 0, .slice none 0 0], .iface 250 (.pointer (some (a 1)))]))) := by
  have hB1 : Below w.heap.size w ((w.alloc (.cells #[.slice al ml cl] 39)).alloc (.cells #[.int .i64 0, .int .i64 0, .slice none 0 0] 45)) := ((Below.refl _ w).alloc (Nat.le_refl _) _).alloc (by simp) _
  have c0 := (World.cell?_alloc_lt (w.alloc (.cells #[.slice al ml cl] 39)) (.cells #[.int .i64 0, .int .i64 0, .slice none 0 0] 45) ⟨w.heap.size, 0, none⟩ (by simp)).trans (box_new w (.slice al ml cl) 39).1
  have hmb := matBox_new (w.alloc (.cells #[.slice al ml cl] 39)) 0 0 (.slice none 0 0) 45
  rw [World.size_alloc] at hmb
  have hf1 := hf _ hB1
  have HCO : Hid (∀ (r c : Nat) (B : Nat) (ad aS ao : Option Addr) (cd cs co gm fb gb mb qb db g : Nat) (W : World) (told : Nat → Bool), c < L.length → SumIn B L mt ad aS ao cd cs co gm fb gb mb qb db g r (Pf r) W told → Calls Tryz.prog 71 #[.int .i64 (c : Int), .pointer (some ⟨db, 0, none⟩)] W fun e w' => SumSays ρ N B L mt ad aS ao cd cs co gm fb gb mb qb db g r (Pf r) (downP (sgL L) (downsL L) (Pf r) c (-1)) W e w') := fun r c B ad aS ao cd cs co gm fb gb mb qb db g W told hc h =>
    col_ W told h fun W told h => down_ hL6 (hM r) hMT hc (fun x hx _ => from_all hL6 (hM r) hMT (hP r) hrank hmt _ x (List.mem_range.1 (List.mem_filter.1 hx).1) (Nat.lt_succ_self _)) (fun x _ _ => hrk x) W told h
  have HEN : Hid (∀ (r c : Nat) (u : Value) (W : World), SumAt W u (downP (sgL L) (downsL L) (Pf r) c (-1)) → Calls Tryz.prog 41 #[u] W fun e w' => e = .returned (entV (entL L Pf r c)) ∧ Below W.heap.size W w') := fun r c u W h => sum_entry W h (by
    have h1 := part_le (L := L) (P := Pf r) (b := c) (but := -1) (hM r) (downsL L c).length
    rw [part_all (Nat.le_refl _)] at h1
    have h2 : (downsL L c).length ≤ 600 := by refine Nat.le_trans (List.length_filter_le _ _) ?_; rw [List.length_range]; exact hL6
    have h3 : (downsL L c).length * M ≤ 600 * M := Nat.mul_le_mul_right _ h2
    omega)
  have HCD : Hid (∀ (S : Nat → Prop) (ad aS ao : Option Addr) (cd cs co gm : Nat) (d : Int) (W : World), IntsIn S W (.slice ad L.length cd) (L.map fun x => (x.length : Int) - 1) → W.rowIs gm 3 L.length (fun i => .int .i64 (mt i)) → Calls Tryz.prog 39 #[fieldV L.length ad aS ao cd cs co gm, .int .i64 d] W fun e w' => ∃ v, e = .returned v ∧ w'.ownsRow W.heap.size 3 1 v (critTo L mt d L.length).length ((critTo L mt d L.length).map (Value.int .i64)) ∧ Below W.heap.size W w') := fun S ad aS ao cd cs co gm d W h1 h2 => critical_dim d W h1 h2 hL6
  have HB1 := Hid.mk' hB1
  have HMB := Hid.mk' hmb
  have HEE := Hid.mk' hE
  obtain ⟨n, hn⟩ : ∃ n, L.length = n := ⟨_, rfl⟩
  have HNN : Hid (L.length = n) := hn
  unfold GoodF fieldV at hf1
  unfold fieldV at HCD
  rw [hn] at hL6 hf1 HCD HCO
  have HL6 := Hid.mk' hL6
  obtain ⟨Rn, hRn⟩ : ∃ l, critN L mt ((d : Int) - 1) = l := ⟨_, rfl⟩
  obtain ⟨Cn, hCn⟩ : ∃ l, critN L mt (d : Int) = l := ⟨_, rfl⟩
  have HRC : Hid (critN L mt ((d : Int) - 1) = Rn ∧ critN L mt (d : Int) = Cn) := ⟨hRn, hCn⟩
  have HRM : Hid ((∀ r ∈ Rn, r < n) ∧ (∀ c ∈ Cn, c < n) ∧ Rn.length ≤ 600 ∧ Cn.length ≤ 600) := by
    have h0 : ∀ d x, x ∈ critN L mt d → x < n := fun d x hx => by rw [← hn]; exact List.mem_range.1 (List.mem_filter.1 hx).1
    have h1 : ∀ d, (critN L mt d).length ≤ 600 := fun d => by refine Nat.le_trans (List.length_filter_le _ _) ?_; rw [List.length_range, hn]; exact hL6
    rw [← hRn, ← hCn]
    exact ⟨h0 _, h0 _, h1 _, h1 _⟩
  rw [hRn, hCn]
  have hdw := wrap_dim d hd
  have e31 : decide ((d : Int) < 0) = false := decide_eq_false (by omega)
  have e34 : decide ((7 : Int) < (d : Int)) = false := decide_eq_false (by omega)
  clear hf hB1 hmb hn hE hM hMT hP hrk hrank hmt hRn hCn hd
  go_enter Tryz.func15, Tryz.ntmps15
  go_upto_region 6 with (first
    | (go_at_call 37; refine hf1.mono ?_; rintro e V ⟨ad, aS, ao, cd, cs, co, gm, rfl, hs, hr, hB⟩; have HV := Hid.mk' (And.intro hs (And.intro hr hB)); clear hf1 hs hr hB)
    | fail)
  obtain ⟨wb, hwb⟩ : ∃ wb, w.heap.size = wb := ⟨_, rfl⟩
  obtain ⟨xb, hxb⟩ : ∃ xb, V.heap.size = xb := ⟨_, rfl⟩
  have hBX : Below V.heap.size V (V.alloc (.cells #[.slice ad n cd, .slice aS n cs, .slice ao n co, .slice (some ⟨gm, 0, none⟩) n n] 81)) := (Below.refl _ V).alloc (Nat.le_refl _) _
  have hce := field_cells V (.slice ad n cd) (.slice aS n cs) (.slice ao n co) (.slice (some ⟨gm, 0, none⟩) n n) 81
  obtain ⟨X, hX⟩ : ∃ X, V.alloc (.cells #[.slice ad n cd, .slice aS n cs, .slice ao n co, .slice (some ⟨gm, 0, none⟩) n n] 81) = X := ⟨_, rfl⟩
  have hXs : X.heap.size = xb + 1 := by rw [← hX, ← hxb]; simp
  have hVw : wb + 2 ≤ V.heap.size := by have := HV.out.2.2.size; simp at this; omega
  rw [hX] at hBX hce
  rw [hxb] at hce
  try rw [hX]
  try rw [hwb]
  try rw [hxb]
  have HX : Hid (X.heap.size = xb + 1 ∧ ShapeIn (fun b => wb + 2 ≤ b ∧ b < xb) X L ad aS ao cd cs co ∧ X.rowIs gm 3 n (fun i => .int .i64 (mt i)) ∧ Below wb w X ∧ wb + 2 ≤ xb ∧ gm < xb ∧ w.heap.size = wb ∧ (∀ j u, [Value.slice ad n cd, .slice aS n cs, .slice ao n co, .slice (some ⟨gm, 0, none⟩) n n][j]? = some u → X.cell? ⟨xb, j, none⟩ = some u) ∧ MatBox (wb + 1) X 0 0 (.slice none 0 0)) := by
    have h1 := HV.out.1.mono (S' := fun b => wb + 2 ≤ b ∧ b < xb) (fun b hb hS => ⟨by simp at hS; omega, by omega⟩)
    refine ⟨hXs, h1.below hBX, HV.out.2.1.of_block (hBX.block gm HV.out.2.1.lt), ?_, by omega, by have := HV.out.2.1.lt; omega, hwb, hce, ?_⟩
    · rw [← hwb]
      exact (HB1.out.trans (HV.out.2.2.mono (by simp; omega))).trans (hBX.mono (by omega))
    · have := (HMB.out.below HV.out.2.2).below hBX
      rw [hwb] at this
      exact this
  clear hX hxb hwb hXs hVw hBX hce c0
  obtain ⟨w0, hw0⟩ : ∃ w0, w0 = w := ⟨_, rfl⟩
  subst hw0
  obtain ⟨ea, hea⟩ : ∃ ea, ea = a := ⟨_, rfl⟩
  subst hea
  refine region_grow0 (by kernel_rfl) 8 rfl dstW (spW (xb + 1) (.agg #[.slice ad n cd, .slice aS n cs, .slice ao n co, .slice (some ⟨gm, 0, none⟩) n n]) (d : Int) (Rn.map fun (f : Nat) => (f : Int)) (Cn.map fun (f : Nat) => (f : Int))) dstW_inj (fun i hi => by have := dstW_is i hi; simp; omega) spW_below (by decide +kernel) (fun jo hj LL a w hG hed => ?_) (fun LL a w hG hall => ?_)
  · skip
    have hk : ∀ j u, [Value.slice ad n cd, .slice aS n cs, .slice ao n co, .slice (some ⟨gm, 0, none⟩) n n][j]? = some u → w.cell? ⟨xb, j, none⟩ = some u := fun j u hu => (hG.bel.cell (p := ⟨xb, j, none⟩) (by rw [HX.out.1]; exact Nat.lt_succ_self _)).trans (HX.out.2.2.2.2.2.2.2.1 j u hu)
    have k0 := hk 0 _ rfl
    have k1 := hk 1 _ rfl
    have k2 := hk 2 _ rfl
    have k3 := hk 3 _ rfl
    have hcd := fun dd => HCD.out _ ad aS ao cd cs co gm dd w (by have := (HX.out.2.1.below hG.bel).dims; rw [HNN.out] at this; exact this) (HX.out.2.2.1.of_block (hG.bel.block gm HX.out.2.2.1.lt))
    have hlow : ∀ {v l}, rowC w.heap.size w v l → rowC (xb + 1) w v l := fun {v l} h => own_lower h (by have := hG.bel.size; rw [HX.out.1] at this; exact this)
    have y8 : a.tmps[8]? = some (.pointer (some ⟨xb, 0, none⟩)) := (hG.oth 8 (fun i hi => by have := dstW_is i hi; omega)).trans rfl
    have y2 : a.tmps[2]? = some (.int .i64 (d : Int)) := (hG.oth 2 (fun i hi => by have := dstW_is i hi; omega)).trans rfl
    have hv : ∀ jj, jj < 9 → jj ∈ edgesOf _ jo → ∃ v, a.tmps[dstW jj]? = some v ∧ (spW (xb + 1) (.agg #[.slice ad n cd, .slice aS n cs, .slice ao n co, .slice (some ⟨gm, 0, none⟩) n n]) (d : Int) (Rn.map fun (f : Nat) => (f : Int)) (Cn.map fun (f : Nat) => (f : Int))) jj w v := fun jj hq hq2 => hG.val jj hq (hed jj hq2)
    match jo, hj with
    | 0, _ =>
      exact op_value rfl rfl (by unfold execOp; simp [go_sem, Act.eval, y8, k0, k1, k2, k3]) ⟨_, rfl, rfl, Below.refl _ _⟩
    | 1, _ =>
      exact op_value rfl rfl (by unfold execOp; simp [go_sem, Act.eval, y2]) ⟨_, rfl, rfl, Below.refl _ _⟩
    | 2, _ =>
      obtain ⟨v1, e1, h1⟩ := hv 1 (by omega) (by decide +kernel)
      have z1 : a.tmps[39]? = some v1 := e1
      obtain rfl : v1 = _ := h1
      exact op_value rfl rfl (by unfold execOp; simp [go_sem, Act.eval, z1, hdw]) ⟨_, rfl, rfl, Below.refl _ _⟩
    | 3, _ =>
      obtain ⟨v0, e0, h0⟩ := hv 0 (by omega) (by decide +kernel)
      have z0 : a.tmps[38]? = some v0 := e0
      obtain rfl : v0 = _ := h0
      obtain ⟨v2, e2, h2⟩ := hv 2 (by omega) (by decide +kernel)
      have z2 : a.tmps[40]? = some v2 := e2
      obtain rfl : v2 = _ := h2
      refine op_call rfl rfl (by unfold execOp; simp [go_sem, Act.eval, z0, z2]) _ (hcd ((d : Int) - 1)) fun e w' hh => ?_
      obtain ⟨v, rfl, hv1, hv2⟩ := hh
      rw [show ∀ dd, critTo L mt dd n = (critN L mt dd).map (fun (f : Nat) => (f : Int)) from fun dd => by rw [← HNN.out]; exact critTo_is _ _ _, HRC.out.1] at hv1
      exact ⟨v, rfl, v, rfl, own_lower hv1 (by have := hG.bel.size; rw [HX.out.1] at this; exact this), hv2⟩
    | 4, _ =>
      exact op_value rfl rfl (by unfold execOp; simp [go_sem, Act.eval, y8, k0, k1, k2, k3]) ⟨_, rfl, rfl, Below.refl _ _⟩
    | 5, _ =>
      exact op_value rfl rfl (by unfold execOp; simp [go_sem, Act.eval, y2]) ⟨_, rfl, rfl, Below.refl _ _⟩
    | 6, _ =>
      obtain ⟨v4, e4, h4⟩ := hv 4 (by omega) (by decide +kernel)
      have z4 : a.tmps[42]? = some v4 := e4
      obtain rfl : v4 = _ := h4
      obtain ⟨v5, e5, h5⟩ := hv 5 (by omega) (by decide +kernel)
      have z5 : a.tmps[43]? = some v5 := e5
      obtain rfl : v5 = _ := h5
      refine op_call rfl rfl (by unfold execOp; simp [go_sem, Act.eval, z4, z5]) _ (hcd (d : Int)) fun e w' hh => ?_
      obtain ⟨v, rfl, hv1, hv2⟩ := hh
      rw [show ∀ dd, critTo L mt dd n = (critN L mt dd).map (fun (f : Nat) => (f : Int)) from fun dd => by rw [← HNN.out]; exact critTo_is _ _ _, HRC.out.2] at hv1
      exact ⟨v, rfl, v, rfl, own_lower hv1 (by have := hG.bel.size; rw [HX.out.1] at this; exact this), hv2⟩
    | 7, _ =>
      obtain ⟨v3, e3, h3⟩ := hv 3 (by omega) (by decide +kernel)
      have z3 : a.tmps[41]? = some v3 := e3
      exact op_value rfl rfl (by unfold execOp; simp [go_sem, Act.eval, z3]) ⟨v3, rfl, h3, Below.refl _ _⟩
    | 8, _ =>
      obtain ⟨v6, e6, h6⟩ := hv 6 (by omega) (by decide +kernel)
      have z6 : a.tmps[44]? = some v6 := e6
      exact op_value rfl rfl (by unfold execOp; simp [go_sem, Act.eval, z6]) ⟨v6, rfl, h6, Below.refl _ _⟩
    | q + 9, hq => exact absurd hq (by omega)
  · skip
    obtain ⟨v0, e0, h0⟩ := hall 0 (by omega)
    obtain ⟨v1, e1, h1⟩ := hall 1 (by omega)
    obtain ⟨v2, e2, h2⟩ := hall 2 (by omega)
    obtain ⟨v3, e3, h3⟩ := hall 3 (by omega)
    obtain ⟨v4, e4, h4⟩ := hall 4 (by omega)
    obtain ⟨v5, e5, h5⟩ := hall 5 (by omega)
    obtain ⟨v6, e6, h6⟩ := hall 6 (by omega)
    obtain ⟨v7, e7, h7⟩ := hall 7 (by omega)
    obtain ⟨v8, e8, h8⟩ := hall 8 (by omega)
    obtain rfl : v0 = _ := h0
    obtain rfl : v1 = _ := h1
    obtain rfl : v2 = _ := h2
    obtain rfl : v4 = _ := h4
    obtain rfl : v5 = _ := h5
    obtain ⟨ar, cr, rfl⟩ := own_slice h7
    obtain ⟨ac, cc, rfl⟩ := own_slice h8
    rw [List.length_map] at e7 e8
    have ha : a = ⟨#[.agg #[.slice al ml cl], .slice au mu cu, .int .i64 (d : Int), .pointer (some ⟨wb, 0, none⟩), undef, undef, .pointer (some ⟨wb + 1, 0, none⟩), .nilIface, .pointer (some ⟨xb, 0, none⟩), .nilIface, .slice ar Rn.length cr, .slice ac Cn.length cc, undef, undef, undef, undef, undef, undef, undef, undef, .tuple #[.agg #[.slice ad n cd, .slice aS n cs, .slice ao n co, .slice (some ⟨gm, 0, none⟩) n n], .nilIface], .agg #[.slice al ml cl], .slice au mu cu, .tuple #[.agg #[.slice ad n cd, .slice aS n cs, .slice ao n co, .slice (some ⟨gm, 0, none⟩) n n], .nilIface], .agg #[.slice ad n cd, .slice aS n cs, .slice ao n co, .slice (some ⟨gm, 0, none⟩) n n], .nilIface, .nilIface, .bool false, undef, undef, .int .i64 (d : Int), .bool false, .bool false, .int .i64 (d : Int), .bool false, .bool false, undef, undef, .agg #[.slice ad n cd, .slice aS n cs, .slice ao n co, .slice (some ⟨gm, 0, none⟩) n n], .int .i64 (d : Int), .int .i64 ((d : Int) - 1), v3, .agg #[.slice ad n cd, .slice aS n cs, .slice ao n co, .slice (some ⟨gm, 0, none⟩) n n], .int .i64 (d : Int), v6, undef, undef, undef, undef, undef, undef, undef, undef, undef, undef, undef, undef, undef, undef, undef, undef, undef, undef, undef, undef, undef, undef, undef, undef, undef, undef, undef, undef, undef, undef, undef, undef, undef, undef, undef, undef, undef, undef, undef, undef], []⟩ := by
      refine act_eq (l := [.agg #[.slice al ml cl], .slice au mu cu, .int .i64 (d : Int), .pointer (some ⟨wb, 0, none⟩), undef, undef, .pointer (some ⟨wb + 1, 0, none⟩), .nilIface, .pointer (some ⟨xb, 0, none⟩), .nilIface, .slice ar Rn.length cr, .slice ac Cn.length cc, undef, undef, undef, undef, undef, undef, undef, undef, .tuple #[.agg #[.slice ad n cd, .slice aS n cs, .slice ao n co, .slice (some ⟨gm, 0, none⟩) n n], .nilIface], .agg #[.slice al ml cl], .slice au mu cu, .tuple #[.agg #[.slice ad n cd, .slice aS n cs, .slice ao n co, .slice (some ⟨gm, 0, none⟩) n n], .nilIface], .agg #[.slice ad n cd, .slice aS n cs, .slice ao n co, .slice (some ⟨gm, 0, none⟩) n n], .nilIface, .nilIface, .bool false, undef, undef, .int .i64 (d : Int), .bool false, .bool false, .int .i64 (d : Int), .bool false, .bool false, undef, undef, .agg #[.slice ad n cd, .slice aS n cs, .slice ao n co, .slice (some ⟨gm, 0, none⟩) n n], .int .i64 (d : Int), .int .i64 ((d : Int) - 1), v3, .agg #[.slice ad n cd, .slice aS n cs, .slice ao n co, .slice (some ⟨gm, 0, none⟩) n n], .int .i64 (d : Int), v6, undef, undef, undef, undef, undef, undef, undef, undef, undef, undef, undef, undef, undef, undef, undef, undef, undef, undef, undef, undef, undef, undef, undef, undef, undef, undef, undef, undef, undef, undef, undef, undef, undef, undef, undef, undef, undef, undef, undef, undef]) (by rw [hG.asz]; rfl) (fun q hq => ?_) hG.dfr
      match q, hq with
      | 0, _ => exact (hG.oth 0 (fun i hi => by have := dstW_is i hi; omega)).trans rfl
      | 1, _ => exact (hG.oth 1 (fun i hi => by have := dstW_is i hi; omega)).trans rfl
      | 2, _ => exact (hG.oth 2 (fun i hi => by have := dstW_is i hi; omega)).trans rfl
      | 3, _ => exact (hG.oth 3 (fun i hi => by have := dstW_is i hi; omega)).trans rfl
      | 4, _ => exact (hG.oth 4 (fun i hi => by have := dstW_is i hi; omega)).trans rfl
      | 5, _ => exact (hG.oth 5 (fun i hi => by have := dstW_is i hi; omega)).trans rfl
      | 6, _ => exact (hG.oth 6 (fun i hi => by have := dstW_is i hi; omega)).trans rfl
      | 7, _ => exact (hG.oth 7 (fun i hi => by have := dstW_is i hi; omega)).trans rfl
      | 8, _ => exact (hG.oth 8 (fun i hi => by have := dstW_is i hi; omega)).trans rfl
      | 9, _ => exact (hG.oth 9 (fun i hi => by have := dstW_is i hi; omega)).trans rfl
      | 10, _ => exact e7
      | 11, _ => exact e8
      | 12, _ => exact (hG.oth 12 (fun i hi => by have := dstW_is i hi; omega)).trans rfl
      | 13, _ => exact (hG.oth 13 (fun i hi => by have := dstW_is i hi; omega)).trans rfl
      | 14, _ => exact (hG.oth 14 (fun i hi => by have := dstW_is i hi; omega)).trans rfl
      | 15, _ => exact (hG.oth 15 (fun i hi => by have := dstW_is i hi; omega)).trans rfl
      | 16, _ => exact (hG.oth 16 (fun i hi => by have := dstW_is i hi; omega)).trans rfl
      | 17, _ => exact (hG.oth 17 (fun i hi => by have := dstW_is i hi; omega)).trans rfl
      | 18, _ => exact (hG.oth 18 (fun i hi => by have := dstW_is i hi; omega)).trans rfl
      | 19, _ => exact (hG.oth 19 (fun i hi => by have := dstW_is i hi; omega)).trans rfl
      | 20, _ => exact (hG.oth 20 (fun i hi => by have := dstW_is i hi; omega)).trans rfl
      | 21, _ => exact (hG.oth 21 (fun i hi => by have := dstW_is i hi; omega)).trans rfl
      | 22, _ => exact (hG.oth 22 (fun i hi => by have := dstW_is i hi; omega)).trans rfl
      | 23, _ => exact (hG.oth 23 (fun i hi => by have := dstW_is i hi; omega)).trans rfl
      | 24, _ => exact (hG.oth 24 (fun i hi => by have := dstW_is i hi; omega)).trans rfl
      | 25, _ => exact (hG.oth 25 (fun i hi => by have := dstW_is i hi; omega)).trans rfl
      | 26, _ => exact (hG.oth 26 (fun i hi => by have := dstW_is i hi; omega)).trans rfl
      | 27, _ => exact (hG.oth 27 (fun i hi => by have := dstW_is i hi; omega)).trans rfl
      | 28, _ => exact (hG.oth 28 (fun i hi => by have := dstW_is i hi; omega)).trans rfl
      | 29, _ => exact (hG.oth 29 (fun i hi => by have := dstW_is i hi; omega)).trans rfl
      | 30, _ => exact (hG.oth 30 (fun i hi => by have := dstW_is i hi; omega)).trans rfl
      | 31, _ => exact (hG.oth 31 (fun i hi => by have := dstW_is i hi; omega)).trans rfl
      | 32, _ => exact (hG.oth 32 (fun i hi => by have := dstW_is i hi; omega)).trans rfl
      | 33, _ => exact (hG.oth 33 (fun i hi => by have := dstW_is i hi; omega)).trans rfl
      | 34, _ => exact (hG.oth 34 (fun i hi => by have := dstW_is i hi; omega)).trans rfl
      | 35, _ => exact (hG.oth 35 (fun i hi => by have := dstW_is i hi; omega)).trans rfl
      | 36, _ => exact (hG.oth 36 (fun i hi => by have := dstW_is i hi; omega)).trans rfl
      | 37, _ => exact (hG.oth 37 (fun i hi => by have := dstW_is i hi; omega)).trans rfl
      | 38, _ => exact e0
      | 39, _ => exact e1
      | 40, _ => exact e2
      | 41, _ => exact e3
      | 42, _ => exact e4
      | 43, _ => exact e5
      | 44, _ => exact e6
      | 45, _ => exact (hG.oth 45 (fun i hi => by have := dstW_is i hi; omega)).trans rfl
      | 46, _ => exact (hG.oth 46 (fun i hi => by have := dstW_is i hi; omega)).trans rfl
      | 47, _ => exact (hG.oth 47 (fun i hi => by have := dstW_is i hi; omega)).trans rfl
      | 48, _ => exact (hG.oth 48 (fun i hi => by have := dstW_is i hi; omega)).trans rfl
      | 49, _ => exact (hG.oth 49 (fun i hi => by have := dstW_is i hi; omega)).trans rfl
      | 50, _ => exact (hG.oth 50 (fun i hi => by have := dstW_is i hi; omega)).trans rfl
      | 51, _ => exact (hG.oth 51 (fun i hi => by have := dstW_is i hi; omega)).trans rfl
      | 52, _ => exact (hG.oth 52 (fun i hi => by have := dstW_is i hi; omega)).trans rfl
      | 53, _ => exact (hG.oth 53 (fun i hi => by have := dstW_is i hi; omega)).trans rfl
      | 54, _ => exact (hG.oth 54 (fun i hi => by have := dstW_is i hi; omega)).trans rfl
      | 55, _ => exact (hG.oth 55 (fun i hi => by have := dstW_is i hi; omega)).trans rfl
      | 56, _ => exact (hG.oth 56 (fun i hi => by have := dstW_is i hi; omega)).trans rfl
      | 57, _ => exact (hG.oth 57 (fun i hi => by have := dstW_is i hi; omega)).trans rfl
      | 58, _ => exact (hG.oth 58 (fun i hi => by have := dstW_is i hi; omega)).trans rfl
      | 59, _ => exact (hG.oth 59 (fun i hi => by have := dstW_is i hi; omega)).trans rfl
      | 60, _ => exact (hG.oth 60 (fun i hi => by have := dstW_is i hi; omega)).trans rfl
      | 61, _ => exact (hG.oth 61 (fun i hi => by have := dstW_is i hi; omega)).trans rfl
      | 62, _ => exact (hG.oth 62 (fun i hi => by have := dstW_is i hi; omega)).trans rfl
      | 63, _ => exact (hG.oth 63 (fun i hi => by have := dstW_is i hi; omega)).trans rfl
      | 64, _ => exact (hG.oth 64 (fun i hi => by have := dstW_is i hi; omega)).trans rfl
      | 65, _ => exact (hG.oth 65 (fun i hi => by have := dstW_is i hi; omega)).trans rfl
      | 66, _ => exact (hG.oth 66 (fun i hi => by have := dstW_is i hi; omega)).trans rfl
      | 67, _ => exact (hG.oth 67 (fun i hi => by have := dstW_is i hi; omega)).trans rfl
      | 68, _ => exact (hG.oth 68 (fun i hi => by have := dstW_is i hi; omega)).trans rfl
      | 69, _ => exact (hG.oth 69 (fun i hi => by have := dstW_is i hi; omega)).trans rfl
      | 70, _ => exact (hG.oth 70 (fun i hi => by have := dstW_is i hi; omega)).trans rfl
      | 71, _ => exact (hG.oth 71 (fun i hi => by have := dstW_is i hi; omega)).trans rfl
      | 72, _ => exact (hG.oth 72 (fun i hi => by have := dstW_is i hi; omega)).trans rfl
      | 73, _ => exact (hG.oth 73 (fun i hi => by have := dstW_is i hi; omega)).trans rfl
      | 74, _ => exact (hG.oth 74 (fun i hi => by have := dstW_is i hi; omega)).trans rfl
      | 75, _ => exact (hG.oth 75 (fun i hi => by have := dstW_is i hi; omega)).trans rfl
      | 76, _ => exact (hG.oth 76 (fun i hi => by have := dstW_is i hi; omega)).trans rfl
      | 77, _ => exact (hG.oth 77 (fun i hi => by have := dstW_is i hi; omega)).trans rfl
      | 78, _ => exact (hG.oth 78 (fun i hi => by have := dstW_is i hi; omega)).trans rfl
      | 79, _ => exact (hG.oth 79 (fun i hi => by have := dstW_is i hi; omega)).trans rfl
      | 80, _ => exact (hG.oth 80 (fun i hi => by have := dstW_is i hi; omega)).trans rfl
      | 81, _ => exact (hG.oth 81 (fun i hi => by have := dstW_is i hi; omega)).trans rfl
      | 82, _ => exact (hG.oth 82 (fun i hi => by have := dstW_is i hi; omega)).trans rfl
      | 83, _ => exact (hG.oth 83 (fun i hi => by have := dstW_is i hi; omega)).trans rfl
      | 84, _ => exact (hG.oth 84 (fun i hi => by have := dstW_is i hi; omega)).trans rfl
      | q + 85, hq => exact absurd hq (by simp)
    have HR : Hid (rowC (xb + 1) w (.slice ar Rn.length cr) (Rn.map fun (f : Nat) => (f : Int)) ∧ rowC (xb + 1) w (.slice ac Cn.length cc) (Cn.map fun (f : Nat) => (f : Int)) ∧ Below (xb + 1) X w) := by
      rw [List.length_map] at h7 h8
      exact ⟨h7, h8, hG.bel.mono (by rw [HX.out.1]; exact Nat.le_refl _)⟩
    rename_i hK
    refine hK _ _ ?_
    rw [ha]
    clear ha hG hall hK h3 h6 h7 h8 e0 e1 e2 e3 e4 e5 e6 e7 e8 hdw e31 e34
    go_upto_region 8 with fail
    obtain ⟨yb, hyb⟩ : ∃ yb, w.heap.size = yb := ⟨_, rfl⟩
    have hBY : Below w.heap.size w (w.alloc (.cells #[.int .i64 (Rn.length : Int), .int .i64 (Cn.length : Int), .slice none 0 0] 45)) := (Below.refl _ w).alloc (Nat.le_refl _) _
    have hmy := matBox_new w (Rn.length : Int) (Cn.length : Int) (.slice none 0 0) 45
    obtain ⟨Y, hY⟩ : ∃ Y, w.alloc (.cells #[.int .i64 (Rn.length : Int), .int .i64 (Cn.length : Int), .slice none 0 0] 45) = Y := ⟨_, rfl⟩
    have hYs : Y.heap.size = yb + 1 := by rw [← hY, ← hyb]; simp
    rw [hY] at hBY hmy
    rw [hyb] at hmy
    try rw [hY]
    try rw [hyb]
    have hxy : xb + 1 ≤ yb := by have := HR.out.2.2.size; rw [HX.out.1, hyb] at this; exact this
    have hty : matTy yb Y := by rw [← hY, ← hyb]; exact ⟨_, (Go.MapKept.heap_alloc w _).1⟩
    have HTY := Hid.mk' hty
    clear hty
    have HY : Hid (Y.heap.size = yb + 1 ∧ MatBox yb Y Rn.length Cn.length (.slice none 0 0) ∧ Below (xb + 1) X Y ∧ xb + 1 ≤ yb) := ⟨hYs, hmy, HR.out.2.2.trans (hBY.mono (by omega)), hxy⟩
    have hin : ∀ {v l}, rowC (xb + 1) w v l → IntsIn (fun b => xb + 1 ≤ b ∧ b < yb) Y v l := fun {v l} h => by
      have h1 : SliceIn (fun b => xb + 1 ≤ b ∧ b < yb) w v _ := slice_of_owns h (fun b hb e => ⟨hb, by have := (World.ownsRow.lt h b e).2; omega⟩)
      exact SliceIn.below h1 hBY
    have HIN : Hid (IntsIn (fun b => xb + 1 ≤ b ∧ b < yb) Y (.slice ar Rn.length cr) (Rn.map fun (f : Nat) => (f : Int)) ∧ IntsIn (fun b => xb + 1 ≤ b ∧ b < yb) Y (.slice ac Cn.length cc) (Cn.map fun (f : Nat) => (f : Int))) := ⟨hin HR.out.1, hin HR.out.2.1⟩
    -- what every later world has
    have HYW : Hid (∀ W, KeepBut Y W yb yb → (∀ j u, [Value.slice ad n cd, .slice aS n cs, .slice ao n co, .slice (some ⟨gm, 0, none⟩) n n][j]? = some u → W.cell? ⟨xb, j, none⟩ = some u) ∧ SidesIn (fun b => b < xb) W (.slice aS L.length cs) L ∧ W.rowIs gm 3 n (fun i => .int .i64 (mt i)) ∧ IntsIn (fun b => xb + 1 ≤ b ∧ b < yb) W (.slice ar Rn.length cr) (Rn.map fun (f : Nat) => (f : Int)) ∧ IntsIn (fun b => xb + 1 ≤ b ∧ b < yb) W (.slice ac Cn.length cc) (Cn.map fun (f : Nat) => (f : Int)) ∧ MatBox (wb + 1) W 0 0 (.slice none 0 0) ∧ Below wb w0 W) := fun W hK => by
      have hxs := HX.out.1
      have hxw := HX.out.2.2.2.2.1
      have hY1 := HY.out.2.2.1
      have hXY : ∀ b, b < xb + 1 → W.heap[b]? = X.heap[b]? := fun b hb => (hK.block b (by have := HY.out.1; omega) (by omega) (by omega)).trans (hY1.block b hb)
      have hc : ∀ p u, p.block < xb + 1 → X.cell? p = some u → W.cell? p = some u := fun p u hp e => (World.cell?_of_block (hXY p.block hp)).trans e
      refine ⟨fun j u hu => hc ⟨xb, j, none⟩ u (Nat.lt_succ_self _) (HX.out.2.2.2.2.2.2.2.1 j u hu), ?_, HX.out.2.2.1.of_block (hXY gm (by have := HX.out.2.2.2.2.2.1; omega)), SliceIn.keep HIN.out.1 (fun b hb hS => hK.block b hb (by have := hS.2; omega) (by have := hS.2; omega)), SliceIn.keep HIN.out.2 (fun b hb hS => hK.block b hb (by have := hS.2; omega) (by have := hS.2; omega)), ?_, ?_⟩
      · have h1 := HX.out.2.1.sides.mono (S' := fun b => b < xb) (fun b _ hS => hS.2)
        exact h1.keep (Nat.le_trans hY1.size hK.size) (fun b hb hS => hXY b (by have hS : b < xb := hS; omega))
      · have hm := HX.out.2.2.2.2.2.2.2.2
        have e := hXY (wb + 1) (by omega)
        exact ⟨⟨(World.cell?_of_block (a := ⟨wb + 1, 0, none⟩) e).trans hm.c0.1, (World.frozen?_of_block (a := ⟨wb + 1, 0, none⟩) e).trans hm.c0.2⟩, ⟨(World.cell?_of_block (a := ⟨wb + 1, 1, none⟩) e).trans hm.c1.1, (World.frozen?_of_block (a := ⟨wb + 1, 1, none⟩) e).trans hm.c1.2⟩, ⟨(World.cell?_of_block (a := ⟨wb + 1, 2, none⟩) e).trans hm.c2.1, (World.frozen?_of_block (a := ⟨wb + 1, 2, none⟩) e).trans hm.c2.2⟩⟩
      · have h1 := HX.out.2.2.2.1
        exact ⟨hK.os.trans (hY1.os.trans h1.os), hK.tape.trans (hY1.tape.trans h1.tape), hK.output.trans (hY1.output.trans h1.output), Nat.le_trans h1.size (Nat.le_trans hY1.size hK.size), fun b hb => (hXY b (by omega)).trans (h1.block b hb)⟩
    have HNB : Hid (Rn.length ≤ 600 ∧ Cn.length ≤ 600) := HRM.out.2.2
    obtain ⟨i0, hi0, hz0, hz1, hz2⟩ := info_parts Tryz.info3
    obtain ⟨nr, hnr⟩ : ∃ nr, Rn.length = nr := ⟨_, rfl⟩
    obtain ⟨nc, hnc⟩ : ∃ nc, Cn.length = nc := ⟨_, rfl⟩
    have HNN2 : Hid (Rn.length = nr ∧ Cn.length = nc) := ⟨hnr, hnc⟩
    have hnr6 : nr ≤ 600 := by rw [← hnr]; exact HNB.out.1
    have hnc6 : nc ≤ 600 := by rw [← hnc]; exact HNB.out.2
    rw [hnr] at HYW HY ⊢
    rw [hnc] at HYW HY ⊢
    clear hBY hmy hY hyb hYs hxy hin hnr hnc
    go_wp2_with fail
    go_loopw [52] (fun p W => ∃ i : Nat, i ≤ nr ∧ p = .int .i64 (i : Int) ∧ ∃ v, Hid (KeepBut Y W yb yb ∧ MatBox yb W nr nc v ∧ rowC (yb + 1) W v (entsTo L Pf Rn Cn i 0) ∧ matTy yb W)) (fun p _ => nr - (intOf p).toNat)
    case atStart => exact ⟨0, by omega, rfl, .slice none 0 0, KeepBut.refl _ _ _, HY.out.2.1, by rw [ents_zero]; exact World.ownsRow_nil _ _ _ _, HTY.out⟩
    case round =>
      obtain ⟨i, hi, rfl, v, HJ⟩ := hrel
      obtain ⟨av, cv, rfl⟩ := own_slice HJ.out.2.2.1
      by_cases hir : i < nr
      · obtain ⟨hf0, hsd, hgm, hri, hci, hrb, hbw⟩ := HYW.out wr HJ.out.1
        obtain ⟨r, hr⟩ : ∃ r, Rn[i]? = some r := ⟨_, List.getElem?_eq_getElem (by rw [HNN2.out.1]; exact hir)⟩
        obtain ⟨ar', cr', e, -, hrc⟩ := hri.open_
        rw [List.length_map, HNN2.out.1] at e hrc
        cases e
        obtain ⟨br, or, rfl, -, hbr, hcell⟩ := hrc (by omega)
        have x0 := hcell i hir
        rw [show (Rn.map fun (f : Nat) => (f : Int))[i]?.getD 0 = (r : Int) from by rw [List.getElem?_map, hr]; rfl] at x0
        have hrn : r < n := HRM.out.1 r (List.mem_iff_getElem?.2 ⟨i, hr⟩)
        have d0 := hf0 0 _ rfl
        have d1 := hf0 1 _ rfl
        have d2 := hf0 2 _ rfl
        have d3 := hf0 3 _ rfl
        have hpl : xb < wr.heap.size := cell_lt d0
        have hsu := sums_to (mt := mt) (ad := ad) (aS := aS) (ao := ao) (cd := cd) (cs := cs) (co := co) (gm := gm) r (Pf r) wr (hsd.mono (fun b hb _ => hb)) (by rw [HNN.out]; exact hgm)
        rw [HNN.out] at hsu
        unfold fieldV at hsu
        have HRR : Hid (Rn[i]? = some r ∧ r ∈ Rn) := ⟨hr, List.mem_iff_getElem?.2 ⟨i, hr⟩⟩
        have z2 : (i : Int) < (nr : Int) := by omega
        obtain ⟨p1, hp1⟩ : ∃ p1, wr.heap.size = p1 := ⟨_, rfl⟩
        have HP1 : Hid (wr.heap.size = p1 ∧ yb + 1 ≤ p1) := ⟨hp1, by have := HJ.out.1.size; rw [HY.out.1] at this; omega⟩
        clear hf0 hsd hgm hri hci hrb hbw hr hrc hcell hrn hp1 hpl
        go_upto_region 12 with (first
          | (go_at_call 40; refine hsu.mono ?_; clear hsu; rintro e V1 ⟨hB1, B, fb, gb, mb, qb, db, g, rfl, hlo, hin⟩)
          | fail)
        rw [HP1.out.1] at hlo hB1
        have HKV : Hid (KeepBut Y V1 yb yb) := HJ.out.1.below (by rw [HP1.out.1]; exact hB1)
        have HLO := Hid.mk' hlo
        have HV1 : Hid (MatBox yb V1 nr nc (.slice av (entsTo L Pf Rn Cn i 0).length cv) ∧ rowC (yb + 1) V1 (.slice av (entsTo L Pf Rn Cn i 0).length cv) (entsTo L Pf Rn Cn i 0) ∧ SumIn B L mt ad aS ao cd cs co gm fb gb mb qb db g r (Pf r) V1 (fun _ => false) ∧ (∀ b, Value.ownBlock (.slice av (entsTo L Pf Rn Cn i 0).length cv) = some b → b < p1) ∧ matTy yb V1) := by
          have hB1' : Below wr.heap.size wr V1 := by rw [HP1.out.1]; exact hB1
          exact ⟨HJ.out.2.1.below hB1', HJ.out.2.2.1.below hB1', hin, fun b e => by have := (World.ownsRow.lt HJ.out.2.2.1 b e).2; rw [HP1.out.1] at this; exact this, HJ.out.2.2.2.of (hB1'.block yb HJ.out.2.2.2.lt)⟩
        clear hlo hin hB1
        go_wp2_with fail
        go_loopw [61] (fun p W => ∃ j : Nat, j ≤ nc ∧ p = .int .i64 (j : Int) ∧ ∃ v told, Hid (KeepBut Y W yb yb ∧ MatBox yb W nr nc v ∧ rowC (yb + 1) W v (entsTo L Pf Rn Cn i j) ∧ SumIn B L mt ad aS ao cd cs co gm fb gb mb qb db g r (Pf r) W told ∧ (∀ b, v.ownBlock = some b → b < p1 ∨ B ≤ b) ∧ matTy yb W)) (fun p _ => nc - (intOf p).toNat)
        case atStart => exact ⟨0, by omega, rfl, _, fun _ => false, HKV.out, HV1.out.1, HV1.out.2.1, HV1.out.2.2.1, fun b e => .inl (HV1.out.2.2.2.1 b e), HV1.out.2.2.2.2⟩
        case round =>
          obtain ⟨j, hj, rfl, v, told, HW⟩ := hrel
          obtain ⟨av, cv, rfl⟩ := own_slice HW.out.2.2.1
          by_cases hjc : j < nc
          · obtain ⟨hf0, hsd, hgm, hri, hci, hrb, hbw⟩ := HYW.out wr HW.out.1
            obtain ⟨c, hc⟩ : ∃ c, Cn[j]? = some c := ⟨_, List.getElem?_eq_getElem (by rw [HNN2.out.2]; exact hjc)⟩
            obtain ⟨ac', cc', e, -, hrc⟩ := hci.open_
            rw [List.length_map, HNN2.out.2] at e hrc
            cases e
            obtain ⟨bc, oc, rfl, -, hbc, hcell⟩ := hrc (by omega)
            have y0 := hcell j hjc
            rw [show (Cn.map fun (f : Nat) => (f : Int))[j]?.getD 0 = (c : Int) from by rw [List.getElem?_map, hc]; rfl] at y0
            have hcn : c < L.length := by rw [HNN.out]; exact HRM.out.2.1 c (List.mem_iff_getElem?.2 ⟨j, hc⟩)
            have hco := HCO.out r c B ad aS ao cd cs co gm fb gb mb qb db g wr told (by rw [← HNN.out]; exact hcn) HW.out.2.2.2.1
            have HCC : Hid (Cn[j]? = some c ∧ c ∈ Cn ∧ c < L.length) := ⟨hc, List.mem_iff_getElem?.2 ⟨j, hc⟩, hcn⟩
            have z3 : (j : Int) < (nc : Int) := by omega
            have HEV : Hid (entsTo L Pf Rn Cn i (j + 1) = entsTo L Pf Rn Cn i j ++ [entL L Pf r c]) := ents_step HRR.out.1 hc
            obtain ⟨x, hx⟩ : ∃ x, entL L Pf r c = x := ⟨_, rfl⟩
            have HXX : Hid (entL L Pf r c = x) := hx
            have hen := fun u W => HEN.out r c u W
            rw [hx] at HEV hen
            obtain ⟨len, hlen⟩ : ∃ len, (entsTo L Pf Rn Cn i j).length = len := ⟨_, rfl⟩
            have HLN : Hid ((entsTo L Pf Rn Cn i j).length = len ∧ len ≤ 360600) := ⟨hlen, by
              rw [← hlen]
              exact ents_len HNB.out.1 HNB.out.2 i j⟩
            rw [hlen] at HW
            clear hf0 hsd hgm hri hci hrb hbw hc hrc hcell hcn hx hlen
            by_cases hsm : x.natAbs ≤ 1048576
            · have hev : entV x = .tuple #[.int .i64 x, .bool true] := if_pos hsm
              rw [hev] at hen
              clear hev
              go_upto_region 16 with (first
                | (go_at_call 71; refine hco.mono ?_; clear hco; rintro e V2 ⟨u, rfl, hu, hL2⟩; obtain ⟨u1, u2, rfl, n1, n2⟩ := hu; obtain ⟨a5, m5, c5, rfl⟩ := n1.form; obtain ⟨a6, m6, c6, rfl⟩ := n2.form; have HU := Hid.mk' hL2; have hen2 := hen _ V2 ⟨_, _, rfl, n1, n2⟩; clear hen hL2 n1 n2)
                | (go_at_call 41; refine hen2.mono ?_; clear hen2; rintro e V3 ⟨rfl, hV3⟩; have HV3 : Hid (Below V2.heap.size V2 V3) := hV3; clear hV3)
                | fail)
              obtain ⟨told2, hS2⟩ := later_in HU.out ⟨told, HW.out.2.2.2.1⟩
              have hgr := HU.out.1
              have hS3 := hS2.below HV3.out
              have hgm' := hS2.known.block
              have hlo := HLO.out
              have hp1 := HP1.out.2
              have hbl : ∀ b, Value.ownBlock (.slice av len cv) = some b → b ≠ g := fun b e => by
                rcases HW.out.2.2.2.2.1 b e with h | h <;> omega
              have hrow2 : rowC (yb + 1) V2 (.slice av len cv) (entsTo L Pf Rn Cn i j) := World.ownsRow.kept HW.out.2.2.1 hgr (.inr fun e => hbl g e rfl)
              have hrow3 := hrow2.below HV3.out
              have hK2 : KeepBut Y V2 yb yb := HW.out.1.on hgr (fun b e => by cases e; exact .inr (.inr (by rw [HY.out.1]; omega)))
              have hK3 := hK2.below HV3.out
              have hm2 : MatBox yb V2 nr nc (.slice av len cv) := by
                have hm := HW.out.2.1
                have e := hgr.block yb (by have := hm.lt; exact this) (fun e => by cases e; omega)
                exact ⟨⟨(World.cell?_of_block (a := ⟨yb, 0, none⟩) e).trans hm.c0.1, (World.frozen?_of_block (a := ⟨yb, 0, none⟩) e).trans hm.c0.2⟩, ⟨(World.cell?_of_block (a := ⟨yb, 1, none⟩) e).trans hm.c1.1, (World.frozen?_of_block (a := ⟨yb, 1, none⟩) e).trans hm.c1.2⟩, ⟨(World.cell?_of_block (a := ⟨yb, 2, none⟩) e).trans hm.c2.1, (World.frozen?_of_block (a := ⟨yb, 2, none⟩) e).trans hm.c2.2⟩⟩
              have hm3 := hm2.below HV3.out
              have H3 : Hid (SumIn B L mt ad aS ao cd cs co gm fb gb mb qb db g r (Pf r) V3 told2 ∧ KeepBut Y V3 yb yb ∧ MatBox yb V3 nr nc (.slice av len cv) ∧ rowC (yb + 1) V3 (.slice av len cv) (entsTo L Pf Rn Cn i j) ∧ yb + 1 ≤ V3.heap.size ∧ matTy yb V3) := ⟨hS3, hK3, hm3, hrow3, by have := hK3.size; rw [HY.out.1] at this; exact this, (HW.out.2.2.2.2.2.of (hgr.block yb HW.out.2.2.2.2.2.lt (fun e => by cases e; omega))).of (HV3.out.block yb (HW.out.2.2.2.2.2.of (hgr.block yb HW.out.2.2.2.2.2.lt (fun e => by cases e; omega))).lt)⟩
              have own : V3.ownsRow (yb + 1) 3 1 (.slice av len cv) len ((entsTo L Pf Rn Cn i j).map (Value.int .i64)) := by have := hrow3; unfold rowC at this; rw [HLN.out.1] at this; exact this
              have t2 := hm3.c2.1
              have hl3 := HLN.out.2
              have hy3 := H3.out.2.2.2.2.1
              clear hS2 hS3 hgm' hgr hlo hp1 hbl hrow2 hrow3 hK2 hK3 hm2 hm3
              go_upto_region 19 with (first
                | (at_builtin; refine wpList_append_slice rfl (.tmp 77) (.tmp 79) 29 rfl (yb + 1) 3 i0 (.int .i64 0) 8 Tryz.underlying29 hi0 hz0 hz1 hz2 rfl _ _ _ rfl (own.alloc _) _ [.int .i64 x] rfl (slice_one _ _ _) (by simp [Value.oneCell']) (by simp; omega) (by unfold maxLen; simp; omega) (by simp; omega) ?_; intro v4 w4 hown4 hg4 hl4; have hmb4 := MatBox.far H3.out.2.2.1 hg4 (fun e => by have := (World.ownsRow.lt own yb e.symm).1; omega); have q2 := hmb4.c2.1; have g2 := hmb4.c2.2; have H4 := Hid.mk' (And.intro hown4 (And.intro hg4 (And.intro hl4 hmb4))); obtain ⟨a4, c4, rfl⟩ := own_slice hown4; clear hown4 hg4 hl4 hmb4)
                | fail)
              go_wp2_with fail
              go_roundw
              case rel =>
                obtain ⟨ho4, hg4, hl4, hm4⟩ := H4.out
                have hlo := HLO.out
                have hp1 := HP1.out.2
                have hlo2 : gb < B ∧ mb < B ∧ qb < B ∧ db < B := ⟨H3.out.1.low.2.2.1, H3.out.1.low.2.2.2.1, H3.out.1.low.2.2.2.2.1, H3.out.1.low.2.2.2.2.2.1⟩
                have hB3 : B ≤ V3.heap.size := H3.out.1.low.2.2.2.2.2.2
                have hS4 := H3.out.1.below ((Below.refl _ V3).alloc (Nat.le_refl _) (.cells #[.int .i64 x] 3))
                have hK4 : KeepBut Y w4 yb yb := (H3.out.2.1.below ((Below.refl _ V3).alloc (Nat.le_refl _) (.cells #[.int .i64 x] 3))).on hg4 (fun b e => .inr (.inr (by have := (World.ownsRow.lt own b e).1; rw [HY.out.1]; exact this)))
                have hsd4 : SidesIn (fun b => b < xb) (V3.alloc (.cells #[.int .i64 x] 3)) (.slice aS L.length cs) L := (HYW.out _ (H3.out.2.1.below ((Below.refl _ V3).alloc (Nat.le_refl _) (.cells #[.int .i64 x] 3)))).2.1
                have hgmx := HX.out.2.2.2.2.2.1
                have hxy := HY.out.2.2.2
                have hS5 : SumIn B L mt ad aS ao cd cs co gm fb gb mb qb db g r (Pf r) w4 told2 := by
                  refine hS4.far hg4 (fun b e => ?_) (hsd4.mono (fun b _ hb => ⟨by have hb : b < xb := hb; omega, by have hb : b < xb := hb; omega, fun e => by have hb : b < xb := hb; have := (World.ownsRow.lt own b e).1; omega⟩))
                  have h1 := World.ownsRow.lt own b e
                  have h2 := HW.out.2.2.2.2.1 b e
                  refine ⟨by omega, by omega, by omega, by omega, by omega, by omega, by omega, fun cur e2 => ?_⟩
                  have h3 : (V3.alloc (.cells #[.int .i64 x] 3)).ownsRow (yb + 1) 3 1 _ _ _ := own.alloc (.cells #[.int .i64 x] 3)
                  obtain ⟨cur2, h4⟩ := own_typed h3 e
                  rw [h4] at e2
                  cases e2
                have ht4 : matTy yb w4 := (H3.out.2.2.2.2.2.of (((Below.refl _ V3).alloc (Nat.le_refl _) (.cells #[.int .i64 x] 3)).block yb H3.out.2.2.2.2.2.lt)).of (hg4.block yb (by simp; omega) (fun e => by have := (World.ownsRow.lt own yb e.symm).1; omega))
                have hKs := put_keep w4 yb 2 (.slice a4 (len + [Value.int .i64 x].length) c4)
                have hm5 := hm4.set (.slice a4 (len + [Value.int .i64 x].length) c4)
                have hS6 : SumIn B L mt ad aS ao cd cs co gm fb gb mb qb db g r (Pf r) (w4.setCell ⟨yb, 2, none⟩ (.slice a4 (len + [Value.int .i64 x].length) c4)) told2 := by
                  refine hS5.far (row := some yb) (grown_one w4 ⟨yb, 2, none⟩ _) (fun b e => ?_) ((HYW.out _ hK4).2.1.mono (fun b _ hb => ⟨by have hb : b < xb := hb; omega, by have hb : b < xb := hb; omega, fun e => by have hb : b < xb := hb; cases e; omega⟩))
                  cases e
                  refine ⟨by omega, by omega, by omega, by omega, by omega, by omega, by omega, fun cur e2 => ?_⟩
                  obtain ⟨cur2, h5⟩ := ht4
                  rw [h5] at e2
                  cases e2
                refine ⟨j + 1, by omega, by go_num, _, told2, hK4.trans hKs, hm5, ?_, hS6, fun b e => ?_, ht4.set _ _⟩
                · have h1 : w4.ownsRow (yb + 1) 3 1 (.slice a4 (len + [Value.int .i64 x].length) c4) (len + [Value.int .i64 x].length) ((entsTo L Pf Rn Cn i j).map (Value.int .i64) ++ [.int .i64 x]) := ho4
                  have h2 := World.ownsRow.kept h1 (grown_one w4 ⟨yb, 2, none⟩ (.slice a4 (len + [Value.int .i64 x].length) c4)) (.inr fun e => by have := (World.ownsRow.lt h1 yb e).1; omega)
                  unfold rowC
                  rw [HEV.out, List.map_append, List.length_append, HLN.out.1]
                  exact h2
                · rcases hl4 with h | h
                  · rw [h] at e
                    exact HW.out.2.2.2.2.1 b e
                  · rw [h] at e
                    cases e
                    exact .inr (by simp; omega)
              case measure => simp [intOf]; omega
            · have hev : entV x = .tuple #[.int .i64 0, .bool false] := if_neg hsm
              rw [hev] at hen
              have HBAD : Hid (¬ (entL L Pf r c).natAbs ≤ 1048576) := by rw [HXX.out]; exact hsm
              clear hev
              go_upto_region 16 with (first
                | (go_at_call 71; refine hco.mono ?_; clear hco; rintro e V2 ⟨u, rfl, hu, hL2⟩; obtain ⟨u1, u2, rfl, n1, n2⟩ := hu; obtain ⟨a5, m5, c5, rfl⟩ := n1.form; obtain ⟨a6, m6, c6, rfl⟩ := n2.form; have HU := Hid.mk' hL2; have hen2 := hen _ V2 ⟨_, _, rfl, n1, n2⟩; clear hen hL2 n1 n2)
                | (go_at_call 41; refine hen2.mono ?_; clear hen2; rintro e V3 ⟨rfl, hV3⟩; have HV3 : Hid (Below V2.heap.size V2 V3) := hV3; clear hV3)
                | fail)
              have hlo := HLO.out
              have hp1 := HP1.out.2
              have hK3 : KeepBut Y V3 yb yb := (HW.out.1.on HU.out.1 (fun b e => by cases e; exact .inr (.inr (by rw [HY.out.1]; omega)))).below HV3.out
              obtain ⟨-, -, -, -, -, hrb, hbw⟩ := HYW.out V3 hK3
              have HBW := Hid.mk' hbw
              have HRB := Hid.mk' hrb
              have hgl : V3.cell? ⟨0, 0, none⟩ = some (.iface 250 (.pointer (some (ea 1)))) := (HEE.out.below (by rw [HX.out.2.2.2.2.2.2.1]; exact hbw)).glob 1 (by decide)
              have hgx : 0 < wb := by have h2 : 0 < w0.heap.size := cell_lt (HEE.out.glob 1 (by decide)); rw [HX.out.2.2.2.2.2.2.1] at h2; exact h2
              have hglS : ∀ (Z : World) (j : Nat) (u : Value), Z.cell? ⟨0, 0, none⟩ = some (.iface 250 (.pointer (some (ea 1)))) → (Z.setCell ⟨wb + 1, j, none⟩ u).cell? ⟨0, 0, none⟩ = some (.iface 250 (.pointer (some (ea 1)))) := fun Z j u h => (World.cell?_setCell_other Z _ _ _ (addr_ne (.inl (by omega)))).trans h
              have hgl2 := hglS _ 2 (.slice none 0 0) (hglS _ 1 (.int .i64 0) (hglS _ 0 (.int .i64 0) hgl))
              obtain ⟨r0, f0⟩ := hrb.c0
              obtain ⟨r1, f1⟩ := hrb.c1
              obtain ⟨r2, f2⟩ := hrb.c2
              clear hlo hp1 hK3 hrb hbw hglS
              go_wp2_with fail
              go_region
              all_goals go_wp2
              all_goals
                have hp := HRB.out.put 0 0 (.slice none 0 0)
                have s0 := hp.c0.1
                have s1 := hp.c1.1
                have s2 := hp.c2.1
                refine bodyPost_ret (v := .tuple #[.agg #[.int .i64 0, .int .i64 0, .slice none 0 0], .iface 250 (.pointer (some (ea 1)))]) ?_ rfl ?_
                · simp [results, Tryz.f15, go_sem, s0, s1, s2]
                · refine ⟨?_, .inr ⟨⟨r, HRR.out.2, c, HCC.out.2.1, HBAD.out⟩, rfl⟩⟩
                  rw [HX.out.2.2.2.2.2.2.1]
                  exact (((HBW.out.setCell (p := ⟨wb + 1, 0, none⟩) (by simp) (.int .i64 0)).setCell (p := ⟨wb + 1, 1, none⟩) (by simp) (.int .i64 0)).setCell (p := ⟨wb + 1, 2, none⟩) (by simp) (.slice none 0 0)).drew
          · have hjn : j = nc := by omega
            have HEX : Hid (entsTo L Pf Rn Cn i j = entsTo L Pf Rn Cn (i + 1) 0) := by rw [hjn, ← HNN2.out.2]; exact ents_row HRR.out.1
            subst hjn
            rw [HEX.out] at HW
            go_wp2_with fail
            go_roundw
            case rel => exact ⟨i + 1, by omega, by go_num, _, HW.out.1, HW.out.2.1, HW.out.2.2.1, HW.out.2.2.2.2.2⟩
            case measure => simp [intOf]; omega
      · have hin : i = nr := by omega
        subst hin
        obtain ⟨-, -, -, -, -, hrb, hbw⟩ := HYW.out wr HJ.out.1
        obtain ⟨m0, z0⟩ := HJ.out.2.1.c0
        obtain ⟨m1, z1⟩ := HJ.out.2.1.c1
        obtain ⟨m2, z2⟩ := HJ.out.2.1.c2
        obtain ⟨r0, f0⟩ := hrb.c0
        obtain ⟨r1, f1⟩ := hrb.c1
        obtain ⟨r2, f2⟩ := hrb.c2
        have hp := hrb.put (i : Int) (nc : Int) (.slice av (entsTo L Pf Rn Cn i 0).length cv)
        have s0 := hp.c0.1
        have s1 := hp.c1.1
        have s2 := hp.c2.1
        have HBW := Hid.mk' hbw
        have HKS := Hid.mk' (put3_keep wr (wb + 1) (.int .i64 (i : Int)) (.int .i64 (nc : Int)) (.slice av (entsTo L Pf Rn Cn i 0).length cv))
        clear hrb hbw hp
        go_wp2_with fail
        refine bodyPost_ret (v := .tuple #[.agg #[.int .i64 (i : Int), .int .i64 (nc : Int), .slice av (entsTo L Pf Rn Cn i 0).length cv], .nilIface]) ?_ rfl ?_
        · simp [results, Tryz.f15, go_sem, s0, s1, s2]
        · refine ⟨?_, .inl ⟨_, by rw [HNN2.out.1, HNN2.out.2], ?_⟩⟩
          · rw [HX.out.2.2.2.2.2.2.1]
            exact ((HBW.out.setCell (p := ⟨wb + 1, 0, none⟩) (by simp) _).setCell (p := ⟨wb + 1, 1, none⟩) (by simp) _).setCell (p := ⟨wb + 1, 2, none⟩) (by simp) _
          · rw [HNN2.out.1]
            have h1 : SliceIn (fun b => yb + 1 ≤ b) wr (.slice av (entsTo L Pf Rn Cn i 0).length cv) _ := slice_of_owns HJ.out.2.2.1 (fun b hb _ => hb)
            have hw := HX.out.2.2.2.2.1
            have hy := HY.out.2.2.2
            exact (SliceIn.keep h1 (fun b hb hS => HKS.out.block b hb (by have hS : yb + 1 ≤ b := hS; omega) (by have hS : yb + 1 ≤ b := hS; omega))).mono (fun _ _ _ => trivial)

end Go.Proofs.YtnnkmkhamipfiaaGreatDoor
