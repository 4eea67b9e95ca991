/- A row that leads nowhere: slices.Repeat of one number. A slice is appended onto a row of the call's own, as a step of a region that draws its order. A row more of a table of cosets. -/
import Derived.Test.YtmaopnbnbiediaaDoorGrpMem
import Derived.Test.YtmaopnbnbiediaaDoorShelf
import Derived.Laws.CopyOwn
import Derived.Deep.RegionLaw
import Derived.Deep.DeepCutAuto
import Derived.Test.YtmaopnbnbiediaaDoorBase
import Derived.Deep.AppendLies
namespace Go.Proofs.YtmaopnbnbiediaaDoor
open Go.RowKit Go.Sort

theorem Tryd.infoi : (Tryd.prog.info? 3).map (fun i => (i.zero, i.size, i.bytes)) = some (some (.int .i64 0), 1, 8) := by kernel_rfl
theorem Tryd.sizei : (Tryd.prog.info? 3).map (·.size) = some 1 := by kernel_rfl

def fillAt (W : World) (w : World) (g k m : Nat) : Prop := ∃ cur : List Value, W.heap[g]? = some (.cells cur.toArray 3 (0, 0)) ∧ cur.length = k ∧ (∀ j, j < m → cur[j]? = some (.int .i64 (-1))) ∧ Below w.heap.size w W

theorem splice_at {cur cs : List Value} {m k : Nat} (hk : cur.length = k) (h : ∀ j, j < m → cur[j]? = some (.int .i64 (-1))) (hc : ∀ v ∈ cs, v = .int .i64 (-1)) (hf : m + cs.length ≤ k) : (splice cur m cs).length = k ∧ ∀ j, j < m + cs.length → (splice cur m cs)[j]? = some (.int .i64 (-1)) := by
  unfold splice
  refine ⟨by simp; omega, fun j hj => ?_⟩
  by_cases e : j < m
  · rw [List.getElem?_append_left (by simp; omega), List.getElem?_take, if_pos e]
    exact h j e
  · rw [List.getElem?_append_right (by simp; omega), List.getElem?_append_left (by simp; omega)]
    have hl : (cur.take m).length = m := by simp; omega
    rw [hl, List.getElem?_eq_getElem (by omega)]
    exact congrArg some (hc _ (List.getElem_mem _))

set_option maxRecDepth 100000 in
set_option maxHeartbeats 2000000 in
theorem repeat_ (bx k : Nat) (w : World) (hx : w.cell? ⟨bx, 0, none⟩ = some (.int .i64 (-1))) (hk : k ≤ 24) :
    Calls Tryd.prog 55 #[.slice (some ⟨bx, 0, none⟩) 1 1, .int .i64 (k : Int)] w fun e w' => ∃ g, e = .returned (.slice (some ⟨g, 0, none⟩) k k) ∧ w.heap.size ≤ g ∧ w'.rowIs g 3 k (fun _ => .int .i64 (-1)) ∧ Below w.heap.size w w' := by
  have hmk := run_make_row' (P := Tryd.prog) 42 3 (.int .i64 0) 8 Tryd.underlying42 Tryd.infoi rfl .i64 .i64 k (by omega) (by omega)
  have hmul := Tryd.bits_Mul 1 k (by omega) (by omega) w
  have e1 : 1 * k / 18446744073709551616 = 0 := by omega
  have e2 : 1 * k % 18446744073709551616 = k := by omega
  rw [e1, e2] at hmul
  have hbx : bx < w.heap.size := cell_lt hx
  have hx1 : (w.alloc (.cells (madeCells #[.int .i64 0] k) 3)).cell? ⟨bx, 0, none⟩ = some (.int .i64 (-1)) := (World.cell?_alloc_lt _ _ ⟨bx, 0, none⟩ hbx).trans hx
  have HM : Hid ((w.alloc (.cells (madeCells #[.int .i64 0] k) 3)).heap[w.heap.size]? = some (.cells (List.replicate k (.int .i64 0)).toArray 3 (0, 0)) ∧ Below w.heap.size w (w.alloc (.cells (madeCells #[.int .i64 0] k) 3))) := by
    refine ⟨?_, (Below.refl _ w).alloc (Nat.le_refl _) _⟩
    have h1 : (madeCells #[.int .i64 0] k) = (List.replicate k (Value.int .i64 0)).toArray := by rw [← toList_madeCells_one]
    rw [h1]
    exact Array.getElem?_push_size
  have hone : ∀ c, ∀ v ∈ List.replicate c (Value.int .i64 (-1)), v.oneCell' = true := fun c v hv => by rw [List.eq_of_mem_replicate hv]; rfl
  obtain ⟨c, hc⟩ : ∃ c, Nat.min 1 k = c := ⟨_, rfl⟩
  have HC : Hid (Nat.min 1 k = c) := hc
  have hcb : c ≤ k ∧ c ≤ 1 ∧ (k = 0 ∨ c = 1) := by
    have h1 : Nat.min 1 k = min 1 k := rfl
    omega
  have HOK : Hid (∀ V, Hid (V.heap[w.heap.size]? = some (.cells (splice (List.replicate k (.int .i64 0)) 0 (List.replicate c (.int .i64 (-1)))).toArray 3 (0, 0))) → Below w.heap.size w V → fillAt V w w.heap.size k c) := fun V h1 h2 => by
    have h3 := splice_at (cur := List.replicate k (.int .i64 0)) (cs := List.replicate c (.int .i64 (-1))) (m := 0) (k := k) (by simp) (fun j hj => by omega) (fun v hv => List.eq_of_mem_replicate hv) (by simp; omega)
    refine ⟨_, h1.out, h3.1, fun j hj => h3.2 j (by simp; omega), h2⟩
  have HSRC : Hid (∀ j v, (List.replicate c (Value.int .i64 (-1)))[j]? = some v → (w.alloc (.cells (madeCells #[.int .i64 0] k) 3)).cell? ((⟨bx, 0, none⟩ : Addr).add j) = some v) := fun j v hj => by
    have h1 := (List.getElem?_eq_some_iff.1 hj)
    obtain ⟨h1, h2⟩ := h1
    rw [List.length_replicate] at h1
    obtain rfl : j = 0 := by omega
    rw [List.getElem_replicate] at h2
    rw [← h2, Addr.add_lit]
    exact hx1
  clear e1 e2 hc
  go_enter Tryd.func55, Tryd.ntmps55
  go_wp2_with (first
    | (refine hmul.mono ?_; rintro e V ⟨rfl, rfl⟩; clear hmul)
    | (refine wpList_copy_splice rfl (.tmp 31) (.tmp 32) 42 42 rfl 3 Tryd.underlying42 Tryd.sizei _ _ k k 1 1 rfl rfl V.heap.size 0 (List.replicate k (.int .i64 0)) 3 HM.out.1 (List.replicate c (.int .i64 (-1))) (by rw [List.length_replicate]; exact HC.out.symm) (fun _ => ⟨rfl, ⟨bx, 0, none⟩, rfl, HSRC.out⟩) (by simp; omega) (hone c) V.heap.size V HM.out.2 (Nat.le_refl _) ?_; intro W1 hW1 hB1; have HF := Hid.mk' (HOK.out W1 hW1 hB1); clear hW1 hB1 HOK HM HSRC)
    | fail)
  obtain ⟨g, hg⟩ : ∃ g, V.heap.size = g := ⟨_, rfl⟩
  have HG : Hid (V.heap.size = g) := hg
  rw [hg] at HF ⊢
  go_loopw [8] (fun p W => ∃ m : Nat, m ≤ k ∧ (k = 0 ∨ 1 ≤ m) ∧ p = .int .i64 m ∧ Hid (fillAt W V g k m)) (fun p _ => k - (intOf p).toNat)
  case atStart => exact ⟨c, by omega, by omega, rfl, HF.out⟩
  case round =>
    obtain ⟨m, hm, hm0, rfl, HK⟩ := hrel
    by_cases hmk2 : m < k
    · obtain ⟨d, hd⟩ : ∃ d, Nat.min m (k - m) = d := ⟨_, rfl⟩
      have HD : Hid (Nat.min m (k - m) = d) := hd
      have hdb : d ≤ m ∧ d ≤ k - m ∧ 1 ≤ d := by
        have h1 : Nat.min m (k - m) = min m (k - m) := rfl
        omega
      clear hd
      obtain ⟨cur, hcur, hcl, hcv, hcb2⟩ := HK.out
      have HCU : Hid (wr.heap[g]? = some (.cells cur.toArray 3 (0, 0)) ∧ cur.length = k ∧ (∀ j, j < m → cur[j]? = some (.int .i64 (-1))) ∧ Below V.heap.size V wr) := ⟨hcur, hcl, hcv, hcb2⟩
      have HSR : Hid (∀ j v, (List.replicate d (Value.int .i64 (-1)))[j]? = some v → wr.drew.cell? ((⟨g, 0, none⟩ : Addr).add j) = some v) := fun j v hj => by
        obtain ⟨h1, h2⟩ := (List.getElem?_eq_some_iff.1 hj)
        rw [List.length_replicate] at h1
        rw [List.getElem_replicate] at h2
        rw [← h2, Addr.add_lit, Nat.zero_add]
        show wr.cell? ⟨g, j, none⟩ = _
        simp only [World.cell?, hcur]
        simpa using hcv j (by omega)
      have HNX : Hid (∀ V', Hid (V'.heap[g]? = some (.cells (splice cur m (List.replicate d (.int .i64 (-1)))).toArray 3 (0, 0))) → Below V.heap.size V V' → fillAt V' V g k (m + d)) := fun V' h1 h2 => by
        have h3 := splice_at (cur := cur) (cs := List.replicate d (.int .i64 (-1))) (m := m) (k := k) hcl hcv (fun v hv => List.eq_of_mem_replicate hv) (by simp; omega)
        exact ⟨_, h1.out, h3.1, fun j hj => h3.2 j (by simp; omega), h2⟩
      have hne : ¬ k = m := by omega
      have z0 : (0 : Int) ≤ (m : Int) := by omega
      have z1 : (m : Int) ≤ (k : Int) := by omega
      have hwr : IntKind.i64.wrap ((m : Int) + (d : Int)) = ((m + d : Nat) : Int) := by rw [wrapI (by omega) (by omega)]; omega
      clear hcur hcl hcv hcb2 hmk hx hx1 HF
      go_wp2_with fail
      go_region_law (refine step_copy_splice (by rfl) (.tmp 41) (.tmp 44) 42 42 (by rfl) 3 Tryd.underlying42 Tryd.sizei (some ⟨g, m, none⟩) (some ⟨g, 0, none⟩) (k - m) (k - m) m k (by simp [Act.eval, Act.put]) (by simp [Act.eval, Act.put]) g m cur 3 HCU.out.1 (List.replicate d (.int .i64 (-1))) (by rw [List.length_replicate]; exact HD.out.symm) (fun _ => ⟨rfl, ⟨g, 0, none⟩, rfl, HSR.out⟩) (by simp; have := HCU.out.2.1; omega) (hone d) V.heap.size V HCU.out.2.2.2.drew (by rw [HG.out]; exact Nat.le_refl _) ?_; intro W4 hg4 hb4; have H4 := Hid.mk' (HNX.out W4 hg4 hb4); clear hg4 hb4)
      all_goals go_wp2_with fail
      all_goals go_simp
      all_goals go_roundw
      · exact ⟨m + d, by omega, by omega, by go_num, H4.out⟩
      · simp [intOf]; omega
    · obtain rfl : m = k := by omega
      go_wp2_with fail
      go_ret
      obtain ⟨cur, hcur, hcl, hcv, hcb2⟩ := HK.out
      refine ⟨g, rfl, by rw [HG.out]; exact Nat.le_refl _, ⟨cur.toArray, hcur, by simpa using hcl, fun i hi => by simpa using hcv i hi⟩, hcb2⟩

end Go.Proofs.YtmaopnbnbiediaaDoor

namespace Go.Proofs.YtmaopnbnbiediaaDoor
open Go.RowKit Go.Sort

/-- A slice is appended onto a row of the call's own, as a run. -/
theorem run_append_slice {P : Program} (w : World) (t ty : TypeId) (base : Nat) (e : TypeId) (i : TypeInfo) (z : Value) (bytes : Nat) (ht : P.underlying t = some (.slice e)) (hi : P.info? e = some i) (hz : i.zero = some z)
    (hsize : i.size = 1) (hby : i.bytes = bytes) (hzs : z.cells.size = 1) (v : Value) (n : Nat) (xs : List Value) (hown : w.ownsRow base e 1 v n xs)
    {S : Nat → Prop} (u : Value) (news : List Value) (hu : SliceIn S w u news) (h1 : ∀ c ∈ news, c.oneCell' = true)
    (hbytes : (n + news.length) * bytes ≤ 140737488355328) (h63 : n + news.length ≤ maxLen) (hbase : base ≤ w.heap.size) :
    ∃ v' w', (Builtin.append_ #[t, t] ty #[v, u]).run P w = .ok v' w' ∧ w'.ownsRow base e 1 v' (n + news.length) (xs ++ news) ∧ w.grownBy w' v.ownBlock ∧ (v'.ownBlock = v.ownBlock ∨ v'.ownBlock = some w.heap.size) := by
  obtain ⟨ao, cap, rfl, ⟨hc, hn⟩, hcs⟩ := hu
  cases ao with
  | none =>
    obtain rfl := hn rfl
    have hnil : news = [] := List.eq_nil_of_length_eq_zero (by omega)
    subst hnil
    exact ⟨v, w, run_append_owned_none (P := P) (w := w) base t ty e i 1 ht hi v n xs hown, by simpa using hown, ⟨rfl, rfl, rfl, Nat.le_refl _, fun _ _ _ => rfl⟩, .inl rfl⟩
  | some ad =>
    obtain ⟨v', w', hr, h2, h3, _, h5⟩ := run_append_own_at (P := P) w base t ty e i z 1 bytes ht hi hz hsize hby hzs (by decide) v n xs hown ad news.length cap news (by simp) (fun j c hj => by
      have hl : 0 < news.length := by
        have := (List.getElem?_eq_some_iff.1 hj).1
        omega
      obtain ⟨b, off, e1, _, e3⟩ := hcs hl
      cases e1
      rw [Addr.add_lit]
      exact e3 j c hj) h1 h63 hbytes hbase
    exact ⟨v', w', hr, h2, h3, h5⟩

/-- The same at a step of a region that draws its order. -/
theorem step_append_slice {P : Program} {w : World} {ops : Array Oper} {o : Oper} {a : Act} {K : Act → World → Prop} {Q : Exit → Act → World → Prop} {E : Prop} (hgd : o.guard = none) (s x : Operand) (t : TypeId)
    (ho : o.op = .call { callee := .builtin .append, args := #[s, x], argTypes := #[t, t] })
    (base : Nat) (e : TypeId) (i : TypeInfo) (z : Value) (bytes : Nat) (ht : P.underlying t = some (.slice e)) (hi : P.info? e = some i) (hz : i.zero = some z)
    (hsize : i.size = 1) (hby : i.bytes = bytes) (hzs : z.cells.size = 1) (v : Value) (n : Nat) (xs : List Value) (hs : a.eval s = v) (hown : w.ownsRow base e 1 v n xs)
    {S : Nat → Prop} (u : Value) (news : List Value) (hx : a.eval x = u) (hu : SliceIn S w u news) (h1 : ∀ c ∈ news, c.oneCell' = true)
    (hbytes : (n + news.length) * bytes ≤ 140737488355328) (h63 : n + news.length ≤ maxLen) (hbase : base ≤ w.heap.size)
    (h : ∀ v' w', w'.ownsRow base e 1 v' (n + news.length) (xs ++ news) → w.grownBy w' v.ownBlock → (v'.ownBlock = v.ownBlock ∨ v'.ownBlock = some w.heap.size) → K (a.put o.dst v') w') :
    if Region.wanted o (yielded ops a.tmps) = true then Oper.wp P o a w K Q else E := by
  have hw : Region.wanted o (yielded ops a.tmps) = true := by simp [Region.wanted, hgd]
  rw [if_pos hw]
  obtain ⟨v', w', hr, h2, h3, h4⟩ := run_append_slice (P := P) w t o.type base e i z bytes ht hi hz hsize hby hzs v n xs hown u news hu h1 hbytes h63 hbase
  unfold Oper.wp execOp
  simp only [ho, resolve, invoke, builtin, Sem.run_bind, Sem.run_pure, Result.andThen_ok, List.map_toArray, List.map_cons, List.map_nil, hs, hx, hr]
  exact h v' w' h2 h3 h4

end Go.Proofs.YtmaopnbnbiediaaDoor

namespace Go.Proofs.YtmaopnbnbiediaaDoor
open Go.RowKit Go.Sort

/-- slices.Repeat, as one step of a region that draws. -/
theorem step_repeat {ops : Array Oper} {o : Oper} {a : Act} {w : World} {K : Act → World → Prop} {Q : Exit → Act → World → Prop} {E : Prop} (hgd : o.guard = none) (t u : Tmp) (ats : Array TypeId)
    (ho : o.op = .call { callee := .value (.func 55), args := #[.tmp t, .tmp u], argTypes := ats }) (bx k : Nat) (he : a.eval (.tmp t) = .slice (some ⟨bx, 0, none⟩) 1 1) (hf : a.eval (.tmp u) = .int .i64 (k : Int))
    (hx : w.cell? ⟨bx, 0, none⟩ = some (.int .i64 (-1))) (hk : k ≤ 24)
    (h : ∀ g w', w.heap.size ≤ g → w'.rowIs g 3 k (fun _ => .int .i64 (-1)) → Below w.heap.size w w' → K (a.put o.dst (.slice (some ⟨g, 0, none⟩) k k)) w') :
    if Region.wanted o (yielded ops a.tmps) = true then Oper.wp Tryd.prog o a w K Q else E := by
  have hw : Region.wanted o (yielded ops a.tmps) = true := by simp [Region.wanted, hgd]
  rw [if_pos hw]
  have hr : (execOp a.eval o).run Tryd.prog w = .ok (.enter 55 #[.slice (some ⟨bx, 0, none⟩) 1 1, .int .i64 (k : Int)]) w := by
    have he' : a.tmps[t]?.getD undef = .slice (some ⟨bx, 0, none⟩) 1 1 := by simpa [Act.eval] using he
    have hf' : a.tmps[u]?.getD undef = .int .i64 (k : Int) := by simpa [Act.eval] using hf
    unfold execOp
    simp [ho, he', hf', go_sem]
  unfold Oper.wp
  rw [hr]
  refine Calls.mono (repeat_ bx k w hx hk) fun e w' hw' => ?_
  obtain ⟨g, rfl, h1, h2, h3⟩ := hw'
  exact h g w' h1 h2 h3

theorem own_one {w : World} {base : Nat} {t : TypeId} {v : Value} {n : Nat} {xs : List Value} (h : w.ownsRow base t 1 v n xs) : ∃ a c, v = .slice a n c := by
  obtain ⟨_, h⟩ := h
  rcases h with ⟨rfl, rfl⟩ | ⟨g, cap, cur, rfl, _⟩
  · exact ⟨_, _, rfl⟩
  · exact ⟨_, _, rfl⟩

/-- What a row more does. -/
structure RowMore (B Q n N : Nat) (v : Value) (vs : List Value) (w w' : World) (v' : Value) (g : Nat) : Prop where
  cell : w'.cell? ⟨Q, 0, none⟩ = some v'
  froz : w'.frozen? ⟨Q, 0, none⟩ = false
  own : w'.ownsRow B 42 1 v' (N + 1) (vs ++ [.slice (some ⟨g, 0, none⟩) (2 * n) (2 * n)])
  new : w.heap.size ≤ g
  row : w'.rowIs g 3 (2 * n) (fun _ => .int .i64 (-1))
  blk : v'.ownBlock = v.ownBlock ∨ ∃ b, v'.ownBlock = some b ∧ w.heap.size ≤ b ∧ b ≠ g
  os : w'.os = w.os
  tape : w'.tape = w.tape
  output : w'.output = w.output
  size : w.heap.size ≤ w'.heap.size
  keep : ∀ b, b < w.heap.size → b ≠ Q → some b ≠ v.ownBlock → w'.heap[b]? = w.heap[b]?
  rest : ∀ k, k ≠ 0 → w'.cell? ⟨Q, k, none⟩ = w.cell? ⟨Q, k, none⟩ ∧ w'.frozen? ⟨Q, k, none⟩ = w.frozen? ⟨Q, k, none⟩

theorem row_more {B Q n N g : Nat} {v v6 : Value} {vs : List Value} {w V w6 : World} {o : Obj} (hq : w.cell? ⟨Q, 0, none⟩ = some v) (hz : w.frozen? ⟨Q, 0, none⟩ = false) (hv : w.ownsRow B 42 1 v N vs) (hQ : some Q ≠ v.ownBlock)
    (hg : w.heap.size ≤ g) (hrow : V.rowIs g 3 (2 * n) (fun _ => .int .i64 (-1))) (hB : Below w.heap.size w V)
    (hown : w6.ownsRow B 42 1 v6 (N + 1) (vs ++ [.slice (some ⟨g, 0, none⟩) (2 * n) (2 * n)])) (h6 : (V.alloc o).grownBy w6 v.ownBlock) (hl : v6.ownBlock = v.ownBlock ∨ v6.ownBlock = some (V.alloc o).heap.size) :
    (w6.cell? ⟨Q, 0, none⟩ = some v ∧ w6.frozen? ⟨Q, 0, none⟩ = false) ∧ RowMore B Q n N v vs w (w6.setCell ⟨Q, 0, none⟩ v6) v6 g := by
  have hQl : Q < w.heap.size := cell_lt hq
  have hVs := hB.size
  have h6s := h6.size
  rw [World.size_alloc] at h6s hl
  have hgV : g < V.heap.size := hrow.lt
  have hvg : some g ≠ v.ownBlock := fun e => by have := (hv.lt g e.symm).2; omega
  have hb : ∀ b, b < V.heap.size → some b ≠ v.ownBlock → w6.heap[b]? = V.heap[b]? := fun b hb1 hb2 => (h6.block b (by rw [World.size_alloc]; omega) hb2).trans (Below.heap_alloc V o b hb1)
  have eQ : w6.heap[Q]? = w.heap[Q]? := (hb Q (by omega) hQ).trans (hB.block Q hQl)
  have cQ : w6.cell? ⟨Q, 0, none⟩ = some v := (World.cell?_of_block (a := ⟨Q, 0, none⟩) eQ).trans hq
  have fQ : w6.frozen? ⟨Q, 0, none⟩ = false := (World.frozen?_of_block (a := ⟨Q, 0, none⟩) eQ).trans hz
  have hQ6 : v6.ownBlock ≠ some Q := fun e => by
    rcases hl with h | h
    · exact hQ (e.symm.trans h)
    · rw [h] at e; have := Option.some.inj e; omega
  refine ⟨⟨cQ, fQ⟩, ⟨?_, ?_, ?_, hg, ?_, ?_, (h6.os).trans hB.os, (h6.tape).trans hB.tape, (h6.output).trans hB.output, by simp; omega, fun b h1 h2 h3 => ?_, fun k hk => ?_⟩⟩
  · exact World.cell?_setCell_same' w6 _ v6 (by rw [cQ]; rfl)
  · rw [World.frozen?_setCell]; exact fQ
  · exact hown.kept (grown_at w6 ⟨Q, 0, none⟩ v6) (.inr hQ6)
  · exact (hrow.of_block (hb g hgV hvg)).of_block (Below.heap_setCell w6 ⟨Q, 0, none⟩ v6 g (by simp only; omega))
  · rcases hl with h | h
    · exact .inl h
    · exact .inr ⟨_, h, by omega, by omega⟩
  · rw [Below.heap_setCell w6 ⟨Q, 0, none⟩ v6 b h2, hb b (by omega) h3, hB.block b h1]
  · refine ⟨?_, ?_⟩
    · have h9 : (w6.setCell ⟨Q, 0, none⟩ v6).cell? ⟨Q, k, none⟩ = w6.cell? ⟨Q, k, none⟩ := by
        apply World.cell?_setCell_other
        intro e
        exact hk (Addr.mk.inj e).2.1.symm
      exact h9.trans (World.cell?_of_block (a := ⟨Q, k, none⟩) eQ)
    · rw [World.frozen?_setCell]
      exact World.frozen?_of_block (a := ⟨Q, k, none⟩) eQ

set_option maxRecDepth 100000 in
set_option maxHeartbeats 2000000 in
theorem addRow_ (B Q n N : Nat) (v : Value) (vs : List Value) (w : World) (hq : w.cell? ⟨Q, 0, none⟩ = some v) (hz : w.frozen? ⟨Q, 0, none⟩ = false) (hv : w.ownsRow B 42 1 v N vs) (hQ : some Q ≠ v.ownBlock) (hB : B ≤ w.heap.size) (hN : N ≤ 5000) (hn : n ≤ 12) :
    Calls Tryd.prog 40 #[.pointer (some ⟨Q, 0, none⟩), .int .i64 (n : Int)] w fun e w' => e = .returned (.tuple #[]) ∧ ∃ v' g, RowMore B Q n N v vs w w' v' g := by
  obtain ⟨i0, hi0, hz0, hz1, hz2⟩ := info_parts Tryd.info42
  obtain ⟨av, cv, rfl⟩ : ∃ a c, v = .slice a N c := by
    obtain ⟨_, hr⟩ := hv
    rcases hr with ⟨rfl, rfl⟩ | ⟨g, cap, cur, rfl, _⟩
    · exact ⟨_, _, rfl⟩
    · exact ⟨_, _, rfl⟩
  obtain ⟨m2, hm2⟩ : ∃ m2, 2 * n = m2 := ⟨_, rfl⟩
  have HM : Hid (2 * n = m2) := hm2
  have hmul : (2 : Int) * (n : Int) = (m2 : Int) := by omega
  have hm24 : m2 ≤ 24 := by omega
  have hwr : IntKind.i64.wrap ((m2 : Int)) = (m2 : Int) := wrapI (by omega) (by omega)
  have HV : Hid (w.cell? ⟨Q, 0, none⟩ = some (.slice av N cv) ∧ w.frozen? ⟨Q, 0, none⟩ = false ∧ w.ownsRow B 42 1 (.slice av N cv) N vs ∧ some Q ≠ (Value.slice av N cv).ownBlock) := ⟨hq, hz, hv, hQ⟩
  have hx1 := cells_new w [.int .i64 (-1)] 3 0 _ rfl
  rw [Addr.add_lit, Nat.zero_add] at hx1
  have hQl : Q < w.heap.size := cell_lt hq
  have ka : ∀ o, (w.alloc o).cell? ⟨Q, 0, none⟩ = some (.slice av N cv) := fun o => (World.cell?_alloc_lt w o ⟨Q, 0, none⟩ hQl).trans hq
  have HSTEP : Hid (∀ g V, (w.alloc (.cells #[.int .i64 (-1)] 3)).drew.heap.size ≤ g → V.rowIs g 3 m2 (fun _ => .int .i64 (-1)) → Below (w.alloc (.cells #[.int .i64 (-1)] 3)).drew.heap.size (w.alloc (.cells #[.int .i64 (-1)] 3)).drew V → Below w.heap.size w V ∧ w.heap.size ≤ g ∧ V.rowIs g 3 m2 (fun _ => .int .i64 (-1)) ∧ V.ownsRow B 42 1 (.slice av N cv) N vs) := fun g V h1 h2 h3 => by
    have h0 : Below w.heap.size w (w.alloc (.cells #[.int .i64 (-1)] 3)).drew := ((Below.refl _ w).alloc (Nat.le_refl _) _).drew
    have hs : w.heap.size ≤ (w.alloc (.cells #[.int .i64 (-1)] 3)).drew.heap.size := h0.size
    have h4 := h0.trans (h3.mono hs)
    exact ⟨h4, Nat.le_trans hs h1, h2, HV.out.2.2.1.kept (Below.grownBy h4) (by cases (Value.slice av N cv).ownBlock <;> simp)⟩
  clear hm2 hv
  go_enter Tryd.func40, Tryd.ntmps40
  go_wp2_with fail
  go_region_law (first
    | (refine step_repeat rfl _ _ _ rfl w.heap.size m2 (by simp [Act.eval]) (by simp [Act.eval]) hx1 hm24 ?_; intro g V hgV hrow hBV; have HBV : Hid (Below w.heap.size w V ∧ w.heap.size ≤ g ∧ V.rowIs g 3 m2 (fun _ => .int .i64 (-1)) ∧ V.ownsRow B 42 1 (.slice av N cv) N vs) := HSTEP.out g V hgV hrow hBV; have qV := (HBV.out.1.cell (p := ⟨Q, 0, none⟩) hQl).trans HV.out.1; have kV : ∀ o, (V.alloc o).cell? ⟨Q, 0, none⟩ = some (.slice av N cv) := fun o => (World.cell?_alloc_lt V o ⟨Q, 0, none⟩ (cell_lt qV)).trans qV; have hBs : B ≤ V.heap.size := Nat.le_trans hB HBV.out.1.size; clear hgV hrow hBV)
    | (refine step_append_wide (by rfl) (.tmp 8) (.tmp 13) 22 (by rfl) B 42 i0 (.slice none 0 0) 1 24 Tryd.underlying22 hi0 hz0 hz1 hz2 (by rfl) (by decide) (.slice av N cv) N vs (by simp [Act.eval]) (HBV.out.2.2.2.alloc _) ⟨V.heap.size, 0, none⟩ 1 1 [.slice (some ⟨g, 0, none⟩) m2 m2] (by simp [Act.eval]) rfl (cells_new _ _ _) (by simp [Value.oneCell']) (by unfold maxLen; omega) (by omega) (by simp; omega) ?_; intro v6 w6 hown6 hg6 hl6; have H6 := Hid.mk' (row_more (n := n) (g := g) HV.out.1 HV.out.2.1 HV.out.2.2.1 HV.out.2.2.2 HBV.out.2.1 (by rw [HM.out]; exact HBV.out.2.2.1) HBV.out.1 (by rw [HM.out]; exact hown6) hg6 hl6); have q6 := H6.out.1.1; have f6 := H6.out.1.2; obtain ⟨a6, c6, rfl⟩ := own_one hown6; clear hown6 hg6 hl6)
    | fail)
  all_goals go_wp2_with fail
  all_goals (refine bodyPost_end (v := .tuple #[]) ?_ rfl ⟨rfl, _, _, H6.out.2⟩)
  all_goals simp [results, Tryd.f40, go_sem]

end Go.Proofs.YtmaopnbnbiediaaDoor
