/- A table's rows are copied. -/
import Derived.Test.YtmaopnbnbiediaaDoorGrpRef
import Derived.Test.YtmaopnbnbiediaaDoorGrpCopy0
namespace Go.Proofs.YtmaopnbnbiediaaDoor
open Go.RowKit Go.Sort

theorem TbIn.ints {B n : Nat} {W : World} {R : List (List Int)} {G cG : Nat} {rb : Nat → Nat} (h : TbIn B n W R G cG rb) {k : Nat} {r : List Int} (hk : R[k]? = some r) : Ints W (.slice (some ⟨rb k, 0, none⟩) (2 * n) (2 * n)) r := by
  obtain ⟨hlt, hr⟩ := List.getElem?_eq_some_iff.1 hk
  have hl : r.length = 2 * n := by rw [← hr]; exact h.wide _ (List.getElem_mem _)
  refine ⟨_, 2 * n, by rw [List.length_map, hl], ⟨by rw [List.length_map]; omega, fun e => by cases e⟩, fun _ => ⟨rb k, 0, rfl, trivial, fun j u hu => ?_⟩⟩
  rw [List.getElem?_map] at hu
  cases e : r[j]? with
  | none => rw [e] at hu; cases hu
  | some y =>
    rw [e] at hu
    have hj := (List.getElem?_eq_some_iff.1 e).1
    have := h.ent_at hlt (x := j) (by omega)
    rw [Nat.zero_add, this]
    unfold ent
    rw [hk, Option.getD_some, e]
    exact hu
theorem OwnRows.rowsIn {base : Nat} {w : World} {v : Value} {xss : List (List Int)} (h : OwnRows base w v xss) : RowsIn (fun b => base ≤ b) w v xss := by
  obtain ⟨vs, h1, h2⟩ := h
  exact ⟨vs, slice_of_owns h1 (fun b hb _ => hb), by have := h1.1; simpa using this, fun k u x hu hx => (h2 k u x hu hx).mono fun b _ hb => hb.1⟩

/-- A row is copied behind an empty one, and put behind the others. -/
theorem copied_push {base k : Nat} {wr w5 w6 : World} {vo v6 u5 : Value} {xss : List (List Int)} {l : List Int} {vs : List Value} {o o1 : Obj} {q : Nat} (h1 : wr.ownsRow base 42 1 vo k vs) (hk : xss.length = k) (h2 : ∀ (j : Nat) (u : Value) (x : List Int), vs[j]? = some u → xss[j]? = some x → IntsIn (fun b => base ≤ b ∧ some b ≠ vo.ownBlock) wr u x)
    (_hb : base ≤ wr.heap.size) (hown5 : w5.ownsRow base 3 1 u5 q ([] ++ l.map (Value.int .i64))) (hg5 : (wr.alloc o1).grownBy w5 (some wr.heap.size)) (hl5 : u5.ownBlock = some wr.heap.size ∨ u5.ownBlock = some (wr.alloc o1).heap.size)
    (hown6 : w6.ownsRow base 42 1 v6 (k + 1) (vs ++ [u5])) (hg6 : (w5.alloc o).grownBy w6 vo.ownBlock) (hl6 : v6.ownBlock = vo.ownBlock ∨ v6.ownBlock = some (w5.alloc o).heap.size) : OwnRows base w6 v6 (xss ++ [l]) ∧ Below base wr w6 := by
  have hs := hg5.size
  rw [World.size_alloc] at hs
  have hB : Below wr.heap.size wr w5 := ⟨hg5.os, hg5.tape, hg5.output, by omega, fun b hb => (hg5.block b (by rw [World.size_alloc]; omega) (fun e => by have := Option.some.inj e; omega)).trans (Below.heap_alloc wr o1 b hb)⟩
  have hnew : IntsIn (fun b => base ≤ b ∧ some b ≠ vo.ownBlock) w5 u5 l := by
    refine slice_of_owns hown5 fun b h3 h4 => ⟨h3, fun e => ?_⟩
    have h5 := (h1.lt b e.symm).2
    rcases hl5 with hl | hl
    · rw [hl] at h4
      have := Option.some.inj h4
      omega
    · rw [hl, World.size_alloc] at h4
      have := Option.some.inj h4
      omega
  subst hk
  have hs6 := hg6.size
  rw [World.size_alloc] at hs6
  refine ⟨OwnRows.push (h1.kept (Below.grownBy hB) (no_row vo)) (fun j u x hu hx => (h2 j u x hu hx).below hB) hnew hown6 hg6 hl6, ?_⟩
  refine ⟨hg6.os.trans hB.os, hg6.tape.trans hB.tape, hg6.output.trans hB.output, by omega, fun b hb => ?_⟩
  rw [hg6.block b (by rw [World.size_alloc]; omega) (fun e => by have := (h1.lt b e.symm).1; omega), Below.heap_alloc w5 o b (by omega)]
  exact hB.block b (by omega)

set_option maxRecDepth 100000 in
set_option maxHeartbeats 4000000 in
theorem copied_ {B n : Nat} {R : List (List Int)} {G cG : Nat} {rb : Nat → Nat} (w : World) (h : TbIn B n w R G cG rb) (hn : n ≤ 12) :
    Calls Tryd.prog 24 #[.agg #[.slice (some ⟨G, 0, none⟩) R.length cG]] w fun e w' => ∃ u, e = .returned u ∧ RowsIn (fun b => w.heap.size ≤ b) w' u R ∧ Below w.heap.size w w' := by
  obtain ⟨i0, hi0, hz0, hz1, hz2⟩ := info_parts Tryd.info42
  obtain ⟨j0, hj0, hy0, hy1, hy2⟩ := info_parts Tryd.infoi
  have hBa : Below w.heap.size w (w.alloc (.cells #[.slice (some ⟨G, 0, none⟩) R.length cG] 49)) := (Below.refl _ w).alloc (Nat.le_refl _) _
  have q0 := cells_new w [.slice (some ⟨G, 0, none⟩) R.length cG] 49 0 _ rfl
  rw [Addr.add_lit, Nat.zero_add] at q0
  have HT := Hid.mk' (h.below hBa)
  have hf := h.few
  obtain ⟨W0, hW0⟩ : ∃ W0, w.alloc (.cells #[.slice (some ⟨G, 0, none⟩) R.length cG] 49) = W0 := ⟨_, rfl⟩
  obtain ⟨gb, hgb⟩ : ∃ gb, w.heap.size = gb := ⟨_, rfl⟩
  rw [show (List.toArray [Value.slice (some ⟨G, 0, none⟩) R.length cG]) = #[.slice (some ⟨G, 0, none⟩) R.length cG] from rfl, hW0, hgb] at q0
  rw [hW0] at HT
  obtain ⟨L, hLe⟩ : ∃ L, R.length = L := ⟨_, rfl⟩
  have HLL : Hid (R.length = L) := hLe
  obtain ⟨m2, hm2⟩ : ∃ m2, 2 * n = m2 := ⟨_, rfl⟩
  have HM : Hid (2 * n = m2) := hm2
  have hm24 : m2 ≤ 24 := by omega
  have HG : Hid (w.alloc (.cells #[.slice (some ⟨G, 0, none⟩) L cG] 49) = W0 ∧ w.heap.size = gb ∧ Below w.heap.size w W0) := ⟨by rw [← hLe]; exact hW0, hgb, by rw [← hW0]; exact hBa⟩
  rw [hLe] at hf q0 ⊢
  clear hBa h hLe hW0 hgb hm2
  go_enter Tryd.func24, Tryd.ntmps24
  go_upto_region 1 with fail
  rw [HG.out.1, HG.out.2.1]
  go_wp2_with fail
  go_loopw [3, 9] (fun pv p W => ∃ (u : Value) (k : Nat), k ≤ L ∧ pv = u ∧ p = .int .i64 (k : Int) ∧ Hid (OwnRows W0.heap.size W u (R.take k) ∧ Below W0.heap.size W0 W)) (fun _ p _ => L - (intOf p).toNat)
  case atStart => exact ⟨_, 0, by omega, rfl, rfl, OwnRows.nil _ _, Below.refl _ _⟩
  case round =>
    obtain ⟨u, k, hk, rfl, rfl, HK⟩ := hrel
    by_cases hkn : k < L
    · have hkl : k < R.length := by rw [HLL.out]; exact hkn
      obtain ⟨l, hl⟩ : ∃ l, R[k]? = some l := ⟨_, List.getElem?_eq_getElem hkl⟩
      have HTK : Hid (R.take (k + 1) = R.take k ++ [l]) := by show _ = _; rw [List.take_add_one, hl]; rfl
      have HTL : Hid ((R.take k).length = k) := by show _ = _; rw [List.length_take]; omega
      obtain ⟨vs, ho1, ho2⟩ := HK.out.1
      obtain ⟨au, cu, hu⟩ := own_one ho1
      rw [HTL.out] at ho1 hu
      subst hu
      have ck := (HT.out.below HK.out.2).row_at hkl
      have HI2 := Hid.mk' ((HT.out.below HK.out.2).ints hl)
      rw [HM.out] at ck HI2
      have hll : l.length = m2 := by
        have := HT.out.wide l (List.mem_of_getElem? hl)
        rw [← HM.out]; exact this
      have HO1 := Hid.mk' ho1
      have HO2 := Hid.mk' ho2
      have hws := HK.out.2.size
      have HML : Hid ((l.map (Value.int .i64)).length = m2) := by show _ = _; rw [List.length_map]; exact hll
      have z0 : (0 : Int) ≤ (k : Int) := by omega
      have z1 : (k : Int) < (L : Int) := by omega
      have HBE : Hid (∀ o, SliceIn anyBlock (wr.alloc o) (.slice (some ⟨rb k, 0, none⟩) m2 m2) (l.map (Value.int .i64))) := fun o => SliceIn.below HI2.out ((Below.refl _ wr).alloc (Nat.le_refl _) _)
      have HNE : Hid ((Value.slice au k cu).ownBlock = none ∨ (Value.slice au k cu).ownBlock ≠ some wr.heap.size) := .inr fun e => by have := (ho1.lt _ e).2; omega
      clear hl ho1 ho2 hll hkl
      go_wp2_with (first
        | (at_builtin; refine wpList_append_slice rfl (.tmp 14) (.tmp 15) 42 rfl W0.heap.size 3 j0 (.int .i64 0) 8 Tryd.underlying42 hj0 hy0 hy1 hy2 rfl _ 0 [] rfl (World.ownsRow_made wr #[] 0 hws (by unfold maxLen; omega) rfl) _ _ rfl (HBE.out _) (ints_one l) (by rw [HML.out]; omega) (by rw [HML.out]; unfold maxLen; omega) (Nat.le_trans hws (by simp)) ?_; intro v5 w5 hown5 hg5 hl5; have H5 := Hid.mk' (And.intro hown5 (And.intro hg5 hl5)); have hw5 : wr.heap.size + 1 ≤ w5.heap.size := (by have h9 := hg5.size; rw [World.size_alloc] at h9; exact h9); obtain ⟨a5, c5, rfl⟩ := own_one hown5; clear hown5 hg5 hl5)
        | (at_builtin; refine wpList_append_own_at _ rfl (.tmp 13) (.tmp 17) 22 rfl W0.heap.size 42 i0 (.slice none 0 0) 1 24 Tryd.underlying22 hi0 hz0 hz1 hz2 rfl (by decide) _ k vs rfl (((HO1.out.alloc _).kept H5.out.2.1 HNE.out).alloc _) ⟨_, 0, none⟩ 1 1 [_] rfl rfl (cells_new _ _ _) (by simp [Value.oneCell']) (by unfold maxLen; omega) (by omega) (by simp; omega) ?_; intro v6 w6 hown6 hg6 hn6 hl6; have H6 := Hid.mk' (And.intro hown6 (And.intro hg6 hl6)); clear hown6 hg6 hn6 hl6)
        | fail)
      go_roundw
      case rel =>
        have hp := copied_push HO1.out HTL.out HO2.out hws H5.out.1 H5.out.2.1 H5.out.2.2 (by have h9 := H6.out.1; rw [show l.length = 0 + (l.map (Value.int .i64)).length by simp] at h9; exact h9) H6.out.2.1 H6.out.2.2
        exact ⟨_, k + 1, by omega, rfl, by go_num, by rw [HTK.out]; exact hp.1, HK.out.2.trans hp.2⟩
      case measure => simp [intOf]; omega
    · obtain rfl : k = L := by omega
      have HE : Hid ((R.take k) = R) := List.take_of_length_le (by rw [HLL.out]; exact Nat.le_refl _)
      obtain ⟨au, cu, hu⟩ := own_one (HK.out.1.choose_spec).1
      rw [HE.out, HLL.out] at hu
      subst hu
      go_wp2_with fail
      go_ret
      refine ⟨_, rfl, ?_, HG.out.2.2.trans (HK.out.2.mono HG.out.2.2.size)⟩
      have h9 := HK.out.1.rowsIn
      rw [HE.out] at h9
      exact h9.mono fun b _ hb => Nat.le_trans HG.out.2.2.size hb

end Go.Proofs.YtmaopnbnbiediaaDoor
