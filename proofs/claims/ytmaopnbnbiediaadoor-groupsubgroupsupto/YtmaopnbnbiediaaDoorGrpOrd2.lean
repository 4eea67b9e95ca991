/- All orders of a few numbers. -/
import Derived.Test.YtmaopnbnbiediaaDoorRefA
namespace Go.Proofs.YtmaopnbnbiediaaDoor
open Go.RowKit Go.Sort

def ordF : Nat → List Int → Nat → List (List Int)
  | 0, l, _ => [l]
  | m + 1, l, N => (List.range N).flatMap fun k : Nat => if l.contains (k : Int) then [] else ordF m (l ++ [(k : Int)]) N
def ordersP (N : Nat) : List (List Int) := ordF N [] N
theorem ordF_len : ∀ (m : Nat) (l : List Int) (N : Nat), (ordF m l N).length ≤ N ^ m
  | 0, l, N => by simp [ordF]
  | m + 1, l, N => by
    have key : ∀ K, ((List.range K).flatMap fun k : Nat => if l.contains (k : Int) then [] else ordF m (l ++ [(k : Int)]) N).length ≤ K * N ^ m := fun K => by
      induction K with
      | zero => simp
      | succ K ih =>
        rw [flat_succ, List.length_append, Nat.succ_mul]
        have h1 : (if l.contains (K : Int) then [] else ordF m (l ++ [(K : Int)]) N).length ≤ N ^ m := by
          split
          · simp
          · exact ordF_len m _ N
        omega
    rw [ordF, Nat.pow_succ, Nat.mul_comm]
    exact key N
theorem orders_small {m N : Nat} (l : List Int) (hm : m ≤ N) (hN : N ≤ 4) : (ordF m l N).length ≤ 256 := by
  have h1 := ordF_len m l N
  have h2 : N ^ m ≤ 4 ^ m := Nat.pow_le_pow_left hN m
  have h3 : 4 ^ m ≤ 4 ^ 4 := Nat.pow_le_pow_right (by decide) (by omega)
  have h4 : 4 ^ 4 = 256 := by decide
  omega

/-- Rows of a slice of its own that lie elsewhere. -/
def OrdAtS (S : Nat → Prop) (base : Nat) (W : World) (u : Value) (X : List (List Int)) : Prop := ∃ vs : List Value, W.ownsRow base 42 1 u X.length vs ∧ ∀ (k : Nat) (v : Value) (x : List Int), vs[k]? = some v → X[k]? = some x → IntsIn (fun b => S b ∧ some b ≠ u.ownBlock) W v x
theorem OrdAtS.rows {S : Nat → Prop} {base : Nat} {W : World} {u : Value} {X : List (List Int)} (h : OrdAtS S base W u X) : Rows W u X := by
  obtain ⟨vs, h1, h2⟩ := h
  exact ⟨vs, slice_of_owns h1 (fun _ _ _ => trivial), by have := h1.1; omega, fun k v x hv hx => (h2 k v x hv hx).any⟩
theorem OrdAtS.nil (S : Nat → Prop) (base : Nat) (W : World) : OrdAtS S base W (.slice none 0 0) [] := ⟨[], World.ownsRow_nil _ _ _ _, fun k v x hv => by simp at hv⟩
/-- Rows are put behind rows. -/
theorem OrdAtS.app {S : Nat → Prop} {base b3 : Nat} {wr V3 w6 : World} {uo ur v6 : Value} {X1 X2 : List (List Int)} {vs1 vs2 : List Value} (h1 : wr.ownsRow base 42 1 uo X1.length vs1) (h2 : ∀ (k : Nat) (v : Value) (x : List Int), vs1[k]? = some v → X1[k]? = some x → IntsIn (fun b => S b ∧ some b ≠ uo.ownBlock) wr v x) (hB : Below wr.heap.size wr V3) (hS : ∀ b, wr.heap.size ≤ b → S b)
    (h3 : V3.ownsRow b3 42 1 ur X2.length vs2) (h4 : ∀ (k : Nat) (v : Value) (x : List Int), vs2[k]? = some v → X2[k]? = some x → IntsIn (fun b => wr.heap.size ≤ b ∧ some b ≠ ur.ownBlock) V3 v x)
    (hown : w6.ownsRow base 42 1 v6 (X1.length + vs2.length) (vs1 ++ vs2)) (hg : V3.grownBy w6 uo.ownBlock) (hl : v6.ownBlock = uo.ownBlock ∨ v6.ownBlock = some V3.heap.size) : OrdAtS S base w6 v6 (X1 ++ X2) := by
  have l1 : vs1.length = X1.length := by have := h1.1; omega
  have l2 : vs2.length = X2.length := by have := h3.1; omega
  have fin : ∀ {X : World} {S' : Nat → Prop} {x : Value} {r : List Int}, IntsIn S' X x r → (∀ b, b < X.heap.size → S' b → (S b ∧ some b ≠ v6.ownBlock) ∧ w6.heap[b]? = X.heap[b]?) → IntsIn (fun b => S b ∧ some b ≠ v6.ownBlock) w6 x r := fun {X S' x r} hx hh => by
    have k1 : IntsIn (fun b => (S b ∧ some b ≠ v6.ownBlock) ∧ w6.heap[b]? = X.heap[b]?) X x r := SliceIn.mono hx fun b hb hs => hh b hb hs
    have k2 := SliceIn.keep (w' := w6) k1 fun b _ hs => hs.2
    exact SliceIn.mono k2 fun b _ hs => hs.1
  have hs := hB.size
  refine ⟨vs1 ++ vs2, by rw [List.length_append, ← l2]; exact hown, fun k v x hv hx => ?_⟩
  rw [List.getElem?_append] at hv hx
  rw [l1] at hv
  by_cases hk : k < X1.length
  · rw [if_pos hk] at hv hx
    refine fin (h2 k v x hv hx) fun b hb hS1 => ⟨⟨hS1.1, fun e => ?_⟩, ?_⟩
    · rcases hl with h | h
      · exact hS1.2 (e.trans h)
      · rw [h] at e; have := Option.some.inj e; omega
    · rw [hg.block b (by omega) hS1.2]; exact hB.block b hb
  · rw [if_neg hk] at hv hx
    refine fin (h4 _ v x hv hx) fun b hb hS1 => ?_
    have hbo : some b ≠ uo.ownBlock := fun e => by have := (h1.lt b e.symm).2; omega
    refine ⟨⟨hS b hS1.1, fun e => ?_⟩, hg.block b hb hbo⟩
    rcases hl with h | h
    · exact hbo (e.trans h)
    · rw [h] at e; have := Option.some.inj e; omega

theorem slices_one {base : Nat} {W : World} {u : Value} {X : List (List Int)} {vs : List Value} {S : Nat → Prop} (h : W.ownsRow base 42 1 u X.length vs) (h2 : ∀ (k : Nat) (v : Value) (x : List Int), vs[k]? = some v → X[k]? = some x → IntsIn S W v x) : ∀ c ∈ vs, c.oneCell' = true := fun c hc => by
  obtain ⟨k, hk, e⟩ := List.getElem_of_mem hc
  have hl : vs.length = X.length := by have := h.1; omega
  obtain ⟨a, cp, e2, -⟩ := (h2 k c X[k] (by rw [List.getElem?_eq_getElem hk, e]) (List.getElem?_eq_getElem (by omega))).open_
  rw [e2]
  rfl
set_option maxRecDepth 100000 in
set_option maxHeartbeats 4000000 in
theorem ordersFrom_ (N : Nat) (hN : N ≤ 4) : ∀ (m : Nat) (l : List Int) (S : Nat → Prop) (vl : Value) (w : World), l.length + m = N → IntsIn S w vl l → (∀ b, w.heap.size ≤ b → S b) →
    Calls Tryd.prog 39 #[vl, .int .i64 (N : Int)] w fun e w' => ∃ u, e = .returned u ∧ OrdAtS S w.heap.size w' u (ordF m l N) ∧ Below w.heap.size w w' := by
  intro m
  induction m with
  | zero =>
    intro l S vl w hlm hl hS
    obtain ⟨i0, hi0, hz0, hz1, hz2⟩ := info_parts Tryd.info42
    have HL := Hid.mk' hl
    obtain ⟨al, cl, rfl, -, -⟩ := hl.open_
    obtain ⟨k, hk⟩ : ∃ k, l.length = k := ⟨_, rfl⟩
    have HK : Hid (l.length = k) := hk
    rw [hk] at hlm HL ⊢
    obtain rfl : k = N := by omega
    clear hl hk
    go_enter Tryd.func39, Tryd.ntmps39
    go_wp2_with (first
      | (at_builtin; refine wpList_append_own_at _ rfl (.tmp 13) (.tmp 15) 22 rfl w.heap.size 42 i0 (.slice none 0 0) 1 24 Tryd.underlying22 hi0 hz0 hz1 hz2 rfl (by decide) (.slice none 0 0) 0 [] rfl (World.ownsRow_nil _ _ _ _) ⟨_, 0, none⟩ 1 1 [_] rfl rfl (cells_new _ _ _) (by simp [Value.oneCell']) (by unfold maxLen; omega) (by omega) (by simp) ?_; intro v6 w6 hown6 hg6 hn6 hl6; have H6 := Hid.mk' (And.intro hown6 (And.intro hg6 hl6)); clear hown6 hg6 hn6 hl6)
      | fail)
    go_ret
    have hB : Below w.heap.size w w6 := by
      have h1 := H6.out.2.1
      refine ⟨h1.os, h1.tape, h1.output, Nat.le_trans (by simp) h1.size, fun b hb => ?_⟩
      rw [h1.block b (by rw [World.size_alloc]; omega) (by simp [Value.ownBlock])]
      exact Below.heap_alloc w _ b hb
    refine ⟨v6, rfl, ⟨[_], H6.out.1, fun j v x hv hx => ?_⟩, hB⟩
    have hj : j = 0 := by
      rcases Nat.eq_zero_or_pos j with h | h
      · exact h
      · rw [List.getElem?_eq_none (by simp; omega)] at hv; cases hv
    subst hj
    simp at hv hx
    rw [ordF] at hx
    simp at hx
    subst hv hx
    refine SliceIn.mono (SliceIn.keep (SliceIn.mono HL.out (S' := fun b => S b ∧ b < w.heap.size) fun b hb hs => ⟨hs, hb⟩) fun b _ hs => hB.block b hs.2) fun b _ hs => ⟨hs.1, fun e => ?_⟩
    rcases H6.out.2.2 with h | h
    · rw [h] at e; simp [Value.ownBlock] at e
    · rw [h, World.size_alloc] at e
      have := Option.some.inj e
      have := hs.2
      omega
  | succ m ih =>
    intro l S vl w hlm hl hS
    obtain ⟨i0, hi0, hz0, hz1, hz2⟩ := info_parts Tryd.info42
    obtain ⟨j0, hj0, hy0, hy1, hy2⟩ := info_parts Tryd.infoi
    have HL := Hid.mk' hl
    have HS := Hid.mk' hS
    obtain ⟨al, cl, rfl, -, -⟩ := hl.open_
    obtain ⟨F, hF⟩ : ∃ F : Nat → List (List Int), (fun k : Nat => if l.contains (k : Int) then [] else ordF m (l ++ [(k : Int)]) N) = F := ⟨_, rfl⟩
    have HF : Hid ((fun k : Nat => if l.contains (k : Int) then [] else ordF m (l ++ [(k : Int)]) N) = F) := hF
    have HE : Hid (ordF (m + 1) l N = (List.range N).flatMap F) := by show _ = _; rw [ordF, ← hF]
    have HFL : Hid (∀ k, k ≤ N → ((List.range k).flatMap F).length ≤ 256) := fun k hk => by
      have h1 := flat_upto F hk
      have h2 := orders_small (m := m + 1) (N := N) l (by omega) hN
      rw [HE.out] at h2
      omega
    have HLN : Hid (l.length + (m + 1) = N) := hlm
    obtain ⟨ll, hll⟩ : ∃ ll, l.length = ll := ⟨_, rfl⟩
    have HLL : Hid (l.length = ll) := hll
    rw [HE.out]
    rw [hll] at hlm HL ⊢
    have hne : ((ll : Int) == (N : Int)) = false := beq_false_of_ne (by omega)
    have hl4 : ll ≤ 4 := by omega
    clear hl hS hF hll
    go_enter Tryd.func39, Tryd.ntmps39
    go_wp2_with fail
    go_loopw [5, 6] (fun pv p W => ∃ (u : Value) (k : Nat), k ≤ N ∧ pv = u ∧ p = .int .i64 (k : Int) ∧ Hid (OrdAtS S w.heap.size W u ((List.range k).flatMap F) ∧ Below w.heap.size w W)) (fun _ p _ => N - (intOf p).toNat)
    case atStart => exact ⟨_, 0, by omega, rfl, rfl, OrdAtS.nil _ _ _, Below.refl _ _⟩
    case round =>
      obtain ⟨u, k, hk, rfl, rfl, HK⟩ := hrel
      obtain ⟨vs1, ho1, ho2⟩ := HK.out.1
      obtain ⟨au, cu, hu⟩ := own_one ho1
      have hlen := HFL.out k hk
      have HO1 := Hid.mk' ho1
      have HO2 := Hid.mk' ho2
      obtain ⟨M, hM⟩ : ∃ M, ((List.range k).flatMap F).length = M := ⟨_, rfl⟩
      have HM : Hid (((List.range k).flatMap F).length = M) := hM
      rw [hM] at hu hlen HO1
      subst hu
      clear hM ho1 ho2
      by_cases hkN : k < N
      · have HSU : Hid ((List.range (k + 1)).flatMap F = (List.range k).flatMap F ++ F k) := flat_succ _ _
        have HFK : Hid (F k = if l.contains (k : Int) then [] else ordF m (l ++ [(k : Int)]) N) := by show _ = _; rw [← HF.out]
        have hcon := contains_ (.slice al ll cl) l (k : Int) wr (IntsIn.any (HL.out.below HK.out.2)) (by rw [HLL.out]; omega)
        obtain ⟨cb, hcb⟩ : ∃ cb, l.contains (k : Int) = cb := ⟨_, rfl⟩
        have HCB : Hid (l.contains (k : Int) = cb) := hcb
        rw [hcb] at hcon
        clear hcb
        cases cb with
        | true =>
          go_wp2_with (first
            | (go_at_call 54; refine hcon.mono ?_; rintro e V ⟨rfl, q, rfl⟩; clear hcon)
            | fail)
          go_roundw
          case rel =>
            refine ⟨_, k + 1, by omega, rfl, by go_num, ?_, HK.out.2.trans ((below_drewN wr q).mono HK.out.2.size)⟩
            rw [HSU.out, HFK.out, HCB.out, if_pos rfl, List.append_nil]
            obtain ⟨vs, h1, h2⟩ := HK.out.1
            exact ⟨vs, h1, h2⟩
          case measure => simp [intOf]; omega
        | false =>
          have HIH : Hid (∀ (V : World) (vn : Value), IntsIn (fun b => wr.heap.size ≤ b) V vn (l ++ [(k : Int)]) → wr.heap.size ≤ V.heap.size → Calls Tryd.prog 39 #[vn, .int .i64 (N : Int)] V fun e w' => ∃ u, e = .returned u ∧ OrdAtS (fun b => wr.heap.size ≤ b) V.heap.size w' u (F k) ∧ Below V.heap.size V w') := fun V vn hvn hV => by
            have h9 := ih (l ++ [(k : Int)]) (fun b => wr.heap.size ≤ b) vn V (by have := HLN.out; rw [List.length_append]; simp; omega) hvn (fun b hb => Nat.le_trans hV hb)
            rw [HFK.out, HCB.out, if_neg (by simp)]
            exact h9
          have HML : Hid ((l.map (Value.int .i64)).length = ll) := by show _ = _; rw [List.length_map]; exact HLL.out
          have HIW := Hid.mk' (SliceIn.below HL.out HK.out.2)
          have HFK2 : Hid ((F k).length ≤ 256) := by
            show _ ≤ _
            rw [HFK.out, HCB.out, if_neg (by simp)]
            exact orders_small _ (by omega) hN
          have HN7 : Hid (∀ (V w5 w7 : World) (v5 v7 : Value) (o : Obj), Below wr.heap.size wr V → V.grownBy w5 none → w5.ownsRow wr.heap.size 3 1 v5 l.length (l.map (Value.int .i64)) → (w5.alloc o).grownBy w7 v5.ownBlock → w7.ownsRow wr.heap.size 3 1 v7 (l.length + 1) (l.map (Value.int .i64) ++ [.int .i64 (k : Int)]) → Below wr.heap.size wr w7 ∧ IntsIn (fun b => wr.heap.size ≤ b) w7 v7 (l ++ [(k : Int)])) := fun V w5 w7 v5 v7 o g1 g2 g3 g4 g5 => by
            have s2 := g2.size
            have s4 := g4.size
            have s1 := g1.size
            rw [World.size_alloc] at s4
            refine ⟨⟨g4.os.trans (g2.os.trans g1.os), g4.tape.trans (g2.tape.trans g1.tape), g4.output.trans (g2.output.trans g1.output), by omega, fun b hb => ?_⟩, slice_of_owns (by rw [List.map_append]; exact g5) fun b hb _ => hb⟩
            rw [g4.block b (by rw [World.size_alloc]; omega) fun e => by have := (g3.lt b e.symm).1; omega, Below.heap_alloc w5 o b (by omega), g2.block b (by omega) (by simp)]
            exact g1.block b hb
          go_wp2_with (first
            | (go_at_call 54; refine hcon.mono ?_; rintro e V ⟨rfl, q, hVq⟩; have HVQ : Hid (Below wr.heap.size wr V ∧ V.heap.size = wr.heap.size) := (by rw [hVq]; exact ⟨below_drewN wr q, rfl⟩); have HIV := Hid.mk' (SliceIn.below HIW.out HVQ.out.1); have hVs := HVQ.out.2; clear hcon hVq)
            | (at_builtin; refine wpList_append_slice rfl (.tmp 26) (.tmp 27) 42 rfl wr.heap.size 3 j0 (.int .i64 0) 8 Tryd.underlying42 hj0 hy0 hy1 hy2 rfl (.slice none 0 0) 0 [] rfl (World.ownsRow_nil _ _ _ _) _ _ rfl HIV.out (ints_one l) (by rw [HML.out]; omega) (by rw [HML.out]; unfold maxLen; omega) (by omega) ?_; intro v5 w5 hown5 hg5 hl5; have H5 := Hid.mk' (And.intro hg5 hl5); have hw5 := hg5.size; obtain ⟨a5, c5, rfl⟩ := own_one hown5; have HO5 : Hid (w5.ownsRow wr.heap.size 3 1 (.slice a5 l.length c5) l.length (l.map (Value.int .i64))) := (by have h9 := hown5; rw [show 0 + (l.map (Value.int .i64)).length = l.length by simp] at h9; exact h9); clear hown5 hg5 hl5)
            | (at_builtin; refine wpList_append_own_at _ rfl (.tmp 30) (.tmp 32) 42 rfl wr.heap.size 3 j0 (.int .i64 0) 1 8 Tryd.underlying42 hj0 hy0 hy1 hy2 rfl (by decide) _ l.length (l.map (Value.int .i64)) rfl (HO5.out.alloc _) ⟨_, 0, none⟩ 1 1 [_] rfl rfl (cells_new _ _ _) (by simp [Value.oneCell']) (by rw [HLL.out]; unfold maxLen; omega) (by rw [HLL.out]; omega) (by simp; omega) ?_; intro v7 w7 hown7 hg7 hn7 hl7; have H7 : Hid (Below wr.heap.size wr w7 ∧ IntsIn (fun b => wr.heap.size ≤ b) w7 v7 (l ++ [(k : Int)])) := HN7.out V w5 w7 (.slice a5 l.length c5) v7 _ HVQ.out.1 H5.out.1 HO5.out hg7 hown7; have hco := HIH.out w7 v7 H7.out.2 H7.out.1.size; obtain ⟨a7, c7, rfl⟩ := own_one hown7; clear hown7 hg7 hn7 hl7)
            | (go_at_call 39; refine hco.mono ?_; rintro e w8 ⟨u8, rfl, ⟨vs2, h3, h4⟩, hb8⟩; have HB8 : Hid (Below wr.heap.size wr w8) := H7.out.1.trans (hb8.mono H7.out.1.size); have H8 := Hid.mk' (And.intro h3 h4); obtain ⟨a8, c8, rfl⟩ := own_one h3; have hl8 : vs2.length ≤ 256 := (by have h9 := h3.1; have h8 := HFK2.out; omega); clear hco h3 h4 hb8)
            | (at_builtin; refine wpList_append_slice rfl (.tmp 29) (.tmp 35) 22 rfl w.heap.size 42 i0 (.slice none 0 0) 24 Tryd.underlying22 hi0 hz0 hz1 hz2 rfl _ M vs1 rfl (HO1.out.kept (Below.grownBy HB8.out) (no_row _)) _ vs2 rfl (slice_of_owns (S := anyBlock) H8.out.1 (fun _ _ _ => trivial)) (slices_one H8.out.1 H8.out.2) (by omega) (by unfold maxLen; omega) (Nat.le_trans HK.out.2.size HB8.out.size) ?_; intro v9 w9 hown9 hg9 hl9; have H9 := Hid.mk' (And.intro hown9 (And.intro hg9 hl9)); obtain ⟨a9, c9, rfl⟩ := own_one hown9; clear hown9 hg9 hl9)
            | fail)
          go_roundw
          case rel =>
            refine ⟨_, k + 1, by omega, rfl, by go_num, ?_, ?_⟩
            · rw [HSU.out]
              exact OrdAtS.app (by rw [HM.out]; exact HO1.out) HO2.out HB8.out (fun b hb => HS.out b (Nat.le_trans HK.out.2.size hb)) H8.out.1 H8.out.2 (by rw [HM.out]; exact H9.out.1) H9.out.2.1 H9.out.2.2
            · have h1 := HK.out.2.trans (HB8.out.mono HK.out.2.size)
              refine ⟨H9.out.2.1.os.trans h1.os, H9.out.2.1.tape.trans h1.tape, H9.out.2.1.output.trans h1.output, Nat.le_trans h1.size H9.out.2.1.size, fun b hb => ?_⟩
              rw [H9.out.2.1.block b (Nat.lt_of_lt_of_le hb h1.size) fun e => by have := (HO1.out.lt b e.symm).1; omega]
              exact h1.block b hb
          case measure => simp [intOf]; omega
      · obtain rfl : k = N := by omega
        go_wp2_with fail
        go_ret
        exact ⟨_, rfl, HK.out.1, HK.out.2⟩

end Go.Proofs.YtmaopnbnbiediaaDoor
