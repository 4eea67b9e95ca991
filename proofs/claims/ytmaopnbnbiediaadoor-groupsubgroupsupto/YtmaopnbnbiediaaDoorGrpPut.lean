/- What the reference's Ahead answers; nothing is written. A table is put among tables, by its letters. -/
import Derived.Test.YtmaopnbnbiediaaDoorRefA
import Derived.Test.YtmaopnbnbiediaaDoorGrpOrd2
namespace Go.Proofs.YtmaopnbnbiediaaDoor
open Go.RowKit Go.Sort

theorem ahead_at : ∀ (k : Nat) (xs ys : List Int), xs.take k = ys.take k → ∀ (hx : k < xs.length) (hy : k < ys.length), xs[k] ≠ ys[k] → ahead xs ys = decide (xs[k] < ys[k])
  | _, [], _, _, hx, _, _ => absurd hx (by simp)
  | _, _ :: _, [], _, _, hy, _ => absurd hy (by simp)
  | 0, x :: xs, y :: ys, _, _, _, h => by
    simp at h
    simp [ahead, h]
  | k + 1, x :: xs, y :: ys, ht, hx, hy, h => by
    simp at ht h
    obtain ⟨rfl, ht⟩ := ht
    simp only [ahead, if_pos, List.getElem_cons_succ]
    exact ahead_at k xs ys ht (by simpa using hx) (by simpa using hy) h

theorem ahead_end : ∀ (k : Nat) (xs ys : List Int), xs.take k = ys.take k → (xs.length ≤ k ∨ ys.length ≤ k) → ahead xs ys = decide (xs.length < ys.length)
  | _, [], [], _, _ => by simp [ahead]
  | _, [], _ :: _, _, _ => by simp [ahead]
  | _, _ :: _, [], _, _ => by simp [ahead]
  | 0, _ :: _, _ :: _, _, h => by simp at h
  | k + 1, x :: xs, y :: ys, ht, h => by
    simp at ht h
    obtain ⟨rfl, ht⟩ := ht
    simp only [ahead, if_pos, List.length_cons, Nat.add_lt_add_iff_right]
    exact ahead_end k xs ys ht h

theorem ahead_ (va vb : Value) (xs ys : List Int) (w : World) (ha : Ints w va xs) (hb : Ints w vb ys) (hx : xs.length ≤ 1000000) :
    Calls Tryd.prog 49 #[va, vb] w fun e w' => e = .returned (.bool (ahead xs ys)) ∧ ∃ q, w' = w.drewN q := by
  obtain ⟨a, ca, rfl, -, ha⟩ := ha.open_
  obtain ⟨b, cb, rfl, -, hb⟩ := hb.open_
  go_enter Tryd.func49, Tryd.ntmps49
  go_wp2
  go_loopw [5] (fun v W => ∃ k q : Nat, k ≤ xs.length ∧ v = .int .i64 k ∧ W = w.drewN q ∧ xs.take k = ys.take k) (fun v _ => xs.length - (intOf v).toNat)
  case atStart => exact ⟨0, 0, by omega, rfl, rfl, by simp⟩
  case round =>
    obtain ⟨k, q, hk, rfl, rfl, ht⟩ := hrel
    have HT : Hid (xs.take k = ys.take k) := ht
    clear ht
    by_cases hlt : k < xs.length
    · by_cases hlu : k < ys.length
      · obtain ⟨b1, o1, rfl, -, -, c1⟩ := ha (by omega)
        obtain ⟨b2, o2, rfl, -, -, c2⟩ := hb (by omega)
        have g1 := c1 k hlt
        have g2 := c2 k hlu
        clear c1 c2 ha hb
        obtain ⟨x, hxe⟩ : ∃ x, xs[k]?.getD 0 = x := ⟨_, rfl⟩
        obtain ⟨y, hye⟩ : ∃ y, ys[k]?.getD 0 = y := ⟨_, rfl⟩
        rw [hxe] at g1
        rw [hye] at g2
        have HX : Hid (xs[k]?.getD 0 = x) := hxe
        have HY : Hid (ys[k]?.getD 0 = y) := hye
        clear hxe hye
        by_cases heq : x = y
        · subst heq
          go_wp2_with fail
          go_quiet (fail)
          go_wp2
          go_roundw
          case rel => exact ⟨k + 1, _, by omega, by go_num, rfl, take_snoc HT.out hlt hlu (HX.out.trans HY.out.symm)⟩
          case measure => simp [intOf]; omega
        · have hne : (x != y) = true := by simpa using heq
          have HE : Hid (¬ x = y) := heq
          clear heq
          go_wp2_with fail
          go_quiet (fail)
          go_wp2_with fail
          go_quiet (fail)
          go_wp2
          go_ret
          refine ⟨?_, by simp only [World.drewN_drewN]; exact ⟨_, rfl⟩⟩
          have h1 : xs[k] = x := by have := HX.out; simpa [hlt] using this
          have h2 : ys[k] = y := by have := HY.out; simpa [hlu] using this
          rw [ahead_at k xs ys HT.out hlt hlu (by rw [h1, h2]; exact HE.out), h1, h2]; rfl
      · clear ha hb
        go_wp2
        go_ret
        refine ⟨?_, q, rfl⟩
        rw [ahead_end k xs ys HT.out (by omega)]
        simp
    · clear ha hb
      go_wp2
      go_ret
      refine ⟨?_, q, rfl⟩
      rw [ahead_end k xs ys HT.out (by omega)]
      simp

end Go.Proofs.YtmaopnbnbiediaaDoor

namespace Go.Proofs.YtmaopnbnbiediaaDoor
open Go.RowKit Go.Sort

def aheadT (X T : List (List Int)) : Bool := ahead X.flatten T.flatten
def putT (L : List (List (List Int))) (T : List (List Int)) : List (List (List Int)) := L.takeWhile (aheadT · T) ++ ([T] ++ L.dropWhile (aheadT · T))
theorem while_at {α : Type} {p : α → Bool} : ∀ {L : List α} {k : Nat}, k ≤ L.length → (∀ j x, j < k → L[j]? = some x → p x = true) → (∀ x, L[k]? = some x → p x = false) → L.takeWhile p = L.take k ∧ L.dropWhile p = L.drop k
  | [], k, hk, _, _ => by simp
  | x :: xs, 0, _, _, h2 => by
    have := h2 x rfl
    simp [List.takeWhile, List.dropWhile, this]
  | x :: xs, k + 1, hk, h1, h2 => by
    have h3 := h1 0 x (by omega) rfl
    have ih := while_at (p := p) (L := xs) (k := k) (by simpa using hk) (fun j y hj hy => h1 (j + 1) y (by omega) (by simpa using hy)) (fun y hy => h2 y (by simpa using hy))
    simp [List.takeWhile, List.dropWhile, h3, ih.1, ih.2]
theorem cut_take {cs : List Value} (h : ∀ c ∈ cs, c.oneCell' = true) (j : Nat) : ∀ c ∈ cs.take j, c.oneCell' = true := fun c hc => h c (List.mem_of_mem_take hc)
theorem cut_drop {cs : List Value} (h : ∀ c ∈ cs, c.oneCell' = true) (j : Nat) : ∀ c ∈ cs.drop j, c.oneCell' = true := fun c hc => h c (List.mem_of_mem_drop hc)
theorem put_two {W1 w2 w3 : World} {v1 : Value} {e : TypeId} {n : Nat} {xs : List Value} {o : Obj} (hg1 : W1.grownBy w2 none) (hown1 : w2.ownsRow W1.heap.size e 1 v1 n xs) (hg2 : (w2.alloc o).grownBy w3 v1.ownBlock) : Below W1.heap.size W1 w3 :=
  (((Below.refl W1.heap.size W1).grown hg1 (Nat.le_refl _) (fun k h => by cases h)).alloc hg1.size o).grown hg2 (by have := hg1.size; simp; omega) (fun j hj => (hown1.lt j hj).1)
theorem put_three {W1 w3 w4 : World} {v2 : Value} {e : TypeId} {n : Nat} {xs : List Value} (h : Below W1.heap.size W1 w3) (hown2 : w3.ownsRow W1.heap.size e 1 v2 n xs) (hg3 : w3.grownBy w4 v2.ownBlock) : Below W1.heap.size W1 w4 :=
  h.grown hg3 h.size (fun j hj => (hown2.lt j hj).1)
theorem tabs_ins {w w' : World} {vs : List Value} {l : List (List (List Int))} {vf v : Value} {f : List (List Int)} {j base n : Nat} (hB : Below w.heap.size w w') (hl : vs.length = l.length) (hr : ∀ (k : Nat) (u : Value) (x : List (List Int)), vs[k]? = some u → l[k]? = some x → Rows w u x) (hf : Rows w vf f) (hj : j ≤ l.length)
    (hown : w'.ownsRow base 22 1 v n (([] ++ vs.take j) ++ [vf] ++ vs.drop j)) : Tabs w' v (l.take j ++ ([f] ++ l.drop j)) := by
  have hs := slice_of_owns (S := anyBlock) hown (fun _ _ _ => trivial)
  refine ⟨vs.take j ++ ([vf] ++ vs.drop j), by simpa using hs, by simp [hl], fun k u x hu hx => ?_⟩
  have hlt : (vs.take j).length = j := by simp; omega
  have hlt' : (l.take j).length = j := by simp; omega
  rw [List.getElem?_append] at hu hx
  rw [hlt] at hu
  rw [hlt'] at hx
  split at hu
  · rename_i hk
    rw [if_pos hk] at hx
    rw [List.getElem?_take, if_pos hk] at hu hx
    exact (hr k u x hu hx).below hB
  · rename_i hk
    rw [if_neg hk] at hx
    rw [List.getElem?_append] at hu hx
    simp only [List.length_singleton] at hu hx
    split at hu
    · rename_i hk2
      rw [if_pos hk2] at hx
      have : k - j = 0 := by omega
      rw [this] at hu hx
      simp at hu hx
      subst hu; subst hx
      exact hf.below hB
    · rename_i hk2
      rw [if_neg hk2] at hx
      rw [List.getElem?_drop] at hu hx
      exact (hr _ u x hu hx).below hB

/-- What putTable answers. -/
def PutT (L : List (List (List Int))) (T : List (List Int)) (w : World) (e : Ending) (w' : World) : Prop := ∃ u, e = .returned u ∧ Tabs w' u (putT L T) ∧ Below w.heap.size w w'

set_option maxRecDepth 100000 in
set_option maxHeartbeats 4000000 in
theorem putTable_ (vl vt : Value) (L : List (List (List Int))) (T : List (List Int)) (w : World) (hl : Tabs w vl L) (ht : Rows w vt T) (hL : L.length ≤ 100000) (hsz : ∀ X, X ∈ L ∨ X = T → X.length ≤ 1000 ∧ X.flatten.length ≤ 1000) :
    Calls Tryd.prog 30 #[vl, vt] w fun e w' => PutT L T w e w' := by
  obtain ⟨i0, hi0, hz0, hz1, hz2⟩ := info_parts Tryd.infoRows
  obtain ⟨vs, hs, hvl, hvr⟩ := hl
  have HT := Hid.mk' ht
  have HSZ := Hid.mk' hsz
  have hvone : ∀ c ∈ vs, c.oneCell' = true := fun c hc => by
    obtain ⟨t, ht, e⟩ := List.getElem_of_mem hc
    obtain ⟨a1, c1, e1, -⟩ := (hvr t c (L[t]'(by omega)) (by rw [List.getElem?_eq_getElem ht, e]) (List.getElem?_eq_getElem (by omega))).open_
    rw [e1]; rfl
  have HVR := Hid.mk' hvr
  have HS := Hid.mk' hs
  have HV1 := Hid.mk' hvone
  obtain ⟨al, cl, rfl, ⟨hcl, hnl⟩, hxl⟩ := hs
  have HX := Hid.mk' hxl
  have HNL := Hid.mk' hnl
  obtain ⟨at_, ct, rfl, -, -⟩ := ht.open_
  have hT2 := hsz T (.inr rfl)
  obtain ⟨lt, hlt⟩ : ∃ lt, T.length = lt := ⟨_, rfl⟩
  have HLT : Hid (T.length = lt) := hlt
  rw [hlt] at HT ⊢
  obtain ⟨M, hM⟩ : ∃ M, vs.length = M := ⟨_, rfl⟩
  have HM : Hid (vs.length = M) := hM
  have HML : Hid (L.length = M) := by show _ = _; omega
  have hM9 : M ≤ 100000 := by omega
  rw [hM] at HS hcl ⊢
  obtain ⟨tl, htl⟩ : ∃ tl, T.flatten.length = tl := ⟨_, rfl⟩
  have HLE : Hid (∀ V, Below w.heap.size w V → Calls Tryd.prog 15 #[.slice at_ lt ct] V fun e w' => ∃ a2 c2, e = .returned (.slice a2 tl c2) ∧ Ints w' (.slice a2 tl c2) T.flatten ∧ Below V.heap.size V w') := fun V hV => (letters_ _ T V (HT.out.below hV) (by omega) (by omega)).mono fun e w' hh => by
    obtain ⟨u, rfl, h1, h2⟩ := hh
    obtain ⟨a2, c2, rfl, -, -⟩ := h1.open_
    rw [htl] at h1 ⊢
    exact ⟨a2, c2, rfl, h1, h2⟩
  clear hvr hvone hxl hnl ht hsz hlt hM hT2 hvl hL htl
  go_enter Tryd.func30, Tryd.ntmps30
  go_wp2_with fail
  go_loopw [5] (fun p W => ∃ k : Nat, k ≤ M ∧ p = .int .i64 (k : Int) ∧ Hid (Below w.heap.size w W ∧ ∀ j x, j < k → L[j]? = some x → aheadT x T = true)) (fun p _ => M - (intOf p).toNat)
  case atStart => exact ⟨0, by omega, rfl, Below.refl _ _, fun j x hj => (by omega)⟩
  case round =>
    obtain ⟨k, hk, rfl, HK⟩ := hrel
    by_cases hkM : k < M
    · obtain ⟨X, hX⟩ : ∃ X, L[k]? = some X := ⟨_, List.getElem?_eq_getElem (by rw [HML.out]; exact hkM)⟩
      obtain ⟨uk, huk⟩ : ∃ uk, vs[k]? = some uk := ⟨_, List.getElem?_eq_getElem (by rw [HM.out]; exact hkM)⟩
      have hXr := (HVR.out k uk X huk hX).below HK.out.1
      obtain ⟨ax, cx, rfl, -, -⟩ := hXr.open_
      obtain ⟨b, off, rfl, -, hcell⟩ := HX.out (by rw [HM.out]; omega)
      have ck := (HK.out.1.cell (p := ⟨b, off + k, none⟩) (cell_lt (hcell k _ huk))).trans (hcell k _ huk)
      have hsx := HSZ.out X (.inl (List.mem_of_getElem? hX))
      obtain ⟨xl, hxl9⟩ : ∃ xl, X.flatten.length = xl := ⟨_, rfl⟩
      have hl1 : Calls Tryd.prog 15 #[.slice ax X.length cx] wr fun e w' => ∃ a1 c1, e = .returned (.slice a1 xl c1) ∧ Ints w' (.slice a1 xl c1) X.flatten ∧ Below wr.heap.size wr w' := (letters_ _ X wr hXr (by omega) (by omega)).mono fun e w' hh => by
        obtain ⟨u, rfl, h1, h2⟩ := hh
        obtain ⟨a2, c2, rfl, -, -⟩ := h1.open_
        rw [hxl9] at h1 ⊢
        exact ⟨a2, c2, rfl, h1, h2⟩
      have HX9 := Hid.mk' hX
      have HSX := Hid.mk' hsx
      have HAH : Hid (∀ (V1 V2 : World) (u1 u2 : Value), Ints V1 u1 X.flatten → Below V1.heap.size V1 V2 → Ints V2 u2 T.flatten → Calls Tryd.prog 49 #[u1, u2] V2 fun e w' => e = .returned (.bool (aheadT X T)) ∧ ∃ q, w' = V2.drewN q) := fun V1 V2 u1 u2 h1 h2 h3 => ahead_ u1 u2 X.flatten T.flatten V2 (h1.below h2) h3 (by have := HSX.out.2; omega)
      obtain ⟨lx, hlx⟩ : ∃ lx, X.length = lx := ⟨_, rfl⟩
      rw [hlx] at ck hl1
      obtain ⟨ab, hab⟩ : ∃ ab, aheadT X T = ab := ⟨_, rfl⟩
      have HAB : Hid (aheadT X T = ab) := hab
      rw [hab] at HAH
      have z0 : (0 : Int) ≤ (k : Int) := by omega
      have z1 : (k : Int) < (M : Int) := by omega
      clear hX huk hXr hcell hsx hlx hab hxl9
      cases ab with
      | true =>
        go_wp2_with (first
          | (go_at_call 15; refine hl1.mono ?_; rintro e V1 ⟨a1, c1, rfl, hu1, hb1⟩; have H1 : Hid (Ints V1 (.slice a1 xl c1) X.flatten ∧ Below w.heap.size w V1) := ⟨hu1, HK.out.1.trans (hb1.mono HK.out.1.size)⟩; have hl2 := HLE.out V1 H1.out.2; clear hl1 hu1 hb1)
          | (go_at_call 15; refine hl2.mono ?_; rintro e V2 ⟨a2, c2, rfl, hu2, hb2⟩; have H2 : Hid (Below w.heap.size w V2) := H1.out.2.trans (hb2.mono H1.out.2.size); have hah := HAH.out V1 V2 _ _ H1.out.1 hb2 hu2; clear hl2 hu2 hb2)
          | (go_at_call 49; refine hah.mono ?_; rintro e V3 ⟨rfl, q, hq⟩; have H3 : Hid (Below w.heap.size w V3) := (by rw [hq]; exact H2.out.trans ((below_drewN V2 q).mono H2.out.size)); have hs1 := SliceIn.below HS.out H3.out; clear hah hq)
          | fail)
        go_roundw
        case rel =>
          refine ⟨k + 1, by omega, by go_num, H3.out, fun j x hj hx => ?_⟩
          by_cases e : j = k
          · subst e
            rw [HX9.out] at hx
            rw [← Option.some.inj hx]
            exact HAB.out
          · exact HK.out.2 j x (by omega) hx
        case measure => simp [intOf]; omega
      | false =>
        have HWA : Hid (putT L T = L.take k ++ ([T] ++ L.drop k)) := by
          have h9 := while_at (p := (aheadT · T)) (L := L) (k := k) (by rw [HML.out]; omega) HK.out.2 (fun x hx => by rw [HX9.out] at hx; rw [← Option.some.inj hx]; exact HAB.out)
          show _ = _
          unfold putT
          rw [h9.1, h9.2]
        have hs0 := HS.out
        have hvn := HV1.out
        have hMv := HM.out
        have hcl2 : k < cl := by omega
        have hcl3 : ¬ (cl = k) := by omega
        clear hcl
        go_wp2_with (first
          | (go_at_call 15; refine hl1.mono ?_; rintro e V1 ⟨a1, c1, rfl, hu1, hb1⟩; have H1 : Hid (Ints V1 (.slice a1 xl c1) X.flatten ∧ Below w.heap.size w V1) := ⟨hu1, HK.out.1.trans (hb1.mono HK.out.1.size)⟩; have hl2 := HLE.out V1 H1.out.2; clear hl1 hu1 hb1)
          | (go_at_call 15; refine hl2.mono ?_; rintro e V2 ⟨a2, c2, rfl, hu2, hb2⟩; have H2 : Hid (Below w.heap.size w V2) := H1.out.2.trans (hb2.mono H1.out.2.size); have hah := HAH.out V1 V2 _ _ H1.out.1 hb2 hu2; clear hl2 hu2 hb2)
          | (go_at_call 49; refine hah.mono ?_; rintro e V3 ⟨rfl, q, hq⟩; have H3 : Hid (Below w.heap.size w V3) := (by rw [hq]; exact H2.out.trans ((below_drewN V2 q).mono H2.out.size)); have hs1 := SliceIn.below HS.out H3.out; clear hah hq)
          | (at_builtin; refine wpList_append_slice rfl (.tmp 23) (.tmp 26) 29 rfl V3.heap.size 22 i0 (.slice none 0 0) 24 Tryd.underlying29 hi0 hz0 hz1 hz2 rfl (.slice none 0 0) 0 [] rfl (World.ownsRow_nil _ _ _ _) _ (vs.take k) rfl (hs1.upto (by omega)) (cut_take hvn _) (by simp; omega) (by unfold maxLen; simp; omega) (Nat.le_refl _) ?_; intro v1 w2 hown1 hg1 hl1')
          | (at_builtin; refine wpList_append_slice rfl (.tmp 28) (.tmp 30) 29 rfl V3.heap.size 22 i0 (.slice none 0 0) 24 Tryd.underlying29 hi0 hz0 hz1 hz2 rfl _ _ _ rfl (hown1.alloc _) _ [.slice at_ lt ct] rfl (slice_one _ _ _) (by simp [Value.oneCell']) (by simp; omega) (by unfold maxLen; simp; omega) (by have := hg1.size; simp; omega) ?_; intro v2 w3 hown2 hg2 hl2'; have hB3 := put_two hg1 hown1 hg2; have i4 := hs1.below hB3)
          | (at_builtin; refine wpList_append_slice rfl (.tmp 32) (.tmp 35) 29 rfl V3.heap.size 22 i0 (.slice none 0 0) 24 Tryd.underlying29 hi0 hz0 hz1 hz2 rfl _ _ _ rfl hown2 _ (vs.drop k) rfl (by first | exact i4.behind_at (by omega) | exact i4.behind (by omega) | exact i4.behind_some (by omega)) (cut_drop hvn _) (by simp; omega) (by unfold maxLen; simp; omega) hB3.size ?_; intro v3 w4 hown3 hg3 hl3'; have HB5 : Hid (Below w.heap.size w w4) := H3.out.trans ((put_three hB3 hown2 hg3).mono H3.out.size); have H8 := Hid.mk' hown3)
          | fail)
        go_ret
        exact ⟨_, rfl, by rw [HWA.out]; exact tabs_ins HB5.out (by rw [HM.out, HML.out]) HVR.out HT.out (by rw [HML.out]; omega) H8.out, HB5.out⟩
    · obtain rfl : k = M := by omega
      have HWA : Hid (putT L T = L.take k ++ ([T] ++ L.drop k)) := by
        have h9 := while_at (p := (aheadT · T)) (L := L) (k := k) (by rw [HML.out]; omega) HK.out.2 (fun x hx => by rw [List.getElem?_eq_none (by rw [HML.out]; exact Nat.le_refl _)] at hx; cases hx)
        show _ = _
        unfold putT
        rw [h9.1, h9.2]
      have hvn := HV1.out
      have hMv := HM.out
      obtain ⟨V3, hV3⟩ : ∃ V3, V3 = wr := ⟨_, rfl⟩
      have H3 : Hid (Below w.heap.size w V3) := by rw [hV3]; exact HK.out.1
      subst hV3
      have hs1 := SliceIn.below HS.out H3.out
      have hdn : vs.drop k = [] := List.drop_of_length_le (by omega)
      by_cases hcl4 : cl = k
      · subst hcl4
        have HE2 : Hid (∀ W, SliceIn anyBlock W (.slice al 0 0) (vs.drop cl)) := fun W => SliceIn.empty (fun _ => rfl) rfl hdn
        clear hdn
        go_wp2_with (first
          | (at_builtin; refine wpList_append_slice rfl (.tmp 23) (.tmp 26) 29 rfl V3.heap.size 22 i0 (.slice none 0 0) 24 Tryd.underlying29 hi0 hz0 hz1 hz2 rfl (.slice none 0 0) 0 [] rfl (World.ownsRow_nil _ _ _ _) _ (vs.take cl) rfl (hs1.upto (by omega)) (cut_take hvn _) (by simp; omega) (by unfold maxLen; simp; omega) (Nat.le_refl _) ?_; intro v1 w2 hown1 hg1 hl1')
          | (at_builtin; refine wpList_append_slice rfl (.tmp 28) (.tmp 30) 29 rfl V3.heap.size 22 i0 (.slice none 0 0) 24 Tryd.underlying29 hi0 hz0 hz1 hz2 rfl _ _ _ rfl (hown1.alloc _) _ [.slice at_ lt ct] rfl (slice_one _ _ _) (by simp [Value.oneCell']) (by simp; omega) (by unfold maxLen; simp; omega) (by have := hg1.size; simp; omega) ?_; intro v2 w3 hown2 hg2 hl2'; have hB3 := put_two hg1 hown1 hg2)
          | (at_builtin; refine wpList_append_slice rfl (.tmp 32) (.tmp 35) 29 rfl V3.heap.size 22 i0 (.slice none 0 0) 24 Tryd.underlying29 hi0 hz0 hz1 hz2 rfl _ _ _ rfl hown2 _ (vs.drop cl) rfl (HE2.out _) (cut_drop hvn _) (by simp; omega) (by unfold maxLen; simp; omega) hB3.size ?_; intro v3 w4 hown3 hg3 hl3'; have HB5 : Hid (Below w.heap.size w w4) := H3.out.trans ((put_three hB3 hown2 hg3).mono H3.out.size); have H8 := Hid.mk' hown3)
          | fail)
        go_ret
        exact ⟨_, rfl, by rw [HWA.out]; exact tabs_ins HB5.out (by rw [HM.out, HML.out]) HVR.out HT.out (by rw [HML.out]; omega) H8.out, HB5.out⟩
      · have HE2 : Hid (∀ (W : World) (m : Nat), m = 0 → SliceIn anyBlock W (.slice (Option.map (fun x => x.add k) al) m (cl - k)) (vs.drop k)) := fun W m hm => SliceIn.empty (fun h => by
          have := HNL.out (by simpa using h)
          omega) hm hdn
        clear hdn
        go_wp2_with (first
          | (at_builtin; refine wpList_append_slice rfl (.tmp 23) (.tmp 26) 29 rfl V3.heap.size 22 i0 (.slice none 0 0) 24 Tryd.underlying29 hi0 hz0 hz1 hz2 rfl (.slice none 0 0) 0 [] rfl (World.ownsRow_nil _ _ _ _) _ (vs.take k) rfl (hs1.upto (by omega)) (cut_take hvn _) (by simp; omega) (by unfold maxLen; simp; omega) (Nat.le_refl _) ?_; intro v1 w2 hown1 hg1 hl1')
          | (at_builtin; refine wpList_append_slice rfl (.tmp 28) (.tmp 30) 29 rfl V3.heap.size 22 i0 (.slice none 0 0) 24 Tryd.underlying29 hi0 hz0 hz1 hz2 rfl _ _ _ rfl (hown1.alloc _) _ [.slice at_ lt ct] rfl (slice_one _ _ _) (by simp [Value.oneCell']) (by simp; omega) (by unfold maxLen; simp; omega) (by have := hg1.size; simp; omega) ?_; intro v2 w3 hown2 hg2 hl2'; have hB3 := put_two hg1 hown1 hg2)
          | (at_builtin; refine wpList_append_slice rfl (.tmp 32) (.tmp 35) 29 rfl V3.heap.size 22 i0 (.slice none 0 0) 24 Tryd.underlying29 hi0 hz0 hz1 hz2 rfl _ _ _ rfl hown2 _ (vs.drop k) rfl (HE2.out _ _ (by omega)) (cut_drop hvn _) (by simp; omega) (by unfold maxLen; simp; omega) hB3.size ?_; intro v3 w4 hown3 hg3 hl3'; have HB5 : Hid (Below w.heap.size w w4) := H3.out.trans ((put_three hB3 hown2 hg3).mono H3.out.size); have H8 := Hid.mk' hown3)
          | fail)
        go_ret
        exact ⟨_, rfl, by rw [HWA.out]; exact tabs_ins HB5.out (by rw [HM.out, HML.out]) HVR.out HT.out (by rw [HML.out]; omega) H8.out, HB5.out⟩

end Go.Proofs.YtmaopnbnbiediaaDoor
