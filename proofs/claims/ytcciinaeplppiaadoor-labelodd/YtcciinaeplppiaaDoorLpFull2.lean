/- Full triangles, by the program: Full. -/
import Derived.Test.YtcciinaeplppiaaDoorLpFull
namespace Go.Proofs.YtcciinaeplppiaaDoor
open Go.RowKit Go.Sort

/-- Labels that may stand. -/
def GoodLab (n : Int) (ls : List Int) : Prop := (1 ≤ n ∧ n ≤ 12) ∧ (spotsL n.toNat).length = ls.length ∧ ∀ j, j < ls.length → goodAt (spotsL n.toNat) ls j
theorem FaultIs.good {n : Int} {ls : List Int} (h : GoodLab n ls) : FaultIs n ls 0 (-1) := .inr ⟨h.1, .inr ⟨h.2.1, .inr ⟨h.2.2, rfl, rfl⟩⟩⟩
theorem FaultIs.zero {n : Int} {ls : List Int} {p : Int} (h : FaultIs n ls 0 p) : GoodLab n ls := by
  rcases h with ⟨_, e, _⟩ | ⟨h1, ⟨_, e, _⟩ | ⟨h2, ⟨i, _, _, _, e, _⟩ | ⟨h3, _, _⟩⟩⟩
  · omega
  · omega
  · omega
  · exact ⟨h1, h2, h3⟩
theorem check_good {q : Addr} {ls : List Int} {n : Int} (vl : Value) (w : World) (hE : KindAt q w) (hl : Ints w vl ls) (hg : GoodLab n ls) :
    Calls Tryd.prog 13 #[.int .i64 n, vl] w fun e w' => e = .returned .nilIface ∧ Below w.heap.size w w' := by
  obtain ⟨k, rfl⟩ : ∃ k : Nat, n = (k : Int) := ⟨n.toNat, by have := hg.1; omega⟩
  have h2 := hg.2
  rw [Int.toNat_natCast] at h2
  refine (check_rest (a := fun _ => q) k (by have := hg.1; omega) (by have := hg.1; omega) vl w hE hl h2.1).mono fun e w' h => ?_
  rcases h with ⟨hB, ⟨ve, i, _, h4, _, h5, _⟩ | ⟨h3, _⟩⟩
  · exact absurd (h2.2 i h4) h5
  · exact ⟨h3, hB⟩
/-- What an error's value is, where there is one. -/
def IsErr (a : Nat → Addr) (w : World) (n : Int) (ls : List Int) (ve : Value) : Prop := ∃ c p, FaultIs n ls c p ∧ ErrAt a w ve c p ∧ 0 < c
theorem check_bad {a : Nat → Addr} {sx : Nat → ByteArray} {ls : List Int} {n : Int} (vl : Value) (w : World) (hE : Errs a sx w) (hl : Ints w vl ls) (h9 : ls.length ≤ 1000) (hg : ¬ GoodLab n ls) :
    Calls Tryd.prog 13 #[.int .i64 n, vl] w fun e w' => ((∃ q, e = .returned (.iface 158 (.pointer (some q))) ∧ IsErr a w' n ls (.iface 158 (.pointer (some q)))) ∨ (∃ q, e = .returned (.iface 62 (.pointer (some q))) ∧ IsErr a w' n ls (.iface 62 (.pointer (some q))))) ∧ Below w.heap.size w w' := by
  refine (check_ n vl w hE hl h9).mono fun e w' h => ?_
  obtain ⟨ve, c, p, h1, h2, h3, h4⟩ := h
  have h3' := h3
  rcases h3 with ⟨rfl, _⟩ | ⟨i, _, rfl, _, rfl⟩ | ⟨i, _, rfl, q, rfl, _⟩
  · exact absurd (FaultIs.zero h2) hg
  · exact ⟨.inl ⟨_, h1, _, _, h2, h3', by omega⟩, h4⟩
  · exact ⟨.inr ⟨_, h1, _, _, h2, h3', by omega⟩, h4⟩
theorem IsErr.below {a : Nat → Addr} {w w' : World} {n : Int} {ls : List Int} {ve : Value} (h : IsErr a w n ls ve) (hB : Below w.heap.size w w') : IsErr a w' n ls ve := by
  obtain ⟨c, p, h1, h2, h3⟩ := h
  exact ⟨c, p, h1, h2.below hB, h3⟩

set_option maxRecDepth 100000 in
theorem fullX_bad {a : Nat → Addr} {sx : Nat → ByteArray} {ls : List Int} {n : Int} (vl : Value) (w : World) (hE : Errs a sx w) (hl : Ints w vl ls) (h9 : ls.length ≤ 1000) (hg : ¬ GoodLab n ls) :
    Calls Tryd.prog 14 #[.int .i64 n, vl] w fun e w' => ∃ ve, e = .returned (.tuple #[.slice none 0 0, ve]) ∧ IsErr a w' n ls ve ∧ Below w.heap.size w w' := by
  have hc := check_bad vl w hE hl h9 hg
  obtain ⟨al, cl, rfl, -, -⟩ := hl.open_
  obtain ⟨m, hm⟩ : ∃ m, ls.length = m := ⟨_, rfl⟩
  rw [hm] at hc ⊢
  clear hE hl hg hm h9
  go_enter Tryd.func14, Tryd.ntmps14
  go_upto_region 2 with (go_at_call 13; refine hc.mono ?_; rintro e V ⟨hv, hb⟩; have HB := Hid.mk' hb; clear hb hc; rcases hv with ⟨q, rfl, hq⟩ | ⟨q, rfl, hq⟩ <;> (have HV := Hid.mk' hq; clear hq))
  all_goals go_wp2_with fail
  all_goals go_ret2
  all_goals exact ⟨_, rfl, HV.out, HB.out⟩

theorem tries_at {n k : Nat} {r : List Int} (h : (smallL n)[k]? = some r) : (triesL n)[k]? = some (triL r) := by unfold triesL; rw [List.getElem?_map, h]; rfl
theorem tries_len (n : Nat) : (triesL n).length = (smallL n).length := by unfold triesL; exact List.length_map _

set_option maxRecDepth 100000 in
set_option maxHeartbeats 2000000 in
theorem fullX_ok {kq : Addr} {ls : List Int} (n : Nat) (vl : Value) (w : World) (hE : KindAt kq w) (hl : Ints w vl ls) (_h9 : ls.length ≤ 1000) (hg : GoodLab (n : Int) ls) :
    Calls Tryd.prog 14 #[.int .i64 (n : Int), vl] w fun e w' => ∃ v, e = .returned (.tuple #[v, .nilIface]) ∧ Ints w' v (fullL ls (smallL n)) ∧ Below w.heap.size w w' := by
  obtain ⟨j0, hj0, hy0, hy1, hy2⟩ := info_parts Tryd.infoInt
  have hc := check_good vl w hE hl hg
  have hls := hg.2.1
  rw [Int.toNat_natCast] at hls
  have hn1 : 1 ≤ n := by have := hg.1; omega
  have hn2 : n ≤ 12 := by have := hg.1; omega
  have HLS := Hid.mk' hl
  obtain ⟨al, cl, rfl, -, -⟩ := hl.open_
  have HTT : Hid (∀ k r, (smallL n)[k]? = some r → (triesL n)[k]? = some (triL r)) := fun k r h => tries_at h
  have HTL : Hid ((triesL n).length = (smallL n).length) := tries_len n
  have hsm := fun V => small_ n hn1 hn2 V
  obtain ⟨T, hT⟩ : ∃ T, smallL n = T := ⟨_, rfl⟩
  have HT : Hid (∀ r ∈ T, TriIn ls.length r) := fun r hr => by rw [← hls]; rw [← hT] at hr; exact smallL_tri hr
  have hTf : T.length ≤ 1000000 := by rw [← hT]; exact smallL_few hn2
  rw [hT] at HTT HTL ⊢
  obtain ⟨m, hm⟩ : ∃ m, T.length = m := ⟨_, rfl⟩
  have HM : Hid (T.length = m) := hm
  obtain ⟨q, hq⟩ : ∃ q, ls.length = q := ⟨_, rfl⟩
  have HQ : Hid (ls.length = q) := hq
  rw [hm] at hTf HTL
  rw [hq] at hc ⊢
  clear hl hls hT hm hq hE hg
  go_enter Tryd.func14, Tryd.ntmps14
  go_wp2_with (first
    | (go_at_call 13; refine hc.mono ?_; rintro e W0 ⟨rfl, hb0⟩; have H0 := Hid.mk' hb0; clear hb0 hc)
    | (go_at_call 26; refine (hsm _).mono ?_; rintro e W1 ⟨v, rfl, hr, hb⟩; obtain ⟨sa, cs, hv⟩ := hr.form; rw [HTL.out] at hv; subst hv; have H1 : Hid (TriRd W1 (.slice sa m cs) (triesL n) ∧ Below w.heap.size w W1) := ⟨hr.reads, H0.out.trans (hb.mono H0.out.size)⟩; clear hr hb hsm)
    | fail)
  go_loopw [7, 19] (fun po p W => ∃ (vo : Value) (k : Nat), k ≤ m ∧ po = vo ∧ p = .int .i64 (k : Int) ∧ Hid (W.ownsRow W1.heap.size 3 1 vo (fullTo ls T k).length ((fullTo ls T k).map (Value.int .i64)) ∧ Below W1.heap.size W1 W)) (fun _ p _ => m - (intOf p).toNat)
  case atStart => exact ⟨_, 0, by omega, rfl, rfl, World.ownsRow_nil _ _ _ _, Below.refl _ _⟩
  case round =>
    obtain ⟨vo, k, hk, hvo, rfl, HK⟩ := hrel
    obtain ⟨ao, co, hv2⟩ := own_sl HK.out.1
    subst hv2
    subst hvo
    have hfl : (fullTo ls T k).length ≤ k := by
      unfold fullTo
      rw [List.length_map]
      have := List.length_filter_le (fun i => fullR ls (T[i]?.getD [])) (List.range k)
      rwa [List.length_range] at this
    obtain ⟨K, hK⟩ : ∃ K, (fullTo ls T k).length = K := ⟨_, rfl⟩
    have HKK : Hid ((fullTo ls T k).length = K) := hK
    rw [hK] at HK hfl ⊢
    clear hK
    by_cases hkm : k < m
    · have hkl : k < T.length := by rw [HM.out]; exact hkm
      obtain ⟨r, hr⟩ : ∃ r, T[k]? = some r := ⟨_, List.getElem?_eq_getElem hkl⟩
      obtain ⟨x, y, z, hre, hab, hbc, hcl⟩ := HT.out r (List.mem_of_getElem? hr)
      obtain ⟨a1, c1, ea, hx⟩ := H1.out.1.below HK.out.2
      rw [HTL.out] at ea hx
      cases ea
      obtain ⟨g, rfl, hcell⟩ := hx (by omega)
      obtain ⟨d0, d1, d2⟩ := hcell k _ (HTT.out k r hr)
      subst hre
      have HF : Hid (fullR ls (T[k]?.getD []) = fullB ls x y z) := by show _ = _; rw [hr]; rfl
      have hisf := fun V (hV : Below w.heap.size w V) => full_ x y z (.slice al ls.length cl) V (HLS.out.below hV) (by omega) (by omega) hcl
      rw [HQ.out] at hisf
      obtain ⟨f, hf⟩ : ∃ f, fullB ls x y z = f := ⟨_, rfl⟩
      rw [hf] at hisf HF
      unfold aggT at hisf
      dsimp only [triL, List.getElem?_cons_zero, List.getElem?_cons_succ, Option.getD_some] at d0 d1 d2 hisf
      have y0 : (0 : Int) ≤ (k : Int) := by omega
      have y1 : (k : Int) < (m : Int) := by omega
      have hws : W1.heap.size ≤ wr.heap.size := HK.out.2.size
      clear hr hx hcell hf
      go_upto_region 8 with fail
      obtain ⟨c0, c1, c2, hB2, hsz⟩ := box3 wr (.int .i64 (x : Int)) (.int .i64 (y : Int)) (.int .i64 (z : Int)) 36
      obtain ⟨W2, hW2⟩ : ∃ W2, wr.alloc (.cells #[.int .i64 (x : Int), .int .i64 (y : Int), .int .i64 (z : Int)] 36) = W2 := ⟨_, rfl⟩
      rw [hW2] at c0 c1 c2 hB2 hsz ⊢
      have H2 : Hid (W2.ownsRow W1.heap.size 3 1 (.slice ao K co) K ((fullTo ls T k).map (Value.int .i64)) ∧ Below W1.heap.size W1 W2) := ⟨World.ownsRow.kept HK.out.1 (Below.grownBy hB2) (by cases (Value.slice ao K co).ownBlock <;> simp), HK.out.2.trans (hB2.mono hws)⟩
      obtain ⟨rs, hrs⟩ : ∃ rs, wr.heap.size = rs := ⟨_, rfl⟩
      rw [hrs] at c0 c1 c2 ⊢
      clear hW2 hB2 d0 d1 d2 hrs hsz HK hws
      have HB2 : Hid (Below w.heap.size w W2) := H1.out.2.trans (H2.out.2.mono H1.out.2.size)
      have hcall := hisf W2 HB2.out
      clear hisf hkl hcl hab hbc HB2
      cases f with
      | false =>
        go_wp2_with (first
          | (go_at_call 31; refine hcall.mono ?_; rintro e V ⟨rfl, hV⟩; have H9 : Hid (V.ownsRow W1.heap.size 3 1 (.slice ao K co) K ((fullTo ls T k).map (Value.int .i64)) ∧ Below W1.heap.size W1 V) := ⟨World.ownsRow.kept H2.out.1 (Below.grownBy hV) (by cases (Value.slice ao K co).ownBlock <;> simp), H2.out.2.trans (hV.mono H2.out.2.size)⟩; clear hV hcall)
          | fail)
        go_roundw
        case rel =>
          refine ⟨_, k + 1, by omega, rfl, by go_num, ?_, H9.out.2⟩
          rw [fullTo_no HF.out, HKK.out]; exact H9.out.1
        case measure => simp [intOf]; omega
      | true =>
        go_wp2_with (first
          | (go_at_call 31; refine hcall.mono ?_; rintro e V ⟨rfl, hV⟩; have H9 : Hid (V.ownsRow W1.heap.size 3 1 (.slice ao K co) K ((fullTo ls T k).map (Value.int .i64)) ∧ Below W1.heap.size W1 V) := ⟨World.ownsRow.kept H2.out.1 (Below.grownBy hV) (by cases (Value.slice ao K co).ownBlock <;> simp), H2.out.2.trans (hV.mono H2.out.2.size)⟩; have hws : W1.heap.size ≤ V.heap.size := H9.out.2.size; clear hV hcall)
          | (at_builtin; refine wpList_append_own_at _ rfl (.tmp 27) (.tmp 29) 22 rfl W1.heap.size 3 j0 (.int .i64 0) 1 8 Tryd.underlying22 hj0 hy0 hy1 hy2 rfl (by decide) _ K _ rfl (H9.out.1.alloc _) ⟨_, 0, none⟩ 1 1 [.int .i64 (k : Int)] rfl rfl (cells_new _ _ _) (by simp [Value.oneCell']) (by unfold maxLen; omega) (by omega) (by simp; omega) ?_; intro v5 w5 hown5 hg5 hn5 hl5; have H5 := Hid.mk' (And.intro hown5 (And.intro hg5 hl5)); clear hown5 hg5 hn5 hl5)
          | fail)
        go_roundw
        case rel =>
          refine ⟨_, k + 1, by omega, rfl, by go_num, ?_, (H9.out.2.alloc hws _).grown H5.out.2.1 (by simp; omega) (fun b e => (H9.out.1.lt b e).1)⟩
          rw [fullTo_yes HF.out, List.length_append, HKK.out, List.map_append]
          exact H5.out.1
        case measure => simp [intOf]; omega
    · obtain rfl : k = m := by omega
      have HE : Hid (Ints wr (.slice ao K co) (fullL ls T) ∧ Below w.heap.size w wr) := by
        refine ⟨?_, H1.out.2.trans (HK.out.2.mono H1.out.2.size)⟩
        unfold fullL
        rw [HM.out]
        exact slice_of_owns HK.out.1 (fun _ _ _ => trivial)
      go_wp2_with fail
      go_ret2
      exact ⟨_, rfl, HE.out⟩

end Go.Proofs.YtcciinaeplppiaaDoor
