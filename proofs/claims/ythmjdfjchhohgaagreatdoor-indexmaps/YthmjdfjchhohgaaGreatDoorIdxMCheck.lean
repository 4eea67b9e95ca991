/- What slices.DeleteFunc leaves of faces: those that are not to go, in their order. What the function that Fixed hands on tells: that a face is to go which is not taken onto itself. What index.Check, index.Fixed and index.Lefschetz hand on of what open says. -/
import Derived.Test.YthmjdfjchhohgaaGreatDoorIdxDel
import Derived.Test.YthmjdfjchhohgaaGreatDoorIdxMOpen3
namespace Go.Proofs.YthmjdfjchhohgaaGreatDoor
open Go.RowKit Go.Sort

structure DelL (base G cap mb : Nat) (vF : Value) (F : Nat → Int) (p : List Int → Bool) (Z : List FaceH) (w0 W : World) (j : Nat) (us : List Value) : Prop where
  own : W.ownsRow base 23 1 (.slice (some ⟨G, 0, none⟩) Z.length cap) Z.length us
  low : us.take (kpF p Z j).length = (kpF p Z j).map (·.1)
  up : us.drop j = (Z.drop j).map (·.1)
  at_ : DelAt G mb vF F Z W
  bel : Below base w0 W
section
variable {base G cap mb : Nat} {vF : Value} {F : Nat → Int} {p : List Int → Bool} {Z : List FaceH} {w0 W : World} {j : Nat} {us : List Value}
theorem DelL.len (h : DelL base G cap mb vF F p Z w0 W j us) : us.length = Z.length := by have := h.own.1; simpa using this
theorem DelL.cell (h : DelL base G cap mb vF F p Z w0 W j us) (hj : j < Z.length) : W.cell? ⟨G, j, none⟩ = some Z[j].1 := by
  rw [World.ownsRow.cellAt h.own j (by omega)]
  have h1 := congrArg (fun l => l[0]?) h.up
  simp only [List.getElem?_drop, List.getElem?_map, Nat.add_zero] at h1
  rw [h1, List.getElem?_eq_getElem hj]; rfl
theorem DelL.block (h : DelL base G cap mb vF F p Z w0 W j us) : base ≤ G := (World.ownsRow.lt h.own G rfl).1
theorem DelL.in_ (h : DelL base G cap mb vF F p Z w0 W j us) (hj : j < Z.length) (i : Nat) (hi : i ≤ j) : (∃ u, W.cell? ⟨G, i, none⟩ = some u) ∧ W.frozen? ⟨G, i, none⟩ = false := by
  refine ⟨?_, World.ownsRow.frozenAt h.own i⟩
  rw [World.ownsRow.cellAt h.own i (by omega), List.getElem?_eq_getElem (by rw [h.len]; omega)]
  exact ⟨_, rfl⟩
theorem DelL.below (h : DelL base G cap mb vF F p Z w0 W j us) (hb : base ≤ W.heap.size) {W' : World} (hB : Below W.heap.size W W') : DelL base G cap mb vF F p Z w0 W' j us :=
  ⟨World.ownsRow.kept h.own (Below.grownBy hB) (by cases (Value.slice (some ⟨G, 0, none⟩) Z.length cap).ownBlock <;> simp), h.low, h.up, h.at_.below hB, h.bel.trans (hB.mono hb)⟩
theorem DelL.skip (h : DelL base G cap mb vF F p Z w0 W j us) (hj : j < Z.length) (hp : p Z[j].2 = false) : DelL base G cap mb vF F p Z w0 W (j + 1) us := by
  have hk : kpF p Z (j + 1) = kpF p Z j := by rw [kpF_succ hj, hp]; simp
  refine ⟨h.own, by rw [hk]; exact h.low, ?_, h.at_, h.bel⟩
  rw [← List.drop_drop, h.up, ← List.drop_drop]; simp only [List.map_drop]
theorem DelL.keep (h : DelL base G cap mb vF F p Z w0 W j us) (hm : mb ≠ G) (hj : j < Z.length) (hp : p Z[j].2 = true) (hi : (kpF p Z j).length < j) {i : Nat} (hie : (kpF p Z j).length = i) :
    DelL base G cap mb vF F p Z w0 (W.setCell ⟨G, i, none⟩ Z[j].1) (j + 1) (us.set i Z[j].1) ∧ (kpF p Z (j + 1)).length = i + 1 := by
  have hk : kpF p Z (j + 1) = kpF p Z j ++ [Z[j]] := by rw [kpF_succ hj, hp]; simp
  have hl : (kpF p Z (j + 1)).length = i + 1 := by rw [hk, List.length_append, hie]; rfl
  have hul := h.len
  refine ⟨⟨(World.ownsRow.stored h.own i Z[j].1).1, ?_, ?_, h.at_.set hm (fun k hk => Below.heap_setCell _ _ _ k fun e => hk e), h.bel.setCell h.block _⟩, hl⟩
  · rw [hl, List.take_add_one, List.getElem?_set_self (by omega), List.take_set, hk, List.map_append]
    have h1 := h.low
    rw [hie] at h1
    rw [List.set_eq_of_length_le (by rw [List.length_take]; omega), h1]; rfl
  · rw [List.drop_set_of_lt (by omega), ← List.drop_drop, h.up, ← List.drop_drop]; simp only [List.map_drop]
/-- What is left at the end, as rows. -/
theorem DelL.rows (h : DelL base G cap mb vF F p Z w0 W j us) {i : Nat} (hi : (kpF p Z j).length = i) (hn : Z.length ≤ j) (hc : i ≤ cap) {W' : World} (hB : ∀ k, k ≠ G → W'.heap[k]? = W.heap[k]?) (hcell : ∀ x, x < i → W'.cell? ⟨G, x, none⟩ = W.cell? ⟨G, x, none⟩) :
    Rows W' (.slice (some ⟨G, 0, none⟩) i cap) ((Z.filter fun z => p z.2).map (·.2)) := by
  have hk := kpF_all (p := p) hn
  have hlow := h.low
  rw [hi] at hlow
  rw [← hk]
  refine ⟨(kpF p Z j).map (·.1), ⟨some ⟨G, 0, none⟩, cap, by rw [List.length_map, hi], ⟨by rw [List.length_map, hi]; exact hc, fun e => by cases e⟩, fun _ => ⟨G, 0, rfl, trivial, fun k u hu => ?_⟩⟩, by simp, fun k u x hu hx => ?_⟩
  · have hki : k < i := by
      rcases Nat.lt_or_ge k i with h | h
      · exact h
      · rw [List.getElem?_eq_none (by rw [List.length_map, hi]; exact h)] at hu; cases hu
    rw [Nat.zero_add, hcell k hki, World.ownsRow.cellAt h.own k (by have := kpF_le p Z j; have h2 := List.length_filter_le (fun z : FaceH => p z.2) Z; rw [← hk, hi] at h2; omega)]
    rw [← hlow, List.getElem?_take] at hu
    rw [if_pos hki] at hu
    exact hu
  · rw [List.getElem?_map] at hu hx
    rcases hz : (kpF p Z j)[k]? with _ | z
    · rw [hz] at hu; cases hu
    · rw [hz] at hu hx
      cases hu; cases hx
      have hzm : z ∈ Z := by
        have h1 := List.mem_of_getElem? hz
        rw [hk] at h1
        exact (List.mem_filter.1 h1).1
      exact (SliceIn.keep (h.at_.rows z hzm) fun b _ hb => hB b hb).mono fun _ _ _ => trivial
end

theorem Tryz.zeroInts : Tryz.t23.zero = some (.slice none 0 0) := by kernel_rfl
theorem kp_lt_first {p : List Int → Bool} {Z : List FaceH} {i : Nat} (h : FirstGo p Z i) : kpF p Z (i + 1) = Z.take i ∧ (kpF p Z (i + 1)).length = i := by
  obtain ⟨hi, h1, h2⟩ := h
  have e : kpF p Z (i + 1) = Z.take i := by
    rw [kpF_succ hi, h1, kpF_first (fun k hk hki => h2 k hk hki)]
    simp
  refine ⟨e, ?_⟩
  rw [e, List.length_take]
  omega
theorem kpF_step_lt {p : List Int → Bool} {Z : List FaceH} {j : Nat} (hj : j < Z.length) (h : (kpF p Z j).length < j) : (kpF p Z (j + 1)).length < j + 1 := by
  rw [kpF_succ hj, List.length_append]
  split <;> simp <;> omega
theorem filter_none {p : List Int → Bool} {Z : List FaceH} (h : NoneGo p Z) : (Z.filter fun z => p z.2) = Z := List.filter_eq_self.2 fun z hz => by
  obtain ⟨i, hi, rfl⟩ := List.mem_iff_getElem.1 hz
  exact h i hi

set_option maxRecDepth 100000 in
set_option maxHeartbeats 4000000 in
theorem delete_goes {G mb : Nat} {vF : Value} {F : Nat → Int} {p : List Int → Bool} {Z : List FaceH} (cap : Nat) (w0 w : World) (hg : GoesF mb G vF F p Z) (hm : mb ≠ G) (hn : Z.length ≤ 1000) (h0 : w0.heap.size ≤ w.heap.size)
    (hd : DelL w0.heap.size G cap mb vF F p Z w0 w 0 (Z.map (·.1))) :
    Calls Tryz.prog 48 #[.slice (some ⟨G, 0, none⟩) Z.length cap, .func (.func 49) #[] #[.pointer (some ⟨mb, 0, none⟩)]] w fun e w' => ∃ v, e = .returned v ∧ Rows w' v ((Z.filter fun z => p z.2).map (·.2)) ∧ Below w0.heap.size w0 w' := by
  have hcap : Z.length ≤ cap := by
    rcases hd.own.2 with ⟨e, -⟩ | ⟨g, c, cur, e, -, -, h1, -⟩
    · cases e
    · cases e; exact h1
  have hix := index_goes (some ⟨G, 0, none⟩) cap w hg hd.at_ hn (fun k hk => ⟨G, 0, rfl, by
    have h1 := (World.ownsRow.lt hd.own G rfl).2
    exact h1, by
    rw [Nat.zero_add, World.ownsRow.cellAt hd.own k (by omega), List.getElem?_map, List.getElem?_eq_getElem hk]; rfl⟩)
  have HD := Hid.mk' hd
  have HG := Hid.mk' hg
  have HC : Hid (Z.length ≤ cap) := hcap
  have HW0 : Hid (w0.heap.size ≤ w.heap.size) := h0
  obtain ⟨n, hne⟩ : ∃ n, Z.length = n := ⟨_, rfl⟩
  have HN : Hid (Z.length = n) := hne
  have HEND : Hid (∀ W i j us, DelL w0.heap.size G cap mb vF F p Z w0 W j us → (kpF p Z j).length = i → Z.length ≤ j → i < Z.length → Rows (W.setCells G i (List.replicate (Z.length - i) (.slice none 0 0))) (.slice (some ⟨G, 0, none⟩) i cap) ((Z.filter fun z => p z.2).map (·.2)) ∧ Below w0.heap.size w0 (W.setCells G i (List.replicate (Z.length - i) (.slice none 0 0)))) := fun W i j us h h1 h2 h3 =>
    ⟨h.rows h1 h2 (by omega) (fun k hk => cells_heap hk _ _ _) (fun x hx => cells_low _ _ _ hx), Go.below_setCells h.block _ _ _ h.bel⟩
  have HCL : Hid (∀ W i j us, DelL w0.heap.size G cap mb vF F p Z w0 W j us → i < Z.length → ∀ ty, (Builtin.clear_ #[22] ty #[.slice (some ⟨G, i, none⟩) (Z.length - i) (cap - i)]).run Tryz.prog W = .ok (.tuple #[]) (W.setCells G i (List.replicate (Z.length - i) (.slice none 0 0)))) := fun W i j us h hi ty =>
    Lib.run_clear_slice W _ _ ty _ Tryz.underlying22 (fun w => by simp [zeroValue, go_sem, Tryz.zeroInts]) rfl rfl G i _ _ (by omega) (fun t ht => by
      rw [World.ownsRow.cellAt h.own (i + t) (by omega), List.getElem?_eq_getElem (by rw [h.len]; omega)]; rfl) (fun t ht => World.ownsRow.frozenAt h.own _)
  have HNO : Hid (NoneGo p Z → ∀ W, Below w.heap.size w W → Rows W (.slice (some ⟨G, 0, none⟩) Z.length cap) ((Z.filter fun z => p z.2).map (·.2)) ∧ Below w0.heap.size w0 W) := fun hno W hB => by
    have h1 := hd.below h0 hB
    refine ⟨?_, h1.bel⟩
    rw [filter_none hno]
    refine ⟨Z.map (·.1), slice_of_owns h1.own (fun _ _ _ => trivial), by simp, fun k u x hu hx => ?_⟩
    rw [List.getElem?_map] at hu hx
    rcases hz : Z[k]? with _ | z
    · rw [hz] at hu; cases hu
    · rw [hz] at hu hx
      cases hu; cases hx
      exact (h1.at_.rows z (List.mem_of_getElem? hz)).mono fun _ _ _ => trivial
  rw [hne] at hn hix HEND HCL HNO ⊢
  obtain ⟨R, hR⟩ : ∃ R, (Z.filter fun z => p z.2).map (·.2) = R := ⟨_, rfl⟩
  rw [hR] at HEND HNO ⊢
  clear hd hg hcap hne hR h0
  go_enter Tryz.func48, Tryz.ntmps48
  go_wp2_with fail
  refine hix.mono ?_
  clear hix
  rintro e V ⟨hV, ⟨i, rfl, hfi⟩ | ⟨rfl, hno⟩⟩
  · have hin : i < n := by rw [← HN.out]; exact hfi.1
    have HV : Hid (Below w.heap.size w V) := hV
    have HS : Hid (DelL w0.heap.size G cap mb vF F p Z w0 V (i + 1) (Z.map (·.1))) := by
      have h1 := HD.out.below HW0.out hV
      obtain ⟨e1, e2⟩ := kp_lt_first hfi
      exact ⟨h1.own, by rw [e2, e1, List.map_take], by rw [List.map_drop], h1.at_, h1.bel⟩
    have HI : Hid ((kpF p Z (i + 1)).length = i) := (kp_lt_first hfi).2
    have hne1 : ((i : Int) == -1) = false := beq_false_of_ne (by omega)
    clear hV hfi
    go_wp2_with fail
    clear hne1
    go_loopw [5, 6] (fun p' q W => ∃ (i j : Nat) (us : List Value), i < j ∧ j ≤ n ∧ p' = .int .i64 i ∧ q = .int .i64 j ∧ Hid (DelL w0.heap.size G cap mb vF F p Z w0 W j us ∧ (kpF p Z j).length = i ∧ w0.heap.size ≤ W.heap.size)) (fun _ q _ => n - (intOf q).toNat)
    case atStart => exact ⟨i, i + 1, _, by omega, by omega, rfl, by go_num, HS.out, HI.out, Nat.le_trans HW0.out HV.out.size⟩
    case round =>
      obtain ⟨i, j, us, hij, hjn, rfl, rfl, HK⟩ := hrel
      by_cases hlt : j < n
      · have hjz : j < Z.length := by rw [HN.out]; exact hlt
        have c1 := HK.out.1.cell hjz
        have hcall := HG.out wr Z[j] HK.out.1.at_ (List.getElem_mem _)
        have HB : Hid (∀ W', Below wr.heap.size wr W' → DelL w0.heap.size G cap mb vF F p Z w0 W' j us ∧ w0.heap.size ≤ W'.heap.size) := fun W' hB => ⟨HK.out.1.below HK.out.2.2 hB, Nat.le_trans HK.out.2.2 hB.size⟩
        obtain ⟨t, ht⟩ : ∃ t, (!p Z[j].2) = t := ⟨_, rfl⟩
        rw [ht] at hcall
        have HT : Hid (p Z[j].2 = !t) := by show _ = _; rw [← ht]; simp
        have HKE : Hid (∀ W', DelL w0.heap.size G cap mb vF F p Z w0 W' j us → (!t) = true → DelL w0.heap.size G cap mb vF F p Z w0 (W'.setCell ⟨G, i, none⟩ Z[j].1) (j + 1) (us.set i Z[j].1) ∧ (kpF p Z (j + 1)).length = i + 1) := fun W' h ht2 => h.keep hm hjz (HT.out.trans ht2) (by rw [HK.out.2.1]; exact hij) HK.out.2.1
        have HKS : Hid (∀ W', DelL w0.heap.size G cap mb vF F p Z w0 W' j us → (!t) = false → DelL w0.heap.size G cap mb vF F p Z w0 W' (j + 1) us ∧ (kpF p Z (j + 1)).length = i) := fun W' h ht2 => ⟨h.skip hjz (HT.out.trans ht2), by
          have : kpF p Z (j + 1) = kpF p Z j := by rw [kpF_succ hjz, HT.out.trans ht2]; simp
          rw [this, HK.out.2.1]⟩
        obtain ⟨au, cu, hu, -, -⟩ := (HK.out.1.at_.rows Z[j] (List.getElem_mem _)).open_
        rw [hu] at c1 hcall HKE
        obtain ⟨nu, hnu⟩ : ∃ nu, Z[j].2.length = nu := ⟨_, rfl⟩
        rw [hnu] at c1 hcall HKE
        clear hu ht hnu
        go_wp2_with fail
        refine hcall.mono ?_
        clear hcall
        rintro e V2 ⟨rfl, hV2⟩
        have HD2 := Hid.mk' (HB.out V2 hV2)
        clear hV2 HB c1
        cases t
        · have HD3 := Hid.mk' (HKE.out V2 HD2.out.1 rfl)
          obtain ⟨⟨u0, c2⟩, f2⟩ := HD2.out.1.in_ hjz i (by omega)
          have hin2 : i < n := by omega
          go_wp2_with fail
          go_roundw
          case rel => exact ⟨i + 1, j + 1, _, by omega, by omega, by go_num, by go_num, HD3.out.1, HD3.out.2, by simpa using HD2.out.2⟩
          case measure => simp [intOf]; omega
        · have HD3 := Hid.mk' (HKS.out V2 HD2.out.1 rfl)
          go_wp2_with fail
          go_roundw
          case rel => exact ⟨i, j + 1, us, by omega, by omega, rfl, by go_num, HD3.out.1, HD3.out.2, HD2.out.2⟩
          case measure => simp [intOf]; omega
      · obtain rfl : j = n := by omega
        have HE := Hid.mk' (HEND.out wr i j us HK.out.1 HK.out.2.1 (by omega) (by omega))
        have hcl := HCL.out wr i j us HK.out.1 (by omega)
        obtain ⟨W9, hW9⟩ : ∃ W9, wr.setCells G i (List.replicate (j - i) (.slice none 0 0)) = W9 := ⟨_, rfl⟩
        rw [hW9] at HE hcl
        have hjc : j ≤ cap := by have h1 := HC.out; have h2 := HN.out; omega
        clear hW9 HK
        go_wp2_with fail
        go_ret
        exact ⟨_, rfl, HE.out.1, HE.out.2⟩
  · have HE := Hid.mk' (HNO.out hno V hV)
    clear hV hno
    go_wp2_with fail
    go_ret
    exact ⟨_, rfl, HE.out.1, HE.out.2⟩

end Go.Proofs.YthmjdfjchhohgaaGreatDoor

namespace Go.Proofs.YthmjdfjchhohgaaGreatDoor
open Go.RowKit Go.Sort Go.Lib

set_option maxRecDepth 100000 in
set_option maxHeartbeats 1000000 in
theorem goes_fixed {G mb : Nat} {vF : Value} {F : Nat → Int} {Z : List FaceH} (hz : ∀ z ∈ Z, Rising z.2 ∧ z.2 ≠ [] ∧ z.2.length ≤ 7 ∧ ∀ v ∈ z.2, 0 ≤ v ∧ v ≤ 99) : GoesF mb G vF F (fixB fun v => F v.toNat) Z := by
  intro W z hd hm
  obtain ⟨h1, h2, h3, h4⟩ := hz z hm
  have hs := sign_fix vF F z.1 z.2 W (SliceIn.mono (hd.rows z hm) fun _ _ _ => trivial) h3 h2 h4 h1
  obtain ⟨az, cz, hzv, -, -⟩ := (hd.rows z hm).open_
  have hld : (Instr.loadAt 83 (.pointer (some ⟨mb, 0, none⟩))).run Tryz.prog W = .ok (.agg (mapC vF F).toArray) W := by
    simp only [Instr.loadAt, Instr.sureAddr, Sem.run_bind, Sem.run_pure, Result.andThen_ok]
    exact hd.map.load
  have HE : Hid ((sgnF (fun v => F v.toNat) z.2 == 0) = !fixB (fun v => F v.toNat) z.2) := by
    show _ = _
    cases hb : fixB (fun v => F v.toNat) z.2
    · rw [(sgnF_zero _ _).2 hb]; rfl
    · have : ¬ sgnF (fun v => F v.toNat) z.2 = 0 := fun h => by rw [(sgnF_zero _ _).1 h] at hb; cases hb
      exact beq_false_of_ne this
  rw [← HE.out]
  obtain ⟨s, hse⟩ : ∃ s, sgnF (fun v => F v.toNat) z.2 = s := ⟨_, rfl⟩
  rw [hse] at hs ⊢
  obtain ⟨P, hP⟩ : ∃ P, (mapC vF F).toArray = P := ⟨_, rfl⟩
  rw [hP] at hld hs
  rw [hzv] at hs ⊢
  generalize z.2.length = nz at hs ⊢
  clear HE hse hP hzv h1 h2 h3 h4 hd hm hz
  go_enter Tryz.func49, Tryz.ntmps49
  go_wp2_with fail
  refine wp_load_at rfl rfl hld ?_
  go_wp2_with fail
  refine hs.mono ?_
  clear hs
  rintro e V ⟨rfl, hB⟩
  go_wp2_with fail
  go_ret
  exact ⟨rfl, hB⟩

end Go.Proofs.YthmjdfjchhohgaaGreatDoor

namespace Go.Proofs.YthmjdfjchhohgaaGreatDoor
open Go.RowKit Go.Sort Go.Lib

/-- An error of a number, bare or with a place. -/
def ErrIs (a : Nat → Addr) (w : World) (ve : Value) (c p : Int) : Prop :=
  ∃ i : Nat, i < 8 ∧ (i : Int) + 1 = c ∧ ((ve = .iface 233 (.pointer (some (a i))) ∧ p = -1) ∨ FaultAt a w ve i p)
theorem ErrIs.below {a : Nat → Addr} {w w' : World} {ve : Value} {c p : Int} (h : ErrIs a w ve c p) (hB : Below w.heap.size w w') : ErrIs a w' ve c p := by
  obtain ⟨i, h1, h2, h3 | h3⟩ := h
  · exact ⟨i, h1, h2, .inl h3⟩
  · exact ⟨i, h1, h2, .inr (h3.below hB)⟩
theorem ErrIs.form {a : Nat → Addr} {w : World} {ve : Value} {c p : Int} (h : ErrIs a w ve c p) : ∃ t q, ve = .iface t (.pointer q) := by
  obtain ⟨i, h1, h2, ⟨h3, -⟩ | ⟨q, h3, -⟩⟩ := h
  · exact ⟨_, _, h3⟩
  · exact ⟨_, _, h3⟩
/-- What open ends with: an error, or a map. -/
def OpenEnd (a : Nat → Addr) (c p : Int) (F : Nat → Int) (L : List (List Int)) (w : World) (e : Ending) (w' : World) : Prop :=
  Below w.heap.size w w' ∧ ((0 < c ∧ ∃ ve, e = .returned (.tuple #[.agg map0.toArray, ve]) ∧ ErrIs a w' ve c p) ∨ (c = 0 ∧ ∃ v, e = .returned (.tuple #[v, .nilIface]) ∧ MapIs w.heap.size w' v F L))
/-- A mapping is laid in a box of its own. -/
theorem map_boxed {V : World} (au : Option Addr) (n c : Nat) (F : Nat → Int) : ∃ W3, (Go.storeCells ⟨V.heap.size, 0, none⟩ (mapC (.slice au n c) F)).run Tryz.prog (V.alloc (.cells map0.toArray 83)) = .ok () W3 ∧ Below V.heap.size V W3 ∧ MapgAt V.heap.size W3 (.slice au n c) F :=
  ⟨_, (mapgAt_new V (.slice none 0 0) fun _ => 0).storeCells au n c F, below_setRow ((Below.refl _ V).alloc (Nat.le_refl _) _) (Nat.le_refl _), (mapgAt_new V (.slice none 0 0) fun _ => 0).setRow _ F⟩

set_option maxRecDepth 100000 in
set_option maxHeartbeats 1000000 in
theorem check_end {a : Nat → Addr} {c p : Int} {F : Nat → Int} {L : List (List Int)} (va vb vf : Value) (w : World)
    (hop : ∀ W, Below w.heap.size w W → Calls Tryz.prog 45 #[.agg #[va], .agg #[vb], vf] W fun e w' => OpenEnd a c p F L W e w') :
    Calls Tryz.prog 19 #[.agg #[va], .agg #[vb], vf] w fun e w' => Below w.heap.size w w' ∧ ∃ ve, e = .returned ve ∧ ((0 < c ∧ ErrIs a w' ve c p) ∨ (c = 0 ∧ ve = .nilIface)) := by
  obtain ⟨hz, hsz⟩ := zero_of_info (P := Tryz.prog) (t := 83) (v := .agg map0.toArray) (n := 101) (by kernel_rfl)
  have hBa : Below w.heap.size w (w.alloc (.cells #[va] 33)) := (Below.refl _ w).alloc (Nat.le_refl _) _
  have hBb : Below w.heap.size w ((w.alloc (.cells #[va] 33)).alloc (.cells #[vb] 33)) := hBa.alloc hBa.size _
  have HOP := Hid.mk' hop
  have HBB := Hid.mk' hBb
  clear hop hBa hBb
  go_enter Tryz.func19, Tryz.ntmps19
  go_wp2_with fail
  refine (HOP.out _ HBB.out).mono ?_
  rintro e V ⟨hV, ⟨hc, ve, rfl, he⟩ | ⟨hc, v, rfl, B', u, hB', ⟨au, cu, us, rfl, -⟩, rfl⟩⟩
  · obtain ⟨W3, hst, hBV, -⟩ := map_boxed (V := V) none 0 0 (fun _ => 0)
    change (Go.storeCells ⟨V.heap.size, 0, none⟩ map0).run Tryz.prog (V.alloc (.cells map0.toArray 83)) = .ok () W3 at hst
    have hml : map0.length = 101 := mapC_len _ _
    have HE := Hid.mk' (he.below hBV)
    have HB := Hid.mk' ((HBB.out.trans (hV.mono HBB.out.size)).trans (hBV.mono (HBB.out.trans (hV.mono HBB.out.size)).size))
    clear hV hBV he
    go_wp2_with fail
    go_ret
    exact ⟨HB.out, _, rfl, .inl ⟨hc, HE.out⟩⟩
  · obtain ⟨W3, hst, hBV, -⟩ := map_boxed (V := V) au L.length cu F
    have hml : (mapC (.slice au L.length cu) F).length = 101 := mapC_len _ _
    have HB := Hid.mk' ((HBB.out.trans (hV.mono HBB.out.size)).trans (hBV.mono (HBB.out.trans (hV.mono HBB.out.size)).size))
    clear hV hBV hB'
    go_wp2_with fail
    go_ret
    exact ⟨HB.out, _, rfl, .inr ⟨hc, rfl⟩⟩

set_option maxRecDepth 100000 in
set_option maxHeartbeats 1000000 in
theorem lef_err {a : Nat → Addr} {c p : Int} {F : Nat → Int} {L : List (List Int)} (va vf : Value) (w : World) (hc : 0 < c)
    (hop : ∀ W, Below w.heap.size w W → Calls Tryz.prog 45 #[.agg #[va], .agg #[va], vf] W fun e w' => OpenEnd a c p F L W e w') :
    Calls Tryz.prog 20 #[.agg #[va], vf] w fun e w' => Below w.heap.size w w' ∧ ∃ ve, e = .returned (.tuple #[.int .i64 0, ve]) ∧ ErrIs a w' ve c p := by
  obtain ⟨hz, hsz⟩ := zero_of_info (P := Tryz.prog) (t := 83) (v := .agg map0.toArray) (n := 101) (by kernel_rfl)
  have hBa : Below w.heap.size w (w.alloc (.cells #[va] 33)) := (Below.refl _ w).alloc (Nat.le_refl _) _
  have HOP := Hid.mk' hop
  have HBB := Hid.mk' hBa
  clear hop hBa
  go_enter Tryz.func20, Tryz.ntmps20
  go_wp2_with fail
  refine (HOP.out _ HBB.out).mono ?_
  rintro e V ⟨hV, ⟨hc, ve, rfl, he⟩ | ⟨hc2, -⟩⟩
  · obtain ⟨W3, hst, hBV, -⟩ := map_boxed (V := V) none 0 0 (fun _ => 0)
    change (Go.storeCells ⟨V.heap.size, 0, none⟩ map0).run Tryz.prog (V.alloc (.cells map0.toArray 83)) = .ok () W3 at hst
    have hml : map0.length = 101 := mapC_len _ _
    obtain ⟨t, q, rfl⟩ := he.form
    have HE := Hid.mk' (he.below hBV)
    have HB := Hid.mk' ((HBB.out.trans (hV.mono HBB.out.size)).trans (hBV.mono (HBB.out.trans (hV.mono HBB.out.size)).size))
    clear hV hBV he
    go_wp2_with fail
    go_ret2
    exact ⟨HB.out, _, rfl, HE.out⟩
  · omega

set_option maxRecDepth 100000 in
set_option maxHeartbeats 1000000 in
theorem fixed_err {a : Nat → Addr} {c p : Int} {F : Nat → Int} {L : List (List Int)} (va vf : Value) (w : World) (hc : 0 < c)
    (hop : ∀ W, Below w.heap.size w W → Calls Tryz.prog 45 #[.agg #[va], .agg #[va], vf] W fun e w' => OpenEnd a c p F L W e w') :
    Calls Tryz.prog 21 #[.agg #[va], vf] w fun e w' => Below w.heap.size w w' ∧ ∃ ve, e = .returned (.tuple #[.slice none 0 0, ve]) ∧ ErrIs a w' ve c p := by
  obtain ⟨hz, hsz⟩ := zero_of_info (P := Tryz.prog) (t := 83) (v := .agg map0.toArray) (n := 101) (by kernel_rfl)
  have hBa : Below w.heap.size w (w.alloc (.cells #[va] 33)) := (Below.refl _ w).alloc (Nat.le_refl _) _
  have HOP := Hid.mk' hop
  have HBB := Hid.mk' hBa
  clear hop hBa
  go_enter Tryz.func21, Tryz.ntmps21
  go_wp2_with fail
  refine (HOP.out _ HBB.out).mono ?_
  rintro e V ⟨hV, ⟨hc, ve, rfl, he⟩ | ⟨hc2, -⟩⟩
  · obtain ⟨W3, hst, hBV, -⟩ := map_boxed (V := V) none 0 0 (fun _ => 0)
    change (Go.storeCells ⟨V.heap.size, 0, none⟩ map0).run Tryz.prog (V.alloc (.cells map0.toArray 83)) = .ok () W3 at hst
    have hml : map0.length = 101 := mapC_len _ _
    obtain ⟨t, q, rfl⟩ := he.form
    have HE := Hid.mk' (he.below hBV)
    have HB := Hid.mk' ((HBB.out.trans (hV.mono HBB.out.size)).trans (hBV.mono (HBB.out.trans (hV.mono HBB.out.size)).size))
    clear hV hBV he
    go_wp2_with fail
    go_ret2
    exact ⟨HB.out, _, rfl, HE.out⟩
  · omega

end Go.Proofs.YthmjdfjchhohgaaGreatDoor
