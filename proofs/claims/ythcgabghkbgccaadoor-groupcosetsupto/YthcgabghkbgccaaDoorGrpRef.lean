/- The reference's letters, and a group's error. -/
import Derived.Test.YthcgabghkbgccaaDoorGrpCosets
import Derived.BigQuiet
import Derived.Deep.QuietTactic
namespace Go.Proofs.YthcgabghkbgccaaDoor
open Go.RowKit Go.Sort

set_option maxRecDepth 100000 in
set_option maxHeartbeats 2000000 in
theorem letters_ (v : Value) (wss : List (List Int)) (w : World) (h : Rows w v wss) (h1 : wss.length ≤ 1100000) (h2 : wss.flatten.length ≤ 1100000) :
    Calls Tryd.prog 6 #[v] w fun e w' => ∃ u, e = .returned u ∧ Ints w' u wss.flatten ∧ Below w.heap.size w w' := by
  obtain ⟨j0, hj0, hy0, hy1, hy2⟩ := info_parts Tryd.infoi
  have HV := Hid.mk' h
  obtain ⟨av, cv, rfl, hcv, -⟩ := h.open_
  obtain ⟨m, hm⟩ : ∃ m, wss.length = m := ⟨_, rfl⟩
  have HM : Hid (wss.length = m) := hm
  rw [hm] at h1 ⊢
  obtain ⟨tot, ht⟩ : ∃ tot, wss.flatten.length = tot := ⟨_, rfl⟩
  have HT : Hid (wss.flatten.length = tot) := ht
  rw [ht] at h2
  clear h hm ht
  go_enter Tryd.func6, Tryd.ntmps6
  go_wp2_with fail
  go_loopw [3, 4] (fun pv k W => ∃ (u : Value) (kn : Nat), kn ≤ m ∧ pv = u ∧ k = .int .i64 (kn : Int) ∧ Hid (W.ownsRow w.heap.size 3 1 u (wss.take kn).flatten.length ((wss.take kn).flatten.map (Value.int .i64)) ∧ Below w.heap.size w W)) (fun _ k _ => m - (intOf k).toNat)
  case atStart => exact ⟨_, 0, by omega, rfl, rfl, World.ownsRow_nil _ _ _ _, Below.refl _ _⟩
  case round =>
    obtain ⟨u, k, hk, rfl, rfl, HK⟩ := hrel
    obtain ⟨au, cu, hu⟩ := own_one HK.out.1
    obtain ⟨nu, hnu⟩ : ∃ nu, (wss.take k).flatten.length = nu := ⟨_, rfl⟩
    have HNU : Hid ((wss.take k).flatten.length = nu) := hnu
    rw [hnu] at hu
    subst hu
    have hnt : nu ≤ tot := by rw [← hnu, ← HT.out]; exact flat_le wss k
    clear hnu
    by_cases hkn : k < m
    · have hkl : k < wss.length := by rw [HM.out]; exact hkn
      obtain ⟨l, hl⟩ : ∃ l, wss[k]? = some l := ⟨_, List.getElem?_eq_getElem hkl⟩
      obtain ⟨a', c', ea, -, hx⟩ := (HV.out.below HK.out.2).open_
      rw [HM.out] at ea hx
      cases ea
      obtain ⟨b, off, rfl, -, -, hcell⟩ := hx (by omega)
      obtain ⟨a2, c2, ck, hi2⟩ := hcell k hkn
      rw [hl, Option.getD_some] at ck hi2
      have HI2 := Hid.mk' hi2
      have HF := Hid.mk' (flat_take hl)
      have hfl := flat_le wss (k + 1)
      rw [HF.out, List.length_append, HNU.out, HT.out] at hfl
      have HOW : Hid (wr.ownsRow w.heap.size 3 1 (.slice au nu cu) nu ((wss.take k).flatten.map (Value.int .i64))) := by
        have := HK.out.1
        rw [HNU.out] at this
        exact this
      have hws := HK.out.2.size
      obtain ⟨ll, hll⟩ : ∃ ll, l.length = ll := ⟨_, rfl⟩
      have HLL : Hid (l.length = ll) := hll
      have HML : Hid ((l.map (Value.int .i64)).length = ll) := by show _ = _; rw [List.length_map]; exact hll
      rw [hll] at ck hfl HI2
      have z0 : (0 : Int) ≤ (k : Int) := by omega
      have z1 : (k : Int) < (m : Int) := by omega
      clear hl hx hcell hi2 hll
      go_wp2_with (first
        | (at_builtin; refine wpList_append_slice rfl (.tmp 11) (.tmp 15) 27 rfl w.heap.size 3 j0 (.int .i64 0) 8 Tryd.underlying27 hj0 hy0 hy1 hy2 rfl _ nu _ rfl HOW.out _ _ rfl HI2.out (ints_one l) (by rw [HML.out]; omega) (by rw [HML.out]; unfold maxLen; omega) hws ?_; intro v5 w5 hown5 hg5 hl5; have H5 := Hid.mk' (And.intro hown5 hg5); clear hown5 hg5 hl5)
        | fail)
      go_roundw
      case rel =>
        refine ⟨_, k + 1, by omega, rfl, by go_num, ?_, HK.out.2.grown H5.out.2 hws (fun b e => (HOW.out.lt b e).1)⟩
        rw [HF.out, List.length_append, List.map_append, HNU.out, HLL.out]
        have := H5.out.1
        rw [HML.out] at this
        exact this
      case measure => simp [intOf]; omega
    · obtain rfl : k = m := by omega
      have HE : Hid ((wss.take k) = wss) := List.take_of_length_le (by rw [HM.out]; exact Nat.le_refl _)
      go_wp2_with fail
      go_ret
      refine ⟨_, rfl, ?_, HK.out.2⟩
      have := HK.out.1
      rw [HE.out] at this
      exact slice_of_owns this (fun _ _ _ => trivial)

set_option maxRecDepth 100000 in
set_option maxHeartbeats 4000000 in
theorem lettersOfRef_ (n : Nat) (vr v : Value) (l : List Int) (w : World) (h : Ints w v l) (h1 : l.length ≤ 1000) (hn : n ≤ 12) :
    Calls Tryd.prog 14 #[.agg #[.int .i64 (n : Int), vr], v] w fun e w' => e = .returned (.bool (decide (LettersIn n l))) ∧ Below w.heap.size w w' := by
  have hBa : Below w.heap.size w (w.alloc (.cells #[.int .i64 (n : Int), vr] 24)) := (Below.refl _ w).alloc (Nat.le_refl _) _
  have q0 := cells_new w [.int .i64 (n : Int), vr] 24 0 _ rfl
  rw [Addr.add_lit, Nat.zero_add] at q0
  have HV : Hid (Ints (w.alloc (.cells #[.int .i64 (n : Int), vr] 24)) v l) := h.below hBa
  obtain ⟨av, cv, rfl, -, -⟩ := h.open_
  obtain ⟨W0, hW0⟩ : ∃ W0, w.alloc (.cells #[.int .i64 (n : Int), vr] 24) = W0 := ⟨_, rfl⟩
  obtain ⟨gb, hgb⟩ : ∃ gb, w.heap.size = gb := ⟨_, rfl⟩
  rw [show (List.toArray [Value.int .i64 (n : Int), vr]) = #[.int .i64 (n : Int), vr] from rfl, hW0, hgb] at q0
  have HG : Hid (w.alloc (.cells #[.int .i64 (n : Int), vr] 24) = W0 ∧ w.heap.size = gb ∧ Below w.heap.size w W0) := ⟨hW0, hgb, by rw [← hW0]; exact hBa⟩
  rw [hW0] at HV
  obtain ⟨m, hm⟩ : ∃ m, l.length = m := ⟨_, rfl⟩
  have HM : Hid (l.length = m) := hm
  rw [hm] at h1 HV ⊢
  have HDN : Hid (∀ q, Below w.heap.size w (W0.drewN q)) := fun q => ⟨HG.out.2.2.os, HG.out.2.2.tape, HG.out.2.2.output, HG.out.2.2.size, HG.out.2.2.block⟩
  obtain ⟨R, hR⟩ : ∃ R : Bool, decide (LettersIn n l) = R := ⟨_, rfl⟩
  have HR : Hid ((LettersIn n l → R = true) ∧ (¬ LettersIn n l → R = false)) := by
    rw [← hR]
    exact ⟨fun k => decide_eq_true k, fun k => decide_eq_false k⟩
  rw [hR]
  clear h hBa hW0 hgb hm hR
  go_enter Tryd.func14, Tryd.ntmps14
  go_upto_region 1 with fail
  rw [HG.out.1, HG.out.2.1]
  go_wp2_with fail
  go_loopw [5] (fun p W => ∃ k q : Nat, k ≤ m ∧ p = .int .i64 k ∧ W = W0.drewN q ∧ Hid (LettersIn n (l.take k))) (fun p _ => m - (intOf p).toNat)
  case atStart => exact ⟨0, 0, by omega, rfl, rfl, fun x hx => (by simp at hx)⟩
  case round =>
    obtain ⟨k, q, hk, rfl, rfl, HK⟩ := hrel
    by_cases hkn : k < m
    · have hkl : k < l.length := by rw [HM.out]; exact hkn
      obtain ⟨x, hx⟩ : ∃ x, l[k]? = some x := ⟨_, List.getElem?_eq_getElem hkl⟩
      have hxm : x ∈ l := List.mem_of_getElem? hx
      have htj : l.take (k + 1) = l.take k ++ [x] := by rw [List.take_add_one, hx]; rfl
      obtain ⟨a3, c3, ea, -, hy⟩ := HV.out.open_
      rw [HM.out] at ea hy
      cases ea
      obtain ⟨b3, off3, rfl, -, -, hcell3⟩ := hy (by omega)
      have cj := hcell3 k hkn
      rw [hx, Option.getD_some] at cj
      have HXM := Hid.mk' hxm
      have HTJ := Hid.mk' htj
      have y0 : (0 : Int) ≤ (k : Int) := by omega
      have y1 : (k : Int) < (m : Int) := by omega
      clear hx hxm htj hy hcell3
      by_cases e0 : x = 0
      · have HBAD : Hid (R = false) := HR.out.2 fun hall => (hall x HXM.out).1 e0
        subst e0
        go_wp2_with fail
        go_quiet (fail)
        go_wp2
        go_ret
        exact ⟨by rw [HBAD.out]; rfl, by rw [World.drewN_drewN]; exact HDN.out _⟩
      · have hb0 : (x == 0) = false := beq_false_of_ne e0
        by_cases e2 : (n : Int) < x
        · have HBAD : Hid (R = false) := HR.out.2 fun hall => by have := (hall x HXM.out).2.2; omega
          have hd : decide ((n : Int) < x) = true := decide_eq_true e2
          go_wp2_with fail
          go_quiet (fail)
          go_wp2
          go_ret
          exact ⟨by rw [HBAD.out]; rfl, by rw [World.drewN_drewN]; exact HDN.out _⟩
        · have hd : decide ((n : Int) < x) = false := decide_eq_false e2
          by_cases e1 : x < -(n : Int)
          · have HBAD : Hid (R = false) := HR.out.2 fun hall => by have := (hall x HXM.out).2.1; omega
            have hd2 : decide (x < -(n : Int)) = true := decide_eq_true e1
            go_wp2_with fail
            go_quiet (fail)
            go_wp2
            go_ret
            exact ⟨by rw [HBAD.out]; rfl, by rw [World.drewN_drewN]; exact HDN.out _⟩
          · have hd2 : decide (x < -(n : Int)) = false := decide_eq_false e1
            go_wp2_with fail
            go_quiet (fail)
            go_wp2
            go_roundw
            case rel =>
              refine ⟨k + 1, q + nq, by omega, by go_num, rfl, ?_⟩
              show LettersIn n (l.take (k + 1))
              rw [HTJ.out]
              intro y hy
              rcases List.mem_append.1 hy with hy | hy
              · exact HK.out y hy
              · rw [List.mem_singleton.1 hy]; exact ⟨e0, by omega, by omega⟩
            case measure => simp [intOf]; omega
    · obtain rfl : k = m := by omega
      have HE : Hid (R = true) := HR.out.1 (by
        have := HK.out
        rw [List.take_of_length_le (by rw [HM.out]; exact Nat.le_refl _)] at this
        exact this)
      go_wp2
      go_ret
      exact ⟨by rw [HE.out]; rfl, HDN.out _⟩

end Go.Proofs.YthcgabghkbgccaaDoor
