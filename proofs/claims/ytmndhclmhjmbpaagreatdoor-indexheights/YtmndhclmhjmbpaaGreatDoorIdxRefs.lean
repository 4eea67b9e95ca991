/- What the reference says of heights: HeightsError, HighOf. -/
import Derived.Test.YtmndhclmhjmbpaaGreatDoorIdxLawW
namespace Go.Proofs.YtmndhclmhjmbpaaGreatDoor
open Go.RowKit Go.Sort Go.Lib

theorem ints_cells {w : World} {a : Option Addr} {c : Nat} {h : List Int} (hh : Ints w (.slice a h.length c) h) :
    ∀ k, k < h.length → ∃ b o, a = some ⟨b, o, none⟩ ∧ b < w.heap.size ∧ w.cell? ⟨b, o + k, none⟩ = some (.int .i64 (h[k]?.getD 0)) := fun k hk => by
  obtain ⟨a1, c1, e1, -, hc⟩ := hh.open_
  obtain ⟨rfl, rfl⟩ : a = a1 ∧ c = c1 := by simpa using e1
  obtain ⟨b, o, rfl, -, hb, c2⟩ := hc (by omega)
  exact ⟨b, o, rfl, hb, c2 k hk⟩

theorem take_nodupD {h : List Int} {k : Nat} (hk : k < h.length) : (h.take (k + 1)).Nodup ↔ (h.take k).Nodup ∧ ∀ j, j < k → h[j]?.getD 0 ≠ h[k]?.getD 0 := by
  rw [List.take_add_one, List.getElem?_eq_getElem hk, Option.getD_some]
  show (h.take k ++ [h[k]]).Nodup ↔ _
  rw [List.nodup_append]
  constructor
  · intro ⟨h1, _, h2⟩
    refine ⟨h1, fun j hj => ?_⟩
    rw [List.getElem?_eq_getElem (by omega), Option.getD_some]
    exact h2 _ (List.mem_take_iff_getElem.2 ⟨j, by omega, rfl⟩) _ (by simp)
  · intro ⟨h1, h2⟩
    refine ⟨h1, by simp, fun x hx y hy => ?_⟩
    obtain ⟨j, hj, rfl⟩ := List.mem_take_iff_getElem.1 hx
    have := h2 j (by omega)
    rw [List.getElem?_eq_getElem (by omega), Option.getD_some] at this
    simp at hy
    subst hy
    exact this

set_option maxRecDepth 100000 in
set_option maxHeartbeats 2000000 in
theorem heights_err (va vh : Value) (all : List (List Int)) (h : List Int) (w : World) (ha : Rows w va all) (hl : all.length ≤ 1000) (hh : Ints w vh h) (hhl : h.length ≤ 1000) :
    Calls Tryz.prog 27 #[va, vh] w fun e w' => (∃ c : Int, e = .returned (.int .i64 c) ∧ ((c = 0 ∧ HOk (vertI all) h) ∨ (c = 3 ∧ ¬ HOk (vertI all) h))) ∧ Below w.heap.size w w' := by
  have hv := vertices_ va all w ha hl
  have hh0 := hh
  obtain ⟨ah, ch, rfl, -, -⟩ := hh.open_
  have HC : Hid (∀ k, k < h.length → ∃ b o, ah = some ⟨b, o, none⟩ ∧ b < w.heap.size ∧ w.cell? ⟨b, o + k, none⟩ = some (.int .i64 (h[k]?.getD 0))) := ints_cells hh0
  obtain ⟨V, hV⟩ : ∃ V, vertI all = V := ⟨_, rfl⟩
  rw [hV] at hv ⊢
  have HVC : Hid (Calls Tryz.prog 32 #[va] w fun e w' => ∃ av cv, e = .returned (.slice av V.length cv) ∧ Below w.heap.size w w') := hv.mono fun e w' ⟨v, h1, h2, h3⟩ => by
    obtain ⟨av, cv, rfl, -, -⟩ := h2.open_
    exact ⟨av, cv, h1, h3⟩
  clear hv ha hh hh0 hV
  obtain ⟨n, hn⟩ : ∃ n, h.length = n := ⟨_, rfl⟩
  have HN : Hid (h.length = n) := hn
  by_cases hne : h.length = V.length
  case neg =>
    have HNE : Hid (¬ HOk V h) := fun hc => hne hc.1
    obtain ⟨m, hm⟩ : ∃ m, V.length = m := ⟨_, rfl⟩
    have hbb : ((m : Int) != (n : Int)) = true := bne_iff_ne.2 (by omega)
    rw [hm] at HVC
    rw [hn]
    clear hne hn hm
    go_enter Tryz.func27, Tryz.ntmps27
    go_wp2_with fail
    refine HVC.out.mono ?_
    rintro e V1 ⟨av, cv, rfl, hB⟩
    have HB : Hid (Below w.heap.size w V1) := hB
    clear hB
    go_wp2_with fail
    go_ret
    exact ⟨⟨3, rfl, .inr ⟨rfl, HNE.out⟩⟩, HB.out⟩
  have HL : Hid (h.length = V.length) := hne
  rw [← hne, hn] at HVC
  rw [hn] at HC hhl ⊢
  clear hne hn
  go_enter Tryz.func27, Tryz.ntmps27
  go_wp2_with fail
  refine HVC.out.mono ?_
  rintro e V1 ⟨av, cv, rfl, hB⟩
  have HB : Hid (Below w.heap.size w V1) := hB
  clear hB HVC
  go_wp2_with fail
  go_loopw [5] (fun p W => ∃ k : Nat, k ≤ n ∧ p = .int .i64 k ∧ Hid ((∀ x ∈ h.take k, -1048576 ≤ x ∧ x ≤ 1048576) ∧ (h.take k).Nodup) ∧ Hid (Below w.heap.size w W)) (fun p _ => n - (intOf p).toNat)
  case atStart => exact ⟨0, by omega, rfl, ⟨by simp, by simp⟩, HB⟩
  case round =>
    obtain ⟨k, hk, rfl, HK, HB⟩ := hrel
    by_cases hlt : k < n
    · obtain ⟨b, o, rfl, hb, g0⟩ := HC.out k hlt
      have g1 := (HB.out.cell (p := ⟨b, o + k, none⟩) hb).trans g0
      obtain ⟨x, hx⟩ : ∃ x, h[k]?.getD 0 = x := ⟨_, rfl⟩
      rw [hx] at g1 g0
      have HX : Hid (h[k]?.getD 0 = x) := hx
      have HXM : Hid (x ∈ h) := by
        show x ∈ h
        rw [← hx, List.getElem?_eq_getElem (by rw [HN.out]; exact hlt), Option.getD_some]
        exact List.getElem_mem _
      clear hx
      by_cases hg : 1048576 < x
      · have HNO : Hid (¬ HOk V h) := fun hc => by have := hc.2.1 x HXM.out; omega
        have hd1 : decide (1048576 < x) = true := decide_eq_true hg
        go_wp2_with fail
        go_ret
        exact ⟨⟨3, rfl, .inr ⟨rfl, HNO.out⟩⟩, HB.out⟩
      have hd1 : decide (1048576 < x) = false := decide_eq_false hg
      by_cases hs : x < -1048576
      · have HNO : Hid (¬ HOk V h) := fun hc => by have := hc.2.1 x HXM.out; omega
        have hd2 : decide (x < -1048576) = true := decide_eq_true hs
        go_wp2_with fail
        go_ret
        exact ⟨⟨3, rfl, .inr ⟨rfl, HNO.out⟩⟩, HB.out⟩
      have hd2 : decide (x < -1048576) = false := decide_eq_false hs
      have HXB : Hid (-1048576 ≤ x ∧ x ≤ 1048576) := by show _ ∧ _; omega
      go_wp2_with fail
      go_loopw [6] (fun p W => ∃ j : Nat, j ≤ k ∧ p = .int .i64 j ∧ Hid (∀ i, i < j → h[i]?.getD 0 ≠ x) ∧ Hid (Below w.heap.size w W)) (fun p _ => k - (intOf p).toNat)
      case atStart => exact ⟨0, by omega, rfl, fun i hi => by omega, HB⟩
      case round =>
        clear HB g1
        obtain ⟨j, hj, rfl, HJ, HB⟩ := hrel
        have g1 := (HB.out.cell (p := ⟨b, o + k, none⟩) hb).trans g0
        by_cases hjl : j < k
        · obtain ⟨b2, o2, e2, -, g2⟩ := HC.out j (by omega)
          obtain ⟨rfl, rfl⟩ : b = b2 ∧ o = o2 := by simpa using e2
          have g3 := (HB.out.cell (p := ⟨b, o + j, none⟩) hb).trans g2
          obtain ⟨y, hy⟩ : ∃ y, h[j]?.getD 0 = y := ⟨_, rfl⟩
          rw [hy] at g3
          have HY : Hid (h[j]?.getD 0 = y) := hy
          clear g2 hy e2
          by_cases he : x = y
          · have HNO : Hid (¬ HOk V h) := fun hc => by
              have h1 : (h.take (k + 1)).Nodup := (List.take_sublist _ _).nodup hc.2.2
              exact ((take_nodupD (by rw [HN.out]; exact hlt)).1 h1).2 j hjl (by rw [HY.out, HX.out, he])
            subst he
            go_wp2_with fail
            go_region
            go_wp2_with fail
            go_ret
            exact ⟨⟨3, rfl, .inr ⟨rfl, HNO.out⟩⟩, HB.out.drew⟩
          · have heb : (x == y) = false := beq_false_of_ne he
            go_wp2_with fail
            go_region
            go_wp2_with fail
            go_roundw
            case rel => exact ⟨j + 1, by omega, by go_num, fun i hi => by
              rcases Nat.lt_or_ge i j with h1 | h1
              · exact HJ.out i h1
              · obtain rfl : i = j := by omega
                rw [HY.out]; exact fun e => he e.symm, HB.out.drew⟩
            case measure => simp [intOf]; omega
        · obtain rfl : j = k := by omega
          go_wp2_with fail
          go_roundw
          case rel => exact ⟨j + 1, by omega, by go_num, ⟨fun y hy => by
            rw [List.take_add_one, List.getElem?_eq_getElem (by rw [HN.out]; exact hlt)] at hy
            rcases List.mem_append.1 hy with h1 | h1
            · exact HK.out.1 y h1
            · have e := HX.out
              rw [List.getElem?_eq_getElem (by rw [HN.out]; exact hlt), Option.getD_some] at e
              simp at h1
              rw [h1, e]; exact HXB.out, (take_nodupD (by rw [HN.out]; exact hlt)).2 ⟨HK.out.2, fun i hi => by rw [HX.out]; exact HJ.out i hi⟩⟩, by first | trivial | rfl⟩
          case measure => simp [intOf]; omega
    · obtain rfl : k = n := by omega
      have HOKK : Hid (HOk V h) := by
        have := HK.out
        rw [← HN.out, List.take_length] at this
        exact ⟨HL.out, this.1, this.2⟩
      go_wp2_with fail
      go_ret
      exact ⟨⟨0, rfl, .inl ⟨rfl, HOKK.out⟩⟩, HB.out⟩

set_option maxRecDepth 100000 in
set_option maxHeartbeats 2000000 in
theorem high_of (va vh : Value) (all : List (List Int)) (h : List Int) (v : Int) (w : World) (ha : Rows w va all) (hl : all.length ≤ 1000) (hh : Ints w vh h) (hhl : h.length ≤ 1000) (hlen : h.length = (vertI all).length) (hnd : (vertI all).Nodup) :
    Calls Tryz.prog 34 #[va, vh, .int .i64 v] w fun e w' => e = .returned (.int .i64 (hiF (vertI all) h v)) ∧ Below w.heap.size w w' := by
  have hv := vertices_ va all w ha hl
  have hh0 := hh
  obtain ⟨ah, ch, rfl, -, -⟩ := hh.open_
  have HC : Hid (∀ k, k < h.length → ∃ b o, ah = some ⟨b, o, none⟩ ∧ b < w.heap.size ∧ w.cell? ⟨b, o + k, none⟩ = some (.int .i64 (h[k]?.getD 0))) := ints_cells hh0
  obtain ⟨V, hV⟩ : ∃ V, vertI all = V := ⟨_, rfl⟩
  rw [hV] at hv hlen hnd ⊢
  obtain ⟨n, hn⟩ : ∃ n, h.length = n := ⟨_, rfl⟩
  have HVC : Hid (Calls Tryz.prog 32 #[va] w fun e w' => ∃ av cv, e = .returned (.slice av n cv) ∧ (∀ k, k < n → ∃ b o, av = some ⟨b, o, none⟩ ∧ b < w'.heap.size ∧ w'.cell? ⟨b, o + k, none⟩ = some (.int .i64 (V[k]?.getD 0))) ∧ Below w.heap.size w w') := hv.mono fun e w' ⟨v, h1, h2, h3⟩ => by
    have h4 := h2.any
    obtain ⟨av, cv, rfl, -, -⟩ := h2.open_
    have h5 := ints_cells h4
    rw [← hlen, hn] at h1 h5
    exact ⟨av, cv, h1, h5, h3⟩
  have HN : Hid (V.length = n ∧ V.Nodup) := ⟨by omega, hnd⟩
  rw [hn] at HC hhl ⊢
  clear hv ha hh hh0 hV hlen hnd hn
  go_enter Tryz.func34, Tryz.ntmps34
  go_wp2_with fail
  refine HVC.out.mono ?_
  rintro e V1 ⟨av, cv, rfl, hvc, hB⟩
  have HB : Hid (Below w.heap.size w V1) := hB
  have HVV : Hid (∀ k, k < n → ∃ b o, av = some ⟨b, o, none⟩ ∧ b < V1.heap.size ∧ V1.cell? ⟨b, o + k, none⟩ = some (.int .i64 (V[k]?.getD 0))) := hvc
  clear hB HVC hvc
  go_wp2_with fail
  go_loopw [8] (fun p W => ∃ k : Nat, k ≤ n ∧ p = .int .i64 k ∧ Hid (v ∉ V.take k) ∧ W = V1) (fun p _ => n - (intOf p).toNat)
  case atStart => exact ⟨0, by omega, rfl, by show v ∉ _; simp, rfl⟩
  case round =>
    obtain ⟨k, hk, rfl, HK, rfl⟩ := hrel
    by_cases hlt : k < n
    · obtain ⟨b, o, rfl, hb, g1⟩ := HVV.out k hlt
      obtain ⟨bh, oh, rfl, hbh, g2⟩ := HC.out k hlt
      have g3 := (HB.out.cell (p := ⟨bh, oh + k, none⟩) hbh).trans g2
      have HA := Hid.mk' (hiF_at (h := h) HN.out.2 (i := k) (by rw [HN.out.1]; exact hlt))
      have HT : Hid (V.take (k + 1) = V.take k ++ [V[k]?.getD 0]) := by
        show _ = _
        rw [List.take_add_one, List.getElem?_eq_getElem (by rw [HN.out.1]; exact hlt)]; rfl
      have HVK : Hid (V[k]?.getD 0 = V[k]'(by rw [HN.out.1]; exact hlt)) := by
        show _ = _
        rw [List.getElem?_eq_getElem (by rw [HN.out.1]; exact hlt)]; rfl
      obtain ⟨x, hx⟩ : ∃ x, V[k]?.getD 0 = x := ⟨_, rfl⟩
      obtain ⟨y, hy⟩ : ∃ y, h[k]?.getD 0 = y := ⟨_, rfl⟩
      rw [hx] at g1 HT HVK
      rw [hy] at g3 HA
      rw [← HVK.out] at HA
      clear g2 hx hy HVK
      by_cases he : x = v
      · subst he
        go_wp2_with fail
        go_ret
        refine ⟨?_, HB.out⟩
        rw [HA.out]
        try rfl
      · have heb : (x == v) = false := beq_false_of_ne he
        clear HA
        go_wp2_with fail
        go_roundw
        case rel => exact ⟨k + 1, by omega, by go_num, by
          show v ∉ _
          rw [HT.out, List.mem_append, List.mem_singleton]
          exact fun hc => hc.elim HK.out fun e => he e.symm, by first | trivial | rfl⟩
        case measure => simp [intOf]; omega
    · obtain rfl : k = n := by omega
      have h0 : hiF V h v = 0 := by
        have := HK.out
        rw [← HN.out.1, List.take_length] at this
        unfold hiF; rw [if_neg this]
      have H0 := Hid.mk' h0
      clear h0
      go_wp2_with fail
      go_ret
      refine ⟨?_, HB.out⟩
      rw [H0.out]
      try rfl

end Go.Proofs.YtmndhclmhjmbpaaGreatDoor
