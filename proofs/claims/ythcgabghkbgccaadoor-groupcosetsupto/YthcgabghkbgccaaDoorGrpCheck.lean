/- What check and Valid answer of words that are not too many. -/
import Derived.Test.YthcgabghkbgccaaDoorGrpTable
namespace Go.Proofs.YthcgabghkbgccaaDoor
open Go.RowKit Go.Sort

theorem flat_take {wss : List (List Int)} {k : Nat} {l : List Int} (h : wss[k]? = some l) : (wss.take (k + 1)).flatten = (wss.take k).flatten ++ l := by
  rw [List.take_add_one, h]
  simp
theorem flat_le (wss : List (List Int)) (k : Nat) : (wss.take k).flatten.length ≤ wss.flatten.length := by
  have : wss.flatten = (wss.take k).flatten ++ (wss.drop k).flatten := by rw [← List.flatten_append, List.take_append_drop]
  rw [this, List.length_append]
  omega

set_option maxRecDepth 100000 in
set_option maxHeartbeats 2000000 in
theorem lettersOf_ (v : Value) (wss : List (List Int)) (w : World) (h : Rows w v wss) (h1 : wss.length ≤ 1000) (h2 : wss.flatten.length ≤ 1000) :
    Calls Tryd.prog 30 #[v] w fun e w' => e = .returned (.int .i64 (wss.flatten.length : Int)) ∧ w' = w := by
  have HV := Hid.mk' h
  obtain ⟨av, cv, rfl, hcv, -⟩ := h.open_
  obtain ⟨m, hm⟩ : ∃ m, wss.length = m := ⟨_, rfl⟩
  have HM : Hid (wss.length = m) := hm
  rw [hm] at h1 ⊢
  obtain ⟨tot, ht⟩ : ∃ tot, wss.flatten.length = tot := ⟨_, rfl⟩
  have HT : Hid (wss.flatten.length = tot) := ht
  rw [ht] at h2 ⊢
  clear h hm ht
  go_enter Tryd.func30, Tryd.ntmps30
  go_wp2_with fail
  go_loopw [3, 8] (fun q k W => ∃ (kn a : Nat), kn ≤ m ∧ a ≤ tot ∧ q = .int .i64 (a : Int) ∧ k = .int .i64 (kn : Int) ∧ Hid ((wss.take kn).flatten.length = a) ∧ W = w) (fun _ k _ => m - (intOf k).toNat)
  case atStart => exact ⟨0, 0, by omega, by omega, rfl, rfl, rfl, rfl⟩
  case round =>
    obtain ⟨k, a, hk, hat, rfl, rfl, HA, rfl⟩ := hrel
    by_cases hkn : k < m
    · have hkl : k < wss.length := by rw [HM.out]; exact hkn
      obtain ⟨l, hl⟩ : ∃ l, wss[k]? = some l := ⟨_, List.getElem?_eq_getElem hkl⟩
      obtain ⟨a', c', ea, -, hx⟩ := HV.out.open_
      rw [HM.out] at ea hx
      cases ea
      obtain ⟨b, off, rfl, -, -, hcell⟩ := hx (by omega)
      obtain ⟨a2, c2, ck, hi2⟩ := hcell k hkn
      rw [hl, Option.getD_some] at ck
      have HF := Hid.mk' (flat_take hl)
      have hfl := flat_le wss (k + 1)
      rw [HF.out, List.length_append, HA.out, HT.out] at hfl
      obtain ⟨ll, hll⟩ : ∃ ll, l.length = ll := ⟨_, rfl⟩
      have HLL : Hid (l.length = ll) := hll
      rw [hll] at ck hfl
      have z0 : (0 : Int) ≤ (k : Int) := by omega
      have z1 : (k : Int) < (m : Int) := by omega
      clear hl hx hcell hi2 hll
      go_wp2_with fail
      go_roundw
      case rel => exact ⟨k + 1, a + ll, by omega, by omega, by go_num, by go_num, by show _ = _; rw [HF.out, List.length_append, HA.out, HLL.out], trivial⟩
      case measure => simp [intOf]; omega
    · obtain rfl : k = m := by omega
      have HE : Hid (a = tot) := by
        have := HA.out
        rw [List.take_of_length_le (by rw [HM.out]; exact Nat.le_refl _), HT.out] at this
        exact this.symm
      go_wp2_with fail
      go_ret
      exact ⟨by rw [HE.out]; rfl, rfl⟩

/-- What check answers. -/
def chkV (ok : Prop) [Decidable ok] (ev : Value) : Value := if ok then .nilIface else ev

instance letDec (n : Nat) (w : List Int) : Decidable (LettersIn n w) := by unfold LettersIn; infer_instance

set_option maxRecDepth 100000 in
set_option maxHeartbeats 4000000 in
theorem check_ {a : Nat → Addr} {sx : Nat → ByteArray} (n : Nat) (v : Value) (wss : List (List Int)) (w : World) (hE : Errs a sx w) (h : Rows w v wss) (h1 : wss.length ≤ 400) (h2 : wss.flatten.length ≤ 400) (hn : n ≤ 12) :
    Calls Tryd.prog 19 #[v, .int .i64 (n : Int)] w fun e w' => e = .returned (chkV (∀ ws ∈ wss, LettersIn n ws) (.iface 123 (.pointer (some (a 2))))) ∧ w' = w := by
  have HV := Hid.mk' h
  have hlo := lettersOf_ v wss w h (by omega) (by omega)
  have g2 := hE.glob 2 (by simp)
  rw [show gl 2 = 1 from rfl] at g2
  obtain ⟨av, cv, rfl, hcv, -⟩ := h.open_
  obtain ⟨m, hm⟩ : ∃ m, wss.length = m := ⟨_, rfl⟩
  have HM : Hid (wss.length = m) := hm
  rw [hm] at h1 hlo ⊢
  obtain ⟨tot, ht⟩ : ∃ tot, wss.flatten.length = tot := ⟨_, rfl⟩
  have HT : Hid (wss.flatten.length = tot) := ht
  rw [ht] at h2 hlo
  obtain ⟨R, hR⟩ : ∃ R, chkV (∀ ws ∈ wss, LettersIn n ws) (.iface 123 (.pointer (some (a 2)))) = R := ⟨_, rfl⟩
  have HR : Hid (((∀ ws ∈ wss, LettersIn n ws) → R = .nilIface) ∧ (¬ (∀ ws ∈ wss, LettersIn n ws) → R = .iface 123 (.pointer (some (a 2))))) := by
    rw [← hR]
    unfold chkV
    exact ⟨fun k => if_pos k, fun k => if_neg k⟩
  rw [hR]
  clear h hm ht hR hE
  go_enter Tryd.func19, Tryd.ntmps19
  go_wp2_with (first
    | (go_at_call 30; refine hlo.mono ?_; rintro e V ⟨rfl, rfl⟩; clear hlo)
    | fail)
  go_loopw [20] (fun k W => ∃ kn : Nat, kn ≤ m ∧ k = .int .i64 (kn : Int) ∧ Hid (∀ ws ∈ wss.take kn, LettersIn n ws) ∧ W = V) (fun k _ => m - (intOf k).toNat)
  case atStart => exact ⟨0, by omega, rfl, fun ws hws => (by simp at hws), rfl⟩
  case round =>
    obtain ⟨k, hk, rfl, HA, rfl⟩ := hrel
    by_cases hkn : k < m
    · have hkl : k < wss.length := by rw [HM.out]; exact hkn
      obtain ⟨l, hl⟩ : ∃ l, wss[k]? = some l := ⟨_, List.getElem?_eq_getElem hkl⟩
      have hlm : l ∈ wss := List.mem_of_getElem? hl
      have htk : wss.take (k + 1) = wss.take k ++ [l] := by rw [List.take_add_one, hl]; rfl
      have hfl := flat_le wss (k + 1)
      rw [flat_take hl, List.length_append, HT.out] at hfl
      obtain ⟨a', c', ea, -, hx⟩ := HV.out.open_
      rw [HM.out] at ea hx
      cases ea
      obtain ⟨b, off, rfl, -, -, hcell⟩ := hx (by omega)
      obtain ⟨a2, c2, ck, hi2⟩ := hcell k hkn
      rw [hl, Option.getD_some] at ck hi2
      have HI2 := Hid.mk' hi2
      have HTK := Hid.mk' htk
      have HLM := Hid.mk' hlm
      obtain ⟨ll, hll⟩ : ∃ ll, l.length = ll := ⟨_, rfl⟩
      have HLL : Hid (l.length = ll) := hll
      rw [hll] at ck hfl
      have z0 : (0 : Int) ≤ (k : Int) := by omega
      have z1 : (k : Int) < (m : Int) := by omega
      clear hl hx hcell hi2 hll hlm htk
      go_wp2_with fail
      go_loopw [26] (fun q W => ∃ jn : Nat, jn ≤ ll ∧ q = .int .i64 (jn : Int) ∧ Hid (LettersIn n (l.take jn)) ∧ W = wr) (fun q _ => ll - (intOf q).toNat)
      case atStart => exact ⟨0, by omega, rfl, fun x hx => (by simp at hx), rfl⟩
      case round =>
        obtain ⟨j, hj, rfl, HJ, rfl⟩ := hrel
        by_cases hjn : j < ll
        · have hjl : j < l.length := by rw [HLL.out]; exact hjn
          obtain ⟨x, hx⟩ : ∃ x, l[j]? = some x := ⟨_, List.getElem?_eq_getElem hjl⟩
          have hxm : x ∈ l := List.mem_of_getElem? hx
          have htj : l.take (j + 1) = l.take j ++ [x] := by rw [List.take_add_one, hx]; rfl
          obtain ⟨a3, c3, ea, -, hy⟩ := HI2.out.open_
          rw [HLL.out] at ea hy
          cases ea
          obtain ⟨b3, off3, rfl, -, -, hcell3⟩ := hy (by omega)
          have cj := hcell3 j hjn
          rw [hx, Option.getD_some] at cj
          have HXM := Hid.mk' hxm
          have HTJ := Hid.mk' htj
          have y0 : (0 : Int) ≤ (j : Int) := by omega
          have y1 : (j : Int) < (ll : Int) := by omega
          clear hx hxm htj hy hcell3
          by_cases e0 : x = 0
          · subst e0
            have HBAD : Hid (R = .iface 123 (.pointer (some (a 2)))) := HR.out.2 fun hall => ((hall l HLM.out) 0 HXM.out).1 rfl
            go_wp2_with fail
            go_ret
            exact ⟨by rw [HBAD.out]; rfl, rfl⟩
          · have hb0 : (x == 0) = false := beq_false_of_ne e0
            by_cases e1 : x < -(n : Int)
            · have HBAD : Hid (R = .iface 123 (.pointer (some (a 2)))) := HR.out.2 fun hall => by have := ((hall l HLM.out) x HXM.out).2.1; omega
              go_wp2_with fail
              go_ret
              exact ⟨by rw [HBAD.out]; rfl, rfl⟩
            · by_cases e2 : (n : Int) < x
              · have HBAD : Hid (R = .iface 123 (.pointer (some (a 2)))) := HR.out.2 fun hall => by have := ((hall l HLM.out) x HXM.out).2.2; omega
                go_wp2_with fail
                go_ret
                exact ⟨by rw [HBAD.out]; rfl, rfl⟩
              · go_wp2_with fail
                go_roundw
                case rel =>
                  refine ⟨j + 1, by omega, by go_num, ?_, trivial⟩
                  show LettersIn n (l.take (j + 1))
                  rw [HTJ.out]
                  intro y hy
                  rcases List.mem_append.1 hy with hy | hy
                  · exact HJ.out y hy
                  · rw [List.mem_singleton.1 hy]; exact ⟨e0, by omega, by omega⟩
                case measure => simp [intOf]; omega
        · obtain rfl : j = ll := by omega
          have HJL : Hid (LettersIn n l) := by
            have := HJ.out
            rw [List.take_of_length_le (by rw [HLL.out]; exact Nat.le_refl _)] at this
            exact this
          go_wp2_with fail
          go_roundw
          case rel =>
            refine ⟨k + 1, by omega, by go_num, ?_, trivial⟩
            show ∀ ws ∈ wss.take (k + 1), LettersIn n ws
            rw [HTK.out]
            intro y hy
            rcases List.mem_append.1 hy with hy | hy
            · exact HA.out y hy
            · rw [List.mem_singleton.1 hy]; exact HJL.out
          case measure => simp [intOf]; omega
    · obtain rfl : k = m := by omega
      have HE : Hid (R = .nilIface) := HR.out.1 (by
        have := HA.out
        rw [List.take_of_length_le (by rw [HM.out]; exact Nat.le_refl _)] at this
        exact this)
      go_wp2_with fail
      go_ret
      exact ⟨by rw [HE.out]; rfl, rfl⟩

set_option maxRecDepth 100000 in
set_option maxHeartbeats 2000000 in
theorem valid_ok {a : Nat → Addr} {sx : Nat → ByteArray} (n : Nat) (v : Value) (rels : List (List Int)) (w : World) (hE : Errs a sx w) (h : Rows w v rels) (h1 : rels.length ≤ 400) (h2 : rels.flatten.length ≤ 400) (hl : ∀ ws ∈ rels, LettersIn n ws) (hn : n ≤ 12) :
    Calls Tryd.prog 18 #[.agg #[.int .i64 (n : Int), v]] w fun e w' => e = .returned .nilIface ∧ Below w.heap.size w w' := by
  obtain ⟨av, cv, rfl, hcv, -⟩ := h.open_
  have hBa : Below w.heap.size w (w.alloc (.cells #[.int .i64 (n : Int), .slice av rels.length cv] 35)) := (Below.refl _ w).alloc (Nat.le_refl _) _
  have hnew := cells_new w [.int .i64 (n : Int), .slice av rels.length cv] 35
  have q0 := hnew 0 _ rfl
  have q1 := hnew 1 _ rfl
  rw [Addr.add_lit, Nat.zero_add] at q0 q1
  have hck := check_ n (.slice av rels.length cv) rels _ (hE.below hBa) (h.below hBa) h1 h2 hn
  unfold chkV at hck
  rw [if_pos hl] at hck
  have HB := Hid.mk' hBa
  clear h hE hl hBa hnew
  go_enter Tryd.func18, Tryd.ntmps18
  go_wp2_with (first
    | (go_at_call 19; refine hck.mono ?_; rintro e V ⟨rfl, rfl⟩; clear hck)
    | fail)
  go_ret
  exact ⟨rfl, HB.out⟩

end Go.Proofs.YthcgabghkbgccaaDoor
