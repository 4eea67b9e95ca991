/- Where a letter leads is written into a table, and taken back. What check and Valid answer of words that are not too many. -/
import Derived.Test.YtmaopnbnbiediaaDoorGrpHole
import Derived.Test.YtmaopnbnbiediaaDoorGrpTable
namespace Go.Proofs.YtmaopnbnbiediaaDoor
open Go.RowKit Go.Sort

set_option maxRecDepth 100000 in
set_option maxHeartbeats 2000000 in
theorem setT_ {B n : Nat} {R : List (List Int)} {G cG : Nat} {rb : Nat → Nat} (a x t : Nat) (w : World) (h : TbIn B n w R G cG rb) (ha : a < R.length) (ht : t < R.length) (hx : x < 2 * n) (hn : n ≤ 12) :
    Calls Tryd.prog 43 #[.agg #[.slice (some ⟨G, 0, none⟩) R.length cG], .int .i64 (a : Int), .int .i64 (x : Int), .int .i64 (t : Int)] w fun e w' => e = .returned (.tuple #[]) ∧ TbIn B n w' (putE (putE R a x (t : Int)) t (backN x) (a : Int)) G cG rb ∧ Kp B (fun b => ∀ k, k < R.length → b ≠ rb k) w w' := by
  have hbx := back_lt hx
  have hBa : Below w.heap.size w (w.alloc (.cells #[.slice (some ⟨G, 0, none⟩) R.length cG] 49)) := (Below.refl _ w).alloc (Nat.le_refl _) _
  have q0 := cells_new w [.slice (some ⟨G, 0, none⟩) R.length cG] 49 0 _ rfl
  rw [Addr.add_lit, Nat.zero_add] at q0
  have h1 := h.below hBa
  have h2 := h1.set_ent ha hx (t : Int)
  have h3 := h2.1.set_ent (i := t) (x := backN x) (by rw [putE_len]; exact ht) hbx (a : Int)
  have HE := Hid.mk' (And.intro h3.1 ((Kp.of_below hBa).trans (h2.2.trans (by have h9 := h3.2; rw [putE_len] at h9; exact h9))))
  have ra := h1.row_at ha
  have ea := h1.ent_at ha hx
  have fa := (h1.inner a ha).frozen x
  have rt := h2.1.row_at (i := t) (by rw [putE_len]; exact ht)
  have et := h2.1.ent_at (i := t) (x := backN x) (by rw [putE_len]; exact ht) hbx
  have ft := (h2.1.inner t (by rw [putE_len]; exact ht)).frozen (backN x)
  have hbox : w.heap.size ≠ rb a := fun e => by
    have := (h.inner a ha).lt
    omega
  have hbk : ∀ V, Calls Tryd.prog 42 #[.int .i64 (x : Int)] V fun e w' => e = .returned (.int .i64 (backN x : Int)) ∧ w' = V := fun V => back_ x (by omega) V
  have h5 := h.few
  obtain ⟨N, hN⟩ : ∃ N, R.length = N := ⟨_, rfl⟩
  obtain ⟨m2, hm2⟩ : ∃ m2, 2 * n = m2 := ⟨_, rfl⟩
  obtain ⟨y, hy⟩ : ∃ y, backN x = y := ⟨_, rfl⟩
  rw [hm2] at ra rt hx hbx
  rw [hy] at et ft hbk hbx HE
  rw [hN] at q0 ha ht h5 ra ea fa rt et ft HE ⊢
  have z0 : (0 : Int) ≤ (a : Int) := by omega
  have z1 : (a : Int) < (N : Int) := by omega
  have z2 : (0 : Int) ≤ (t : Int) := by omega
  have z3 : (t : Int) < (N : Int) := by omega
  have z4 : (0 : Int) ≤ (x : Int) := by omega
  have z5 : (x : Int) < (m2 : Int) := by omega
  have z6 : (0 : Int) ≤ (y : Int) := by omega
  have z7 : (y : Int) < (m2 : Int) := by omega
  obtain ⟨W1, hW1⟩ : ∃ W1, w.alloc (.cells #[.slice (some ⟨G, 0, none⟩) N cG] 49) = W1 := ⟨_, rfl⟩
  have q1 : (W1.setCell ⟨rb a, x, none⟩ (.int .i64 (t : Int))).cell? ⟨w.heap.size, 0, none⟩ = some (.slice (some ⟨G, 0, none⟩) N cG) := by
    have h9 : (W1.setCell ⟨rb a, x, none⟩ (.int .i64 (t : Int))).cell? ⟨w.heap.size, 0, none⟩ = W1.cell? ⟨w.heap.size, 0, none⟩ := by
      apply World.cell?_setCell_other
      intro e
      exact hbox (Addr.mk.inj e).1.symm
    rw [h9, ← hW1]
    exact q0
  rw [hW1] at ra ea fa rt et ft HE
  rw [show (List.toArray [Value.slice (some ⟨G, 0, none⟩) N cG]) = #[.slice (some ⟨G, 0, none⟩) N cG] from rfl, hW1] at q0
  obtain ⟨W2, hW2⟩ : ∃ W2, W1.setCell ⟨rb a, x, none⟩ (.int .i64 (t : Int)) = W2 := ⟨_, rfl⟩
  rw [hW2] at rt et ft HE q1
  obtain ⟨p, hp⟩ : ∃ p, w.heap.size = p := ⟨_, rfl⟩
  rw [hp] at q0 q1
  obtain ⟨R2, hs2⟩ : ∃ R2, putE (putE R a x (t : Int)) t y (a : Int) = R2 := ⟨_, rfl⟩
  rw [show backN x = y from hy, hs2]
  rw [hs2] at HE
  obtain ⟨et', het⟩ : ∃ q, ent (putE R a x (t : Int)) t y = q := ⟨_, rfl⟩
  obtain ⟨ea', hea⟩ : ∃ q, ent R a x = q := ⟨_, rfl⟩
  rw [het] at et
  rw [hea] at ea
  have HW : Hid (w.alloc (.cells #[.slice (some ⟨G, 0, none⟩) N cG] 49) = W1 ∧ W1.setCell ⟨rb a, x, none⟩ (.int .i64 (t : Int)) = W2 ∧ w.heap.size = p) := ⟨hW1, hW2, hp⟩
  clear h h1 h2 h3 hBa hN hm2 hy hW1 hW2 hp hs2 het hea hbox
  go_enter Tryd.func43, Tryd.ntmps43
  go_upto_region 1 with fail
  rw [HW.out.1, HW.out.2.2]
  go_upto_region 2 with fail
  rw [HW.out.2.1]
  go_wp2_with fail
  go_region_with (go_at_call 42; refine (hbk _).mono ?_; rintro e V ⟨rfl, rfl⟩)
  all_goals go_wp2_with fail
  all_goals (refine bodyPost_end (v := .tuple #[]) ?_ rfl ⟨rfl, ?_, ?_⟩)
  all_goals first
    | (simp [results, Tryd.f43, go_sem]; done)
    | exact HE.out.1.below (Below.refl _ _).drew
    | exact HE.out.2.drew


set_option maxRecDepth 100000 in
set_option maxHeartbeats 2000000 in
theorem unsetT_ {B n : Nat} {R : List (List Int)} {G cG : Nat} {rb : Nat → Nat} (a x t : Nat) (w : World) (h : TbIn B n w R G cG rb) (ha : a < R.length) (ht : t < R.length) (hx : x < 2 * n) (hn : n ≤ 12) :
    Calls Tryd.prog 44 #[.agg #[.slice (some ⟨G, 0, none⟩) R.length cG], .int .i64 (a : Int), .int .i64 (x : Int), .int .i64 (t : Int)] w fun e w' => e = .returned (.tuple #[]) ∧ TbIn B n w' (putE (putE R a x (-1)) t (backN x) (-1)) G cG rb ∧ Kp B (fun b => ∀ k, k < R.length → b ≠ rb k) w w' := by
  have hbx := back_lt hx
  have hBa : Below w.heap.size w (w.alloc (.cells #[.slice (some ⟨G, 0, none⟩) R.length cG] 49)) := (Below.refl _ w).alloc (Nat.le_refl _) _
  have q0 := cells_new w [.slice (some ⟨G, 0, none⟩) R.length cG] 49 0 _ rfl
  rw [Addr.add_lit, Nat.zero_add] at q0
  have h1 := h.below hBa
  have h2 := h1.set_ent ha hx (-1)
  have h3 := h2.1.set_ent (i := t) (x := backN x) (by rw [putE_len]; exact ht) hbx (-1)
  have HE := Hid.mk' (And.intro h3.1 ((Kp.of_below hBa).trans (h2.2.trans (by have h9 := h3.2; rw [putE_len] at h9; exact h9))))
  have ra := h1.row_at ha
  have ea := h1.ent_at ha hx
  have fa := (h1.inner a ha).frozen x
  have rt := h2.1.row_at (i := t) (by rw [putE_len]; exact ht)
  have et := h2.1.ent_at (i := t) (x := backN x) (by rw [putE_len]; exact ht) hbx
  have ft := (h2.1.inner t (by rw [putE_len]; exact ht)).frozen (backN x)
  have hbox : w.heap.size ≠ rb a := fun e => by
    have := (h.inner a ha).lt
    omega
  have hbk : ∀ V, Calls Tryd.prog 42 #[.int .i64 (x : Int)] V fun e w' => e = .returned (.int .i64 (backN x : Int)) ∧ w' = V := fun V => back_ x (by omega) V
  have h5 := h.few
  obtain ⟨N, hN⟩ : ∃ N, R.length = N := ⟨_, rfl⟩
  obtain ⟨m2, hm2⟩ : ∃ m2, 2 * n = m2 := ⟨_, rfl⟩
  obtain ⟨y, hy⟩ : ∃ y, backN x = y := ⟨_, rfl⟩
  rw [hm2] at ra rt hx hbx
  rw [hy] at et ft hbk hbx HE
  rw [hN] at q0 ha ht h5 ra ea fa rt et ft HE ⊢
  have z0 : (0 : Int) ≤ (a : Int) := by omega
  have z1 : (a : Int) < (N : Int) := by omega
  have z2 : (0 : Int) ≤ (t : Int) := by omega
  have z3 : (t : Int) < (N : Int) := by omega
  have z4 : (0 : Int) ≤ (x : Int) := by omega
  have z5 : (x : Int) < (m2 : Int) := by omega
  have z6 : (0 : Int) ≤ (y : Int) := by omega
  have z7 : (y : Int) < (m2 : Int) := by omega
  obtain ⟨W1, hW1⟩ : ∃ W1, w.alloc (.cells #[.slice (some ⟨G, 0, none⟩) N cG] 49) = W1 := ⟨_, rfl⟩
  have q1 : (W1.setCell ⟨rb a, x, none⟩ (.int .i64 (-1))).cell? ⟨w.heap.size, 0, none⟩ = some (.slice (some ⟨G, 0, none⟩) N cG) := by
    have h9 : (W1.setCell ⟨rb a, x, none⟩ (.int .i64 (-1))).cell? ⟨w.heap.size, 0, none⟩ = W1.cell? ⟨w.heap.size, 0, none⟩ := by
      apply World.cell?_setCell_other
      intro e
      exact hbox (Addr.mk.inj e).1.symm
    rw [h9, ← hW1]
    exact q0
  rw [hW1] at ra ea fa rt et ft HE
  rw [show (List.toArray [Value.slice (some ⟨G, 0, none⟩) N cG]) = #[.slice (some ⟨G, 0, none⟩) N cG] from rfl, hW1] at q0
  obtain ⟨W2, hW2⟩ : ∃ W2, W1.setCell ⟨rb a, x, none⟩ (.int .i64 (-1)) = W2 := ⟨_, rfl⟩
  rw [hW2] at rt et ft HE q1
  obtain ⟨p, hp⟩ : ∃ p, w.heap.size = p := ⟨_, rfl⟩
  rw [hp] at q0 q1
  obtain ⟨R2, hs2⟩ : ∃ R2, putE (putE R a x (-1)) t y (-1) = R2 := ⟨_, rfl⟩
  rw [show backN x = y from hy, hs2]
  rw [hs2] at HE
  obtain ⟨et', het⟩ : ∃ q, ent (putE R a x (-1)) t y = q := ⟨_, rfl⟩
  obtain ⟨ea', hea⟩ : ∃ q, ent R a x = q := ⟨_, rfl⟩
  rw [het] at et
  rw [hea] at ea
  have HW : Hid (w.alloc (.cells #[.slice (some ⟨G, 0, none⟩) N cG] 49) = W1 ∧ W1.setCell ⟨rb a, x, none⟩ (.int .i64 (-1)) = W2 ∧ w.heap.size = p) := ⟨hW1, hW2, hp⟩
  clear h h1 h2 h3 hBa hN hm2 hy hW1 hW2 hp hs2 het hea hbox
  go_enter Tryd.func44, Tryd.ntmps44
  go_upto_region 1 with fail
  rw [HW.out.1, HW.out.2.2]
  go_upto_region 2 with fail
  rw [HW.out.2.1]
  go_wp2_with fail
  go_region_with (go_at_call 42; refine (hbk _).mono ?_; rintro e V ⟨rfl, rfl⟩)
  all_goals go_wp2_with fail
  all_goals (refine bodyPost_end (v := .tuple #[]) ?_ rfl ⟨rfl, ?_, ?_⟩)
  all_goals first
    | (simp [results, Tryd.f44, go_sem]; done)
    | exact HE.out.1.below (Below.refl _ _).drew
    | exact HE.out.2.drew


end Go.Proofs.YtmaopnbnbiediaaDoor

namespace Go.Proofs.YtmaopnbnbiediaaDoor
open Go.RowKit Go.Sort

theorem flat_take {wss : List (List Int)} {k : Nat} {l : List Int} (h : wss[k]? = some l) : (wss.take (k + 1)).flatten = (wss.take k).flatten ++ l := by
  rw [List.take_add_one, h]
  simp
theorem flat_le (wss : List (List Int)) (k : Nat) : (wss.take k).flatten.length ≤ wss.flatten.length := by
  have : wss.flatten = (wss.take k).flatten ++ (wss.drop k).flatten := by rw [← List.flatten_append, List.take_append_drop]
  rw [this, List.length_append]
  omega

set_option maxRecDepth 100000 in
set_option maxHeartbeats 2000000 in
theorem lettersOf_ (v : Value) (wss : List (List Int)) (w : World) (h : Rows w v wss) (h1 : wss.length ≤ 1000) (h2 : wss.flatten.length ≤ 1000) :
    Calls Tryd.prog 50 #[v] w fun e w' => e = .returned (.int .i64 (wss.flatten.length : Int)) ∧ w' = w := by
  have HV := Hid.mk' h
  obtain ⟨av, cv, rfl, hcv, -⟩ := h.open_
  obtain ⟨m, hm⟩ : ∃ m, wss.length = m := ⟨_, rfl⟩
  have HM : Hid (wss.length = m) := hm
  rw [hm] at h1 ⊢
  obtain ⟨tot, ht⟩ : ∃ tot, wss.flatten.length = tot := ⟨_, rfl⟩
  have HT : Hid (wss.flatten.length = tot) := ht
  rw [ht] at h2 ⊢
  clear h hm ht
  go_enter Tryd.func50, Tryd.ntmps50
  go_wp2_with fail
  go_loopw [3, 8] (fun q k W => ∃ (kn a : Nat), kn ≤ m ∧ a ≤ tot ∧ q = .int .i64 (a : Int) ∧ k = .int .i64 (kn : Int) ∧ Hid ((wss.take kn).flatten.length = a) ∧ W = w) (fun _ k _ => m - (intOf k).toNat)
  case atStart => exact ⟨0, 0, by omega, by omega, rfl, rfl, rfl, rfl⟩
  case round =>
    obtain ⟨k, a, hk, hat, rfl, rfl, HA, rfl⟩ := hrel
    by_cases hkn : k < m
    · have hkl : k < wss.length := by rw [HM.out]; exact hkn
      obtain ⟨l, hl⟩ : ∃ l, wss[k]? = some l := ⟨_, List.getElem?_eq_getElem hkl⟩
      obtain ⟨a', c', ea, -, hx⟩ := HV.out.open_
      rw [HM.out] at ea hx
      cases ea
      obtain ⟨b, off, rfl, -, -, hcell⟩ := hx (by omega)
      obtain ⟨a2, c2, ck, hi2⟩ := hcell k hkn
      rw [hl, Option.getD_some] at ck
      have HF := Hid.mk' (flat_take hl)
      have hfl := flat_le wss (k + 1)
      rw [HF.out, List.length_append, HA.out, HT.out] at hfl
      obtain ⟨ll, hll⟩ : ∃ ll, l.length = ll := ⟨_, rfl⟩
      have HLL : Hid (l.length = ll) := hll
      rw [hll] at ck hfl
      have z0 : (0 : Int) ≤ (k : Int) := by omega
      have z1 : (k : Int) < (m : Int) := by omega
      clear hl hx hcell hi2 hll
      go_wp2_with fail
      go_roundw
      case rel => exact ⟨k + 1, a + ll, by omega, by omega, by go_num, by go_num, by show _ = _; rw [HF.out, List.length_append, HA.out, HLL.out], trivial⟩
      case measure => simp [intOf]; omega
    · obtain rfl : k = m := by omega
      have HE : Hid (a = tot) := by
        have := HA.out
        rw [List.take_of_length_le (by rw [HM.out]; exact Nat.le_refl _), HT.out] at this
        exact this.symm
      go_wp2_with fail
      go_ret
      exact ⟨by rw [HE.out]; rfl, rfl⟩

/-- What check answers. -/
def chkV (ok : Prop) [Decidable ok] (ev : Value) : Value := if ok then .nilIface else ev

instance letDec (n : Nat) (w : List Int) : Decidable (LettersIn n w) := by unfold LettersIn; infer_instance

set_option maxRecDepth 100000 in
set_option maxHeartbeats 4000000 in
theorem check_ {a : Nat → Addr} {sx : Nat → ByteArray} (n : Nat) (v : Value) (wss : List (List Int)) (w : World) (hE : Errs a sx w) (h : Rows w v wss) (h1 : wss.length ≤ 400) (h2 : wss.flatten.length ≤ 400) (hn : n ≤ 12) :
    Calls Tryd.prog 32 #[v, .int .i64 (n : Int)] w fun e w' => e = .returned (chkV (∀ ws ∈ wss, LettersIn n ws) (.iface 132 (.pointer (some (a 2))))) ∧ w' = w := by
  have HV := Hid.mk' h
  have hlo := lettersOf_ v wss w h (by omega) (by omega)
  have g2 := hE.glob 2 (by simp)
  rw [show gl 2 = 2 from rfl] at g2
  obtain ⟨av, cv, rfl, hcv, -⟩ := h.open_
  obtain ⟨m, hm⟩ : ∃ m, wss.length = m := ⟨_, rfl⟩
  have HM : Hid (wss.length = m) := hm
  rw [hm] at h1 hlo ⊢
  obtain ⟨tot, ht⟩ : ∃ tot, wss.flatten.length = tot := ⟨_, rfl⟩
  have HT : Hid (wss.flatten.length = tot) := ht
  rw [ht] at h2 hlo
  obtain ⟨R, hR⟩ : ∃ R, chkV (∀ ws ∈ wss, LettersIn n ws) (.iface 132 (.pointer (some (a 2)))) = R := ⟨_, rfl⟩
  have HR : Hid (((∀ ws ∈ wss, LettersIn n ws) → R = .nilIface) ∧ (¬ (∀ ws ∈ wss, LettersIn n ws) → R = .iface 132 (.pointer (some (a 2))))) := by
    rw [← hR]
    unfold chkV
    exact ⟨fun k => if_pos k, fun k => if_neg k⟩
  rw [hR]
  clear h hm ht hR hE
  go_enter Tryd.func32, Tryd.ntmps32
  go_wp2_with (first
    | (go_at_call 50; refine hlo.mono ?_; rintro e V ⟨rfl, rfl⟩; clear hlo)
    | fail)
  go_loopw [20] (fun k W => ∃ kn : Nat, kn ≤ m ∧ k = .int .i64 (kn : Int) ∧ Hid (∀ ws ∈ wss.take kn, LettersIn n ws) ∧ W = V) (fun k _ => m - (intOf k).toNat)
  case atStart => exact ⟨0, by omega, rfl, fun ws hws => (by simp at hws), rfl⟩
  case round =>
    obtain ⟨k, hk, rfl, HA, rfl⟩ := hrel
    by_cases hkn : k < m
    · have hkl : k < wss.length := by rw [HM.out]; exact hkn
      obtain ⟨l, hl⟩ : ∃ l, wss[k]? = some l := ⟨_, List.getElem?_eq_getElem hkl⟩
      have hlm : l ∈ wss := List.mem_of_getElem? hl
      have htk : wss.take (k + 1) = wss.take k ++ [l] := by rw [List.take_add_one, hl]; rfl
      have hfl := flat_le wss (k + 1)
      rw [flat_take hl, List.length_append, HT.out] at hfl
      obtain ⟨a', c', ea, -, hx⟩ := HV.out.open_
      rw [HM.out] at ea hx
      cases ea
      obtain ⟨b, off, rfl, -, -, hcell⟩ := hx (by omega)
      obtain ⟨a2, c2, ck, hi2⟩ := hcell k hkn
      rw [hl, Option.getD_some] at ck hi2
      have HI2 := Hid.mk' hi2
      have HTK := Hid.mk' htk
      have HLM := Hid.mk' hlm
      obtain ⟨ll, hll⟩ : ∃ ll, l.length = ll := ⟨_, rfl⟩
      have HLL : Hid (l.length = ll) := hll
      rw [hll] at ck hfl
      have z0 : (0 : Int) ≤ (k : Int) := by omega
      have z1 : (k : Int) < (m : Int) := by omega
      clear hl hx hcell hi2 hll hlm htk
      go_wp2_with fail
      go_loopw [26] (fun q W => ∃ jn : Nat, jn ≤ ll ∧ q = .int .i64 (jn : Int) ∧ Hid (LettersIn n (l.take jn)) ∧ W = wr) (fun q _ => ll - (intOf q).toNat)
      case atStart => exact ⟨0, by omega, rfl, fun x hx => (by simp at hx), rfl⟩
      case round =>
        obtain ⟨j, hj, rfl, HJ, rfl⟩ := hrel
        by_cases hjn : j < ll
        · have hjl : j < l.length := by rw [HLL.out]; exact hjn
          obtain ⟨x, hx⟩ : ∃ x, l[j]? = some x := ⟨_, List.getElem?_eq_getElem hjl⟩
          have hxm : x ∈ l := List.mem_of_getElem? hx
          have htj : l.take (j + 1) = l.take j ++ [x] := by rw [List.take_add_one, hx]; rfl
          obtain ⟨a3, c3, ea, -, hy⟩ := HI2.out.open_
          rw [HLL.out] at ea hy
          cases ea
          obtain ⟨b3, off3, rfl, -, -, hcell3⟩ := hy (by omega)
          have cj := hcell3 j hjn
          rw [hx, Option.getD_some] at cj
          have HXM := Hid.mk' hxm
          have HTJ := Hid.mk' htj
          have y0 : (0 : Int) ≤ (j : Int) := by omega
          have y1 : (j : Int) < (ll : Int) := by omega
          clear hx hxm htj hy hcell3
          by_cases e0 : x = 0
          · subst e0
            have HBAD : Hid (R = .iface 132 (.pointer (some (a 2)))) := HR.out.2 fun hall => ((hall l HLM.out) 0 HXM.out).1 rfl
            go_wp2_with fail
            go_ret
            exact ⟨by rw [HBAD.out]; rfl, rfl⟩
          · have hb0 : (x == 0) = false := beq_false_of_ne e0
            by_cases e1 : x < -(n : Int)
            · have HBAD : Hid (R = .iface 132 (.pointer (some (a 2)))) := HR.out.2 fun hall => by have := ((hall l HLM.out) x HXM.out).2.1; omega
              go_wp2_with fail
              go_ret
              exact ⟨by rw [HBAD.out]; rfl, rfl⟩
            · by_cases e2 : (n : Int) < x
              · have HBAD : Hid (R = .iface 132 (.pointer (some (a 2)))) := HR.out.2 fun hall => by have := ((hall l HLM.out) x HXM.out).2.2; omega
                go_wp2_with fail
                go_ret
                exact ⟨by rw [HBAD.out]; rfl, rfl⟩
              · go_wp2_with fail
                go_roundw
                case rel =>
                  refine ⟨j + 1, by omega, by go_num, ?_, trivial⟩
                  show LettersIn n (l.take (j + 1))
                  rw [HTJ.out]
                  intro y hy
                  rcases List.mem_append.1 hy with hy | hy
                  · exact HJ.out y hy
                  · rw [List.mem_singleton.1 hy]; exact ⟨e0, by omega, by omega⟩
                case measure => simp [intOf]; omega
        · obtain rfl : j = ll := by omega
          have HJL : Hid (LettersIn n l) := by
            have := HJ.out
            rw [List.take_of_length_le (by rw [HLL.out]; exact Nat.le_refl _)] at this
            exact this
          go_wp2_with fail
          go_roundw
          case rel =>
            refine ⟨k + 1, by omega, by go_num, ?_, trivial⟩
            show ∀ ws ∈ wss.take (k + 1), LettersIn n ws
            rw [HTK.out]
            intro y hy
            rcases List.mem_append.1 hy with hy | hy
            · exact HA.out y hy
            · rw [List.mem_singleton.1 hy]; exact HJL.out
          case measure => simp [intOf]; omega
    · obtain rfl : k = m := by omega
      have HE : Hid (R = .nilIface) := HR.out.1 (by
        have := HA.out
        rw [List.take_of_length_le (by rw [HM.out]; exact Nat.le_refl _)] at this
        exact this)
      go_wp2_with fail
      go_ret
      exact ⟨by rw [HE.out]; rfl, rfl⟩

set_option maxRecDepth 100000 in
set_option maxHeartbeats 2000000 in
theorem valid_ok {a : Nat → Addr} {sx : Nat → ByteArray} (n : Nat) (v : Value) (rels : List (List Int)) (w : World) (hE : Errs a sx w) (h : Rows w v rels) (h1 : rels.length ≤ 400) (h2 : rels.flatten.length ≤ 400) (hl : ∀ ws ∈ rels, LettersIn n ws) (hn : n ≤ 12) :
    Calls Tryd.prog 18 #[.agg #[.int .i64 (n : Int), v]] w fun e w' => e = .returned .nilIface ∧ Below w.heap.size w w' := by
  obtain ⟨av, cv, rfl, hcv, -⟩ := h.open_
  have hBa : Below w.heap.size w (w.alloc (.cells #[.int .i64 (n : Int), .slice av rels.length cv] 33)) := (Below.refl _ w).alloc (Nat.le_refl _) _
  have hnew := cells_new w [.int .i64 (n : Int), .slice av rels.length cv] 33
  have q0 := hnew 0 _ rfl
  have q1 := hnew 1 _ rfl
  rw [Addr.add_lit, Nat.zero_add] at q0 q1
  have hck := check_ n (.slice av rels.length cv) rels _ (hE.below hBa) (h.below hBa) h1 h2 hn
  unfold chkV at hck
  rw [if_pos hl] at hck
  have HB := Hid.mk' hBa
  clear h hE hl hBa hnew
  go_enter Tryd.func18, Tryd.ntmps18
  go_wp2_with (first
    | (go_at_call 32; refine hck.mono ?_; rintro e V ⟨rfl, rfl⟩; clear hck)
    | fail)
  go_ret
  exact ⟨rfl, HB.out⟩

end Go.Proofs.YtmaopnbnbiediaaDoor
