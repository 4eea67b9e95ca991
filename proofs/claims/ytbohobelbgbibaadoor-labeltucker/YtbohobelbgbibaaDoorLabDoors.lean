/- The doors of a small triangle, by the reference. -/
import Derived.Test.YtbohobelbgbibaaDoorLabFault
namespace Go.Proofs.YtbohobelbgbibaaDoor
open Go.RowKit Go.Sort

def isDoor (x y : Int) : Bool := ((x == 0) && (y == 1)) || ((x == 1) && (y == 0))
def doorOf (ls r : List Int) (a b : Nat) : List (List Int) := if isDoor (labA ls (numR r a)) (labA ls (numR r b)) then [[(numR r a : Int), (numR r b : Int)]] else []
def doorsB (ls r : List Int) (a b : Nat) : List (List Int) := (List.range b).flatMap fun k => if a < k then doorOf ls r a k else []
def doorsA (ls r : List Int) (a : Nat) : List (List Int) := (List.range a).flatMap fun k => doorsB ls r k 3
def doorsL (ls r : List Int) : List (List Int) := doorsA ls r 3
theorem doorsA_more (ls r : List Int) (a : Nat) : doorsA ls r (a + 1) = doorsA ls r a ++ doorsB ls r a 3 := by unfold doorsA; rw [List.range_succ, List.flatMap_append]; simp
theorem doorsB_more (ls r : List Int) {a b : Nat} (h : a < b) : doorsB ls r a (b + 1) = doorsB ls r a b ++ doorOf ls r a b := by unfold doorsB; rw [List.range_succ, List.flatMap_append]; simp [h]
theorem doorsB_low (ls r : List Int) (a : Nat) : doorsB ls r a (a + 1) = [] := by
  unfold doorsB
  rw [List.flatMap_eq_nil_iff]
  intro k hk
  rw [if_neg (by have := List.mem_range.1 hk; omega)]
theorem doorOf_few (ls r : List Int) (a b : Nat) : (doorOf ls r a b).length ≤ 1 := by unfold doorOf; split <;> simp
theorem doors_few (ls r : List Int) {a b : Nat} (ha : a ≤ 3) (hb : b ≤ 3) : (doorsA ls r a ++ doorsB ls r a b).length ≤ 1000 := by
  have h1 : ∀ a b, (doorsB ls r a b).length ≤ b * 1 := fun a b => flat_few b 1 _ fun k => by
    split
    · exact doorOf_few ls r a k
    · simp
  have h2 : (doorsA ls r a).length ≤ a * 3 := flat_few a 3 _ fun k => by have := h1 k 3; omega
  have h3 := h1 a b
  rw [List.length_append]
  omega

theorem tri_at {N : Nat} {r : List Int} (h : TriIn N r) {k : Nat} (hk : k < 3) : r[k]?.getD 0 = (numR r k : Int) ∧ numR r k < N ∧ r.length = 3 := by
  obtain ⟨a, b, c, rfl, h1, h2, h3⟩ := h
  unfold numR
  match k, hk with
  | 0, _ => exact ⟨by simp, by simp; omega, rfl⟩
  | 1, _ => exact ⟨by simp, by simp; omega, rfl⟩
  | 2, _ => exact ⟨by simp, by simp; omega, rfl⟩

set_option maxRecDepth 100000 in
set_option maxHeartbeats 4000000 in
theorem doors_ {ls r : List Int} (vt vl : Value) (w : World) (ht : Ints w vt r) (hl : Ints w vl ls) (hr : TriIn ls.length r) (h9 : ls.length ≤ 1000) :
    Calls Tryd.prog 53 #[vt, vl] w fun e w' => ∃ v, e = .returned v ∧ OwnRows w.heap.size w' v (doorsL ls r) ∧ Below w.heap.size w w' := by
  obtain ⟨i0, hi0, hz0, hz1, hz2⟩ := info_parts Tryd.info22
  obtain ⟨j0, hj0, hy0, hy1, hy2⟩ := info_parts Tryd.infoInt
  have h3 := (tri_at hr (k := 0) (by omega)).2.2
  have hm0 : 0 < ls.length := by have := (tri_at hr (k := 0) (by omega)).2.1; omega
  obtain ⟨at1, ct, rfl, -, hx⟩ := ht.open_
  obtain ⟨al, cl, rfl, -, hy⟩ := hl.open_
  rw [h3] at hx ⊢
  obtain ⟨bt, ot, rfl, hbt, -, hct⟩ := hx (by omega)
  obtain ⟨bl, ol, rfl, hbl, -, hcl⟩ := hy hm0
  have HC : Hid (∀ V k, Below w.heap.size w V → k < 3 → V.cell? ⟨bt, ot + k, none⟩ = some (.int .i64 (numR r k : Int)) ∧ V.cell? ⟨bl, ol + numR r k, none⟩ = some (.int .i64 (labA ls (numR r k))) ∧ numR r k < ls.length) := fun V k hV hk => by
    obtain ⟨e1, e2, -⟩ := tri_at hr hk
    have c1 := hct k hk
    rw [e1] at c1
    have c2 := hcl (numR r k) e2
    exact ⟨(hV.cell (p := ⟨bt, ot + k, none⟩) (cell_lt c1)).trans c1, (hV.cell (p := ⟨bl, ol + numR r k, none⟩) (cell_lt c2)).trans c2, e2⟩
  obtain ⟨m, hm⟩ : ∃ m, ls.length = m := ⟨_, rfl⟩
  have HM : Hid (ls.length = m) := hm
  rw [hm] at h9 ⊢
  clear ht hl hr hx hy hct hcl hm h3 hm0 hbt hbl
  go_enter Tryd.func53, Tryd.ntmps53
  go_wp2_with fail
  go_loopw [5, 6] (fun po p W => ∃ (vo : Value) (a : Nat), a ≤ 3 ∧ po = vo ∧ p = .int .i64 (a : Int) ∧ Hid (OwnRows w.heap.size W vo (doorsA ls r a) ∧ Below w.heap.size w W)) (fun _ p _ => 3 - (intOf p).toNat)
  case atStart => exact ⟨_, 0, by omega, rfl, rfl, OwnRows.nil _ _, Below.refl _ _⟩
  case round =>
    obtain ⟨vo, a, ha, hvo, rfl, HA⟩ := hrel
    obtain ⟨av, cv, hv2⟩ := own_slice1 HA.out.1
    subst hv2
    subst hvo
    obtain ⟨K, hK⟩ : ∃ K, (doorsA ls r a).length = K := ⟨_, rfl⟩
    rw [hK] at HA ⊢
    clear hK
    by_cases ha3 : a < 3
    · have HB0 : Hid (OwnRows w.heap.size wr (.slice av K cv) (doorsA ls r a ++ doorsB ls r a (a + 1)) ∧ Below w.heap.size w wr) := by rw [doorsB_low, List.append_nil]; exact HA.out
      have z1 : (a : Int) < 3 := by omega
      have z1b : decide ((a : Int) < 3) = true := decide_eq_true z1
      clear HA
      go_wp2_with fail
      go_loopw [5, 7] (fun po p W => ∃ (vo : Value) (b : Nat), a < b ∧ b ≤ 3 ∧ po = vo ∧ p = .int .i64 (b : Int) ∧ Hid (OwnRows w.heap.size W vo (doorsA ls r a ++ doorsB ls r a b) ∧ Below w.heap.size w W)) (fun _ p _ => 3 - (intOf p).toNat)
      case atStart => exact ⟨_, a + 1, by omega, by omega, rfl, by go_num, HB0.out⟩
      case round =>
        obtain ⟨vo, b, hab, hb, hvo, rfl, HB⟩ := hrel
        obtain ⟨av, cv, hv2⟩ := own_slice1 HB.out.1
        subst hv2
        subst hvo
        obtain ⟨K, hK⟩ : ∃ K, (doorsA ls r a ++ doorsB ls r a b).length = K := ⟨_, rfl⟩
        have HKK : Hid ((doorsA ls r a ++ doorsB ls r a b).length = K) := hK
        have hK9 : K ≤ 1000 := by rw [← hK]; exact doors_few ls r ha hb
        rw [hK] at HB ⊢
        clear hK
        by_cases hb3 : b < 3
        · obtain ⟨ta, la, na⟩ := HC.out wr a HB.out.2 ha3
          obtain ⟨tb, lb, nb⟩ := HC.out wr b HB.out.2 hb3
          have HDO : Hid (doorsA ls r a ++ doorsB ls r a (b + 1) = doorsA ls r a ++ doorsB ls r a b ++ doorOf ls r a b) := by show _ = _; rw [doorsB_more ls r hab, List.append_assoc]
          obtain ⟨pa, hpa⟩ : ∃ pa, numR r a = pa := ⟨_, rfl⟩
          obtain ⟨pb, hpb⟩ : ∃ pb, numR r b = pb := ⟨_, rfl⟩
          obtain ⟨x, hxx⟩ : ∃ x, labA ls pa = x := ⟨_, rfl⟩
          obtain ⟨y, hyy⟩ : ∃ y, labA ls pb = y := ⟨_, rfl⟩
          rw [hpa] at ta la na
          rw [hpb] at tb lb nb
          rw [hxx] at la
          rw [hyy] at lb
          rw [HM.out] at na nb
          have HDE : Hid (doorOf ls r a b = if isDoor x y then [[(pa : Int), (pb : Int)]] else []) := by show _ = _; unfold doorOf; rw [hpa, hpb, hxx, hyy]
          have hws : w.heap.size ≤ wr.heap.size := HB.out.2.size
          have z0 : (0 : Int) ≤ (a : Int) := by omega
          have z2 : (0 : Int) ≤ (b : Int) := by omega
          have z3 : (b : Int) < 3 := by omega
          have z4 : (0 : Int) ≤ (pa : Int) := by omega
          have z5 : (pa : Int) < (m : Int) := by omega
          have z6 : (0 : Int) ≤ (pb : Int) := by omega
          have z7 : (pb : Int) < (m : Int) := by omega
          clear hpa hpb hxx hyy
          go_upto_region 10 with fail
          go_cut [48] from 35 to 47 (fun c wx => c = .bool (isDoor x y) ∧ wx = wr)
          case first =>
            by_cases x0 : x = 0
            · subst x0
              by_cases y1 : y = 1
              · subst y1
                go_wp2_with fail
                go_meet
                exact ⟨rfl, rfl⟩
              · have b1 : (y == 1) = false := beq_false_of_ne y1
                have e : isDoor 0 y = false := by simp [isDoor, b1]
                go_wp2_with fail
                go_meet
                exact ⟨by rw [e], rfl⟩
            · have b0 : (x == 0) = false := beq_false_of_ne x0
              by_cases x1 : x = 1
              · subst x1
                by_cases y0 : y = 0
                · subst y0
                  go_wp2_with fail
                  go_meet
                  exact ⟨rfl, rfl⟩
                · have b1 : (y == 0) = false := beq_false_of_ne y0
                  have e : isDoor 1 y = false := by simp [isDoor, b1]
                  go_wp2_with fail
                  go_meet
                  exact ⟨by rw [e], rfl⟩
              · have b1 : (x == 1) = false := beq_false_of_ne x1
                have e : isDoor x y = false := by simp [isDoor, b0, b1]
                go_wp2_with fail
                go_meet
                exact ⟨by rw [e], rfl⟩
          obtain ⟨rfl, rfl⟩ := hcut
          obtain ⟨d, hd⟩ : ∃ d, isDoor x y = d := ⟨_, rfl⟩
          rw [hd] at HDE ⊢
          clear hd la lb
          cases d with
          | false =>
            have HE : Hid (OwnRows w.heap.size wc (.slice av K cv) (doorsA ls r a ++ doorsB ls r a (b + 1))) := by
              rw [HDO.out, HDE.out]
              have := HB.out.1
              rw [← List.append_nil (doorsA ls r a ++ doorsB ls r a b)] at this
              exact this
            go_wp2_with fail
            go_roundw
            case rel => exact ⟨_, b + 1, by omega, by omega, rfl, by go_num, HE.out, HB.out.2⟩
            case measure => simp [intOf]; omega
          | true =>
            obtain ⟨vs, hvs1, hvs2⟩ := HB.out.1
            rw [HKK.out] at hvs1
            have HVS : Hid (wc.drew.ownsRow w.heap.size 22 1 (.slice av K cv) K vs ∧ ∀ (j : Nat) (u : Value) (x : List Int), vs[j]? = some u → (doorsA ls r a ++ doorsB ls r a b)[j]? = some x → IntsIn (fun bb => w.heap.size ≤ bb ∧ some bb ≠ (Value.slice av K cv).ownBlock) wc.drew u x) := ⟨hvs1, hvs2⟩
            clear hvs1 hvs2
            have HAP : Hid (∀ v5 w5 o, w5.ownsRow w.heap.size 3 1 v5 (0 + 2) ([] ++ [.int .i64 (pa : Int), .int .i64 (pb : Int)]) → (wc.drew.alloc o).grownBy w5 none → (v5.ownBlock = none ∨ v5.ownBlock = some (wc.drew.alloc o).heap.size) → w.heap.size ≤ w5.heap.size ∧ w5.ownsRow w.heap.size 22 1 (.slice av K cv) K vs ∧ ∀ v6 w6 o6, w6.ownsRow w.heap.size 22 1 v6 (K + 1) (vs ++ [v5]) → (w5.alloc o6).grownBy w6 (Value.slice av K cv).ownBlock → (v6.ownBlock = (Value.slice av K cv).ownBlock ∨ v6.ownBlock = some (w5.alloc o6).heap.size) → OwnRows w.heap.size w6 v6 (doorsA ls r a ++ doorsB ls r a (b + 1)) ∧ Below w.heap.size w w6) := fun v5 w5 o h1 h2 h3 => by
              have hs5 := h2.size
              rw [World.size_alloc] at hs5
              have hds : wc.drew.heap.size = wc.heap.size := rfl
              refine ⟨by omega, own_kept9 HVS.out.1 fun b' e hb' => (h2.block b' (by rw [World.size_alloc]; omega) (by simp)).trans ((World.grownBy_alloc wc.drew o none).block b' hb' (by simp)), fun v6 w6 o6 k1 k2 k3 => ?_⟩
              have hp := push_new (xss := doorsA ls r a ++ doorsB ls r a b) (l := [(pa : Int), (pb : Int)]) HVS.out.1 HKK.out HVS.out.2 hws h1 h2 h3 k1 k2 k3
              refine ⟨?_, hp.2 _ _ HB.out.2.drew (Nat.le_refl _)⟩
              have h9 : doorOf ls r a b = [[(pa : Int), (pb : Int)]] := HDE.out
              rw [HDO.out, h9]
              exact hp.1
            have ta2 : ∀ o, (wc.drew.alloc o).cell? ⟨bt, ot + a, none⟩ = some (.int .i64 (pa : Int)) := fun o => (World.cell?_alloc_lt wc.drew o ⟨bt, ot + a, none⟩ (cell_lt ta)).trans ta
            have tb2 : ∀ o, (wc.drew.alloc o).cell? ⟨bt, ot + b, none⟩ = some (.int .i64 (pb : Int)) := fun o => (World.cell?_alloc_lt wc.drew o ⟨bt, ot + b, none⟩ (cell_lt tb)).trans tb
            have hwd : w.heap.size ≤ wc.drew.heap.size := hws
            go_wp2_with fail
            go_region_law (first
              | (refine step_append_wide (by rfl) (.tmp 50) (.tmp 59) 22 (by rfl) w.heap.size 3 j0 (.int .i64 0) 1 8 Tryd.underlying22 hj0 hy0 hy1 hy2 (by rfl) (by decide) (.slice none 0 0) 0 [] (by simp [Act.eval]) (World.ownsRow_nil _ _ _ _) ⟨wc.drew.heap.size, 0, none⟩ 2 2 [.int .i64 (pa : Int), .int .i64 (pb : Int)] (by simp [Act.eval]) rfl (cells_new _ _ _) (by simp [Value.oneCell']) (by unfold maxLen; omega) (by omega) (by simp; omega) ?_; intro v5 w5 hown5 hg5 hl5; have H5 := Hid.mk' (HAP.out v5 w5 _ hown5 hg5 hl5); have hw5 := H5.out.1; obtain ⟨a5, c5, rfl⟩ := own_sl hown5; clear hown5 hg5 hl5)
              | (refine step_append_wide (by rfl) (.tmp 49) (.tmp 61) 32 (by rfl) w.heap.size 22 i0 (.slice none 0 0) 1 24 Tryd.underlying32 hi0 hz0 hz1 hz2 (by rfl) (by decide) (.slice av K cv) K vs (by simp [Act.eval]) (H5.out.2.1.alloc _) ⟨w5.heap.size, 0, none⟩ 1 1 [.slice a5 (0 + 2) c5] (by simp [Act.eval]) rfl (cells_new _ _ _) (by simp [Value.oneCell']) (by unfold maxLen; omega) (by omega) (by simp; omega) ?_; intro v6 w6 hown6 hg6 hl6; have H6 := Hid.mk' (H5.out.2.2 v6 w6 _ hown6 hg6 hl6); clear hown6 hg6 hl6)
              | fail)
            all_goals go_simp
            all_goals go_wp2_with fail
            all_goals go_roundw
            all_goals first
              | exact ⟨_, b + 1, by omega, by omega, rfl, by go_num, H6.out⟩
              | (simp [intOf]; omega)
        · obtain rfl : b = 3 := by omega
          have HE : Hid (OwnRows w.heap.size wr (.slice av K cv) (doorsA ls r (a + 1))) := by
            have := HB.out.1
            rw [← doorsA_more] at this
            exact this
          go_wp2_with fail
          go_roundw
          case rel => exact ⟨_, a + 1, by omega, rfl, by go_num, HE.out, HB.out.2⟩
          case measure => simp [intOf]; omega
    · obtain rfl : a = 3 := by omega
      go_wp2_with fail
      go_ret
      exact ⟨_, rfl, HA.out⟩

end Go.Proofs.YtbohobelbgbibaaDoor
