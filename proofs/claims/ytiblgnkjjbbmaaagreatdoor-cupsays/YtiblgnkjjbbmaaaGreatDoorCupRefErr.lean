/- The program's Cup and Same: errors, and Cup. The reference's CochainError: whether a list rises and holds numbers below n. -/
import Derived.Test.YtiblgnkjjbbmaaaGreatDoorCupFaces1
import Derived.Test.YtiblgnkjjbbmaaaGreatDoorCupCochains0
import Derived.Test.YtiblgnkjjbbmaaaGreatDoorRefC
namespace Go.Proofs.YtiblgnkjjbbmaaaGreatDoor
open Go.RowKit Go.Sort Go.Maps Go.Deep

set_option maxRecDepth 100000 in
set_option maxHeartbeats 2000000 in
theorem cupCup_err {a : Nat → Addr} {s : Nat → ByteArray} {l : List (List Int)} {d e : Int} {f g : List Int} {i : Nat} (hb : CoBad l [(d, f), (e, g)] i) (vl vf vg : Value) (w : World) (hE : Errs a s w) (hl : Rows w vl l) (hll : l.length ≤ 100000) (hle : ∀ x ∈ l, x.length ≤ 1000) (hf : Ints w vf f) (hfl : f.length ≤ 60) (hg : Ints w vg g) (hgl : g.length ≤ 60) :
    Calls Tryz.prog 16 #[.agg #[vl], .int .i64 d, vf, .int .i64 e, vg] w fun e w' => e = .returned (.tuple #[.slice none 0 0, .iface 184 (.pointer (some (a i)))]) ∧ Below w.heap.size w w' := by
  obtain ⟨al, cl, rfl, -, -⟩ := hl.open_
  have hB1 : Below w.heap.size w (w.alloc (.cells #[.slice al l.length cl] 36)) := (Below.refl _ w).alloc (Nat.le_refl _) _
  have hco := co_two (w.alloc (.cells #[.slice al l.length cl] 36)) vf vg d e f g 61 (hf.below hB1) (hg.below hB1)
  have hB2 : Below w.heap.size w ((w.alloc (.cells #[.slice al l.length cl] 36)).alloc (.cells #[.int .i64 d, vf, .int .i64 e, vg] 61)) := hB1.alloc (by simp) _
  have hc := cochains_err hb (.slice al l.length cl) _ 2 _ _ (hE.below hB2) (hl.below hB2) hll hle hco (by simp) (by intro c hc; simp at hc; rcases hc with rfl | rfl; exact hfl; exact hgl)
  have q0 := (box_new w (.slice al l.length cl) 36).1
  obtain ⟨ev, hev⟩ : ∃ ev : Addr, a i = ev := ⟨_, rfl⟩
  rw [hev] at hc ⊢
  obtain ⟨af, mf, cf, rfl⟩ : ∃ a m c, vf = .slice a m c := by obtain ⟨a, c, e, -⟩ := hf.open_; exact ⟨a, _, c, e⟩
  obtain ⟨ag, mg, cg, rfl⟩ : ∃ a m c, vg = .slice a m c := by obtain ⟨a, c, e, -⟩ := hg.open_; exact ⟨a, _, c, e⟩
  have HB2 := Hid.mk' hB2
  rw [World.size_alloc] at hc
  clear hE hl hll hle hb hev hB1 hB2 hco hf hfl hg hgl
  go_enter Tryz.func16, Tryz.ntmps16
  go_wp2_with fail
  refine hc.mono ?_
  clear hc
  rintro e2 W2 ⟨rfl, hB3⟩
  have HB3 : Hid (Below w.heap.size w (W2.alloc (.cells #[.slice none 0 0, .map none] 56))) := by
    have h := HB2.out.trans (hB3.mono HB2.out.size)
    exact h.alloc h.size _
  clear hB3
  go_wp2_with fail
  go_ret2
  exact ⟨rfl, HB3.out⟩

set_option maxRecDepth 100000 in
set_option maxHeartbeats 2000000 in
theorem cupSame_err {a : Nat → Addr} {s : Nat → ByteArray} {l : List (List Int)} {d : Int} {f g : List Int} {i : Nat} (hb : CoBad l [(d, f), (d, g)] i) (vl vf vg : Value) (w : World) (hE : Errs a s w) (hl : Rows w vl l) (hll : l.length ≤ 100000) (hle : ∀ x ∈ l, x.length ≤ 1000) (hf : Ints w vf f) (hfl : f.length ≤ 60) (hg : Ints w vg g) (hgl : g.length ≤ 60) :
    Calls Tryz.prog 19 #[.agg #[vl], .int .i64 d, vf, vg] w fun e w' => e = .returned (.tuple #[.bool false, .iface 184 (.pointer (some (a i)))]) ∧ Below w.heap.size w w' := by
  obtain ⟨al, cl, rfl, -, -⟩ := hl.open_
  have hB1 : Below w.heap.size w (w.alloc (.cells #[.slice al l.length cl] 36)) := (Below.refl _ w).alloc (Nat.le_refl _) _
  have hco := co_two (w.alloc (.cells #[.slice al l.length cl] 36)) vf vg d d f g 61 (hf.below hB1) (hg.below hB1)
  have hB2 : Below w.heap.size w ((w.alloc (.cells #[.slice al l.length cl] 36)).alloc (.cells #[.int .i64 d, vf, .int .i64 d, vg] 61)) := hB1.alloc (by simp) _
  have hc := cochains_err hb (.slice al l.length cl) _ 2 _ _ (hE.below hB2) (hl.below hB2) hll hle hco (by simp) (by intro c hc; simp at hc; rcases hc with rfl | rfl; exact hfl; exact hgl)
  have q0 := (box_new w (.slice al l.length cl) 36).1
  obtain ⟨ev, hev⟩ : ∃ ev : Addr, a i = ev := ⟨_, rfl⟩
  rw [hev] at hc ⊢
  obtain ⟨af, mf, cf, rfl⟩ : ∃ a m c, vf = .slice a m c := by obtain ⟨a, c, e, -⟩ := hf.open_; exact ⟨a, _, c, e⟩
  obtain ⟨ag, mg, cg, rfl⟩ : ∃ a m c, vg = .slice a m c := by obtain ⟨a, c, e, -⟩ := hg.open_; exact ⟨a, _, c, e⟩
  have HB2 := Hid.mk' hB2
  rw [World.size_alloc] at hc
  clear hE hl hll hle hb hev hB1 hB2 hco hf hfl hg hgl
  go_enter Tryz.func19, Tryz.ntmps19
  go_wp2_with fail
  refine hc.mono ?_
  clear hc
  rintro e2 W2 ⟨rfl, hB3⟩
  have HB3 : Hid (Below w.heap.size w (W2.alloc (.cells #[.slice none 0 0, .map none] 56))) := by
    have h := HB2.out.trans (hB3.mono HB2.out.size)
    exact h.alloc h.size _
  clear hB3
  go_wp2_with fail
  go_ret2
  exact ⟨rfl, HB3.out⟩

set_option maxRecDepth 100000 in
set_option maxHeartbeats 4000000 in
theorem cupCup_ok {a : Nat → Addr} {s : Nat → ByteArray} {l all : List (List Int)} {i k : Nat} {f h : List Int} (hg : Good l all) (h60 : all.length ≤ 60) (hd : i < topN all) (hd' : k < topN all) (ho : OkCo (ofDim all (i : Int)).length f) (ho' : OkCo (ofDim all (k : Int)).length h) (vl vf vh : Value) (w : World) (hE : Errs a s w) (hT : TabOk w) (hl : Rows w vl l) (hll : l.length ≤ 100000) (hle : ∀ x ∈ l, x.length ≤ 1000) (hf : Ints w vf f) (hfl : f.length ≤ 60) (hh : Ints w vh h) (hhl : h.length ≤ 60) :
    Calls Tryz.prog 16 #[.agg #[vl], .int .i64 (i : Int), vf, .int .i64 (k : Int), vh] w fun e w' => ∃ u, e = .returned (.tuple #[u, .nilIface]) ∧ IntsIn (fun b => w.heap.size ≤ b) w' u (bitsI (cupW all i k (maskN f) (maskN h))) ∧ Below w.heap.size w w' := by
  have h7 : topN all ≤ 7 := topN_upto hg.short
  obtain ⟨al, cl, rfl, -, -⟩ := hl.open_
  have hB1 : Below w.heap.size w (w.alloc (.cells #[.slice al l.length cl] 36)) := (Below.refl _ w).alloc (Nat.le_refl _) _
  have hco := co_two (w.alloc (.cells #[.slice al l.length cl] 36)) vf vh (i : Int) (k : Int) f h 61 (hf.below hB1) (hh.below hB1)
  have hB2 : Below w.heap.size w ((w.alloc (.cells #[.slice al l.length cl] 36)).alloc (.cells #[.int .i64 (i : Int), vf, .int .i64 (k : Int), vh] 61)) := hB1.alloc (by simp) _
  have hc := cochains_ok hg h60 (cs := [((i : Int), f), ((k : Int), h)]) (by intro c hc; simp at hc; rcases hc with rfl | rfl; exact ⟨by simp, by simpa using hd⟩; exact ⟨by simp, by simpa using hd'⟩) (by intro c hc; simp at hc; rcases hc with rfl | rfl; exact ho; exact ho') (.slice al l.length cl) _ 2 _ _ (hE.below hB2) (hl.below hB2) hll hle hco (by simp) (by intro c hc; simp at hc; rcases hc with rfl | rfl; exact hfl; exact hhl)
  have q0 := (box_new w (.slice al l.length cl) 36).1
  obtain ⟨af, mf, cf, rfl⟩ : ∃ a m c, vf = .slice a m c := by obtain ⟨a, c, e, -⟩ := hf.open_; exact ⟨a, _, c, e⟩
  obtain ⟨ah, mh, ch, rfl⟩ : ∃ a m c, vh = .slice a m c := by obtain ⟨a, c, e, -⟩ := hh.open_; exact ⟨a, _, c, e⟩
  have HB2 := Hid.mk' hB2
  have HT := Hid.mk' hT
  rw [World.size_alloc] at hc
  have HDE : Hid (∀ (v : Value) (W : World), ShapeAt W v all → Calls Tryz.prog 31 #[v, .int .i64 (i : Int), .int .i64 (k : Int)] W fun e w' => CupSaysF all i k W e w') := fun v W h1 => cup_ hg h60 v i k (by omega) (by omega) W h1
  have HC1 : Hid (∀ (S S' : Nat → Prop) (B p0 p1 p2 g1 g2 : Nat) (u v : Value) (W : World), EndsAt B (ofDim all ((i + k : Nat) : Int)).length W p0 p1 p2 g1 g2 (fun x => if x < (ofDim all ((i + k : Nat) : Int)).length then fstN all i k x else 0) (fun x => if x < (ofDim all ((i + k : Nat) : Int)).length then lstN all i k x else 0) → WordIn S W u (ofDim all (i : Int)).length (maskN f) → WordIn S' W v (ofDim all (k : Int)).length (maskN h) → Calls Tryz.prog 51 #[u, v, .pointer (some ⟨p0, 0, none⟩), .pointer (some ⟨p1, 0, none⟩), .pointer (some ⟨p2, 0, none⟩)] W fun e w' => ∃ r, e = .returned r ∧ WordIn (fun b => W.heap.size ≤ b) w' r (ofDim all ((i + k : Nat) : Int)).length (cupW all i k (maskN f) (maskN h)) ∧ Below W.heap.size W w') := fun S S' B p0 p1 p2 g1 g2 u v W h1 h2 h3 => cup1_ hg h60 i k B p0 p1 p2 g1 g2 (maskN f) (maskN h) u v W h1 h2 h3
  obtain ⟨X, hX⟩ : ∃ X, cupW all i k (maskN f) (maskN h) = X := ⟨_, rfl⟩
  rw [hX] at HC1 ⊢
  clear hE hl hll hle hg h60 hd hd' ho ho' hB1 hB2 hco hf hfl hh hhl hT hX h7
  go_enter Tryz.func16, Tryz.ntmps16
  go_wp2_with fail
  refine hc.mono ?_
  clear hc
  rintro e W2 ⟨B, aF, cF, g, av, cv, rfl, hb1, hb2, hS, hW, hB3⟩
  obtain ⟨G, rfl, hG1, hG2, hcl⟩ := hW.cellAt (by simp)
  obtain ⟨k1, kS, kW, kB⟩ := behind_good hb2 hS hW
  obtain ⟨a0, m0, c0, y0, yw⟩ := hcl 0 (by simp)
  obtain ⟨a1, m1, c1, z0, zw⟩ := hcl 1 (by simp)
  have HB3 : Hid (Below w.heap.size w (W2.alloc (.cells #[.slice aF (topN all) cF, .map (some g)] 56))) := by
    have h := HB2.out.trans (hB3.mono HB2.out.size)
    exact h.alloc h.size _
  have t0 := k1.1
  have t1 := k1.2
  have y1 := (kB.cell (p := ⟨G, 0, none⟩) hG2).trans y0
  have z1 := (kB.cell (p := ⟨G, 1, none⟩) hG2).trans z0
  obtain ⟨T, hT⟩ : ∃ T, topN all = T := ⟨_, rfl⟩
  rw [hT] at t0 t1 y1 z1 kS HB3 ⊢
  obtain ⟨W3, hW3⟩ : ∃ W3, W2.alloc (.cells #[.slice aF T cF, .map (some g)] 56) = W3 := ⟨_, rfl⟩
  have HW3 := Hid.mk' hW3
  rw [hT] at kB
  rw [hW3] at t0 t1 y1 z1 kS HB3 kB
  obtain ⟨Q, hQ⟩ : ∃ Q, W2.heap.size = Q := ⟨_, rfl⟩
  have HQ := Hid.mk' hQ
  rw [hQ] at t0 t1
  have HWD : Hid (WordIn (fun b => B ≤ b ∧ b ≠ G) W3 (.slice a0 m0 c0) (ofDim all (i : Int)).length (maskN f) ∧ WordIn (fun b => B ≤ b ∧ b ≠ G) W3 (.slice a1 m1 c1) (ofDim all (k : Int)).length (maskN h) ∧ ShapeAt W3 (.agg #[.slice aF T cF, .map (some g)]) all ∧ TabOk W3 ∧ Below W3.heap.size W3 W3 ∧ G < W3.heap.size) := ⟨yw.below kB, zw.below kB, kS.at, HT.out.below HB3.out, Below.refl _ _, by have := kB.size; omega⟩
  have HBE : Hid (∀ {A V : World}, Below W3.heap.size W3 A → Below A.heap.size A V → Below W3.heap.size W3 V) := fun {A V} h1 h2 => h1.trans (h2.mono h1.size)
  clear hb1 hb2 hS hW hB3 hG1 hG2 hcl k1 kS kW kB y0 yw z0 zw hT hW3 hQ
  go_upto_region 4 with fail
  rw [HW3.out, HQ.out]
  go_region_with (first
    | (go_at_call 31; refine (HDE.out _ _ (by first | exact HWD.out.2.2.1 | exact HWD.out.2.2.1.below HWD.out.2.2.2.2.1.drew)).mono ?_; rintro e Wc ⟨p0, p1, p2, g1, g2, rfl, hec, hbc⟩; have HEC := Hid.mk' hec; have HBC : Hid (Below W3.heap.size W3 Wc) := (by first | exact HBE.out HWD.out.2.2.2.2.1 hbc | exact HBE.out HWD.out.2.2.2.2.1.drew hbc); have yc := (HBC.out.cell (p := ⟨G, 0, none⟩) HWD.out.2.2.2.2.2).trans y1; have zc := (HBC.out.cell (p := ⟨G, 1, none⟩) HWD.out.2.2.2.2.2).trans z1; clear hec hbc)
    | (go_at_call 51; refine (HC1.out _ _ _ _ _ _ _ _ _ _ _ HEC.out (HWD.out.1.below HBC.out) (HWD.out.2.1.below HBC.out)).mono ?_; rintro e Wd ⟨r, rfl, hr, hbd⟩; obtain ⟨ar, mr, cr, rfl⟩ := hr.form; have HRD : Hid (WordIn (fun b => Wc.heap.size ≤ b) Wd (.slice ar mr cr) (ofDim all ((i + k : Nat) : Int)).length X ∧ Below W3.heap.size W3 Wd) := ⟨hr, HBE.out HBC.out hbd⟩; clear hr hbd)
    | (go_at_call 28; refine (told_row _ _ _ _ HRD.out.1 (HWD.out.2.2.2.1.below HRD.out.2)).mono ?_; rintro e We ⟨u, rfl, hu, hbe⟩; have HUE : Hid (IntsIn (fun b => w.heap.size ≤ b) We u (bitsI X) ∧ Below w.heap.size w We) := ⟨SliceIn.mono hu (fun b _ h => by have h' : Wd.heap.size ≤ b := h; have := HRD.out.2.size; have := HB3.out.size; show w.heap.size ≤ b; omega), (HB3.out.trans (HRD.out.2.mono HB3.out.size)).trans (hbe.mono (by have := HRD.out.2.size; have := HB3.out.size; omega))⟩; obtain ⟨au, cu, rfl, -, -⟩ := hu.open_; clear hu hbe))
  all_goals (
    go_wp2_with fail
    go_ret2
    exact ⟨_, rfl, HUE.out⟩)


end Go.Proofs.YtiblgnkjjbbmaaaGreatDoor

namespace Go.Proofs.YtiblgnkjjbbmaaaGreatDoor
open Go.RowKit Go.Sort

theorem filter_next (p : Nat → Bool) (k : Nat) : (List.range (k + 1)).filter p = if p k = true then (List.range k).filter p ++ [k] else (List.range k).filter p := by
  rw [List.range_succ, List.filter_append]
  cases h : p k <;> simp [h]
theorem drew_cell (w : World) (n : Nat) (p : Addr) : (w.drewN n).cell? p = w.cell? p := rfl
theorem drew_below {m : Nat} (w : World) (n : Nat) : Below m w (w.drewN n) := ⟨rfl, rfl, rfl, Nat.le_refl _, fun _ _ => rfl⟩

set_option maxRecDepth 100000 in
set_option maxHeartbeats 1000000 in
theorem cochainError_ (vf : Value) (n : Nat) (f : List Int) (w : World) (hf : Ints w vf f) (hl : f.length ≤ 60) :
    Calls Tryz.prog 9 #[vf, .int .i64 (n : Int)] w fun e w' => Below w.heap.size w w' ∧ ((OkCo n f ∧ e = .returned (.int .i64 0)) ∨ (¬ OkCo n f ∧ e = .returned (.int .i64 4))) := by
  obtain ⟨a, c, rfl, -, hx⟩ := hf.open_
  have HX := Hid.mk' hx
  obtain ⟨m, hm⟩ : ∃ m, f.length = m := ⟨_, rfl⟩
  have HM := Hid.mk' hm
  rw [hm] at hl hx ⊢
  clear hm hf hx
  go_enter Tryz.func9, Tryz.ntmps9
  go_wp2_with fail
  go_loopw [5] (fun p W => ∃ (k q : Nat), k ≤ m ∧ p = .int .i64 (k : Int) ∧ W = w.drewN q ∧ Hid (OkCo n (f.take k))) (fun p _ => m - (intOf p).toNat)
  case atStart => exact ⟨0, 0, by omega, rfl, rfl, ⟨by simp, by simp⟩⟩
  case round =>
    obtain ⟨k, q, hk, rfl, hw, HR⟩ := hrel
    have HW := Hid.mk' hw
    by_cases hlt : k < m
    · have hkf : k < f.length := by rw [HM.out]; exact hlt
      obtain ⟨b, o, rfl, -, hbl, hcs⟩ := HX.out (by omega)
      have g1 : wr.cell? ⟨b, o + k, none⟩ = some (.int .i64 (f[k]?.getD 0)) := by rw [hw]; exact hcs k hkf
      obtain ⟨x, hxk⟩ : ∃ x, f[k]?.getD 0 = x := ⟨_, rfl⟩
      rw [hxk] at g1
      have HK := Hid.mk' hxk
      have HS : Hid (OkCo n f → 0 ≤ x ∧ x < (n : Int) ∧ (0 < k → f[k - 1]?.getD 0 < x)) := fun h => by
        have h2 := (okCo_succ hkf).1 (okCo_take h (k + 1))
        rw [hxk] at h2
        exact h2.2
      have HS2 : Hid (0 ≤ x ∧ x < (n : Int) ∧ (0 < k → f[k - 1]?.getD 0 < x) → OkCo n (f.take (k + 1))) := fun h => (okCo_succ hkf).2 ⟨HR.out, by rw [hxk]; exact h⟩
      clear hxk
      by_cases h1 : x < 0
      · have h1b : decide (x < 0) = true := decide_eq_true h1
        have HN : Hid (¬ OkCo n f) := fun h => by have := HS.out h; omega
        clear hcs hbl HR hw
        go_wp2_with fail
        go_quiet (fail)
        go_wp2_with fail
        go_ret
        exact ⟨by rw [HW.out]; exact (drew_below w q).trans (drew_below _ _), .inr ⟨HN.out, rfl⟩⟩
      · have h1b : decide (x < 0) = false := decide_eq_false h1
        by_cases h2 : (n : Int) ≤ x
        · have h2b : decide ((n : Int) ≤ x) = true := decide_eq_true h2
          have HN : Hid (¬ OkCo n f) := fun h => by have := HS.out h; omega
          clear hcs hbl HR hw
          go_wp2_with fail
          go_quiet (fail)
          go_wp2_with fail
          go_ret
          exact ⟨by rw [HW.out]; exact (drew_below w q).trans (drew_below _ _), .inr ⟨HN.out, rfl⟩⟩
        · have h2b : decide ((n : Int) ≤ x) = false := decide_eq_false h2
          rcases Nat.eq_zero_or_pos k with h0 | h0
          · have h0b : decide (0 < (k : Int)) = false := decide_eq_false (by omega)
            have HO : Hid (OkCo n (f.take (k + 1))) := HS2.out ⟨by omega, by omega, fun h => by omega⟩
            have H0 := Hid.mk' h0
            have h0c : decide (0 < k) = false := decide_eq_false (by omega)
            have h0d : ¬ (0 < k) := by omega
            clear h0
            clear hcs hbl HR hw HS HS2
            go_wp2_with fail
            go_quiet (fail)
            go_wp2_with fail
            go_roundw
            case rel => exact ⟨k + 1, _, by omega, by go_num, by rw [HW.out, World.drewN_drewN], HO.out⟩
            case measure => simp [intOf]; omega
          · have h0b : decide (0 < (k : Int)) = true := decide_eq_true (by omega)
            obtain ⟨j, rfl⟩ : ∃ j, k = j + 1 := ⟨k - 1, by omega⟩
            have g2 : wr.cell? ⟨b, o + j, none⟩ = some (.int .i64 (f[j]?.getD 0)) := by rw [hw]; exact hcs j (by omega)
            obtain ⟨y, hyk⟩ : ∃ y, f[j]?.getD 0 = y := ⟨_, rfl⟩
            rw [hyk] at g2
            rw [Nat.add_sub_cancel, hyk] at HS HS2
            have ew : IntKind.i64.wrap (((j + 1 : Nat) : Int) - 1) = (j : Int) := by rw [IntKind.wrap_i64]; omega
            have ew2 : (((j + 1 : Nat) : Int) - 1) = (j : Int) := by omega
            by_cases h3 : x ≤ y
            · have h3b : decide (x ≤ y) = true := decide_eq_true h3
              have HN : Hid (¬ OkCo n f) := fun h => by have := (HS.out h).2.2 (by omega); omega
              clear hcs hbl HR hw hyk
              go_wp2_with fail
              go_quiet (fail)
              go_wp2_with fail
              go_ret
              exact ⟨by rw [HW.out]; exact (drew_below w q).trans (drew_below _ _), .inr ⟨HN.out, rfl⟩⟩
            · have h3b : decide (x ≤ y) = false := decide_eq_false h3
              have HO : Hid (OkCo n (f.take (j + 1 + 1))) := HS2.out ⟨by omega, by omega, fun _ => by omega⟩
              clear hcs hbl HR hw HS HS2 hyk
              go_wp2_with fail
              go_quiet (fail)
              go_wp2_with fail
              go_roundw
              case rel => exact ⟨j + 1 + 1, _, by omega, by go_num, by rw [HW.out, World.drewN_drewN], HO.out⟩
              case measure => simp [intOf]; omega
    · have hkm : k = m := by omega
      subst hkm
      have HO : Hid (OkCo n f) := by
        have h1 := HR.out
        rw [← HM.out, List.take_length] at h1
        exact h1
      clear hw
      go_wp2_with fail
      go_ret
      exact ⟨by rw [HW.out]; exact drew_below w q, .inl ⟨HO.out, rfl⟩⟩

end Go.Proofs.YtiblgnkjjbbmaaaGreatDoor
