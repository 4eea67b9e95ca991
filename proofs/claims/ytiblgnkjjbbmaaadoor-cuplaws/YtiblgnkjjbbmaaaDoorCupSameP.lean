/- The program's Cup and Same: errors, and Cup. Whether two words are cocycles of one class, as the program says it. -/
import Derived.Test.YtiblgnkjjbbmaaaDoorCupFaces1
import Derived.Test.YtiblgnkjjbbmaaaDoorCupClasses2
namespace Go.Proofs.YtiblgnkjjbbmaaaDoor
open Go.RowKit Go.Sort Go.Maps Go.Deep

set_option maxRecDepth 100000 in
set_option maxHeartbeats 2000000 in
theorem cupCup_err {a : Nat → Addr} {s : Nat → ByteArray} {l : List (List Int)} {d e : Int} {f g : List Int} {i : Nat} (hb : CoBad l [(d, f), (e, g)] i) (vl vf vg : Value) (w : World) (hE : Errs a s w) (hl : Rows w vl l) (hll : l.length ≤ 100000) (hle : ∀ x ∈ l, x.length ≤ 1000) (hf : Ints w vf f) (hfl : f.length ≤ 60) (hg : Ints w vg g) (hgl : g.length ≤ 60) :
    Calls Tryd.prog 10 #[.agg #[vl], .int .i64 d, vf, .int .i64 e, vg] w fun e w' => e = .returned (.tuple #[.slice none 0 0, .iface 133 (.pointer (some (a i)))]) ∧ Below w.heap.size w w' := by
  obtain ⟨al, cl, rfl, -, -⟩ := hl.open_
  have hB1 : Below w.heap.size w (w.alloc (.cells #[.slice al l.length cl] 30)) := (Below.refl _ w).alloc (Nat.le_refl _) _
  have hco := co_two (w.alloc (.cells #[.slice al l.length cl] 30)) vf vg d e f g 55 (hf.below hB1) (hg.below hB1)
  have hB2 : Below w.heap.size w ((w.alloc (.cells #[.slice al l.length cl] 30)).alloc (.cells #[.int .i64 d, vf, .int .i64 e, vg] 55)) := hB1.alloc (by simp) _
  have hc := cochains_err hb (.slice al l.length cl) _ 2 _ _ (hE.below hB2) (hl.below hB2) hll hle hco (by simp) (by intro c hc; simp at hc; rcases hc with rfl | rfl; exact hfl; exact hgl)
  have q0 := (box_new w (.slice al l.length cl) 30).1
  obtain ⟨ev, hev⟩ : ∃ ev : Addr, a i = ev := ⟨_, rfl⟩
  rw [hev] at hc ⊢
  obtain ⟨af, mf, cf, rfl⟩ : ∃ a m c, vf = .slice a m c := by obtain ⟨a, c, e, -⟩ := hf.open_; exact ⟨a, _, c, e⟩
  obtain ⟨ag, mg, cg, rfl⟩ : ∃ a m c, vg = .slice a m c := by obtain ⟨a, c, e, -⟩ := hg.open_; exact ⟨a, _, c, e⟩
  have HB2 := Hid.mk' hB2
  rw [World.size_alloc] at hc
  clear hE hl hll hle hb hev hB1 hB2 hco hf hfl hg hgl
  go_enter Tryd.func10, Tryd.ntmps10
  go_wp2_with fail
  refine hc.mono ?_
  clear hc
  rintro e2 W2 ⟨rfl, hB3⟩
  have HB3 : Hid (Below w.heap.size w (W2.alloc (.cells #[.slice none 0 0, .map none] 50))) := by
    have h := HB2.out.trans (hB3.mono HB2.out.size)
    exact h.alloc h.size _
  clear hB3
  go_wp2_with fail
  go_ret2
  exact ⟨rfl, HB3.out⟩

set_option maxRecDepth 100000 in
set_option maxHeartbeats 2000000 in
theorem cupSame_err {a : Nat → Addr} {s : Nat → ByteArray} {l : List (List Int)} {d : Int} {f g : List Int} {i : Nat} (hb : CoBad l [(d, f), (d, g)] i) (vl vf vg : Value) (w : World) (hE : Errs a s w) (hl : Rows w vl l) (hll : l.length ≤ 100000) (hle : ∀ x ∈ l, x.length ≤ 1000) (hf : Ints w vf f) (hfl : f.length ≤ 60) (hg : Ints w vg g) (hgl : g.length ≤ 60) :
    Calls Tryd.prog 14 #[.agg #[vl], .int .i64 d, vf, vg] w fun e w' => e = .returned (.tuple #[.bool false, .iface 133 (.pointer (some (a i)))]) ∧ Below w.heap.size w w' := by
  obtain ⟨al, cl, rfl, -, -⟩ := hl.open_
  have hB1 : Below w.heap.size w (w.alloc (.cells #[.slice al l.length cl] 30)) := (Below.refl _ w).alloc (Nat.le_refl _) _
  have hco := co_two (w.alloc (.cells #[.slice al l.length cl] 30)) vf vg d d f g 55 (hf.below hB1) (hg.below hB1)
  have hB2 : Below w.heap.size w ((w.alloc (.cells #[.slice al l.length cl] 30)).alloc (.cells #[.int .i64 d, vf, .int .i64 d, vg] 55)) := hB1.alloc (by simp) _
  have hc := cochains_err hb (.slice al l.length cl) _ 2 _ _ (hE.below hB2) (hl.below hB2) hll hle hco (by simp) (by intro c hc; simp at hc; rcases hc with rfl | rfl; exact hfl; exact hgl)
  have q0 := (box_new w (.slice al l.length cl) 30).1
  obtain ⟨ev, hev⟩ : ∃ ev : Addr, a i = ev := ⟨_, rfl⟩
  rw [hev] at hc ⊢
  obtain ⟨af, mf, cf, rfl⟩ : ∃ a m c, vf = .slice a m c := by obtain ⟨a, c, e, -⟩ := hf.open_; exact ⟨a, _, c, e⟩
  obtain ⟨ag, mg, cg, rfl⟩ : ∃ a m c, vg = .slice a m c := by obtain ⟨a, c, e, -⟩ := hg.open_; exact ⟨a, _, c, e⟩
  have HB2 := Hid.mk' hB2
  rw [World.size_alloc] at hc
  clear hE hl hll hle hb hev hB1 hB2 hco hf hfl hg hgl
  go_enter Tryd.func14, Tryd.ntmps14
  go_wp2_with fail
  refine hc.mono ?_
  clear hc
  rintro e2 W2 ⟨rfl, hB3⟩
  have HB3 : Hid (Below w.heap.size w (W2.alloc (.cells #[.slice none 0 0, .map none] 50))) := by
    have h := HB2.out.trans (hB3.mono HB2.out.size)
    exact h.alloc h.size _
  clear hB3
  go_wp2_with fail
  go_ret2
  exact ⟨rfl, HB3.out⟩

set_option maxRecDepth 100000 in
set_option maxHeartbeats 4000000 in
theorem cupCup_ok {a : Nat → Addr} {s : Nat → ByteArray} {l all : List (List Int)} {i k : Nat} {f h : List Int} (hg : Good l all) (h60 : all.length ≤ 60) (hd : i < topN all) (hd' : k < topN all) (ho : OkCo (ofDim all (i : Int)).length f) (ho' : OkCo (ofDim all (k : Int)).length h) (vl vf vh : Value) (w : World) (hE : Errs a s w) (hT : TabOk w) (hl : Rows w vl l) (hll : l.length ≤ 100000) (hle : ∀ x ∈ l, x.length ≤ 1000) (hf : Ints w vf f) (hfl : f.length ≤ 60) (hh : Ints w vh h) (hhl : h.length ≤ 60) :
    Calls Tryd.prog 10 #[.agg #[vl], .int .i64 (i : Int), vf, .int .i64 (k : Int), vh] w fun e w' => ∃ u, e = .returned (.tuple #[u, .nilIface]) ∧ IntsIn (fun b => w.heap.size ≤ b) w' u (bitsI (cupW all i k (maskN f) (maskN h))) ∧ Below w.heap.size w w' := by
  have h7 : topN all ≤ 7 := topN_upto hg.short
  obtain ⟨al, cl, rfl, -, -⟩ := hl.open_
  have hB1 : Below w.heap.size w (w.alloc (.cells #[.slice al l.length cl] 30)) := (Below.refl _ w).alloc (Nat.le_refl _) _
  have hco := co_two (w.alloc (.cells #[.slice al l.length cl] 30)) vf vh (i : Int) (k : Int) f h 55 (hf.below hB1) (hh.below hB1)
  have hB2 : Below w.heap.size w ((w.alloc (.cells #[.slice al l.length cl] 30)).alloc (.cells #[.int .i64 (i : Int), vf, .int .i64 (k : Int), vh] 55)) := hB1.alloc (by simp) _
  have hc := cochains_ok hg h60 (cs := [((i : Int), f), ((k : Int), h)]) (by intro c hc; simp at hc; rcases hc with rfl | rfl; exact ⟨by simp, by simpa using hd⟩; exact ⟨by simp, by simpa using hd'⟩) (by intro c hc; simp at hc; rcases hc with rfl | rfl; exact ho; exact ho') (.slice al l.length cl) _ 2 _ _ (hE.below hB2) (hl.below hB2) hll hle hco (by simp) (by intro c hc; simp at hc; rcases hc with rfl | rfl; exact hfl; exact hhl)
  have q0 := (box_new w (.slice al l.length cl) 30).1
  obtain ⟨af, mf, cf, rfl⟩ : ∃ a m c, vf = .slice a m c := by obtain ⟨a, c, e, -⟩ := hf.open_; exact ⟨a, _, c, e⟩
  obtain ⟨ah, mh, ch, rfl⟩ : ∃ a m c, vh = .slice a m c := by obtain ⟨a, c, e, -⟩ := hh.open_; exact ⟨a, _, c, e⟩
  have HB2 := Hid.mk' hB2
  have HT := Hid.mk' hT
  rw [World.size_alloc] at hc
  have HDE : Hid (∀ (v : Value) (W : World), ShapeAt W v all → Calls Tryd.prog 23 #[v, .int .i64 (i : Int), .int .i64 (k : Int)] W fun e w' => CupSaysF all i k W e w') := fun v W h1 => cup_ hg h60 v i k (by omega) (by omega) W h1
  have HC1 : Hid (∀ (S S' : Nat → Prop) (B p0 p1 p2 g1 g2 : Nat) (u v : Value) (W : World), EndsAt B (ofDim all ((i + k : Nat) : Int)).length W p0 p1 p2 g1 g2 (fun x => if x < (ofDim all ((i + k : Nat) : Int)).length then fstN all i k x else 0) (fun x => if x < (ofDim all ((i + k : Nat) : Int)).length then lstN all i k x else 0) → WordIn S W u (ofDim all (i : Int)).length (maskN f) → WordIn S' W v (ofDim all (k : Int)).length (maskN h) → Calls Tryd.prog 37 #[u, v, .pointer (some ⟨p0, 0, none⟩), .pointer (some ⟨p1, 0, none⟩), .pointer (some ⟨p2, 0, none⟩)] W fun e w' => ∃ r, e = .returned r ∧ WordIn (fun b => W.heap.size ≤ b) w' r (ofDim all ((i + k : Nat) : Int)).length (cupW all i k (maskN f) (maskN h)) ∧ Below W.heap.size W w') := fun S S' B p0 p1 p2 g1 g2 u v W h1 h2 h3 => cup1_ hg h60 i k B p0 p1 p2 g1 g2 (maskN f) (maskN h) u v W h1 h2 h3
  obtain ⟨X, hX⟩ : ∃ X, cupW all i k (maskN f) (maskN h) = X := ⟨_, rfl⟩
  rw [hX] at HC1 ⊢
  clear hE hl hll hle hg h60 hd hd' ho ho' hB1 hB2 hco hf hfl hh hhl hT hX h7
  go_enter Tryd.func10, Tryd.ntmps10
  go_wp2_with fail
  refine hc.mono ?_
  clear hc
  rintro e W2 ⟨B, aF, cF, g, av, cv, rfl, hb1, hb2, hS, hW, hB3⟩
  obtain ⟨G, rfl, hG1, hG2, hcl⟩ := hW.cellAt (by simp)
  obtain ⟨k1, kS, kW, kB⟩ := behind_good hb2 hS hW
  obtain ⟨a0, m0, c0, y0, yw⟩ := hcl 0 (by simp)
  obtain ⟨a1, m1, c1, z0, zw⟩ := hcl 1 (by simp)
  have HB3 : Hid (Below w.heap.size w (W2.alloc (.cells #[.slice aF (topN all) cF, .map (some g)] 50))) := by
    have h := HB2.out.trans (hB3.mono HB2.out.size)
    exact h.alloc h.size _
  have t0 := k1.1
  have t1 := k1.2
  have y1 := (kB.cell (p := ⟨G, 0, none⟩) hG2).trans y0
  have z1 := (kB.cell (p := ⟨G, 1, none⟩) hG2).trans z0
  obtain ⟨T, hT⟩ : ∃ T, topN all = T := ⟨_, rfl⟩
  rw [hT] at t0 t1 y1 z1 kS HB3 ⊢
  obtain ⟨W3, hW3⟩ : ∃ W3, W2.alloc (.cells #[.slice aF T cF, .map (some g)] 50) = W3 := ⟨_, rfl⟩
  have HW3 := Hid.mk' hW3
  rw [hT] at kB
  rw [hW3] at t0 t1 y1 z1 kS HB3 kB
  obtain ⟨Q, hQ⟩ : ∃ Q, W2.heap.size = Q := ⟨_, rfl⟩
  have HQ := Hid.mk' hQ
  rw [hQ] at t0 t1
  have HWD : Hid (WordIn (fun b => B ≤ b ∧ b ≠ G) W3 (.slice a0 m0 c0) (ofDim all (i : Int)).length (maskN f) ∧ WordIn (fun b => B ≤ b ∧ b ≠ G) W3 (.slice a1 m1 c1) (ofDim all (k : Int)).length (maskN h) ∧ ShapeAt W3 (.agg #[.slice aF T cF, .map (some g)]) all ∧ TabOk W3 ∧ Below W3.heap.size W3 W3 ∧ G < W3.heap.size) := ⟨yw.below kB, zw.below kB, kS.at, HT.out.below HB3.out, Below.refl _ _, by have := kB.size; omega⟩
  have HBE : Hid (∀ {A V : World}, Below W3.heap.size W3 A → Below A.heap.size A V → Below W3.heap.size W3 V) := fun {A V} h1 h2 => h1.trans (h2.mono h1.size)
  clear hb1 hb2 hS hW hB3 hG1 hG2 hcl k1 kS kW kB y0 yw z0 zw hT hW3 hQ
  go_upto_region 4 with fail
  rw [HW3.out, HQ.out]
  go_region_with (first
    | (go_at_call 23; refine (HDE.out _ _ (by first | exact HWD.out.2.2.1 | exact HWD.out.2.2.1.below HWD.out.2.2.2.2.1.drew)).mono ?_; rintro e Wc ⟨p0, p1, p2, g1, g2, rfl, hec, hbc⟩; have HEC := Hid.mk' hec; have HBC : Hid (Below W3.heap.size W3 Wc) := (by first | exact HBE.out HWD.out.2.2.2.2.1 hbc | exact HBE.out HWD.out.2.2.2.2.1.drew hbc); have yc := (HBC.out.cell (p := ⟨G, 0, none⟩) HWD.out.2.2.2.2.2).trans y1; have zc := (HBC.out.cell (p := ⟨G, 1, none⟩) HWD.out.2.2.2.2.2).trans z1; clear hec hbc)
    | (go_at_call 37; refine (HC1.out _ _ _ _ _ _ _ _ _ _ _ HEC.out (HWD.out.1.below HBC.out) (HWD.out.2.1.below HBC.out)).mono ?_; rintro e Wd ⟨r, rfl, hr, hbd⟩; obtain ⟨ar, mr, cr, rfl⟩ := hr.form; have HRD : Hid (WordIn (fun b => Wc.heap.size ≤ b) Wd (.slice ar mr cr) (ofDim all ((i + k : Nat) : Int)).length X ∧ Below W3.heap.size W3 Wd) := ⟨hr, HBE.out HBC.out hbd⟩; clear hr hbd)
    | (go_at_call 22; refine (told_row _ _ _ _ HRD.out.1 (HWD.out.2.2.2.1.below HRD.out.2)).mono ?_; rintro e We ⟨u, rfl, hu, hbe⟩; have HUE : Hid (IntsIn (fun b => w.heap.size ≤ b) We u (bitsI X) ∧ Below w.heap.size w We) := ⟨SliceIn.mono hu (fun b _ h => by have h' : Wd.heap.size ≤ b := h; have := HRD.out.2.size; have := HB3.out.size; show w.heap.size ≤ b; omega), (HB3.out.trans (HRD.out.2.mono HB3.out.size)).trans (hbe.mono (by have := HRD.out.2.size; have := HB3.out.size; omega))⟩; obtain ⟨au, cu, rfl, -, -⟩ := hu.open_; clear hu hbe))
  all_goals (
    go_wp2_with fail
    go_ret2
    exact ⟨_, rfl, HUE.out⟩)


end Go.Proofs.YtiblgnkjjbbmaaaDoor

namespace Go.Proofs.YtiblgnkjjbbmaaaDoor
open Go.RowKit Go.Sort

/-- Whether two words are cocycles of one class, as the program says it. -/
def sameP (all : List (List Int)) (d x y : Nat) : Bool := decide (deltaW all d x = 0) && decide (deltaW all d y = 0) && decide (redB (fedB (rowsD all d)) (x ^^^ y) = 0)

end Go.Proofs.YtiblgnkjjbbmaaaDoor
