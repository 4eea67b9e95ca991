/- What neighbours answers: the squares beside a square that are alike, itself among them. -/
import Derived.Test.YtbmojlnkjeapkaaGreatDoorHeldQuiet
import Derived.Test.YtbmojlnkjeapkaaGreatDoorCubeBad
import Derived.Deep.DeepCutAuto
namespace Go.Proofs.YtbmojlnkjeapkaaGreatDoor
open Go.RowKit Go.Sort Go.Maps

/-- The squares that the looks ahead of this one have found. -/
def NearTo (m : List (List UInt8)) (w h : Nat) (c : Bool) (a : Sq) (dy dx : Int) (ns : List Sq) : Prop := ∀ b, b ∈ ns ↔ StepTo m w h c a b ∧ (b.2 - a.2 < dy ∨ b.2 - a.2 = dy ∧ b.1 - a.1 < dx)

theorem near_start {m : List (List UInt8)} {w h : Nat} {c : Bool} {a : Sq} : NearTo m w h c a (-1) (-1) [] := fun b => by
  constructor
  · intro hb; cases hb
  · rintro ⟨⟨_, _, _, h1, h2, h3, h4, _⟩, h6⟩
    omega
theorem near_skip {m : List (List UInt8)} {w h : Nat} {c : Bool} {a : Sq} {dy dx : Int} {ns : List Sq} (hn : NearTo m w h c a dy dx ns) (hs : ¬ StepTo m w h c a (a.1 + dx, a.2 + dy)) : NearTo m w h c a dy (dx + 1) ns := fun b => by
  rw [hn b]
  constructor
  · rintro ⟨h1, h2⟩; exact ⟨h1, by omega⟩
  · rintro ⟨h1, h2⟩
    refine ⟨h1, ?_⟩
    by_cases e : b.2 - a.2 = dy ∧ b.1 - a.1 = dx
    · exact absurd (show StepTo m w h c a (a.1 + dx, a.2 + dy) by
        have : b = (a.1 + dx, a.2 + dy) := Prod.ext (by simp only; omega) (by simp only; omega)
        rw [← this]; exact h1) hs
    · omega
theorem near_push {m : List (List UInt8)} {w h : Nat} {c : Bool} {a : Sq} {dy dx : Int} {ns : List Sq} (hn : NearTo m w h c a dy dx ns) (hs : StepTo m w h c a (a.1 + dx, a.2 + dy)) : NearTo m w h c a dy (dx + 1) (ns ++ [(a.1 + dx, a.2 + dy)]) := fun b => by
  rw [List.mem_append, hn b, List.mem_singleton]
  constructor
  · rintro (⟨h1, h2⟩ | rfl)
    · exact ⟨h1, by omega⟩
    · exact ⟨hs, by simp only; omega⟩
  · rintro ⟨h1, h2⟩
    by_cases e : b.2 - a.2 = dy ∧ b.1 - a.1 = dx
    · exact .inr (Prod.ext (by simp only; omega) (by simp only; omega))
    · exact .inl ⟨h1, by omega⟩
theorem near_row {m : List (List UInt8)} {w h : Nat} {c : Bool} {a : Sq} {dy : Int} {ns : List Sq} (hn : NearTo m w h c a dy 2 ns) : NearTo m w h c a (dy + 1) (-1) ns := fun b => by
  rw [hn b]
  constructor
  · rintro ⟨h1, h2⟩; exact ⟨h1, by omega⟩
  · rintro ⟨h1, h2⟩
    have := h1.2.2.2
    unfold NearBy at this
    exact ⟨h1, by omega⟩
theorem near_end {m : List (List UInt8)} {w h : Nat} {c : Bool} {a : Sq} {ns : List Sq} (hn : NearTo m w h c a 2 (-1) ns) : ∀ b, b ∈ ns ↔ StepTo m w h c a b := fun b => by
  rw [hn b]
  refine ⟨fun h => h.1, fun h => ⟨h, ?_⟩⟩
  have := h.2.2.2
  unfold NearBy at this
  omega

/-- How far. -/
def farN (c : Bool) : Int := if c then 2 else 1
theorem far_near {c : Bool} {dx dy : Int} (h1 : -1 ≤ dx) (h2 : dx ≤ 1) (h3 : -1 ≤ dy) (h4 : dy ≤ 1) : dx * dx + dy * dy ≤ farN c ↔ NearBy c dx dy := by
  unfold NearBy farN
  have ex : dx = -1 ∨ dx = 0 ∨ dx = 1 := by omega
  have ey : dy = -1 ∨ dy = 0 ∨ dy = 1 := by omega
  rcases ex with rfl | rfl | rfl <;> rcases ey with rfl | rfl | rfl <;> cases c <;> decide

theorem sq_small {dx : Int} (h1 : -1 ≤ dx) (h2 : dx ≤ 1) : 0 ≤ dx * dx ∧ dx * dx ≤ 1 := by
  have ex : dx = -1 ∨ dx = 0 ∨ dx = 1 := by omega
  rcases ex with rfl | rfl | rfl <;> decide

/-- What neighbours answers. -/
def NearSays (m : List (List UInt8)) (c : Bool) (a : Sq) (w : World) (e : Ending) (w' : World) : Prop :=
  ∃ v ns, e = .returned v ∧ SqIn (fun b => w.heap.size ≤ b) w' v ns ∧ (∀ b, b ∈ ns ↔ StepTo m (wide m) m.length c a b) ∧ ns.length ≤ 9 ∧ Below w.heap.size w w'

set_option maxRecDepth 100000 in
set_option maxHeartbeats 4000000 in
theorem neighbours_ (vm : Value) (m : List (List UInt8)) (w : World) (hm : Strs w vm m) (hi : Img m) (c : Bool) (ax ay : Nat) (hax : ax < wide m) (hay : ay < m.length) :
    Calls Tryz.prog 65 #[vm, cornerV ((ax : Int), (ay : Int)), .int .i64 (farN c)] w fun e w' => NearSays m c ((ax : Int), (ay : Int)) w e w' := by
  obtain ⟨i0, hi0, hz0, hz1, hz2⟩ := info_parts Tryz.info59
  have hrows := hi.rows
  have hcols := hi.cols
  have hplus : ∀ (dx dy : Int) (V : World), (-1 ≤ dx ∧ dx ≤ 1) → (-1 ≤ dy ∧ dy ≤ 1) → Calls Tryz.prog 45 #[cornerV ((ax : Int), (ay : Int)), .int .i64 dx, .int .i64 dy] V fun e w' => e = .returned (cornerV ((ax : Int) + dx, (ay : Int) + dy)) ∧ Below V.heap.size V w' := fun dx dy V h1 h2 => plus_ ax ay dx dy (by omega) (by omega) h1 h2 V
  have hin : ∀ (x y : Int) (V : World), Below w.heap.size w V → (-1000000 ≤ x ∧ x ≤ 1000000) → (-1000000 ≤ y ∧ y ≤ 1000000) → Calls Tryz.prog 66 #[vm, cornerV (x, y)] V fun e w' => e = .returned (.bool (decide (InSq (wide m) m.length (x, y)))) ∧ Below V.heap.size V w' := fun x y V hV hx hy => inside_ vm m V (hm.below hV) hi x y hx hy
  have HI : Hid (Img m) := hi
  obtain ⟨am, ca, rfl, -, ha⟩ := hm.open_
  obtain ⟨b, o, rfl, -, hbw, hcell⟩ := ha (by omega)
  have HCE : Hid (∀ k, k < m.length → w.cell? ⟨b, o + k, none⟩ = some (encStr (m[k]?.getD []))) := hcell
  have hBa : Below w.heap.size w (w.alloc (.cells #[.int .i64 (ax : Int), .int .i64 (ay : Int)] 59)) := (Below.refl _ w).alloc (Nat.le_refl _) _
  have h2 := two_cells w (.int .i64 (ax : Int)) (.int .i64 (ay : Int)) 59
  clear hm hi ha hcell
  unfold cornerV at hplus hin ⊢
  go_enter Tryz.func65, Tryz.ntmps65
  go_upto_region 1 with fail
  obtain ⟨W1, hW1⟩ : ∃ W1, w.alloc (.cells #[.int .i64 (ax : Int), .int .i64 (ay : Int)] 59) = W1 := ⟨_, rfl⟩
  obtain ⟨ab, hab⟩ : ∃ ab, w.heap.size = ab := ⟨_, rfl⟩
  have HAB : Hid (w.heap.size = ab) := hab
  have hl1 : ab < W1.heap.size := by rw [← hW1, ← hab]; simp
  rw [hW1, hab] at h2 hBa
  rw [hab] at hin hbw
  rw [hW1, hab]
  clear hW1 hab
  go_wp2_with fail
  go_loopw [7, 8] (fun v p W => ∃ (dy : Int) (ns : List Sq), (-1 ≤ dy ∧ dy ≤ 2) ∧ p = .int .i64 dy ∧ Hid (SqRow W1.heap.size W v ns ∧ NearTo m (wide m) m.length c ((ax : Int), (ay : Int)) dy (-1) ns ∧ (ns.length : Int) ≤ 3 * (dy + 1)) ∧ Hid (Below W1.heap.size W1 W)) (fun _ p _ => (2 - intOf p).toNat)
  case atStart => exact ⟨-1, [], by omega, rfl, ⟨World.ownsRow_nil _ _ _ _, near_start, by simp⟩, Below.refl _ _⟩
  case round =>
    obtain ⟨dy, ns, hdy, rfl, HS, HB⟩ := hrel
    by_cases hlt : dy ≤ 1
    · go_wp2_with fail
      go_loopw [7, 9] (fun v p W => ∃ (dx : Int) (ns : List Sq), (-1 ≤ dx ∧ dx ≤ 2) ∧ p = .int .i64 dx ∧ Hid (SqRow W1.heap.size W v ns ∧ NearTo m (wide m) m.length c ((ax : Int), (ay : Int)) dy dx ns ∧ (ns.length : Int) ≤ 3 * (dy + 1) + (dx + 1)) ∧ Hid (Below W1.heap.size W1 W)) (fun _ p _ => (2 - intOf p).toNat)
      case atStart => exact ⟨-1, ns, by omega, rfl, ⟨HS.out.1, HS.out.2.1, by have := HS.out.2.2; omega⟩, HB.out⟩
      case round =>
        obtain ⟨dx, ns2, hdx, rfl, HSx, HBx⟩ := hrel
        clear HS HB
        by_cases hdt : dx ≤ 1
        · have c0 := (HBx.out.cell (p := ⟨ab, 0, none⟩) hl1).trans h2.1
          have c1 := (HBx.out.cell (p := ⟨ab, 1, none⟩) hl1).trans h2.2
          have hpl := hplus dx dy wr (by omega) (by omega)
          go_upto_region 9 with (go_at_call 45; refine hpl.mono ?_; rintro e w2 ⟨rfl, hB2⟩; have HB2 : Hid (Below wr.heap.size wr w2) := hB2; clear hB2)
          obtain ⟨W3, hW3⟩ : ∃ W3, w2.alloc (.cells #[.int .i64 ((ax : Int) + dx), .int .i64 ((ay : Int) + dy)] 59) = W3 := ⟨_, rfl⟩
          obtain ⟨nb, hnb⟩ : ∃ nb, w2.heap.size = nb := ⟨_, rfl⟩
          have h3 := two_cells w2 (.int .i64 ((ax : Int) + dx)) (.int .i64 ((ay : Int) + dy)) 59
          have hl3 : nb < W3.heap.size := by rw [← hW3, ← hnb]; simp
          have hB3 : Below wr.heap.size wr W3 := by rw [← hW3]; exact HB2.out.alloc HB2.out.size _
          have hls : W1.heap.size ≤ wr.heap.size := HBx.out.size
          have hls3 : wr.heap.size ≤ W3.heap.size := hB3.size
          have HB3 : Hid (Below wr.heap.size wr W3) := hB3
          have hBw3 : Below ab w W3 := hBa.trans ((HBx.out.trans (hB3.mono hls)).mono (by omega))
          rw [hW3, hnb] at h3
          rw [hW3, hnb]
          have e0 := (hB3.cell (p := ⟨ab, 0, none⟩) (by simp only; omega)).trans c0
          have e1 := (hB3.cell (p := ⟨ab, 1, none⟩) (by simp only; omega)).trans c1
          have n0 := h3.1
          have n1 := h3.2
          have s1 := sq_small hdx.1 hdt
          have s2 := sq_small hdy.1 hlt
          have p1 : IntKind.i64.wrap (dx * dx) = dx * dx := wrapI (by omega) (by omega)
          have p2 : IntKind.i64.wrap (dy * dy) = dy * dy := wrapI (by omega) (by omega)
          have p3 : IntKind.i64.wrap (dx * dx + dy * dy) = dx * dx + dy * dy := wrapI (by omega) (by omega)
          have hfn := far_near (c := c) hdx.1 hdt hdy.1 hlt
          clear hW3 hpl hB3 h3
          go_cut [55] from 19 to 55 (fun s wx => ∃ z : Bool, s = .bool z ∧ Hid (z = true ↔ StepTo m (wide m) m.length c ((ax : Int), (ay : Int)) ((ax : Int) + dx, (ay : Int) + dy)) ∧ Hid (Below W3.heap.size W3 wx))
          case first =>
            by_cases hN : NearBy c dx dy
            · have hd : dx * dx + dy * dy ≤ farN c := hfn.2 hN
              have HNB : Hid (NearBy c dx dy) := hN
              have hinn : ∀ V, Below W3.heap.size W3 V → _ := fun V hV => hin ((ax : Int) + dx) ((ay : Int) + dy) V (hBw3.trans (hV.mono (by omega))) (by omega) (by omega)
              clear hfn hN s1 s2
              by_cases hI : InSq (wide m) m.length ((ax : Int) + dx, (ay : Int) + dy)
              · rw [decide_eq_true hI] at hinn
                have HII : Hid (InSq (wide m) m.length ((ax : Int) + dx, (ay : Int) + dy)) := hI
                obtain ⟨k1, k2, k3, k4⟩ := hI
                simp only at k1 k2 k3 k4
                obtain ⟨nx, hnx⟩ : ∃ nx : Nat, (ax : Int) + dx = (nx : Int) := ⟨((ax : Int) + dx).toNat, by omega⟩
                obtain ⟨ny, hny⟩ : ∃ ny : Nat, (ay : Int) + dy = (ny : Int) := ⟨((ay : Int) + dy).toNat, by omega⟩
                have hb2 : b < W3.heap.size := by omega
                obtain ⟨t2, ht2⟩ : ∃ t, (⟨(m[ny]?.getD []).toArray⟩ : ByteArray) = t := ⟨_, rfl⟩
                obtain ⟨t1, ht1⟩ : ∃ t, (⟨(m[ay]?.getD []).toArray⟩ : ByteArray) = t := ⟨_, rfl⟩
                have r2 : W3.cell? ⟨b, o + ny, none⟩ = some (.string t2) := (hBw3.cell (p := ⟨b, o + ny, none⟩) hbw).trans ((HCE.out ny (by omega)).trans (by rw [← ht2]))
                have r1 : W3.cell? ⟨b, o + ay, none⟩ = some (.string t1) := (hBw3.cell (p := ⟨b, o + ay, none⟩) hbw).trans ((HCE.out ay hay).trans (by rw [← ht1]))
                have hs2 : nx < t2.size := by rw [text_size ht2, row_of HI.out (show ny < m.length by omega)]; omega
                have hs1 : ax < t1.size := by rw [text_size ht1, row_of HI.out hay]; omega
                obtain ⟨q2, hq2⟩ : ∃ q, t2[nx]'hs2 = q := ⟨_, rfl⟩
                obtain ⟨q1, hq1⟩ : ∃ q, t1[ax]'hs1 = q := ⟨_, rfl⟩
                have HQ : Hid (q2 = byteOf m ((ax : Int) + dx, (ay : Int) + dy) ∧ q1 = byteOf m ((ax : Int), (ay : Int))) := by
                  rw [hnx, hny]
                  exact ⟨hq2.symm.trans (byte_eq ht2 hs2), hq1.symm.trans (byte_eq ht1 hs1)⟩
                have HSQ : Hid (q2 = q1 ↔ StepTo m (wide m) m.length c ((ax : Int), (ay : Int)) ((ax : Int) + dx, (ay : Int) + dy)) := by
                  constructor
                  · intro e
                    refine ⟨⟨by simp only; omega, by simp only; omega, by simp only; omega, by simp only; omega⟩, HII.out, by rw [← HQ.out.1, ← HQ.out.2, e], ?_⟩
                    simp only
                    rw [show (ax : Int) + dx - (ax : Int) = dx by omega, show (ay : Int) + dy - (ay : Int) = dy by omega]
                    exact HNB.out
                  · intro e
                    rw [HQ.out.1, HQ.out.2, e.2.2.1]
                have hq28 : q2.toNat < 256 := q2.toNat_lt
                have hq18 : q1.toNat < 256 := q1.toNat_lt
                rw [hnx, hny] at hinn
                rw [hnx] at n0
                rw [hny] at n1
                rw [hnx, hny]
                have i1 : (ny : Int) < (m.length : Int) := by omega
                have i2 : (ay : Int) < (m.length : Int) := by omega
                have i3 : (nx : Int) < (t2.size : Int) := by omega
                have i4 : (ax : Int) < (t1.size : Int) := by omega
                clear ht1 ht2 k1 k2 k3 k4 HQ
                have hcall : ∀ n : WIn W3, Calls Tryz.prog 66 #[.slice (some ⟨b, o, none⟩) m.length ca, .agg #[.int .i64 (nx : Int), .int .i64 (ny : Int)]] n.w fun e w'' => e = .returned (.bool true) ∧ ∃ k : WIn W3, w'' = k.w := fun n =>
                  (hinn n.w n.ok).mono fun e V h => ⟨h.1, ⟨V, n.ok.trans (h.2.mono n.ok.size)⟩, rfl⟩
                clear hinn
                have hS : ∀ V, Below W3.heap.size W3 V → ((V.cell? ⟨nb, 0, none⟩ = some (.int .i64 (nx : Int)) ∧ V.cell? ⟨nb, 1, none⟩ = some (.int .i64 (ny : Int))) ∧ (V.cell? ⟨ab, 0, none⟩ = some (.int .i64 (ax : Int)) ∧ V.cell? ⟨ab, 1, none⟩ = some (.int .i64 (ay : Int))) ∧ V.cell? ⟨b, o + ny, none⟩ = some (.string t2) ∧ V.cell? ⟨b, o + ay, none⟩ = some (.string t1)) := fun V hV =>
                  ⟨⟨(hV.cell (p := ⟨nb, 0, none⟩) hl3).trans n0, (hV.cell (p := ⟨nb, 1, none⟩) hl3).trans n1⟩, ⟨(hV.cell (p := ⟨ab, 0, none⟩) (by simp only; omega)).trans e0, (hV.cell (p := ⟨ab, 1, none⟩) (by simp only; omega)).trans e1⟩, (hV.cell (p := ⟨b, o + ny, none⟩) hb2).trans r2, (hV.cell (p := ⟨b, o + ay, none⟩) hb2).trans r1⟩
                have g0 : ∀ n : WIn W3, n.w.cell? ⟨nb, 0, none⟩ = some (.int .i64 (nx : Int)) := fun n => (hS _ n.ok).1.1
                have g1 : ∀ n : WIn W3, n.w.cell? ⟨nb, 1, none⟩ = some (.int .i64 (ny : Int)) := fun n => (hS _ n.ok).1.2
                have g2 : ∀ n : WIn W3, n.w.cell? ⟨ab, 0, none⟩ = some (.int .i64 (ax : Int)) := fun n => (hS _ n.ok).2.1.1
                have g3 : ∀ n : WIn W3, n.w.cell? ⟨ab, 1, none⟩ = some (.int .i64 (ay : Int)) := fun n => (hS _ n.ok).2.1.2
                have g4 : ∀ n : WIn W3, n.w.cell? ⟨b, o + ny, none⟩ = some (.string t2) := fun n => (hS _ n.ok).2.2.1
                have g5 : ∀ n : WIn W3, n.w.cell? ⟨b, o + ay, none⟩ = some (.string t1) := fun n => (hS _ n.ok).2.2.2
                clear hS n0 n1 e0 e1 r1 r2
                by_cases heq : q2 = q1
                · have HEQ : Hid (q2 = q1) := heq
                  have heb : ((q2.toNat : Int) == (q1.toNat : Int)) = true := by rw [heq]; simp
                  clear heq
                  refine region_in (by kernel_rfl) (by kernel_rfl) ?_
                  repeat (go_big_quiet_step (exact hcall _))
                  refine wpQuiet_nil ?_
                  rintro _ ⟨n, rfl⟩
                  have HV := n.ok
                  go_wp2_with fail
                  go_meet
                  exact ⟨true, rfl, ⟨fun _ => HSQ.out.1 HEQ.out, fun _ => rfl⟩, HV⟩
                · have HEQ : Hid (¬ q2 = q1) := heq
                  have heb : ((q2.toNat : Int) == (q1.toNat : Int)) = false := beq_false_of_ne fun e => heq (UInt8.toNat_inj.1 (by omega))
                  clear heq
                  refine region_in (by kernel_rfl) (by kernel_rfl) ?_
                  repeat (go_big_quiet_step (exact hcall _))
                  refine wpQuiet_nil ?_
                  rintro _ ⟨n, rfl⟩
                  have HV := n.ok
                  go_wp2_with fail
                  go_meet
                  exact ⟨false, rfl, ⟨fun h => by (cases h), fun h => absurd (HSQ.out.2 h) HEQ.out⟩, HV⟩
              · rw [decide_eq_false hI] at hinn
                have HII : Hid (¬ InSq (wide m) m.length ((ax : Int) + dx, (ay : Int) + dy)) := hI
                have hcall : ∀ n : WIn W3, Calls Tryz.prog 66 #[.slice (some ⟨b, o, none⟩) m.length ca, .agg #[.int .i64 ((ax : Int) + dx), .int .i64 ((ay : Int) + dy)]] n.w fun e w'' => e = .returned (.bool false) ∧ ∃ k : WIn W3, w'' = k.w := fun n =>
                  (hinn n.w n.ok).mono fun e V h => ⟨h.1, ⟨V, n.ok.trans (h.2.mono n.ok.size)⟩, rfl⟩
                have g0 : ∀ n : WIn W3, n.w.cell? ⟨nb, 0, none⟩ = some (.int .i64 ((ax : Int) + dx)) := fun n => (n.ok.cell (p := ⟨nb, 0, none⟩) hl3).trans n0
                have g1 : ∀ n : WIn W3, n.w.cell? ⟨nb, 1, none⟩ = some (.int .i64 ((ay : Int) + dy)) := fun n => (n.ok.cell (p := ⟨nb, 1, none⟩) hl3).trans n1
                clear hI hinn
                refine region_in (by kernel_rfl) (by kernel_rfl) ?_
                repeat (go_big_quiet_step (exact hcall _))
                refine wpQuiet_nil ?_
                rintro _ ⟨n, rfl⟩
                have HV := n.ok
                go_wp2_with fail
                go_meet
                exact ⟨false, rfl, ⟨fun h => by (cases h), fun h => absurd h.2.1 HII.out⟩, HV⟩
            · have hd : decide (dx * dx + dy * dy ≤ farN c) = false := decide_eq_false (fun h => hN (hfn.1 h))
              have HNB : Hid (¬ NearBy c dx dy) := hN
              clear hfn hN s1 s2
              go_quiet (fail)
              go_wp2_with fail
              go_meet
              exact ⟨false, rfl, ⟨fun h => by (cases h), fun h => absurd (by have := h.2.2.2; simp only at this; rwa [show (ax : Int) + dx - (ax : Int) = dx by omega, show (ay : Int) + dy - (ay : Int) = dy by omega] at this) HNB.out⟩, ⟨rfl, rfl, rfl, Nat.le_refl _, fun _ _ => rfl⟩⟩
          obtain ⟨z, rfl, HZ, HB4⟩ := hcut
          obtain ⟨W4, hW4⟩ : ∃ W4, W4 = wc := ⟨_, rfl⟩
          subst hW4
          have f0 := (HB4.out.cell (p := ⟨nb, 0, none⟩) hl3).trans n0
          have f1 := (HB4.out.cell (p := ⟨nb, 1, none⟩) hl3).trans n1
          have HB5 : Hid (Below wr.heap.size wr W4) := HB3.out.trans (HB4.out.mono hls3)
          have hl4 : W1.heap.size ≤ W4.heap.size := by have := HB5.out.size; omega
          have hlen := HSx.out.2.2
          clear n0 n1 e0 e1 hfn s1 s2 p1 p2 p3 hBw3 HB3 HB4 c0 c1
          cases z with
          | true =>
            have hrow : W4.ownsRow W1.heap.size 59 2 u7 ns2.length (sqCells ns2) := HSx.out.1.kept (Below.grownBy HB5.out) (by cases u7.ownBlock <;> simp)
            go_wp2_with (first
              | (at_builtin; refine wpList_append_own_at _ rfl (.tmp 56) (.tmp 58) 54 rfl W1.heap.size 59 i0 (.agg #[.int .i64 0, .int .i64 0]) 2 16 Tryz.underlying54 hi0 hz0 hz1 hz2 rfl (by decide) _ ns2.length (sqCells ns2) rfl (hrow.alloc _) ⟨_, 0, none⟩ 1 1 [.int .i64 ((ax : Int) + dx), .int .i64 ((ay : Int) + dy)] rfl rfl (cells_new _ _ _) (by simp [Value.oneCell']) (by unfold maxLen; omega) (by omega) (by simp; omega) ?_; intro v5 w5 hown5 hg5 hnil5 hl5)
              | fail)
            go_roundw
            case rel =>
              refine ⟨dx + 1, ns2 ++ [((ax : Int) + dx, (ay : Int) + dy)], by omega, by go_num, ⟨?_, near_push HSx.out.2.1 (HZ.out.1 rfl), by rw [List.length_append]; simp; omega⟩, ?_⟩
              · unfold SqRow
                rw [sqCells_snoc, List.length_append]
                exact hown5
              · exact ((HBx.out.trans (HB5.out.mono hls)).alloc hl4 _).grown hg5 (by simp; omega) (fun b hb => (hrow.lt b hb).1)
            case measure => simp [intOf]; omega
          | false =>
            go_wp2_with fail
            go_roundw
            case rel => exact ⟨dx + 1, ns2, by omega, by go_num, ⟨HSx.out.1.kept (Below.grownBy HB5.out) (by cases u7.ownBlock <;> simp), near_skip HSx.out.2.1 (fun h => by have := HZ.out.2 h; cases this), by omega⟩, HBx.out.trans (HB5.out.mono hls)⟩
            case measure => simp [intOf]; omega
        · obtain rfl : dx = 2 := by omega
          go_wp2_with fail
          go_roundw
          case rel => exact ⟨dy + 1, ns2, by omega, by go_num, ⟨HSx.out.1, near_row HSx.out.2.1, by have := HSx.out.2.2; omega⟩, HBx.out⟩
          case measure => simp [intOf]; omega
    · obtain rfl : dy = 2 := by omega
      have hrd := HS.out.1.reads (S := fun b => ab ≤ b) (fun b hb _ => by omega)
      obtain ⟨ar, cr, rfl, hrr⟩ := hrd
      have HR : Hid (SqIn (fun b => ab ≤ b) wr (.slice ar ns.length cr) ns) := ⟨ar, cr, rfl, hrr⟩
      clear hrr
      go_wp2_with fail
      go_ret
      refine ⟨_, ns, rfl, by rw [HAB.out]; exact HR.out, near_end HS.out.2.1, by have := HS.out.2.2; omega, ?_⟩
      rw [HAB.out]
      exact hBa.trans (HB.out.mono (by omega))

end Go.Proofs.YtbmojlnkjeapkaaGreatDoor
