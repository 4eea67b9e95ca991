/- What spread does: the squares beside one that are alike and bare get the mark. -/
import Derived.Test.YtjaoiaajplgboaaDoorCubeGrid
import Derived.Test.YtjaoiaajplgboaaDoorCubeRefFull
import Derived.Deep.DeepCutAuto
namespace Go.Proofs.YtjaoiaajplgboaaDoor
open Go.RowKit Go.Sort

theorem sq_nat' {w h : Nat} {a : Sq} (ha : InSq w h a) : ∃ x y : Nat, a = ((x : Int), (y : Int)) ∧ x < w ∧ y < h := by
  obtain ⟨h1, h2, h3, h4⟩ := ha
  exact ⟨a.1.toNat, a.2.toNat, Prod.ext (by simp only; omega) (by simp only; omega), by omega, by omega⟩

/-- The kind's byte. -/
def kindOf (full : Bool) : UInt8 := if full then 35 else 46

/-- An image of the two bytes alone. -/
def TwoBytes (m : List (List UInt8)) : Prop := ∀ a, InSq (wide m) m.length a → byteOf m a = 35 ∨ byteOf m a = 46

theorem full_kind {m : List (List UInt8)} (h2 : TwoBytes m) {a : Sq} (ha : InSq (wide m) m.length a) (full : Bool) : fullAt m (wide m) m.length a.1 a.2 = full ↔ byteOf m a = kindOf full := by
  unfold fullAt kindOf
  rw [decide_eq_true ha, Bool.true_and]
  rcases h2 a ha with h | h <;> rw [h] <;> cases full <;> decide

/-- What has changed: bare squares beside a have the mark. -/
def SpreadTo (R : Sq → Sq → Prop) (a : Sq) (n : Int) (f f' : Sq → Int) (q : Bool) : Prop :=
  (∀ b, f' b = f b ∨ (R a b ∧ f b = 0 ∧ f' b = n)) ∧ (q = false → ∀ b, f' b = f b) ∧ (q = true → ∃ b, R a b ∧ f b = 0 ∧ f' b = n)

/-- Of the looks ahead of this one all have found a mark. -/
def SeenTo (R : Sq → Sq → Prop) (a : Sq) (f' : Sq → Int) (dy dx : Int) : Prop := ∀ b, R a b → (b.2 - a.2 < dy ∨ b.2 - a.2 = dy ∧ b.1 - a.1 < dx) → 0 < f' b

theorem seen_next {R : Sq → Sq → Prop} {a : Sq} {f' : Sq → Int} {dy dx : Int} (h : SeenTo R a f' dy dx) (hb : R a (a.1 + dx, a.2 + dy) → 0 < f' (a.1 + dx, a.2 + dy)) : SeenTo R a f' dy (dx + 1) := fun b hr hk => by
  by_cases e : b.2 - a.2 = dy ∧ b.1 - a.1 = dx
  · have : b = (a.1 + dx, a.2 + dy) := Prod.ext (by simp only; omega) (by simp only; omega)
    rw [this] at hr ⊢
    exact hb hr
  · exact h b hr (by omega)

theorem seen_put {R : Sq → Sq → Prop} {a : Sq} {f' : Sq → Int} {dy dx : Int} {c : Sq} {n : Int} (hn : 0 < n) (h : SeenTo R a f' dy dx) : SeenTo R a (putM f' c n) dy dx := fun b hr hk => by
  unfold putM
  split
  · exact hn
  · exact h b hr hk

theorem spread_put {R : Sq → Sq → Prop} {a b : Sq} {n : Int} {f f' : Sq → Int} {q : Bool} (h : SpreadTo R a n f f' q) (hr : R a b) (h0 : f' b = 0) : SpreadTo R a n f (putM f' b n) true := by
  have hfb : f b = 0 := by
    rcases h.1 b with e | ⟨_, e, _⟩
    · rw [← e]; exact h0
    · exact e
  refine ⟨fun c => ?_, fun h => (by cases h), fun _ => ⟨b, hr, hfb, by simp [putM]⟩⟩
  by_cases e : c = b
  · subst e; exact .inr ⟨hr, hfb, by simp [putM]⟩
  · simp only [putM, if_neg e]; exact h.1 c

/-- What spread answers. -/
def SpreadSays (B : Nat) (g : Nat) (rb : Nat → Nat) (m : List (List UInt8)) (c : Bool) (a : Sq) (n : Int) (f : Sq → Int) (w : World) (e : Ending) (w' : World) : Prop :=
  ∃ q f', e = .returned (.bool q) ∧ GridAt B w' g rb (wide m) m.length f' ∧ SpreadTo (StepTo m (wide m) m.length c) a n f f' q ∧ (∀ b, StepTo m (wide m) m.length c a b → 0 < f' b) ∧ Below B w w'

set_option maxRecDepth 100000 in
set_option maxHeartbeats 4000000 in
theorem spread_ (vm : Value) (m : List (List UInt8)) (B : Nat) (w0 : World) (hB0 : B = w0.heap.size) (w : World) (hW : Below B w0 w) (hm : Strs w0 vm m) (hi : Img m) (h2b : TwoBytes m) (g : Nat) (rb : Nat → Nat) (cap : Nat) (f : Sq → Int) (hG : GridAt B w g rb (wide m) m.length f)
    (hpos : ∀ b, 0 ≤ f b) (full c : Bool) (ux uy : Nat) (hux : ux < wide m) (huy : uy < m.length) (hk : byteOf m ((ux : Int), (uy : Int)) = kindOf full) (n : Int) (hn : 0 < n) (hn2 : n ≤ 100000) :
    Calls Tryd.prog 31 #[vm, .slice (some ⟨g, 0, none⟩) m.length cap, cornerV ((ux : Int), (uy : Int)), .bool full, .bool c, .int .i64 n] w fun e w' => SpreadSays B g rb m c ((ux : Int), (uy : Int)) n f w e w' := by
  have hrows := hi.rows
  have hcols := hi.cols
  have hfl : ∀ (x y : Int) (V : World), Below B w0 V → (-1000000 ≤ x ∧ x ≤ 1000000) → (-1000000 ≤ y ∧ y ≤ 1000000) → Calls Tryd.prog 29 #[vm, .int .i64 x, .int .i64 y] V fun e w' => e = .returned (.bool (fullAt m (wide m) m.length x y)) ∧ w' = V := fun x y V hV hx hy => ref_full vm m V (hm.below (by rw [← hB0]; exact hV)) hi x y hx hy
  obtain ⟨am, ca, rfl, -, ha⟩ := hm.open_
  obtain ⟨b, o, rfl, -, hbw, hcell⟩ := ha (by omega)
  rw [← hB0] at hbw
  obtain ⟨t0, ht0⟩ : ∃ t, (⟨(m[0]?.getD []).toArray⟩ : ByteArray) = t := ⟨_, rfl⟩
  have hts : t0.size = wide m := text_size ht0
  have HTS : Hid (t0.size = wide m) := hts
  have r0 : w0.cell? ⟨b, o, none⟩ = some (.string t0) := by
    have := hcell 0 (by omega)
    rw [Nat.add_zero] at this
    rw [this, ← ht0]
  have HX : Hid (Img m ∧ TwoBytes m ∧ byteOf m ((ux : Int), (uy : Int)) = kindOf full ∧ (∀ b, 0 ≤ f b)) := ⟨hi, h2b, hk, hpos⟩
  have HW : Hid (Below B w0 w) := hW
  have HG : Hid (GridAt B w g rb (wide m) m.length f) := hG
  have h2 := two_cells w (.int .i64 (ux : Int)) (.int .i64 (uy : Int)) 51
  have hBa : Below w.heap.size w (w.alloc (.cells #[.int .i64 (ux : Int), .int .i64 (uy : Int)] 51)) := (Below.refl _ w).alloc (Nat.le_refl _) _
  have hgo := hG.off uy huy
  clear hm hi ha hcell hW hG h2b hk hpos ht0 hts hB0
  unfold cornerV
  go_enter Tryd.func31, Tryd.ntmps31
  go_upto_region 1 with fail
  obtain ⟨W1, hW1⟩ : ∃ W1, w.alloc (.cells #[.int .i64 (ux : Int), .int .i64 (uy : Int)] 51) = W1 := ⟨_, rfl⟩
  obtain ⟨ab, hab⟩ : ∃ ab, w.heap.size = ab := ⟨_, rfl⟩
  have hl1 : ab < W1.heap.size := by rw [← hW1, ← hab]; simp
  have HAB : Hid (w.heap.size = ab) := hab
  rw [hW1, hab] at h2 hBa
  rw [hab] at hgo
  rw [hW1, hab]
  have HBa : Hid (Below B w W1) := hBa.mono (by omega)
  have HG1 : Hid (GridAt B W1 g rb (wide m) m.length f) := HG.out.keep (by rw [HAB.out]; exact hBa)
  have HRA : Hid (∀ k, k < m.length → rb k < ab) := fun k hk => by have := (HG.out.off k hk).2.2.1; have := HAB.out; omega
  clear hW1 hab hBa HG
  obtain ⟨R, hR⟩ : ∃ R, StepTo m (wide m) m.length c = R := ⟨_, rfl⟩
  have HR : Hid (StepTo m (wide m) m.length c = R) := hR
  clear hR
  go_wp2_with fail
  go_loopw [13, 14] (fun s p W => ∃ (dy : Int) (q : Bool) (f' : Sq → Int), (-1 ≤ dy ∧ dy ≤ 2) ∧ p = .int .i64 dy ∧ s = .bool q ∧ Hid (GridAt B W g rb (wide m) m.length f' ∧ SpreadTo R ((ux : Int), (uy : Int)) n f f' q ∧ SeenTo R ((ux : Int), (uy : Int)) f' dy (-1)) ∧ Hid (Below B w W ∧ W.cell? ⟨ab, 0, none⟩ = some (.int .i64 (ux : Int)) ∧ W.cell? ⟨ab, 1, none⟩ = some (.int .i64 (uy : Int)))) (fun _ p _ => (2 - intOf p).toNat)
  case atStart =>
    refine ⟨-1, false, f, by omega, rfl, rfl, ⟨HG1.out, ⟨fun b => .inl rfl, fun _ b => rfl, fun h => (by cases h)⟩, fun b hr hk => ?_⟩, HBa.out, h2⟩
    rw [← HR.out] at hr
    have := hr.2.2.2
    unfold NearBy at this
    simp only at this hk
    omega
  case round =>
    obtain ⟨dy, q, f1, hdy, rfl, rfl, HS, HB⟩ := hrel
    by_cases hlt : dy ≤ 1
    · go_wp2_with fail
      go_loopw [13, 15] (fun s p W => ∃ (dx : Int) (q : Bool) (f' : Sq → Int), (-1 ≤ dx ∧ dx ≤ 2) ∧ p = .int .i64 dx ∧ s = .bool q ∧ Hid (GridAt B W g rb (wide m) m.length f' ∧ SpreadTo R ((ux : Int), (uy : Int)) n f f' q ∧ SeenTo R ((ux : Int), (uy : Int)) f' dy dx) ∧ Hid (Below B w W ∧ W.cell? ⟨ab, 0, none⟩ = some (.int .i64 (ux : Int)) ∧ W.cell? ⟨ab, 1, none⟩ = some (.int .i64 (uy : Int)))) (fun _ p _ => (2 - intOf p).toNat)
      case atStart => exact ⟨-1, q, f1, by omega, rfl, rfl, HS.out, HB.out⟩
      case round =>
        obtain ⟨dx, q1, f2, hdx, rfl, rfl, HSx, HBx⟩ := hrel
        clear HS HB
        by_cases hdt : dx ≤ 1
        · have c0 := HBx.out.2.1
          have c1 := HBx.out.2.2
          have hBw : Below B w0 wr := HW.out.trans HBx.out.1
          have r1 := (hBw.cell (p := ⟨b, o, none⟩) hbw).trans r0
          go_upto_region 10 with fail
          go_cut [18] from 27 to 54 (fun s wx => s = .bool (decide (InSq (wide m) m.length ((ux : Int) + dx, (uy : Int) + dy))) ∧ wr = wx)
          case first =>
            by_cases k1 : 0 ≤ (uy : Int) + dy
            · by_cases k2 : (uy : Int) + dy < (m.length : Int)
              · by_cases k3 : 0 ≤ (ux : Int) + dx
                · by_cases k4 : (ux : Int) + dx < (wide m : Int)
                  · have HD : Hid (decide (InSq (wide m) m.length ((ux : Int) + dx, (uy : Int) + dy)) = true) := decide_eq_true ⟨k3, k4, k1, k2⟩
                    have k5 : (ux : Int) + dx < (t0.size : Int) := by rw [HTS.out]; exact k4
                    clear k4
                    go_wp2_with fail
                    go_meet
                    exact ⟨by rw [HD.out], rfl⟩
                  · have HD : Hid (decide (InSq (wide m) m.length ((ux : Int) + dx, (uy : Int) + dy)) = false) := decide_eq_false fun h => k4 h.2.1
                    have k5 : decide ((ux : Int) + dx < (t0.size : Int)) = false := decide_eq_false (by rw [HTS.out]; exact k4)
                    clear k4
                    go_wp2_with fail
                    go_meet
                    exact ⟨by rw [HD.out], rfl⟩
                · have HD : Hid (decide (InSq (wide m) m.length ((ux : Int) + dx, (uy : Int) + dy)) = false) := decide_eq_false fun h => k3 h.1
                  have k5 : decide (0 ≤ (ux : Int) + dx) = false := decide_eq_false k3
                  clear k3
                  go_wp2_with fail
                  go_meet
                  exact ⟨by rw [HD.out], rfl⟩
              · have HD : Hid (decide (InSq (wide m) m.length ((ux : Int) + dx, (uy : Int) + dy)) = false) := decide_eq_false fun h => k2 h.2.2.2
                have k5 : decide ((uy : Int) + dy < (m.length : Int)) = false := decide_eq_false k2
                clear k2
                go_wp2_with fail
                go_meet
                exact ⟨by rw [HD.out], rfl⟩
            · have HD : Hid (decide (InSq (wide m) m.length ((ux : Int) + dx, (uy : Int) + dy)) = false) := decide_eq_false fun h => k1 h.2.2.1
              have k5 : decide (0 ≤ (uy : Int) + dy) = false := decide_eq_false k1
              clear k1
              go_wp2_with fail
              go_meet
              exact ⟨by rw [HD.out], rfl⟩
          obtain ⟨rfl, hwx⟩ := hcut
          subst hwx
          have hpm : -1 ≤ dx * dy ∧ dx * dy ≤ 1 := by
            have ex : dx = -1 ∨ dx = 0 ∨ dx = 1 := by omega
            rcases ex with rfl | rfl | rfl <;> omega
          have p1 : IntKind.i64.wrap (dx * dy) = dx * dy := wrapI (by omega) (by omega)
          go_upto_region 11 with fail
          go_cut [18, 66] from 55 to 66 (fun s18 s wx => ∃ z : Bool, s18 = .bool (decide (InSq (wide m) m.length ((ux : Int) + dx, (uy : Int) + dy))) ∧ s = .bool z ∧ Hid (z = false ↔ InSq (wide m) m.length ((ux : Int) + dx, (uy : Int) + dy) ∧ NearBy c dx dy) ∧ wr = wx)
          case first =>
            by_cases hI : InSq (wide m) m.length ((ux : Int) + dx, (uy : Int) + dy)
            · have HII : Hid (InSq (wide m) m.length ((ux : Int) + dx, (uy : Int) + dy)) := hI
              rw [decide_eq_true hI]
              by_cases hz : dx * dy = 0
              · have hzb : (dx * dy != 0) = false := by rw [hz]; rfl
                have HN : Hid (NearBy c dx dy) := by
                  refine ⟨by omega, by omega, by omega, by omega, ?_⟩
                  rcases Int.mul_eq_zero.1 hz with h | h
                  · exact .inr (.inl h)
                  · exact .inr (.inr h)
                clear hz hI
                go_wp2_with fail
                go_meet
                exact ⟨false, by rw [decide_eq_true HII.out], rfl, ⟨fun _ => ⟨HII.out, HN.out⟩, fun _ => rfl⟩, rfl⟩
              · have hzb : (dx * dy != 0) = true := bne_iff_ne.2 hz
                have HZ : Hid (¬ dx * dy = 0) := hz
                clear hz hI
                cases c with
                | true =>
                  go_wp2_with fail
                  go_meet
                  exact ⟨false, by rw [decide_eq_true HII.out], rfl, ⟨fun _ => ⟨HII.out, by omega, by omega, by omega, by omega, .inl rfl⟩, fun _ => rfl⟩, rfl⟩
                | false =>
                  go_wp2_with fail
                  go_meet
                  refine ⟨true, by rw [decide_eq_true HII.out], rfl, ⟨fun h => (by cases h), fun h => ?_⟩, rfl⟩
                  rcases h.2.2.2.2.2 with h | h | h
                  · cases h
                  · exact absurd (by rw [h]; simp) HZ.out
                  · exact absurd (by rw [h]; simp) HZ.out
            · have HII : Hid (¬ InSq (wide m) m.length ((ux : Int) + dx, (uy : Int) + dy)) := hI
              rw [decide_eq_false hI]
              clear hI
              go_wp2_with fail
              go_meet
              exact ⟨true, by rw [decide_eq_false HII.out], rfl, ⟨fun h => (by cases h), fun h => absurd h.1 HII.out⟩, rfl⟩
          obtain ⟨z, rfl, rfl, HZ, hwx⟩ := hcut
          subst hwx
          have HRb : Hid (R ((ux : Int), (uy : Int)) ((ux : Int) + dx, (uy : Int) + dy) → (InSq (wide m) m.length ((ux : Int) + dx, (uy : Int) + dy) ∧ NearBy c dx dy) ∧ byteOf m ((ux : Int), (uy : Int)) = byteOf m ((ux : Int) + dx, (uy : Int) + dy)) := fun hr => by
            rw [← HR.out] at hr
            refine ⟨⟨hr.2.1, ?_⟩, hr.2.2.1⟩
            have := hr.2.2.2
            simp only at this
            rwa [show (ux : Int) + dx - (ux : Int) = dx by omega, show (uy : Int) + dy - (uy : Int) = dy by omega] at this
          cases z with
          | true =>
            have HSN : Hid (SeenTo R ((ux : Int), (uy : Int)) f2 dy (dx + 1)) := seen_next HSx.out.2.2 (fun hr => by have := HZ.out.2 (HRb.out hr).1; cases this)
            go_wp2_with fail
            go_roundw
            case rel => exact ⟨dx + 1, q1, f2, by omega, by go_num, rfl, ⟨HSx.out.1, HSx.out.2.1, HSN.out⟩, HBx.out⟩
            case measure => simp [intOf]; omega
          | false =>
            obtain ⟨hI, hN⟩ := HZ.out.1 rfl
            obtain ⟨nx, ny, hxy, hnx, hny⟩ := sq_nat' hI
            simp only [Prod.mk.injEq] at hxy
            obtain ⟨e1, e2⟩ := hxy
            have hmk := HSx.out.1.mark hnx hny
            have hhd := HSx.out.1.head ny hny
            have hoff := HSx.out.1.off ny hny
            have hra := HRA.out ny hny
            obtain ⟨mk, hmk'⟩ : ∃ mk, f2 ((nx : Int), (ny : Int)) = mk := ⟨_, rfl⟩
            rw [hmk'] at hmk
            obtain ⟨m0, mf⟩ := hmk
            have HMK : Hid (f2 ((ux : Int) + dx, (uy : Int) + dy) = mk) := by rw [e1, e2]; exact hmk'
            have hmk0 : 0 ≤ mk := by
              rw [← hmk']
              rcases HSx.out.2.1.1 ((nx : Int), (ny : Int)) with h | ⟨_, _, h⟩
              · rw [h]; exact HX.out.2.2.2 _
              · rw [h]; omega
            have i1 : (ny : Int) < (m.length : Int) := by omega
            have i2 : (nx : Int) < (wide m : Int) := by omega
            have hfc := hfl (nx : Int) (ny : Int) wr hBw (by omega) (by omega)
            obtain ⟨fb, hfb⟩ : ∃ fb, fullAt m (wide m) m.length (nx : Int) (ny : Int) = fb := ⟨_, rfl⟩
            rw [hfb] at hfc
            have HFB : Hid (fb = full ↔ byteOf m ((ux : Int) + dx, (uy : Int) + dy) = kindOf full) := by
              rw [← hfb, e1, e2]
              exact full_kind HX.out.2.1 (a := ((nx : Int), (ny : Int))) (by rw [e1, e2] at hI; exact hI) full
            have HNI : Hid (InSq (wide m) m.length ((ux : Int) + dx, (uy : Int) + dy) ∧ NearBy c dx dy) := ⟨hI, hN⟩
            have HE12 : Hid ((ux : Int) + dx = (nx : Int) ∧ (uy : Int) + dy = (ny : Int)) := ⟨e1, e2⟩
            clear hfb hmk' hI hN HZ
            rw [e1, e2]
            by_cases hp : 0 < mk
            · have HSN : Hid (SeenTo R ((ux : Int), (uy : Int)) f2 dy (dx + 1)) := seen_next HSx.out.2.2 (fun _ => by show 0 < f2 ((ux : Int) + dx, (uy : Int) + dy); rw [HMK.out]; exact hp)
              clear hfc e1 e2
              go_wp2_with fail
              go_roundw
              case rel => exact ⟨dx + 1, q1, f2, by omega, by go_num, rfl, ⟨HSx.out.1, HSx.out.2.1, HSN.out⟩, HBx.out⟩
              case measure => simp [intOf]; omega
            · have hpb : decide (0 < mk) = false := decide_eq_false hp
              have HM0 : Hid (mk = 0) := by show mk = 0; omega
              clear hp e1 e2
              by_cases hq : fb = full
              · have HSQ : Hid (R ((ux : Int), (uy : Int)) ((ux : Int) + dx, (uy : Int) + dy)) := by
                  rw [← HR.out]
                  refine ⟨⟨by simp only; omega, by simp only; omega, by simp only; omega, by simp only; omega⟩, HNI.out.1, HX.out.2.2.1.trans (HFB.out.1 hq).symm, ?_⟩
                  simp only
                  rw [show (ux : Int) + dx - (ux : Int) = dx by omega, show (uy : Int) + dy - (uy : Int) = dy by omega]
                  exact HNI.out.2
                have hpt := HSx.out.1.put hnx hny n
                have HPT : Hid (GridAt B (wr.setCell ⟨rb ny, nx, none⟩ (.int .i64 n)) g rb (wide m) m.length (putM f2 ((ux : Int) + dx, (uy : Int) + dy) n)) := by rw [HE12.out.1, HE12.out.2]; exact hpt
                have HSP := spread_put HSx.out.2.1 HSQ.out (HMK.out.trans HM0.out)
                have HSPH : Hid (SpreadTo R ((ux : Int), (uy : Int)) n f (putM f2 ((ux : Int) + dx, (uy : Int) + dy) n) true) := HSP
                have HSN : Hid (SeenTo R ((ux : Int), (uy : Int)) (putM f2 ((ux : Int) + dx, (uy : Int) + dy) n) dy (dx + 1)) := seen_next (seen_put hn HSx.out.2.2) (fun _ => by simp [putM]; exact hn)
                clear hpt HSP
                subst hq
                go_wp2_with (first
                  | (go_at_call 29; refine hfc.mono ?_; rintro e w2 ⟨rfl, rfl⟩)
                  | fail)
                go_roundw
                case rel =>
                  refine ⟨dx + 1, true, _, by omega, by go_num, rfl, ⟨HPT.out, HSPH.out, HSN.out⟩, HBx.out.1.setCell hoff.2.1 _, ?_, ?_⟩
                  · rw [World.cell?_setCell_other _ _ _ _ (fun e => by have h := congrArg Addr.block e; simp only at h; omega)]; exact HBx.out.2.1
                  · rw [World.cell?_setCell_other _ _ _ _ (fun e => by have h := congrArg Addr.block e; simp only at h; omega)]; exact HBx.out.2.2
                case measure => simp [intOf]; omega
              · have HSN : Hid (SeenTo R ((ux : Int), (uy : Int)) f2 dy (dx + 1)) := seen_next HSx.out.2.2 (fun hr => absurd (HFB.out.2 ((HRb.out hr).2.symm.trans HX.out.2.2.1)) hq)
                obtain rfl : fb = !full := by cases fb <;> cases full <;> simp_all
                clear hq
                cases full with
                | true =>
                  go_wp2_with (first
                    | (go_at_call 29; refine hfc.mono ?_; rintro e w2 ⟨rfl, rfl⟩)
                    | fail)
                  go_roundw
                  case rel => exact ⟨dx + 1, q1, f2, by omega, by go_num, rfl, ⟨HSx.out.1, HSx.out.2.1, HSN.out⟩, HBx.out⟩
                  case measure => simp [intOf]; omega
                | false =>
                  go_wp2_with (first
                    | (go_at_call 29; refine hfc.mono ?_; rintro e w2 ⟨rfl, rfl⟩)
                    | fail)
                  go_roundw
                  case rel => exact ⟨dx + 1, q1, f2, by omega, by go_num, rfl, ⟨HSx.out.1, HSx.out.2.1, HSN.out⟩, HBx.out⟩
                  case measure => simp [intOf]; omega
        · obtain rfl : dx = 2 := by omega
          go_wp2_with fail
          go_roundw
          case rel =>
            refine ⟨dy + 1, q1, f2, by omega, by go_num, rfl, ⟨HSx.out.1, HSx.out.2.1, fun b hr hk => HSx.out.2.2 b hr ?_⟩, HBx.out⟩
            rw [← HR.out] at hr
            have := hr.2.2.2
            unfold NearBy at this
            simp only at this hk ⊢
            omega
          case measure => simp [intOf]; omega
    · obtain rfl : dy = 2 := by omega
      go_wp2_with fail
      go_ret
      refine ⟨q, f1, rfl, HS.out.1, ?_, fun b hr => ?_, HB.out.1⟩
      · rw [HR.out]; exact HS.out.2.1
      · rw [HR.out] at hr
        refine HS.out.2.2 b hr ?_
        rw [← HR.out] at hr
        have := hr.2.2.2
        unfold NearBy at this
        simp only at this ⊢
        omega

end Go.Proofs.YtjaoiaajplgboaaDoor
