/- walks: all paths from a face, one after another. Check and Critical: what they answer of an error, and of a good gradient. Check and Critical of a good gradient. -/
import Derived.Test.YtnnkmkhamipfiaaGreatDoorMorseCrit
import Derived.Test.YtnnkmkhamipfiaaGreatDoorMorseMem
import Derived.Test.YtnnkmkhamipfiaaGreatDoorRefBorder
import Derived.Test.YtnnkmkhamipfiaaGreatDoorMorseFieldOf
namespace Go.Proofs.YtnnkmkhamipfiaaGreatDoor
open Go.RowKit Go.Sort

/-- What the paths from a face come to, for each goal. -/
structure ValsOf (L : List (List Int)) (mt : Nat → Int) (V : Nat → Nat → Int) : Prop where
  goal : ∀ g, V g g = 1
  zero : ∀ g a, a ≠ g → upW mt a = Option.none → V g a = 0
  lead : ∀ g a b, a ≠ g → upW mt a = some b → V g a = -(sgL L b a) * wsum (fun x => undL L x b) (sgL L b) (V g) (a : Int) L.length
/-- Mates: none, one above, one below. -/
def MateOk (L : List (List Int)) (mt : Nat → Int) : Prop := ∀ a, a < L.length → mt a = -1 ∨ ∃ b : Nat, mt a = (b : Int) ∧ b < L.length ∧ ((undL L a b = true ∧ a < b) ∨ (undL L b a = true ∧ b < a))
theorem und_len {L : List (List Int)} {a b : Nat} (h : undL L a b = true) : (faceAt L a).length + 1 = (faceAt L b).length ∧ a < L.length := by
  simp only [undL, Bool.and_eq_true, decide_eq_true_eq] at h
  obtain ⟨h1, h2⟩ := h
  unfold underB at h2
  simp only [Bool.and_eq_true, decide_eq_true_eq] at h2
  exact ⟨h2.1, h1⟩
theorem und_sign {L : List (List Int)} (hF : FaceList L) {x b : Nat} (hb : b < L.length) (h : undL L x b = true) : sgL L b x = signI (faceAt L b) (faceAt L x) ∧ (sgL L b x = 1 ∨ sgL L b x = -1) := by
  have hx := und_len h
  simp only [undL, Bool.and_eq_true, decide_eq_true_eq] at h
  obtain ⟨_, h2⟩ := h
  unfold underB at h2
  simp only [Bool.and_eq_true, decide_eq_true_eq] at h2
  have hsub : ∀ v ∈ faceAt L x, v ∈ faceAt L b := fun v hv => by
    have := h2.2
    unfold partB at this
    exact by simpa using List.all_eq_true.1 this v hv
  have e : sgL L b x = signI (faceAt L b) (faceAt L x) := by
    show entryI _ _ = _
    unfold entryI
    rw [if_pos ⟨hx.1, hsub⟩]
  refine ⟨e, ?_⟩
  rw [e]
  have hr := hF.rising _ (faceAt_mem hb)
  unfold signI
  cases hf : (faceAt L b).findIdx? (fun v => !(faceAt L x).contains v) with
  | some i => simp only; unfold sg; omega
  | none =>
    exfalso
    have h3 : ∀ v ∈ faceAt L b, v ∈ faceAt L x := fun v hv => by
      have := List.findIdx?_eq_none_iff.1 hf v hv
      simpa using this
    have h4 := two_more (hF.rising _ (faceAt_mem hx.2)) hr hsub
    have h5 : ((faceAt L b).filter fun v => !decide (v ∈ faceAt L x)) = [] := List.filter_eq_nil_iff.2 fun v hv => by simp [h3 v hv]
    rw [h5] at h4
    have := hx.1
    simp at h4
    omega

/-- What walks leaves. -/
def WalkSays (L : List (List Int)) (mt : Nat → Int) (V : Nat → Nat → Int) (gs m a : Nat) (s : Int) (f : Nat → Int) (w : World) (e : Ending) (w' : World) : Prop :=
  ∃ (l : Nat) (f' : Nat → Int), e = .returned (.int .i64 (l : Int)) ∧ l ≤ m ∧ (0 < m → l < m) ∧ w'.rowIs gs 3 L.length (fun i => .int .i64 (f' i)) ∧ KeepBut w w' gs gs ∧ (∀ g, g < L.length → mt g = -1 → (f' g - f g).natAbs + l ≤ m) ∧
    (0 < l → ∀ g, g < L.length → mt g = -1 → f' g = f g + s * V g a)
/-- Where walks reads. -/
structure WalkIn (B : Nat) (L : List (List Int)) (mt : Nat → Int) (vL vW : Value) (w : World) : Prop where
  rows : RowsIn (fun b => b < B) w vL L
  mates : IntsIn (fun b => b < B) w vW ((List.range L.length).map mt)
theorem WalkIn.kept {B gs : Nat} {L : List (List Int)} {mt : Nat → Int} {vL vW : Value} {w w' : World} (h : WalkIn B L mt vL vW w) (hK : KeepBut w w' gs gs) (hB : B ≤ gs) : WalkIn B L mt vL vW w' :=
  ⟨h.rows.keep' (fun b hb hS => hK.block b hb (by have hS : b < B := hS; omega) (by have hS : b < B := hS; omega)), SliceIn.keep h.mates (fun b hb hS => hK.block b hb (by have hS : b < B := hS; omega) (by have hS : b < B := hS; omega))⟩
theorem sign_mul {a b : Int} (ha : a = 1 ∨ a = -1) (hb : b = 1 ∨ b = -1) : a * b = 1 ∨ a * b = -1 := by
  rcases ha with rfl | rfl <;> rcases hb with rfl | rfl <;> decide
theorem sign_neg {a : Int} (ha : a = 1 ∨ a = -1) : -a = 1 ∨ -a = -1 := by rcases ha with rfl | rfl <;> decide
theorem wrap_sign {a : Int} (ha : a = 1 ∨ a = -1) : wrap64 a = a ∧ IntKind.i64.wrap a = a := by rcases ha with rfl | rfl <;> exact ⟨by unfold wrap64; omega, by decide⟩

set_option maxRecDepth 100000 in
set_option maxHeartbeats 8000000 in
theorem walks_ {L : List (List Int)} {mt : Nat → Int} {V : Nat → Nat → Int} {B gs : Nat} {vL vW : Value} (hF : FaceList L) (hL6 : L.length ≤ 600) (hx : ∀ x ∈ L, x.length ≤ 1000) (hV : ValsOf L mt V) (hM : MateOk L mt) (hB : B ≤ gs) :
    ∀ (m a : Nat) (s : Int) (f : Nat → Int) (w : World), m ≤ 20000 → a < L.length → (s = 1 ∨ s = -1) → (∀ g, g < L.length → mt g = -1 → (f g).natAbs + m ≤ 20000) → WalkIn B L mt vL vW w → w.rowIs gs 3 L.length (fun i => .int .i64 (f i)) →
      Calls Tryz.prog 43 #[vL, vW, .int .i64 (a : Int), .int .i64 s, .slice (some ⟨gs, 0, none⟩) L.length L.length, .int .i64 (m : Int)] w fun e w' => WalkSays L mt V gs m a s f w e w' := by
  intro m
  induction m using Nat.strongRecOn with
  | ind m ih =>
  intro a s f w hm ha hs hf hW hr
  have HIH : Hid (∀ y, y < m → ∀ (a : Nat) (s : Int) (f : Nat → Int) (w : World), y ≤ 20000 → a < L.length → (s = 1 ∨ s = -1) → (∀ g, g < L.length → mt g = -1 → (f g).natAbs + y ≤ 20000) → WalkIn B L mt vL vW w → w.rowIs gs 3 L.length (fun i => .int .i64 (f i)) →
      Calls Tryz.prog 43 #[vL, vW, .int .i64 (a : Int), .int .i64 s, .slice (some ⟨gs, 0, none⟩) L.length L.length, .int .i64 (y : Int)] w fun e w' => WalkSays L mt V gs y a s f w e w') := ih
  have HH : Hid (WalkIn B L mt vL vW w ∧ (∀ g, g < L.length → mt g = -1 → (f g).natAbs + m ≤ 20000) ∧ (s = 1 ∨ s = -1) ∧ ValsOf L mt V ∧ B ≤ gs ∧ FaceList L) := ⟨hW, hf, hs, hV, hB, hF⟩
  have HXL : Hid (∀ i, i < L.length → (faceAt L i).length ≤ 1000) := fun i hi => hx _ (faceAt_mem hi)
  have HU : Hid (∀ (i k : Nat) (W : World), KeepBut w W gs gs → i < L.length → k < L.length → Calls Tryz.prog 36 #[vL, .int .i64 (i : Int), .int .i64 (k : Int)] W fun e w' => e = .returned (.bool (undL L i k)) ∧ Below W.heap.size W w') := fun i k W hK hi hk => (under_ vL i k W (hW.kept hK hB).rows.any hi hk (by omega) hx).mono fun e w' h => ⟨by rw [h.1]; simp [undL, hi], h.2⟩
  obtain ⟨n, hn⟩ : ∃ n, L.length = n := ⟨_, rfl⟩
  have HNN : Hid (L.length = n) := hn
  rcases Nat.eq_zero_or_pos m with h0 | h0
  · subst h0
    obtain ⟨aL, cL, rfl, -, -⟩ := hW.rows.open_
    obtain ⟨aW, cW, rfl, -, -⟩ := hW.mates.open_
    clear ih hf hW hM hV hF hx
    go_enter Tryz.func43, Tryz.ntmps43
    go_wp2_with fail
    go_ret
    exact ⟨0, f, rfl, Nat.le_refl _, fun h => absurd h (by omega), hr, KeepBut.refl _ _ _, fun g _ _ => by simp, fun h => absurd h (by omega)⟩
  · obtain ⟨k, hmk⟩ : ∃ k, m = k + 1 := ⟨m - 1, by omega⟩
    have HMK : Hid (m = k + 1) := hmk
    have hm1 : ((m : Int) == 0) = false := beq_false_of_ne (by omega)
    have hm2 : wrap64 ((m : Int) - 1) = (k : Int) := by unfold wrap64; omega
    have hm3 : (m : Int) - 1 = (k : Int) := by omega
    clear hmk
    obtain ⟨aL, cL, rfl, -, hrows⟩ := hW.rows.open_
    obtain ⟨aW, cW, rfl, -, hmt⟩ := hW.mates.open_
    rw [List.length_map, List.length_range] at hmt HIH HH ⊢
    obtain ⟨bW, oW, rfl, -, hbW, hmc⟩ := hmt (by omega)
    have w0 := hmc a ha
    rw [show ((List.range L.length).map mt)[a]?.getD 0 = mt a from by rw [List.getElem?_map, List.getElem?_range ha]; rfl] at w0
    obtain ⟨bL, oL, rfl, -, hbL, hrw⟩ := hrows (by omega)
    have hma := hM a ha
    have z1 : (a : Int) < (n : Int) := by omega
    have hr0 := hr.cell (i := a) ha
    have hrf := hr.frozen a
    have HRW := Hid.mk' hrw
    have HMM : Hid (MateOk L mt ∧ a < L.length) := ⟨hM, ha⟩
    rw [hn] at ha hL6 hr HIH HU ⊢
    clear ih hf hW hM hV hF hx hmt hmc hrows hrw hn
    rcases hma with hma | ⟨b, hma, hb, hab⟩
    · rw [hma] at w0
      have hfa : wrap64 (f a + s) = f a + s := by
        have h1 := HH.out.2.1 a HMM.out.2 hma
        have h2 := HH.out.2.2.1
        unfold wrap64; omega
      have hset := hr.set a (.int .i64 (f a + s))
      have HSE : Hid ((w.setCell ⟨gs, a, none⟩ (.int .i64 (f a + s))).rowIs gs 3 n (fun j => .int .i64 (if j = a then f a + s else f j)) ∧ KeepBut w (w.setCell ⟨gs, a, none⟩ (.int .i64 (f a + s))) gs gs) := ⟨hset.congr fun j _ => by split <;> rfl, (KeepBut.refl w gs gs).on (grown_one w ⟨gs, a, none⟩ _) (fun b e => by cases e; exact .inl rfl)⟩
      have HMA : Hid (mt a = -1) := hma
      clear hset hma
      go_enter Tryz.func43, Tryz.ntmps43
      go_wp2_with fail
      go_ret
      have hmk := HMK.out
      refine ⟨k, fun j => if j = a then f a + s else f j, rfl, by omega, fun _ => by omega, ?_, HSE.out.2, fun g hg hc => ?_, fun _ g hg hc => ?_⟩
      · rw [HNN.out]; exact HSE.out.1
      · have h2 := HH.out.2.2.1
        by_cases e : g = a
        · subst e; simp only [if_true]; omega
        · simp only [if_neg e]; omega
      · by_cases e : g = a
        · subst e
          simp only [if_true]
          rw [HH.out.2.2.2.1.goal]; omega
        · simp only [if_neg e]
          rw [HH.out.2.2.2.1.zero g a (fun e2 => e e2.symm) (by unfold upW; rw [HMA.out, if_neg (by omega)])]; omega
    · rw [hma] at w0
      have HMA : Hid (mt a = (b : Int)) := hma
      obtain ⟨ab, pb, gb2, ib⟩ := HRW.out b hb
      obtain ⟨aa, pa, ga2, ia⟩ := HRW.out a HMM.out.2
      obtain ⟨la, hla⟩ : ∃ la, (faceAt L a).length = la := ⟨_, rfl⟩
      obtain ⟨lb, hlb⟩ : ∃ lb, (faceAt L b).length = lb := ⟨_, rfl⟩
      have HIB := Hid.mk' (And.intro ib ia)
      rw [show (L[b]?.getD []).length = lb from hlb] at gb2
      rw [show (L[a]?.getD []).length = la from hla] at ga2
      have HLL : Hid ((faceAt L a).length = la ∧ (faceAt L b).length = lb) := ⟨hla, hlb⟩
      have z2 : (b : Int) < (n : Int) := by rw [HNN.out] at hb; omega
      clear ib ia hla hlb hma
      rcases hab with ⟨hab, hlt⟩ | ⟨hab, hlt⟩
      · have hl : lb = la + 1 := by have := (und_len hab).1; rw [HLL.out.1, HLL.out.2] at this; omega
        have hdl : decide (lb < la) = false := decide_eq_false (by omega)
        have HAB : Hid (undL L a b = true ∧ a < b ∧ b < L.length) := ⟨hab, hlt, hb⟩
        have hd25 : decide ((b : Int) < 0) = false := decide_eq_false (by omega)
        clear hab hl
        go_enter Tryz.func43, Tryz.ntmps43
        go_wp2_with fail
        go_quiet (fail)
        go_wp2_with fail
        have HK0 : Hid (KeepBut w (w.drewN nq) gs gs) := ⟨rfl, rfl, rfl, Nat.le_refl _, fun _ _ _ _ => rfl⟩
        obtain ⟨sa, hsa⟩ : ∃ sa, sgL L b a = sa := ⟨_, rfl⟩
        have HSA : Hid (sgL L b a = sa ∧ signI (faceAt L b) (faceAt L a) = sa ∧ (sa = 1 ∨ sa = -1)) := by
          have h := und_sign HH.out.2.2.2.2.2 HAB.out.2.2 HAB.out.1
          rw [hsa] at h
          exact ⟨hsa, h.1.symm, h.2⟩
        clear hsa gb2 ga2 w0 hr0 hrf hdl hlt hb
        go_loopw [5, 14] (fun l p W => ∃ (x lf : Nat) (f' : Nat → Int), x ≤ n ∧ p = .int .i64 (x : Int) ∧ l = .int .i64 (lf : Int) ∧ lf ≤ k ∧ Hid (W.rowIs gs 3 n (fun j => .int .i64 (f' j)) ∧ KeepBut w W gs gs ∧ (∀ g, g < L.length → mt g = -1 → (f' g - f g).natAbs + lf ≤ k) ∧ (0 < lf → ∀ g, g < L.length → mt g = -1 → f' g = f g + s * -sa * wsum (fun x => undL L x b) (sgL L b) (V g) (a : Int) x))) (fun _ p _ => n - (intOf p).toNat)
        case atStart => exact ⟨0, k, f, by omega, rfl, rfl, Nat.le_refl _, hr.of_block rfl, HK0.out, fun g _ _ => by simp, fun _ g _ _ => by simp [wsum]⟩
        case round =>
          obtain ⟨x, lf, f', hxn, rfl, rfl, hlk, HJ⟩ := hrel
          have stop : (x = n ∨ lf = 0) → WalkSays L mt V gs m a s f w (.returned (.int .i64 (lf : Int))) wr := fun hst => by
            have hmk := HMK.out
            refine ⟨lf, f', rfl, by omega, fun _ => by omega, by rw [HNN.out]; exact HJ.out.1, HJ.out.2.1, fun g hg hc => by have := HJ.out.2.2.1 g hg hc; omega, fun h0 g hg hc => ?_⟩
            have hxe : x = n := by omega
            rw [HJ.out.2.2.2 h0 g hg hc, HH.out.2.2.2.1.lead g a b (fun e => by subst e; rw [HMA.out] at hc; omega) (by unfold upW; rw [HMA.out, if_pos (by have := HAB.out.2.1; omega)]; simp), HSA.out.1, hxe, HNN.out, Int.mul_assoc]
          have HST := Hid.mk' stop
          clear stop
          by_cases hxl : x < n
          · by_cases hl0 : lf = 0
            · have hstop := HST.out (.inr hl0)
              subst hl0
              have HS2 := Hid.mk' hstop
              clear hstop
              go_wp2_with fail
              go_ret
              exact HS2.out
            · have hlp : 0 < (lf : Int) := by omega
              have hxl2 : (x : Int) < (n : Int) := by omega
              have hxL : x < L.length := by rw [HNN.out]; exact hxl
              by_cases hxa : x = a
              · have HWS : Hid (∀ g, wsum (fun x => undL L x b) (sgL L b) (V g) (a : Int) (x + 1) = wsum (fun x => undL L x b) (sgL L b) (V g) (a : Int) x) := fun g => by
                  show _ + _ = _
                  rw [if_neg (fun h => h.1 (by rw [hxa]))]; omega
                subst hxa
                go_wp2_with fail
                go_roundw
                case rel => exact ⟨x + 1, lf, f', by omega, by go_num, rfl, hlk, HJ.out.1, HJ.out.2.1, HJ.out.2.2.1, fun h g hg hc => by rw [HWS.out]; exact HJ.out.2.2.2 h g hg hc⟩
                case measure => simp [intOf]; omega
              · have hun := HU.out x b wr HJ.out.2.1 hxl (by rw [← HNN.out]; exact HAB.out.2.2)
                have hne : ((x : Int) == (a : Int)) = false := beq_false_of_ne (by omega)
                cases hu : undL L x b with
                | false =>
                  rw [hu] at hun
                  have HWS : Hid (∀ g, wsum (fun x => undL L x b) (sgL L b) (V g) (a : Int) (x + 1) = wsum (fun x => undL L x b) (sgL L b) (V g) (a : Int) x) := fun g => by
                    show _ + _ = _
                    rw [if_neg (fun h => by have h2 : undL L x b = true := h.2; rw [hu] at h2; cases h2)]; omega
                  clear hu
                  go_wp2_with (first
                    | (go_at_call 36; refine hun.mono ?_; clear hun; rintro e V2 ⟨rfl, hV⟩; have HV := Hid.mk' hV; clear hV)
                    | fail)
                  go_roundw
                  case rel => exact ⟨x + 1, lf, f', by omega, by go_num, rfl, hlk, HJ.out.1.of_block (HV.out.block gs HJ.out.1.lt), HJ.out.2.1.below HV.out, HJ.out.2.2.1, fun h g hg hc => by rw [HWS.out]; exact HJ.out.2.2.2 h g hg hc⟩
                  case measure => simp [intOf]; omega
                | true =>
                  rw [hu] at hun
                  have hsx := und_sign HH.out.2.2.2.2.2 HAB.out.2.2 hu
                  obtain ⟨sx, hsx2⟩ : ∃ sx, sgL L b x = sx := ⟨_, rfl⟩
                  rw [hsx2] at hsx
                  have HSX : Hid (sgL L b x = sx ∧ signI (faceAt L b) (faceAt L x) = sx ∧ (sx = 1 ∨ sx = -1)) := ⟨hsx2, hsx.1.symm, hsx.2⟩
                  have HWS : Hid (∀ g, wsum (fun x => undL L x b) (sgL L b) (V g) (a : Int) (x + 1) = wsum (fun x => undL L x b) (sgL L b) (V g) (a : Int) x + sx * V g x) := fun g => by
                    show _ + _ = _
                    rw [if_pos ⟨by omega, hu⟩, HSX.out.1]
                  have q1 := wrap_sign (sign_neg HSA.out.2.2)
                  have q2 := wrap_sign (sign_mul (sign_neg HSA.out.2.2) HSX.out.2.2)
                  have q3 := wrap_sign (sign_mul HH.out.2.2.1 (sign_mul (sign_neg HSA.out.2.2) HSX.out.2.2))
                  have HS3 : Hid (s * (-sa * sx) = 1 ∨ s * (-sa * sx) = -1) := sign_mul HH.out.2.2.1 (sign_mul (sign_neg HSA.out.2.2) HSX.out.2.2)
                  obtain ⟨q11, q12⟩ := q1
                  obtain ⟨q21, q22⟩ := q2
                  obtain ⟨q31, q32⟩ := q3
                  clear hu hsx hsx2
                  go_upto_region 14 with (first
                    | (go_at_call 36; refine hun.mono ?_; clear hun; rintro e V2 ⟨rfl, hV⟩; have HV := Hid.mk' hV; clear hV)
                    | fail)
                  have HK2 : Hid (KeepBut w V2 gs gs) := HJ.out.2.1.below HV.out
                  have hWI := HH.out.1.kept HK2.out HH.out.2.2.2.2.1
                  obtain ⟨aL', cL', e1, -, hrows⟩ := hWI.rows.open_
                  rw [HNN.out] at e1
                  cases e1
                  obtain ⟨bL', oL', e2, -, hbL', hrw⟩ := hrows (by rw [HNN.out]; omega)
                  cases e2
                  obtain ⟨a1, p1, g1, i1⟩ := hrw b HAB.out.2.2
                  obtain ⟨a2, p2, g2, i2⟩ := hrw a HMM.out.2
                  obtain ⟨a3, p3, g3, i3⟩ := hrw x hxL
                  have j2 : Ints V2 (.slice a2 (L[a]?.getD []).length p2) (faceAt L a) := i2.any
                  have j3 : Ints V2 (.slice a3 (L[x]?.getD []).length p3) (faceAt L x) := i3.any
                  have k2 := HXL.out a HMM.out.2
                  have k3 := HXL.out x hxL
                  have hso : ∀ q (va : Value) (F : List Int), Ints V2 va F → F.length ≤ 1000 → Calls Tryz.prog 44 #[.slice a1 (L[b]?.getD []).length p1, va] (V2.drewN q) fun e w' => e = .returned (.int .i64 (signI (faceAt L b) F)) ∧ ∃ q', w' = (V2.drewN q).drewN q' := fun q va F h1 h2 => sign_of _ _ (faceAt L b) F (V2.drewN q) (show Ints V2 _ _ from i1.any) h1 (HXL.out b HAB.out.2.2) h2
                  have t1 := HSA.out.2.1
                  have t2 := HSX.out.2.1
                  obtain ⟨fa, hfa⟩ : ∃ fa, faceAt L a = fa := ⟨_, rfl⟩
                  obtain ⟨fx, hfx⟩ : ∃ fx, faceAt L x = fx := ⟨_, rfl⟩
                  obtain ⟨fb, hfb⟩ : ∃ fb, faceAt L b = fb := ⟨_, rfl⟩
                  rw [hfa] at j2 k2 t1
                  rw [hfx] at j3 k3 t2
                  rw [hfb] at t1 t2 hso
                  obtain ⟨n1, hn1⟩ : ∃ n1, (L[b]?.getD []).length = n1 := ⟨_, rfl⟩
                  obtain ⟨n2, hn2⟩ : ∃ n2, (L[a]?.getD []).length = n2 := ⟨_, rfl⟩
                  obtain ⟨n3, hn3⟩ : ∃ n3, (L[x]?.getD []).length = n3 := ⟨_, rfl⟩
                  rw [hn1] at g1 hso
                  rw [hn2] at g2 j2
                  rw [hn3] at g3 j3
                  clear hrows hrw i1 i2 i3 hWI hn1 hn2 hn3 hbL' hfa hfx hfb
                  go_quiet ((go_at_call 44; exact Calls.quiet_of (hso _ _ _ (by first | exact j2 | exact j3) (by first | exact k2 | exact k3))))
                  have HK3 : Hid (KeepBut w (V2.drewN nq) gs gs) := ⟨HK2.out.os, HK2.out.tape, HK2.out.output, HK2.out.size, HK2.out.block⟩
                  have hcall := HIH.out lf (by have := HMK.out; omega) x (s * (-sa * sx)) f' (V2.drewN nq) (by have := HMK.out; omega) hxl HS3.out (fun g hg hc => by
                    have h1 := HJ.out.2.2.1 g (by rw [HNN.out]; exact hg) hc
                    have h2 := HH.out.2.1 g (by rw [HNN.out]; exact hg) hc
                    have := HMK.out
                    omega) (by have h9 := HH.out.1.kept HK3.out HH.out.2.2.2.2.1; rw [HNN.out] at h9; exact h9) ((HJ.out.1.of_block (HV.out.block gs HJ.out.1.lt)).of_block rfl)
                  clear q11 q12 q21 q22 t1 t2 hso j2 j3 k2 k3 g1 g2 g3
                  go_wp2_with (first
                    | (go_at_call 43; refine hcall.mono ?_; clear hcall; rintro e V3 ⟨l2, f2, rfl, p1, p2, p3, p4, p5, p6⟩; have HP := Hid.mk' (And.intro p1 (And.intro p2 (And.intro p3 (And.intro p4 (And.intro p5 p6))))); clear p1 p2 p3 p4 p5 p6)
                    | fail)
                  go_roundw
                  case rel =>
                    obtain ⟨p1, p2, p3, p4, p5, p6⟩ := HP.out
                    rw [HNN.out] at p3
                    refine ⟨x + 1, l2, f2, by omega, by go_num, rfl, by omega, p3, HK3.out.trans p4, fun g hg hc => ?_, fun h g hg hc => ?_⟩
                    · have h1 := p5 g hg hc
                      have h2 := HJ.out.2.2.1 g hg hc
                      omega
                    · rw [p6 h g hg hc, HJ.out.2.2.2 (by omega) g hg hc, HWS.out, Int.mul_add, Int.add_assoc, Int.mul_assoc s (-sa) (sx * V g x), ← Int.mul_assoc (-sa) sx (V g x), ← Int.mul_assoc s (-sa * sx) (V g x)]
                  case measure => simp [intOf]; omega
          · have hstop := HST.out (.inl (by omega))
            have hxe : x = n := by omega
            subst hxe
            have HS2 := Hid.mk' hstop
            clear hstop
            go_wp2_with fail
            go_ret
            exact HS2.out
      · have hl : la = lb + 1 := by have := (und_len hab).1; rw [HLL.out.1, HLL.out.2] at this; omega
        have hdl : decide (lb < la) = true := decide_eq_true (by omega)
        have HAB : Hid (b < a) := hlt
        clear hab hl
        go_enter Tryz.func43, Tryz.ntmps43
        go_wp2_with fail
        go_quiet (fail)
        go_wp2_with fail
        go_ret
        have hmk := HMK.out
        refine ⟨k, f, rfl, by omega, fun _ => by omega, ?_, ⟨rfl, rfl, rfl, Nat.le_refl _, fun _ _ _ _ => rfl⟩, fun g hg hc => by omega, fun _ g hg hc => ?_⟩
        · rw [HNN.out]; exact hr.of_block rfl
        · rw [HH.out.2.2.2.1.zero g a (fun e => by subst e; rw [HMA.out] at hc; omega) (by unfold upW; rw [HMA.out, if_neg (by have := HAB.out; omega)])]; omega

end Go.Proofs.YtnnkmkhamipfiaaGreatDoor

namespace Go.Proofs.YtnnkmkhamipfiaaGreatDoor
open Go.RowKit Go.Sort

/-- An error as a value: of a pointer, and it stays. -/
structure ErrX (EX : World → Value → Prop) : Prop where
  stays : ∀ W W' ve, EX W ve → Below W.heap.size W W' → EX W' ve
  form : ∀ W ve, EX W ve → ve = .iface 250 (.pointer (match ve with | .iface _ (.pointer p) => p | _ => none)) ∨ ve = .iface 118 (.pointer (match ve with | .iface _ (.pointer p) => p | _ => none))
  poke : ∀ W W' ve b r c v, EX W ve → MatBox b W r c v → KeepBut W W' b b → EX W' ve
theorem errX_str (p : Addr) : ErrX (fun _ ve => ve = .iface 250 (.pointer (some p))) := ⟨fun _ _ _ h _ => h, fun _ _ h => by subst h; exact .inl rfl, fun _ _ _ _ _ _ _ h _ _ => h⟩
theorem errX_fault (a : Nat → Addr) (i : Nat) (p : Int) : ErrX (fun W ve => FaultAt a W ve i p) := ⟨fun _ _ _ h hB => h.below hB, fun _ _ h => by obtain ⟨q, rfl, _⟩ := h; exact .inr rfl, fun W W' ve b r c v h hm hK => by
  obtain ⟨q, e, h1, h2⟩ := h
  have hne : q ≠ b := fun e => by
    subst e
    have h3 := hm.c1.1
    rw [show (⟨q, 0 + 1, none⟩ : Addr) = ⟨q, 1, none⟩ from rfl, h3] at h2
    cases h2
  exact ⟨q, e, (hK.cell (p := ⟨q, 0, none⟩) (cell_lt h1) hne hne).trans h1, (hK.cell (p := ⟨q, 0 + 1, none⟩) (cell_lt h2) hne hne).trans h2⟩⟩
theorem ErrX.cases {EX : World → Value → Prop} (h : ErrX EX) {W : World} {ve : Value} (he : EX W ve) : (∃ p, ve = .iface 250 (.pointer p)) ∨ ∃ p, ve = .iface 118 (.pointer p) := by
  rcases h.form W ve he with e | e
  · exact .inl ⟨_, e⟩
  · exact .inr ⟨_, e⟩

theorem put3_keep (W : World) (b : Nat) (x y z : Value) : KeepBut W (((W.setCell ⟨b, 0, none⟩ x).setCell ⟨b, 1, none⟩ y).setCell ⟨b, 2, none⟩ z) b b :=
  ⟨rfl, rfl, rfl, by simp, fun k _ hk _ => ((Below.heap_setCell _ _ _ k (fun e => hk e)).trans (Below.heap_setCell _ _ _ k (fun e => hk e))).trans (Below.heap_setCell _ _ _ k (fun e => hk e))⟩
section
variable {EX : World → Value → Prop}
set_option maxRecDepth 100000 in
set_option maxHeartbeats 2000000 in
theorem check_err (hX : ErrX EX) (al au : Option Addr) (ml cl mu cu : Nat) (w : World) (hf : ∀ V, Below w.heap.size w V → Calls Tryz.prog 37 #[.agg #[.slice al ml cl], .slice au mu cu] V fun e w' => ∃ ve, e = .returned (noField ve) ∧ EX w' ve ∧ Below V.heap.size V w') :
    Calls Tryz.prog 11 #[.agg #[.slice al ml cl], .slice au mu cu] w fun e w' => ∃ ve, e = .returned ve ∧ EX w' ve ∧ Below w.heap.size w w' := by
  have hB1 : Below w.heap.size w (w.alloc (.cells #[.slice al ml cl] 39)) := (Below.refl _ w).alloc (Nat.le_refl _) _
  have c0 := (box_new w (.slice al ml cl) 39).1
  have hf1 := hf _ hB1
  have HB1 := Hid.mk' hB1
  clear hf hB1
  go_enter Tryz.func11, Tryz.ntmps11
  go_wp2_with (first
    | (go_at_call 37; refine hf1.mono ?_; rintro e V ⟨ve, rfl, hE, hB⟩; have HV := Hid.mk' (And.intro hE hB); unfold noField; clear hf1 hE hB)
    | fail)
  go_ret
  have hB2 := (Below.refl V.heap.size V).alloc (Nat.le_refl _) (.cells #[.slice none 0 0, .slice none 0 0, .slice none 0 0, .slice none 0 0] 81)
  exact ⟨ve, rfl, hX.stays _ _ _ HV.out.1 hB2, (HB1.out.trans (HV.out.2.mono (by simp))).alloc ((HB1.out.trans (HV.out.2.mono (by simp))).size) _⟩

set_option maxRecDepth 100000 in
set_option maxHeartbeats 2000000 in
theorem critical_err (hX : ErrX EX) (al au : Option Addr) (ml cl mu cu : Nat) (w : World) (hf : ∀ V, Below w.heap.size w V → Calls Tryz.prog 37 #[.agg #[.slice al ml cl], .slice au mu cu] V fun e w' => ∃ ve, e = .returned (noField ve) ∧ EX w' ve ∧ Below V.heap.size V w') :
    Calls Tryz.prog 14 #[.agg #[.slice al ml cl], .slice au mu cu] w fun e w' => ∃ ve, e = .returned (.tuple #[.slice none 0 0, ve]) ∧ EX w' ve ∧ Below w.heap.size w w' := by
  have hB1 : Below w.heap.size w (w.alloc (.cells #[.slice al ml cl] 39)) := (Below.refl _ w).alloc (Nat.le_refl _) _
  have c0 := (box_new w (.slice al ml cl) 39).1
  have hf1 := hf _ hB1
  have HB1 := Hid.mk' hB1
  clear hf hB1
  go_enter Tryz.func14, Tryz.ntmps14
  go_upto_region 2 with (first
    | (go_at_call 37; refine hf1.mono ?_; rintro e V ⟨ve, rfl, hE, hB⟩; have HV := Hid.mk' (And.intro hE hB); unfold noField; clear hf1 hE hB)
    | fail)
  have hB2 := (Below.refl V.heap.size V).alloc (Nat.le_refl _) (.cells #[.slice none 0 0, .slice none 0 0, .slice none 0 0, .slice none 0 0] 81)
  have HE := Hid.mk' (And.intro (hX.stays _ _ _ HV.out.1 hB2) ((HB1.out.trans (HV.out.2.mono (by simp))).trans (hB2.mono (by have := HB1.out.size; have := HV.out.2.size; simp at this; omega))))
  clear hB2
  rcases hX.cases HV.out.1 with ⟨q, rfl⟩ | ⟨q, rfl⟩
  · go_wp2_with fail
    go_ret2
    exact ⟨_, rfl, HE.out.1, HE.out.2⟩
  · go_wp2_with fail
    go_ret2
    exact ⟨_, rfl, HE.out.1, HE.out.2⟩

set_option maxRecDepth 100000 in
set_option maxHeartbeats 2000000 in
theorem bound_err (hX : ErrX EX) (al au : Option Addr) (ml cl mu cu : Nat) (d : Int) (w : World) (hf : ∀ V, Below w.heap.size w V → Calls Tryz.prog 37 #[.agg #[.slice al ml cl], .slice au mu cu] V fun e w' => ∃ ve, e = .returned (noField ve) ∧ EX w' ve ∧ Below V.heap.size V w') :
    Calls Tryz.prog 15 #[.agg #[.slice al ml cl], .slice au mu cu, .int .i64 d] w fun e w' => ∃ ve, e = .returned (.tuple #[.agg #[.int .i64 0, .int .i64 0, .slice none 0 0], ve]) ∧ EX w' ve ∧ Below w.heap.size w w' := by
  have hB1 : Below w.heap.size w ((w.alloc (.cells #[.slice al ml cl] 39)).alloc (.cells #[.int .i64 0, .int .i64 0, .slice none 0 0] 45)) := ((Below.refl _ w).alloc (Nat.le_refl _) _).alloc (by simp) _
  have c0 := (World.cell?_alloc_lt (w.alloc (.cells #[.slice al ml cl] 39)) (.cells #[.int .i64 0, .int .i64 0, .slice none 0 0] 45) ⟨w.heap.size, 0, none⟩ (by simp)).trans (box_new w (.slice al ml cl) 39).1
  have hmb := matBox_new (w.alloc (.cells #[.slice al ml cl] 39)) 0 0 (.slice none 0 0) 45
  rw [World.size_alloc] at hmb
  have hf1 := hf _ hB1
  have HB1 := Hid.mk' hB1
  have HMB := Hid.mk' hmb
  clear hf hB1 hmb
  go_enter Tryz.func15, Tryz.ntmps15
  go_upto_region 2 with (first
    | (go_at_call 37; refine hf1.mono ?_; rintro e V ⟨ve, rfl, hE, hB⟩; have HV := Hid.mk' (And.intro hE hB); unfold noField; clear hf1 hE hB)
    | fail)
  have hB2 := (Below.refl V.heap.size V).alloc (Nat.le_refl _) (.cells #[.slice none 0 0, .slice none 0 0, .slice none 0 0, .slice none 0 0] 81)
  have hBV : Below w.heap.size w (V.alloc (.cells #[.slice none 0 0, .slice none 0 0, .slice none 0 0, .slice none 0 0] 81)) := (HB1.out.trans (HV.out.2.mono (by simp; omega))).trans (hB2.mono (by have := HB1.out.size; have := HV.out.2.size; simp at this; omega))
  have HE := Hid.mk' (And.intro (hX.stays _ _ _ HV.out.1 hB2) hBV)
  have hm2 := (HMB.out.below HV.out.2).below hB2
  have r0 := hm2.c0
  have r1 := hm2.c1
  have r2 := hm2.c2
  obtain ⟨r0, f0⟩ := r0
  obtain ⟨r1, f1⟩ := r1
  obtain ⟨r2, f2⟩ := r2
  have HQ := Hid.mk' hm2
  clear hB2 hBV hm2
  rcases hX.cases HV.out.1 with ⟨q, rfl⟩ | ⟨q, rfl⟩
  all_goals
    go_wp2_with fail
    have hp := HQ.out.put 0 0 (.slice none 0 0)
    have s0 := hp.c0.1
    have s1 := hp.c1.1
    have s2 := hp.c2.1
    have hB := ((HE.out.2.setCell (p := ⟨w.heap.size + 1, 0, none⟩) (by simp) (.int .i64 0)).setCell (p := ⟨w.heap.size + 1, 1, none⟩) (by simp) (.int .i64 0)).setCell (p := ⟨w.heap.size + 1, 2, none⟩) (by simp) (.slice none 0 0)
    have hK := put3_keep (V.alloc (.cells #[.slice none 0 0, .slice none 0 0, .slice none 0 0, .slice none 0 0] 81)) (w.heap.size + 1) (.int .i64 0) (.int .i64 0) (.slice none 0 0)
    refine bodyPost_ret (v := .tuple #[.agg #[.int .i64 0, .int .i64 0, .slice none 0 0], _]) ?_ rfl ⟨_, rfl, hX.poke _ _ _ _ _ _ _ HE.out.1 HQ.out hK, hB⟩
    simp [results, Tryz.f15, go_sem, s0, s1, s2]
end

end Go.Proofs.YtnnkmkhamipfiaaGreatDoor

namespace Go.Proofs.YtnnkmkhamipfiaaGreatDoor
open Go.RowKit Go.Sort

/-- A field as it is told of a good gradient. -/
def GoodF (L : List (List Int)) (mt : Nat → Int) (V : World) (e : Ending) (w' : World) : Prop :=
  ∃ ad aS ao cd cs co gm, e = .returned (.tuple #[fieldV L.length ad aS ao cd cs co gm, .nilIface]) ∧ ShapeIn (fun b => V.heap.size ≤ b) w' L ad aS ao cd cs co ∧ w'.rowIs gm 3 L.length (fun i => .int .i64 (mt i)) ∧ Below V.heap.size V w'
def critA (mt : Nat → Int) (k : Nat) : List Int := ((List.range k).filter fun f => decide (mt f = -1)).map fun (f : Nat) => (f : Int)
theorem critA_yes {mt : Nat → Int} {k : Nat} (h : mt k = -1) : critA mt (k + 1) = critA mt k ++ [(k : Int)] := by unfold critA; rw [List.range_succ, List.filter_append]; simp [h]
theorem critA_no {mt : Nat → Int} {k : Nat} (h : ¬ mt k = -1) : critA mt (k + 1) = critA mt k := by unfold critA; rw [List.range_succ, List.filter_append]; simp [h]
theorem critA_len (mt : Nat → Int) (k : Nat) : (critA mt k).length ≤ k := by
  unfold critA
  rw [List.length_map]
  refine Nat.le_trans (List.length_filter_le _ _) ?_
  rw [List.length_range]; exact Nat.le_refl _

set_option maxRecDepth 100000 in
set_option maxHeartbeats 2000000 in
theorem check_good {L : List (List Int)} {mt : Nat → Int} (al au : Option Addr) (ml cl mu cu : Nat) (w : World) (hf : ∀ V, Below w.heap.size w V → Calls Tryz.prog 37 #[.agg #[.slice al ml cl], .slice au mu cu] V fun e w' => GoodF L mt V e w') :
    Calls Tryz.prog 11 #[.agg #[.slice al ml cl], .slice au mu cu] w fun e w' => e = .returned .nilIface ∧ Below w.heap.size w w' := by
  have hB1 : Below w.heap.size w (w.alloc (.cells #[.slice al ml cl] 39)) := (Below.refl _ w).alloc (Nat.le_refl _) _
  have c0 := (box_new w (.slice al ml cl) 39).1
  have hf1 := hf _ hB1
  have HB1 := Hid.mk' hB1
  clear hf hB1
  go_enter Tryz.func11, Tryz.ntmps11
  go_wp2_with (first
    | (go_at_call 37; refine hf1.mono ?_; rintro e V ⟨ad, aS, ao, cd, cs, co, gm, rfl, hs, hr, hB⟩; have HV := Hid.mk' hB; unfold fieldV; clear hf1 hs hr hB)
    | fail)
  go_ret
  exact ⟨rfl, (HB1.out.trans (HV.out.mono (by simp))).alloc ((HB1.out.trans (HV.out.mono (by simp))).size) _⟩

set_option maxRecDepth 100000 in
set_option maxHeartbeats 4000000 in
theorem critical_good {L : List (List Int)} {mt : Nat → Int} (hL6 : L.length ≤ 600) (al au : Option Addr) (ml cl mu cu : Nat) (w : World) (hf : ∀ V, Below w.heap.size w V → Calls Tryz.prog 37 #[.agg #[.slice al ml cl], .slice au mu cu] V fun e w' => GoodF L mt V e w') :
    Calls Tryz.prog 14 #[.agg #[.slice al ml cl], .slice au mu cu] w fun e w' => ∃ v, e = .returned (.tuple #[v, .nilIface]) ∧ w'.ownsRow w.heap.size 3 1 v (critA mt L.length).length ((critA mt L.length).map (Value.int .i64)) ∧ Below w.heap.size w w' := by
  obtain ⟨i0, hi0, hz0, hz1, hz2⟩ := info_parts Tryz.info3
  have hB1 : Below w.heap.size w (w.alloc (.cells #[.slice al ml cl] 39)) := (Below.refl _ w).alloc (Nat.le_refl _) _
  have c0 := (box_new w (.slice al ml cl) 39).1
  have hf1 := hf _ hB1
  have HB1 := Hid.mk' hB1
  have HCR : Hid (∀ (f : Nat) (W : World) (ad aS ao : Option Addr) (cd cs co gm : Nat), W.rowIs gm 3 L.length (fun i => .int .i64 (mt i)) → f < L.length → Calls Tryz.prog 38 #[fieldV L.length ad aS ao cd cs co gm, .int .i64 (f : Int)] W fun e w' => e = .returned (.bool (decide (mt f = -1))) ∧ Below W.heap.size W w') := fun f W ad aS ao cd cs co gm h1 h2 => critical_ f L.length mt gm ad aS ao cd cs co W h1 h2 hL6
  obtain ⟨n, hn⟩ : ∃ n, L.length = n := ⟨_, rfl⟩
  have HNN : Hid (L.length = n) := hn
  unfold GoodF fieldV at hf1
  unfold fieldV at HCR
  rw [hn] at HCR hL6 hf1 ⊢
  clear hf hB1 hn
  go_enter Tryz.func14, Tryz.ntmps14
  go_upto_region 2 with (first
    | (go_at_call 37; refine hf1.mono ?_; rintro e V ⟨ad, aS, ao, cd, cs, co, gm, rfl, hs, hr, hB⟩; have HV := Hid.mk' (And.intro hr hB); clear hf1 hs hr hB)
    | fail)
  obtain ⟨xb, hxb⟩ : ∃ xb, V.heap.size = xb := ⟨_, rfl⟩
  have hBX : Below V.heap.size V (V.alloc (.cells #[.slice ad n cd, .slice aS n cs, .slice ao n co, .slice (some ⟨gm, 0, none⟩) n n] 81)) := (Below.refl _ V).alloc (Nat.le_refl _) _
  have hce := field_cells V (.slice ad n cd) (.slice aS n cs) (.slice ao n co) (.slice (some ⟨gm, 0, none⟩) n n) 81
  obtain ⟨X, hX⟩ : ∃ X, V.alloc (.cells #[.slice ad n cd, .slice aS n cs, .slice ao n co, .slice (some ⟨gm, 0, none⟩) n n] 81) = X := ⟨_, rfl⟩
  have hXs : X.heap.size = xb + 1 := by rw [← hX, ← hxb]; simp
  rw [hX] at hBX hce
  rw [hxb] at hce
  have d0 := hce 0 _ rfl
  have d1 := hce 1 _ rfl
  have d2 := hce 2 _ rfl
  have d3 := hce 3 _ rfl
  have HX : Hid (X.heap.size = xb + 1 ∧ X.rowIs gm 3 n (fun i => .int .i64 (mt i)) ∧ Below w.heap.size w X ∧ w.heap.size ≤ xb) := ⟨hXs, HV.out.1.of_block (hBX.block gm HV.out.1.lt), (HB1.out.trans (HV.out.2.mono (by simp))).trans (hBX.mono ((HB1.out.trans (HV.out.2.mono (by simp))).size)), by rw [← hxb]; exact (HB1.out.trans (HV.out.2.mono (by simp))).size⟩
  clear hce hBX hXs
  try rw [hX]
  try rw [hxb]
  clear hX hxb
  go_wp2_with fail
  go_loopw [8, 22] (fun v p W => ∃ k : Nat, k ≤ n ∧ p = .int .i64 k ∧ Hid (W.ownsRow (xb + 1) 3 1 v (critA mt k).length ((critA mt k).map (Value.int .i64)) ∧ Below (xb + 1) X W)) (fun _ p _ => n - (intOf p).toNat)
  case atStart => exact ⟨0, by omega, rfl, World.ownsRow_nil _ _ _ _, (by have := Below.refl (xb + 1) X; exact this)⟩
  case round =>
    obtain ⟨k, hk, rfl, HK⟩ := hrel
    obtain ⟨av, cv, rfl⟩ := own_slice HK.out.1
    by_cases hkn : k < n
    · have hxs : xb < X.heap.size := by have := HX.out.1; omega
      have b0 := (HK.out.2.cell (p := ⟨xb, 0, none⟩) (by simp)).trans d0
      have b1 := (HK.out.2.cell (p := ⟨xb, 1, none⟩) (by simp)).trans d1
      have b2 := (HK.out.2.cell (p := ⟨xb, 2, none⟩) (by simp)).trans d2
      have b3 := (HK.out.2.cell (p := ⟨xb, 3, none⟩) (by simp)).trans d3
      have hcr := HCR.out k wr ad aS ao cd cs co gm (HX.out.2.1.of_block (HK.out.2.block gm (by have := HX.out.2.1.lt; have := HX.out.1; omega))) hkn
      have hsz := HK.out.2.size
      have hXs := HX.out.1
      have own := HK.out.1
      have z1 : (k : Int) < (n : Int) := by omega
      have hcl : (critA mt k).length ≤ 1000 := by have := critA_len mt k; omega
      obtain ⟨cl, hcl2⟩ : ∃ cl, (critA mt k).length = cl := ⟨_, rfl⟩
      have HCL : Hid ((critA mt k).length = cl) := hcl2
      rw [hcl2] at own hcl ⊢
      clear hcl2
      by_cases e2 : mt k = -1
      · rw [decide_eq_true e2] at hcr
        have HY : Hid (critA mt (k + 1) = critA mt k ++ [(k : Int)]) := critA_yes e2
        clear e2
        go_wp2_with (first
          | (go_at_call 38; refine hcr.mono ?_; clear hcr; rintro e V ⟨rfl, hV⟩; have HVV : Hid (Below wr.heap.size wr V) := hV; have ownV := own.kept (Below.grownBy hV) (by cases (Value.slice av cl cv).ownBlock <;> simp); have hszV := hV.size; clear hV)
          | (at_builtin; refine wpList_append_slice rfl (.tmp 28) (.tmp 30) 29 rfl (xb + 1) 3 i0 (.int .i64 0) 8 Tryz.underlying29 hi0 hz0 hz1 hz2 rfl _ _ _ rfl (ownV.alloc _) _ [.int .i64 (k : Int)] rfl (slice_one _ _ _) (by simp [Value.oneCell']) (by simp; omega) (by unfold maxLen; simp; omega) (by simp; omega) ?_; intro v4 w4 hown4 hg4 hl4)
          | fail)
        go_roundw
        case rel =>
          refine ⟨k + 1, by omega, by go_num, ?_, ?_⟩
          · rw [HY.out, List.map_append, List.length_append, HCL.out]; exact hown4
          · exact ((HK.out.2.trans (HVV.out.mono (by omega))).alloc (by omega) _).grown hg4 (by simp; omega) (fun b hb => (ownV.lt b hb).1)
        case measure => simp [intOf]; omega
      · rw [decide_eq_false e2] at hcr
        have HNO : Hid (critA mt (k + 1) = critA mt k) := critA_no e2
        clear e2
        go_wp2_with (first
          | (go_at_call 38; refine hcr.mono ?_; clear hcr; rintro e V ⟨rfl, hV⟩; have HVV : Hid (Below wr.heap.size wr V) := hV; have ownV := own.kept (Below.grownBy hV) (by cases (Value.slice av cl cv).ownBlock <;> simp); have hszV := hV.size; clear hV)
          | fail)
        go_roundw
        case rel => exact ⟨k + 1, by omega, by go_num, by rw [HNO.out, HCL.out]; exact ownV, HK.out.2.trans (HVV.out.mono (by omega))⟩
        case measure => simp [intOf]; omega
    · obtain rfl : k = n := by omega
      go_wp2_with fail
      go_ret2
      exact ⟨_, rfl, own_lower HK.out.1 (by have := HX.out.2.2.2; omega), HX.out.2.2.1.trans (HK.out.2.mono (by have := HX.out.2.2.2; omega))⟩

end Go.Proofs.YtnnkmkhamipfiaaGreatDoor
