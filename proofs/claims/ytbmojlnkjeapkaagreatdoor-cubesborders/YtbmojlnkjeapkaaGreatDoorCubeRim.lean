/- What touchesRim, Pieces and Holes answer. -/
import Derived.Test.YtbmojlnkjeapkaaGreatDoorCubePieces
import Derived.Test.YtbmojlnkjeapkaaGreatDoorCubeCounts
namespace Go.Proofs.YtbmojlnkjeapkaaGreatDoor
open Go.RowKit Go.Sort Go.Maps

theorem starts_in {α : Type} {K P : α → Prop} {R : α → α → Prop} (hKP : ∀ a, K a → P a) : ∀ (l d : List α), ∀ s ∈ starts K R d l, P s
  | [], _, s, h => by cases h
  | a :: l, d, s, h => by
    unfold starts at h
    rcases List.mem_append.1 h with h | h
    · split at h
      · rename_i hn; cases List.mem_singleton.1 h; exact hKP _ hn.1
      · cases h
    · exact starts_in hKP l _ s h

/-- What touchesRim answers. -/
def RimSays (m : List (List UInt8)) (p : List Sq) (w : World) (e : Ending) (w' : World) : Prop := ∃ q : Bool, e = .returned (.bool q) ∧ (q = true ↔ ∃ b ∈ p, AtRim (wide m) m.length b) ∧ Below w.heap.size w w'

set_option maxRecDepth 100000 in
set_option maxHeartbeats 4000000 in
theorem rim_ (vm vp : Value) (m : List (List UInt8)) (w : World) (hm : Strs w vm m) (hi : Img m) (S : Nat → Prop) (p : List Sq) (hp : SqIn S w vp p) (hin : ∀ b ∈ p, InSq (wide m) m.length b) (hl : p.length ≤ 100000) :
    Calls Tryz.prog 36 #[vm, vp] w fun e w' => RimSays m p w e w' := by
  have hcols := hi.cols
  have hrows := hi.rows
  have hwd : ∀ W, Below w.heap.size w W → _ := fun W hW => width_ vm m W (hm.below hW) hi.rows
  obtain ⟨am, ca, rfl, -, -⟩ := hm.open_
  obtain ⟨ap, cp, rfl, hx⟩ := hp
  have HIN : Hid (∀ b ∈ p, InSq (wide m) m.length b) := hin
  clear hm hi hin
  go_enter Tryz.func36, Tryz.ntmps36
  go_wp2_with fail
  go_loopw [9] (fun v W => ∃ k : Nat, k ≤ p.length ∧ v = .int .i64 k ∧ Hid (∀ j b, j < k → p[j]? = some b → ¬ AtRim (wide m) m.length b) ∧ Hid (Below w.heap.size w W)) (fun v _ => p.length - (intOf v).toNat)
  case atStart => exact ⟨0, by omega, rfl, fun j b hj => absurd hj (Nat.not_lt_zero j), Below.refl _ _⟩
  case round =>
    obtain ⟨k, hk, rfl, HN, HB⟩ := hrel
    by_cases hlt : k < p.length
    · obtain ⟨g, rfl, hS, hg, hc⟩ := hx (by omega)
      obtain ⟨c0, c1⟩ := hc k hlt
      obtain ⟨x, y, hxy, hx1, hy1⟩ := sq_nat (HIN.out _ (List.getElem_mem hlt))
      rw [hxy] at c0 c1
      simp only at c0 c1
      have HPK : Hid (p[k]? = some ((x : Int), (y : Int))) := by show p[k]? = some _; rw [List.getElem?_eq_getElem hlt, hxy]
      have d0 := (HB.out.cell (p := ⟨g, k * 2, none⟩) hg).trans c0
      have d1 := (HB.out.cell (p := ⟨g, k * 2 + 1, none⟩) hg).trans c1
      have HBa : Hid (Below wr.heap.size wr (wr.alloc (.cells #[.int .i64 (x : Int), .int .i64 (y : Int)] 59))) := (Below.refl _ wr).alloc (Nat.le_refl _) _
      have hBw : Below w.heap.size w (wr.alloc (.cells #[.int .i64 (x : Int), .int .i64 (y : Int)] 59)) := HB.out.trans (HBa.out.mono HB.out.size)
      have h2 := two_cells wr (.int .i64 (x : Int)) (.int .i64 (y : Int)) 59
      have HBW := hBw
      have p1 : IntKind.i64.wrap ((wide m : Int) - 1) = (wide m : Int) - 1 := wrapI (by omega) (by omega)
      have p2 : IntKind.i64.wrap ((m.length : Int) - 1) = (m.length : Int) - 1 := wrapI (by omega) (by omega)
      clear hc hxy c0 c1
      go_upto_region 4 with fail
      obtain ⟨W3, hW3⟩ : ∃ W3, wr.alloc (.cells #[.int .i64 (x : Int), .int .i64 (y : Int)] 59) = W3 := ⟨_, rfl⟩
      obtain ⟨nb, hnb⟩ : ∃ nb, wr.heap.size = nb := ⟨_, rfl⟩
      rw [hW3, hnb] at h2
      rw [hW3] at hBw
      rw [hW3, hnb]
      have HB3 : Hid (Below w.heap.size w W3) := hBw
      obtain ⟨n0, n1⟩ := h2
      have hcall : ∀ n, Calls Tryz.prog 22 #[.slice am m.length ca] (W3.drewN n) fun e w'' => e = .returned (.int .i64 (wide m : Int)) ∧ w'' = W3.drewN n := fun n => hwd (W3.drewN n) (hBw.trans ⟨rfl, rfl, rfl, Nat.le_refl _, fun _ _ => rfl⟩)
      clear hW3 hnb hBw hwd HBa HBW
      go_cut [36] from 10 to 36 (fun s wx => ∃ z : Bool, s = .bool z ∧ Hid (z = true ↔ AtRim (wide m) m.length ((x : Int), (y : Int))) ∧ Hid (Below w.heap.size w wx))
      case first =>
        by_cases r1 : (x : Int) = 0
        · have b1 : ((x : Int) == 0) = true := beq_iff_eq.2 r1
          have HR : Hid (AtRim (wide m) m.length ((x : Int), (y : Int))) := .inl r1
          clear r1
          go_quiet (refine Calls.quiet_of_same (hcall _))
          go_wp2_with fail
          go_meet
          exact ⟨true, rfl, ⟨fun _ => HR.out, fun _ => rfl⟩, HB3.out.trans ⟨rfl, rfl, rfl, Nat.le_refl _, fun _ _ => rfl⟩⟩
        · have b1 : ((x : Int) == 0) = false := beq_false_of_ne r1
          by_cases r2 : (y : Int) = 0
          · have b2 : ((y : Int) == 0) = true := beq_iff_eq.2 r2
            have HR : Hid (AtRim (wide m) m.length ((x : Int), (y : Int))) := .inr (.inl r2)
            clear r1 r2
            go_quiet (refine Calls.quiet_of_same (hcall _))
            go_wp2_with fail
            go_meet
            exact ⟨true, rfl, ⟨fun _ => HR.out, fun _ => rfl⟩, HB3.out.trans ⟨rfl, rfl, rfl, Nat.le_refl _, fun _ _ => rfl⟩⟩
          · have b2 : ((y : Int) == 0) = false := beq_false_of_ne r2
            by_cases r3 : (x : Int) = (wide m : Int) - 1
            · have b3 : ((x : Int) == (wide m : Int) - 1) = true := beq_iff_eq.2 r3
              have HR : Hid (AtRim (wide m) m.length ((x : Int), (y : Int))) := .inr (.inr (.inl r3))
              clear r1 r2 r3
              go_quiet (refine Calls.quiet_of_same (hcall _))
              go_wp2_with fail
              go_meet
              exact ⟨true, rfl, ⟨fun _ => HR.out, fun _ => rfl⟩, HB3.out.trans ⟨rfl, rfl, rfl, Nat.le_refl _, fun _ _ => rfl⟩⟩
            · have b3 : ((x : Int) == (wide m : Int) - 1) = false := beq_false_of_ne r3
              by_cases r4 : (y : Int) = (m.length : Int) - 1
              · have b4 : ((y : Int) == (m.length : Int) - 1) = true := beq_iff_eq.2 r4
                have HR : Hid (AtRim (wide m) m.length ((x : Int), (y : Int))) := .inr (.inr (.inr r4))
                clear r1 r2 r3 r4
                go_quiet (refine Calls.quiet_of_same (hcall _))
                go_wp2_with fail
                go_meet
                exact ⟨true, rfl, ⟨fun _ => HR.out, fun _ => rfl⟩, HB3.out.trans ⟨rfl, rfl, rfl, Nat.le_refl _, fun _ _ => rfl⟩⟩
              · have b4 : ((y : Int) == (m.length : Int) - 1) = false := beq_false_of_ne r4
                have HR : Hid (¬ AtRim (wide m) m.length ((x : Int), (y : Int))) := fun h => by
                  rcases h with h | h | h | h
                  · exact r1 h
                  · exact r2 h
                  · exact r3 h
                  · exact r4 h
                clear r1 r2 r3 r4
                go_quiet (refine Calls.quiet_of_same (hcall _))
                go_wp2_with fail
                go_meet
                exact ⟨false, rfl, ⟨fun h => by (cases h), fun h => absurd h HR.out⟩, HB3.out.trans ⟨rfl, rfl, rfl, Nat.le_refl _, fun _ _ => rfl⟩⟩
      obtain ⟨z, rfl, HZ, HB4⟩ := hcut
      obtain ⟨W4, hW4⟩ : ∃ W4, W4 = wc := ⟨_, rfl⟩
      subst hW4
      cases z with
      | true =>
        have HZ1 : Hid (∃ b ∈ p, AtRim (wide m) m.length b) := ⟨_, List.mem_of_getElem? HPK.out, HZ.out.1 rfl⟩
        go_wp2_with fail
        go_ret
        exact ⟨true, rfl, ⟨fun _ => HZ1.out, fun _ => rfl⟩, HB4.out⟩
      | false =>
        have HZ0 : Hid (¬ AtRim (wide m) m.length ((x : Int), (y : Int))) := fun h => by have := HZ.out.2 h; cases this
        go_wp2_with fail
        go_roundw
        case rel =>
          refine ⟨k + 1, by omega, by go_num, fun j b hj hb => ?_, HB4.out⟩
          by_cases e : j = k
          · subst e
            rw [HPK.out] at hb
            cases hb
            exact HZ0.out
          · exact HN.out j b (by omega) hb
        case measure => simp [intOf]; omega
    · obtain rfl : k = p.length := by omega
      go_wp2_with fail
      go_ret
      refine ⟨false, rfl, ⟨fun h => by (cases h), ?_⟩, HB.out⟩
      rintro ⟨b, hb, hr⟩
      obtain ⟨j, hj, e⟩ := List.getElem_of_mem hb
      exact absurd hr (HN.out j b hj (by rw [List.getElem?_eq_getElem hj, e]))

set_option maxRecDepth 100000 in
set_option maxHeartbeats 1000000 in
theorem pieces_i {a : Nat → Addr} {s : Nat → ByteArray} (vm : Value) (m : List (List UInt8)) (w : World) (hE : Errs a s w) (hm : Strs w vm m) (hl : m.length ≤ 1000) :
    Calls Tryz.prog 18 #[vm] w fun e w' => AnswerI a m (fun v => .tuple #[.int .i64 0, v]) (.tuple #[.int .i64 (piecesN m (wide m) m.length), .nilIface]) w e w' := by
  have hval := valid_image vm m w hE hm hl
  have HM : Hid (Strs w vm m) := hm
  clear hE hm
  go_enter Tryz.func18, Tryz.ntmps18
  go_wp2_with fail
  refine hval.mono ?_
  rintro e w1 ⟨hd, ⟨i, hbad, rfl⟩ | ⟨hok, rfl⟩⟩
  · have HB : Hid (Below w.heap.size w w1) := hd.below
    have HI : Hid (BadImg m i) := hbad
    clear hval hd hbad
    go_wp2
    go_ret2
    exact ⟨HB.out, .inl ⟨i, HI.out, rfl⟩⟩
  · have HB : Hid (Below w.heap.size w w1) := hd.below
    have HO : Hid (OkImg m) := hok
    have hpa := pieces_ vm m w1 (HM.out.below hd.below) hok.img.1 hok.img.2.1 hok.img.2.2.1 true 35 35 rfl
    rw [show farN true = 2 from rfl] at hpa
    clear hval hd hok
    go_wp2_with fail
    refine hpa.mono ?_
    rintro e w2 ⟨v, ps, base, bm, rfl, ⟨vs, hrow, -⟩, hps, hB2⟩
    obtain ⟨av, cv, rfl⟩ := own_slice hrow
    have HN : Hid (piecesN m (wide m) m.length = ps.length) := hps.1.symm
    have HB2 : Hid (Below w1.heap.size w1 w2) := hB2
    clear hpa hrow hps hB2
    go_wp2_with fail
    go_ret2
    exact ⟨HB.out.trans (HB2.out.mono HB.out.size), .inr ⟨HO.out, by rw [HN.out]; rfl⟩⟩

open Classical in
/-- How many of the first ones do not come to the rim. -/
noncomputable def innerN (m : List (List UInt8)) (F : List Sq) (k : Nat) : Nat := (F.take k).countP fun s => decide (Inner m (wide m) m.length false s)

open Classical in
theorem innerN_succ (m : List (List UInt8)) {F : List Sq} {k : Nat} {s : Sq} (hs : F[k]? = some s) : innerN m F (k + 1) = innerN m F k + (if Inner m (wide m) m.length false s then 1 else 0) := by
  unfold innerN
  rw [List.take_add_one, hs, List.countP_append, Option.toList_some, List.countP_singleton]
  simp
theorem innerN_pos (m : List (List UInt8)) {F : List Sq} {k : Nat} {s : Sq} (hs : F[k]? = some s) (h : Inner m (wide m) m.length false s) : innerN m F (k + 1) = innerN m F k + 1 := by
  rw [innerN_succ m hs, if_pos h]
theorem innerN_neg (m : List (List UInt8)) {F : List Sq} {k : Nat} {s : Sq} (hs : F[k]? = some s) (h : ¬ Inner m (wide m) m.length false s) : innerN m F (k + 1) = innerN m F k := by
  rw [innerN_succ m hs, if_neg h, Nat.add_zero]
theorem innerN_le (m : List (List UInt8)) (F : List Sq) (k : Nat) : innerN m F k ≤ F.length := by
  unfold innerN
  refine Nat.le_trans List.countP_le_length ?_
  rw [List.length_take]
  omega

set_option maxRecDepth 100000 in
set_option maxHeartbeats 4000000 in
theorem holes_i {a : Nat → Addr} {s : Nat → ByteArray} (vm : Value) (m : List (List UInt8)) (w : World) (hE : Errs a s w) (hm : Strs w vm m) (hl : m.length ≤ 1000) :
    Calls Tryz.prog 19 #[vm] w fun e w' => AnswerI a m (fun v => .tuple #[.int .i64 0, v]) (.tuple #[.int .i64 (holesN m (wide m) m.length), .nilIface]) w e w' := by
  have hval := valid_image vm m w hE hm hl
  have HM : Hid (Strs w vm m) := hm
  clear hE hm
  go_enter Tryz.func19, Tryz.ntmps19
  go_wp2_with fail
  refine hval.mono ?_
  rintro e w1 ⟨hd, ⟨i, hbad, rfl⟩ | ⟨hok, rfl⟩⟩
  · have HB : Hid (Below w.heap.size w w1) := hd.below
    have HI : Hid (BadImg m i) := hbad
    clear hval hd hbad
    go_wp2
    go_ret2
    exact ⟨HB.out, .inl ⟨i, HI.out, rfl⟩⟩
  · have HB : Hid (Below w.heap.size w w1) := hd.below
    have HO : Hid (OkImg m) := hok
    have hpa := pieces_ vm m w1 (HM.out.below hd.below) hok.img.1 hok.img.2.1 hok.img.2.2.1 false 46 46 rfl
    rw [show farN false = 1 from rfl] at hpa
    clear hval hd hok
    go_wp2_with fail
    refine hpa.mono ?_
    rintro e w2 ⟨v, ps, base, bm, rfl, ⟨vs, hrow, hvs⟩, hps, hB2⟩
    obtain ⟨F, hF⟩ : ∃ F, firsts m (wide m) m.length 46 false = F := ⟨_, rfl⟩
    have HHN : Hid (holesN m (wide m) m.length = innerN m F F.length) := by
      show holesN m (wide m) m.length = innerN m F F.length
      unfold holesN innerN
      rw [List.take_length, hF]
    have hFl : F.length ≤ 10000 := by
      rw [← hF]
      refine Nat.le_trans (starts_len _ _) ?_
      rw [sqTo_len]
      exact Nat.le_trans (Nat.mul_le_mul HO.out.img.2.1 HO.out.img.2.2.1) (by decide)
    have HFin : Hid (∀ s ∈ F, InSq (wide m) m.length s) := by
      intro s hs
      rw [← hF] at hs
      exact starts_in (fun a h => h.1) _ _ _ hs
    rw [hF] at hps
    have hvl : vs.length = ps.length := by have := hrow.1; simpa using this
    have HPS : Hid (Pieced (StepTo m (wide m) m.length false) F ps) := hps
    have HVS : Hid (∀ (k : Nat) (u : Value) (p : List Sq), vs[k]? = some u → ps[k]? = some p → SqIn (fun b => base ≤ b ∧ b ≠ bm ∧ some b ≠ v.ownBlock) w2 u p) := hvs
    have hsl := slice_of_owns (S := fun _ => True) hrow (fun _ _ _ => trivial)
    obtain ⟨av, cv, rfl, -, hsc⟩ := hsl
    have hvF : vs.length = F.length := hvl.trans hps.1
    have HB2 : Hid (Below w1.heap.size w1 w2) := hB2
    have hBw2 : Below w.heap.size w w2 := HB.out.trans (hB2.mono HB.out.size)
    have HBw : Hid (Below w.heap.size w w2) := hBw2
    have HVL : Hid (vs.length = F.length) := hvF
    obtain ⟨N, hN⟩ : ∃ N, vs.length = N := ⟨_, rfl⟩
    have HNN : Hid (vs.length = N) := hN
    have hNl : N ≤ 10000 := by omega
    rw [hN] at hsc ⊢
    clear hpa hrow hvs hps hB2 hBw2 hvl hvF hN hF
    go_wp2_with fail
    go_loopw [5, 16] (fun v p W => ∃ k n : Nat, k ≤ N ∧ p = .int .i64 k ∧ v = .int .i64 n ∧ Hid (n = innerN m F k) ∧ n ≤ 10000 ∧ Hid (Below w2.heap.size w2 W)) (fun _ p _ => N - (intOf p).toNat)
    case atStart => exact ⟨0, 0, by omega, rfl, rfl, by show 0 = innerN m F 0; simp [innerN], by omega, Below.refl _ _⟩
    case round =>
      obtain ⟨k, n, hk, rfl, rfl, HK, hn, HW⟩ := hrel
      by_cases hlt : k < N
      · obtain ⟨bo, off, rfl, -, hcc⟩ := hsc (by omega)
        have hkv : k < vs.length := by rw [HNN.out]; exact hlt
        have hkF : k < F.length := by rw [← HVL.out]; exact hkv
        have hkp : k < ps.length := by rw [HPS.out.1]; exact hkF
        obtain ⟨u, hu⟩ : ∃ u, vs[k] = u := ⟨_, rfl⟩
        have huq : vs[k]? = some u := by rw [List.getElem?_eq_getElem hkv, hu]
        obtain ⟨p, hp⟩ : ∃ p, ps[k] = p := ⟨_, rfl⟩
        have hpq : ps[k]? = some p := by rw [List.getElem?_eq_getElem hkp, hp]
        obtain ⟨s0, hs0⟩ : ∃ s0, F[k] = s0 := ⟨_, rfl⟩
        have hsq : F[k]? = some s0 := by rw [List.getElem?_eq_getElem hkF, hs0]
        have hpr := HPS.out.2 k s0 p hsq hpq
        have hs0in : InSq (wide m) m.length s0 := HFin.out s0 (by rw [← hs0]; exact List.getElem_mem hkF)
        have hpin : ∀ b ∈ p, InSq (wide m) m.length b := fun b hb => reach_in ((hpr.2 b).1 hb) hs0in
        have hpl : p.length ≤ 100000 := by
          have h1 := nodup_le hpr.1 (Y := sqTo (wide m) m.length) fun b hb => mem_sqTo.2 (hpin b hb)
          rw [sqTo_len] at h1
          have : m.length * wide m ≤ 24 * 24 := Nat.mul_le_mul HO.out.img.2.1 HO.out.img.2.2.1
          omega
        have hsi := HVS.out k u p huq hpq
        obtain ⟨au, cu, rfl, hux⟩ := hsi
        have cc := hcc k _ huq
        have cblt := cell_lt cc
        have cw := (HW.out.cell (p := ⟨bo, off + k, none⟩) cblt).trans cc
        have hrim := rim_ vm (.slice au p.length cu) m wr (HM.out.below (HBw.out.trans (HW.out.mono HBw.out.size))) HO.out.img.1 _ p (SqIn.below ⟨au, cu, rfl, hux⟩ HW.out) hpin hpl
        have HIN : Hid (Inner m (wide m) m.length false s0 ↔ ¬ ∃ b ∈ p, AtRim (wide m) m.length b) := by
          constructor
          · rintro h ⟨b, hb, hr⟩; exact h b ((hpr.2 b).1 hb) hr
          · intro h b hb hr; exact h ⟨b, (hpr.2 b).2 hb, hr⟩
        have HSQ : Hid (F[k]? = some s0) := hsq
        have hnl : innerN m F (k + 1) ≤ 10000 := Nat.le_trans (innerN_le m F _) hFl
        have HNL : Hid (innerN m F (k + 1) ≤ 10000) := hnl
        clear hcc hu hp hs0 hpr hpin hux cc hnl huq hpq hsq hs0in
        by_cases hI : Inner m (wide m) m.length false s0
        · have HI : Hid (¬ ∃ b ∈ p, AtRim (wide m) m.length b) := HIN.out.1 hI
          have HK2 : Hid (n + 1 = innerN m F (k + 1)) := by show n + 1 = _; rw [innerN_pos m HSQ.out hI, ← HK.out]
          clear hI
          go_wp2_with (first
            | (go_at_call 36; refine hrim.mono ?_; rintro e w3 ⟨q, rfl, hq, hB3⟩; obtain rfl : q = false := Bool.eq_false_iff.2 fun h => HI.out (hq.1 h); have HB3 : Hid (Below w2.heap.size w2 w3) := HW.out.trans (hB3.mono HW.out.size); clear hq hB3)
            | fail)
          go_roundw
          case rel => exact ⟨k + 1, n + 1, by omega, by go_num, by go_num, HK2.out, by have := HNL.out; have := HK2.out; omega, HB3.out⟩
          case measure => simp [intOf]; omega
        · have HI : Hid (∃ b ∈ p, AtRim (wide m) m.length b) := Classical.byContradiction fun h => hI (HIN.out.2 h)
          have HK2 : Hid (n = innerN m F (k + 1)) := by show n = _; rw [innerN_neg m HSQ.out hI, ← HK.out]
          clear hI
          go_wp2_with (first
            | (go_at_call 36; refine hrim.mono ?_; rintro e w3 ⟨q, rfl, hq, hB3⟩; obtain rfl : q = true := hq.2 HI.out; have HB3 : Hid (Below w2.heap.size w2 w3) := HW.out.trans (hB3.mono HW.out.size); clear hq hB3)
            | fail)
          go_roundw
          case rel => exact ⟨k + 1, n, by omega, by go_num, rfl, HK2.out, hn, HB3.out⟩
          case measure => simp [intOf]; omega
      · obtain rfl : k = N := by omega
        go_wp2_with fail
        go_ret2
        exact ⟨HBw.out.trans (HW.out.mono HBw.out.size), .inr ⟨HO.out, by rw [HHN.out, ← HVL.out, HNN.out, ← HK.out]; rfl⟩⟩

end Go.Proofs.YtbmojlnkjeapkaaGreatDoor
