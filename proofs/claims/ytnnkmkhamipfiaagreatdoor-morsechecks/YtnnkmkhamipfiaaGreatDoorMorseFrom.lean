/- sumsTo's closure that goes on from a face: what is told, or worked out and told. -/
import Derived.Test.YtnnkmkhamipfiaaGreatDoorMorseDown
namespace Go.Proofs.YtnnkmkhamipfiaaGreatDoor
open Go.RowKit Go.Sort Go.Maps

/-- What the slots hold. -/
def spF (B : Nat) (L : List (List Int)) (mt : Nat → Int) (ad aS ao : Option Addr) (cd cs co gm fb gb mb qb db g goal : Nat) (P : Nat → Nat × Nat) (cl fv : Value) (b part sg1 : Int) (p1 p2 : Nat × Nat) (i : Nat) (w : World) (v : Value) : Prop := match i with
  | 0 => v = cl
  | 1 => v = .int .i64 b
  | 2 => v = .int .i64 part
  | 3 => (∃ told, SumIn B L mt ad aS ao cd cs co gm fb gb mb qb db g goal P w told) ∧ SumAt w v p1
  | 4 => v = fv
  | 5 => v = .int .i64 b
  | 6 => v = .int .i64 part
  | 7 => v = .int .i64 sg1
  | 8 => v = .int .i64 (-sg1)
  | _ => (∃ told, SumIn B L mt ad aS ao cd cs co gm fb gb mb qb db g goal P w told) ∧ SumAt w v p2
theorem spF_later {ρ : Nat → Nat} {r B : Nat} {L : List (List Int)} {mt : Nat → Int} {ad aS ao : Option Addr} {cd cs co gm fb gb mb qb db g goal : Nat} {P : Nat → Nat × Nat} {cl fv : Value} {b part sg1 : Int} {p1 p2 : Nat × Nat} : ∀ (i : Nat) (w w' : World) (v : Value), i < 10 → LaterS ρ r B L mt ad aS ao cd cs co gm fb gb mb qb db g goal P w w' → spF B L mt ad aS ao cd cs co gm fb gb mb qb db g goal P cl fv b part sg1 p1 p2 i w v → spF B L mt ad aS ao cd cs co gm fb gb mb qb db g goal P cl fv b part sg1 p1 p2 i w' v := by
  intro i w w' v hi hB h
  have key : ∀ {p}, (∃ told, SumIn B L mt ad aS ao cd cs co gm fb gb mb qb db g goal P w told) ∧ SumAt w v p → (∃ told, SumIn B L mt ad aS ao cd cs co gm fb gb mb qb db g goal P w' told) ∧ SumAt w' v p := fun {p} h => ⟨later_in hB h.1, h.2.past (h.1.elim fun _ ht => ht.known.block) hB.1⟩
  match i, hi with
  | 0, _ | 1, _ | 2, _ | 4, _ | 5, _ | 6, _ | 7, _ | 8, _ => exact h
  | 3, _ | 9, _ => exact key h
  | k + 10, hk => exact absurd hk (by omega)

section
variable {ρ : Nat → Nat} {B : Nat} {L : List (List Int)} {mt : Nat → Int} {ad aS ao : Option Addr} {cd cs co gm fb gb mb qb db g goal : Nat} {P : Nat → Nat × Nat}
set_option maxRecDepth 100000 in
set_option maxHeartbeats 8000000 in
theorem from_step {part : Nat} (hL6 : L.length ≤ 600) (hP : PEq (upW mt) (sgL L) (downsL L) goal P) (hpart : part < L.length)
    (hup : ∀ b, upW mt part = some b → b < L.length ∧ part ∈ downsL L b)
    (hdown : ∀ b, upW mt part = some b → ∀ W told, SumIn B L mt ad aS ao cd cs co gm fb gb mb qb db g goal P W told → Calls Tryz.prog 64 #[.int .i64 (b : Int), .int .i64 (part : Int), .pointer (some ⟨fb, 0, none⟩), .pointer (some ⟨qb, 0, none⟩)] W fun e w' => SumSays ρ (ρ part) B L mt ad aS ao cd cs co gm fb gb mb qb db g goal P (downP (sgL L) (downsL L) P b (part : Int)) W e w') :
    fromOk ρ B L mt ad aS ao cd cs co gm fb gb mb qb db g goal P part := by
  intro W told h
  have HH : Hid (SumIn B L mt ad aS ao cd cs co gm fb gb mb qb db g goal P W told) := h
  have HU : Hid (∀ b, upW mt part = some b → b < L.length ∧ part ∈ downsL L b) := hup
  have HD : Hid (∀ b, upW mt part = some b → ∀ W told, SumIn B L mt ad aS ao cd cs co gm fb gb mb qb db g goal P W told → Calls Tryz.prog 64 #[.int .i64 (b : Int), .int .i64 (part : Int), .pointer (some ⟨fb, 0, none⟩), .pointer (some ⟨qb, 0, none⟩)] W fun e w' => SumSays ρ (ρ part) B L mt ad aS ao cd cs co gm fb gb mb qb db g goal P (downP (sgL L) (downsL L) P b (part : Int)) W e w') := hdown
  have HP : Hid (P part = fromP (upW mt) (sgL L) (downsL L) goal P part) := hP part
  obtain ⟨pb, hpb⟩ : ∃ pb, W.heap.size = pb := ⟨_, rfl⟩
  have hBX : Below W.heap.size W (W.alloc (.cells #[.slice none 0 0, .slice none 0 0] 92)) := (Below.refl _ W).alloc (Nat.le_refl _) _
  have hbx : BoxS (W.alloc (.cells #[.slice none 0 0, .slice none 0 0] 92)) pb (.slice none 0 0) (.slice none 0 0) := by
    unfold BoxS
    rw [← hpb]; exact (Go.MapKept.heap_alloc W _).1
  obtain ⟨X, hX⟩ : ∃ X, W.alloc (.cells #[.slice none 0 0, .slice none 0 0] 92) = X := ⟨_, rfl⟩
  rw [hX] at hBX hbx
  have hXs : X.heap.size = pb + 1 := by rw [← hX]; simp [hpb]
  have hin := h.below hBX
  have HX : Hid (W.heap.size = pb ∧ X.heap.size = pb + 1 ∧ Below W.heap.size W X ∧ SumIn B L mt ad aS ao cd cs co gm fb gb mb qb db g goal P X told ∧ BoxS X pb (.slice none 0 0) (.slice none 0 0)) := ⟨hpb, hXs, hBX, hin, hbx⟩
  have HLB : Hid (B ≤ pb) := by have := h.low.2.2.2.2.2.2; rw [hpb] at this; exact this
  have k0 := hin.g0
  -- the end, whatever the road
  have hend : ∀ (Z : World) (a5 a6 : Option Addr) (m5 c5 m6 c6 : Nat) (p : Nat × Nat), LaterS ρ (ρ part + 1) B L mt ad aS ao cd cs co gm fb gb mb qb db g goal P W Z → BoxS Z pb (.slice none 0 0) (.slice none 0 0) → SumAt Z (.agg #[.slice a5 m5 c5, .slice a6 m6 c6]) p →
      SumSays ρ (ρ part + 1) B L mt ad aS ao cd cs co gm fb gb mb qb db g goal P p W (.returned (.agg #[.slice a5 m5 c5, .slice a6 m6 c6])) ((Z.setCell ⟨pb, 0, none⟩ (.slice a5 m5 c5)).setCell ⟨pb, 1, none⟩ (.slice a6 m6 c6)) ∧ BoxS ((Z.setCell ⟨pb, 0, none⟩ (.slice a5 m5 c5)).setCell ⟨pb, 1, none⟩ (.slice a6 m6 c6)) pb (.slice a5 m5 c5) (.slice a6 m6 c6) := by
    intro Z a5 a6 m5 c5 m6 c6 p hL hB hs
    obtain ⟨q1, q2⟩ := put2 (.slice a5 m5 c5) (.slice a6 m6 c6) hB
    have hblk : ∀ b, b ≠ pb → ((Z.setCell ⟨pb, 0, none⟩ (.slice a5 m5 c5)).setCell ⟨pb, 1, none⟩ (.slice a6 m6 c6)).heap[b]? = Z.heap[b]? := fun b hb => (Below.heap_setCell _ _ _ b (fun e => hb e)).trans (Below.heap_setCell _ _ _ b (fun e => hb e))
    have hgr := hL.1
    refine ⟨⟨_, rfl, ?_, ⟨q2.os.trans hgr.os, q2.tape.trans hgr.tape, q2.output.trans hgr.output, Nat.le_trans hgr.size q2.size, fun b hb hne => (hblk b (by omega)).trans (hgr.block b hb hne)⟩, fun t0 ht0 => ?_⟩, q1⟩
    · obtain ⟨u1, u2, e, n1, n2⟩ := hs
      cases e
      exact ⟨_, _, rfl, NatT.poke2 n1 hB, NatT.poke2 n2 hB⟩
    · obtain ⟨t, ht, hf⟩ := hL.2 t0 ht0
      exact ⟨t, ht.poke_box hB ⟨q2.os, q2.tape, q2.output, q2.size, fun b _ hb _ => hblk b hb⟩ HLB.out, hf⟩
  have HE := Hid.mk' hend
  clear h hup hdown hP hBX hbx hin hXs hend
  go_enter Tryz.func67, Tryz.ntmps67
  by_cases hg : part = goal
  · subst hg
    have hof := of_t 1 X (by decide)
    have HPP : Hid (P part = (1, 0)) := by
      show _ = _
      rw [HP.out]; unfold fromP; rw [if_pos rfl]
    go_wp2_with (first
      | (go_at_call 68; refine hof.mono ?_; rintro e V ⟨v, rfl, hn, hB, ht⟩; obtain ⟨a5, m5, c5, rfl⟩ := hn.form; have HV : Hid (NatT V (.slice a5 m5 c5) 1 ∧ Below X.heap.size X V) := ⟨⟨hn, ht⟩, hB⟩; have hbv : BoxS V pb (.slice none 0 0) (.slice none 0 0) := (hB.block pb (by rw [HX.out.2.1]; omega)).trans HX.out.2.2.2.2; have r0 := hbv.cells.1 0; have r1 := hbv.cells.1 1; have f0 := hbv.cells.2 0; have f1 := hbv.cells.2 1; have HBV := Hid.mk' hbv; clear hof hn hB hbv ht)
      | fail)
    obtain ⟨hf, hq⟩ := HE.out V _ _ _ _ _ _ (P part) (later_trans _ _ _ (later_below HX.out.2.2.1) (later_below HV.out.2)) HBV.out (by rw [HPP.out]; exact ⟨_, _, rfl, HV.out.1, NatT.nil V⟩)
    have s0 := hq.cells.1 0
    have s1 := hq.cells.1 1
    refine bodyPost_ret (v := .agg #[.slice a5 m5 c5, .slice none 0 0]) ?_ rfl hf
    simp [results, Tryz.f67, go_sem, s0, s1]
  · have hne : ((part : Int) == (goal : Int)) = false := beq_false_of_ne (by omega)
    have hup := up_ part L.length mt gm ad aS ao cd cs co X HX.out.2.2.2.1.mates hpart hL6
    unfold fieldV at hup
    have c0 := HX.out.2.2.2.1.fc 0 _ rfl
    have c1 := HX.out.2.2.2.1.fc 1 _ rfl
    have c2 := HX.out.2.2.2.1.fc 2 _ rfl
    have c3 := HX.out.2.2.2.1.fc 3 _ rfl
    obtain ⟨y, hy⟩ : ∃ y : Int, mt part = y := ⟨_, rfl⟩
    have HY : Hid (mt part = y) := hy
    rw [hy] at hup
    have hg2 := Hid.mk' hg
    clear hg hy
    by_cases hlt : (part : Int) < y
    · obtain ⟨b, rfl⟩ : ∃ b : Nat, y = (b : Int) := ⟨y.toNat, by omega⟩
      have hub : upW mt part = some b := by unfold upW; rw [HY.out, if_pos hlt]; simp
      have HPP : Hid (P part = swp (-(sgL L b part)) (downP (sgL L) (downsL L) P b (part : Int))) := by
        show _ = _
        rw [HP.out]; unfold fromP; rw [if_neg hg2.out, hub]
      have HUB : Hid (upW mt part = some b ∧ b < L.length ∧ part ∈ downsL L b) := ⟨hub, HU.out b hub⟩
      rw [decide_eq_true hlt] at hup
      clear hub hlt
      go_upto_region 6 with (first
        | (go_at_call 69; refine hup.mono ?_; rintro e V ⟨rfl, hB⟩; have HV : Hid (Below X.heap.size X V) := hB; have hbv : BoxS V pb (.slice none 0 0) (.slice none 0 0) := (hB.block pb (by rw [HX.out.2.1]; omega)).trans HX.out.2.2.2.2; have HBV := Hid.mk' hbv; clear hup hB hbv)
        | fail)
      have HIV : Hid (SumIn B L mt ad aS ao cd cs co gm fb gb mb qb db g goal P V told) := HX.out.2.2.2.1.below HV.out
      have m0 := HIV.out.m0
      obtain ⟨a5, m5, c5, a6, m6, c6, hlk, hsm⟩ := HIV.out.known.look hpart (by omega)
      have hlk0 : (Instr.lookup 121 (.map (some g)) (.int .i64 (part : Int)) true).run Tryz.prog V = .ok (.tuple #[.agg #[.slice a5 m5 c5, .slice a6 m6 c6], .bool (told part)]) V := hlk 0
      clear hlk c0 c1 c2 c3
      obtain ⟨kb, hkb⟩ : ∃ kb, V.heap.size = kb := ⟨_, rfl⟩
      have hBK : Below V.heap.size V (V.alloc (.cells #[.slice a5 m5 c5, .slice a6 m6 c6] 92)) := (Below.refl _ V).alloc (Nat.le_refl _) _
      have hbk : BoxS (V.alloc (.cells #[.slice a5 m5 c5, .slice a6 m6 c6] 92)) kb (.slice a5 m5 c5) (.slice a6 m6 c6) := by
        unfold BoxS
        rw [← hkb]; exact (Go.MapKept.heap_alloc V _).1
      have hbp : BoxS (V.alloc (.cells #[.slice a5 m5 c5, .slice a6 m6 c6] 92)) pb (.slice none 0 0) (.slice none 0 0) := (hBK.block pb (Array.getElem?_eq_some_iff.1 HBV.out).1).trans HBV.out
      obtain ⟨Y, hY⟩ : ∃ Y, V.alloc (.cells #[.slice a5 m5 c5, .slice a6 m6 c6] 92) = Y := ⟨_, rfl⟩
      rw [hY] at hBK hbk hbp
      have HYY : Hid (Below V.heap.size V Y ∧ BoxS Y kb (.slice a5 m5 c5) (.slice a6 m6 c6) ∧ BoxS Y pb (.slice none 0 0) (.slice none 0 0) ∧ V.heap.size = kb) := ⟨hBK, hbk, hbp, hkb⟩
      cases htd : told part with
      | true =>
        rw [htd] at hlk0
        have HSM : Hid (SumAt Y (.agg #[.slice a5 m5 c5, .slice a6 m6 c6]) (P part)) := (hsm htd).below hBK
        have r0 := hbp.cells.1 0
        have r1 := hbp.cells.1 1
        have f0 := hbp.cells.2 0
        have f1 := hbp.cells.2 1
        have q0 := hbk.cells.1 0
        have q1 := hbk.cells.1 1
        clear hsm hBK hbk hbp htd
        go_wp2_with fail
        obtain ⟨hf, hq⟩ := HE.out Y _ _ _ _ _ _ (P part) (later_trans _ _ _ (later_below HX.out.2.2.1) (later_trans _ _ _ (later_below HV.out) (later_below HYY.out.1))) HYY.out.2.2.1 HSM.out
        have s0 := hq.cells.1 0
        have s1 := hq.cells.1 1
        refine bodyPost_ret (v := .agg #[.slice a5 m5 c5, .slice a6 m6 c6]) ?_ rfl hf
        simp [results, Tryz.f67, go_sem, s0, s1]
      | false =>
        rw [htd] at hlk0
        have HTD := Hid.mk' htd
        clear hsm hBK hbk hbp htd
        have HPD : Hid (part ∈ sidD L allD b) := by
          show _ ∈ _
          rw [sid_downs]; exact HUB.out.2.2
        obtain ⟨sg1, hsg⟩ : ∃ sg1, sgL L b part = sg1 := ⟨_, rfl⟩
        have HSG : Hid (entryI (faceAt L part) (faceAt L b) = sg1) := hsg
        have hsm1 : IntKind.i64.wrap (-sg1) = -sg1 := by
          have := entry_small (faceAt L part) (faceAt L b)
          rw [HSG.out] at this
          have h3 : sg1 = -1 ∨ sg1 = 0 ∨ sg1 = 1 := by omega
          rcases h3 with rfl | rfl | rfl <;> rfl
        rw [hsg] at HPP
        obtain ⟨D, hD⟩ : ∃ D, downP (sgL L) (downsL L) P b (part : Int) = D := ⟨_, rfl⟩
        rw [hD] at HPP
        have HDD : Hid (∀ W told, SumIn B L mt ad aS ao cd cs co gm fb gb mb qb db g goal P W told → Calls Tryz.prog 64 #[.int .i64 (b : Int), .int .i64 (part : Int), .pointer (some ⟨fb, 0, none⟩), .pointer (some ⟨qb, 0, none⟩)] W fun e w' => SumSays ρ (ρ part) B L mt ad aS ao cd cs co gm fb gb mb qb db g goal P D W e w') := by
          have := HD.out b HUB.out.1
          rw [hD] at this
          exact this
        have HYI : Hid (SumIn B L mt ad aS ao cd cs co gm fb gb mb qb db g goal P Y told ∧ ∃ es c, Y.heap[g]? = some (.map es c)) := ⟨HIV.out.below HYY.out.1, (HIV.out.below HYY.out.1).known.block⟩
        have HL6 := Hid.mk' (And.intro hL6 hpart)
        have HEND : Hid (∀ w a7 m7 c7 a8 m8 c8, LaterS ρ (ρ part) B L mt ad aS ao cd cs co gm fb gb mb qb db g goal P Y w → SumAt w (.agg #[.slice a7 m7 c7, .slice a8 m8 c8]) (P part) →
            ∃ told', SumIn B L mt ad aS ao cd cs co gm fb gb mb qb db g goal P ((w.setCell ⟨kb, 0, none⟩ (.slice a7 m7 c7)).setCell ⟨kb, 1, none⟩ (.slice a8 m8 c8)) told' ∧ told' part = false ∧ LaterS ρ (ρ part + 1) B L mt ad aS ao cd cs co gm fb gb mb qb db g goal P W ((w.setCell ⟨kb, 0, none⟩ (.slice a7 m7 c7)).setCell ⟨kb, 1, none⟩ (.slice a8 m8 c8)) ∧ BoxS ((w.setCell ⟨kb, 0, none⟩ (.slice a7 m7 c7)).setCell ⟨kb, 1, none⟩ (.slice a8 m8 c8)) kb (.slice a7 m7 c7) (.slice a8 m8 c8) ∧ BoxS ((w.setCell ⟨kb, 0, none⟩ (.slice a7 m7 c7)).setCell ⟨kb, 1, none⟩ (.slice a8 m8 c8)) pb (.slice none 0 0) (.slice none 0 0) ∧ SumAt ((w.setCell ⟨kb, 0, none⟩ (.slice a7 m7 c7)).setCell ⟨kb, 1, none⟩ (.slice a8 m8 c8)) (.agg #[.slice a7 m7 c7, .slice a8 m8 c8]) (P part)) := by
          intro w a7 m7 c7 a8 m8 c8 hL hs
          have hk1 : BoxS w kb (.slice a5 m5 c5) (.slice a6 m6 c6) := box_later HYY.out.2.1 HYI.out.2 hL.1
          have hp1 : BoxS w pb (.slice none 0 0) (.slice none 0 0) := box_later HYY.out.2.2.1 HYI.out.2 hL.1
          obtain ⟨q1, q2⟩ := put2 (.slice a7 m7 c7) (.slice a8 m8 c8) hk1
          have hblk : ∀ b, b ≠ kb → ((w.setCell ⟨kb, 0, none⟩ (.slice a7 m7 c7)).setCell ⟨kb, 1, none⟩ (.slice a8 m8 c8)).heap[b]? = w.heap[b]? := fun b hb => (Below.heap_setCell _ _ _ b (fun e => hb e)).trans (Below.heap_setCell _ _ _ b (fun e => hb e))
          have hsz : pb + 1 ≤ kb := by have := HV.out.size; rw [HYY.out.2.2.2, HX.out.2.1] at this; exact this
          have hKB : KeepBut w ((w.setCell ⟨kb, 0, none⟩ (.slice a7 m7 c7)).setCell ⟨kb, 1, none⟩ (.slice a8 m8 c8)) kb kb := ⟨q2.os, q2.tape, q2.output, q2.size, fun b _ hb _ => hblk b hb⟩
          have hBk : B ≤ kb := by have := HLB.out; omega
          obtain ⟨t1, ht1, hf1⟩ := hL.2 told HYI.out.1
          have hWL : LaterS ρ (ρ part + 1) B L mt ad aS ao cd cs co gm fb gb mb qb db g goal P W w := later_trans _ _ _ (later_below HX.out.2.2.1) (later_trans _ _ _ (later_below HV.out) (later_trans _ _ _ (later_below HYY.out.1) (later_raise hL (Nat.le_succ _))))
          refine ⟨t1, ht1.poke_box hk1 hKB hBk, ?_, ⟨⟨q2.os.trans hWL.1.os, q2.tape.trans hWL.1.tape, q2.output.trans hWL.1.output, Nat.le_trans hWL.1.size q2.size, fun b hb hne => (hblk b (by have := HX.out.1; omega)).trans (hWL.1.block b hb hne)⟩, fun t0 ht0 => ?_⟩, q1, (hblk pb (by omega)).trans hp1, ?_⟩
          · cases e : t1 part with
            | false => rfl
            | true =>
              rcases hf1 part HL6.out.2 e with h | h
              · rw [HTD.out] at h; cases h
              · exact absurd h (Nat.lt_irrefl _)
          · obtain ⟨t2, ht2, hf2⟩ := hWL.2 t0 ht0
            exact ⟨t2, ht2.poke_box hk1 hKB hBk, hf2⟩
          · obtain ⟨u1, u2, e, n1, n2⟩ := hs
            cases e
            exact ⟨_, _, rfl, NatT.poke2 n1 hk1, NatT.poke2 n2 hk1⟩
        clear hsg hD
        go_upto_region 8 with fail
        clear hlk0 m0
        refine region_growG (by kernel_rfl) (LaterS ρ (ρ part) B L mt ad aS ao cd cs co gm fb gb mb qb db g goal P) (fun _ _ => later_below) later_trans 10 rfl (fun i => 32 + i) (spF B L mt ad aS ao cd cs co gm fb gb mb qb db g goal P (.func (.func 64) #[] #[.pointer (some ⟨fb, 0, none⟩), .pointer (some ⟨qb, 0, none⟩)]) (.agg #[.slice ad L.length cd, .slice aS L.length cs, .slice ao L.length co, .slice (some ⟨gm, 0, none⟩) L.length L.length]) (b : Int) (part : Int) sg1 D (P part)) (fun i j _ _ h => by omega) (fun i hi => by simp; omega) spF_later (by decide +kernel) (by decide +kernel) (fun jo hj LL a w hG hed => ?_) (fun LL a w hG hed => ?_)
        · skip
          obtain ⟨tt, htt⟩ := later_in hG.bel ⟨told, HYI.out.1⟩
          have k0 := htt.fc 0 _ rfl
          have k1 := htt.fc 1 _ rfl
          have k2 := htt.fc 2 _ rfl
          have k3 := htt.fc 3 _ rfl
          have kd := htt.d0
          have y4 : a.tmps[4]? = some (.pointer (some ⟨db, 0, none⟩)) := (hG.oth 4 (fun i hi => by omega)).trans rfl
          have y7 : a.tmps[7]? = some (.int .i64 (b : Int)) := (hG.oth 7 (fun i hi => by omega)).trans rfl
          have y0 : a.tmps[0]? = some (.int .i64 (part : Int)) := (hG.oth 0 (fun i hi => by omega)).trans rfl
          have y2 : a.tmps[2]? = some (.pointer (some ⟨fb, 0, none⟩)) := (hG.oth 2 (fun i hi => by omega)).trans rfl
          have hv : ∀ jj, jj < 10 → jj ∈ edgesOf _ jo → ∃ v, a.tmps[(fun i => 32 + i) jj]? = some v ∧ (spF B L mt ad aS ao cd cs co gm fb gb mb qb db g goal P (.func (.func 64) #[] #[.pointer (some ⟨fb, 0, none⟩), .pointer (some ⟨qb, 0, none⟩)]) (.agg #[.slice ad L.length cd, .slice aS L.length cs, .slice ao L.length co, .slice (some ⟨gm, 0, none⟩) L.length L.length]) (b : Int) (part : Int) sg1 D (P part)) jj w v := fun jj hq hq2 => hG.val jj hq (hed jj hq2)
          match jo, hj with
          | 0, _ =>
            exact op_value rfl rfl (by unfold execOp; simp [go_sem, Act.eval, y4, kd]) ⟨_, rfl, rfl, later_below (Below.refl _ _)⟩
          | 1, _ =>
            exact op_value rfl rfl (by unfold execOp; simp [go_sem, Act.eval, y7]) ⟨_, rfl, rfl, later_below (Below.refl _ _)⟩
          | 2, _ =>
            exact op_value rfl rfl (by unfold execOp; simp [go_sem, Act.eval, y0]) ⟨_, rfl, rfl, later_below (Below.refl _ _)⟩
          | 3, _ =>
            obtain ⟨v0, e0, h0⟩ := hv 0 (by omega) (by decide +kernel)
            have z0 : a.tmps[32]? = some v0 := e0
            obtain rfl : v0 = _ := h0
            obtain ⟨v1, e1, h1⟩ := hv 1 (by omega) (by decide +kernel)
            have z1 : a.tmps[33]? = some v1 := e1
            obtain rfl : v1 = _ := h1
            obtain ⟨v2, e2, h2⟩ := hv 2 (by omega) (by decide +kernel)
            have z2 : a.tmps[34]? = some v2 := e2
            obtain rfl : v2 = _ := h2
            refine op_call rfl rfl (by unfold execOp; simp [go_sem, Act.eval, z0, z1, z2]) _ (HDD.out w tt htt) fun e w' hh => ?_
            obtain ⟨v, rfl, hv1, hv2⟩ := hh
            exact ⟨v, rfl, v, rfl, ⟨later_in hv2 ⟨tt, htt⟩, hv1⟩, hv2⟩
          | 4, _ =>
            exact op_value rfl rfl (by unfold execOp; simp [go_sem, Act.eval, y2, k0, k1, k2, k3]) ⟨_, rfl, rfl, later_below (Below.refl _ _)⟩
          | 5, _ =>
            exact op_value rfl rfl (by unfold execOp; simp [go_sem, Act.eval, y7]) ⟨_, rfl, rfl, later_below (Below.refl _ _)⟩
          | 6, _ =>
            exact op_value rfl rfl (by unfold execOp; simp [go_sem, Act.eval, y0]) ⟨_, rfl, rfl, later_below (Below.refl _ _)⟩
          | 7, _ =>
            obtain ⟨v4, e4, h4⟩ := hv 4 (by omega) (by decide +kernel)
            have z4 : a.tmps[36]? = some v4 := e4
            obtain rfl : v4 = _ := h4
            obtain ⟨v5, e5, h5⟩ := hv 5 (by omega) (by decide +kernel)
            have z5 : a.tmps[37]? = some v5 := e5
            obtain rfl : v5 = _ := h5
            obtain ⟨v6, e6, h6⟩ := hv 6 (by omega) (by decide +kernel)
            have z6 : a.tmps[38]? = some v6 := e6
            obtain rfl : v6 = _ := h6
            refine op_call rfl rfl (by unfold execOp; simp [go_sem, Act.eval, z4, z5, z6, fieldV]) _ (field_sign (ad := ad) (ao := ao) (cd := cd) (co := co) (gm := gm) b part w htt.sides HUB.out.2.1 HPD.out HL6.out.1) fun e w' hh => ?_
            obtain ⟨rfl, hb⟩ := hh
            exact ⟨_, rfl, _, rfl, by rw [HSG.out]; rfl, later_below hb⟩
          | 8, _ =>
            obtain ⟨v7, e7, h7⟩ := hv 7 (by omega) (by decide +kernel)
            have z7 : a.tmps[39]? = some v7 := e7
            obtain rfl : v7 = _ := h7
            exact op_value rfl rfl (by unfold execOp; simp [go_sem, Act.eval, z7, hsm1]) ⟨_, rfl, rfl, later_below (Below.refl _ _)⟩
          | 9, _ =>
            obtain ⟨v3, e3, h3⟩ := hv 3 (by omega) (by decide +kernel)
            have z3 : a.tmps[35]? = some v3 := e3
            obtain ⟨v8, e8, h8⟩ := hv 8 (by omega) (by decide +kernel)
            have z8 : a.tmps[40]? = some v8 := e8
            obtain rfl : v8 = _ := h8
            refine op_call rfl rfl (by unfold execOp; simp [go_sem, Act.eval, z3, z8]) _ (sum_times w h3.2 (-sg1)) fun e w' hh => ?_
            obtain ⟨v, rfl, hv1, hv2⟩ := hh
            exact ⟨v, rfl, v, rfl, ⟨h3.1.elim fun t ht => ⟨t, ht.below hv2⟩, by rw [HPP.out]; exact hv1⟩, later_below hv2⟩
          | q + 10, hq => exact absurd hq (by omega)
        · skip
          obtain ⟨v9, e9, h9⟩ := hG.val 9 (by omega) (hed 9 (by decide +kernel))
          have z9 : a.tmps[41]? = some v9 := e9
          have y9 : a.tmps[9]? = some (.pointer (some ⟨kb, 0, none⟩)) := (hG.oth 9 (fun i hi => by omega)).trans rfl
          obtain ⟨hin, o1, o2, rfl, n1, n2⟩ := h9
          obtain ⟨a7, m7, c7, rfl⟩ := n1.form
          obtain ⟨a8, m8, c8, rfl⟩ := n2.form
          have hk1 : BoxS w kb (.slice a5 m5 c5) (.slice a6 m6 c6) := box_later HYY.out.2.1 HYI.out.2 hG.bel.1
          obtain ⟨cc0, cc1⟩ := hk1.cells
          refine op_skip rfl rfl (by unfold execOp; simp [go_sem, Act.eval, y9, z9, cc0, cc1]; rfl) ?_
          have hend := HEND.out w a7 m7 c7 a8 m8 c8 hG.bel ⟨_, _, rfl, n1, n2⟩
          rename_i hK
          refine hK _ _ ?_
          obtain ⟨v0, e0, -⟩ := hG.val 0 (by omega) (back_listed hG.down 10 hed 0 (by decide +kernel))
          obtain ⟨v1, e1, -⟩ := hG.val 1 (by omega) (back_listed hG.down 10 hed 1 (by decide +kernel))
          obtain ⟨v2, e2, -⟩ := hG.val 2 (by omega) (back_listed hG.down 10 hed 2 (by decide +kernel))
          obtain ⟨v3, e3, -⟩ := hG.val 3 (by omega) (back_listed hG.down 10 hed 3 (by decide +kernel))
          obtain ⟨v4, e4, -⟩ := hG.val 4 (by omega) (back_listed hG.down 10 hed 4 (by decide +kernel))
          obtain ⟨v5, e5, -⟩ := hG.val 5 (by omega) (back_listed hG.down 10 hed 5 (by decide +kernel))
          obtain ⟨v6, e6, -⟩ := hG.val 6 (by omega) (back_listed hG.down 10 hed 6 (by decide +kernel))
          obtain ⟨v7, e7, -⟩ := hG.val 7 (by omega) (back_listed hG.down 10 hed 7 (by decide +kernel))
          obtain ⟨v8, e8, -⟩ := hG.val 8 (by omega) (back_listed hG.down 10 hed 8 (by decide +kernel))
          have ha : a = ⟨#[.int .i64 (part : Int), .pointer (some ⟨gb, 0, none⟩), .pointer (some ⟨fb, 0, none⟩), .pointer (some ⟨mb, 0, none⟩), .pointer (some ⟨db, 0, none⟩), undef, .pointer (some ⟨pb, 0, none⟩), .int .i64 (b : Int), .bool false, .pointer (some ⟨kb, 0, none⟩), .int .i64 (part : Int), .int .i64 (goal : Int), .bool false, undef, undef, .tuple #[.int .i64 (b : Int), .bool true], .agg #[.slice ad L.length cd, .slice aS L.length cs, .slice ao L.length co, .slice (some ⟨gm, 0, none⟩) L.length L.length], .int .i64 (part : Int), .tuple #[.int .i64 (b : Int), .bool true], .int .i64 (b : Int), .bool true, .bool true, .bool false, undef, .tuple #[.agg #[.slice a5 m5 c5, .slice a6 m6 c6], .bool false], .map (some g), .int .i64 (part : Int), .tuple #[.agg #[.slice a5 m5 c5, .slice a6 m6 c6], .bool false], .agg #[.slice a5 m5 c5, .slice a6 m6 c6], .bool false, .bool false, .bool true, v0, v1, v2, v3, v4, v5, v6, v7, v8, .agg #[.slice a7 m7 c7, .slice a8 m8 c8], undef, undef, undef, undef], []⟩ := by
            refine act_eq (l := [.int .i64 (part : Int), .pointer (some ⟨gb, 0, none⟩), .pointer (some ⟨fb, 0, none⟩), .pointer (some ⟨mb, 0, none⟩), .pointer (some ⟨db, 0, none⟩), undef, .pointer (some ⟨pb, 0, none⟩), .int .i64 (b : Int), .bool false, .pointer (some ⟨kb, 0, none⟩), .int .i64 (part : Int), .int .i64 (goal : Int), .bool false, undef, undef, .tuple #[.int .i64 (b : Int), .bool true], .agg #[.slice ad L.length cd, .slice aS L.length cs, .slice ao L.length co, .slice (some ⟨gm, 0, none⟩) L.length L.length], .int .i64 (part : Int), .tuple #[.int .i64 (b : Int), .bool true], .int .i64 (b : Int), .bool true, .bool true, .bool false, undef, .tuple #[.agg #[.slice a5 m5 c5, .slice a6 m6 c6], .bool false], .map (some g), .int .i64 (part : Int), .tuple #[.agg #[.slice a5 m5 c5, .slice a6 m6 c6], .bool false], .agg #[.slice a5 m5 c5, .slice a6 m6 c6], .bool false, .bool false, .bool true, v0, v1, v2, v3, v4, v5, v6, v7, v8, .agg #[.slice a7 m7 c7, .slice a8 m8 c8], undef, undef, undef, undef]) (by rw [hG.asz]; rfl) (fun q hq => ?_) hG.dfr
            match q, hq with
            | 0, _ => exact (hG.oth 0 (fun i hi => by omega)).trans rfl
            | 1, _ => exact (hG.oth 1 (fun i hi => by omega)).trans rfl
            | 2, _ => exact (hG.oth 2 (fun i hi => by omega)).trans rfl
            | 3, _ => exact (hG.oth 3 (fun i hi => by omega)).trans rfl
            | 4, _ => exact (hG.oth 4 (fun i hi => by omega)).trans rfl
            | 5, _ => exact (hG.oth 5 (fun i hi => by omega)).trans rfl
            | 6, _ => exact (hG.oth 6 (fun i hi => by omega)).trans rfl
            | 7, _ => exact (hG.oth 7 (fun i hi => by omega)).trans rfl
            | 8, _ => exact (hG.oth 8 (fun i hi => by omega)).trans rfl
            | 9, _ => exact (hG.oth 9 (fun i hi => by omega)).trans rfl
            | 10, _ => exact (hG.oth 10 (fun i hi => by omega)).trans rfl
            | 11, _ => exact (hG.oth 11 (fun i hi => by omega)).trans rfl
            | 12, _ => exact (hG.oth 12 (fun i hi => by omega)).trans rfl
            | 13, _ => exact (hG.oth 13 (fun i hi => by omega)).trans rfl
            | 14, _ => exact (hG.oth 14 (fun i hi => by omega)).trans rfl
            | 15, _ => exact (hG.oth 15 (fun i hi => by omega)).trans rfl
            | 16, _ => exact (hG.oth 16 (fun i hi => by omega)).trans rfl
            | 17, _ => exact (hG.oth 17 (fun i hi => by omega)).trans rfl
            | 18, _ => exact (hG.oth 18 (fun i hi => by omega)).trans rfl
            | 19, _ => exact (hG.oth 19 (fun i hi => by omega)).trans rfl
            | 20, _ => exact (hG.oth 20 (fun i hi => by omega)).trans rfl
            | 21, _ => exact (hG.oth 21 (fun i hi => by omega)).trans rfl
            | 22, _ => exact (hG.oth 22 (fun i hi => by omega)).trans rfl
            | 23, _ => exact (hG.oth 23 (fun i hi => by omega)).trans rfl
            | 24, _ => exact (hG.oth 24 (fun i hi => by omega)).trans rfl
            | 25, _ => exact (hG.oth 25 (fun i hi => by omega)).trans rfl
            | 26, _ => exact (hG.oth 26 (fun i hi => by omega)).trans rfl
            | 27, _ => exact (hG.oth 27 (fun i hi => by omega)).trans rfl
            | 28, _ => exact (hG.oth 28 (fun i hi => by omega)).trans rfl
            | 29, _ => exact (hG.oth 29 (fun i hi => by omega)).trans rfl
            | 30, _ => exact (hG.oth 30 (fun i hi => by omega)).trans rfl
            | 31, _ => exact (hG.oth 31 (fun i hi => by omega)).trans rfl
            | 32, _ => exact e0
            | 33, _ => exact e1
            | 34, _ => exact e2
            | 35, _ => exact e3
            | 36, _ => exact e4
            | 37, _ => exact e5
            | 38, _ => exact e6
            | 39, _ => exact e7
            | 40, _ => exact e8
            | 41, _ => exact e9
            | 42, _ => exact (hG.oth 42 (fun i hi => by omega)).trans rfl
            | 43, _ => exact (hG.oth 43 (fun i hi => by omega)).trans rfl
            | 44, _ => exact (hG.oth 44 (fun i hi => by omega)).trans rfl
            | 45, _ => exact (hG.oth 45 (fun i hi => by omega)).trans rfl
            | q + 46, hq => exact absurd hq (by simp)
          change Code.wp Tryz.prog _ _ a _
          rw [ha]
          obtain ⟨Z, hZ⟩ : ∃ Z, (w.setCell ⟨kb, 0, none⟩ (.slice a7 m7 c7)).setCell ⟨kb, 1, none⟩ (.slice a8 m8 c8) = Z := ⟨_, rfl⟩
          rw [hZ] at hend ⊢
          obtain ⟨t1, hi1, hf1, hL1, hk1, hp1, hs1⟩ := hend
          obtain ⟨w9, hrun, hkn, hgr⟩ := hi1.known.tell HL6.out.2 (by have := HL6.out.1; omega) hf1 hs1
          have hmz := hi1.known.block
          have HE9 : Hid (LaterS ρ (ρ part + 1) B L mt ad aS ao cd cs co gm fb gb mb qb db g goal P W w9 ∧ BoxS w9 pb (.slice none 0 0) (.slice none 0 0) ∧ SumAt w9 (.agg #[.slice a7 m7 c7, .slice a8 m8 c8]) (P part)) := by
            refine ⟨⟨hL1.1.trans hgr, fun t0 ht0 => ⟨_, hi1.telling hgr hkn, fun x hx h => ?_⟩⟩, box_later hp1 hmz hgr, hs1.past hmz hgr⟩
            by_cases e : x = part
            · subst e; exact .inr (Nat.lt_succ_self _)
            · simp only [if_neg e] at h
              obtain ⟨t2, ht2, hf2⟩ := hL1.2 t0 ht0
              exact hf2 x hx (by rw [← hi1.known.uniq ht2.known x hx]; exact h)
          have hk9 := box_later hk1 hmz hgr
          have q0 := hk1.cells.1 0
          have q1 := hk1.cells.1 1
          have p0 := hk9.cells.1 0
          have p1 := hk9.cells.1 1
          have r0 := HE9.out.2.1.cells.1 0
          have r1 := HE9.out.2.1.cells.1 1
          have f0 := HE9.out.2.1.cells.2 0
          have f1 := HE9.out.2.1.cells.2 1
          have m0 := hi1.m0
          clear ha hG hed hK hZ hk1 hp1 hs1 hi1 hL1 hf1 hkn hgr hmz hk9 cc0 cc1 n1 n2 hin z9 y9 e0 e1 e2 e3 e4 e5 e6 e7 e8 e9
          go_wp2_with fail
          obtain ⟨hf, hq⟩ := HE.out w9 _ _ _ _ _ _ (P part) HE9.out.1 HE9.out.2.1 HE9.out.2.2
          have s0 := hq.cells.1 0
          have s1 := hq.cells.1 1
          refine bodyPost_ret (v := .agg #[.slice a7 m7 c7, .slice a8 m8 c8]) ?_ rfl hf
          simp [results, Tryz.f67, go_sem, s0, s1]
    · have HPP : Hid (P part = (0, 0)) := by
        show _ = _
        rw [HP.out]; unfold fromP; rw [if_neg hg2.out]; unfold upW; rw [HY.out, if_neg hlt]
      rw [decide_eq_false hlt] at hup
      clear hlt
      go_wp2_with (first
        | (go_at_call 69; refine hup.mono ?_; rintro e V ⟨rfl, hB⟩; have HV : Hid (Below X.heap.size X V) := hB; have hbv : BoxS V pb (.slice none 0 0) (.slice none 0 0) := (hB.block pb (by rw [HX.out.2.1]; omega)).trans HX.out.2.2.2.2; have r0 := hbv.cells.1 0; have r1 := hbv.cells.1 1; have f0 := hbv.cells.2 0; have f1 := hbv.cells.2 1; have HBV := Hid.mk' hbv; clear hup hB hbv)
        | fail)
      obtain ⟨hf, hq⟩ := HE.out V _ _ _ _ _ _ (P part) (later_trans _ _ _ (later_below HX.out.2.2.1) (later_below HV.out)) HBV.out (by rw [HPP.out]; exact SumAt.nil V)
      have s0 := hq.cells.1 0
      have s1 := hq.cells.1 1
      refine bodyPost_ret (v := .agg #[.slice none 0 0, .slice none 0 0]) ?_ rfl hf
      simp [results, Tryz.f67, go_sem, s0, s1]

end

end Go.Proofs.YtnnkmkhamipfiaaGreatDoor
