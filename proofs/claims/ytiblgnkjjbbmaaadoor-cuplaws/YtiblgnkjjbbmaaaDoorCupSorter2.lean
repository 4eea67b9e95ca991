/- The walk of the sorter. -/
import Derived.Test.YtiblgnkjjbbmaaaDoorHeldQuiet
import Derived.Deep.CutRange
namespace Go.Proofs.YtiblgnkjjbbmaaaDoor
open Go.RowKit Go.Sort Go.Maps

theorem law_int : Keyed Tryd.prog 3 := int_keyed Tryd.underlying3
theorem key_int (k : Nat) (hk : k ≤ 1000000) : keyOf Tryd.prog 3 (.int .i64 (k : Int)) = some (.int .i64 (k : Int)) := by
  simp [keyOf, mapKey, Tryd.underlying3, Lit.wf, IntKind.min, IntKind.max, IntKind.bits, IntKind.signed]
  omega

set_option maxRecDepth 100000 in
theorem sorter_ (n : Nat) (w : World) : Calls Tryd.prog 40 #[] w fun e w' => ∃ bx g, e = .returned (.func (.func 46) #[] #[.pointer (some ⟨bx, 0, none⟩)]) ∧ w'.cell? ⟨bx, 0, none⟩ = some (.map (some g)) ∧ w.heap.size ≤ bx ∧ w.heap.size ≤ g ∧ g < bx ∧ TbAt w' w.heap.size g n 0 emptyB ∧ Below w.heap.size w w' := by
  have hmm : ∀ V : World, (Instr.makeMap 89 none).run Tryd.prog V = .ok (.map (some V.heap.size)) (V.alloc (.map #[] 0)) := fun V => by kernel_rfl
  have q1 := (box_new (w.alloc (.map #[] 0)) (.map (some w.heap.size)) 89).1
  rw [World.size_alloc] at q1
  have HQ := Hid.mk' q1
  clear q1
  go_enter Tryd.func40, Tryd.ntmps40
  go_wp2_with fail
  go_ret
  refine ⟨w.heap.size + 1, w.heap.size, rfl, HQ.out, by omega, Nat.le_refl _, by omega, ?_, ((Below.refl _ w).alloc (Nat.le_refl _) _).alloc (by simp) _⟩
  exact ⟨_, (World.ownsMap_made w Tryd.prog 3 keptR).alloc _, fun k _ _ => rfl, fun k y h => by cases h⟩

theorem zero_row (w : World) : (zeroValue 57).run Tryd.prog w = .ok (.slice none 0 0) w := by kernel_rfl
/-- What the table tells of a number. -/
theorem TbAt.look {W : World} {base g n N : Nat} {B : Tb} (h : TbAt W base g n N B) {k : Nat} (hk : k < 64) :
    (B k = none → ∃ v, ∀ q, (Instr.lookup 89 (.map (some g)) (.int .i64 (k : Int)) true).run Tryd.prog (W.drewN q) = .ok (.tuple #[v, .bool false]) (W.drewN q)) ∧
    (∀ y, B k = some y → ∃ v, WordIn (fun b => base ≤ b) W v n y ∧ ∀ q, (Instr.lookup 89 (.map (some g)) (.int .i64 (k : Int)) true).run Tryd.prog (W.drewN q) = .ok (.tuple #[v, .bool true]) (W.drewN q)) := by
  obtain ⟨D, h1, h2, h3⟩ := h
  have hkey := key_int k (by omega)
  have key : ∀ q, ∃ v, (Instr.lookup 89 (.map (some g)) (.int .i64 (k : Int)) true).run Tryd.prog (W.drewN q) = .ok (.tuple #[v, .bool (Maps.has D (.int .i64 (k : Int)))]) (W.drewN q) ∧ D.atKey (.int .i64 (k : Int)) (.held (.slice none 0 0)) = .held v := fun q => by
    have hq : (W.drewN q).ownsMap Tryd.prog 3 keptR g N D := h1.kept (row := none) ⟨rfl, rfl, rfl, Nat.le_refl _, fun _ _ _ => rfl⟩ (by simp)
    obtain ⟨v, ps, r1, r2⟩ := hq.look_ok (t := 89) (e := 57) law_int Tryd.underlying89 (zero_row _) (zd := .held (.slice none 0 0)) (zp := []) rfl hkey
    refine ⟨v, r1, ?_⟩
    simp [keptR] at r2
    exact r2.1.symm
  refine ⟨fun hb => ?_, fun y hb => ?_⟩
  · obtain ⟨v, r1, r2⟩ := key 0
    refine ⟨v, fun q => ?_⟩
    obtain ⟨v', r1', r2'⟩ := key q
    rw [r2] at r2'
    cases r2'
    rw [h2 k hk hb] at r1'
    exact r1'
  · obtain ⟨q1, v, q2, q3⟩ := h3 k y hb
    refine ⟨v, q3, fun q => ?_⟩
    obtain ⟨v', r1', r2'⟩ := key q
    rw [q2] at r2'
    cases r2'
    rw [q1] at r1'
    exact r1'

theorem WordIn.past {S : Nat → Prop} {W W' : World} {v : Value} {n y g N : Nat} {D : DataW Value} (h : WordIn S W v n y) (hm : W.ownsMap Tryd.prog 3 keptR g N D) (hg : W.grownBy W' (some g)) : WordIn S W' v n y := by
  obtain ⟨es, clock, h9, -⟩ := hm
  obtain ⟨h1, h2, h3 | ⟨h3, b, c, e, hc, hb, hl, h4, h5⟩⟩ := h
  · exact ⟨h1, h2, .inl h3⟩
  · have hne : some b ≠ some g := fun e => by cases e; simp [World.cell?, h9] at h4
    exact ⟨h1, h2, .inr ⟨h3, b, c, e, hc, hb, Nat.lt_of_lt_of_le hl hg.size, by rw [World.cell?_of_block (hg.block b hl hne)]; exact h4, by rw [World.frozen?_of_block (hg.block b hl hne)]; exact h5⟩⟩

/-- The word that a row holds. -/
def rdW (u : Value) (W : World) : Nat := match u with
  | .slice (some a) 1 _ => (match W.cell? a with | some (.int _ z) => z.toNat | _ => 0)
  | _ => 0
theorem rdW_eq {S : Nat → Prop} {W : World} {u : Value} {n y : Nat} (h : WordIn S W u n y) : rdW u W = y := by
  obtain ⟨h1, h2, ⟨h3, a, c, rfl⟩ | ⟨h3, b, c, rfl, hc, hb, hl, h4, h5⟩⟩ := h
  · subst h3
    have : y = 0 := by simpa using h1
    subst this
    cases a <;> rfl
  · simp [rdW, h4]

set_option maxRecDepth 100000 in
set_option maxHeartbeats 2000000 in
theorem sort_ {S : Nat → Prop} (v : Value) (n x base bx g N : Nat) (B : Tb) (w : World) (hT : TabOk w) (h : WordIn S w v n x) (hb : w.cell? ⟨bx, 0, none⟩ = some (.map (some g))) (ht : TbAt w base g n N B) (hB : TbOk B) (hN : N ≤ 100000) (hbase : base ≤ w.heap.size) :
    Calls Tryd.prog 46 #[v, .pointer (some ⟨bx, 0, none⟩)] w fun e w' => ∃ u, e = .returned u ∧ WordIn (fun b => w.heap.size ≤ b) w' u n (redB B x) ∧ TbAt w' base g n (N + 1) (putB B x) ∧ w.grownBy w' (some g) := by
  have hcl := clone_row v n x w h
  have hx := h.lt
  have hgl : g < w.heap.size := by obtain ⟨D, h1, -⟩ := ht; exact h1.lt
  have HA := Hid.mk' (And.intro hT (And.intro ht hB))
  have HX := Hid.mk' hx
  obtain ⟨av, mv, cv, rfl⟩ := h.form
  clear hT ht hB hx h
  go_enter Tryd.func46, Tryd.ntmps46
  go_wp2_with fail
  refine hcl.mono ?_
  clear hcl
  rintro e w1 ⟨u, rfl, hu, hB1⟩
  obtain ⟨au, mu, cu, rfl⟩ := hu.form
  have HU := Hid.mk' (And.intro hu hB1)
  clear hu hB1
  go_wp2_with fail
  go_loopw [] (fun W => ∃ y : Nat, Hid (WordIn (fun b => w.heap.size ≤ b) W (.slice au mu cu) n y ∧ redB B y = redB B x ∧ Below w.heap.size w W)) (fun W => lftN (rdW (.slice au mu cu) W))
  case atStart => exact ⟨x, HU.out.1, rfl, HU.out.2⟩
  case round =>
    obtain ⟨y, HY⟩ := hrel
    have hz := isZero_ _ n y wr HY.out.1 (HA.out.1.below HY.out.2.2)
    go_wp2_with fail
    refine hz.mono ?_
    clear hz
    rintro e V ⟨rfl, rfl⟩
    rcases Nat.eq_zero_or_pos y with h0 | h0
    · subst h0
      go_wp2_with fail
      go_ret
      have e1 : redB B x = 0 := by rw [← HY.out.2.1, redB_zero]
      refine ⟨_, rfl, by rw [e1]; exact HY.out.1, ?_, ?_⟩
      · have e2 : putB B x = B := by unfold putB; rw [if_pos e1]
        rw [e2]
        obtain ⟨D, d1, d2⟩ := HA.out.2.1.later HY.out.2.2
        exact ⟨D, d1.mono (by omega), d2⟩
      · exact (Below.grownBy HY.out.2.2).but _
    · have hd0 : decide (y = 0) = false := decide_eq_false (by omega)
      have h64 := HY.out.1.lt
      have hlo := (low_bits (by omega) h64).1
      have HLK := Hid.mk' ((HA.out.2.1.later ⟨HY.out.2.2.os, HY.out.2.2.tape, HY.out.2.2.output, HY.out.2.2.size, HY.out.2.2.block⟩).look hlo)
      have hn0 : n ≠ 0 := fun e => by have := HY.out.1.1; rw [e] at this; simp at this; omega
      have hfi := first_ _ n y V HY.out.1 (HA.out.1.below HY.out.2.2)
      have hfn : firstN n y = low y := by unfold firstN; rw [if_neg hn0]
      rw [hfn] at hfi
      have hcell : V.cell? ⟨bx, 0, none⟩ = some (.map (some g)) := (HY.out.2.2.cell (p := ⟨bx, 0, none⟩) (cell_lt hb)).trans hb
      have hcall : ∀ q, Calls Tryd.prog 41 #[.slice au mu cu] (V.drewN q) fun e w'' => e = .returned (.int .i64 (low y : Int)) ∧ w'' = V.drewN q := fun q => by
        have := first_ (.slice au mu cu) n y (V.drewN q) (HY.out.1.below ⟨rfl, rfl, rfl, Nat.le_refl _, fun _ _ => rfl⟩) ((HA.out.1.below HY.out.2.2).below ⟨rfl, rfl, rfl, Nat.le_refl _, fun _ _ => rfl⟩)
        rw [hfn] at this
        exact this
      obtain ⟨k, hk⟩ : ∃ k, low y = k := ⟨_, rfl⟩
      have HK := Hid.mk' hk
      rw [hk] at HLK hcall hlo
      clear hfi hk hfn
      cases hbk : B k with
      | none =>
        obtain ⟨vk, hlu⟩ := HLK.out.1 hbk
        go_wp2_with fail
        go_quiet (refine Calls.quiet_of_same (hcall _))
        go_upto_region 5 with fail
        have hB9 : Below V.heap.size V (V.drewN nq).drew := ⟨rfl, rfl, rfl, Nat.le_refl _, fun _ _ => rfl⟩
        have HW9 : Hid (WordIn (fun b => w.heap.size ≤ b) (V.drewN nq).drew (.slice au mu cu) n y ∧ Below w.heap.size w (V.drewN nq).drew) := ⟨HY.out.1.below hB9, HY.out.2.2.trans (hB9.mono HY.out.2.2.size)⟩
        have hc9 : Calls Tryd.prog 41 #[.slice au mu cu] (V.drewN nq).drew fun e w'' => e = .returned (.int .i64 (k : Int)) ∧ w'' = (V.drewN nq).drew := hcall (nq + 1)
        have m9 : (V.drewN nq).drew.cell? ⟨bx, 0, none⟩ = some (.map (some g)) := hcell
        obtain ⟨D, d1, d2, d3⟩ := HA.out.2.1.later (HW9.out.2)
        have htidy := d1.tidy law_int
        obtain ⟨w9, hrun, hown9, hturn⟩ := d1.store (t := 89) (e := 57) law_int Tryd.underlying89 (by unfold maxLen; omega) (key_int k (by omega)) (val := .slice au mu cu) (d := .held (.slice au mu cu)) (ps := []) rfl
        have HE : Hid (WordIn (fun b => w.heap.size ≤ b) w9 (.slice au mu cu) n (redB B x) ∧ TbAt w9 base g n (N + 1) (putB B x) ∧ w.grownBy w9 (some g)) := by
          have er : redB B x = y := by rw [← HY.out.2.1]; exact redB_none h64 (by omega) (by rw [HK.out]; exact hbk)
          have hgr := hturn.grown
          have hpast : ∀ {S' : Nat → Prop} {v' : Value} {y' : Nat}, WordIn S' (V.drewN nq).drew v' n y' → WordIn S' w9 v' n y' := fun h' => h'.past d1 hgr
          refine ⟨by rw [er]; exact hpast HW9.out.1, ⟨_, hown9, fun k' hk' hb' => ?_, fun k' y' hb' => ?_⟩, ((Below.grownBy HW9.out.2).but _).trans hgr⟩
          · unfold putB at hb'
            rw [er, if_neg (by omega)] at hb'
            split at hb'
            · cases hb'
            · rename_i hne
              rw [HK.out] at hne
              rw [has_put_other (fun e => hne (by cases e; omega))]
              exact d2 k' hk' hb'
          · unfold putB at hb'
            rw [er, if_neg (by omega)] at hb'
            split at hb'
            · rename_i hke
              cases hb'
              rw [HK.out] at hke
              subst hke
              rw [has_put_same htidy.isMap (show WideAt.IsKeyLit (.int .i64 _) from trivial), atKey_put_same htidy.isMap (show WideAt.IsKeyLit (.int .i64 _) from trivial)]
              exact ⟨rfl, _, rfl, (hpast HW9.out.1).mono (fun b _ hb => by omega)⟩
            · rename_i hne
              rw [HK.out] at hne
              obtain ⟨q1, v', q2, q3⟩ := d3 k' y' hb'
              have hne' : (Lit.int .i64 (k' : Int)) ≠ Lit.int .i64 (k : Int) := fun e => hne (by cases e; omega)
              rw [has_put_other hne', atKey_put_other hne']
              exact ⟨q1, v', q2, hpast q3⟩
        obtain ⟨W9, hW9⟩ : ∃ W9, V.drewN nq = W9 := ⟨_, rfl⟩
        rw [hW9] at hc9 m9 hrun
        rw [hW9]
        clear hcall hcell hlu hB9 HW9 d1 d2 d3 htidy hown9 hturn hW9
        go_region_with (go_at_call 41; refine hc9.mono ?_; rintro e V9 ⟨rfl, rfl⟩)
        all_goals go_wp2_with fail
        all_goals (go_ret; exact ⟨_, rfl, HE.out.1, HE.out.2.1, HE.out.2.2⟩)
      | some z =>
        obtain ⟨vk, hwk, hlu⟩ := HLK.out.2 z hbk
        obtain ⟨ak, mk, ck, rfl⟩ := hwk.form
        have HWK := Hid.mk' hwk
        clear hwk
        go_wp2_with fail
        go_quiet (refine Calls.quiet_of_same (hcall _))
        have hB9 : Below V.heap.size V (V.drewN nq) := ⟨rfl, rfl, rfl, Nat.le_refl _, fun _ _ => rfl⟩
        have had := add_ (.slice au mu cu) (.slice ak mk ck) n y z (V.drewN nq) (HY.out.1.below hB9) (HWK.out.below hB9)
        have HB9 := Hid.mk' (HY.out.2.2.trans (hB9.mono HY.out.2.2.size))
        obtain ⟨W9, hW9⟩ : ∃ W9, V.drewN nq = W9 := ⟨_, rfl⟩
        rw [hW9] at had HB9
        rw [hW9]
        clear hcall hcell hlu hB9 hW9
        go_wp2_with fail
        refine had.mono ?_
        rintro e V2 ⟨rfl, hV1, hV2, hV3⟩
        have hst := redB_step HA.out.2.2 h64 (by omega) (by rw [HK.out]; exact hbk)
        have HE := Hid.mk' (And.intro hV1 (HB9.out.grown hV2 HB9.out.size (fun j hj => own_block_of HY.out.1 hj (by omega))))
        have HM := Hid.mk' (And.intro (rdW_eq hV1) (rdW_eq HY.out.1))
        have HST := Hid.mk' hst
        clear had hV1 hV2 hV3 hst
        go_wp2_with fail
        go_roundw
        case rel => exact ⟨y ^^^ z, HE.out.1, by rw [← HST.out.1]; exact HY.out.2.1, HE.out.2⟩
        case measure => rw [HM.out.1, HM.out.2]; exact HST.out.2

end Go.Proofs.YtiblgnkjjbbmaaaDoor
