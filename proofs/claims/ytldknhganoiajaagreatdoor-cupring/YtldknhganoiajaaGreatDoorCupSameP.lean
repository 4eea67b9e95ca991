/- The walk of the sorter. Whether a row is a cocycle; the sorter that has sorted all deltas. The sorter that has sorted all deltas of the dimension below. Whether two words are cocycles of one class, as the program says it. -/
import Derived.Test.YtldknhganoiajaaGreatDoorHeldQuiet
import Derived.Deep.CutRange
namespace Go.Proofs.YtldknhganoiajaaGreatDoor
open Go.RowKit Go.Sort Go.Maps

theorem law_int : Keyed Tryz.prog 3 := int_keyed Tryz.underlying3
theorem key_int (k : Nat) (hk : k ≤ 1000000) : keyOf Tryz.prog 3 (.int .i64 (k : Int)) = some (.int .i64 (k : Int)) := by
  simp [keyOf, mapKey, Tryz.underlying3, Lit.wf, IntKind.min, IntKind.max, IntKind.bits, IntKind.signed]
  omega

set_option maxRecDepth 100000 in
theorem sorter_ (n : Nat) (w : World) : Calls Tryz.prog 60 #[] w fun e w' => ∃ bx g, e = .returned (.func (.func 77) #[] #[.pointer (some ⟨bx, 0, none⟩)]) ∧ w'.cell? ⟨bx, 0, none⟩ = some (.map (some g)) ∧ w.heap.size ≤ bx ∧ w.heap.size ≤ g ∧ g < bx ∧ TbAt w' w.heap.size g n 0 emptyB ∧ Below w.heap.size w w' := by
  have hmm : ∀ V : World, (Instr.makeMap 132 none).run Tryz.prog V = .ok (.map (some V.heap.size)) (V.alloc (.map #[] 0)) := fun V => by kernel_rfl
  have q1 := (box_new (w.alloc (.map #[] 0)) (.map (some w.heap.size)) 132).1
  rw [World.size_alloc] at q1
  have HQ := Hid.mk' q1
  clear q1
  go_enter Tryz.func60, Tryz.ntmps60
  go_wp2_with fail
  go_ret
  refine ⟨w.heap.size + 1, w.heap.size, rfl, HQ.out, by omega, Nat.le_refl _, by omega, ?_, ((Below.refl _ w).alloc (Nat.le_refl _) _).alloc (by simp) _⟩
  exact ⟨_, (World.ownsMap_made w Tryz.prog 3 keptR).alloc _, fun k _ _ => rfl, fun k y h => by cases h⟩

theorem zero_row (w : World) : (zeroValue 68).run Tryz.prog w = .ok (.slice none 0 0) w := by kernel_rfl
/-- What the table tells of a number. -/
theorem TbAt.look {W : World} {base g n N : Nat} {B : Tb} (h : TbAt W base g n N B) {k : Nat} (hk : k < 64) :
    (B k = none → ∃ v, ∀ q, (Instr.lookup 132 (.map (some g)) (.int .i64 (k : Int)) true).run Tryz.prog (W.drewN q) = .ok (.tuple #[v, .bool false]) (W.drewN q)) ∧
    (∀ y, B k = some y → ∃ v, WordIn (fun b => base ≤ b) W v n y ∧ ∀ q, (Instr.lookup 132 (.map (some g)) (.int .i64 (k : Int)) true).run Tryz.prog (W.drewN q) = .ok (.tuple #[v, .bool true]) (W.drewN q)) := by
  obtain ⟨D, h1, h2, h3⟩ := h
  have hkey := key_int k (by omega)
  have key : ∀ q, ∃ v, (Instr.lookup 132 (.map (some g)) (.int .i64 (k : Int)) true).run Tryz.prog (W.drewN q) = .ok (.tuple #[v, .bool (Maps.has D (.int .i64 (k : Int)))]) (W.drewN q) ∧ D.atKey (.int .i64 (k : Int)) (.held (.slice none 0 0)) = .held v := fun q => by
    have hq : (W.drewN q).ownsMap Tryz.prog 3 keptR g N D := h1.kept (row := none) ⟨rfl, rfl, rfl, Nat.le_refl _, fun _ _ _ => rfl⟩ (by simp)
    obtain ⟨v, ps, r1, r2⟩ := hq.look_ok (t := 132) (e := 68) law_int Tryz.underlying132 (zero_row _) (zd := .held (.slice none 0 0)) (zp := []) rfl hkey
    refine ⟨v, r1, ?_⟩
    simp [keptR] at r2
    exact r2.1.symm
  refine ⟨fun hb => ?_, fun y hb => ?_⟩
  · obtain ⟨v, r1, r2⟩ := key 0
    refine ⟨v, fun q => ?_⟩
    obtain ⟨v', r1', r2'⟩ := key q
    rw [r2] at r2'
    cases r2'
    rw [h2 k hk hb] at r1'
    exact r1'
  · obtain ⟨q1, v, q2, q3⟩ := h3 k y hb
    refine ⟨v, q3, fun q => ?_⟩
    obtain ⟨v', r1', r2'⟩ := key q
    rw [q2] at r2'
    cases r2'
    rw [q1] at r1'
    exact r1'

theorem WordIn.past {S : Nat → Prop} {W W' : World} {v : Value} {n y g N : Nat} {D : DataW Value} (h : WordIn S W v n y) (hm : W.ownsMap Tryz.prog 3 keptR g N D) (hg : W.grownBy W' (some g)) : WordIn S W' v n y := by
  obtain ⟨es, clock, h9, -⟩ := hm
  obtain ⟨h1, h2, h3 | ⟨h3, b, c, e, hc, hb, hl, h4, h5⟩⟩ := h
  · exact ⟨h1, h2, .inl h3⟩
  · have hne : some b ≠ some g := fun e => by cases e; simp [World.cell?, h9] at h4
    exact ⟨h1, h2, .inr ⟨h3, b, c, e, hc, hb, Nat.lt_of_lt_of_le hl hg.size, by rw [World.cell?_of_block (hg.block b hl hne)]; exact h4, by rw [World.frozen?_of_block (hg.block b hl hne)]; exact h5⟩⟩

/-- The word that a row holds. -/
def rdW (u : Value) (W : World) : Nat := match u with
  | .slice (some a) 1 _ => (match W.cell? a with | some (.int _ z) => z.toNat | _ => 0)
  | _ => 0
theorem rdW_eq {S : Nat → Prop} {W : World} {u : Value} {n y : Nat} (h : WordIn S W u n y) : rdW u W = y := by
  obtain ⟨h1, h2, ⟨h3, a, c, rfl⟩ | ⟨h3, b, c, rfl, hc, hb, hl, h4, h5⟩⟩ := h
  · subst h3
    have : y = 0 := by simpa using h1
    subst this
    cases a <;> rfl
  · simp [rdW, h4]

set_option maxRecDepth 100000 in
set_option maxHeartbeats 2000000 in
theorem sort_ {S : Nat → Prop} (v : Value) (n x base bx g N : Nat) (B : Tb) (w : World) (hT : TabOk w) (h : WordIn S w v n x) (hb : w.cell? ⟨bx, 0, none⟩ = some (.map (some g))) (ht : TbAt w base g n N B) (hB : TbOk B) (hN : N ≤ 100000) (hbase : base ≤ w.heap.size) :
    Calls Tryz.prog 77 #[v, .pointer (some ⟨bx, 0, none⟩)] w fun e w' => ∃ u, e = .returned u ∧ WordIn (fun b => w.heap.size ≤ b) w' u n (redB B x) ∧ TbAt w' base g n (N + 1) (putB B x) ∧ w.grownBy w' (some g) := by
  have hcl := clone_row v n x w h
  have hx := h.lt
  have hgl : g < w.heap.size := by obtain ⟨D, h1, -⟩ := ht; exact h1.lt
  have HA := Hid.mk' (And.intro hT (And.intro ht hB))
  have HX := Hid.mk' hx
  obtain ⟨av, mv, cv, rfl⟩ := h.form
  clear hT ht hB hx h
  go_enter Tryz.func77, Tryz.ntmps77
  go_wp2_with fail
  refine hcl.mono ?_
  clear hcl
  rintro e w1 ⟨u, rfl, hu, hB1⟩
  obtain ⟨au, mu, cu, rfl⟩ := hu.form
  have HU := Hid.mk' (And.intro hu hB1)
  clear hu hB1
  go_wp2_with fail
  go_loopw [] (fun W => ∃ y : Nat, Hid (WordIn (fun b => w.heap.size ≤ b) W (.slice au mu cu) n y ∧ redB B y = redB B x ∧ Below w.heap.size w W)) (fun W => lftN (rdW (.slice au mu cu) W))
  case atStart => exact ⟨x, HU.out.1, rfl, HU.out.2⟩
  case round =>
    obtain ⟨y, HY⟩ := hrel
    have hz := isZero_ _ n y wr HY.out.1 (HA.out.1.below HY.out.2.2)
    go_wp2_with fail
    refine hz.mono ?_
    clear hz
    rintro e V ⟨rfl, rfl⟩
    rcases Nat.eq_zero_or_pos y with h0 | h0
    · subst h0
      go_wp2_with fail
      go_ret
      have e1 : redB B x = 0 := by rw [← HY.out.2.1, redB_zero]
      refine ⟨_, rfl, by rw [e1]; exact HY.out.1, ?_, ?_⟩
      · have e2 : putB B x = B := by unfold putB; rw [if_pos e1]
        rw [e2]
        obtain ⟨D, d1, d2⟩ := HA.out.2.1.later HY.out.2.2
        exact ⟨D, d1.mono (by omega), d2⟩
      · exact (Below.grownBy HY.out.2.2).but _
    · have hd0 : decide (y = 0) = false := decide_eq_false (by omega)
      have h64 := HY.out.1.lt
      have hlo := (low_bits (by omega) h64).1
      have HLK := Hid.mk' ((HA.out.2.1.later ⟨HY.out.2.2.os, HY.out.2.2.tape, HY.out.2.2.output, HY.out.2.2.size, HY.out.2.2.block⟩).look hlo)
      have hn0 : n ≠ 0 := fun e => by have := HY.out.1.1; rw [e] at this; simp at this; omega
      have hfi := first_ _ n y V HY.out.1 (HA.out.1.below HY.out.2.2)
      have hfn : firstN n y = low y := by unfold firstN; rw [if_neg hn0]
      rw [hfn] at hfi
      have hcell : V.cell? ⟨bx, 0, none⟩ = some (.map (some g)) := (HY.out.2.2.cell (p := ⟨bx, 0, none⟩) (cell_lt hb)).trans hb
      have hcall : ∀ q, Calls Tryz.prog 62 #[.slice au mu cu] (V.drewN q) fun e w'' => e = .returned (.int .i64 (low y : Int)) ∧ w'' = V.drewN q := fun q => by
        have := first_ (.slice au mu cu) n y (V.drewN q) (HY.out.1.below ⟨rfl, rfl, rfl, Nat.le_refl _, fun _ _ => rfl⟩) ((HA.out.1.below HY.out.2.2).below ⟨rfl, rfl, rfl, Nat.le_refl _, fun _ _ => rfl⟩)
        rw [hfn] at this
        exact this
      obtain ⟨k, hk⟩ : ∃ k, low y = k := ⟨_, rfl⟩
      have HK := Hid.mk' hk
      rw [hk] at HLK hcall hlo
      clear hfi hk hfn
      cases hbk : B k with
      | none =>
        obtain ⟨vk, hlu⟩ := HLK.out.1 hbk
        go_wp2_with fail
        go_quiet (refine Calls.quiet_of_same (hcall _))
        go_upto_region 5 with fail
        have hB9 : Below V.heap.size V (V.drewN nq).drew := ⟨rfl, rfl, rfl, Nat.le_refl _, fun _ _ => rfl⟩
        have HW9 : Hid (WordIn (fun b => w.heap.size ≤ b) (V.drewN nq).drew (.slice au mu cu) n y ∧ Below w.heap.size w (V.drewN nq).drew) := ⟨HY.out.1.below hB9, HY.out.2.2.trans (hB9.mono HY.out.2.2.size)⟩
        have hc9 : Calls Tryz.prog 62 #[.slice au mu cu] (V.drewN nq).drew fun e w'' => e = .returned (.int .i64 (k : Int)) ∧ w'' = (V.drewN nq).drew := hcall (nq + 1)
        have m9 : (V.drewN nq).drew.cell? ⟨bx, 0, none⟩ = some (.map (some g)) := hcell
        obtain ⟨D, d1, d2, d3⟩ := HA.out.2.1.later (HW9.out.2)
        have htidy := d1.tidy law_int
        obtain ⟨w9, hrun, hown9, hturn⟩ := d1.store (t := 132) (e := 68) law_int Tryz.underlying132 (by unfold maxLen; omega) (key_int k (by omega)) (val := .slice au mu cu) (d := .held (.slice au mu cu)) (ps := []) rfl
        have HE : Hid (WordIn (fun b => w.heap.size ≤ b) w9 (.slice au mu cu) n (redB B x) ∧ TbAt w9 base g n (N + 1) (putB B x) ∧ w.grownBy w9 (some g)) := by
          have er : redB B x = y := by rw [← HY.out.2.1]; exact redB_none h64 (by omega) (by rw [HK.out]; exact hbk)
          have hgr := hturn.grown
          have hpast : ∀ {S' : Nat → Prop} {v' : Value} {y' : Nat}, WordIn S' (V.drewN nq).drew v' n y' → WordIn S' w9 v' n y' := fun h' => h'.past d1 hgr
          refine ⟨by rw [er]; exact hpast HW9.out.1, ⟨_, hown9, fun k' hk' hb' => ?_, fun k' y' hb' => ?_⟩, ((Below.grownBy HW9.out.2).but _).trans hgr⟩
          · unfold putB at hb'
            rw [er, if_neg (by omega)] at hb'
            split at hb'
            · cases hb'
            · rename_i hne
              rw [HK.out] at hne
              rw [has_put_other (fun e => hne (by cases e; omega))]
              exact d2 k' hk' hb'
          · unfold putB at hb'
            rw [er, if_neg (by omega)] at hb'
            split at hb'
            · rename_i hke
              cases hb'
              rw [HK.out] at hke
              subst hke
              rw [has_put_same htidy.isMap (show WideAt.IsKeyLit (.int .i64 _) from trivial), atKey_put_same htidy.isMap (show WideAt.IsKeyLit (.int .i64 _) from trivial)]
              exact ⟨rfl, _, rfl, (hpast HW9.out.1).mono (fun b _ hb => by omega)⟩
            · rename_i hne
              rw [HK.out] at hne
              obtain ⟨q1, v', q2, q3⟩ := d3 k' y' hb'
              have hne' : (Lit.int .i64 (k' : Int)) ≠ Lit.int .i64 (k : Int) := fun e => hne (by cases e; omega)
              rw [has_put_other hne', atKey_put_other hne']
              exact ⟨q1, v', q2, hpast q3⟩
        obtain ⟨W9, hW9⟩ : ∃ W9, V.drewN nq = W9 := ⟨_, rfl⟩
        rw [hW9] at hc9 m9 hrun
        rw [hW9]
        clear hcall hcell hlu hB9 HW9 d1 d2 d3 htidy hown9 hturn hW9
        go_region_with (go_at_call 62; refine hc9.mono ?_; rintro e V9 ⟨rfl, rfl⟩)
        all_goals go_wp2_with fail
        all_goals (go_ret; exact ⟨_, rfl, HE.out.1, HE.out.2.1, HE.out.2.2⟩)
      | some z =>
        obtain ⟨vk, hwk, hlu⟩ := HLK.out.2 z hbk
        obtain ⟨ak, mk, ck, rfl⟩ := hwk.form
        have HWK := Hid.mk' hwk
        clear hwk
        go_wp2_with fail
        go_quiet (refine Calls.quiet_of_same (hcall _))
        have hB9 : Below V.heap.size V (V.drewN nq) := ⟨rfl, rfl, rfl, Nat.le_refl _, fun _ _ => rfl⟩
        have had := add_ (.slice au mu cu) (.slice ak mk ck) n y z (V.drewN nq) (HY.out.1.below hB9) (HWK.out.below hB9)
        have HB9 := Hid.mk' (HY.out.2.2.trans (hB9.mono HY.out.2.2.size))
        obtain ⟨W9, hW9⟩ : ∃ W9, V.drewN nq = W9 := ⟨_, rfl⟩
        rw [hW9] at had HB9
        rw [hW9]
        clear hcall hcell hlu hB9 hW9
        go_wp2_with fail
        refine had.mono ?_
        rintro e V2 ⟨rfl, hV1, hV2, hV3⟩
        have hst := redB_step HA.out.2.2 h64 (by omega) (by rw [HK.out]; exact hbk)
        have HE := Hid.mk' (And.intro hV1 (HB9.out.grown hV2 HB9.out.size (fun j hj => own_block_of HY.out.1 hj (by omega))))
        have HM := Hid.mk' (And.intro (rdW_eq hV1) (rdW_eq HY.out.1))
        have HST := Hid.mk' hst
        clear had hV1 hV2 hV3 hst
        go_wp2_with fail
        go_roundw
        case rel => exact ⟨y ^^^ z, HE.out.1, by rw [← HST.out.1]; exact HY.out.2.1, HE.out.2⟩
        case measure => rw [HM.out.1, HM.out.2]; exact HST.out.2

end Go.Proofs.YtldknhganoiajaaGreatDoor

namespace Go.Proofs.YtldknhganoiajaaGreatDoor
open Go.RowKit Go.Sort Go.Maps Go.Deep

/-- A shape in a box. -/
theorem shape_box {w : World} {v : Value} {all : List (List Int)} (h : ShapeAt w v all) : ∃ vF g, v = .agg #[vF, .map (some g)] ∧ (∃ a c, vF = .slice a (topN all) c) ∧ Below w.heap.size w (w.alloc (.cells #[vF, .map (some g)] 46)) ∧ (w.alloc (.cells #[vF, .map (some g)] 46)).heap.size = w.heap.size + 1 ∧
    ∀ V, Below (w.heap.size + 1) (w.alloc (.cells #[vF, .map (some g)] 46)) V → ShapeAt V v all ∧ V.cell? ⟨w.heap.size, 0, none⟩ = some vF ∧ V.cell? ⟨w.heap.size, 1, none⟩ = some (.map (some g)) ∧ Below w.heap.size w V := by
  have hh := h
  obtain ⟨vF, g, L, rfl, hF, hL, hN⟩ := h
  have hB1 : Below w.heap.size w (w.alloc (.cells #[vF, .map (some g)] 46)) := (Below.refl _ w).alloc (Nat.le_refl _) _
  have q1 := cells_two w vF (.map (some g)) 46
  obtain ⟨a, c, e, -⟩ := hF.open_
  rw [facesT_len] at e
  refine ⟨vF, g, rfl, ⟨a, c, e⟩, hB1, by simp, fun V hV => ?_⟩
  have hw : Below w.heap.size w V := hB1.trans (hV.mono (by omega))
  exact ⟨hh.below hw, (hV.cell (p := ⟨w.heap.size, 0, none⟩) (by show w.heap.size < w.heap.size + 1; omega)).trans q1.1.1, (hV.cell (p := ⟨w.heap.size, 1, none⟩) (by show w.heap.size < w.heap.size + 1; omega)).trans q1.1.2, hw⟩

set_option maxRecDepth 100000 in
set_option maxHeartbeats 1000000 in
theorem deltas_neg {all : List (List Int)} (v : Value) (w : World) (h : ShapeAt w v all) :
    Calls Tryz.prog 52 #[v, .int .i64 (-1)] w fun e w' => e = .returned (.slice none 0 0) ∧ Below w.heap.size w w' := by
  obtain ⟨vF, g, rfl, ⟨aF, cF, rfl⟩, hB1, hz1, hS⟩ := shape_box h
  have HB1 := Hid.mk' hB1
  clear h hS hz1 hB1
  go_enter Tryz.func52, Tryz.ntmps52
  go_wp2_with fail
  go_ret
  exact ⟨rfl, HB1.out⟩

/-- What a sorter is: a function with a box that holds its table. -/
def SorterAt (W : World) (base n : Nat) (f : Value) (B : Tb) : Prop :=
  ∃ bx g N, f = .func (.func 77) #[] #[.pointer (some ⟨bx, 0, none⟩)] ∧ W.cell? ⟨bx, 0, none⟩ = some (.map (some g)) ∧ TbAt W base g n N B ∧ N ≤ 1000 ∧ base ≤ W.heap.size ∧ base ≤ g

/-- The deltas that a sorter of classes has sorted. -/
def rowsD (all : List (List Int)) : Nat → List Nat
  | 0 => []
  | d + 1 => (List.range (ofDim all (d : Int)).length).map (fun i => dM all d i)

set_option maxRecDepth 100000 in
set_option maxHeartbeats 2000000 in
theorem sorterOfClasses_zero {all : List (List Int)} (n : Nat) (v : Value) (w : World) (h : ShapeAt w v all) :
    Calls Tryz.prog 35 #[v, .int .i64 0] w fun e w' => ∃ f, e = .returned f ∧ SorterAt w' w.heap.size n f (fedB (rowsD all 0)) ∧ Below w.heap.size w w' := by
  obtain ⟨vF, g, rfl, ⟨aF, cF, rfl⟩, hB1, hz1, hS⟩ := shape_box h
  obtain ⟨W1, hW1⟩ : ∃ W1, w.alloc (.cells #[.slice aF (topN all) cF, .map (some g)] 46) = W1 := ⟨_, rfl⟩
  have HW1 := Hid.mk' hW1
  rw [hW1] at hB1 hz1 hS
  have hso := sorter_ n W1
  have HS := Hid.mk' hS
  have HB1 := Hid.mk' hB1
  have HZ1 := Hid.mk' hz1
  obtain ⟨T, hTT⟩ : ∃ T, topN all = T := ⟨_, rfl⟩
  rw [hTT] at HW1 HS ⊢
  clear h hS hTT hW1 hB1 hz1
  go_enter Tryz.func35, Tryz.ntmps35
  go_upto_region 1 with fail
  rw [HW1.out]
  go_wp2_with fail
  refine hso.mono ?_
  clear hso
  rintro e V1 ⟨bx, g1, rfl, hc1, hb1, hb2, hlt, htb, hV1⟩
  have hV1' : Below (w.heap.size + 1) W1 V1 := by rw [← HZ1.out]; exact hV1
  have hS1 := HS.out V1 hV1'
  have b0 := hS1.2.1
  have b1 := hS1.2.2.1
  have hdn := deltas_neg _ V1 hS1.1
  have HV1 := Hid.mk' (And.intro hV1' (And.intro hc1 (And.intro htb (And.intro hb1 hb2))))
  clear hc1 hb1 hb2 hlt htb hV1 hV1' hS1
  go_wp2_with fail
  refine hdn.mono ?_
  clear hdn
  rintro e V2 ⟨rfl, hV2⟩
  have HE : Hid (SorterAt V2 w.heap.size n (.func (.func 77) #[] #[.pointer (some ⟨bx, 0, none⟩)]) emptyB ∧ Below w.heap.size w V2) := by
    have hz := HZ1.out
    have h2 : Below w.heap.size w V2 := (HS.out V1 HV1.out.1).2.2.2.trans (hV2.mono (HS.out V1 HV1.out.1).2.2.2.size)
    have htb := HV1.out.2.2.1.later hV2
    obtain ⟨D, t1, t2, t3⟩ := htb
    exact ⟨⟨bx, g1, 0, rfl, (hV2.cell (p := ⟨bx, 0, none⟩) (cell_lt HV1.out.2.1)).trans HV1.out.2.1, ⟨D, t1, t2, fun k y hk => by cases hk⟩, by omega, h2.size, by have := HV1.out.2.2.2.2; omega⟩, h2⟩
  clear HV1 hV2 b0 b1
  go_wp2_with fail
  go_loopw [14] (fun p W => p = .int .i64 0 ∧ V2 = W) (fun _ _ => 0)
  case atStart => exact ⟨rfl, rfl⟩
  case round =>
    obtain ⟨rfl, rfl⟩ := hrel
    go_wp2_with fail
    go_ret
    exact ⟨_, rfl, HE.out.1, HE.out.2⟩

end Go.Proofs.YtldknhganoiajaaGreatDoor

namespace Go.Proofs.YtldknhganoiajaaGreatDoor
open Go.RowKit Go.Sort Go.Maps Go.Deep

theorem rowsD_take (all : List (List Int)) (d k : Nat) (hk : k < (ofDim all (d : Int)).length) : (rowsD all (d + 1)).take (k + 1) = (rowsD all (d + 1)).take k ++ [dM all d k] := by
  have hl : k < (rowsD all (d + 1)).length := by simp [rowsD, hk]
  rw [List.take_add_one, List.getElem?_eq_getElem hl]
  simp [rowsD]
theorem rowsD_lt (all : List (List Int)) (d : Nat) (h : (ofDim all (d : Int)).length ≤ 64) : ∀ r ∈ rowsD all d, r < 2 ^ 64 := by
  cases d with
  | zero => intro r hr; cases hr
  | succ d =>
    intro r hr
    simp only [rowsD, List.mem_map, List.mem_range] at hr
    obtain ⟨i, -, rfl⟩ := hr
    exact Nat.lt_of_lt_of_le (dM_lt all d i) (Nat.pow_le_pow_right (by decide) h)

set_option maxRecDepth 100000 in
set_option maxHeartbeats 2000000 in
theorem sorterOfClasses_succ {l all : List (List Int)} (hg : Good l all) (h60 : all.length ≤ 60) (d : Nat) (hd : d ≤ 100) (v : Value) (w : World) (h : ShapeAt w v all) (hT : TabOk w) :
    Calls Tryz.prog 35 #[v, .int .i64 ((d : Int) + 1)] w fun e w' => ∃ f, e = .returned f ∧ SorterAt w' w.heap.size (ofDim all ((d + 1 : Nat) : Int)).length f (fedB (rowsD all (d + 1))) ∧ Below w.heap.size w w' := by
  have hn6 : (ofDim all ((d + 1 : Nat) : Int)).length ≤ 60 := Nat.le_trans (ofDim_length _ _) h60
  have hm6 : (ofDim all (d : Int)).length ≤ 60 := Nat.le_trans (ofDim_length _ _) h60
  have HLT := Hid.mk' (rowsD_lt all (d + 1) (by omega))
  obtain ⟨vF, g, rfl, ⟨aF, cF, rfl⟩, hB1, hz1, hS⟩ := shape_box h
  obtain ⟨W1, hW1⟩ : ∃ W1, w.alloc (.cells #[.slice aF (topN all) cF, .map (some g)] 46) = W1 := ⟨_, rfl⟩
  have HW1 := Hid.mk' hW1
  rw [hW1] at hB1 hz1 hS
  have hso := sorter_ (ofDim all ((d + 1 : Nat) : Int)).length W1
  have HS := Hid.mk' hS
  have HB1 := Hid.mk' hB1
  have HZ1 := Hid.mk' hz1
  have HG := Hid.mk' hg
  have HT := Hid.mk' hT
  have HD1 := Hid.mk' (fun V (hV : ShapeAt V (.agg #[.slice aF (topN all) cF, .map (some g)]) all) => deltas_ hg h60 (.agg #[.slice aF (topN all) cF, .map (some g)]) d hd V hV)
  have HRT := Hid.mk' (rowsD_take all d)
  have HRL : Hid ((rowsD all (d + 1)).length = (ofDim all (d : Int)).length) := by show _ = _; simp [rowsD]
  obtain ⟨T, hTT⟩ : ∃ T, topN all = T := ⟨_, rfl⟩
  obtain ⟨M, hM⟩ : ∃ M, (ofDim all (d : Int)).length = M := ⟨_, rfl⟩
  obtain ⟨n, hn⟩ : ∃ n, (ofDim all ((d + 1 : Nat) : Int)).length = n := ⟨_, rfl⟩
  rw [hTT] at HW1 HS HD1 ⊢
  rw [hM] at hm6 HD1 HRT HRL
  rw [hn] at hn6 HD1 hso ⊢
  clear h hS hTT hW1 hB1 hz1 hM hn hg hT
  go_enter Tryz.func35, Tryz.ntmps35
  go_upto_region 1 with fail
  rw [HW1.out]
  go_wp2_with fail
  refine hso.mono ?_
  clear hso
  rintro e V1 ⟨bx, g1, rfl, hc1, hb1, hb2, hlt, htb, hV1⟩
  have hV1' : Below (w.heap.size + 1) W1 V1 := by rw [← HZ1.out]; exact hV1
  have hS1 := HS.out V1 hV1'
  have b0 := hS1.2.1
  have b1 := hS1.2.2.1
  have hdn := HD1.out V1 hS1.1
  have HV1 : Hid (Below (w.heap.size + 1) W1 V1 ∧ V1.cell? ⟨bx, 0, none⟩ = some (.map (some g1)) ∧ TbAt V1 w.heap.size g1 n 0 emptyB ∧ W1.heap.size ≤ bx ∧ W1.heap.size ≤ g1 ∧ g1 < bx ∧ bx < V1.heap.size) := by
    obtain ⟨D, t1, t2, t3⟩ := htb
    exact ⟨hV1', hc1, ⟨D, t1, t2, fun k y hk => by cases hk⟩, hb1, hb2, hlt, cell_lt hc1⟩
  clear hc1 hb1 hb2 hlt htb hV1 hV1' hS1
  have e1 : ((d : Int) + 1 - 1) = (d : Int) := by omega
  go_wp2_with fail
  refine hdn.mono ?_
  clear hdn
  rintro e V2 ⟨G, us, rfl, hD, hV2⟩
  have HD2 : Hid (DlAt V1.heap.size n M V2 G us M (fun i => dM all d i) ∧ Below w.heap.size w V2 ∧ SorterAt V2 w.heap.size n (.func (.func 77) #[] #[.pointer (some ⟨bx, 0, none⟩)]) emptyB ∧ V2.cell? ⟨bx, 0, none⟩ = some (.map (some g1)) ∧ TbAt V2 w.heap.size g1 n 0 emptyB) := by
    have h2 : Below w.heap.size w V2 := (HS.out V1 HV1.out.1).2.2.2.trans (hV2.mono (HS.out V1 HV1.out.1).2.2.2.size)
    have hc : V2.cell? ⟨bx, 0, none⟩ = some (.map (some g1)) := (hV2.cell (p := ⟨bx, 0, none⟩) (cell_lt HV1.out.2.1)).trans HV1.out.2.1
    have ht := HV1.out.2.2.1.later hV2
    have hz := HZ1.out
    have hg1 := HV1.out.2.2.2.2.1
    exact ⟨hD, h2, ⟨bx, g1, 0, rfl, hc, ht, by omega, h2.size, by omega⟩, hc, ht⟩
  clear hD hV2 b0 b1
  go_wp2_with fail
  go_loopw [14] (fun p W => ∃ (k : Nat), k ≤ M ∧ p = .int .i64 (k : Int) ∧ Hid (TbAt W w.heap.size g1 n k (fedB ((rowsD all (d + 1)).take k)) ∧ DlAt V1.heap.size n M W G us M (fun i => dM all d i) ∧ Below w.heap.size w W ∧ W.cell? ⟨bx, 0, none⟩ = some (.map (some g1)) ∧ V1.heap.size ≤ W.heap.size)) (fun p _ => M - (intOf p).toNat)
  case atStart => exact ⟨0, by omega, rfl, by simpa [fedB] using HD2.out.2.2.2.2, HD2.out.1, HD2.out.2.1, HD2.out.2.2.2.1, by have := HD2.out.1.base; have := HD2.out.1.outer.lt; omega⟩
  case round =>
    obtain ⟨k, hk, rfl, HK⟩ := hrel
    by_cases hlt : k < M
    · have hwi := HK.out.2.1.word k hlt
      obtain ⟨ai, mi, ci, hui⟩ := hwi.form
      have hcl := HK.out.2.1.outer.cell hlt
      rw [if_pos hlt, hui] at hcl
      have hok : TbOk (fedB ((rowsD all (d + 1)).take k)) := fedB_ok (fun r hr => HLT.out r (List.mem_of_mem_take hr))
      have hst := sort_ (us k) n _ w.heap.size bx g1 k _ wr (HT.out.below HK.out.2.2.1) hwi HK.out.2.2.2.1 HK.out.1 hok (by omega) HK.out.2.2.1.size
      rw [hui] at hst
      clear hwi hui hok
      go_wp2_with fail
      refine hst.mono ?_
      clear hst
      rintro e V3 ⟨u3, rfl, hw3, ht3, hg3⟩
      have HE : Hid (TbAt V3 w.heap.size g1 n (k + 1) (fedB ((rowsD all (d + 1)).take (k + 1))) ∧ DlAt V1.heap.size n M V3 G us M (fun i => dM all d i) ∧ Below w.heap.size w V3 ∧ V3.cell? ⟨bx, 0, none⟩ = some (.map (some g1)) ∧ V1.heap.size ≤ V3.heap.size) := by
        have hz := HZ1.out
        obtain ⟨-, -, -, v4, v5, v6, v7⟩ := HV1.out
        refine ⟨by rw [HRT.out k hlt, fedB_snoc]; exact ht3, ?_, HK.out.2.2.1.grown hg3 HK.out.2.2.1.size (fun j hj => by cases hj; omega), ?_, by have := hg3.size; have := HK.out.2.2.2.2; omega⟩
        · rcases Nat.eq_zero_or_pos n with h0 | h0
          · refine ⟨HK.out.2.1.outer.of_block (hg3.block G HK.out.2.1.outer.lt (fun e => by cases e; have := HK.out.2.1.base; omega)), fun i hi => ?_, HK.out.2.1.apart, HK.out.2.1.base⟩
            obtain ⟨a1, a2, a3 | ⟨a3, -⟩⟩ := HK.out.2.1.word i hi
            · exact ⟨a1, a2, .inl a3⟩
            · omega
          · exact HK.out.2.1.kept hg3 (fun e => by have := HK.out.2.1.base; omega) (fun i hi e => by have := (own_block_of (HK.out.2.1.word i hi) e h0).1; omega)
        · rw [World.cell?_of_block (hg3.block bx (cell_lt HK.out.2.2.2.1) (fun e => by cases e; omega))]; exact HK.out.2.2.2.1
      clear hw3 ht3 hg3
      go_wp2_with fail
      go_roundw
      case rel => exact ⟨k + 1, by omega, by go_num, HE.out⟩
      case measure => simp [intOf]; omega
    · have hkm : k = M := by omega
      subst hkm
      have HE : Hid (SorterAt wr w.heap.size n (.func (.func 77) #[] #[.pointer (some ⟨bx, 0, none⟩)]) (fedB (rowsD all (d + 1)))) := by
        have h1 := HK.out.1
        rw [← HRL.out, List.take_length] at h1
        have hz := HZ1.out
        exact ⟨bx, g1, _, rfl, HK.out.2.2.2.1, h1, by have := HRL.out; omega, HK.out.2.2.1.size, by have := HV1.out.2.2.2.2.1; omega⟩
      go_wp2_with fail
      go_ret
      exact ⟨_, rfl, HE.out, HK.out.2.2.1⟩

end Go.Proofs.YtldknhganoiajaaGreatDoor

namespace Go.Proofs.YtldknhganoiajaaGreatDoor
open Go.RowKit Go.Sort

/-- Whether two words are cocycles of one class, as the program says it. -/
def sameP (all : List (List Int)) (d x y : Nat) : Bool := decide (deltaW all d x = 0) && decide (deltaW all d y = 0) && decide (redB (fedB (rowsD all d)) (x ^^^ y) = 0)

end Go.Proofs.YtldknhganoiajaaGreatDoor
