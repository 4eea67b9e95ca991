/- sumsTo's closure that goes down: from a face to its sides but one. -/
import Derived.Test.YtnnkmkhamipfiaaGreatDoorMorseMem
namespace Go.Proofs.YtnnkmkhamipfiaaGreatDoor
open Go.RowKit Go.Sort Go.Maps

/-- From one world to a later one: the map may grow, by faces of lesser rank. -/
def LaterS (ρ : Nat → Nat) (r B : Nat) (L : List (List Int)) (mt : Nat → Int) (ad aS ao : Option Addr) (cd cs co gm fb gb mb qb db g goal : Nat) (P : Nat → Nat × Nat) (W W' : World) : Prop :=
  W.grownBy W' (some g) ∧ ∀ told, SumIn B L mt ad aS ao cd cs co gm fb gb mb qb db g goal P W told → ∃ told', SumIn B L mt ad aS ao cd cs co gm fb gb mb qb db g goal P W' told' ∧ ∀ x, x < L.length → told' x = true → told x = true ∨ ρ x < r
/-- What the closures answer and leave. -/
def SumSays (ρ : Nat → Nat) (r B : Nat) (L : List (List Int)) (mt : Nat → Int) (ad aS ao : Option Addr) (cd cs co gm fb gb mb qb db g goal : Nat) (P : Nat → Nat × Nat) (p : Nat × Nat) (W : World) (e : Ending) (w' : World) : Prop :=
  ∃ v, e = .returned v ∧ SumAt w' v p ∧ LaterS ρ r B L mt ad aS ao cd cs co gm fb gb mb qb db g goal P W w'
def fromOk (ρ : Nat → Nat) (B : Nat) (L : List (List Int)) (mt : Nat → Int) (ad aS ao : Option Addr) (cd cs co gm fb gb mb qb db g goal : Nat) (P : Nat → Nat × Nat) (x : Nat) : Prop :=
  ∀ W told, SumIn B L mt ad aS ao cd cs co gm fb gb mb qb db g goal P W told → Calls Tryz.prog 67 #[.int .i64 (x : Int), .pointer (some ⟨gb, 0, none⟩), .pointer (some ⟨fb, 0, none⟩), .pointer (some ⟨mb, 0, none⟩), .pointer (some ⟨db, 0, none⟩)] W fun e w' => SumSays ρ (ρ x + 1) B L mt ad aS ao cd cs co gm fb gb mb qb db g goal P (P x) W e w'

section
variable {ρ : Nat → Nat} {r B : Nat} {L : List (List Int)} {mt : Nat → Int} {ad aS ao : Option Addr} {cd cs co gm fb gb mb qb db g goal : Nat} {P : Nat → Nat × Nat}
theorem later_below {W W' : World} (hB : Below W.heap.size W W') : LaterS ρ r B L mt ad aS ao cd cs co gm fb gb mb qb db g goal P W W' :=
  ⟨(Below.grownBy hB).but _, fun t h => ⟨t, h.below hB, fun _ _ e => .inl e⟩⟩
theorem later_trans (X Y Z : World) (h : LaterS ρ r B L mt ad aS ao cd cs co gm fb gb mb qb db g goal P X Y) (k : LaterS ρ r B L mt ad aS ao cd cs co gm fb gb mb qb db g goal P Y Z) : LaterS ρ r B L mt ad aS ao cd cs co gm fb gb mb qb db g goal P X Z :=
  ⟨h.1.trans k.1, fun t e => by
    obtain ⟨t2, e2, f2⟩ := h.2 t e
    obtain ⟨t3, e3, f3⟩ := k.2 t2 e2
    exact ⟨t3, e3, fun x hx h => (f3 x hx h).elim (fun h => f2 x hx h) .inr⟩⟩
theorem later_in {W W' : World} (h : LaterS ρ r B L mt ad aS ao cd cs co gm fb gb mb qb db g goal P W W') (k : ∃ told, SumIn B L mt ad aS ao cd cs co gm fb gb mb qb db g goal P W told) : ∃ told, SumIn B L mt ad aS ao cd cs co gm fb gb mb qb db g goal P W' told :=
  k.elim fun t e => (h.2 t e).elim fun t2 e2 => ⟨t2, e2.1⟩
theorem later_raise {W W' : World} {r' : Nat} (h : LaterS ρ r B L mt ad aS ao cd cs co gm fb gb mb qb db g goal P W W') (hr : r ≤ r') : LaterS ρ r' B L mt ad aS ao cd cs co gm fb gb mb qb db g goal P W W' :=
  ⟨h.1, fun t e => (h.2 t e).elim fun t2 e2 => ⟨t2, e2.1, fun x hx h => (e2.2 x hx h).imp_right fun h => Nat.lt_of_lt_of_le h hr⟩⟩
theorem box_later {W W' : World} {b : Nat} {v1 v2 : Value} (h : BoxS W b v1 v2) (hm : ∃ es c, W.heap[g]? = some (.map es c)) (hg : W.grownBy W' (some g)) : BoxS W' b v1 v2 := by
  obtain ⟨es, c, hm⟩ := hm
  unfold BoxS at *
  rw [hg.block b (Array.getElem?_eq_some_iff.1 h).1 (fun e => by cases e; rw [hm] at h; cases h)]
  exact h
/-- The sums of the first sides. -/
def partP (L : List (List Int)) (P : Nat → Nat × Nat) (b : Nat) (but : Int) (j : Nat) : Nat × Nat := ((downsL L b).take j).foldl (stepP (sgL L) P b but) (0, 0)
theorem part_step {b j x : Nat} {but : Int} (h : (downsL L b)[j]? = some x) : partP L P b but (j + 1) = stepP (sgL L) P b but (partP L P b but j) x := by
  unfold partP
  rw [List.take_add_one, h, List.foldl_append]; rfl
theorem part_all {b j : Nat} {but : Int} (h : (downsL L b).length ≤ j) : partP L P b but j = downP (sgL L) (downsL L) P b but := by
  unfold partP downP
  rw [List.take_of_length_le h]
theorem part_le {M b : Nat} {but : Int} (hP : ∀ x, (P x).1 + (P x).2 ≤ M) : ∀ j, (partP L P b but j).1 + (partP L P b but j).2 ≤ j * M := by
  intro j
  induction j with
  | zero => simp [partP]
  | succ j ih =>
    cases h : (downsL L b)[j]? with
    | none =>
      unfold partP at ih ⊢
      rw [List.take_add_one, h]
      simp only [Option.toList_none, List.append_nil]
      rw [Nat.succ_mul]; omega
    | some x =>
      rw [part_step h, Nat.succ_mul]
      unfold stepP
      by_cases e : (x : Int) = but
      · rw [if_pos e]; omega
      · rw [if_neg e]
        have h1 : (swp (sgL L b x) (P x)).1 + (swp (sgL L b x) (P x)).2 = (P x).1 + (P x).2 := by
          unfold swp
          split
          · exact Nat.add_comm _ _
          · rfl
        have := hP x
        unfold addP
        simp only
        omega
/-- What the slots hold. -/
def spD (B : Nat) (L : List (List Int)) (mt : Nat → Int) (ad aS ao : Option Addr) (cd cs co gm fb gb mb qb db g goal : Nat) (P : Nat → Nat × Nat) (xb : Nat) (ov cl : Value) (x sg1 : Int) (p1 p2 p3 : Nat × Nat) (i : Nat) (w : World) (v : Value) : Prop := match i with
  | 0 => v = ov
  | 1 => v = cl
  | 2 => v = .pointer (some ⟨xb, 0, none⟩)
  | 3 => v = .int .i64 x
  | 4 => (∃ told, SumIn B L mt ad aS ao cd cs co gm fb gb mb qb db g goal P w told) ∧ SumAt w v p1
  | 5 => v = .pointer (some ⟨xb, 1, none⟩)
  | 6 => v = .int .i64 sg1
  | 7 => (∃ told, SumIn B L mt ad aS ao cd cs co gm fb gb mb qb db g goal P w told) ∧ SumAt w v p2
  | _ => (∃ told, SumIn B L mt ad aS ao cd cs co gm fb gb mb qb db g goal P w told) ∧ SumAt w v p3
theorem spD_later {ρ : Nat → Nat} {r B : Nat} {L : List (List Int)} {mt : Nat → Int} {ad aS ao : Option Addr} {cd cs co gm fb gb mb qb db g goal : Nat} {P : Nat → Nat × Nat} {xb : Nat} {ov cl : Value} {x sg1 : Int} {p1 p2 p3 : Nat × Nat} : ∀ (i : Nat) (w w' : World) (v : Value), i < 9 → LaterS ρ r B L mt ad aS ao cd cs co gm fb gb mb qb db g goal P w w' → spD B L mt ad aS ao cd cs co gm fb gb mb qb db g goal P xb ov cl x sg1 p1 p2 p3 i w v → spD B L mt ad aS ao cd cs co gm fb gb mb qb db g goal P xb ov cl x sg1 p1 p2 p3 i w' v := by
  intro i w w' v hi hB h
  have key : ∀ {p}, (∃ told, SumIn B L mt ad aS ao cd cs co gm fb gb mb qb db g goal P w told) ∧ SumAt w v p → (∃ told, SumIn B L mt ad aS ao cd cs co gm fb gb mb qb db g goal P w' told) ∧ SumAt w' v p := fun {p} h => ⟨later_in hB h.1, h.2.past (h.1.elim fun _ ht => ht.known.block) hB.1⟩
  match i, hi with
  | 0, _ | 1, _ | 2, _ | 3, _ | 5, _ | 6, _ => exact h
  | 4, _ | 7, _ | 8, _ => exact key h
  | k + 9, hk => exact absurd hk (by omega)

set_option maxRecDepth 100000 in
set_option maxHeartbeats 8000000 in
theorem down_ {M b : Nat} {but : Int} (hL6 : L.length ≤ 600) (hM : ∀ x, (P x).1 + (P x).2 ≤ M) (hMT : 600 * M < NatTop) (hb : b < L.length) (hfrom : ∀ x ∈ downsL L b, (x : Int) ≠ but → fromOk ρ B L mt ad aS ao cd cs co gm fb gb mb qb db g goal P x) (hrho : ∀ x ∈ downsL L b, (x : Int) ≠ but → ρ x < r) (W : World) (told : Nat → Bool) (h : SumIn B L mt ad aS ao cd cs co gm fb gb mb qb db g goal P W told) :
    Calls Tryz.prog 64 #[.int .i64 (b : Int), .int .i64 but, .pointer (some ⟨fb, 0, none⟩), .pointer (some ⟨qb, 0, none⟩)] W fun e w' => SumSays ρ r B L mt ad aS ao cd cs co gm fb gb mb qb db g goal P (downP (sgL L) (downsL L) P b but) W e w' := by
  have HH : Hid ((∃ told, SumIn B L mt ad aS ao cd cs co gm fb gb mb qb db g goal P W told) ∧ (∀ x, (P x).1 + (P x).2 ≤ M) ∧ 600 * M < NatTop) := ⟨⟨told, h⟩, hM, hMT⟩
  have HF : Hid (∀ x ∈ downsL L b, (x : Int) ≠ but → fromOk ρ B L mt ad aS ao cd cs co gm fb gb mb qb db g goal P x ∧ ρ x < r) := fun x h1 h2 => ⟨hfrom x h1 h2, hrho x h1 h2⟩
  obtain ⟨n, hn⟩ : ∃ n, L.length = n := ⟨_, rfl⟩
  have HNN : Hid (L.length = n) := hn
  obtain ⟨pb, hpb⟩ : ∃ pb, W.heap.size = pb := ⟨_, rfl⟩
  have hBX : Below W.heap.size W ((W.alloc (.cells #[.slice none 0 0, .slice none 0 0] 92)).alloc (.cells #[.slice none 0 0, .slice none 0 0] 92)) := ((Below.refl _ W).alloc (Nat.le_refl _) _).alloc (by simp) _
  have hbx1 : BoxS ((W.alloc (.cells #[.slice none 0 0, .slice none 0 0] 92)).alloc (.cells #[.slice none 0 0, .slice none 0 0] 92)) pb (.slice none 0 0) (.slice none 0 0) := by
    unfold BoxS
    rw [((Below.refl _ (W.alloc (.cells #[.slice none 0 0, .slice none 0 0] 92))).alloc (Nat.le_refl _) _).block pb (by simp [hpb])]
    rw [← hpb]; exact (Go.MapKept.heap_alloc W _).1
  have hbx2 : BoxS ((W.alloc (.cells #[.slice none 0 0, .slice none 0 0] 92)).alloc (.cells #[.slice none 0 0, .slice none 0 0] 92)) (pb + 1) (.slice none 0 0) (.slice none 0 0) := by
    unfold BoxS
    have := (Go.MapKept.heap_alloc (W.alloc (.cells #[.slice none 0 0, .slice none 0 0] 92)) (.cells #[.slice none 0 0, .slice none 0 0] 92)).1
    rw [World.size_alloc, hpb] at this
    exact this
  obtain ⟨X, hX⟩ : ∃ X, (W.alloc (.cells #[.slice none 0 0, .slice none 0 0] 92)).alloc (.cells #[.slice none 0 0, .slice none 0 0] 92) = X := ⟨_, rfl⟩
  rw [hX] at hBX hbx1 hbx2
  have hXs : X.heap.size = pb + 2 := by rw [← hX]; simp [hpb]
  have hin := h.below hBX
  have c1 := hin.fc 1 _ rfl
  obtain ⟨vs, ⟨a', c', ea, -, hax⟩, hvl, hvs⟩ := hin.sides
  rw [hvl, hn] at ea hax
  cases ea
  rw [hn] at hb c1
  obtain ⟨bs, os, rfl, hbB, hcx⟩ := hax (by omega)
  obtain ⟨u, hu⟩ : ∃ u, vs[b]? = some u := ⟨_, List.getElem?_eq_getElem (by rw [hvl, hn]; exact hb)⟩
  have su := hcx b u hu
  obtain ⟨a1, p1, rfl, hd1⟩ := hvs b u hu
  obtain ⟨k, hk⟩ : ∃ k, (sidesI L b).length = k := ⟨_, rfl⟩
  have hkL : (sidD L allD b).length = k := by rw [← hk]; simp [sidesI]
  have HKL : Hid ((sidD L allD b).length = k) := hkL
  rw [hk] at su
  have hk6 : k ≤ 600 := by rw [← hkL]; refine Nat.le_trans (List.length_filter_le _ _) ?_; rw [List.length_range, hn]; omega
  have HD1 : Hid (0 < k → ∃ gs o, a1 = some ⟨gs, o, none⟩ ∧ (gs < B ∧ gs ≠ g) ∧ gs < X.heap.size ∧ ∀ j (hj : j < (sidesI L b).length), X.cell? ⟨gs, o + j * 2, none⟩ = some (.int .i64 (sidesI L b)[j].1) ∧ X.cell? ⟨gs, o + (j * 2 + 1), none⟩ = some (.int .i64 (sidesI L b)[j].2)) := fun h0 => hd1 (by rw [hk]; exact h0)
  have HX : Hid (W.heap.size = pb ∧ X.heap.size = pb + 2 ∧ Below W.heap.size W X ∧ (∃ told, SumIn B L mt ad (some ⟨bs, os, none⟩) ao cd cs co gm fb gb mb qb db g goal P X told) ∧ BoxS X pb (.slice none 0 0) (.slice none 0 0) ∧ BoxS X (pb + 1) (.slice none 0 0) (.slice none 0 0)) := ⟨hpb, hXs, hBX, ⟨told, hin⟩, hbx1, hbx2⟩
  have HLB : Hid (B ≤ pb) := by have := h.low.2.2.2.2.2.2; rw [hpb] at this; exact this
  clear h hM hMT hfrom hrho hBX hbx1 hbx2 hin hvs hax hcx hu hd1 hk hkL hvl hXs
  go_enter Tryz.func64, Tryz.ntmps64
  go_wp2_with fail
  clear hX hpb
  go_loopw [17] (fun p wr => ∃ j : Nat, j ≤ k ∧ p = .int .i64 (j : Int) ∧ ∃ a2 m2 c2 a3 m3 c3, Hid (LaterS ρ r B L mt ad (some ⟨bs, os, none⟩) ao cd cs co gm fb gb mb qb db g goal P W wr ∧ BoxS wr pb (.slice none 0 0) (.slice none 0 0) ∧ BoxS wr (pb + 1) (.slice a2 m2 c2) (.slice a3 m3 c3) ∧ SumAt wr (.agg #[.slice a2 m2 c2, .slice a3 m3 c3]) (partP L P b but j))) (fun p _ => k - (intOf p).toNat)
  case atStart => exact ⟨0, by omega, rfl, none, 0, 0, none, 0, 0, later_below HX.out.2.2.1, HX.out.2.2.2.2.1, HX.out.2.2.2.2.2, SumAt.nil _⟩
  case round =>
    obtain ⟨j, hj, rfl, a2, m2, c2, a3, m3, c3, HJ⟩ := hrel
    by_cases hjk : j < k
    · obtain ⟨gs, o, rfl, ⟨hgB, hgg⟩, hgX, hcell⟩ := HD1.out (by omega)
      obtain ⟨x, hx⟩ : ∃ x, (sidD L allD b)[j]? = some x := ⟨_, List.getElem?_eq_getElem (by rw [HKL.out]; exact hjk)⟩
      have hsl : j < (sidesI L b).length := by simp only [sidesI, List.length_map]; rw [HKL.out]; exact hjk
      have hs := hcell j hsl
      have hse : (sidesI L b)[j] = sideP L b x := by
        have : (sidesI L b)[j]? = some (sideP L b x) := by unfold sidesI; rw [List.getElem?_map, hx]; rfl
        rw [List.getElem?_eq_getElem hsl] at this; exact Option.some.inj this
      rw [hse] at hs
      obtain ⟨sg1, hsg⟩ : ∃ sg1, (sideP L b x).2 = sg1 := ⟨_, rfl⟩
      rw [show (sideP L b x).1 = (x : Int) from rfl, hsg] at hs
      have HXD : Hid ((downsL L b)[j]? = some x ∧ sgL L b x = sg1) := ⟨by rw [show downsL L b = downs L.length (undL L) b from rfl, ← sid_downs]; exact hx, hsg⟩
      have hmap : ∃ es c, W.heap[g]? = some (.map es c) := HH.out.1.elim fun _ h => h.known.block
      have hgW : gs < W.heap.size := by have := HX.out.1; have := HLB.out; omega
      have hkc : ∀ {q v}, X.cell? ⟨gs, q, none⟩ = some v → wr.cell? ⟨gs, q, none⟩ = some v := fun {q v} e => by
        have e1 : W.cell? ⟨gs, q, none⟩ = some v := (HX.out.2.2.1.cell (p := ⟨gs, q, none⟩) hgW).symm.trans e
        exact (World.cell?_of_block (a := ⟨gs, q, none⟩) (HJ.out.1.1.block gs hgW (fun e2 => by cases e2; obtain ⟨es, c, hm⟩ := hmap; exact not_map hm e1 rfl))).trans e1
      have s0 := hkc hs.1
      have s1 : wr.cell? ⟨gs, o + j * 2 + 1, none⟩ = some (.int .i64 sg1) := hkc hs.2
      obtain ⟨xb, hxb⟩ : ∃ xb, wr.heap.size = xb := ⟨_, rfl⟩
      have h2 := two_box wr (.int .i64 (x : Int)) (.int .i64 sg1) 124
      have hB9 : Below wr.heap.size wr (wr.alloc (.cells #[.int .i64 (x : Int), .int .i64 sg1] 124)) := (Below.refl _ wr).alloc (Nat.le_refl _) _
      have z2 : (j : Int) < (k : Int) := by omega
      have hpart := part_step (P := P) (but := but) HXD.out.1
      rw [show stepP (sgL L) P b but (partP L P b but j) x = if (x : Int) = but then partP L P b but j else addP (partP L P b but j) (swp sg1 (P x)) from by unfold stepP; rw [HXD.out.2]] at hpart
      by_cases hxb2 : (x : Int) = but
      · subst hxb2
        rw [if_pos rfl] at hpart
        have HPT := Hid.mk' hpart
        have HB9 : Hid (Below wr.heap.size wr (wr.alloc (.cells #[.int .i64 (x : Int), .int .i64 sg1] 124))) := hB9
        clear hgg hcell hs hse hsg hx hmap hpart hB9 hxb
        go_wp2_with fail
        go_roundw
        case rel => exact ⟨j + 1, by omega, by go_num, a2, m2, c2, a3, m3, c3, later_trans _ _ _ HJ.out.1 (later_below HB9.out), (HB9.out.block pb (Array.getElem?_eq_some_iff.1 HJ.out.2.1).1).trans HJ.out.2.1, (HB9.out.block (pb + 1) (Array.getElem?_eq_some_iff.1 HJ.out.2.2.1).1).trans HJ.out.2.2.1, by rw [HPT.out]; exact HJ.out.2.2.2.below HB9.out⟩
        case measure => simp [intOf]; omega
      · rw [if_neg hxb2] at hpart
        have HPT := Hid.mk' hpart
        have hne : ((x : Int) != but) = true := bne_iff_ne.2 hxb2
        have HFX : Hid (fromOk ρ B L mt ad (some ⟨bs, os, none⟩) ao cd cs co gm fb gb mb qb db g goal P x) := (HF.out x (List.mem_iff_getElem?.2 ⟨j, HXD.out.1⟩) hxb2).1
        have HRX : Hid (ρ x + 1 ≤ r) := (HF.out x (List.mem_iff_getElem?.2 ⟨j, HXD.out.1⟩) hxb2).2
        obtain ⟨V9, hV9⟩ : ∃ V9, wr.alloc (.cells #[.int .i64 (x : Int), .int .i64 sg1] 124) = V9 := ⟨_, rfl⟩
        rw [hV9] at h2 hB9
        rw [hxb] at h2
        have HV9m : Hid (∃ es c, V9.heap[g]? = some (.map es c)) := by
          obtain ⟨t2, ht2⟩ := later_in HJ.out.1 HH.out.1
          exact (ht2.below hB9).known.block
        have HV9 : Hid (SumAt V9 (.agg #[.slice a2 m2 c2, .slice a3 m3 c3]) (partP L P b but j) ∧ ∀ w, LaterS ρ r B L mt ad (some ⟨bs, os, none⟩) ao cd cs co gm fb gb mb qb db g goal P V9 w → (∃ told, SumIn B L mt ad (some ⟨bs, os, none⟩) ao cd cs co gm fb gb mb qb db g goal P w told) ∧ BoxS w (pb + 1) (.slice a2 m2 c2) (.slice a3 m3 c3) ∧ (w.cell? ⟨xb, 0, none⟩ = some (.int .i64 (x : Int)) ∧ w.cell? ⟨xb, 1, none⟩ = some (.int .i64 sg1) ∧ w.cell? ⟨qb, 0, none⟩ = some (.func (.func 67) #[] #[.pointer (some ⟨gb, 0, none⟩), .pointer (some ⟨fb, 0, none⟩), .pointer (some ⟨mb, 0, none⟩), .pointer (some ⟨db, 0, none⟩)]))) := by
          refine ⟨HJ.out.2.2.2.below hB9, fun w hL => ?_⟩
          obtain ⟨t2, ht2⟩ := later_in HJ.out.1 HH.out.1
          obtain ⟨t3, ht3⟩ := later_in hL ⟨t2, ht2.below hB9⟩
          have hb9 : BoxS V9 (pb + 1) (.slice a2 m2 c2) (.slice a3 m3 c3) := (hB9.block (pb + 1) (Array.getElem?_eq_some_iff.1 HJ.out.2.2.1).1).trans HJ.out.2.2.1
          obtain ⟨es, c, hm⟩ := HV9m.out
          have hk9 : ∀ {q v}, V9.cell? ⟨xb, q, none⟩ = some v → w.cell? ⟨xb, q, none⟩ = some v := fun {q v} e => (World.cell?_of_block (a := ⟨xb, q, none⟩) (hL.1.block xb (cell_lt e) (fun e2 => by cases e2; exact not_map hm e rfl))).trans e
          exact ⟨⟨t3, ht3⟩, box_later hb9 HV9m.out hL.1, hk9 h2.1, hk9 h2.2, ht3.q0⟩
        have HNT : Hid (((partP L P b but j).1 < NatTop ∧ (partP L P b but j).2 < NatTop) ∧ (swp sg1 (P x)).1 < NatTop ∧ (swp sg1 (P x)).2 < NatTop) := by
          have q1 := part_le (L := L) (b := b) (but := but) HH.out.2.1 j
          have q2 : j * M ≤ 600 * M := Nat.mul_le_mul_right _ (by omega)
          have q3 := HH.out.2.1 x
          have q4 := HH.out.2.2
          have q5 : (swp sg1 (P x)).1 + (swp sg1 (P x)).2 = (P x).1 + (P x).2 := by
            unfold swp
            split
            · exact Nat.add_comm _ _
            · rfl
          refine ⟨⟨?_, ?_⟩, ?_, ?_⟩ <;> omega
        have HEND : Hid (∀ w a5 m5 c5 a6 m6 c6, LaterS ρ r B L mt ad (some ⟨bs, os, none⟩) ao cd cs co gm fb gb mb qb db g goal P V9 w → (∃ told, SumIn B L mt ad (some ⟨bs, os, none⟩) ao cd cs co gm fb gb mb qb db g goal P w told) → SumAt w (.agg #[.slice a5 m5 c5, .slice a6 m6 c6]) (addP (partP L P b but j) (swp sg1 (P x))) →
            LaterS ρ r B L mt ad (some ⟨bs, os, none⟩) ao cd cs co gm fb gb mb qb db g goal P W ((w.setCell ⟨pb + 1, 0, none⟩ (.slice a5 m5 c5)).setCell ⟨pb + 1, 1, none⟩ (.slice a6 m6 c6)) ∧ BoxS ((w.setCell ⟨pb + 1, 0, none⟩ (.slice a5 m5 c5)).setCell ⟨pb + 1, 1, none⟩ (.slice a6 m6 c6)) pb (.slice none 0 0) (.slice none 0 0) ∧ BoxS ((w.setCell ⟨pb + 1, 0, none⟩ (.slice a5 m5 c5)).setCell ⟨pb + 1, 1, none⟩ (.slice a6 m6 c6)) (pb + 1) (.slice a5 m5 c5) (.slice a6 m6 c6) ∧ SumAt ((w.setCell ⟨pb + 1, 0, none⟩ (.slice a5 m5 c5)).setCell ⟨pb + 1, 1, none⟩ (.slice a6 m6 c6)) (.agg #[.slice a5 m5 c5, .slice a6 m6 c6]) (partP L P b but (j + 1))) := by
          intro w a5 m5 c5 a6 m6 c6 hL hin hsum
          have hp0 : BoxS w pb (.slice none 0 0) (.slice none 0 0) := box_later ((hB9.block pb (Array.getElem?_eq_some_iff.1 HJ.out.2.1).1).trans HJ.out.2.1) HV9m.out hL.1
          have hp1 : BoxS w (pb + 1) (.slice a2 m2 c2) (.slice a3 m3 c3) := (HV9.out.2 w hL).2.1
          obtain ⟨q1, q2⟩ := put2 (.slice a5 m5 c5) (.slice a6 m6 c6) hp1
          have hgr : W.grownBy w (some g) := (HJ.out.1.1.trans ((Below.grownBy hB9).but _)).trans hL.1
          have hblk : ∀ b, b ≠ pb + 1 → ((w.setCell ⟨pb + 1, 0, none⟩ (.slice a5 m5 c5)).setCell ⟨pb + 1, 1, none⟩ (.slice a6 m6 c6)).heap[b]? = w.heap[b]? := fun b hb => (Below.heap_setCell _ _ _ b (fun e => hb e)).trans (Below.heap_setCell _ _ _ b (fun e => hb e))
          refine ⟨⟨⟨q2.os.trans hgr.os, q2.tape.trans hgr.tape, q2.output.trans hgr.output, Nat.le_trans hgr.size q2.size, fun b hb hne => (hblk b (by have := HX.out.1; omega)).trans (hgr.block b hb hne)⟩, fun t0 ht0 => ?_⟩, (hblk pb (by omega)).trans hp0, q1, ?_⟩
          · obtain ⟨t, ht, hf⟩ := (later_trans _ _ _ (later_trans _ _ _ HJ.out.1 (later_below hB9)) hL).2 t0 ht0
            exact ⟨t, ht.poke_box hp1 ⟨q2.os, q2.tape, q2.output, q2.size, fun b _ hb _ => hblk b hb⟩ (by have := HLB.out; omega), hf⟩
          · rw [HPT.out]
            obtain ⟨u1, u2, e, n1, n2⟩ := hsum
            cases e
            exact ⟨_, _, rfl, NatT.poke2 n1 hp1, NatT.poke2 n2 hp1⟩
        clear hgg hcell hs hse hsg hx hmap hpart hB9 hxb2
        go_upto_region 6 with fail
        clear hxb hV9
        refine region_growG (by kernel_rfl) (LaterS ρ r B L mt ad (some ⟨bs, os, none⟩) ao cd cs co gm fb gb mb qb db g goal P) (fun _ _ => later_below) later_trans 9 rfl (fun i => 25 + i) (spD B L mt ad (some ⟨bs, os, none⟩) ao cd cs co gm fb gb mb qb db g goal P xb (.agg #[.slice a2 m2 c2, .slice a3 m3 c3]) (.func (.func 67) #[] #[.pointer (some ⟨gb, 0, none⟩), .pointer (some ⟨fb, 0, none⟩), .pointer (some ⟨mb, 0, none⟩), .pointer (some ⟨db, 0, none⟩)]) (x : Int) sg1 (P x) (swp sg1 (P x)) (addP (partP L P b but j) (swp sg1 (P x)))) (fun i j _ _ h => by omega) (fun i hi => by simp; omega) spD_later (by decide +kernel) (by decide +kernel) (fun jo hj LL a w hG hed => ?_) (fun LL a w hG hed => ?_)
        · skip
          have hx := HV9.out.2 w hG.bel
          obtain ⟨cc0, cc1⟩ := hx.2.1.cells
          obtain ⟨ca0, ca1, cq⟩ := hx.2.2
          have y7 : a.tmps[7]? = some (.pointer (some ⟨pb + 1, 0, none⟩)) := (hG.oth 7 (fun i hi => by omega)).trans rfl
          have y3 : a.tmps[3]? = some (.pointer (some ⟨qb, 0, none⟩)) := (hG.oth 3 (fun i hi => by omega)).trans rfl
          have y9 : a.tmps[9]? = some (.pointer (some ⟨xb, 0, none⟩)) := (hG.oth 9 (fun i hi => by omega)).trans rfl
          have hv : ∀ jj, jj < 9 → jj ∈ edgesOf _ jo → ∃ v, a.tmps[(fun i => 25 + i) jj]? = some v ∧ (spD B L mt ad (some ⟨bs, os, none⟩) ao cd cs co gm fb gb mb qb db g goal P xb (.agg #[.slice a2 m2 c2, .slice a3 m3 c3]) (.func (.func 67) #[] #[.pointer (some ⟨gb, 0, none⟩), .pointer (some ⟨fb, 0, none⟩), .pointer (some ⟨mb, 0, none⟩), .pointer (some ⟨db, 0, none⟩)]) (x : Int) sg1 (P x) (swp sg1 (P x)) (addP (partP L P b but j) (swp sg1 (P x)))) jj w v := fun jj hq hq2 => hG.val jj hq (hed jj hq2)
          match jo, hj with
          | 0, _ =>
            exact op_value rfl rfl (by unfold execOp; simp [go_sem, Act.eval, y7, cc0]) ⟨_, rfl, rfl, later_below (Below.refl _ _)⟩
          | 1, _ =>
            exact op_value rfl rfl (by unfold execOp; simp [go_sem, Act.eval, y3, cq]) ⟨_, rfl, rfl, later_below (Below.refl _ _)⟩
          | 2, _ =>
            exact op_value rfl rfl (by unfold execOp; simp [go_sem, Act.eval, y9]) ⟨_, rfl, rfl, later_below (Below.refl _ _)⟩
          | 3, _ =>
            obtain ⟨v2, e2, h2⟩ := hv 2 (by omega) (by decide +kernel)
            have z2 : a.tmps[27]? = some v2 := e2
            obtain rfl : v2 = _ := h2
            exact op_value rfl rfl (by unfold execOp; simp [go_sem, Act.eval, z2, ca0]) ⟨_, rfl, rfl, later_below (Below.refl _ _)⟩
          | 4, _ =>
            obtain ⟨v1, e1, h1⟩ := hv 1 (by omega) (by decide +kernel)
            have z1 : a.tmps[26]? = some v1 := e1
            obtain rfl : v1 = _ := h1
            obtain ⟨v3, e3, h3⟩ := hv 3 (by omega) (by decide +kernel)
            have z3 : a.tmps[28]? = some v3 := e3
            obtain rfl : v3 = _ := h3
            obtain ⟨tt, htt⟩ := hx.1
            refine op_call rfl rfl (by unfold execOp; simp [go_sem, Act.eval, z1, z3]) _ (HFX.out w tt htt) fun e w' hh => ?_
            obtain ⟨v, rfl, hv1, hv2⟩ := hh
            exact ⟨v, rfl, v, rfl, ⟨later_in hv2 ⟨tt, htt⟩, hv1⟩, later_raise hv2 HRX.out⟩
          | 5, _ =>
            exact op_value rfl rfl (by unfold execOp; simp [go_sem, Act.eval, y9]) ⟨_, rfl, rfl, later_below (Below.refl _ _)⟩
          | 6, _ =>
            obtain ⟨v5, e5, h5⟩ := hv 5 (by omega) (by decide +kernel)
            have z5 : a.tmps[30]? = some v5 := e5
            obtain rfl : v5 = _ := h5
            exact op_value rfl rfl (by unfold execOp; simp [go_sem, Act.eval, z5, ca1]) ⟨_, rfl, rfl, later_below (Below.refl _ _)⟩
          | 7, _ =>
            obtain ⟨v4, e4, h4⟩ := hv 4 (by omega) (by decide +kernel)
            have z4 : a.tmps[29]? = some v4 := e4
            obtain ⟨v6, e6, h6⟩ := hv 6 (by omega) (by decide +kernel)
            have z6 : a.tmps[31]? = some v6 := e6
            obtain rfl : v6 = _ := h6
            refine op_call rfl rfl (by unfold execOp; simp [go_sem, Act.eval, z4, z6]) _ (sum_times w h4.2 sg1) fun e w' hh => ?_
            obtain ⟨v, rfl, hv1, hv2⟩ := hh
            exact ⟨v, rfl, v, rfl, ⟨h4.1.elim fun t ht => ⟨t, ht.below hv2⟩, hv1⟩, later_below hv2⟩
          | 8, _ =>
            obtain ⟨v0, e0, h0⟩ := hv 0 (by omega) (by decide +kernel)
            have z0 : a.tmps[25]? = some v0 := e0
            obtain rfl : v0 = _ := h0
            obtain ⟨v7, e7, h7⟩ := hv 7 (by omega) (by decide +kernel)
            have z7 : a.tmps[32]? = some v7 := e7
            refine op_call rfl rfl (by unfold execOp; simp [go_sem, Act.eval, z0, z7]) _ (sum_plus w (HV9.out.1.past HV9m.out hG.bel.1) h7.2 HNT.out.1 HNT.out.2) fun e w' hh => ?_
            obtain ⟨v, rfl, hv1, hv2⟩ := hh
            exact ⟨v, rfl, v, rfl, ⟨h7.1.elim fun t ht => ⟨t, ht.below hv2⟩, hv1⟩, later_below hv2⟩
          | q + 9, hq => exact absurd hq (by omega)
        · skip
          obtain ⟨v8, e8, h8⟩ := hG.val 8 (by omega) (hed 8 (by decide +kernel))
          have z8 : a.tmps[33]? = some v8 := e8
          have y7 : a.tmps[7]? = some (.pointer (some ⟨pb + 1, 0, none⟩)) := (hG.oth 7 (fun i hi => by omega)).trans rfl
          obtain ⟨hin, o1, o2, rfl, n1, n2⟩ := h8
          obtain ⟨a5, m5, c5, rfl⟩ := n1.form
          obtain ⟨a6, m6, c6, rfl⟩ := n2.form
          have hx := HV9.out.2 w hG.bel
          obtain ⟨cc0, cc1⟩ := hx.2.1.cells
          refine op_skip rfl rfl (by unfold execOp; simp [go_sem, Act.eval, y7, z8, cc0, cc1]; rfl) ?_
          obtain ⟨hs2, hB2⟩ := put2 (.slice a5 m5 c5) (.slice a6 m6 c6) hx.2.1
          have hend := HEND.out w a5 m5 c5 a6 m6 c6 hG.bel hin ⟨_, _, rfl, n1, n2⟩
          rename_i hK
          refine hK _ _ ?_
          obtain ⟨v0, e0, -⟩ := hG.val 0 (by omega) (back_listed hG.down 9 hed 0 (by decide +kernel))
          obtain ⟨v1, e1, -⟩ := hG.val 1 (by omega) (back_listed hG.down 9 hed 1 (by decide +kernel))
          obtain ⟨v2, e2, -⟩ := hG.val 2 (by omega) (back_listed hG.down 9 hed 2 (by decide +kernel))
          obtain ⟨v3, e3, -⟩ := hG.val 3 (by omega) (back_listed hG.down 9 hed 3 (by decide +kernel))
          obtain ⟨v4, e4, -⟩ := hG.val 4 (by omega) (back_listed hG.down 9 hed 4 (by decide +kernel))
          obtain ⟨v5, e5, -⟩ := hG.val 5 (by omega) (back_listed hG.down 9 hed 5 (by decide +kernel))
          obtain ⟨v6, e6, -⟩ := hG.val 6 (by omega) (back_listed hG.down 9 hed 6 (by decide +kernel))
          obtain ⟨v7, e7, -⟩ := hG.val 7 (by omega) (back_listed hG.down 9 hed 7 (by decide +kernel))
          have ha : a = ⟨#[.int .i64 (b : Int), .int .i64 but, .pointer (some ⟨fb, 0, none⟩), .pointer (some ⟨qb, 0, none⟩), undef, undef, .pointer (some ⟨pb, 0, none⟩), .pointer (some ⟨pb + 1, 0, none⟩), undef, .pointer (some ⟨xb, 0, none⟩), .pointer (some ⟨fb, 0, none⟩), .pointer (some ⟨fb, 1, none⟩), .slice (some ⟨bs, os, none⟩) n cs, .int .i64 (b : Int), .pointer (some ⟨bs, os + b, none⟩), .slice (some ⟨gs, o, none⟩) k p1, .int .i64 (k : Int), .int .i64 (j : Int), .bool true, .pointer (some ⟨gs, o + j * 2, none⟩), .agg #[.int .i64 (x : Int), .int .i64 sg1], .pointer (some ⟨xb, 0, none⟩), .int .i64 (x : Int), .int .i64 but, .bool true, v0, v1, v2, v3, v4, v5, v6, v7, .agg #[.slice a5 m5 c5, .slice a6 m6 c6], u34, undef], []⟩ := by
            refine act_eq (l := [.int .i64 (b : Int), .int .i64 but, .pointer (some ⟨fb, 0, none⟩), .pointer (some ⟨qb, 0, none⟩), undef, undef, .pointer (some ⟨pb, 0, none⟩), .pointer (some ⟨pb + 1, 0, none⟩), undef, .pointer (some ⟨xb, 0, none⟩), .pointer (some ⟨fb, 0, none⟩), .pointer (some ⟨fb, 1, none⟩), .slice (some ⟨bs, os, none⟩) n cs, .int .i64 (b : Int), .pointer (some ⟨bs, os + b, none⟩), .slice (some ⟨gs, o, none⟩) k p1, .int .i64 (k : Int), .int .i64 (j : Int), .bool true, .pointer (some ⟨gs, o + j * 2, none⟩), .agg #[.int .i64 (x : Int), .int .i64 sg1], .pointer (some ⟨xb, 0, none⟩), .int .i64 (x : Int), .int .i64 but, .bool true, v0, v1, v2, v3, v4, v5, v6, v7, .agg #[.slice a5 m5 c5, .slice a6 m6 c6], u34, undef]) (by rw [hG.asz]; rfl) (fun q hq => ?_) hG.dfr
            match q, hq with
            | 0, _ => exact (hG.oth 0 (fun i hi => by omega)).trans rfl
            | 1, _ => exact (hG.oth 1 (fun i hi => by omega)).trans rfl
            | 2, _ => exact (hG.oth 2 (fun i hi => by omega)).trans rfl
            | 3, _ => exact (hG.oth 3 (fun i hi => by omega)).trans rfl
            | 4, _ => exact (hG.oth 4 (fun i hi => by omega)).trans rfl
            | 5, _ => exact (hG.oth 5 (fun i hi => by omega)).trans rfl
            | 6, _ => exact (hG.oth 6 (fun i hi => by omega)).trans rfl
            | 7, _ => exact (hG.oth 7 (fun i hi => by omega)).trans rfl
            | 8, _ => exact (hG.oth 8 (fun i hi => by omega)).trans rfl
            | 9, _ => exact (hG.oth 9 (fun i hi => by omega)).trans rfl
            | 10, _ => exact (hG.oth 10 (fun i hi => by omega)).trans rfl
            | 11, _ => exact (hG.oth 11 (fun i hi => by omega)).trans rfl
            | 12, _ => exact (hG.oth 12 (fun i hi => by omega)).trans rfl
            | 13, _ => exact (hG.oth 13 (fun i hi => by omega)).trans rfl
            | 14, _ => exact (hG.oth 14 (fun i hi => by omega)).trans rfl
            | 15, _ => exact (hG.oth 15 (fun i hi => by omega)).trans rfl
            | 16, _ => exact (hG.oth 16 (fun i hi => by omega)).trans rfl
            | 17, _ => exact (hG.oth 17 (fun i hi => by omega)).trans rfl
            | 18, _ => exact (hG.oth 18 (fun i hi => by omega)).trans rfl
            | 19, _ => exact (hG.oth 19 (fun i hi => by omega)).trans rfl
            | 20, _ => exact (hG.oth 20 (fun i hi => by omega)).trans rfl
            | 21, _ => exact (hG.oth 21 (fun i hi => by omega)).trans rfl
            | 22, _ => exact (hG.oth 22 (fun i hi => by omega)).trans rfl
            | 23, _ => exact (hG.oth 23 (fun i hi => by omega)).trans rfl
            | 24, _ => exact (hG.oth 24 (fun i hi => by omega)).trans rfl
            | 25, _ => exact e0
            | 26, _ => exact e1
            | 27, _ => exact e2
            | 28, _ => exact e3
            | 29, _ => exact e4
            | 30, _ => exact e5
            | 31, _ => exact e6
            | 32, _ => exact e7
            | 33, _ => exact e8
            | 34, _ => exact (hG.oth 34 (fun i hi => by omega)).trans rfl
            | 35, _ => exact (hG.oth 35 (fun i hi => by omega)).trans rfl
            | q + 36, hq => exact absurd hq (by simp)
          change Code.wp Tryz.prog _ _ a _
          rw [ha]
          obtain ⟨V, hV⟩ : ∃ V, (w.setCell ⟨pb + 1, 0, none⟩ (.slice a5 m5 c5)).setCell ⟨pb + 1, 1, none⟩ (.slice a6 m6 c6) = V := ⟨_, rfl⟩
          rw [hV] at hend ⊢
          have HE := Hid.mk' hend
          have hjk2 := hjk
          clear ha hG hed hK hend hV hs2 hB2 hx cc0 cc1 n1 n2 hin z8 y7 e0 e1 e2 e3 e4 e5 e6 e7 e8
          go_wp2_with fail
          go_roundw
          case rel => exact ⟨j + 1, by omega, by go_num, a5, m5, c5, a6, m6, c6, HE.out⟩
          case measure => simp [intOf]; omega
    · obtain rfl : j = k := by omega
      obtain ⟨cc0, cc1⟩ := HJ.out.2.2.1.cells
      obtain ⟨ca0, ca1⟩ := HJ.out.2.1.cells
      have s0 := cc0 0
      have s1 := cc0 1
      have r0 : wr.cell? ⟨pb, 0, none⟩ = some (.slice none 0 0) := ca0 0
      have r1 : wr.cell? ⟨pb, 1, none⟩ = some (.slice none 0 0) := ca0 1
      have f0 := ca1 0
      have f1 := ca1 1
      have t0 : wr.cell? ⟨pb + 1, 0, none⟩ = some (.slice a2 m2 c2) := s0
      have t1 : wr.cell? ⟨pb + 1, 1, none⟩ = some (.slice a3 m3 c3) := s1
      obtain ⟨q1, q2⟩ := put2 (.slice a2 m2 c2) (.slice a3 m3 c3) HJ.out.2.1
      have x0 := q1.cells.1 0
      have x1 := q1.cells.1 1
      have HQ := Hid.mk' q2
      have HPA : Hid (partP L P b but j = downP (sgL L) (downsL L) P b but) := part_all (by rw [← HKL.out, sid_downs]; exact Nat.le_refl _)
      clear su c1 cc0 cc1 ca0 ca1 s0 s1 q1 q2
      go_wp2_with fail
      have hblk : ∀ b, b ≠ pb → ((wr.setCell ⟨pb, 0, none⟩ (.slice a2 m2 c2)).setCell ⟨pb, 1, none⟩ (.slice a3 m3 c3)).heap[b]? = wr.heap[b]? := fun b hb => (Below.heap_setCell _ _ _ b (fun e => hb e)).trans (Below.heap_setCell _ _ _ b (fun e => hb e))
      have hgr := HJ.out.1.1
      have hfin : SumSays ρ r B L mt ad (some ⟨bs, os, none⟩) ao cd cs co gm fb gb mb qb db g goal P (downP (sgL L) (downsL L) P b but) W (.returned (.agg #[.slice a2 m2 c2, .slice a3 m3 c3])) ((wr.setCell ⟨pb, 0, none⟩ (.slice a2 m2 c2)).setCell ⟨pb, 1, none⟩ (.slice a3 m3 c3)) := by
        refine ⟨_, rfl, ?_, ⟨HQ.out.os.trans hgr.os, HQ.out.tape.trans hgr.tape, HQ.out.output.trans hgr.output, Nat.le_trans hgr.size HQ.out.size, fun b hb hne => (hblk b (by have := HX.out.1; omega)).trans (hgr.block b hb hne)⟩, fun t0 ht0 => by
          obtain ⟨t, ht, hf⟩ := HJ.out.1.2 t0 ht0
          exact ⟨t, ht.poke_box HJ.out.2.1 ⟨HQ.out.os, HQ.out.tape, HQ.out.output, HQ.out.size, fun b _ hb _ => hblk b hb⟩ HLB.out, hf⟩⟩
        rw [← HPA.out]
        obtain ⟨u1, u2, e, n1, n2⟩ := HJ.out.2.2.2
        cases e
        exact ⟨_, _, rfl, NatT.poke2 n1 HJ.out.2.1, NatT.poke2 n2 HJ.out.2.1⟩
      refine bodyPost_ret (v := .agg #[.slice a2 m2 c2, .slice a3 m3 c3]) ?_ rfl hfin
      simp [results, Tryz.f64, go_sem, x0, x1]

end

end Go.Proofs.YtnnkmkhamipfiaaGreatDoor
