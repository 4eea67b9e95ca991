/- What mapping.set answers: the images, rising, each once. What the reference's ImageOf answers: the images of a face's vertices, in their order. -/
import Derived.Test.YthmjdfjchhohgaaGreatDoorIdxImages
import Derived.Test.YthmjdfjchhohgaaGreatDoorIdxCompact
import Derived.Test.YthmjdfjchhohgaaGreatDoorShelfI
import Derived.Test.YthmjdfjchhohgaaGreatDoorIdxHas
import Derived.Test.YthmjdfjchhohgaaGreatDoorIdxMath
import Derived.Test.YthmjdfjchhohgaaGreatDoorRefJoin
namespace Go.Proofs.YthmjdfjchhohgaaGreatDoor
open Go.RowKit Go.Sort Go.Lib

theorem RowL.holds {base g n cap : Nat} {W : World} {A : List Int} (h : RowL base g n cap W A) : Holds (Value.int .i64) W g 0 A.toArray := fun j hj => by
  have hj1 : j < A.length := by simpa using hj
  obtain ⟨h1, h2⟩ := h.cell (j := j) (by rw [← h.len]; exact hj1)
  rw [Nat.zero_add]
  refine ⟨?_, h2⟩
  rw [h1, getElem!_pos A.toArray j hj, List.getElem?_eq_getElem hj1]
  simp
theorem grownBy_putI {w : World} {g n : Nat} {os : Array Obj} (d : Array Int) : w.grownBy (grow (putRow (Value.int .i64) (Sort.ahead w n) g 0 d) os) (some g) := by
  refine ⟨rfl, rfl, rfl, by simp [grow, putRow, mapBlock, Sort.ahead], fun k hk hne => ?_⟩
  have hkg : k ≠ g := fun e => hne (by rw [e])
  simp only [grow, putRow, mapBlock, Sort.ahead]
  rw [Array.getElem?_append_left (by simpa using hk), Array.getElem?_modify, if_neg (fun e => hkg e.symm)]

theorem holds_below {w w' : World} {g : Nat} {d : Array Int} (h : Holds (Value.int .i64) w g 0 d) (hB : Below w.heap.size w w') (hg : g < w.heap.size) : Holds (Value.int .i64) w' g 0 d := fun j hj => ⟨(hB.cell (p := ⟨g, 0 + j, none⟩) hg).trans (h j hj).1, by
  have := (h j hj).2
  simp only [World.frozen?, hB.block g hg] at this ⊢
  exact this⟩
theorem below_grow (w : World) (os : Array Obj) : Below w.heap.size w (grow w os) := ⟨rfl, rfl, rfl, by simp, fun k hk => heap_grow_old _ _ hk⟩
theorem holds_sorted {w : World} {g n : Nat} {os : Array Obj} {d d' : Array Int} (h : Holds (Value.int .i64) w g 0 d) (hs : d'.size = d.size) (hg : g < w.heap.size) : Holds (Value.int .i64) (grow (putRow (Value.int .i64) (Sort.ahead w n) g 0 d') os) g 0 d' :=
  holds_below (holds_putRow _ _ _ _ d d' (holds_ahead _ _ n _ _ _ h) hs) (below_grow _ _) (by simpa [putRow, mapBlock, Sort.ahead] using hg)
theorem ints_holds {S : Nat → Prop} {w : World} {g cap : Nat} {zs l : List Int} (h : Holds (Value.int .i64) w g 0 (zs ++ l).toArray) (hS : S g) (hc : zs.length ≤ cap) : IntsIn S w (.slice (some ⟨g, 0, none⟩) zs.length cap) zs :=
  ⟨some ⟨g, 0, none⟩, cap, by simp, ⟨by simpa using hc, fun h => by cases h⟩, fun _ => ⟨g, 0, rfl, hS, fun j u hu => by
    rw [List.getElem?_map] at hu
    have hj : j < zs.length := by
      rcases Nat.lt_or_ge j zs.length with h | h
      · exact h
      · rw [List.getElem?_eq_none h] at hu; cases hu
    rw [List.getElem?_eq_getElem hj] at hu
    cases hu
    have := (h j (by simp; omega)).1
    rw [this, getElem!_pos _ j (by simp; omega)]
    simp [List.getElem_append_left hj]⟩⟩

set_option maxRecDepth 100000 in
set_option maxHeartbeats 1000000 in
theorem set_ (vF : Value) (F : Nat → Int) (vx : Value) (x : List Int) (w : World) (hx : Ints w vx x) (hxl : x.length ≤ 7) (hx0 : x ≠ []) (hv : ∀ v ∈ x, 0 ≤ v ∧ v ≤ 99) :
    Calls Tryz.prog 74 #[.agg (mapC vF F).toArray, vx] w fun e w' => ∃ v out, e = .returned v ∧ IntsIn (fun b => w.heap.size ≤ b) w' v out ∧ Rising out ∧ (∀ u, u ∈ out ↔ u ∈ x.map fun v => F v.toNat) ∧ Below w.heap.size w w' := by
  have hpos : 0 < x.length := List.length_pos_iff.2 hx0
  have hmg : MapgAt w.heap.size (w.alloc (.cells (mapC vF F).toArray 83)) vF F := (Go.MapKept.heap_alloc w _).1
  have hB0 : Below w.heap.size w (w.alloc (.cells (mapC vF F).toArray 83)) := (Below.refl _ w).alloc (Nat.le_refl _) _
  have him := images_ vF F vx x (w.alloc (.cells (mapC vF F).toArray 83)) (hx.below hB0) hxl hv
  have hld : (Instr.loadAt 83 (.pointer (some ⟨w.heap.size, 0, none⟩))).run Tryz.prog (w.alloc (.cells (mapC vF F).toArray 83)) = .ok (.agg (mapC vF F).toArray) (w.alloc (.cells (mapC vF F).toArray 83)) := by
    simp only [Instr.loadAt, Instr.sureAddr, Sem.run_bind, Sem.run_pure, Result.andThen_ok]
    exact hmg.load
  obtain ⟨P, hP⟩ : ∃ P, (mapC vF F).toArray = P := ⟨_, rfl⟩
  rw [hP] at him hld hB0 ⊢
  obtain ⟨W0, hW0⟩ : ∃ W0, w.alloc (.cells P 83) = W0 := ⟨_, rfl⟩
  rw [hW0] at him hld hB0
  obtain ⟨X, hX⟩ : ∃ X, (x.map fun v => F v.toNat) = X := ⟨_, rfl⟩
  have hXl : X.length = x.length := by rw [← hX, List.length_map]
  rw [hX] at him ⊢
  rw [← hXl] at him hpos hxl
  have HB0 := Hid.mk' hB0
  clear hx hx0 hv hmg hP hX hXl hB0
  go_enter Tryz.func74, Tryz.ntmps74
  go_wp2_with fail
  refine wp_load_at rfl rfl hld ?_
  go_wp2_with fail
  refine him.mono ?_
  clear him
  rintro e V1 ⟨g, rfl, hr, hB⟩
  have HB1 : Hid (Below w.heap.size w V1) := HB0.out.trans (hB.mono HB0.out.size)
  have hg0 := hr.block
  have hg1 : g < V1.heap.size := cell_lt (hr.cell (j := 0) hpos).1
  have HG : Hid (w.heap.size ≤ g) := Nat.le_trans HB0.out.size hg0
  have hso := Tryz.slices_Sort_int g 0 X.length X V1 hr.holds hg1 (by omega)
  have HH := Hid.mk' hr.holds
  have HG1 := Hid.mk' hg1
  clear hB hr hg0 hld HB0
  go_wp2_with fail
  refine hso.mono ?_
  clear hso
  rintro e V2 ⟨rfl, nq, os, hV2⟩
  obtain ⟨Y, hY⟩ : ∃ Y, (X.mergeSort fun x y => decide (x ≤ y)) = Y := ⟨_, rfl⟩
  have hYl : Y.length = X.length := by rw [← hY]; exact List.length_mergeSort _
  have hrise := sort_compact X
  rw [hY] at hV2 hrise
  have hH2 : Holds (Value.int .i64) V2 g 0 Y.toArray := by
    rw [hV2]
    exact holds_sorted HH.out (by simpa using hYl) HG1.out
  have HB2 : Hid (Below w.heap.size w V2) := by
    show Below _ _ _
    rw [hV2]
    exact HB1.out.grown (grownBy_putI Y.toArray) HB1.out.size (fun j hj => by cases hj; exact HG.out)
  have hco := Tryz.slices_Compact_int g 0 X.length Y V2 hH2 (by omega) (by omega)
  rw [hYl] at hco
  have HR := Hid.mk' hrise
  have HH2 := Hid.mk' hH2
  have HYL := Hid.mk' hYl
  clear hV2 hY hrise hH2 hYl
  go_wp2_with fail
  refine hco.mono ?_
  clear hco
  rintro e V3 ⟨rfl, nq3, hV3⟩
  have hcl : (compact Y).length ≤ X.length := nodup_le (rising_nodup HR.out.1) fun u hu => (HR.out.2 u).1 hu
  have hH3 : Holds (Value.int .i64) V3 g 0 (compact Y ++ List.replicate (X.length - (compact Y).length) 0).toArray := by
    rw [hV3]
    refine holds_putRow _ _ _ _ Y.toArray _ (holds_ahead _ _ nq3 _ _ _ HH2.out) ?_
    have := HYL.out
    simp
    omega
  have HI : Hid (IntsIn (fun b => w.heap.size ≤ b) V3 (.slice (some ⟨g, 0, none⟩) (compact Y).length X.length) (compact Y)) := ints_holds hH3 HG.out hcl
  have hV4 : V3 = grow (putRow (Value.int .i64) (Sort.ahead V2 nq3) g 0 (compact Y ++ List.replicate (X.length - (compact Y).length) 0).toArray) #[] := by
    rw [hV3]
    simp [grow]
    rfl
  have HB3 : Hid (Below w.heap.size w V3) := by
    show Below _ _ _
    rw [hV4]
    exact HB2.out.grown (grownBy_putI _) HB2.out.size (fun j hj => by cases hj; exact HG.out)
  clear hV3 hV4 hH3 hcl
  go_wp2_with fail
  go_ret
  exact ⟨_, compact Y, rfl, HI.out, HR.out.1, HR.out.2, HB3.out⟩

end Go.Proofs.YthmjdfjchhohgaaGreatDoor

namespace Go.Proofs.YthmjdfjchhohgaaGreatDoor
open Go.RowKit Go.Sort Go.Lib

theorem take_has1 {V : List Int} {k : Nat} (hk : k < V.length) (x : Int) : x ∈ V.take (k + 1) ↔ x ∈ V.take k ∨ x = V[k]?.getD 0 := by
  rw [List.take_add_one, List.getElem?_eq_getElem hk, List.mem_append]
  simp only [Option.toList, List.mem_singleton, Option.getD_some]
theorem take_not {V : List Int} (hn : V.Nodup) {k : Nat} (hk : k < V.length) : V[k]?.getD 0 ∉ V.take k := by
  have h1 : (V.take (k + 1)).Nodup := (List.take_sublist _ _).nodup hn
  rw [take_nodupD hk] at h1
  intro hc
  obtain ⟨j, hj, e⟩ := List.mem_take_iff_getElem.1 hc
  have := h1.2 j (by omega)
  rw [List.getElem?_eq_getElem (by omega), Option.getD_some] at this
  exact this e

set_option maxRecDepth 100000 in
set_option maxHeartbeats 4000000 in
theorem image_of (va vf vx : Value) (all : List (List Int)) (f x : List Int) (w : World) (ha : Rows w va all) (hl : all.length ≤ 600) (hf : Ints w vf f) (hfl : f.length ≤ 1000) (hx : Ints w vx x) (hxl : x.length ≤ 7)
    (hlen : f.length = (vertI all).length) (hnd : (vertI all).Nodup) (hsub : ∀ u ∈ x, u ∈ vertI all) :
    Calls Tryz.prog 44 #[va, vf, vx] w fun e w' => ∃ v, e = .returned v ∧ IntsIn (fun b => w.heap.size ≤ b) w' v (x.map (hiF (vertI all) f)) ∧ Below w.heap.size w w' := by
  obtain ⟨i0, hi0, hz0, hz1, hz2⟩ := info_parts Tryz.info3
  have hv := vertices_ va all w ha (by omega)
  have hf0 := hf
  have hx0 := hx
  obtain ⟨af, cf, rfl, -, -⟩ := hf.open_
  obtain ⟨ax, cx, rfl, -, -⟩ := hx.open_
  have HC : Hid (∀ k, k < f.length → ∃ b o, af = some ⟨b, o, none⟩ ∧ b < w.heap.size ∧ w.cell? ⟨b, o + k, none⟩ = some (.int .i64 (f[k]?.getD 0))) := ints_cells hf0
  have HX : Hid (∀ k, k < x.length → ∃ b o, ax = some ⟨b, o, none⟩ ∧ b < w.heap.size ∧ w.cell? ⟨b, o + k, none⟩ = some (.int .i64 (x[k]?.getD 0))) := ints_cells hx0
  obtain ⟨V, hV⟩ : ∃ V, vertI all = V := ⟨_, rfl⟩
  rw [hV] at hv hlen hnd hsub ⊢
  have HVC : Hid (Calls Tryz.prog 32 #[va] w fun e w' => ∃ av cv, e = .returned (.slice av f.length cv) ∧ (∀ k, k < f.length → ∃ b o, av = some ⟨b, o, none⟩ ∧ b < w'.heap.size ∧ w'.cell? ⟨b, o + k, none⟩ = some (.int .i64 (V[k]?.getD 0))) ∧ Below w.heap.size w w') := hv.mono fun e w' ⟨v, h1, h2, h3⟩ => by
    have h4 := h2.any
    obtain ⟨av, cv, rfl, -, -⟩ := h2.open_
    have h5 := ints_cells h4
    rw [← hlen] at h1 h5
    exact ⟨av, cv, h1, h5, h3⟩
  obtain ⟨ht, hht⟩ : ∃ ht, hiF V f = ht := ⟨_, rfl⟩
  have HAT : Hid (∀ k, k < V.length → ht (V[k]?.getD 0) = (f[k]?).getD 0) := fun k hk => by
    rw [← hht, List.getElem?_eq_getElem hk, Option.getD_some]
    exact hiF_at (h := f) hnd hk
  have HND : Hid V.Nodup := hnd
  have HSUB : Hid (∀ u ∈ x, u ∈ V) := hsub
  obtain ⟨n, hn⟩ : ∃ n, f.length = n := ⟨_, rfl⟩
  have HN : Hid (V.length = n) := by show V.length = n; omega
  obtain ⟨m, hm⟩ : ∃ m, x.length = m := ⟨_, rfl⟩
  have HM : Hid (x.length = m) := hm
  rw [hht]
  rw [hn] at HC hfl HVC ⊢
  rw [hm] at HX hxl ⊢
  clear hv ha hf hf0 hx hx0 hV hlen hnd hn hm hl hsub hht
  go_enter Tryz.func44, Tryz.ntmps44
  go_wp2_with fail
  refine HVC.out.mono ?_
  rintro e V1 ⟨av, cv, rfl, hvc, hB⟩
  have HB : Hid (Below w.heap.size w V1) := hB
  have HVV : Hid (∀ k, k < n → ∃ b o, av = some ⟨b, o, none⟩ ∧ b < V1.heap.size ∧ V1.cell? ⟨b, o + k, none⟩ = some (.int .i64 (V[k]?.getD 0))) := hvc
  clear hB HVC hvc
  go_wp2_with fail
  go_loopw [8, 9] (fun v p W => ∃ k : Nat, k ≤ m ∧ p = .int .i64 k ∧ Hid (W.ownsRow V1.heap.size 3 1 v k (((x.take k).map ht).map (Value.int .i64)) ∧ Below V1.heap.size V1 W)) (fun _ p _ => m - (intOf p).toNat)
  case atStart => exact ⟨0, by omega, rfl, World.ownsRow_nil _ _ _ _, Below.refl _ _⟩
  case round =>
    obtain ⟨i, hi, rfl, HK⟩ := hrel
    obtain ⟨ao, co, rfl⟩ := own_slice HK.out.1
    by_cases hlt : i < m
    · obtain ⟨bx, ox, rfl, hbx, q0⟩ := HX.out i hlt
      have hxm : x[i]?.getD 0 ∈ x := by rw [List.getElem?_eq_getElem (by rw [HM.out]; exact hlt)]; exact List.getElem_mem _
      have HXV : Hid (x[i]?.getD 0 ∈ V) := HSUB.out _ hxm
      have HT : Hid (x.take (i + 1) = x.take i ++ [x[i]?.getD 0]) := by
        show _ = _
        rw [List.take_add_one, List.getElem?_eq_getElem (by rw [HM.out]; exact hlt)]; rfl
      obtain ⟨y, hy⟩ : ∃ y, x[i]?.getD 0 = y := ⟨_, rfl⟩
      rw [hy] at q0 HXV HT
      have HQ : Hid (w.cell? ⟨bx, ox + i, none⟩ = some (.int .i64 y) ∧ bx < w.heap.size) := ⟨q0, hbx⟩
      generalize wr = Wm at *
      clear hxm hy q0
      go_wp2_with fail
      go_loopw [8, 10] (fun v p W => ∃ k : Nat, k ≤ n ∧ p = .int .i64 k ∧ Hid ((if y ∈ V.take k then W.ownsRow V1.heap.size 3 1 v (i + 1) (((x.take i).map ht ++ [ht y]).map (Value.int .i64)) else W.ownsRow V1.heap.size 3 1 v i (((x.take i).map ht).map (Value.int .i64))) ∧ Below V1.heap.size V1 W)) (fun _ p _ => n - (intOf p).toNat)
      case atStart => exact ⟨0, by omega, rfl, by show (if y ∈ V.take 0 then _ else _) ∧ _; rw [if_neg (by simp)]; exact HK.out⟩
      case round =>
        obtain ⟨k, hk, rfl, HI⟩ := hrel
        by_cases hkl : k < n
        · obtain ⟨b, o, rfl, hb, g0⟩ := HVV.out k hkl
          obtain ⟨bf, of, rfl, hbf, g1⟩ := HC.out k hkl
          have HBW : Hid (Below w.heap.size w wr) := HB.out.trans (HI.out.2.mono HB.out.size)
          have p0 := (HI.out.2.cell (p := ⟨b, o + k, none⟩) hb).trans g0
          have p1 := (HBW.out.cell (p := ⟨bf, of + k, none⟩) hbf).trans g1
          have p2 := (HBW.out.cell (p := ⟨bx, ox + i, none⟩) hbx).trans HQ.out.1
          have hth := take_has1 (V := V) (k := k) (by rw [HN.out]; exact hkl) y
          have hno := take_not HND.out (k := k) (by rw [HN.out]; exact hkl)
          have hat := HAT.out k (by rw [HN.out]; exact hkl)
          obtain ⟨z, hz⟩ : ∃ z, V[k]?.getD 0 = z := ⟨_, rfl⟩
          obtain ⟨fz, hfz⟩ : ∃ fz, f[k]?.getD 0 = fz := ⟨_, rfl⟩
          rw [hz] at p0 hth hno hat
          rw [hfz] at p1 hat
          have HTH := Hid.mk' hth
          clear g0 g1 hz hfz hth
          by_cases he : z = y
          · subst he
            have hown : wr.ownsRow V1.heap.size 3 1 u8 i (((x.take i).map ht).map (Value.int .i64)) := by
              have := HI.out.1
              rwa [if_neg hno] at this
            obtain ⟨a8, c8, rfl⟩ := own_slice hown
            have HAT2 : Hid (ht z = fz) := hat
            have hbs := HI.out.2.size
            have hi7 : i ≤ 7 := by omega
            have HYES : Hid (z ∈ V.take (k + 1)) := HTH.out.2 (.inr rfl)
            clear hno hat
            go_wp2_with fail
            go_region
            go_wp2_with (first
              | (at_builtin; refine wpList_append_slice rfl (.tmp 34) (.tmp 39) 23 rfl V1.heap.size 3 i0 (.int .i64 0) 8 Tryz.underlying23 hi0 hz0 hz1 hz2 rfl _ _ _ rfl ((World.ownsRow.kept hown (Below.grownBy ((Below.refl _ wr).drew)) (by cases (Value.slice a8 i c8).ownBlock <;> simp)).alloc _) _ [.int .i64 fz] rfl (slice_one _ _ _) (by simp [Value.oneCell']) (by simp; omega) (by unfold maxLen; simp; omega) (by simp; omega) ?_; intro v4 w4 hown4 hg4 hl4)
              | fail)
            go_roundw
            case rel =>
              refine ⟨k + 1, by omega, by go_num, ?_, ?_⟩
              · rw [if_pos HYES.out, List.map_append, List.map_cons, List.map_nil, HAT2.out]
                exact hown4
              · exact ((HI.out.2.drew).alloc (by simp; omega) _).grown hg4 (by simp; omega) (fun b hb => (hown.lt b hb).1)
            case measure => simp [intOf]; omega
          · have heb : (z == y) = false := beq_false_of_ne he
            have HSAME : Hid (y ∈ V.take (k + 1) ↔ y ∈ V.take k) := by
              show _ ↔ _
              rw [HTH.out]
              exact ⟨fun h => h.elim id fun e => absurd e.symm he, .inl⟩
            clear hno hat HTH
            go_wp2_with fail
            go_region
            go_wp2_with fail
            go_roundw
            case rel =>
              refine ⟨k + 1, by omega, by go_num, ?_, HI.out.2.drew⟩
              have h1 := HI.out.1
              by_cases hq : y ∈ V.take k
              · rw [if_pos hq] at h1
                rw [if_pos (HSAME.out.2 hq)]
                exact World.ownsRow.kept h1 (Below.grownBy ((Below.refl _ wr).drew)) (by cases u8.ownBlock <;> simp)
              · rw [if_neg hq] at h1
                rw [if_neg (fun hc => hq (HSAME.out.1 hc))]
                exact World.ownsRow.kept h1 (Below.grownBy ((Below.refl _ wr).drew)) (by cases u8.ownBlock <;> simp)
            case measure => simp [intOf]; omega
        · obtain rfl : k = n := by omega
          have HE : Hid (wr.ownsRow V1.heap.size 3 1 u8 (i + 1) (((x.take (i + 1)).map ht).map (Value.int .i64)) ∧ Below V1.heap.size V1 wr) := by
            have h1 := HI.out
            have h2 : V.take k = V := by rw [← HN.out, List.take_length]
            rw [h2, if_pos HXV.out] at h1
            rw [HT.out, List.map_append (f := ht), List.map_cons (f := ht), List.map_nil (f := ht)]
            exact h1
          go_wp2_with fail
          go_roundw
          case rel => exact ⟨i + 1, by omega, by go_num, HE.out⟩
          case measure => simp [intOf]; omega
    · obtain rfl : i = m := by omega
      have HE : Hid (IntsIn (fun b => w.heap.size ≤ b) wr (.slice ao i co) (x.map ht)) := by
        have h1 := HK.out.1
        have h2 : x.take i = x := by rw [← HM.out, List.take_length]
        rw [h2] at h1
        exact slice_of_owns (S := fun b => w.heap.size ≤ b) h1 (fun b hb _ => Nat.le_trans HB.out.size hb)
      have HB9 : Hid (Below w.heap.size w wr) := HB.out.trans (HK.out.2.mono HB.out.size)
      go_wp2_with fail
      go_ret
      exact ⟨_, rfl, HE.out, HB9.out⟩

end Go.Proofs.YthmjdfjchhohgaaGreatDoor
