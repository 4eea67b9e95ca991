/- What index.open answers of complexes: a map, or where it is none. -/
import Derived.Test.YthmjdfjchhohgaaGreatDoorIdxInv
import Derived.Test.YthmjdfjchhohgaaGreatDoorIdxImage
import Derived.Test.YthmjdfjchhohgaaGreatDoorOrderInv
import Derived.Test.YthmjdfjchhohgaaGreatDoorFault0
namespace Go.Proofs.YthmjdfjchhohgaaGreatDoor
open Go.RowKit Go.Sort Go.Lib

theorem built_map (a : Option Addr) (n c : Nat) (F : Nat → Int) : Tryz.prog.built 83 [(0, .slice a n c), (1, .agg (numC F).toArray)] = some (mapC (.slice a n c) F).toArray := by kernel_rfl
/-- A map's faces, in a row of one's own, and its numbers: what open answers. -/
def MapIs (B : Nat) (w' : World) (v : Value) (F : Nat → Int) (L : List (List Int)) : Prop :=
  ∃ B' u, B ≤ B' ∧ FacesIs (fun b => b < B') B' w' u L ∧ v = .agg (mapC u F).toArray
/-- The slots of the region that makes a mapping. -/
def dstM (i : Nat) : Nat := if i = 6 then 12 else 61 + i
theorem dstM_inj : ∀ i j, i < 7 → j < 7 → dstM i = dstM j → i = j := fun i j hi hj h => by
  unfold dstM at h
  split at h <;> split at h <;> omega
def spM (b6 B : Nat) (Qa : Array Value) (vf : Value) (F : Nat → Int) (L : List (List Int)) : Nat → World → Value → Prop
  | 0, _, v => v = .agg Qa
  | 1, w, v => FacesIs (fun b => b6 < b ∧ b < B) B w v L
  | 2, _, v => v = .agg Qa
  | 3, _, v => v = vf
  | 4, _, v => v = .agg (numC F).toArray
  | 5, w, v => ∃ u, FacesIs (fun b => b6 < b ∧ b < B) B w u L ∧ v = .agg (mapC u F).toArray
  | 6, w, v => ∃ g, v = .pointer (some ⟨g, 0, none⟩) ∧ B ≤ g ∧ MapgAt g w (.slice none 0 0) fun _ => 0
  | _, _, _ => True
theorem spM_below {b6 B : Nat} {Qa : Array Value} {vf : Value} {F : Nat → Int} {L : List (List Int)} : ∀ i (w w' : World) v, i < 7 → Below w.heap.size w w' → spM b6 B Qa vf F L i w v → spM b6 B Qa vf F L i w' v
  | 0, _, _, _, _, _, h => h
  | 1, _, _, _, _, hB, h => FacesIs.below h hB
  | 2, _, _, _, _, _, h => h
  | 3, _, _, _, _, _, h => h
  | 4, _, _, _, _, _, h => h
  | 5, _, _, _, _, hB, h => by obtain ⟨u, h1, h2⟩ := h; exact ⟨u, h1.below hB, h2⟩
  | 6, _, _, _, _, hB, h => by obtain ⟨g, h1, h2, h3⟩ := h; exact ⟨g, h1, h2, h3.below hB⟩
  | k + 7, _, _, _, hk, _, _ => absurd hk (by omega)
def spS (Qb : Array Value) (vm vx : Value) (Y : List Int) (B : Bool) : Nat → World → Value → Prop
  | 0, _, v => v = .agg Qb
  | 1, _, v => v = vm
  | 2, _, v => v = vx
  | 3, w, v => ∃ out, Ints w v out ∧ Rising out ∧ ∀ y, y ∈ out ↔ y ∈ Y
  | 4, _, v => v = .bool B
  | 5, _, v => v = .bool (!B)
  | _, _, _ => True
theorem spS_below {Qb : Array Value} {vm vx : Value} {Y : List Int} {B : Bool} : ∀ i (w w' : World) v, i < 6 → Below w.heap.size w w' → spS Qb vm vx Y B i w v → spS Qb vm vx Y B i w' v
  | 0, _, _, _, _, _, h => h
  | 1, _, _, _, _, _, h => h
  | 2, _, _, _, _, _, h => h
  | 3, _, _, _, _, hB, h => by obtain ⟨out, h1, h2⟩ := h; exact ⟨out, h1.below hB, h2⟩
  | 4, _, _, _, _, _, h => h
  | 5, _, _, _, _, _, h => h
  | k + 6, _, _, _, hk, _, _ => absurd hk (by omega)
theorem takes_out {q : List (List Int)} {ht : Int → Int} {x out : List Int} (ho : Rising out) (hm : ∀ y, y ∈ out ↔ y ∈ x.map ht) : out ∈ q ↔ takesP q ht x := by
  constructor
  · exact fun h => ⟨out, h, ho, hm⟩
  · rintro ⟨s, h1, h2, h3⟩
    rw [rising_one ho h2 fun y => (hm y).trans (h3 y).symm]
    exact h1
/-- What open answers. -/
def MapOpens (a : Nat → Addr) (f : List Int) (q L : List (List Int)) (ht : Int → Int) (F : Nat → Int) (w : World) (e : Ending) (w' : World) : Prop :=
  Below w.heap.size w w' ∧ (
    (∃ i : Nat, (i < f.length ∧ [f[i]?.getD 0] ∉ q ∧ ∀ j, j < i → [f[j]?.getD 0] ∈ q) ∧ ∃ ve, e = .returned (.tuple #[.agg map0.toArray, ve]) ∧ FaultAt a w' ve 3 i) ∨
    ((∀ j, j < f.length → [f[j]?.getD 0] ∈ q) ∧ (
      (∃ i : Nat, (i < L.length ∧ ¬ takesP q ht (L[i]?.getD []) ∧ ∀ j, j < i → takesP q ht (L[j]?.getD [])) ∧ ∃ ve, e = .returned (.tuple #[.agg map0.toArray, ve]) ∧ FaultAt a w' ve 6 i) ∨
      ((∀ j, j < L.length → takesP q ht (L[j]?.getD [])) ∧ ∃ v, e = .returned (.tuple #[v, .nilIface]) ∧ MapIs w.heap.size w' v F L))))

set_option maxRecDepth 100000 in
set_option maxHeartbeats 8000000 in
theorem mopen_good {a : Nat → Addr} {s : Nat → ByteArray} {p q : List (List Int)} (va vb vf : Value) (la lb : List (List Int)) (f : List Int) (w : World) (hE : Errs a s w) (hla : Rows w va la) (hlla : la.length ≤ 100000) (hlea : ∀ x ∈ la, x.length ≤ 1000) (hg : Good la p)
    (hlb : Rows w vb lb) (hllb : lb.length ≤ 100000) (hleb : ∀ x ∈ lb, x.length ≤ 1000) (hgb : Good lb q) (hf : Ints w vf f) (hfl : f.length ≤ 1000) (hne : f.length = (vertI p).length) :
    Calls Tryz.prog 45 #[.agg #[va], .agg #[vb], vf] w fun e w' => MapOpens a f q (allSh p) (hgt (vertI p) f) (fun k => hiF (vertI p) f (k : Int)) w e w' := by
  have hf0 := hf
  obtain ⟨af, cf, rfl, -, -⟩ := hf.open_
  have HFC : Hid (∀ k, k < f.length → ∃ b o, af = some ⟨b, o, none⟩ ∧ b < w.heap.size ∧ w.cell? ⟨b, o + k, none⟩ = some (.int .i64 (f[k]?.getD 0))) := ints_cells hf0
  have HCAP : Hid (f.length ≤ cf) := by
    obtain ⟨a1, c1, e1, h1, -⟩ := hf0.open_
    cases e1; exact h1.1
  have HQO : Hid (Order q ∧ q.length ≤ 600) := ⟨hgb.isAll.order, hgb.length⟩
  obtain ⟨hz, hsz⟩ := zero_of_info (P := Tryz.prog) (t := 83) (v := .agg map0.toArray) (n := 101) (by kernel_rfl)
  obtain ⟨w1, hw1, hB1, hc1, hc2, hm1, hs1⟩ := mopen_start w va vb
  have HSA : Hid (∀ W, Below w.heap.size w W → Calls Tryz.prog 29 #[.agg #[va]] W fun e w' => ∃ Q, e = .returned (.tuple #[.agg Q, .nilIface]) ∧ (Q.size = 7 ∧ ∀ u ∈ Q.toList, u.oneCell' = true) ∧ ShpIn (fun b => W.heap.size ≤ b) w' (.agg Q) p ∧ Below W.heap.size W w') := fun W hB =>
    (shape_own va la p W (hE.below hB) (hla.below hB) hlla hlea hg).mono fun e w' ⟨v, h1, h2, h3⟩ => by
      obtain ⟨Q, rfl, h4, h5⟩ := h2.cells
      exact ⟨Q, h1, ⟨h4, h5⟩, h2, h3⟩
  have HSB : Hid (∀ W, Below w.heap.size w W → Calls Tryz.prog 29 #[.agg #[vb]] W fun e w' => ∃ Q, e = .returned (.tuple #[.agg Q, .nilIface]) ∧ (Q.size = 7 ∧ ∀ u ∈ Q.toList, u.oneCell' = true) ∧ ShpIn anyBlock w' (.agg Q) q ∧ Below W.heap.size W w') := fun W hB =>
    (shape_good vb lb q W (hE.below hB) (hlb.below hB) hllb hleb hgb).mono fun e w' ⟨v, h1, h2, h3⟩ => by
      obtain ⟨Q, rfl, h4, h5⟩ := h2.cells
      exact ⟨Q, h1, ⟨h4, h5⟩, h2, h3⟩
  have HB1 := Hid.mk' hB1
  have HM1 := Hid.mk' hm1
  have HC2 : Hid (w1.cell? ⟨w.heap.size + 1, 0, none⟩ = some vb) := hc2
  have HE : Hid (Errs a s w) := hE
  have HF0 : Hid (Ints w (.slice af f.length cf) f) := hf0
  have HGA : Hid (Good la p) := hg
  have HXL : Hid (∀ x ∈ allSh p, x ≠ [] ∧ x.length ≤ 7 ∧ (∀ v ∈ x, 0 ≤ v ∧ v ≤ 99) ∧ Rising x) := fun x hx => by
    have hx' := ((allSh_perm (all := p) fun x hx => ⟨List.length_pos_iff.2 (face_ok_of HGA.out hx).1.1, HGA.out.short x hx⟩).mem_iff).1 hx
    refine ⟨(face_ok_of HGA.out hx').1.1, HGA.out.short x hx', fun v hv' => verts_in HGA.out v ?_, HGA.out.rising x hx'⟩
    exact vertI_mem.2 (HGA.out.sub hx' (List.singleton_sublist.2 hv') (by simp))
  have HL6 : Hid ((allSh p).length ≤ 600) := by
    show _ ≤ _
    have := (allSh_perm (all := p) fun x hx => ⟨List.length_pos_iff.2 (face_ok_of HGA.out hx).1.1, HGA.out.short x hx⟩).length_eq
    have := HGA.out.length
    omega
  obtain ⟨F, hF⟩ : ∃ F : Nat → Int, (fun k : Nat => hiF (vertI p) f (k : Int)) = F := ⟨_, rfl⟩
  have HFF := Hid.mk' hF
  rw [hF]
  obtain ⟨L, hL⟩ : ∃ L, allSh p = L := ⟨_, rfl⟩
  have HLL := Hid.mk' hL
  rw [hL] at HL6 HXL ⊢
  obtain ⟨ht, hht⟩ : ∃ ht, hgt (vertI p) f = ht := ⟨_, rfl⟩
  have HHT := Hid.mk' hht
  rw [hht]
  have HFT : Hid ((fun v : Int => F v.toNat) = ht) := by
    show _ = _
    rw [← HFF.out, ← HHT.out]; rfl
  clear hE hlb hllb hleb hgb hB1 hm1 hla hlla hlea hg hc2 hf hf0 hF hL hht
  go_enter Tryz.func45, Tryz.ntmps45
  go_wp2_with fail
  refine (HSA.out _ HB1.out).mono ?_
  rintro e V ⟨Qa, rfl, ⟨ha7, ha1⟩, hpa, hV⟩
  obtain ⟨W3, hst, hBV, hs8⟩ := sh_boxed (V := V) ha7 ha1
  have HM3 : Hid (MapgAt (w.heap.size + 1 + 1) W3 (.slice none 0 0) fun _ => 0) := (HM1.out.below hV).below hBV
  have HB3 : Hid (Below w.heap.size w W3) := (HB1.out.trans (hV.mono HB1.out.size)).trans (hBV.mono (HB1.out.trans (hV.mono HB1.out.size)).size)
  have c3 : W3.cell? ⟨w.heap.size + 1, 0, none⟩ = some vb := (hBV.cell (p := ⟨w.heap.size + 1, 0, none⟩) (Nat.lt_of_lt_of_le (cell_lt HC2.out) hV.size)).trans ((hV.cell (p := ⟨w.heap.size + 1, 0, none⟩) (cell_lt HC2.out)).trans HC2.out)
  have HPA : Hid (ShpIn (fun b => w.heap.size + 1 + 1 < b) W3 (.agg Qa) p ∧ ShBox V.heap.size W3 Qa) := ⟨(hpa.below hBV).mono fun b _ hb => by omega, hs8⟩
  obtain ⟨b8, hb8⟩ : ∃ b8, V.heap.size = b8 := ⟨_, rfl⟩
  have H8 : Hid (w.heap.size + 1 + 1 < b8) := by
    show _ < _
    rw [← hb8]
    have := HM1.out.lt
    have := hV.size
    omega
  rw [hb8] at HPA hst
  clear hV hBV HM1 HB1 HSA hc1 hw1 hs1 hs8 hpa
  go_wp2_with fail
  refine (HSB.out _ HB3.out).mono ?_
  rintro e V2 ⟨Qb, rfl, ⟨hb7, hb1⟩, hpb, hV⟩
  obtain ⟨W5, hst5, hBV, hs10⟩ := sh_boxed (V := V2) hb7 hb1
  have HMO : Hid (MOp (w.heap.size + 1 + 1) b8 V2.heap.size Qa Qb p q w W5) := ⟨(HM3.out.below hV).below hBV, (HPA.out.2.below hV).below hBV, hs10, (HPA.out.1.below hV).below hBV, hpb.below hBV, (HB3.out.trans (hV.mono HB3.out.size)).trans (hBV.mono (HB3.out.trans (hV.mono HB3.out.size)).size)⟩
  obtain ⟨b10, hb10⟩ : ∃ b10, V2.heap.size = b10 := ⟨_, rfl⟩
  have H10 : Hid (b8 < b10) := by
    show _ < _
    rw [← hb10]
    have := HPA.out.2.lt
    have := hV.size
    omega
  have HL7 : Hid (Qa.size = 7 ∧ Qb.size = 7) := ⟨ha7, hb7⟩
  rw [hb10] at HMO hst5
  obtain ⟨q0, q1, q2, q3, q4, q5, q6, rfl⟩ := seven_of ha7
  obtain ⟨x0, x1, x2, x3, x4, x5, x6⟩ := HMO.out.s8.cells
  have hvt := HMO.out.pa.verts
  clear hV hBV HM3 HB3 HSB c3 hst hb8 hs10 hpb HPA hb1 ha1
  go_wp2_with fail
  refine (hvt W5).mono ?_
  rintro e W7 ⟨a0, c0, rfl, hV⟩
  have HM7 := Hid.mk' (HMO.out.below hV)
  clear hV HMO hb10 hb7 hst5 hvt x0 x1 x2 x3 x4 x5 x6
  obtain ⟨b6, hb6⟩ : ∃ b6, w.heap.size + 1 + 1 = b6 := ⟨_, rfl⟩
  rw [hb6] at HM7 H8 ⊢
  have HB6 : Hid (w.heap.size + 1 + 1 = b6) := hb6
  have HNE := Hid.mk' hne
  rw [← hne]
  obtain ⟨n, hn⟩ : ∃ n, f.length = n := ⟨_, rfl⟩
  rw [hn] at hfl HFC HCAP ⊢
  have HN := Hid.mk' hn
  clear hn hne hb6
  go_wp2_with fail
  go_loopw [43] (fun x W => ∃ i : Nat, i ≤ n ∧ x = .int .i64 i ∧ Hid (MOp b6 b8 b10 #[q0, q1, q2, q3, q4, q5, q6] Qb p q w W ∧ ∀ j, j < i → [f[j]?.getD 0] ∈ q)) (fun x _ => n - (intOf x).toNat)
  case atStart => exact ⟨0, by omega, rfl, HM7.out, fun j hj => by omega⟩
  case round =>
    obtain ⟨i, hi, rfl, HK⟩ := hrel
    by_cases hlt : i < n
    · obtain ⟨bf, off, rfl, hbf, hfc⟩ := HFC.out i hlt
      have hcap := HCAP.out
      have hcall : ∀ k : WIn wr, Calls Tryz.prog 73 #[.agg Qb, .slice (some ⟨bf, off + i, none⟩) 1 (cf - i)] k.w fun e w'' => e = .returned (.bool (decide ([f[i]?.getD 0] ∈ q))) ∧ ∃ k : WIn wr, w'' = k.w := fun k =>
        call_in k (has_ (.agg Qb) _ q [f[i]?.getD 0] k.w HQO.out.1 HQO.out.2 (HK.out.1.pb.below k.ok) (by
          refine ⟨some ⟨bf, off + i, none⟩, cf - i, by simp, ⟨by simp; omega, fun h => by cases h⟩, fun _ => ⟨bf, off + i, rfl, trivial, fun j u hu => ?_⟩⟩
          have hj : j = 0 := by
            rcases Nat.eq_zero_or_pos j with h | h
            · exact h
            · rw [List.getElem?_eq_none (by simp; omega)] at hu; cases hu
          subst hj
          simp at hu
          rw [← hu, Nat.add_zero]
          exact ((HK.out.1.bel.trans (k.ok.mono HK.out.1.bel.size)).cell (p := ⟨bf, off + i, none⟩) hbf).trans hfc) (by simp) (by simp))
      have hB7 := HL7.out.2
      obtain ⟨r0, r1, r2, r3, r4, r5, r6, hQb⟩ := seven_of hB7
      have HQB : Hid (Qb = #[r0, r1, r2, r3, r4, r5, r6]) := hQb
      have y : ∀ k : WIn wr, k.w.cell? ⟨b10, 0, none⟩ = some r0 ∧ k.w.cell? ⟨b10, 1, none⟩ = some r1 ∧ k.w.cell? ⟨b10, 2, none⟩ = some r2 ∧ k.w.cell? ⟨b10, 3, none⟩ = some r3 ∧ k.w.cell? ⟨b10, 4, none⟩ = some r4 ∧ k.w.cell? ⟨b10, 5, none⟩ = some r5 ∧ k.w.cell? ⟨b10, 6, none⟩ = some r6 := fun k => by
        have := HK.out.1.s10.below k.ok
        rw [hQb] at this
        exact this.cells
      rw [hQb] at hcall
      have y0 := fun k => (y k).1
      have y1 := fun k => (y k).2.1
      have y2 := fun k => (y k).2.2.1
      have y3 := fun k => (y k).2.2.2.1
      have y4 := fun k => (y k).2.2.2.2.1
      have y5 := fun k => (y k).2.2.2.2.2.1
      have y6 := fun k => (y k).2.2.2.2.2.2
      clear y hfc
      go_wp2_with fail
      refine region_in (by kernel_rfl) (by kernel_rfl) ?_
      repeat (go_big_quiet_step (exact hcall _))
      refine wpQuiet_nil ?_
      rintro _ ⟨nq, rfl⟩
      have HV := Hid.mk' (HK.out.1.below nq.ok)
      have HKJ : Hid (∀ j, j < i → [f[j]?.getD 0] ∈ q) := HK.out.2
      obtain ⟨W8, hW8⟩ : ∃ W8, nq.w = W8 := ⟨_, rfl⟩
      rw [hW8] at HV ⊢
      clear hcall y0 y1 y2 y3 y4 y5 y6 hW8 HK
      by_cases hin : [f[i]?.getD 0] ∈ q
      · have HIN := Hid.mk' hin
        rw [decide_eq_true hin]
        clear hin
        go_wp2_with fail
        go_roundw
        case rel => exact ⟨i + 1, by omega, by go_num, HV.out, fun j hj => by
          by_cases e : j = i
          · subst e; exact HIN.out
          · exact HKJ.out j (by omega)⟩
        case measure => simp [intOf]; omega
      · have HIN := Hid.mk' hin
        rw [decide_eq_false hin]
        have hml : map0.length = 101 := mapC_len _ _
        have gE : W8.cell? ⟨4, 0, none⟩ = some (.iface 233 (.pointer (some (a 3)))) := (HE.out.below HV.out.bel).glob 3 (by decide)
        have gE2 : (W8.alloc (.cells #[.int .i64 (i : Int), .iface 233 (.pointer (some (a 3)))] 95)).drew.cell? ⟨4, 0, none⟩ = some (.iface 233 (.pointer (some (a 3)))) := by
          exact (World.cell?_alloc_lt W8 _ ⟨4, 0, none⟩ (by exact cell_lt gE)).trans gE
        have hsm : (Go.storeCells ⟨b6, 0, none⟩ map0).run Tryz.prog W8.drew = .ok () W8.drew := (HV.out.m6.below (Below.refl _ W8).drew).storeSame
        have hsm2 : (Go.storeCells ⟨b6, 0, none⟩ map0).run Tryz.prog (W8.alloc (.cells #[.int .i64 (i : Int), .iface 233 (.pointer (some (a 3)))] 95)).drew = .ok () (W8.alloc (.cells #[.int .i64 (i : Int), .iface 233 (.pointer (some (a 3)))] 95)).drew := (HV.out.m6.below ((Below.refl _ W8).alloc (Nat.le_refl _) _).drew).storeSame
        clear hin
        go_wp2_with fail
        have hld : (loadVar 83 ⟨b6, 0, none⟩).run Tryz.prog (W8.alloc (.cells #[.int .i64 (i : Int), .iface 233 (.pointer (some (a 3)))] 95)).drew = .ok (.agg map0.toArray) (W8.alloc (.cells #[.int .i64 (i : Int), .iface 233 (.pointer (some (a 3)))] 95)).drew := (HV.out.m6.below ((Below.refl _ W8).alloc (Nat.le_refl _) _).drew).load
        have hend : MapOpens a f q L ht F w (.returned (.tuple #[.agg map0.toArray, .iface 93 (.pointer (some ⟨W8.heap.size, 0, none⟩))])) (W8.alloc (.cells #[.int .i64 (i : Int), .iface 233 (.pointer (some (a 3)))] 95)).drew := by
          have hfc := fault_cells W8 (.int .i64 (i : Int)) (.iface 233 (.pointer (some (a 3)))) 95
          exact ⟨(HV.out.bel.alloc HV.out.bel.size _).drew, .inl ⟨i, ⟨by rw [HN.out]; exact hlt, HIN.out, HKJ.out⟩, _, rfl, _, rfl, hfc.1, hfc.2⟩⟩
        go_region
        all_goals
          go_wp2_with fail
          refine bodyPost_ret (v := .tuple #[.agg map0.toArray, .iface 93 (.pointer (some ⟨W8.heap.size, 0, none⟩))]) ?_ rfl hend
          rw [results_cell_tmp rfl]
          simp [asAddr, Result.andThen, hld]
    · obtain rfl : i = n := by omega
      have HAL : Hid (∀ j, j < i → [f[j]?.getD 0] ∈ q) := HK.out.2
      have HX := Hid.mk' HK.out.1
      clear HK
      go_wp2_with fail
      refine region_grow (by kernel_rfl) 7 rfl dstM (spM b6 wr.heap.size #[q0, q1, q2, q3, q4, q5, q6] (.slice af i cf) F L) dstM_inj (fun i hi => by simp; unfold dstM; split <;> omega) spM_below (by decide +kernel) (by decide +kernel) (fun j hj Z ac w9 hG hed => ?_) (fun Z ac w9 hG hed => ?_)
      · have HM9 := HX.out.below hG.bel
        have y8 : ac.tmps[8]? = some (.pointer (some ⟨b8, 0, none⟩)) := (hG.oth 8 (fun i hi => by unfold dstM; split <;> omega)).trans rfl
        have y2 : ac.tmps[2]? = some (.slice af i cf) := (hG.oth 2 (fun i hi => by unfold dstM; split <;> omega)).trans rfl
        have hv : ∀ j2, j2 < 7 → j2 ∈ edgesOf _ j → ∃ v, ac.tmps[dstM j2]? = some v ∧ spM b6 wr.heap.size #[q0, q1, q2, q3, q4, q5, q6] (.slice af i cf) F L j2 w9 v := fun j2 h1 h2 => hG.val j2 h1 (hed j2 h2)
        match j, hj with
        | 0, _ => exact op_value rfl rfl (exec_load rfl (eval_tmp y8) (HM9.s8.loadAt ha7)) ⟨_, rfl, rfl, Below.refl _ _⟩
        | 1, _ =>
          obtain ⟨v0, e0, h0⟩ := hv 0 (by omega) (by decide +kernel)
          have z0 : ac.tmps[61]? = some v0 := e0
          obtain rfl : v0 = _ := h0
          have hal := all_is (S := fun b => b6 < b ∧ b < wr.heap.size) _ p w9 ((HX.out.pa.mono (S' := fun b => b6 < b ∧ b < wr.heap.size) fun b hb h => ⟨h, hb⟩).below hG.bel) (by rw [HLL.out]; have := HL6.out; omega)
          rw [HLL.out] at hal
          refine op_call rfl rfl (by unfold execOp; simp [go_sem, Act.eval, z0]) _ hal fun e w' hh => ?_
          obtain ⟨v, rfl, hn, hb⟩ := hh
          exact ⟨v, rfl, v, rfl, hn.base hG.bel.size, hb⟩
        | 2, _ => exact op_value rfl rfl (exec_load rfl (eval_tmp y8) (HM9.s8.loadAt ha7)) ⟨_, rfl, rfl, Below.refl _ _⟩
        | 3, _ => exact op_value rfl rfl (by unfold execOp; simp [go_sem, Act.eval, y2]) ⟨_, rfl, rfl, Below.refl _ _⟩
        | 4, _ =>
          obtain ⟨v2, e2, h2⟩ := hv 2 (by omega) (by decide +kernel)
          have z2 : ac.tmps[63]? = some v2 := e2
          obtain rfl : v2 = _ := h2
          obtain ⟨v3, e3, h3⟩ := hv 3 (by omega) (by decide +kernel)
          have z3 : ac.tmps[64]? = some v3 := e3
          obtain rfl : v3 = _ := h3
          have hnu := HM9.pa.numbered HGA.out (HF0.out.below HM9.bel) HNE.out
          rw [HFF.out, HN.out] at hnu
          refine op_call rfl rfl (by unfold execOp; simp [go_sem, Act.eval, z2, z3]) _ hnu fun e w' hh => ?_
          obtain ⟨rfl, hb⟩ := hh
          exact ⟨_, rfl, _, rfl, rfl, hb⟩
        | 5, _ =>
          obtain ⟨v1, e1, h1⟩ := hv 1 (by omega) (by decide +kernel)
          have z1 : ac.tmps[62]? = some v1 := e1
          obtain ⟨v4, e4, h4⟩ := hv 4 (by omega) (by decide +kernel)
          have z4 : ac.tmps[65]? = some v4 := e4
          obtain rfl : v4 = _ := h4
          have h1' : FacesIs (fun b => b6 < b ∧ b < wr.heap.size) wr.heap.size w9 v1 L := h1
          obtain ⟨au, cu, us, rfl, -⟩ := h1'
          exact op_value rfl rfl (exec_build (vs := #[(0, .slice au L.length cu), (1, .agg (numC F).toArray)]) rfl (by simp [eval_tmp z1, eval_tmp z4]) (built_map _ _ _ _)) ⟨_, rfl, ⟨_, h1, rfl⟩, Below.refl _ _⟩
        | 6, _ => exact op_value rfl rfl (by unfold execOp; simp [go_sem, hz]; rfl) ⟨_, rfl, ⟨w9.heap.size, rfl, hG.bel.size, mapgAt_new w9 _ _⟩, (Below.refl _ w9).alloc (Nat.le_refl _) _⟩
        | k + 7, hk => exact absurd hk (by omega)
      · obtain ⟨v0, e0, h0⟩ := hG.val 0 (by omega) (back_listed hG.down 7 hed 0 (by decide +kernel))
        obtain ⟨v1, e1, h1⟩ := hG.val 1 (by omega) (back_listed hG.down 7 hed 1 (by decide +kernel))
        obtain ⟨v2, e2, h2⟩ := hG.val 2 (by omega) (back_listed hG.down 7 hed 2 (by decide +kernel))
        obtain ⟨v3, e3, h3⟩ := hG.val 3 (by omega) (back_listed hG.down 7 hed 3 (by decide +kernel))
        obtain ⟨v4, e4, h4⟩ := hG.val 4 (by omega) (back_listed hG.down 7 hed 4 (by decide +kernel))
        obtain ⟨v5, e5, h5⟩ := hG.val 5 (by omega) (back_listed hG.down 7 hed 5 (by decide +kernel))
        obtain ⟨v6, e6, h6⟩ := hG.val 6 (by omega) (back_listed hG.down 7 hed 6 (by decide +kernel))
        obtain ⟨u, hfu, rfl⟩ := h5
        obtain ⟨g, rfl, hgB, hgm⟩ := h6
        obtain ⟨au, cu, us, rfl, how, hhe⟩ := hfu
        have hfu : FacesIs (fun b => b6 < b ∧ b < wr.heap.size) wr.heap.size w9 (.slice au L.length cu) L := ⟨au, cu, us, rfl, how, hhe⟩
        have z12 : ac.tmps[12]? = some (.pointer (some ⟨g, 0, none⟩)) := e6
        have z66 : ac.tmps[66]? = some (.agg (mapC (.slice au L.length cu) F).toArray) := e5
        have hap := hfu.apart hgm
        have hfo := hfu.other (g := g) (w' := w9.setRow g (mapC (.slice au L.length cu) F).toArray) grown_row (fun k hk => setRow_other _ _ _ _ hk) (by omega) hap
        have hgm2 := hgm.setRow (.slice au L.length cu) F
        have HM9 := HX.out.below hG.bel
        have hbB : b6 < wr.heap.size ∧ b8 < wr.heap.size ∧ b10 < wr.heap.size := ⟨HX.out.m6.lt, HX.out.s8.lt, HX.out.s10.lt⟩
        have hBx : Below wr.heap.size wr (w9.setRow g (mapC (.slice au L.length cu) F).toArray) := below_setRow hG.bel hgB
        have HMX := Hid.mk' (HX.out.below hBx)
        have HFX := Hid.mk' (And.intro hfo hgm2)
        have hact := act_puts hG.asz hG.dfr [(61, v0), (62, v1), (63, v2), (64, v3), (65, v4), (66, .agg (mapC (.slice au L.length cu) F).toArray), (12, .pointer (some ⟨g, 0, none⟩))] (by
          intro pr hpr
          simp only [List.mem_cons, List.not_mem_nil, or_false] at hpr
          rcases hpr with rfl | rfl | rfl | rfl | rfl | rfl | rfl
          · exact e0
          · exact e1
          · exact e2
          · exact e3
          · exact e4
          · exact z66
          · exact z12) (fun k hk => hG.oth k fun i hi => by
            have h61 := hk (61, v0) (by simp)
            have h62 := hk (62, v1) (by simp)
            have h63 := hk (63, v2) (by simp)
            have h64 := hk (64, v3) (by simp)
            have h65 := hk (65, v4) (by simp)
            have h66 := hk (66, .agg (mapC (.slice au L.length cu) F).toArray) (by simp)
            have h12 := hk (12, .pointer (some ⟨g, 0, none⟩)) (by simp)
            simp only at h61 h62 h63 h64 h65 h66 h12
            unfold dstM
            split <;> omega)
        refine op_skip rfl rfl (exec_store rfl (eval_tmp z12) (eval_tmp z66) (hgm.storeAt au L.length cu F)) ?_
        simp only [List.foldl_cons, List.foldl_nil, List.setIfInBounds_toArray, List.set_cons_succ, List.set_cons_zero] at hact
        rename_i hK
        refine hK _ _ ?_
        rw [hact]
        obtain ⟨X9, hX9⟩ : ∃ X9, w9.setRow g (mapC (.slice au L.length cu) F).toArray = X9 := ⟨_, rfl⟩
        rw [hX9] at HMX HFX ⊢
        have HGB : Hid (b10 < g) := by show _ < _; omega
        have c0 := HFX.out.2.face
        obtain ⟨nL, hnL⟩ : ∃ nL, L.length = nL := ⟨_, rfl⟩
        have HNL := Hid.mk' hnL
        rw [hnL] at c0 HFX HL6 ⊢
        clear hact hK hG hed e0 e1 e2 e3 e4 e6 h0 h1 h2 h3 h4 how hhe hfu z12 z66 hap hfo hgm hgm2 HM9 hbB hBx hX9 hgB hnL e5
        generalize wr = Wm at *
        go_wp2_with fail
        go_loopw [70] (fun x W => ∃ k : Nat, k ≤ nL ∧ x = .int .i64 k ∧ Hid (MOp b6 b8 b10 #[q0, q1, q2, q3, q4, q5, q6] Qb p q w W ∧ MapgAt g W (.slice au nL cu) F ∧ FacesIs (fun b => b6 < b ∧ b < Wm.heap.size) Wm.heap.size W (.slice au nL cu) L ∧ ∀ j, j < k → takesP q ht (L[j]?.getD []))) (fun x _ => nL - (intOf x).toNat)
        case atStart => exact ⟨0, by omega, rfl, HMX.out, HFX.out.2, HFX.out.1, fun j hj => by omega⟩
        case round =>
          obtain ⟨k, hk, rfl, HK⟩ := hrel
          by_cases hkn : k < nL
          · obtain ⟨bF, oF, ax, cx, hau, hbF, hcell, hix⟩ := rows_heads (L := L) (by rw [HNL.out]; exact HK.out.2.2.1.rows) k (by rw [HNL.out]; exact hkn)
            subst hau
            have hxm : L[k]?.getD [] ∈ L := by rw [List.getElem?_eq_getElem (by rw [HNL.out]; exact hkn)]; exact List.getElem_mem _
            have HXK := Hid.mk' (HXL.out _ hxm)
            obtain ⟨x, hx⟩ : ∃ x, L[k]?.getD [] = x := ⟨_, rfl⟩
            have HXE := Hid.mk' hx
            rw [hx] at hcell hix HXK
            obtain ⟨B, hB⟩ : ∃ B : Bool, (B = true ↔ takesP q ht x) := by
              by_cases h : takesP q ht x
              · exact ⟨true, by simp [h]⟩
              · exact ⟨false, by simp [h]⟩
            have HBB := Hid.mk' hB
            have HIX : Hid (Ints wr (.slice ax x.length cx) x) := hix
            obtain ⟨m, hm⟩ : ∃ m, x.length = m := ⟨_, rfl⟩
            have HM := Hid.mk' hm
            rw [hm] at hcell HIX
            clear hx hix hxm hB hm
            go_wp2_with fail
            refine region_grow0 (by kernel_rfl) 5 rfl (fun i => 75 + i) (spS Qb (.agg (mapC (.slice (some ⟨bF, oF, none⟩) nL cu) F).toArray) (.slice ax m cx) (x.map ht) B) (fun i j _ _ h => by omega) (fun i hi => by simp; omega) spS_below (by decide +kernel) (fun j hj Z ac w9 hG hed => ?_) (fun Z ac w9 hG hall => ?_)
            · have HM9 := HK.out.1.below hG.bel
              have hg9 := HK.out.2.1.below hG.bel
              have y10 : ac.tmps[10]? = some (.pointer (some ⟨b10, 0, none⟩)) := (hG.oth 10 (fun i hi => by omega)).trans rfl
              have y12 : ac.tmps[12]? = some (.pointer (some ⟨g, 0, none⟩)) := (hG.oth 12 (fun i hi => by omega)).trans rfl
              have y14 : ac.tmps[14]? = some (.slice ax m cx) := (hG.oth 14 (fun i hi => by omega)).trans rfl
              have hv : ∀ j2, j2 < 6 → j2 ∈ edgesOf _ j → ∃ v, ac.tmps[75 + j2]? = some v ∧ spS Qb (.agg (mapC (.slice (some ⟨bF, oF, none⟩) nL cu) F).toArray) (.slice ax m cx) (x.map ht) B j2 w9 v := fun j2 h1 h2 => hG.val j2 h1 (hed j2 h2)
              match j, hj with
              | 0, _ => exact op_value rfl rfl (exec_load rfl (eval_tmp y10) (HM9.s10.loadAt HL7.out.2)) ⟨_, rfl, rfl, Below.refl _ _⟩
              | 1, _ => exact op_value rfl rfl (exec_load rfl (eval_tmp y12) hg9.loadAt) ⟨_, rfl, rfl, Below.refl _ _⟩
              | 2, _ => exact op_value rfl rfl (by unfold execOp; simp [go_sem, Act.eval, y14]) ⟨_, rfl, rfl, Below.refl _ _⟩
              | 3, _ =>
                obtain ⟨v1, e1, h1⟩ := hv 1 (by omega) (by decide +kernel)
                have z1 : ac.tmps[76]? = some v1 := e1
                obtain rfl : v1 = _ := h1
                obtain ⟨v2, e2, h2⟩ := hv 2 (by omega) (by decide +kernel)
                have z2 : ac.tmps[77]? = some v2 := e2
                obtain rfl : v2 = _ := h2
                have hse := set_ (.slice (some ⟨bF, oF, none⟩) nL cu) F _ x w9 (HIX.out.below hG.bel) HXK.out.2.1 HXK.out.1 HXK.out.2.2.1
                rw [HFT.out] at hse
                refine op_call rfl rfl (by unfold execOp; simp [go_sem, Act.eval, z1, z2]) _ hse fun e w' hh => ?_
                obtain ⟨v, out, rfl, h3, h4, h5, hb⟩ := hh
                exact ⟨v, rfl, v, rfl, ⟨out, h3.mono fun _ _ _ => trivial, h4, h5⟩, hb⟩
              | 4, _ =>
                obtain ⟨v0, e0, h0⟩ := hv 0 (by omega) (by decide +kernel)
                have z0 : ac.tmps[75]? = some v0 := e0
                obtain rfl : v0 = _ := h0
                obtain ⟨v3, e3, h3⟩ := hv 3 (by omega) (by decide +kernel)
                have z3 : ac.tmps[78]? = some v3 := e3
                obtain ⟨out, ho1, ho2, ho3⟩ := h3
                have hol : out.length ≤ x.length := by
                  have := nodup_le (rising_nodup ho2) (Y := x.map ht) fun u hu => (ho3 u).1 hu
                  simpa using this
                have hpos : 0 < out.length := by
                  obtain ⟨y, hy⟩ := List.exists_mem_of_ne_nil x HXK.out.1
                  exact List.length_pos_iff.2 (List.ne_nil_of_mem ((ho3 (ht y)).2 (List.mem_map_of_mem hy)))
                have hha := has_ (.agg Qb) v3 q out w9 HQO.out.1 HQO.out.2 HM9.pb ho1 hpos (by have := HXK.out.2.1; omega)
                have hBe : decide (out ∈ q) = B := by
                  rw [Bool.eq_iff_iff, decide_eq_true_iff, HBB.out]
                  exact takes_out ho2 ho3
                rw [hBe] at hha
                refine op_call rfl rfl (by unfold execOp; simp [go_sem, Act.eval, z0, z3]) _ hha fun e w' hh => ?_
                obtain ⟨rfl, hb⟩ := hh
                exact ⟨_, rfl, _, rfl, rfl, hb⟩
              | 5, _ =>
                obtain ⟨v4, e4, h4⟩ := hv 4 (by omega) (by decide +kernel)
                have z4 : ac.tmps[79]? = some v4 := e4
                obtain rfl : v4 = _ := h4
                exact op_value rfl rfl (by unfold execOp; simp [go_sem, Act.eval, z4]) ⟨_, rfl, rfl, Below.refl _ _⟩
              | k + 6, hk => exact absurd hk (by omega)
            · obtain ⟨v0, e0, h0⟩ := hall 0 (by omega)
              obtain ⟨v1, e1, h1⟩ := hall 1 (by omega)
              obtain ⟨v2, e2, h2⟩ := hall 2 (by omega)
              obtain ⟨v3, e3, h3⟩ := hall 3 (by omega)
              obtain ⟨v4, e4, h4⟩ := hall 4 (by omega)
              obtain ⟨v5, e5, h5⟩ := hall 5 (by omega)
              obtain rfl : v5 = _ := h5
              have hact := act_puts hG.asz hG.dfr [(75, v0), (76, v1), (77, v2), (78, v3), (79, v4), (80, .bool (!B))] (by
                intro pr hpr
                simp only [List.mem_cons, List.not_mem_nil, or_false] at hpr
                rcases hpr with rfl | rfl | rfl | rfl | rfl | rfl
                · exact e0
                · exact e1
                · exact e2
                · exact e3
                · exact e4
                · exact e5) (fun k hk => hG.oth k fun i hi => by
                  have h75 := hk (75, v0) (by simp)
                  have h76 := hk (76, v1) (by simp)
                  have h77 := hk (77, v2) (by simp)
                  have h78 := hk (78, v3) (by simp)
                  have h79 := hk (79, v4) (by simp)
                  have h80 := hk (80, .bool (!B)) (by simp)
                  simp only at h75 h76 h77 h78 h79 h80
                  omega)
              simp only [List.foldl_cons, List.foldl_nil, List.setIfInBounds_toArray, List.set_cons_succ, List.set_cons_zero] at hact
              have HW := Hid.mk' (HK.out.1.below hG.bel)
              have HGW := Hid.mk' (And.intro (HK.out.2.1.below hG.bel) (HK.out.2.2.1.below hG.bel))
              have HKJ : Hid (∀ j, j < k → takesP q ht (L[j]?.getD [])) := HK.out.2.2.2
              rename_i hK
              refine hK _ _ ?_
              rw [hact]
              clear hact hK hG hall e0 e1 e2 e3 e4 e5 h0 h1 h2 h3 h4 HIX hcell HK
              cases B
              · simp only [Bool.not_false]
                have hml : map0.length = 101 := mapC_len _ _
                have gE : w9.cell? ⟨2, 0, none⟩ = some (.iface 233 (.pointer (some (a 6)))) := (HE.out.below HW.out.bel).glob 6 (by decide)
                have gE2 : (w9.alloc (.cells #[.int .i64 (k : Int), .iface 233 (.pointer (some (a 6)))] 95)).drew.cell? ⟨2, 0, none⟩ = some (.iface 233 (.pointer (some (a 6)))) := by
                  exact (World.cell?_alloc_lt w9 _ ⟨2, 0, none⟩ (by exact cell_lt gE)).trans gE
                have hsm : (Go.storeCells ⟨b6, 0, none⟩ map0).run Tryz.prog w9.drew = .ok () w9.drew := (HW.out.m6.below (Below.refl _ w9).drew).storeSame
                have hsm2 : (Go.storeCells ⟨b6, 0, none⟩ map0).run Tryz.prog (w9.alloc (.cells #[.int .i64 (k : Int), .iface 233 (.pointer (some (a 6)))] 95)).drew = .ok () (w9.alloc (.cells #[.int .i64 (k : Int), .iface 233 (.pointer (some (a 6)))] 95)).drew := (HW.out.m6.below ((Below.refl _ w9).alloc (Nat.le_refl _) _).drew).storeSame
                have hld : (loadVar 83 ⟨b6, 0, none⟩).run Tryz.prog (w9.alloc (.cells #[.int .i64 (k : Int), .iface 233 (.pointer (some (a 6)))] 95)).drew = .ok (.agg map0.toArray) (w9.alloc (.cells #[.int .i64 (k : Int), .iface 233 (.pointer (some (a 6)))] 95)).drew := (HW.out.m6.below ((Below.refl _ w9).alloc (Nat.le_refl _) _).drew).load
                have hend : MapOpens a f q L ht F w (.returned (.tuple #[.agg map0.toArray, .iface 93 (.pointer (some ⟨w9.heap.size, 0, none⟩))])) (w9.alloc (.cells #[.int .i64 (k : Int), .iface 233 (.pointer (some (a 6)))] 95)).drew := by
                  have hfc := fault_cells w9 (.int .i64 (k : Int)) (.iface 233 (.pointer (some (a 6)))) 95
                  refine ⟨(HW.out.bel.alloc HW.out.bel.size _).drew, .inr ⟨fun j hj => HAL.out j (by rw [← HN.out]; exact hj), .inl ⟨k, ⟨by rw [HNL.out]; exact hkn, ?_, HKJ.out⟩, _, rfl, _, rfl, hfc.1, hfc.2⟩⟩⟩
                  rw [HXE.out]
                  exact fun h => by have := HBB.out.2 h; cases this
                go_wp2_with fail
                go_region
                all_goals
                  go_wp2_with fail
                  refine bodyPost_ret (v := .tuple #[.agg map0.toArray, .iface 93 (.pointer (some ⟨w9.heap.size, 0, none⟩))]) ?_ rfl hend
                  rw [results_cell_tmp rfl]
                  simp [asAddr, Result.andThen, hld]
              · simp only [Bool.not_true]
                have hl6 : nL ≤ 600 := HL6.out
                go_wp2_with fail
                go_roundw
                case rel => exact ⟨k + 1, by omega, by go_num, HW.out, HGW.out.1, HGW.out.2, fun j hj => by
                  by_cases e : j = k
                  · subst e; rw [HXE.out]; exact HBB.out.1 rfl
                  · exact HKJ.out j (by omega)⟩
                case measure => simp [intOf]; omega
          · obtain rfl : k = nL := by omega
            have hml : (mapC (.slice au k cu) F).length = 101 := mapC_len _ _
            have hst := HK.out.1.m6.storeCells au k cu F
            have hm9 := HK.out.1.m6.setRow (.slice au k cu) F
            have hfa := HK.out.2.2.1.other (g := b6) (w' := wr.setRow b6 (mapC (.slice au k cu) F).toArray) grown_row (fun j hj => setRow_other _ _ _ _ hj) (by omega) (HK.out.2.2.1.apart HK.out.1.m6)
            have hend : MapOpens a f q L ht F w (.returned (.tuple #[.agg (mapC (.slice au k cu) F).toArray, .nilIface])) (wr.setRow b6 (mapC (.slice au k cu) F).toArray) := by
              refine ⟨below_setRow HK.out.1.bel (by have := HB6.out; omega), .inr ⟨fun j hj => HAL.out j (by rw [← HN.out]; exact hj), .inr ⟨fun j hj => HK.out.2.2.2 j (by rw [← HNL.out]; exact hj), _, rfl, Wm.heap.size, _, HX.out.bel.size, hfa.mono fun b _ hb => hb.2, rfl⟩⟩⟩
            obtain ⟨W9, hW9⟩ : ∃ W9, wr.setRow b6 (mapC (.slice au k cu) F).toArray = W9 := ⟨_, rfl⟩
            rw [hW9] at hst hm9 hend
            have hld := hm9.load
            clear hfa hW9 hm9
            go_wp2_with fail
            refine wp_load_at rfl rfl HK.out.2.1.loadAt ?_
            go_wp2_with fail
            refine bodyPost_ret (v := .tuple #[.agg (mapC (.slice au k cu) F).toArray, .nilIface]) ?_ rfl hend
            rw [results_cell_tmp rfl]
            simp [asAddr, Result.andThen, hld]

end Go.Proofs.YthmjdfjchhohgaaGreatDoor
