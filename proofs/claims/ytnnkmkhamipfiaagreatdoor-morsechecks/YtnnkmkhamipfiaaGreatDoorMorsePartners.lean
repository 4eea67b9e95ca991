/- What the reference's Partners answers. -/
import Derived.Test.YtnnkmkhamipfiaaGreatDoorMorseCrit
namespace Go.Proofs.YtnnkmkhamipfiaaGreatDoor
open Go.RowKit Go.Sort

theorem two_put {W : World} {B : Nat} (v0 v1 : Value) (h : ∀ j, j < 2 → (W.cell? ⟨B, j, none⟩).isSome = true) :
    ((W.setCell ⟨B, 0, none⟩ v0).setCell ⟨B, 1, none⟩ v1).cell? ⟨B, 0, none⟩ = some v0 ∧ ((W.setCell ⟨B, 0, none⟩ v0).setCell ⟨B, 1, none⟩ v1).cell? ⟨B, 1, none⟩ = some v1 := by
  have ne : (⟨B, 0, none⟩ : Addr) ≠ ⟨B, 1, none⟩ := fun e => by cases e
  refine ⟨?_, World.cell?_setCell_same' _ _ _ ?_⟩
  · rw [World.cell?_setCell_other _ _ _ _ (Ne.symm ne)]
    exact World.cell?_setCell_same' _ _ _ (h 0 (by omega))
  · rw [World.cell?_setCell_other _ _ _ _ ne]
    exact h 1 (by omega)
theorem mate_nonneg {n : Nat} {u : Nat → Nat → Bool} {ps : List Duo} {w : Nat → Int} (h : MateInv n u ps w) (x : Nat) : w x = -1 ∨ 0 ≤ w x := by
  by_cases e : w x = -1
  · exact .inl e
  · obtain ⟨i, p, hp, h1⟩ := h.src x e
    obtain ⟨a, b, rfl, _, _, _, h2, h3⟩ := h.ok i p hp
    simp only at h1
    rcases h1 with h1 | h1
    · have : a = x := by omega
      subst this; exact .inr (by omega)
    · have : b = x := by omega
      subst this; exact .inr (by omega)
def noFault (c p : Int) : Value := .agg #[.int .i64 c, .int .i64 p]
/-- What Partners answers. -/
def PartSays (L : List (List Int)) (ps : List Duo) (w : World) (e : Ending) (w' : World) : Prop :=
  Below w.heap.size w w' ∧
    ((∃ k, ∃ h : k < ps.length, joinsL L (ps.take k) ∧ ¬ canJ L (matesL (ps.take k)) ps[k].1 ps[k].2 ∧ e = .returned (.tuple #[.slice none 0 0, noFault 4 k])) ∨
     (joinsL L ps ∧ (∀ N, ¬ RankedN (OnP (undL L) ps) N) ∧ e = .returned (.tuple #[.slice none 0 0, noFault 7 0])) ∨
     (joinsL L ps ∧ RankedN (OnP (undL L) ps) (ps.length + 1) ∧ ∃ v, e = .returned (.tuple #[v, noFault 0 (-1)]) ∧ WithAt w.heap.size w' v L.length (matesL ps)))

set_option maxRecDepth 100000 in
set_option maxHeartbeats 8000000 in
theorem partners_ {L : List (List Int)} (hF : FaceList L) (vL vp : Value) (ps : List Duo) (w : World) (hL : Rows w vL L) (hp : DuoIn anyBlock w vp ps) (hL6 : L.length ≤ 600) (hps : ps.length ≤ 1000) (hx : ∀ x ∈ L, x.length ≤ 1000) :
    Calls Tryz.prog 10 #[vL, vp] w fun e w' => PartSays L ps w e w' := by
  obtain ⟨i0, hi0, hz0, hz1, hz2⟩ := info_parts Tryz.info3
  have HUN : Hid (∀ (i k : Nat) (W : World), Below w.heap.size w W → i < L.length → k < L.length → Calls Tryz.prog 36 #[vL, .int .i64 (i : Int), .int .i64 (k : Int)] W fun e w' => e = .returned (.bool (undL L i k)) ∧ ∃ q, w' = W.drewN q) := fun i k W hB hi hk => (under_q vL i k W (hL.below hB) hi hk (by omega) hx).mono fun e w' h => ⟨by rw [h.1]; simp [undL, hi], h.2⟩
  have HUL : Hid (∀ x y, undL L x y = true → x < y) := und_less hF
  obtain ⟨aL, cL, rfl, -, -⟩ := hL.open_
  obtain ⟨ap, cp, rfl, hpr⟩ := hp
  have HPR := Hid.mk' hpr
  obtain ⟨n, hn⟩ : ∃ n, L.length = n := ⟨_, rfl⟩
  obtain ⟨m, hm⟩ : ∃ m, ps.length = m := ⟨_, rfl⟩
  have HNM : Hid (L.length = n ∧ ps.length = m) := ⟨hn, hm⟩
  rw [hn] at HUN hL6 ⊢
  rw [hm] at hps ⊢
  clear hL hpr hn hm hx hF
  go_enter Tryz.func10, Tryz.ntmps10
  go_wp2_with fail
  obtain ⟨xb, hxb⟩ : ∃ xb, w.heap.size = xb := ⟨_, rfl⟩
  have hfc := fault_cells w (.int .i64 0) (.int .i64 0) 28
  have hff := fun k => (show (w.alloc (.cells #[.int .i64 0, .int .i64 0] 28)).frozen? ⟨w.heap.size, k, none⟩ = false from by
    have hg : (w.alloc (.cells #[.int .i64 0, .int .i64 0] 28)).heap[w.heap.size]? = some (.cells #[.int .i64 0, .int .i64 0] 28) := (Go.MapKept.heap_alloc w _).1
    simp only [World.frozen?, hg]
    simp)
  have hBX : Below w.heap.size w (w.alloc (.cells #[.int .i64 0, .int .i64 0] 28)) := (Below.refl _ w).alloc (Nat.le_refl _) _
  obtain ⟨X, hX⟩ : ∃ X, w.alloc (.cells #[.int .i64 0, .int .i64 0] 28) = X := ⟨_, rfl⟩
  have hXs : X.heap.size = xb + 1 := by rw [← hX, ← hxb]; simp
  rw [hX] at hfc hff hBX
  rw [hxb] at hfc hff hBX
  try rw [hX]
  try rw [hxb]
  have HXB : Hid (w.heap.size = xb ∧ X.heap.size = xb + 1 ∧ Below xb w X) := ⟨hxb, hXs, hBX⟩
  have HRB : Hid (∀ W, Below (xb + 1) X W → ∀ j, j < 2 → W.cell? ⟨xb, j, none⟩ = some (.int .i64 0) ∧ W.frozen? ⟨xb, j, none⟩ = false) := fun W hB j hj => by
    have hj2 : j = 0 ∨ j = 1 := by omega
    refine ⟨?_, (hB.frozen (p := ⟨xb, j, none⟩) (Nat.lt_succ_self _)).trans (hff j)⟩
    rcases hj2 with rfl | rfl
    · exact (hB.cell (p := ⟨xb, 0, none⟩) (Nat.lt_succ_self _)).trans hfc.1
    · exact (hB.cell (p := ⟨xb, 1, none⟩) (Nat.lt_succ_self _)).trans hfc.2
  have HPW : Hid (∀ W i, Below (xb + 1) X W → ∀ hi : i < ps.length, ∃ g0 o0, ap = some ⟨g0, o0, none⟩ ∧ W.cell? ⟨g0, o0 + i * 2, none⟩ = some (.int .i64 ps[i].1) ∧ W.cell? ⟨g0, o0 + i * 2 + 1, none⟩ = some (.int .i64 ps[i].2)) := fun W i hB hi => by
    obtain ⟨g0, o0, e, -, hg0, hpc⟩ := HPR.out (by omega)
    have hB0 : Below xb w W := HXB.out.2.2.trans (hB.mono (by omega))
    exact ⟨g0, o0, e, (hB0.cell (p := ⟨g0, o0 + i * 2, none⟩) (by rw [hxb] at hg0; exact hg0)).trans (hpc i hi).1, (hB0.cell (p := ⟨g0, o0 + i * 2 + 1, none⟩) (by rw [hxb] at hg0; exact hg0)).trans (hpc i hi).2⟩
  have HUW : Hid (∀ (i k : Nat) (W : World), Below (xb + 1) X W → i < n → k < n → Calls Tryz.prog 36 #[.slice aL n cL, .int .i64 (i : Int), .int .i64 (k : Int)] W fun e w' => e = .returned (.bool (undL L i k)) ∧ ∃ q, w' = W.drewN q) := fun i k W hB hi hk => HUN.out i k W (by rw [hxb]; exact HXB.out.2.2.trans (hB.mono (by omega))) hi hk
  clear hX hxb hXs hBX hfc hff
  go_loopw [6, 7] (fun v p W => ∃ i : Nat, i ≤ n ∧ p = .int .i64 (i : Int) ∧ Hid (WithAt (xb + 1) W v i noMate ∧ Below (xb + 1) X W)) (fun _ p _ => n - (intOf p).toNat)
  case atStart => exact ⟨0, by omega, rfl, WithAt.nil, by have := Below.refl (xb + 1) X; exact this⟩
  case round =>
    obtain ⟨i, hi, rfl, HK⟩ := hrel
    obtain ⟨av, cv, rfl⟩ := own_slice HK.out.1
    by_cases hin : i < n
    · have own : wr.ownsRow (xb + 1) 3 1 (.slice av i cv) i ((List.range i).map fun j => .int .i64 (noMate j)) := HK.out.1
      have hsz := HK.out.2.size
      have hXs := HXB.out.2.1
      go_wp2_with (first
        | (at_builtin; refine wpList_append_slice rfl (.tmp 23) (.tmp 24) 29 rfl (xb + 1) 3 i0 (.int .i64 0) 8 Tryz.underlying29 hi0 hz0 hz1 hz2 rfl _ _ _ rfl (own.alloc _) _ [.int .i64 (-1)] rfl (slice_one _ _ _) (by simp [Value.oneCell']) (by simp; omega) (by unfold maxLen; simp; omega) (by simp; omega) ?_; intro v4 w4 hown4 hg4 hl4)
        | fail)
      go_roundw
      case rel =>
        refine ⟨i + 1, by omega, by go_num, ?_, ?_⟩
        · unfold WithAt
          rw [List.range_succ, List.map_append]
          exact hown4
        · exact (HK.out.2.alloc (by omega) _).grown hg4 (by simp; omega) (fun b hb => (own.lt b hb).1)
      case measure => simp [intOf]; omega
    · obtain rfl : i = n := by omega
      have HV : Hid (WithAt (xb + 1) wr (.slice av i cv) i noMate ∧ Below (xb + 1) X wr) := HK.out
      clear HK
      go_wp2_with fail
      go_loopw [8] (fun p W => ∃ k : Nat, k ≤ m ∧ p = .int .i64 (k : Int) ∧ Hid (joinsL L (ps.take k) ∧ WithAt (xb + 1) W (.slice av i cv) i (matesL (ps.take k)) ∧ Below (xb + 1) X W)) (fun p _ => m - (intOf p).toNat)
      case atStart => exact ⟨0, by omega, rfl, trivial, HV.out.1, HV.out.2⟩
      case round =>
        obtain ⟨k, hk, rfl, HJ⟩ := hrel
        by_cases hkm : k < m
        · have hkp : k < ps.length := by rw [HNM.out.2]; exact hkm
          obtain ⟨g0, o0, rfl, x0, x1⟩ := HPW.out wr k HJ.out.2.2 hkp
          obtain ⟨pa, hpa⟩ : ∃ pa, ps[k].1 = pa := ⟨_, rfl⟩
          obtain ⟨pq, hpq⟩ : ∃ pq, ps[k].2 = pq := ⟨_, rfl⟩
          have HPQ : Hid (ps[k] = (pa, pq)) := Prod.ext hpa hpq
          rw [hpa] at x0
          rw [hpq] at x1
          have z2 : (k : Int) < (m : Int) := by omega
          clear hpa hpq
          by_cases hra : 0 ≤ pa ∧ pa < (i : Int)
          · by_cases hrq : 0 ≤ pq ∧ pq < (i : Int)
            · obtain ⟨x, rfl⟩ : ∃ x : Nat, pa = (x : Int) := ⟨pa.toNat, by omega⟩
              obtain ⟨y, rfl⟩ : ∃ y : Nat, pq = (y : Int) := ⟨pq.toNat, by omega⟩
              have hxi : x < i := by omega
              have hyi : y < i := by omega
              obtain ⟨g, cap, e, hgb, hgl, hgc, hgf, hset⟩ := HJ.out.2.1.open_ (by omega)
              cases e
              have m0 := hgc x hxi
              have m1 := hgc y hyi
              have m2 := hgf x
              have m3 := hgf y
              have hun := HUW.out x y wr HJ.out.2.2 hxi hyi
              obtain ⟨ma, hma⟩ : ∃ ma, matesL (ps.take k) x = ma := ⟨_, rfl⟩
              obtain ⟨mq, hmq⟩ : ∃ mq, matesL (ps.take k) y = mq := ⟨_, rfl⟩
              obtain ⟨un, hunq⟩ : ∃ un, undL L x y = un := ⟨_, rfl⟩
              have HMM : Hid (matesL (ps.take k) x = ma ∧ matesL (ps.take k) y = mq ∧ undL L x y = un) := ⟨hma, hmq, hunq⟩
              have hmin : MateInv L.length (undL L) (ps.take k) (matesL (ps.take k)) := inv_of HUL.out HJ.out.1
              have hn1 : ma = -1 ∨ 0 ≤ ma := by rw [← hma]; exact mate_nonneg hmin x
              have hn2 : mq = -1 ∨ 0 ≤ mq := by rw [← hmq]; exact mate_nonneg hmin y
              have HST : Hid (∀ j z, j < i → WithAt (xb + 1) (wr.setCell ⟨g, j, none⟩ (.int .i64 z)) (.slice (some ⟨g, 0, none⟩) i cv) i (fun q => if q = j then z else matesL (ps.take k) q)) := fun j z hj => hset j z hj
              have HGB : Hid (xb + 1 ≤ g) := hgb
              rw [hma] at m0
              rw [hmq] at m1
              rw [hunq] at hun
              clear hma hmq hunq hmin hgc hgf hset hra hrq hgb hgl
              have key : (un = true ∧ ma = -1 ∧ mq = -1) ∨ (un = false) ∨ (un = true ∧ 0 ≤ ma) ∨ (un = true ∧ ma = -1 ∧ 0 ≤ mq) := by
                cases un
                · exact .inr (.inl rfl)
                · rcases hn1 with h1 | h1
                  · rcases hn2 with h2 | h2
                    · exact .inl ⟨rfl, h1, h2⟩
                    · exact .inr (.inr (.inr ⟨rfl, h1, h2⟩))
                  · exact .inr (.inr (.inl ⟨rfl, h1⟩))
              have hcan : (un = true ∧ ma = -1 ∧ mq = -1) ∨ ¬ canJ L (matesL (ps.take k)) ps[k].1 ps[k].2 := by
                by_cases h9 : un = true ∧ ma = -1 ∧ mq = -1
                · exact .inl h9
                · refine .inr fun hc => h9 ?_
                  rw [HPQ.out] at hc
                  obtain ⟨a', b', e, h1, h2, h3, h4, h5⟩ := hc
                  have e1 : x = a' := by have := congrArg Prod.fst e; simp only at this; omega
                  have e2 : y = b' := by have := congrArg Prod.snd e; simp only at this; omega
                  subst e1; subst e2
                  exact ⟨by rw [← HMM.out.2.2]; exact h3, by rw [← HMM.out.1]; exact h4, by rw [← HMM.out.2.1]; exact h5⟩
              have HCN := Hid.mk' hcan
              clear hcan hn1 hn2
              have hunb : Calls Tryz.prog 36 #[.slice aL i cL, .int .i64 (x : Int), .int .i64 (y : Int)] wr fun e w' => e = .returned (.bool un) ∧ Below wr.heap.size wr w' := hun.mono fun e w' h => by
                obtain ⟨h1, q, rfl⟩ := h
                exact ⟨h1, rfl, rfl, rfl, Nat.le_refl _, fun _ _ => rfl⟩
              clear hun
              have hglt : g < wr.heap.size := cell_lt m0
              rcases key with ⟨rfl, rfl, rfl⟩ | rfl | ⟨rfl, hge⟩ | ⟨rfl, rfl, hge⟩
              · have hxy := HUL.out x y HMM.out.2.2
                clear HCN
                go_wp2_with (first
                  | (go_at_call 36; refine hunb.mono ?_; clear hunb; rintro e V ⟨rfl, hV⟩; have HVB : Hid (Below wr.heap.size wr V) := hV; have m0 := (hV.cell (p := ⟨g, x, none⟩) hglt).trans m0; have m1 := (hV.cell (p := ⟨g, y, none⟩) hglt).trans m1; have m2 := (hV.frozen (p := ⟨g, x, none⟩) hglt).trans m2; have m3 := (hV.frozen (p := ⟨g, y, none⟩) hglt).trans m3; have m4 : (V.setCell ⟨g, x, none⟩ (.int .i64 (y : Int))).cell? ⟨g, y, none⟩ = some (.int .i64 (-1)) := (World.cell?_setCell_other V _ _ _ (addr_ne (.inr (by omega)))).trans m1; clear hV)
                  | fail)
                go_roundw
                case rel =>
                  have hkp : k < ps.length := by rw [HNM.out.2]; exact hkm
                  have hW1 := (HJ.out.2.1.below HVB.out).open_ (show 0 < i by omega)
                  obtain ⟨g', cap', e', -, -, -, -, hset1⟩ := hW1
                  cases e'
                  have hW2 := (hset1 x (y : Int) hxi).open_ (show 0 < i by omega)
                  obtain ⟨g', cap', e', -, -, -, -, hset2⟩ := hW2
                  cases e'
                  refine ⟨k + 1, by omega, by go_num, ?_, ?_, ?_⟩
                  · rw [take_at hkp]
                    exact joins_snoc.2 ⟨HJ.out.1, by rw [HPQ.out, HNM.out.1]; exact ⟨x, y, rfl, hxi, hyi, HMM.out.2.2, HMM.out.1, HMM.out.2.1⟩⟩
                  · rw [take_at hkp, show matesL (ps.take k ++ [ps[k]]) = joinP (matesL (ps.take k)) ps[k] from mates_snoc, HPQ.out]
                    exact hset2 y (x : Int) hyi
                  · exact ((HJ.out.2.2.trans (HVB.out.mono (by have := HJ.out.2.2.size; rw [HXB.out.2.1] at this; exact this))).setCell (p := ⟨g, x, none⟩) HGB.out _).setCell (p := ⟨g, y, none⟩) HGB.out _
                case measure => simp [intOf]; omega
              · have hno := HCN.out.resolve_left (fun h => by cases h.1)
                go_wp2_with (first
                  | (go_at_call 36; refine hunb.mono ?_; clear hunb; rintro e V ⟨rfl, hV⟩; have hBV : Below (xb + 1) X V := HJ.out.2.2.trans (hV.mono (by have := HJ.out.2.2.size; rw [HXB.out.2.1] at this; exact this)); have HBV := Hid.mk' hBV; have m0 := (hV.cell (p := ⟨g, x, none⟩) hglt).trans m0; have m1 := (hV.cell (p := ⟨g, y, none⟩) hglt).trans m1; obtain ⟨r0, f0⟩ := HRB.out V hBV 0 (by omega); obtain ⟨r1, f1⟩ := HRB.out V hBV 1 (by omega); clear hV hBV)
                  | fail)
                have hput := two_put (W := V) (B := xb) (.int .i64 4) (.int .i64 (k : Int)) (fun j hj => by rw [(HRB.out V HBV.out j hj).1]; rfl)
                have s0 := hput.1
                have s1 := hput.2
                refine bodyPost_ret (v := .tuple #[.slice none 0 0, noFault 4 (k : Int)]) ?_ rfl ?_
                · simp [results, Tryz.f10, go_sem, s0, s1, noFault]
                · unfold PartSays
                  rw [HXB.out.1]
                  exact ⟨((HXB.out.2.2.trans (HBV.out.mono (by omega))).setCell (p := ⟨xb, 0, none⟩) (Nat.le_refl _) _).setCell (p := ⟨xb, 1, none⟩) (Nat.le_refl _) _, .inl ⟨k, by rw [HNM.out.2]; exact hkm, HJ.out.1, hno, rfl⟩⟩
              · have hno := HCN.out.resolve_left (fun h => by omega)
                have hgd : decide ((0 : Int) ≤ ma) = true := decide_eq_true hge
                clear hge
                go_wp2_with (first
                  | (go_at_call 36; refine hunb.mono ?_; clear hunb; rintro e V ⟨rfl, hV⟩; have hBV : Below (xb + 1) X V := HJ.out.2.2.trans (hV.mono (by have := HJ.out.2.2.size; rw [HXB.out.2.1] at this; exact this)); have HBV := Hid.mk' hBV; have m0 := (hV.cell (p := ⟨g, x, none⟩) hglt).trans m0; have m1 := (hV.cell (p := ⟨g, y, none⟩) hglt).trans m1; obtain ⟨r0, f0⟩ := HRB.out V hBV 0 (by omega); obtain ⟨r1, f1⟩ := HRB.out V hBV 1 (by omega); clear hV hBV)
                  | fail)
                have hput := two_put (W := V) (B := xb) (.int .i64 4) (.int .i64 (k : Int)) (fun j hj => by rw [(HRB.out V HBV.out j hj).1]; rfl)
                have s0 := hput.1
                have s1 := hput.2
                refine bodyPost_ret (v := .tuple #[.slice none 0 0, noFault 4 (k : Int)]) ?_ rfl ?_
                · simp [results, Tryz.f10, go_sem, s0, s1, noFault]
                · unfold PartSays
                  rw [HXB.out.1]
                  exact ⟨((HXB.out.2.2.trans (HBV.out.mono (by omega))).setCell (p := ⟨xb, 0, none⟩) (Nat.le_refl _) _).setCell (p := ⟨xb, 1, none⟩) (Nat.le_refl _) _, .inl ⟨k, by rw [HNM.out.2]; exact hkm, HJ.out.1, hno, rfl⟩⟩
              · have hno := HCN.out.resolve_left (fun h => by omega)
                have hgd : decide ((0 : Int) ≤ mq) = true := decide_eq_true hge
                clear hge
                go_wp2_with (first
                  | (go_at_call 36; refine hunb.mono ?_; clear hunb; rintro e V ⟨rfl, hV⟩; have hBV : Below (xb + 1) X V := HJ.out.2.2.trans (hV.mono (by have := HJ.out.2.2.size; rw [HXB.out.2.1] at this; exact this)); have HBV := Hid.mk' hBV; have m0 := (hV.cell (p := ⟨g, x, none⟩) hglt).trans m0; have m1 := (hV.cell (p := ⟨g, y, none⟩) hglt).trans m1; obtain ⟨r0, f0⟩ := HRB.out V hBV 0 (by omega); obtain ⟨r1, f1⟩ := HRB.out V hBV 1 (by omega); clear hV hBV)
                  | fail)
                have hput := two_put (W := V) (B := xb) (.int .i64 4) (.int .i64 (k : Int)) (fun j hj => by rw [(HRB.out V HBV.out j hj).1]; rfl)
                have s0 := hput.1
                have s1 := hput.2
                refine bodyPost_ret (v := .tuple #[.slice none 0 0, noFault 4 (k : Int)]) ?_ rfl ?_
                · simp [results, Tryz.f10, go_sem, s0, s1, noFault]
                · unfold PartSays
                  rw [HXB.out.1]
                  exact ⟨((HXB.out.2.2.trans (HBV.out.mono (by omega))).setCell (p := ⟨xb, 0, none⟩) (Nat.le_refl _) _).setCell (p := ⟨xb, 1, none⟩) (Nat.le_refl _) _, .inl ⟨k, by rw [HNM.out.2]; exact hkm, HJ.out.1, hno, rfl⟩⟩
            · skip
              have HNO : Hid (¬ canJ L (matesL (ps.take k)) ps[k].1 ps[k].2) := by
                show ¬ _
                rw [HPQ.out]
                rintro ⟨a', b', e, h1, h2, -⟩
                have e1 := congrArg Prod.fst e
                have e2 := congrArg Prod.snd e
                simp only at e1 e2
                rw [HNM.out.1] at h1 h2
                omega
              obtain ⟨r0, f0⟩ := HRB.out wr HJ.out.2.2 0 (by omega)
              obtain ⟨r1, f1⟩ := HRB.out wr HJ.out.2.2 1 (by omega)
              have d1 : decide (pa < 0) = false := decide_eq_false (by omega)
              have d2 : decide ((i : Int) ≤ pa) = false := decide_eq_false (by omega)
              by_cases h3 : pq < 0
              · have d3 : decide (pq < 0) = true := decide_eq_true h3
                clear hra hrq h3
                go_wp2_with fail
                have hput := two_put (W := wr) (B := xb) (.int .i64 4) (.int .i64 (k : Int)) (fun j hj => by rw [(HRB.out wr HJ.out.2.2 j hj).1]; rfl)
                have s0 := hput.1
                have s1 := hput.2
                refine bodyPost_ret (v := .tuple #[.slice none 0 0, noFault 4 (k : Int)]) ?_ rfl ?_
                · simp [results, Tryz.f10, go_sem, s0, s1, noFault]
                · unfold PartSays
                  rw [HXB.out.1]
                  exact ⟨((HXB.out.2.2.trans (HJ.out.2.2.mono (by omega))).setCell (p := ⟨xb, 0, none⟩) (Nat.le_refl _) _).setCell (p := ⟨xb, 1, none⟩) (Nat.le_refl _) _, .inl ⟨k, by rw [HNM.out.2]; exact hkm, HJ.out.1, HNO.out, rfl⟩⟩
              · have d3 : decide (pq < 0) = false := decide_eq_false h3
                have d4 : decide ((i : Int) ≤ pq) = true := decide_eq_true (by omega)
                clear hra hrq h3
                go_wp2_with fail
                have hput := two_put (W := wr) (B := xb) (.int .i64 4) (.int .i64 (k : Int)) (fun j hj => by rw [(HRB.out wr HJ.out.2.2 j hj).1]; rfl)
                have s0 := hput.1
                have s1 := hput.2
                refine bodyPost_ret (v := .tuple #[.slice none 0 0, noFault 4 (k : Int)]) ?_ rfl ?_
                · simp [results, Tryz.f10, go_sem, s0, s1, noFault]
                · unfold PartSays
                  rw [HXB.out.1]
                  exact ⟨((HXB.out.2.2.trans (HJ.out.2.2.mono (by omega))).setCell (p := ⟨xb, 0, none⟩) (Nat.le_refl _) _).setCell (p := ⟨xb, 1, none⟩) (Nat.le_refl _) _, .inl ⟨k, by rw [HNM.out.2]; exact hkm, HJ.out.1, HNO.out, rfl⟩⟩
          · skip
            have HNO : Hid (¬ canJ L (matesL (ps.take k)) ps[k].1 ps[k].2) := by
              show ¬ _
              rw [HPQ.out]
              rintro ⟨a', b', e, h1, h2, -⟩
              have e1 := congrArg Prod.fst e
              have e2 := congrArg Prod.snd e
              simp only at e1 e2
              rw [HNM.out.1] at h1 h2
              omega
            obtain ⟨r0, f0⟩ := HRB.out wr HJ.out.2.2 0 (by omega)
            obtain ⟨r1, f1⟩ := HRB.out wr HJ.out.2.2 1 (by omega)
            by_cases h3 : pa < 0
            · have d3 : decide (pa < 0) = true := decide_eq_true h3
              clear hra h3
              go_wp2_with fail
              have hput := two_put (W := wr) (B := xb) (.int .i64 4) (.int .i64 (k : Int)) (fun j hj => by rw [(HRB.out wr HJ.out.2.2 j hj).1]; rfl)
              have s0 := hput.1
              have s1 := hput.2
              refine bodyPost_ret (v := .tuple #[.slice none 0 0, noFault 4 (k : Int)]) ?_ rfl ?_
              · simp [results, Tryz.f10, go_sem, s0, s1, noFault]
              · unfold PartSays
                rw [HXB.out.1]
                exact ⟨((HXB.out.2.2.trans (HJ.out.2.2.mono (by omega))).setCell (p := ⟨xb, 0, none⟩) (Nat.le_refl _) _).setCell (p := ⟨xb, 1, none⟩) (Nat.le_refl _) _, .inl ⟨k, by rw [HNM.out.2]; exact hkm, HJ.out.1, HNO.out, rfl⟩⟩
            · have d3 : decide (pa < 0) = false := decide_eq_false h3
              have d4 : decide ((i : Int) ≤ pa) = true := decide_eq_true (by omega)
              clear hra h3
              go_wp2_with fail
              have hput := two_put (W := wr) (B := xb) (.int .i64 4) (.int .i64 (k : Int)) (fun j hj => by rw [(HRB.out wr HJ.out.2.2 j hj).1]; rfl)
              have s0 := hput.1
              have s1 := hput.2
              refine bodyPost_ret (v := .tuple #[.slice none 0 0, noFault 4 (k : Int)]) ?_ rfl ?_
              · simp [results, Tryz.f10, go_sem, s0, s1, noFault]
              · unfold PartSays
                rw [HXB.out.1]
                exact ⟨((HXB.out.2.2.trans (HJ.out.2.2.mono (by omega))).setCell (p := ⟨xb, 0, none⟩) (Nat.le_refl _) _).setCell (p := ⟨xb, 1, none⟩) (Nat.le_refl _) _, .inl ⟨k, by rw [HNM.out.2]; exact hkm, HJ.out.1, HNO.out, rfl⟩⟩
        · have hkn : k = m := by omega
          subst hkn
          have htk : ps.take k = ps := List.take_of_length_le (by rw [HNM.out.2]; exact Nat.le_refl _)
          rw [htk] at HJ
          have HMI : Hid (MateInv L.length (undL L) ps (matesL ps)) := inv_of HUL.out HJ.out.1
          have hmkb := run_make_row' (P := Tryz.prog) 76 4 (.bool false) 1 Tryz.underlying76 Tryz.infob rfl .i64 .i64 k (by omega) (by omega)
          go_upto_region 18 with fail
          obtain ⟨gb, hgb⟩ : ∃ gb, wr.heap.size = gb := ⟨_, rfl⟩
          have hrow := World.rowIs_made wr (.bool false) k 4
          have hBZ : Below wr.heap.size wr (wr.alloc (.cells (madeCells #[.bool false] k) 4)) := (Below.refl _ wr).alloc (Nat.le_refl _) _
          obtain ⟨Z, hZ⟩ : ∃ Z, wr.alloc (.cells (madeCells #[.bool false] k) 4) = Z := ⟨_, rfl⟩
          have hZs : Z.heap.size = gb + 1 := by rw [← hZ, ← hgb]; simp
          rw [hZ] at hrow hBZ
          rw [hgb] at hrow hBZ
          try rw [hZ]
          try rw [hgb]
          have hxg : xb + 1 ≤ gb := by have := HJ.out.2.2.size; rw [HXB.out.2.1, hgb] at this; exact this
          have hWlt : ∀ b, Value.ownBlock (.slice av i cv) = some b → b < gb := fun b e => by have := (World.ownsRow.lt HJ.out.2.1 b e).2; omega
          have HZ : Hid (Z.rowIs gb 4 k (fun _ => .bool false) ∧ Below (xb + 1) X Z ∧ xb + 1 ≤ gb ∧ gb < Z.heap.size ∧ WithAt (xb + 1) Z (.slice av i cv) i (matesL ps)) := ⟨hrow, HJ.out.2.2.trans (hBZ.mono hxg), hxg, by omega, by
            have h1 : Below wr.heap.size wr Z := by rw [hgb]; exact hBZ
            exact HJ.out.2.1.below h1⟩
          have HZB : Hid (∀ W, KeepBut Z W gb gb → Below (xb + 1) X W ∧ WithAt (xb + 1) W (.slice av i cv) i (matesL ps)) := fun W hK => by
            have h1 := HZ.out.2.1
            refine ⟨⟨hK.os.trans h1.os, hK.tape.trans h1.tape, hK.output.trans h1.output, Nat.le_trans h1.size hK.size, fun b hb => (hK.block b (by have := h1.size; rw [HXB.out.2.1] at this; omega) (by omega) (by omega)).trans (h1.block b hb)⟩, ?_⟩
            exact World.ownsRow.kept HZ.out.2.2.2.2 (row := some gb) ⟨hK.os, hK.tape, hK.output, hK.size, fun b hb hne => hK.block b hb (fun e => hne (by rw [e])) (fun e => hne (by rw [e]))⟩ (.inr fun e => by have := hWlt gb e; omega)
          have HPS : Hid (∀ x, x < k → ∃ a b : Nat, ps[x]? = some ((a : Int), (b : Int)) ∧ a < i ∧ b < i) := fun x hx => by
            have hxp : x < ps.length := by rw [HNM.out.2]; exact hx
            obtain ⟨a, b, e, h1, h2, _⟩ := HMI.out.ok x ps[x] (List.getElem?_eq_getElem hxp)
            exact ⟨a, b, by rw [List.getElem?_eq_getElem hxp, e], by rw [← HNM.out.1]; exact h1, by rw [← HNM.out.1]; exact h2⟩
          clear hZ hgb hrow hBZ hZs hxg hWlt htk
          go_wp2_with fail
          go_loopw [12, 13] (fun c p W => ∃ (gone : Nat → Bool) (ag : Bool), p = .bool ag ∧ c = .int .i64 ((goneN gone k : Nat) : Int) ∧ Hid (W.rowIs gb 4 k (fun j => .bool (gone j)) ∧ GoneDown (OnP (undL L) ps) gone k ∧ KeepBut Z W gb gb ∧ (ag = false → PassAt (OnP (undL L) ps) k (goneN gone k) k gone false))) (fun c p _ => 2 * (k - (intOf c).toNat) + (match p with | .bool true => 1 | _ => 0))
          case atStart => exact ⟨fun _ => false, true, rfl, by rw [goneN_none]; rfl, HZ.out.1, gone_none _ _, KeepBut.refl _ _ _, fun e => by cases e⟩
          case round =>
            obtain ⟨gone, ag, rfl, rfl, HG⟩ := hrel
            obtain ⟨c0, hc0⟩ : ∃ c0, goneN gone k = c0 := ⟨_, rfl⟩
            have hc0k : c0 ≤ k := by rw [← hc0]; exact goneN_le _ _
            have HC0 : Hid (goneN gone k = c0) := hc0
            rw [hc0]
            clear hc0
            cases ag with
            | true =>
              go_wp2_with fail
              go_loopw [12, 13, 14] (fun c p q W => ∃ (gone : Nat → Bool) (ag : Bool) (x : Nat), x ≤ k ∧ q = .int .i64 (x : Int) ∧ p = .bool ag ∧ c = .int .i64 ((goneN gone k : Nat) : Int) ∧ Hid (W.rowIs gb 4 k (fun j => .bool (gone j)) ∧ KeepBut Z W gb gb ∧ PassAt (OnP (undL L) ps) k c0 x gone ag)) (fun _ _ q _ => k - (intOf q).toNat)
              case atStart => exact ⟨gone, false, 0, by omega, rfl, rfl, by rw [HC0.out], HG.out.1, HG.out.2.2.1, by have h := pass_begin HG.out.2.1; rw [HC0.out] at h; exact h⟩
              case round =>
                obtain ⟨gone, ag, x, hx, rfl, rfl, rfl, HQ⟩ := hrel
                obtain ⟨c1, hc1⟩ : ∃ c1, goneN gone k = c1 := ⟨_, rfl⟩
                have hc1k : c1 ≤ k := by rw [← hc1]; exact goneN_le _ _
                have HC1 : Hid (goneN gone k = c1) := hc1
                rw [hc1]
                clear hc1
                by_cases hxk : x < k
                · have gx := HQ.out.1.cell (i := x) hxk
                  have gxf := HQ.out.1.frozen x
                  have z4 : (x : Int) < (k : Int) := by omega
                  cases hgx : gone x with
                  | true =>
                    rw [hgx] at gx
                    have HPG := Hid.mk' (pass_gone HQ.out.2.2 hgx)
                    clear hgx
                    go_wp2_with fail
                    go_roundw
                    case rel => exact ⟨gone, ag, x + 1, by omega, by go_num, rfl, by rw [HC1.out], HQ.out.1, HQ.out.2.1, HPG.out⟩
                    case measure => simp [intOf]; omega
                  | false =>
                    rw [hgx] at gx
                    have HGX : Hid (gone x = false) := hgx
                    clear hgx
                    go_wp2_with fail
                    go_loopw [15, 16] (fun o q W => ∃ (on : Bool) (y : Nat), y ≤ k ∧ q = .int .i64 (y : Int) ∧ o = .bool on ∧ Hid (W.rowIs gb 4 k (fun j => .bool (gone j)) ∧ KeepBut Z W gb gb ∧ (on = true → ∃ z, z < k ∧ gone z = false ∧ OnP (undL L) ps x z) ∧ (on = false → ∀ z, z < y → gone z = false → ¬ OnP (undL L) ps x z))) (fun _ q _ => k - (intOf q).toNat)
                    case atStart => exact ⟨false, 0, by omega, rfl, rfl, HQ.out.1, HQ.out.2.1, (fun e => by cases e), fun _ z hz => by omega⟩
                    case round =>
                      obtain ⟨on, y, hy, rfl, rfl, HN⟩ := hrel
                      by_cases hyk : y < k
                      · have hBW := (HZB.out wr HN.out.2.1).1
                        obtain ⟨a, b, hpy, hai, hbi⟩ := HPS.out y hyk
                        obtain ⟨a', b', hpx, hai', hbi'⟩ := HPS.out x hxk
                        have hyp : y < ps.length := by rw [HNM.out.2]; exact hyk
                        have hxp : x < ps.length := by rw [HNM.out.2]; exact hxk
                        obtain ⟨g0, o0, e0, u0, u1⟩ := HPW.out wr y hBW hyp
                        obtain ⟨g1, o1, e1, u2, u3⟩ := HPW.out wr x hBW hxp
                        rw [e0] at e1
                        cases e1
                        subst e0
                        have ey : ps[y] = ((a : Int), (b : Int)) := by rw [List.getElem?_eq_getElem hyp] at hpy; exact Option.some.inj hpy
                        have ex : ps[x] = ((a' : Int), (b' : Int)) := by rw [List.getElem?_eq_getElem hxp] at hpx; exact Option.some.inj hpx
                        rw [ey] at u0
                        rw [ex] at u3
                        have gy := HN.out.1.cell (i := y) hyk
                        have z5 : (y : Int) < (k : Int) := by omega
                        have HOP : Hid (OnP (undL L) ps x y ↔ (y ≠ x ∧ undL L a b' = true)) := by
                          constructor
                          · rintro ⟨h1, p, q, h2, h3, h4⟩
                            rw [hpx] at h2; rw [hpy] at h3
                            cases h2; cases h3
                            exact ⟨h1, by simpa using h4⟩
                          · rintro ⟨h1, h2⟩
                            exact ⟨h1, _, _, hpx, hpy, by simpa using h2⟩
                        have hun : ∀ q, Calls Tryz.prog 36 #[.slice aL i cL, .int .i64 (a : Int), .int .i64 (b' : Int)] (wr.drewN q) fun e w' => e = .returned (.bool (undL L a b')) ∧ ∃ q', w' = (wr.drewN q).drewN q' := fun q => HUW.out a b' (wr.drewN q) ⟨hBW.os, hBW.tape, hBW.output, hBW.size, hBW.block⟩ hai hbi'
                        obtain ⟨t, ht⟩ : ∃ t, undL L a b' = t := ⟨_, rfl⟩
                        rw [ht] at HOP hun
                        clear u1 u2 hpy hpx hyp hxp ey ex hai hbi hai' hbi' hBW ht
                        obtain ⟨gv, hgv⟩ : ∃ gv, gone y = gv := ⟨_, rfl⟩
                        rw [hgv] at gy
                        have HGV : Hid (gone y = gv) := hgv
                        clear hgv
                        have hno : ∀ (_ : ¬ OnP (undL L) ps x y ∨ gv = true) (_ : on = false), ∀ z, z < y + 1 → gone z = false → ¬ OnP (undL L) ps x z := fun h1 h2 z hz hz2 => by
                          rcases Nat.lt_or_ge z y with h | h
                          · exact HN.out.2.2.2 h2 z h hz2
                          · obtain rfl : z = y := by omega
                            rcases h1 with h1 | h1
                            · exact h1
                            · rw [HGV.out, h1] at hz2; cases hz2
                        have HNO := Hid.mk' hno
                        clear hno
                        cases on with
                        | true =>
                          clear hun
                          go_wp2_with fail
                          go_quiet (fail)
                          go_wp2_with fail
                          go_roundw
                          case rel => exact ⟨true, y + 1, by omega, by go_num, rfl, HN.out.1.of_block rfl, ⟨HN.out.2.1.os, HN.out.2.1.tape, HN.out.2.1.output, HN.out.2.1.size, HN.out.2.1.block⟩, (fun _ => HN.out.2.2.1 trivial), fun e => by cases e⟩
                          case measure => simp [intOf]; omega
                        | false =>
                          by_cases hyx : y = x
                          · subst hyx
                            have hb : ((y : Int) != (y : Int)) = false := by simp
                            have hno := HNO.out (.inl fun h => (HOP.out.1 h).1 rfl) rfl
                            have HNE := Hid.mk' hno
                            clear hun hno
                            go_wp2_with fail
                            go_quiet (fail)
                            go_wp2_with fail
                            go_roundw
                            case rel => exact ⟨false, y + 1, by omega, by go_num, rfl, HN.out.1.of_block rfl, ⟨HN.out.2.1.os, HN.out.2.1.tape, HN.out.2.1.output, HN.out.2.1.size, HN.out.2.1.block⟩, (fun e => by cases e), fun _ => HNE.out⟩
                            case measure => simp [intOf]; omega
                          · have hb : ((y : Int) != (x : Int)) = true := bne_iff_ne.2 (by omega)
                            cases gv with
                            | true =>
                              have HNE := Hid.mk' (HNO.out (.inr rfl) rfl)
                              clear hun hyx
                              go_wp2_with fail
                              go_quiet (fail)
                              go_wp2_with fail
                              go_roundw
                              case rel => exact ⟨false, y + 1, by omega, by go_num, rfl, HN.out.1.of_block rfl, ⟨HN.out.2.1.os, HN.out.2.1.tape, HN.out.2.1.output, HN.out.2.1.size, HN.out.2.1.block⟩, (fun e => by cases e), fun _ => HNE.out⟩
                              case measure => simp [intOf]; omega
                            | false =>
                              cases t with
                              | true =>
                                have HYE : Hid (∃ z, z < k ∧ gone z = false ∧ OnP (undL L) ps x z) := ⟨y, hyk, HGV.out, HOP.out.2 ⟨hyx, rfl⟩⟩
                                clear hyx
                                go_wp2_with fail
                                go_quiet ((go_at_call 36; exact Calls.quiet_of (hun _)))
                                go_wp2_with fail
                                go_roundw
                                case rel => exact ⟨true, y + 1, by omega, by go_num, rfl, HN.out.1.of_block rfl, ⟨HN.out.2.1.os, HN.out.2.1.tape, HN.out.2.1.output, HN.out.2.1.size, HN.out.2.1.block⟩, (fun _ => HYE.out), fun e => by cases e⟩
                                case measure => simp [intOf]; omega
                              | false =>
                                have HNE := Hid.mk' (HNO.out (.inl fun h => by have := (HOP.out.1 h).2; cases this) rfl)
                                clear hyx
                                go_wp2_with fail
                                go_quiet ((go_at_call 36; exact Calls.quiet_of (hun _)))
                                go_wp2_with fail
                                go_roundw
                                case rel => exact ⟨false, y + 1, by omega, by go_num, rfl, HN.out.1.of_block rfl, ⟨HN.out.2.1.os, HN.out.2.1.tape, HN.out.2.1.output, HN.out.2.1.size, HN.out.2.1.block⟩, (fun e => by cases e), fun _ => HNE.out⟩
                                case measure => simp [intOf]; omega
                      · have hyn : y = k := by omega
                        have gxc := HN.out.1.cell (i := x) hxk
                        have gxf2 := HN.out.1.frozen x
                        cases on with
                        | true =>
                          have HPO := Hid.mk' (pass_on HQ.out.2.2 (HN.out.2.2.1 rfl))
                          subst hyn
                          go_wp2_with fail
                          go_roundw
                          case rel => exact ⟨gone, ag, x + 1, by omega, by go_num, rfl, by rw [HC1.out], HN.out.1, HN.out.2.1, HPO.out⟩
                          case measure => simp [intOf]; omega
                        | false =>
                          have HPP := Hid.mk' (pass_put HQ.out.2.2 hxk HGX.out (on_self _ _ _) (by rw [← hyn]; exact HN.out.2.2.2 rfl))
                          have HCC : Hid (goneN (fun q => if q = x then true else gone q) k = c1 + 1) := by
                            show _ = _
                            rw [goneN_put HGX.out, if_pos hxk, HC1.out]
                          have HNX : Hid ((wr.setCell ⟨gb, x, none⟩ (.bool true)).rowIs gb 4 k (fun j => .bool (if j = x then true else gone j))) := (HN.out.1.set x (.bool true)).congr fun j _ => by split <;> rfl
                          subst hyn
                          go_wp2_with fail
                          go_roundw
                          case rel => exact ⟨_, true, x + 1, by omega, by go_num, rfl, by rw [HCC.out]; go_num, HNX.out, HN.out.2.1.on (grown_one wr ⟨gb, x, none⟩ _) (fun b e => by cases e; exact .inl rfl), HPP.out⟩
                          case measure => simp [intOf]; omega
                · have hxn : x = k := by omega
                  subst hxn
                  cases ag with
                  | true =>
                    have hmo := HQ.out.2.2.more rfl
                    rw [HC1.out] at hmo
                    go_wp2_with fail
                    go_roundw
                    case rel => exact ⟨gone, true, rfl, by rw [HC1.out], HQ.out.1, HQ.out.2.2.down, HQ.out.2.1, fun e => by cases e⟩
                    case measure => simp [intOf]; omega
                  | false =>
                    have HSM : Hid (c0 = c1 ∧ PassAt (OnP (undL L) ps) x (goneN gone x) x gone false) := by
                      have h := (HQ.out.2.2.same rfl).1
                      rw [HC1.out] at h
                      refine ⟨h, ?_⟩
                      have h2 := HQ.out.2.2
                      rw [h, ← HC1.out] at h2
                      exact h2
                    have hcc := HSM.out.1
                    go_wp2_with fail
                    go_roundw
                    case rel => exact ⟨gone, false, rfl, by rw [HC1.out], HQ.out.1, HQ.out.2.2.down, HQ.out.2.1, fun _ => HSM.out.2⟩
                    case measure => simp [intOf]; omega
            | false =>
              have hpe := pass_end (HG.out.2.2.2 rfl) (fun i j h => by have := on_lt h; rw [HNM.out.2] at this; exact this)
              have hBW := (HZB.out wr HG.out.2.2.1).1
              obtain ⟨r0, f0⟩ := HRB.out wr hBW 0 (by omega)
              obtain ⟨r1, f1⟩ := HRB.out wr hBW 1 (by omega)
              have HBW := Hid.mk' hBW
              rw [HC0.out] at hpe
              rcases hpe with ⟨hlt, hnr⟩ | ⟨heq, hrk⟩
              · have hci : (c0 : Int) < (k : Int) := by omega
                have HNR := Hid.mk' hnr
                have hput := two_put (W := wr) (B := xb) (.int .i64 7) (.int .i64 0) (fun j hj => by rw [(HRB.out wr HBW.out j hj).1]; rfl)
                have s0 := hput.1
                have s1 := hput.2
                clear hput hnr hBW
                go_wp2_with fail
                refine bodyPost_ret (v := .tuple #[.slice none 0 0, noFault 7 0]) ?_ rfl ?_
                · simp [results, Tryz.f10, go_sem, s0, s1, noFault]
                · unfold PartSays
                  rw [HXB.out.1]
                  exact ⟨((HXB.out.2.2.trans (HBW.out.mono (by omega))).setCell (p := ⟨xb, 0, none⟩) (Nat.le_refl _) _).setCell (p := ⟨xb, 1, none⟩) (Nat.le_refl _) _, .inr (.inl ⟨HJ.out.1, HNR.out, rfl⟩)⟩
              · subst heq
                have HRK := Hid.mk' hrk
                have hput := two_put (W := wr) (B := xb) (.int .i64 0) (.int .i64 (-1)) (fun j hj => by rw [(HRB.out wr HBW.out j hj).1]; rfl)
                have s0 := hput.1
                have s1 := hput.2
                have HWI := Hid.mk' (HZB.out wr HG.out.2.2.1).2
                clear hput hrk hBW
                go_wp2_with fail
                refine bodyPost_ret (v := .tuple #[.slice av i cv, noFault 0 (-1)]) ?_ rfl ?_
                · simp [results, Tryz.f10, go_sem, s0, s1, noFault]
                · unfold PartSays
                  rw [HXB.out.1, HNM.out.1]
                  have hB2 : Below xb wr ((wr.setCell ⟨xb, 0, none⟩ (.int .i64 0)).setCell ⟨xb, 1, none⟩ (.int .i64 (-1))) := ((Below.refl xb wr).setCell (p := ⟨xb, 0, none⟩) (Nat.le_refl _) _).setCell (p := ⟨xb, 1, none⟩) (Nat.le_refl _) _
                  refine ⟨((HXB.out.2.2.trans (HBW.out.mono (by omega))).setCell (p := ⟨xb, 0, none⟩) (Nat.le_refl _) _).setCell (p := ⟨xb, 1, none⟩) (Nat.le_refl _) _, .inr (.inr ⟨HJ.out.1, by rw [HNM.out.2]; exact HRK.out, _, rfl, ?_⟩)⟩
                  have h1 := World.ownsRow.kept HWI.out (w' := (wr.setCell ⟨xb, 0, none⟩ (.int .i64 0)).setCell ⟨xb, 1, none⟩ (.int .i64 (-1))) (row := some xb) ⟨hB2.os, hB2.tape, hB2.output, hB2.size, fun b _ hne => (Below.heap_setCell _ _ _ b (fun e => hne (by rw [e]))).trans (Below.heap_setCell _ _ _ b (fun e => hne (by rw [e])))⟩ (.inr fun e => by have := (World.ownsRow.lt HWI.out xb e).1; omega)
                  exact own_lower h1 (by omega)

end Go.Proofs.YtnnkmkhamipfiaaGreatDoor
